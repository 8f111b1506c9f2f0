/-
  A checksummed text with one byte changed is no checksummed text.
-/
import Derived.Test.YtlkajncgbnkkgaaDoorRead
import Derived.Test.YtlkajncgbnkkgaaDoorSeal
namespace Go.Proofs.YtlkajncgbnkkgaaDoor
set_option linter.unusedVariables false

theorem ck_fold_inj : ∀ (R : List UInt8) (a b : Int), 0 ≤ a → a < 999979 → 0 ≤ b → b < 999979 →
    R.foldl (fun h c => (41 * h + (c.toNat : Int) + 1) % 999979) a = R.foldl (fun h c => (41 * h + (c.toNat : Int) + 1) % 999979) b → a = b
  | [], a, b, _, _, _, _, h => h
  | c :: R, a, b, h1, h2, h3, h4, h => by
    rw [List.foldl_cons, List.foldl_cons] at h
    have := ck_fold_inj R _ _ (by omega) (by omega) (by omega) (by omega) h
    omega

/-- two texts of one length that differ at one place have two checksums -/
theorem ck_apart (X H : List UInt8) (k : Nat) (hl : X.length = H.length) (hk : k < X.length) (ho : ∀ j, j ≠ k → X[j]? = H[j]?) (hd : X[k]? ≠ H[k]?) : ck.ck X ≠ ck.ck H := by
  have hk2 : k < H.length := by omega
  have ht : X.take k = H.take k := by
    apply List.ext_getElem?
    intro i
    rw [List.getElem?_take, List.getElem?_take]
    by_cases h : i < k
    · rw [if_pos h, if_pos h]; exact ho i (by omega)
    · rw [if_neg h, if_neg h]
  have hr : X.drop (k + 1) = H.drop (k + 1) := by
    apply List.ext_getElem?
    intro i
    rw [List.getElem?_drop, List.getElem?_drop]
    exact ho _ (by omega)
  have eX : X = X.take k ++ X[k] :: X.drop (k + 1) := by
    rw [← List.drop_eq_getElem_cons hk, List.take_append_drop]
  have eH : H = H.take k ++ H[k] :: H.drop (k + 1) := by
    rw [← List.drop_eq_getElem_cons hk2, List.take_append_drop]
  have hne : X[k] ≠ H[k] := by
    rw [List.getElem?_eq_getElem hk, List.getElem?_eq_getElem hk2] at hd
    exact fun e => hd (by rw [e])
  obtain ⟨x, hx⟩ : ∃ x, X[k] = x := ⟨_, rfl⟩
  obtain ⟨y, hy⟩ : ∃ y, H[k] = y := ⟨_, rfl⟩
  rw [hx] at eX hne
  rw [hy] at eH hne
  rw [ht, hr] at eX
  obtain ⟨T, hT⟩ : ∃ T, H.take k = T := ⟨_, rfl⟩
  obtain ⟨D, hD⟩ : ∃ D, H.drop (k + 1) = D := ⟨_, rfl⟩
  rw [hT, hD] at eX eH
  intro e
  rw [eX, eH] at e
  have h3 := ck.ck_bd T
  unfold ck.ck at e h3
  rw [List.foldl_append, List.foldl_append, List.foldl_cons, List.foldl_cons] at e
  have h1 := x.toNat_lt
  have h2 := y.toNat_lt
  obtain ⟨q, hq⟩ : ∃ q, List.foldl (fun (h : Int) (c : UInt8) => (41 * h + (c.toNat : Int) + 1) % 999979) 7 T = q := ⟨_, rfl⟩
  rw [hq] at e h3
  have h4 := ck_fold_inj D ((41 * q + (x.toNat : Int) + 1) % 999979) ((41 * q + (y.toNat : Int) + 1) % 999979) (by omega) (by omega) (by omega) (by omega) e
  apply hne
  apply UInt8.toNat_inj.1
  omega

/-- The decimal of a checksum as a list. -/
def dig (l : List UInt8) : List UInt8 := (numI (ck.ck l)).data.toList

theorem dig_free (l : List UInt8) : (35 : UInt8) ∉ dig l := by
  have h := ck.ck_bd l
  intro hm
  have e : dig l = Lib.decDigits (ck.ck l).toNat := by
    unfold dig
    rw [numI_pos h.1]
    unfold numS
    simp
  rw [e] at hm
  have := dec_dig _ _ hm
  unfold Dig at this
  simp at this

theorem dig_inj {l r : List UInt8} (h : dig l = dig r) : ck.ck l = ck.ck r := by
  have h1 := ck.ck_bd l
  have h2 := ck.ck_bd r
  apply numI_inj (by omega) (by omega) (by omega) (by omega)
  unfold dig at h
  apply ByteArray.ext
  apply Array.toList_inj.1
  exact h

/-- the sign stands at one place alone -/
theorem one_sign {X N : List UInt8} (hX : (35 : UInt8) ∉ X) (hN : (35 : UInt8) ∉ N) {j : Nat} (h : (X ++ 35 :: N)[j]? = some 35) : j = X.length := by
  rcases Nat.lt_trichotomy j X.length with hj | hj | hj
  · rw [List.getElem?_append_left hj] at h
    exact absurd (List.mem_of_getElem? h) hX
  · exact hj
  · rw [List.getElem?_append_right (by omega), show j - X.length = (j - X.length - 1) + 1 by omega, List.getElem?_cons_succ] at h
    exact absurd (List.mem_of_getElem? h) hN

theorem sign_at (X N : List UInt8) : (X ++ 35 :: N)[X.length]? = some 35 := by
  rw [List.getElem?_append_right (Nat.le_refl _), Nat.sub_self]
  rfl

theorem detect_list (X H : List UInt8) (k : Nat) (hX : (35 : UInt8) ∉ X) (hH : (35 : UInt8) ∉ H)
    (ho : ∀ j, j ≠ k → (X ++ 35 :: dig X)[j]? = (H ++ 35 :: dig H)[j]?) (hd : (X ++ 35 :: dig X)[k]? ≠ (H ++ 35 :: dig H)[k]?) : False := by
  have hl : X.length = H.length := by
    by_cases h1 : H.length = k
    · by_cases h2 : X.length = k
      · omega
      · have := ho X.length h2
        rw [sign_at] at this
        exact one_sign hH (dig_free H) this.symm
    · have := ho H.length h1
      rw [sign_at] at this
      exact (one_sign hX (dig_free X) this).symm
  have hk : k ≠ X.length := by
    rintro rfl
    rw [sign_at, hl, sign_at] at hd
    exact hd rfl
  have hleft : ∀ j, j < X.length → (X ++ 35 :: dig X)[j]? = X[j]? ∧ (H ++ 35 :: dig H)[j]? = H[j]? := fun j hj =>
    ⟨List.getElem?_append_left hj, List.getElem?_append_left (by omega)⟩
  rcases Nat.lt_or_gt_of_ne hk with h | h
  · have hn : dig X = dig H := by
      apply List.ext_getElem?
      intro i
      have := ho (X.length + 1 + i) (by omega)
      rw [List.getElem?_append_right (by omega), List.getElem?_append_right (by omega), ← hl, show X.length + 1 + i - X.length = i + 1 by omega, List.getElem?_cons_succ, List.getElem?_cons_succ] at this
      exact this
    rw [(hleft k h).1, (hleft k h).2] at hd
    refine ck_apart X H k hl h (fun j hj => ?_) hd (dig_inj hn)
    by_cases h2 : j < X.length
    · have := ho j hj
      rwa [(hleft j h2).1, (hleft j h2).2] at this
    · rw [List.getElem?_eq_none (by omega), List.getElem?_eq_none (by omega)]
  · have e : X = H := by
      apply List.ext_getElem?
      intro j
      by_cases h2 : j < X.length
      · have := ho j (by omega)
        rwa [(hleft j h2).1, (hleft j h2).2] at this
      · rw [List.getElem?_eq_none (by omega), List.getElem?_eq_none (by omega)]
    subst e
    exact hd rfl

theorem seal_list (s : ByteArray) : (sealS s).data.toList = s.data.toList ++ 35 :: dig s.data.toList := by
  unfold sealS dig
  simp

/-- A checksummed text in which one byte is another one is refused. -/
theorem detect (x y : ByteArray) (k : Nat) (hx : (35 : UInt8) ∉ x.data.toList) (ho : ∀ j, j ≠ k → y.data.toList[j]? = (sealS x).data.toList[j]?)
    (hd : y.data.toList[k]? ≠ (sealS x).data.toList[k]?) : verB y = false := by
  apply verB_no
  rintro ⟨_, h⟩
  have e : y.data.toList = (sealS (headS y)).data.toList := by rw [h]
  rw [e] at ho hd
  rw [seal_list, seal_list] at hd
  simp only [seal_list] at ho
  exact detect_list _ _ k hx (headS_free y) (fun j hj => (ho j hj).symm) (fun h2 => hd h2.symm)

/-- The text with its checksum is accepted. -/
theorem ver_seal {x : ByteArray} (hx : (35 : UInt8) ∉ x.data.toList) (hs : (sealS x).size ≤ 4000) : verS (sealS x) = x ∧ verB (sealS x) = true := by
  have e : headS (sealS x) = x := by
    have h1 : (sealS x).data.toList.takeWhile (fun b => b != 35) = (sealS x).data.toList.take x.data.toList.length := by
      apply takeWhile_at
      · rw [seal_list]; exact sign_at _ _
      · intro j hj h
        rw [seal_list] at h
        have := one_sign hx (dig_free _) h
        omega
    unfold headS
    rw [h1, seal_list, List.take_left]
  have h : (sealS x).size ≤ 4000 ∧ sealS (headS (sealS x)) = sealS x := ⟨hs, by rw [e]⟩
  exact ⟨by rw [verS_yes h, e], verB_yes h⟩

end Go.Proofs.YtlkajncgbnkkgaaDoor
