/-
  The text of a node and how long it can be: plain mathematics.
-/
import Derived.Test.YtmgieahachphmaaKids
namespace Go.Proofs.Ytmgieahachphmaa
set_option linter.unusedVariables false

/-- each node has a place behind all that is under it -/
theorem behind_ex {t : List Nd} {ps : List Txt} (h : Tells t t.length ps) {i : Nat} (hi : i < t.length) : ∃ b, Behind t ps i b := by
  obtain ⟨_, x, _, hx⟩ := h.at hi
  have key : ∀ (f k : Nat), t.length ≤ k + f → i < k → k ≤ t.length → (∀ (m : Nat) (z : Txt), i < m → m < k → ps[m]? = some z → x <+: z) → ∃ b, Behind t ps i b := by
    intro f
    induction f with
    | zero =>
      intro k hf hik hk ha
      refine ⟨k, hik, hk, fun x' hx' m z h1 h2 h3 => ?_, fun x' y' _ hy' => ?_⟩
      · rw [hx] at hx'
        rw [← Option.some.inj hx']
        exact ha m z h1 h2 h3
      · have := (List.getElem?_eq_some_iff.1 hy').1
        have := h.len
        omega
    | succ f ih =>
      intro k hf hik hk ha
      by_cases hkl : k < t.length
      · obtain ⟨_, y, _, hy⟩ := h.at hkl
        by_cases hp : x <+: y
        · refine ih (k + 1) (by omega) (by omega) (by omega) (fun m z h1 h2 h3 => ?_)
          by_cases e : m = k
          · subst e
            rw [hy] at h3
            rw [← Option.some.inj h3]
            exact hp
          · exact ha m z h1 (by omega) h3
        · refine ⟨k, hik, hk, fun x' hx' m z h1 h2 h3 => ?_, fun x' y' hx' hy' hh => ?_⟩
          · rw [hx] at hx'
            rw [← Option.some.inj hx']
            exact ha m z h1 h2 h3
          · rw [hx] at hx'
            rw [hy] at hy'
            rw [← Option.some.inj hx', ← Option.some.inj hy'] at hh
            exact hp hh
      · exact ih k (by omega) hik hk ha
  exact key t.length (i + 1) (by omega) (by omega) (by omega) (fun m z h1 h2 => by omega)

/-- the text of a node, with so much fuel -/
def txtOf (t : List Nd) : Nat → Nat → Txt
  | 0, _ => []
  | f + 1, i => match t[i]? with
    | none => []
    | some d => (if i = 0 then [] else [UInt8.ofNat (97 + d.l).toNat]) ++ (if d.e then [46] else []) ++
        (if (kidsTo t i t.length).length = 0 then [] else [40] ++ (kidsTo t i t.length).flatMap (txtOf t f) ++ [41])

/-- the texts of the kids among the first k nodes -/
def txtKids (t : List Nd) (f i k : Nat) : Txt := (kidsTo t i k).flatMap (txtOf t f)

theorem txtKids_low (t : List Nd) (f i : Nat) : txtKids t f i (i + 1) = [] := by simp [txtKids, kidsTo_low]

theorem txt_bound {t : List Nd} {ps : List Txt} (h : Tells t t.length ps) : ∀ (f i b : Nat), Behind t ps i b → (txtOf t f i).length ≤ 4 * (b - i)
  | 0, i, b, _ => by simp [txtOf]
  | f + 1, i, b, hb => by
    have hi : i < t.length := by have := hb.lt; have := hb.le; omega
    obtain ⟨d, x, hd, hx⟩ := h.at hi
    have hib := hb.lt
    -- the kids' texts, stretch by stretch
    have key : ∀ (g k : Nat), t.length ≤ k + g → i < k → k ≤ b → KidAt t ps i k → (txtKids t f i k).length ≤ 4 * (k - i - 1) → (txtKids t f i t.length).length ≤ 4 * (b - i - 1) := by
      intro g
      induction g with
      | zero =>
        intro k hg hik hkb _ hl
        have : k = t.length := by have := hb.le; omega
        rw [this] at hl
        have := hb.le
        omega
      | succ g ih =>
        intro k hg hik hkb hK hl
        by_cases hkl : k < t.length
        · obtain ⟨dk, y, hdk, hy⟩ := h.at hkl
          by_cases hp : dk.p = (i : Int)
          · obtain ⟨b2, hb2⟩ := behind_ex h hkl
            have hkb2 := hb2.lt
            obtain ⟨c, hyc⟩ := (par_iff h hx (by omega) hdk).1 hp
            have hb2b : b2 ≤ b := by
              by_cases hle : b2 ≤ b
              · exact hle
              · exfalso
                have hbl : b < t.length := by have := hb2.le; omega
                obtain ⟨_, z, _, hz⟩ := h.at hbl
                have hkb' : k ≠ b := by
                  rintro rfl
                  exact hb.stop x _ hx hyc (List.prefix_append _ _)
                have h1 := hb2.all _ hyc b z (by omega) (by omega) hz
                exact hb.stop x z hx hz ((List.prefix_append _ _).trans h1)
            have hkids : kidsTo t i b2 = kidsTo t i k ++ [k] := by
              rw [kidsTo_skip (k + 1) b2 (by omega) (fun m d h1 h2 h3 h4 => not_kid h hik hdk hp hb2 (by omega) h2 h3 h4.2), kidsTo_hit hdk hik hp]
            have hlen : (txtKids t f i b2).length ≤ 4 * (b2 - i - 1) := by
              have e : txtKids t f i b2 = txtKids t f i k ++ txtOf t f k := by
                unfold txtKids
                rw [hkids, List.flatMap_append]
                simp
              rw [e, List.length_append]
              have := txt_bound h f k b2 hb2
              omega
            exact ih b2 (by omega) (by omega) hb2b (kidAt_next h hik hdk hp hb2) hlen
          · have hsk : kidsTo t i t.length = kidsTo t i k := kidsTo_skip k t.length (by omega) (fun m d h1 h2 h3 h4 => no_more h hik hK hdk hp h1 h3 h4.2)
            have e : txtKids t f i t.length = txtKids t f i k := by unfold txtKids; rw [hsk]
            rw [e]
            omega
        · have e : k = t.length := by have := hb.le; omega
          rw [e] at hl
          have := hb.le
          omega
    have hk := key t.length (i + 1) (by omega) (by omega) (by omega) (kidAt_first h i) (by rw [txtKids_low]; simp)
    unfold txtKids at hk
    have hL1 : ((if i = 0 then [] else [UInt8.ofNat (97 + d.l).toNat] : Txt)).length ≤ 1 := by split <;> simp
    have hL2 : ((if d.e then [46] else [] : Txt)).length ≤ 1 := by split <;> simp
    have hL3 : ((if (kidsTo t i t.length).length = 0 then [] else [40] ++ (kidsTo t i t.length).flatMap (txtOf t f) ++ [41] : Txt)).length ≤ 4 * (b - i - 1) + 2 := by
      split
      · simp
      · simp only [List.length_append, List.length_cons, List.length_nil]
        omega
    have e : txtOf t (f + 1) i = ((if i = 0 then [] else [UInt8.ofNat (97 + d.l).toNat]) ++ (if d.e then [46] else []) ++
        (if (kidsTo t i t.length).length = 0 then [] else [40] ++ (kidsTo t i t.length).flatMap (txtOf t f) ++ [41])) := by
      simp only [txtOf, hd]
    rw [e]
    simp only [List.length_append] at hL1 hL2 hL3 ⊢
    omega

/-- what stands ahead of the kids' texts -/
def headOf (d : Nd) (i : Nat) : Txt := (if i = 0 then [] else [UInt8.ofNat (97 + d.l).toNat]) ++ (if d.e then [46] else [])

theorem txtOf_leaf {t : List Nd} {f i : Nat} {d : Nd} (hd : t[i]? = some d) (hk : kidsTo t i t.length = []) : txtOf t (f + 1) i = headOf d i := by
  simp [txtOf, hd, hk, headOf]
theorem txtOf_kids {t : List Nd} {f i : Nat} {d : Nd} (hd : t[i]? = some d) (hk : kidsTo t i t.length ≠ []) : txtOf t (f + 1) i = headOf d i ++ [40] ++ (kidsTo t i t.length).flatMap (txtOf t f) ++ [41] := by
  have h0 : ¬ (kidsTo t i t.length).length = 0 := fun h => hk (List.eq_nil_of_length_eq_zero h)
  simp [txtOf, hd, h0, headOf]

/-- the beginning of a text up to the k-th kid -/
def upTo (t : List Nd) (f i : Nat) (d : Nd) (k : Nat) : Txt := headOf d i ++ [40] ++ ((kidsTo t i t.length).take k).flatMap (txtOf t f)

theorem upTo_succ {t : List Nd} {f i k j : Nat} {d : Nd} (h : (kidsTo t i t.length)[k]? = some j) : upTo t f i d (k + 1) = upTo t f i d k ++ txtOf t f j := by
  obtain ⟨hk, e⟩ := List.getElem?_eq_some_iff.1 h
  unfold upTo
  rw [List.take_succ_eq_append_getElem hk, List.flatMap_append, e]
  simp
theorem upTo_all {t : List Nd} {f i k : Nat} {d : Nd} (hd : t[i]? = some d) (hk : kidsTo t i t.length ≠ []) (h : (kidsTo t i t.length).length ≤ k) : upTo t f i d k ++ [41] = txtOf t (f + 1) i := by
  rw [txtOf_kids hd hk]
  unfold upTo
  rw [List.take_of_length_le h]
theorem upTo_len {t : List Nd} {f i k : Nat} {d : Nd} (hd : t[i]? = some d) (hk : kidsTo t i t.length ≠ []) : (upTo t f i d k).length + 1 ≤ (txtOf t (f + 1) i).length := by
  rw [txtOf_kids hd hk]
  unfold upTo
  have e := List.take_append_drop k (kidsTo t i t.length)
  have : ((kidsTo t i t.length).flatMap (txtOf t f)).length = (((kidsTo t i t.length).take k).flatMap (txtOf t f)).length + (((kidsTo t i t.length).drop k).flatMap (txtOf t f)).length := by
    rw [← List.length_append, ← List.flatMap_append, e]
  simp only [List.length_append, List.length_cons, List.length_nil]
  omega

theorem txt_short {t : List Nd} {ps : List Txt} (h : Tells t t.length ps) (hn : t.length ≤ 481) {f i : Nat} (hi : i < t.length) : (txtOf t f i).length ≤ 2000 := by
  obtain ⟨b, hb⟩ := behind_ex h hi
  have := txt_bound h f i b hb
  have := hb.le
  omega

end Go.Proofs.Ytmgieahachphmaa
