/-
  The node of a text: the reference's function.
-/
import Derived.Test.YthjafoacnfgjhacWords
import Derived.Test.YthjafoacnfgjhacBel
import Derived.IntWalk
namespace Go.Proofs.Ythjafoacnfgjhac.nod
open Go.RowKit
set_option linter.unusedVariables false

/-- a kid with a letter -/
def IsKid (t : List Nd) (i : Nat) (l : Int) (j : Nat) : Prop := i < j ∧ ∃ d, t[j]? = some d ∧ d.p = (i : Int) ∧ d.l = l

theorem isKid_at {t : List Nd} {ps : List Txt} (h : Tells t t.length ps) {i j : Nat} {x : Txt} {c : UInt8} (hi : ps[i]? = some x) (hk : IsKid t i ((c.toNat : Int) - 97) j) : ps[j]? = some (x ++ [c]) := by
  obtain ⟨hij, d, hd, h1, h2⟩ := hk
  exact (kid_iff h hi (by omega) hd).1 ⟨h1, h2⟩
theorem isKid_of {t : List Nd} {ps : List Txt} (h : Tells t t.length ps) {i j : Nat} {x : Txt} {c : UInt8} (hi : ps[i]? = some x) (hj : ps[j]? = some (x ++ [c])) : IsKid t i ((c.toNat : Int) - 97) j := by
  have hij : i < j := asc_pos h.asc hi hj (bef_longer x (by simp))
  have hjl : j < t.length := by have := h.len; have := (List.getElem?_eq_some_iff.1 hj).1; omega
  obtain ⟨d, _, hd, _⟩ := h.at hjl
  have := (kid_iff h hi (by omega) hd).2 hj
  exact ⟨hij, d, hd, this.1, this.2⟩

theorem tx_take {s : ByteArray} {k : Nat} (h : k < s.size) : (tx s).take (k + 1) = (tx s).take k ++ [s[k]] := by
  have h' : k < (tx s).length := by rw [tx_len]; exact h
  rw [List.take_succ_eq_append_getElem h']
  rfl


theorem pre_closedN {t : List Nd} {ps : List Txt} (hv : Valid t ps) {x y : Txt} (hx : x ∈ ps) (h : y <+: x) : y ∈ ps := by
  rcases (hv.pre.mem x).1 hx with e | ⟨w, hw, hp⟩
  · rw [e] at h
    rw [List.prefix_nil.1 h]
    exact at_mem hv.tells.nil
  · exact (hv.pre.mem y).2 (.inr ⟨w, hw, h.trans hp⟩)

def KidNum (t : List Nd) (i : Nat) (l : Int) (w : World) (e : Ending) (w' : World) : Prop :=
  ∃ r : Int, e = .returned (.int .i64 r) ∧ (r = -1 ∧ (∀ j', ¬ IsKid t i l j') ∨ ∃ j : Nat, r = (j : Int) ∧ IsKid t i l j) ∧ Below w.heap.size w w'

set_option maxHeartbeats 1000000 in
theorem l2Kid_any (B : Nat) (a : Option Addr) (n c i : Nat) (t : List Nd) (l : Int) (w : World) (hB : B ≤ w.heap.size) (h : Nds B w a n c t) (hn : n ≤ 1000) (hi : i < n) :
    Calls Try.prog 81 #[.agg #[.slice a n c], .int .i64 (i : Int), .int .i64 l] w (KidNum t i l w) := by
  have L := Lib.hid h.len
  have C := h.cap
  have T := h.top
  have HB1 : Hid (Below w.heap.size w (w.alloc (.cells #[.slice a n c] 38))) := Lib.hid ((Below.refl _ _).alloc (Nat.le_refl _) _)
  have H := Lib.hid (h.keep (HB1.out.mono hB))
  clear h hB
  go_enter Try.func81, Try.ntmps81
  go_wp2
  go_loop [7] (fun q => ∃ k : Nat, i < k ∧ k ≤ n ∧ q = .int .i64 k ∧ Hid (∀ j, j < k → ¬ IsKid t i l j)) (fun q => n - (intOf q).toNat)
  case atStart => exact ⟨i + 1, by omega, by omega, by go_num, Lib.hid (fun j h => by rintro ⟨h1, _⟩; omega)⟩
  case round =>
    obtain ⟨k, hik, hkn, rfl, HN⟩ := hrel
    by_cases hlt : k < n
    · obtain ⟨b, o, lk, pk, ek, rfl, hbB, hd, hl, hp, hc1, hc2, hc3⟩ := H.out.elem k hlt
      have HD := Lib.hid hd
      clear hd
      by_cases hpi : pk = (i : Int)
      · have hb1 : (pk == (i : Int)) = true := by simp [hpi]
        by_cases hll : lk = l
        · have hb2 : (lk == l) = true := by simp [hll]
          have HX : Hid (IsKid t i l k) := Lib.hid ⟨hik, _, HD.out, hpi, hll⟩
          clear hpi hll
          go_wp2
          go_ret
          exact ⟨(k : Int), rfl, .inr ⟨k, rfl, HX.out⟩, HB1.out⟩
        · have hb2 : (lk == l) = false := by simp [hll]
          have HN2 : Hid (∀ j, j < k + 1 → ¬ IsKid t i l j) := Lib.hid (fun j hj => by
            by_cases e : j = k
            · subst e
              rintro ⟨_, d, h1, _, h3⟩
              rw [HD.out] at h1
              rw [← Option.some.inj h1] at h3
              exact hll h3
            · exact HN.out j (by omega))
          clear hpi hll
          go_wp2
          go_round
          case rel => exact ⟨k + 1, by omega, by omega, by go_num, HN2⟩
          case measure => simp [intOf]; omega
      · have hb1 : (pk == (i : Int)) = false := by simp [hpi]
        have HN2 : Hid (∀ j, j < k + 1 → ¬ IsKid t i l j) := Lib.hid (fun j hj => by
          by_cases e : j = k
          · subst e
            rintro ⟨_, d, h1, h2, _⟩
            rw [HD.out] at h1
            rw [← Option.some.inj h1] at h2
            exact hpi h2
          · exact HN.out j (by omega))
        clear hpi
        go_wp2
        go_round
        case rel => exact ⟨k + 1, by omega, by omega, by go_num, HN2⟩
        case measure => simp [intOf]; omega
    · have HX : Hid (∀ j, ¬ IsKid t i l j) := Lib.hid (fun j hj => by
        have hj' := hj
        obtain ⟨_, d, h1, _⟩ := hj'
        exact HN.out j (by have := (List.getElem?_eq_some_iff.1 h1).1; have := L.out; omega) hj)
      go_wp2
      go_ret
      exact ⟨-1, rfl, .inl ⟨rfl, HX.out⟩, HB1.out⟩

/-- the reference's place of a text, or -1 -/
def NodeNum (ps : List Txt) (x : Txt) (w : World) (e : Ending) (w' : World) : Prop :=
  ∃ r : Int, e = .returned (.int .i64 r) ∧ (r = -1 ∧ x ∉ ps ∨ ∃ j : Nat, r = (j : Int) ∧ ps[j]? = some x) ∧ Below w.heap.size w w'

set_option maxHeartbeats 1000000 in
theorem l2Node_any (B : Nat) (a : Option Addr) (n c : Nat) (t : List Nd) (ps : List Txt) (s : ByteArray) (w : World) (hB : B ≤ w.heap.size) (h : Nds B w a n c t) (hv : Valid t ps) (hs : okW s = true) :
    Calls Try.prog 55 #[.agg #[.slice a n c], .string s] w (NodeNum ps (tx s) w) := by
  have L := Lib.hid h.len
  have hn : n ≤ 481 := by have := hv.size; have := h.len; omega
  have H := Lib.hid h
  have HB := Lib.hid hB
  have HV := Lib.hid hv
  have HW := Lib.hid (okW_iff.1 hs)
  have hs12 : s.size ≤ 12 := by have := HW.out.1; rwa [tx_len] at this
  clear h hB hv hs
  have HBx := Lib.hid (Boxed.new w 38 (.slice a n c))
  go_enter Try.func55, Try.ntmps55
  go_wp2
  go_loopw [5, 6] (fun p i wr => ∃ (k : Nat) (r : Int), k ≤ s.size ∧ -1 ≤ r ∧ r < n ∧ p = .int .i64 r ∧ i = .int .i64 k ∧ Hid (r = -1 ∧ tx s ∉ ps ∨ ∃ j : Nat, r = (j : Int) ∧ ps[j]? = some ((tx s).take k)) ∧ Hid (Boxed wr w.heap.size 38 (.slice a n c)) ∧ Hid (Below w.heap.size w wr)) (fun _ i _ => s.size - (intOf i).toNat)
  case atStart => exact ⟨0, 0, Nat.zero_le _, by omega, by have := HV.out.tells.pos; have := L.out; omega, rfl, rfl, Lib.hid (.inr ⟨0, rfl, by rw [List.take_zero]; exact HV.out.tells.nil⟩), HBx, Lib.hid ((Below.refl _ _).alloc (Nat.le_refl _) _)⟩
  case round =>
    obtain ⟨k, r, hk, hr0, hrn, rfl, rfl, HR, HBox, HBw⟩ := hrel
    by_cases hrneg : r < 0
    · have HX : Hid (r = -1 ∧ tx s ∉ ps) := Lib.hid (by
        rcases HR.out with h | ⟨j, h, _⟩
        · exact h
        · omega)
      by_cases hlt : k < s.size
      · go_wp2
        go_ret
        exact ⟨r, rfl, .inl HX.out, HBw.out⟩
      · go_wp2
        go_ret
        exact ⟨r, rfl, .inl HX.out, HBw.out⟩
    · obtain ⟨j, rfl⟩ : ∃ j : Nat, r = (j : Int) := ⟨r.toNat, by omega⟩
      have HJ : Hid (ps[j]? = some ((tx s).take k)) := Lib.hid (by
        rcases HR.out with ⟨h, _⟩ | ⟨j', h, h'⟩
        · omega
        · have : j' = j := by omega
          subst this; exact h')
      have hjn : j < n := by omega
      by_cases hlt : k < s.size
      · have hlow := HW.out.2 s[k] (by
          have : s[k] = (tx s)[k]'(by rw [tx_len]; exact hlt) := rfl
          rw [this]; exact List.getElem_mem _)
        have HTk := Lib.hid (tx_take hlt)
        have hbx := HBox.out.cell
        have hsz := HBox.out.lt
        have hi0 : (0 : Int) ≤ (k : Int) := by omega
        have hi1 : (k : Int) < (s.size : Int) := by omega
        have cK : Hid (∀ W, Below w.heap.size w W → Calls Try.prog 81 #[.agg #[.slice a n c], .int .i64 (j : Int), .int .i64 ((s[k].toNat : Int) - 97)] W (KidNum t j ((s[k].toNat : Int) - 97) W)) := Lib.hid (fun W hW => l2Kid_any B a n c j t ((s[k].toNat : Int) - 97) W (Nat.le_trans HB.out hW.size) (H.out.keep (hW.mono HB.out)) (by omega) hjn)
        have hwr : IntKind.i64.wrap ((s[k].toNat : Int) - 97) = (s[k].toNat : Int) - 97 := IntWalk.i64_in _ (by omega)
        have hwr0 : IntKind.i64.wrap (s[k].toNat : Int) = (s[k].toNat : Int) := IntWalk.i64_in _ (by omega)
        go_wp2
        go_region_held3 (fun w' => w'.cell? ⟨w.heap.size, 0, none⟩ = some (.slice a n c))
          (first
            | exact (hb2.cell (p := ⟨w.heap.size, 0, none⟩) hsz).trans hbx
            | exact hbx)
          (first
            | (go_at_call 81; refine (cK.out _ (by first | exact HBw.out.drew | exact HBw.out)).mono ?_; rintro en w2 ⟨r2, rfl, hk2, hb2⟩; have HK2 := Lib.hid hk2; clear hk2))
        have hR2 : (r2 = -1 ∧ tx s ∉ ps ∨ ∃ j : Nat, r2 = (j : Int) ∧ ps[j]? = some ((tx s).take (k + 1))) := by
          rcases HK2.out with ⟨h1, h2⟩ | ⟨j2, h1, h2⟩
          · refine .inl ⟨h1, fun hmem => ?_⟩
            have h3 : (tx s).take (k + 1) ∈ ps := pre_closedN HV.out hmem (List.take_prefix _ _)
            obtain ⟨j3, hj3⟩ := mem_at h3
            rw [HTk.out] at hj3
            exact h2 j3 (isKid_of HV.out.tells HJ.out hj3)
          · exact .inr ⟨j2, h1, by rw [HTk.out]; exact isKid_at HV.out.tells HJ.out h2⟩
        have HR2 := Lib.hid hR2
        have hr2 : -1 ≤ r2 ∧ r2 < n := by
          rcases hR2 with ⟨h1, _⟩ | ⟨j2, h1, h2⟩
          · omega
          · have := (List.getElem?_eq_some_iff.1 h2).1
            have := HV.out.lenEq
            have := L.out
            omega
        clear hR2
        have HB2 := Lib.hid hb2
        clear hb2 hbx
        go_wp2
        go_roundw
        case rel => exact ⟨k + 1, r2, by omega, hr2.1, hr2.2, rfl, by go_num, HR2, Lib.hid (box_stay HBox.out ((Below.refl _ _).drew.trans HB2.out)), Lib.hid (HBw.out.trans ((Below.refl _ _).drew.trans (HB2.out.mono HBw.out.size)))⟩
        case measure => simp [intOf]; omega
      · have HX : Hid (ps[j]? = some (tx s)) := Lib.hid (by have := HJ.out; rwa [List.take_of_length_le (by rw [tx_len]; omega)] at this)
        go_wp2
        go_ret
        exact ⟨(j : Int), rfl, .inr ⟨j, rfl, HX.out⟩, HBw.out⟩

end Go.Proofs.Ythjafoacnfgjhac.nod
