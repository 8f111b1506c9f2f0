import Derived.Test.YtoofpgehkihbcaaKids
import Derived.Test.YtoofpgehkihbcaaNds
import Derived.Test.YtoofpgehkihbcaaOf
import Derived.Deep.RegionHeld3
import Derived.Test.YtoofpgehkihbcaaWords
import Derived.IntWalk

/-
  The words under a node and how many they are: the program's two helpers, for every valid trie and node.
-/
namespace Go.Proofs.Ytoofpgehkihbcaa
open Go.RowKit
set_option linter.unusedVariables false

theorem Nds.sub {B : Nat} {w : World} {b0 o n c : Nat} {t : List Nd} (h : Nds B w (some ⟨b0, o, none⟩) n c t) {i b : Nat} (hi : i ≤ b) (hb : b ≤ n) : Nds B w (some ⟨b0, o + i * 3, none⟩) (b - i) (c - i) ((t.take b).drop i) :=
  ⟨by have := h.len; simp; omega, by have := h.cap; omega, by have := h.top; omega, fun j d hd => by
    have hd' : t[i + j]? = some d := by
      have hj := (List.getElem?_eq_some_iff.1 hd).1
      rw [List.getElem?_drop, List.getElem?_take] at hd
      simp at hj
      rw [if_pos (by omega)] at hd
      exact hd
    obtain ⟨b1, o1, e, hB, h1, h2, h3⟩ := h.spot (i + j) d hd'
    injection e with e
    injection e with e1 e2 e3
    subst e1 e2
    have ea : o + i * 3 + j * 3 = o + (i + j) * 3 := by omega
    exact ⟨b0, o + i * 3, rfl, hB, by rw [ea]; exact h1, by rw [ea]; exact h2, by rw [ea]; exact h3⟩, fun d hd => h.rng d (List.mem_of_mem_take (List.mem_of_mem_drop hd))⟩

/-- the words of the nodes from one place to another -/
def midw (t : List Nd) (ps : List Txt) (i b : Nat) : List Txt := wds ((t.take b).drop i) ((ps.take b).drop i)

theorem midw_same (t : List Nd) (ps : List Txt) (i : Nat) : midw t ps i i = [] := by
  unfold midw
  rw [List.drop_eq_nil_of_le (by rw [List.length_take]; omega), List.drop_eq_nil_of_le (by rw [List.length_take]; omega)]
  rfl

theorem midw_succ {t : List Nd} {ps : List Txt} {i k : Nat} {d : Nd} {x : Txt} (hl : ps.length = t.length) (hik : i ≤ k) (h : t[k]? = some d) (hx : ps[k]? = some x) :
    midw t ps i (k + 1) = midw t ps i k ++ if d.e then [x] else [] := by
  have hk := (List.getElem?_eq_some_iff.1 h).1
  unfold midw
  have e2 : ps.take (k + 1) = ps.take k ++ [x] := by
    obtain ⟨hk2, e⟩ := List.getElem?_eq_some_iff.1 hx
    rw [List.take_succ_eq_append_getElem hk2, e]
  rw [take_mk h, e2, List.drop_append_of_le_length (by rw [List.length_take]; omega), List.drop_append_of_le_length (by rw [List.length_take]; omega), wds_app _ _ _ _ (by simp [hl])]
  congr 1

theorem midw_all {t : List Nd} {ps : List Txt} (hl : ps.length = t.length) : midw t ps 0 t.length = wds t ps := by
  unfold midw
  rw [List.drop_zero, List.drop_zero, List.take_of_length_le (Nat.le_refl _), List.take_of_length_le (by omega)]

theorem midw_le (t : List Nd) (ps : List Txt) (i b : Nat) (hl : ps.length = t.length) (hv : ends t ≤ 40) : (midw t ps i b).length ≤ 40 := by
  unfold midw
  rw [wds_len _ _ (by simp [hl])]
  have h1 : ends ((t.take b).drop i) ≤ ends (t.take b) := by
    have := ends_app ((t.take b).take i) ((t.take b).drop i)
    rw [List.take_append_drop] at this
    omega
  have h2 : ends (t.take b) ≤ ends t := by
    have := ends_app (t.take b) (t.drop b)
    rw [List.take_append_drop] at this
    omega
  omega

end Go.Proofs.Ytoofpgehkihbcaa

/-
  The node of a text: the reference's function.
-/
namespace Go.Proofs.Ytoofpgehkihbcaa.nod
open Go.RowKit
set_option linter.unusedVariables false

/-- a kid with a letter -/
def IsKid (t : List Nd) (i : Nat) (l : Int) (j : Nat) : Prop := i < j ∧ ∃ d, t[j]? = some d ∧ d.p = (i : Int) ∧ d.l = l

theorem isKid_at {t : List Nd} {ps : List Txt} (h : Tells t t.length ps) {i j : Nat} {x : Txt} {c : UInt8} (hi : ps[i]? = some x) (hk : IsKid t i ((c.toNat : Int) - 97) j) : ps[j]? = some (x ++ [c]) := by
  obtain ⟨hij, d, hd, h1, h2⟩ := hk
  exact (kid_iff h hi (by omega) hd).1 ⟨h1, h2⟩
theorem isKid_of {t : List Nd} {ps : List Txt} (h : Tells t t.length ps) {i j : Nat} {x : Txt} {c : UInt8} (hi : ps[i]? = some x) (hj : ps[j]? = some (x ++ [c])) : IsKid t i ((c.toNat : Int) - 97) j := by
  have hij : i < j := asc_pos h.asc hi hj (bef_longer x (by simp))
  have hjl : j < t.length := by have := h.len; have := (List.getElem?_eq_some_iff.1 hj).1; omega
  obtain ⟨d, _, hd, _⟩ := h.at hjl
  have := (kid_iff h hi (by omega) hd).2 hj
  exact ⟨hij, d, hd, this.1, this.2⟩

theorem tx_take {s : ByteArray} {k : Nat} (h : k < s.size) : (tx s).take (k + 1) = (tx s).take k ++ [s[k]] := by
  have h' : k < (tx s).length := by rw [tx_len]; exact h
  rw [List.take_succ_eq_append_getElem h']
  rfl


theorem pre_closedN {t : List Nd} {ps : List Txt} (hv : Valid t ps) {x y : Txt} (hx : x ∈ ps) (h : y <+: x) : y ∈ ps := by
  rcases (hv.pre.mem x).1 hx with e | ⟨w, hw, hp⟩
  · rw [e] at h
    rw [List.prefix_nil.1 h]
    exact at_mem hv.tells.nil
  · exact (hv.pre.mem y).2 (.inr ⟨w, hw, h.trans hp⟩)

def KidNum (t : List Nd) (i : Nat) (l : Int) (w : World) (e : Ending) (w' : World) : Prop :=
  ∃ r : Int, e = .returned (.int .i64 r) ∧ (r = -1 ∧ (∀ j', ¬ IsKid t i l j') ∨ ∃ j : Nat, r = (j : Int) ∧ IsKid t i l j) ∧ Below w.heap.size w w'

set_option maxHeartbeats 1000000 in
theorem l2Kid_any (B : Nat) (a : Option Addr) (n c i : Nat) (t : List Nd) (l : Int) (w : World) (hB : B ≤ w.heap.size) (h : Nds B w a n c t) (hn : n ≤ 1000) (hi : i < n) :
    Calls Try.prog 54 #[.agg #[.slice a n c], .int .i64 (i : Int), .int .i64 l] w (KidNum t i l w) := by
  have L := Lib.hid h.len
  have C := h.cap
  have T := h.top
  have HB1 : Hid (Below w.heap.size w (w.alloc (.cells #[.slice a n c] 44))) := Lib.hid ((Below.refl _ _).alloc (Nat.le_refl _) _)
  have H := Lib.hid (h.keep (HB1.out.mono hB))
  clear h hB
  go_enter Try.func54, Try.ntmps54
  go_wp2
  go_loop [7] (fun q => ∃ k : Nat, i < k ∧ k ≤ n ∧ q = .int .i64 k ∧ Hid (∀ j, j < k → ¬ IsKid t i l j)) (fun q => n - (intOf q).toNat)
  case atStart => exact ⟨i + 1, by omega, by omega, by go_num, Lib.hid (fun j h => by rintro ⟨h1, _⟩; omega)⟩
  case round =>
    obtain ⟨k, hik, hkn, rfl, HN⟩ := hrel
    by_cases hlt : k < n
    · obtain ⟨b, o, lk, pk, ek, rfl, hbB, hd, hl, hp, hc1, hc2, hc3⟩ := H.out.elem k hlt
      have HD := Lib.hid hd
      clear hd
      by_cases hpi : pk = (i : Int)
      · have hb1 : (pk == (i : Int)) = true := by simp [hpi]
        by_cases hll : lk = l
        · have hb2 : (lk == l) = true := by simp [hll]
          have HX : Hid (IsKid t i l k) := Lib.hid ⟨hik, _, HD.out, hpi, hll⟩
          clear hpi hll
          go_wp2
          go_ret
          exact ⟨(k : Int), rfl, .inr ⟨k, rfl, HX.out⟩, HB1.out⟩
        · have hb2 : (lk == l) = false := by simp [hll]
          have HN2 : Hid (∀ j, j < k + 1 → ¬ IsKid t i l j) := Lib.hid (fun j hj => by
            by_cases e : j = k
            · subst e
              rintro ⟨_, d, h1, _, h3⟩
              rw [HD.out] at h1
              rw [← Option.some.inj h1] at h3
              exact hll h3
            · exact HN.out j (by omega))
          clear hpi hll
          go_wp2
          go_round
          case rel => exact ⟨k + 1, by omega, by omega, by go_num, HN2⟩
          case measure => simp [intOf]; omega
      · have hb1 : (pk == (i : Int)) = false := by simp [hpi]
        have HN2 : Hid (∀ j, j < k + 1 → ¬ IsKid t i l j) := Lib.hid (fun j hj => by
          by_cases e : j = k
          · subst e
            rintro ⟨_, d, h1, h2, _⟩
            rw [HD.out] at h1
            rw [← Option.some.inj h1] at h2
            exact hpi h2
          · exact HN.out j (by omega))
        clear hpi
        go_wp2
        go_round
        case rel => exact ⟨k + 1, by omega, by omega, by go_num, HN2⟩
        case measure => simp [intOf]; omega
    · have HX : Hid (∀ j, ¬ IsKid t i l j) := Lib.hid (fun j hj => by
        have hj' := hj
        obtain ⟨_, d, h1, _⟩ := hj'
        exact HN.out j (by have := (List.getElem?_eq_some_iff.1 h1).1; have := L.out; omega) hj)
      go_wp2
      go_ret
      exact ⟨-1, rfl, .inl ⟨rfl, HX.out⟩, HB1.out⟩

/-- the reference's place of a text, or -1 -/
def NodeNum (ps : List Txt) (x : Txt) (w : World) (e : Ending) (w' : World) : Prop :=
  ∃ r : Int, e = .returned (.int .i64 r) ∧ (r = -1 ∧ x ∉ ps ∨ ∃ j : Nat, r = (j : Int) ∧ ps[j]? = some x) ∧ Below w.heap.size w w'

set_option maxHeartbeats 1000000 in
theorem l2Node_any (B : Nat) (a : Option Addr) (n c : Nat) (t : List Nd) (ps : List Txt) (s : ByteArray) (w : World) (hB : B ≤ w.heap.size) (h : Nds B w a n c t) (hv : Valid t ps) (hs : okW s = true) :
    Calls Try.prog 29 #[.agg #[.slice a n c], .string s] w (NodeNum ps (tx s) w) := by
  have L := Lib.hid h.len
  have hn : n ≤ 481 := by have := hv.size; have := h.len; omega
  have H := Lib.hid h
  have HB := Lib.hid hB
  have HV := Lib.hid hv
  have HW := Lib.hid (okW_iff.1 hs)
  have hs12 : s.size ≤ 12 := by have := HW.out.1; rwa [tx_len] at this
  clear h hB hv hs
  have HBx := Lib.hid (Boxed.new w 44 (.slice a n c))
  go_enter Try.func29, Try.ntmps29
  go_wp2
  go_loopw [5, 6] (fun p i wr => ∃ (k : Nat) (r : Int), k ≤ s.size ∧ -1 ≤ r ∧ r < n ∧ p = .int .i64 r ∧ i = .int .i64 k ∧ Hid (r = -1 ∧ tx s ∉ ps ∨ ∃ j : Nat, r = (j : Int) ∧ ps[j]? = some ((tx s).take k)) ∧ Hid (Boxed wr w.heap.size 44 (.slice a n c)) ∧ Hid (Below w.heap.size w wr)) (fun _ i _ => s.size - (intOf i).toNat)
  case atStart => exact ⟨0, 0, Nat.zero_le _, by omega, by have := HV.out.tells.pos; have := L.out; omega, rfl, rfl, Lib.hid (.inr ⟨0, rfl, by rw [List.take_zero]; exact HV.out.tells.nil⟩), HBx, Lib.hid ((Below.refl _ _).alloc (Nat.le_refl _) _)⟩
  case round =>
    obtain ⟨k, r, hk, hr0, hrn, rfl, rfl, HR, HBox, HBw⟩ := hrel
    by_cases hrneg : r < 0
    · have HX : Hid (r = -1 ∧ tx s ∉ ps) := Lib.hid (by
        rcases HR.out with h | ⟨j, h, _⟩
        · exact h
        · omega)
      by_cases hlt : k < s.size
      · go_wp2
        go_ret
        exact ⟨r, rfl, .inl HX.out, HBw.out⟩
      · go_wp2
        go_ret
        exact ⟨r, rfl, .inl HX.out, HBw.out⟩
    · obtain ⟨j, rfl⟩ : ∃ j : Nat, r = (j : Int) := ⟨r.toNat, by omega⟩
      have HJ : Hid (ps[j]? = some ((tx s).take k)) := Lib.hid (by
        rcases HR.out with ⟨h, _⟩ | ⟨j', h, h'⟩
        · omega
        · have : j' = j := by omega
          subst this; exact h')
      have hjn : j < n := by omega
      by_cases hlt : k < s.size
      · have hlow := HW.out.2 s[k] (by
          have : s[k] = (tx s)[k]'(by rw [tx_len]; exact hlt) := rfl
          rw [this]; exact List.getElem_mem _)
        have HTk := Lib.hid (tx_take hlt)
        have hbx := HBox.out.cell
        have hsz := HBox.out.lt
        have hi0 : (0 : Int) ≤ (k : Int) := by omega
        have hi1 : (k : Int) < (s.size : Int) := by omega
        have cK : Hid (∀ W, Below w.heap.size w W → Calls Try.prog 54 #[.agg #[.slice a n c], .int .i64 (j : Int), .int .i64 ((s[k].toNat : Int) - 97)] W (KidNum t j ((s[k].toNat : Int) - 97) W)) := Lib.hid (fun W hW => l2Kid_any B a n c j t ((s[k].toNat : Int) - 97) W (Nat.le_trans HB.out hW.size) (H.out.keep (hW.mono HB.out)) (by omega) hjn)
        have hwr : IntKind.i64.wrap ((s[k].toNat : Int) - 97) = (s[k].toNat : Int) - 97 := IntWalk.i64_in _ (by omega)
        have hwr0 : IntKind.i64.wrap (s[k].toNat : Int) = (s[k].toNat : Int) := IntWalk.i64_in _ (by omega)
        go_wp2
        go_region_held3 (fun w' => w'.cell? ⟨w.heap.size, 0, none⟩ = some (.slice a n c))
          (first
            | exact (hb2.cell (p := ⟨w.heap.size, 0, none⟩) hsz).trans hbx
            | exact hbx)
          (first
            | (go_at_call 54; refine (cK.out _ (by first | exact HBw.out.drew | exact HBw.out)).mono ?_; rintro en w2 ⟨r2, rfl, hk2, hb2⟩; have HK2 := Lib.hid hk2; clear hk2))
        have hR2 : (r2 = -1 ∧ tx s ∉ ps ∨ ∃ j : Nat, r2 = (j : Int) ∧ ps[j]? = some ((tx s).take (k + 1))) := by
          rcases HK2.out with ⟨h1, h2⟩ | ⟨j2, h1, h2⟩
          · refine .inl ⟨h1, fun hmem => ?_⟩
            have h3 : (tx s).take (k + 1) ∈ ps := pre_closedN HV.out hmem (List.take_prefix _ _)
            obtain ⟨j3, hj3⟩ := mem_at h3
            rw [HTk.out] at hj3
            exact h2 j3 (isKid_of HV.out.tells HJ.out hj3)
          · exact .inr ⟨j2, h1, by rw [HTk.out]; exact isKid_at HV.out.tells HJ.out h2⟩
        have HR2 := Lib.hid hR2
        have hr2 : -1 ≤ r2 ∧ r2 < n := by
          rcases hR2 with ⟨h1, _⟩ | ⟨j2, h1, h2⟩
          · omega
          · have := (List.getElem?_eq_some_iff.1 h2).1
            have := HV.out.lenEq
            have := L.out
            omega
        clear hR2
        have HB2 := Lib.hid hb2
        clear hb2 hbx
        go_wp2
        go_roundw
        case rel => exact ⟨k + 1, r2, by omega, hr2.1, hr2.2, rfl, by go_num, HR2, Lib.hid (box_stay HBox.out ((Below.refl _ _).drew.trans HB2.out)), Lib.hid (HBw.out.trans ((Below.refl _ _).drew.trans (HB2.out.mono HBw.out.size)))⟩
        case measure => simp [intOf]; omega
      · have HX : Hid (ps[j]? = some (tx s)) := Lib.hid (by have := HJ.out; rwa [List.take_of_length_le (by rw [tx_len]; omega)] at this)
        go_wp2
        go_ret
        exact ⟨(j : Int), rfl, .inr ⟨j, rfl, HX.out⟩, HBw.out⟩

end Go.Proofs.Ytoofpgehkihbcaa.nod

/-
  The words of a list of nodes, and the reference's list of them.
-/
namespace Go.Proofs.Ytoofpgehkihbcaa
open Go.RowKit
set_option linter.unusedVariables false

theorem wds_short {t : List Nd} {ps : List Txt} (hv : Valid t ps) : ∀ x ∈ wds t ps, x.length ≤ 9223372036854775807 := fun x hx => by have := (hv.wordsW x hx).1; omega

/-- the words of a valid trie, none of another list -/
noncomputable def wordsOf (t : List Nd) : List Txt := by
  classical
  exact if h : IsT t then wds t h.choose else []

theorem wordsOf_eq {t : List Nd} {ps : List Txt} (h : Valid t ps) : wordsOf t = wds t ps := by
  have ht : IsT t := ⟨ps, h⟩
  unfold wordsOf
  rw [dif_pos ht, valid_uniq ht.choose_spec h]

theorem wordsOf_no {t : List Nd} (h : ¬ IsT t) : wordsOf t = [] := by
  unfold wordsOf
  rw [dif_neg h]

/-- the reference's words as a slice that can be read -/
theorem specWords_read (B : Nat) (a : Option Addr) (n c : Nat) (t : List Nd) (w : World) (hB : B ≤ w.heap.size) (h : Nds B w a n c t) (hn : n ≤ 1048576) (ht : IsT t) :
    Calls Try.prog 48 #[.agg #[.slice a n c]] w fun e w' => ∃ a' c', e = .returned (.slice a' (wordsOf t).length c') ∧ Wds w'.heap.size w' a' (wordsOf t).length c' (wordsOf t) ∧ Below w.heap.size w w' := by
  obtain ⟨ps, hv⟩ := ht
  refine (l2Words_any B a n c t w hB h hn).mono ?_
  rintro e w' ⟨a', n', c', rs, rfl, hW, _, hraw, _, hb⟩
  have e1 := hraw ps hv
  rw [← wordsOf_eq hv] at e1
  subst e1
  have hl := hW.len
  subst hl
  exact ⟨a', c', rfl, hW, hb⟩

theorem wordsOf_size (t : List Nd) : (wordsOf t).length ≤ 40 := by
  by_cases ht : IsT t
  · obtain ⟨ps, hv⟩ := ht
    rw [wordsOf_eq hv, hv.wordsLen]
    exact hv.few
  · rw [wordsOf_no ht]; simp

theorem wordsOf_short (t : List Nd) : ∀ x ∈ wordsOf t, x.length ≤ 12 := by
  by_cases ht : IsT t
  · obtain ⟨ps, hv⟩ := ht
    rw [wordsOf_eq hv]
    exact fun x hx => (hv.wordsW x hx).1
  · rw [wordsOf_no ht]; simp

end Go.Proofs.Ytoofpgehkihbcaa

/-
  Whether a text begins with another: the reference's test.
-/
namespace Go.Proofs.Ytoofpgehkihbcaa
open Go.RowKit
set_option linter.unusedVariables false

theorem l2Begins_any (s p : ByteArray) (r : Bool) (hr : r = true ↔ tx p <+: tx s) (w : World) (hs : s.size ≤ 100) (hp : p.size ≤ 100) :
    Calls Try.prog 31 #[.string s, .string p] w fun e w' => e = .returned (.bool r) ∧ w = w' := by
  by_cases hl : p.size ≤ s.size
  · have HX : Hid (((s.extract 0 p.size).toList == p.toList) = r) := Lib.hid (by
      rw [str_eq_list, Bool.eq_iff_iff, decide_eq_true_eq, hr, List.prefix_iff_eq_take]
      constructor
      · intro h
        have := congrArg tx h
        rw [tx_extract] at this
        rw [tx_len]; exact this.symm
      · intro h
        apply tx_inj
        rw [tx_extract, ← tx_len p]; exact h.symm)
    clear hr
    go_enter Try.func31, Try.ntmps31
    go_wp2
    go_ret
    exact ⟨ret_bool HX.out, rfl⟩
  · have HX : Hid (r = false) := Lib.hid (by
      cases r with
      | false => rfl
      | true =>
        have := (hr.1 rfl).length_le
        rw [tx_len, tx_len] at this
        omega)
    clear hr
    go_enter Try.func31, Try.ntmps31
    go_wp2
    go_ret
    exact ⟨ret_bool HX.out.symm, rfl⟩

end Go.Proofs.Ytoofpgehkihbcaa
