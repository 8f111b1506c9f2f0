/-
  The place of a prefix: the program's walk and the reference's.
-/
import Derived.Test.YtibdfhhbkbncgabKidsWalk
import Derived.Lib.OthersKept
import Derived.Laws.RangeAny
namespace Go.Proofs.Ytibdfhhbkbncgab.cap
open Go.RowKit
set_option linter.unusedVariables false

/-- a kid with a letter -/
def IsKid (t : List Nd) (i : Nat) (l : Int) (j : Nat) : Prop := i < j ∧ ∃ d, t[j]? = some d ∧ d.p = (i : Int) ∧ d.l = l

theorem isKid_at {t : List Nd} {ps : List Txt} (h : Tells t t.length ps) {i j : Nat} {x : Txt} {c : UInt8} (hi : ps[i]? = some x) (hk : IsKid t i ((c.toNat : Int) - 97) j) : ps[j]? = some (x ++ [c]) := by
  obtain ⟨hij, d, hd, h1, h2⟩ := hk
  exact (kid_iff h hi (by omega) hd).1 ⟨h1, h2⟩
theorem isKid_of {t : List Nd} {ps : List Txt} (h : Tells t t.length ps) {i j : Nat} {x : Txt} {c : UInt8} (hi : ps[i]? = some x) (hj : ps[j]? = some (x ++ [c])) : IsKid t i ((c.toNat : Int) - 97) j := by
  have hij : i < j := asc_pos h.asc hi hj (bef_longer x (by simp))
  have hjl : j < t.length := by have := h.len; have := (List.getElem?_eq_some_iff.1 hj).1; omega
  obtain ⟨d, _, hd, _⟩ := h.at hjl
  have := (kid_iff h hi (by omega) hd).2 hj
  exact ⟨hij, d, hd, this.1, this.2⟩

/-- the first kid of a list with a letter -/
def KidPost (t : List Nd) (i : Nat) (l : Int) (w : World) (e : Ending) (w' : World) : Prop :=
  ∃ (j : Nat) (ok : Bool), e = .returned (.tuple #[.int .i64 (j : Int), .bool ok]) ∧ (ok = true → IsKid t i l j) ∧ (ok = false → j = 0 ∧ ∀ j', ¬ IsKid t i l j') ∧ Below w.heap.size w w'

set_option maxHeartbeats 1000000 in
theorem kidWith_any (B : Nat) (a : Option Addr) (n c i : Nat) (t : List Nd) (ps : List Txt) (l : Int) (w : World) (hB : B ≤ w.heap.size) (h : Nds B w a n c t) (hn : n ≤ 1000) (ht : Tells t t.length ps) (hi : i < n) :
    Calls Try.prog 54 #[.agg #[.slice a n c], .int .i64 (i : Int), .int .i64 l] w (KidPost t i l w) := by
  have L := Lib.hid h.len
  have C := h.cap
  have T := h.top
  have H := Lib.hid h
  have HB := Lib.hid hB
  have HB1 : Hid (Below w.heap.size w (w.alloc (.cells #[.slice a n c] 31))) := Lib.hid ((Below.refl _ _).alloc (Nat.le_refl _) _)
  have cK := Lib.hid (kidsAt_any B a n c i t ps (w.alloc (.cells #[.slice a n c] 31)) (by simp; omega) (h.keep (HB1.out.mono hB)) hn ht hi)
  clear h hB ht
  obtain ⟨m, hm⟩ : ∃ m, (kidsTo t i n).length = m := ⟨_, rfl⟩
  have HM := Lib.hid hm
  have hmn : m ≤ n := by rw [← hm]; exact kidsTo_le n
  rw [hm] at cK
  clear hm
  go_enter Try.func54, Try.ntmps54
  go_wp2_with fail
  refine cK.out.mono ?_
  rintro e w2 ⟨v, rfl, hO, hb2⟩
  obtain ⟨a2, c2, rfl⟩ := own_slice hO
  have HS := Lib.hid (Sl.of_own hO)
  have HB2 := Lib.hid (HB1.out.trans (hb2.mono HB1.out.size))
  have hbx := (hb2.cell (p := ⟨w.heap.size, 0, none⟩) (by simp)).trans (show (w.alloc (.cells #[.slice a n c] 31)).cell? ⟨w.heap.size, 0, none⟩ = some (.slice a n c) by simp)
  have N2 := Lib.hid (H.out.keep (HB2.out.mono HB.out))
  have C2 := HS.out.cap
  have T2 := HS.out.top
  clear hO hb2
  go_wp2_with fail
  go_loop [14] (fun q => ∃ k : Nat, k ≤ m ∧ q = .int .i64 k ∧ Hid (∀ (q : Nat) (j : Nat), q < k → (kidsTo t i n)[q]? = some j → ¬ IsKid t i l j)) (fun q => m - (intOf q).toNat)
  case atStart => exact ⟨0, Nat.zero_le _, rfl, Lib.hid (fun q j h => by omega)⟩
  case round =>
    obtain ⟨k, hk, rfl, HN⟩ := hrel
    by_cases hlt : k < m
    · obtain ⟨j, hj⟩ : ∃ j, (kidsTo t i n)[k]? = some j := ⟨_, List.getElem?_eq_getElem (by rw [HM.out]; exact hlt)⟩
      have hmem := mem_kidsTo.1 (show j ∈ kidsTo t i n from List.mem_iff_getElem?.2 ⟨k, hj⟩)
      have hcell : (nums (kidsTo t i n))[k]? = some (.int .i64 (j : Int)) := by simp [nums, hj]
      obtain ⟨b, o, rfl, _, hc⟩ := HS.out.spot k _ hcell
      have HJ := Lib.hid hj
      have hjn : j < n := hmem.1
      obtain ⟨b2, o2, lj, pj, ej, rfl, hbB2, hdj, hlj, hpj, hc1, hc2, hc3⟩ := N2.out.elem j hjn
      have HPar : Hid (i < j ∧ pj = (i : Int)) := Lib.hid ⟨hmem.2.1, by
        obtain ⟨d, h1, h2⟩ := hmem.2.2
        rw [hdj] at h1
        rw [← Option.some.inj h1] at h2
        exact h2⟩
      have HDj := Lib.hid hdj
      clear hj hmem hcell hdj
      by_cases hll : lj = l
      · have hb1 : (lj == l) = true := by simp [hll]
        have HX : Hid (IsKid t i l j) := Lib.hid ⟨HPar.out.1, _, HDj.out, HPar.out.2, hll⟩
        clear hll
        go_wp2
        go_ret2
        exact ⟨j, true, rfl, fun _ => HX.out, fun h => by (cases h), HB2.out⟩
      · have hb1 : (lj == l) = false := by simp [hll]
        have HN2 : Hid (∀ (q : Nat) (j : Nat), q < k + 1 → (kidsTo t i n)[q]? = some j → ¬ IsKid t i l j) := Lib.hid (fun q j' hq hj' => by
          by_cases e : q = k
          · subst e
            rw [HJ.out] at hj'
            obtain rfl := Option.some.inj hj'
            rintro ⟨_, d, h1, _, h3⟩
            rw [HDj.out] at h1
            rw [← Option.some.inj h1] at h3
            exact hll h3
          · exact HN.out q j' (by omega) hj')
        clear hll
        go_wp2
        go_round
        case rel => exact ⟨k + 1, by omega, by go_num, HN2⟩
        case measure => simp [intOf]; omega
    · have HX : Hid (∀ j', ¬ IsKid t i l j') := Lib.hid (fun j' hj' => by
        obtain ⟨h0, d, h1, h2, h3⟩ := hj'
        have hmem : j' ∈ kidsTo t i n := mem_kidsTo.2 ⟨by have := (List.getElem?_eq_some_iff.1 h1).1; have := L.out; omega, h0, d, h1, h2⟩
        obtain ⟨q, hq⟩ := List.mem_iff_getElem?.1 hmem
        exact HN.out q j' (by have := (List.getElem?_eq_some_iff.1 hq).1; have := HM.out; omega) hq ⟨h0, d, h1, h2, h3⟩)
      go_wp2
      go_ret2
      exact ⟨0, false, rfl, fun h => by (cases h), fun _ => ⟨rfl, HX.out⟩, HB2.out⟩

theorem tx_take {s : ByteArray} {k : Nat} (h : k < s.size) : (tx s).take (k + 1) = (tx s).take k ++ [s[k]] := by
  have h' : k < (tx s).length := by rw [tx_len]; exact h
  rw [List.take_succ_eq_append_getElem h']
  rfl

theorem pre_closed {t : List Nd} {ps : List Txt} (hv : Valid t ps) {x y : Txt} (hx : x ∈ ps) (h : y <+: x) : y ∈ ps := by
  rcases (hv.pre.mem x).1 hx with e | ⟨w, hw, hp⟩
  · rw [e] at h
    rw [List.prefix_nil.1 h]
    exact at_mem hv.tells.nil
  · exact (hv.pre.mem y).2 (.inr ⟨w, hw, h.trans hp⟩)

/-- the place of a text -/
def PlacePost (ps : List Txt) (x : Txt) (w : World) (e : Ending) (w' : World) : Prop :=
  ∃ (j : Nat) (ok : Bool), e = .returned (.tuple #[.int .i64 (j : Int), .bool ok]) ∧ (ok = true → ps[j]? = some x) ∧ (ok = false → j = 0 ∧ x ∉ ps) ∧ Below w.heap.size w w'

set_option maxHeartbeats 1000000 in
theorem placeOf_any (B : Nat) (a : Option Addr) (n c : Nat) (t : List Nd) (ps : List Txt) (s : ByteArray) (w : World) (hB : B ≤ w.heap.size) (h : Nds B w a n c t) (hv : Valid t ps) (hs : okW s = true) :
    Calls Try.prog 29 #[.agg #[.slice a n c], .string s] w (PlacePost ps (tx s) w) := by
  have L := Lib.hid h.len
  have hn : n ≤ 481 := by have := hv.size; have := h.len; omega
  have H := Lib.hid h
  have HB := Lib.hid hB
  have HV := Lib.hid hv
  have HW := Lib.hid (okW_iff.1 hs)
  have hs12 : s.size ≤ 12 := by have := HW.out.1; rwa [tx_len] at this
  clear h hB hv hs
  have HBx := Lib.hid (Boxed.new w 31 (.slice a n c))
  go_enter Try.func29, Try.ntmps29
  go_wp2
  go_loopw [6] (fun p wr => ∃ (k j : Nat), k ≤ s.size ∧ j < n ∧ p = .int .i64 j ∧ Hid (ps[j]? = some ((tx s).take k)) ∧ Hid (wr.heap[w.heap.size + 1]? = some (.stringIter s k)) ∧ Hid (Boxed wr w.heap.size 31 (.slice a n c)) ∧ Hid (Below w.heap.size w wr)) (fun _ wr => s.size - wr.iterPos (w.heap.size + 1))
  case atStart => exact ⟨0, 0, Nat.zero_le _, by have := HV.out.tells.pos; have := L.out; omega, rfl, Lib.hid (by rw [List.take_zero]; exact HV.out.tells.nil), Lib.hid (by have := World.iter_heap (w.alloc (.cells #[.slice a n c] 31)) s 0; simpa using this), Lib.hid (HBx.out.alloc _), Lib.hid (((Below.refl _ _).alloc (Nat.le_refl _) _).alloc (by simp) _)⟩
  case round =>
    obtain ⟨k, j, hk, hjn, rfl, HJ, HIt, HBox, HBw⟩ := hrel
    have hpos0 : wr.iterPos (w.heap.size + 1) = k := by simp [World.iterPos, HIt.out]
    have HP0 := Lib.hid hpos0
    clear hpos0
    by_cases hlt : k < s.size
    · have hlow := HW.out.2 s[k] (by
        have : s[k] = (tx s)[k]'(by rw [tx_len]; exact hlt) := rfl
        rw [this]; exact List.getElem_mem _)
      have h128 : s[k].toNat < 128 := by omega
      have hnx := fun ty => Lib.run_next_ascii_at (P := Try.prog) wr (w.heap.size + 1) s k ty HIt.out hlt h128
      have HTk := Lib.hid (tx_take hlt)
      obtain ⟨W1, hW1⟩ : ∃ W1, wr.iterAt (w.heap.size + 1) s (k + 1) = W1 := ⟨_, rfl⟩
      have HI1 : Hid (W1.heap[w.heap.size + 1]? = some (.stringIter s (k + 1))) := Lib.hid (by rw [← hW1]; exact Lib.iterAt_heap wr _ s k (k + 1) HIt.out)
      have HBox1 : Hid (Boxed W1 w.heap.size 31 (.slice a n c)) := Lib.hid (by rw [← hW1]; exact (Lib.iterAt_other wr _ w.heap.size s (k + 1) (by omega)).trans HBox.out)
      have HBw1 : Hid (Below w.heap.size w W1) := Lib.hid (by rw [← hW1]; exact Lib.below_iterAt HBw.out (by omega) s (k + 1))
      have hs1 : w.heap.size + 1 < W1.heap.size := (Array.getElem?_eq_some_iff.1 HI1.out).1
      simp only [hW1] at hnx
      clear hW1
      have hbx := HBox1.out.cell
      have cK := Lib.hid (kidWith_any B a n c j t ps ((s[k].toNat : Int) - 97) W1 (Nat.le_trans HB.out HBw1.out.size) (H.out.keep (HBw1.out.mono HB.out)) (by omega) HV.out.tells hjn)
      obtain ⟨cn, hcn⟩ : ∃ cn : Int, (s[k].toNat : Int) = cn := ⟨_, rfl⟩
      have HCn := Lib.hid hcn
      have hcb : 97 ≤ cn ∧ cn ≤ 122 := by omega
      rw [hcn] at cK
      simp only [hcn] at hnx
      clear hcn hlow h128
      go_wp2_with (first | (go_at_call 54; refine cK.out.mono ?_; rintro en w2 ⟨j2, ok, rfl, hyes, hno, hb2⟩; have HY := Lib.hid hyes; have HNo := Lib.hid hno; have HB2 := Lib.hid hb2; clear hyes hno hb2; cases ok))
      · have HX : Hid (tx s ∉ ps) := Lib.hid (fun hmem => by
          have h1 : (tx s).take (k + 1) ∈ ps := pre_closed HV.out hmem (List.take_prefix _ _)
          obtain ⟨j3, hj3⟩ := mem_at h1
          rw [HTk.out] at hj3
          have := isKid_of HV.out.tells HJ.out hj3
          rw [HCn.out] at this
          exact (HNo.out (by first | rfl | trivial)).2 j3 this)
        go_wp2
        go_ret2
        exact ⟨0, false, rfl, fun h => by (cases h), fun _ => ⟨rfl, HX.out⟩, HBw1.out.trans (HB2.out.mono HBw1.out.size)⟩
      · have HJ2 : Hid (ps[j2]? = some ((tx s).take (k + 1))) := Lib.hid (by
          rw [HTk.out]
          refine isKid_at HV.out.tells HJ.out ?_
          rw [HCn.out]
          exact HY.out (by first | rfl | trivial))
        have HI2 : Hid (w2.heap[w.heap.size + 1]? = some (.stringIter s (k + 1))) := Lib.hid ((HB2.out.block _ hs1).trans HI1.out)
        go_wp2
        go_roundw
        case rel => exact ⟨k + 1, j2, by omega, by have := HV.out.lenEq; have := L.out; have := (List.getElem?_eq_some_iff.1 HJ2.out).1; omega, rfl, HJ2, HI2, Lib.hid (box_stay HBox1.out HB2.out), Lib.hid (HBw1.out.trans (HB2.out.mono HBw1.out.size))⟩
        case measure =>
          have e1 : w2.iterPos (w.heap.size + 1) = k + 1 := by simp [World.iterPos, HI2.out]
          rw [HP0.out, e1]
          omega
    · have hnx := fun ty => Lib.run_next_end_at (P := Try.prog) wr (w.heap.size + 1) s k ty HIt.out hlt
      have HX : Hid (ps[j]? = some (tx s)) := Lib.hid (by have := HJ.out; rwa [List.take_of_length_le (by rw [tx_len]; omega)] at this)
      go_wp2
      go_ret2
      exact ⟨j, true, rfl, fun _ => HX.out, fun h => by (cases h), HBw.out⟩

end Go.Proofs.Ytibdfhhbkbncgab.cap
