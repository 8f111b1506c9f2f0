/-
  The program's prefix of a node: letters are filled in from the last one on.
-/
import Derived.Test.YtfehfjnmkaifbabIsTrie
import Derived.Test.YtfehfjnmkaifbabLetA
namespace Go.Proofs.Ytfehfjnmkaifbab
open Go.RowKit
set_option linter.unusedVariables false

theorem infoB : (Try.prog.info? 5).map (fun i => (i.zero, i.size, i.bytes)) = some (some (.int .u8 0), 1, 1) := by kernel_rfl

/-- what has been filled in: q letters are not yet there, s are -/
def filled (q : Nat) (s : Txt) : List Value := List.replicate q (.int .u8 0) ++ s.map (fun c => Value.int .u8 (c.toNat : Int))

theorem filled_len (q : Nat) (s : Txt) : (filled q s).length = q + s.length := by simp [filled]
theorem filled_set (q : Nat) (s : Txt) (c : UInt8) : (filled (q + 1) s).set q (.int .u8 (c.toNat : Int)) = filled q (c :: s) := by
  unfold filled
  rw [List.replicate_succ', List.append_assoc, List.set_append_right _ _ (by simp)]
  simp
theorem filled_at {q k : Nat} {s : Txt} (h : k < q) : (filled q s)[k]? = some (.int .u8 0) := by
  unfold filled
  rw [List.getElem?_append_left (by simpa using h), List.getElem?_replicate, if_pos h]
theorem strOf_txt (x : Txt) : strOfNums (x.map (fun c => (c.toNat : Int))) = bx x := by
  unfold strOfNums bx
  rw [List.map_map]
  congr 2
  rw [List.map_congr_left (g := id) (fun c _ => by simp)]
  simp

set_option maxRecDepth 1000000 in
set_option maxHeartbeats 1000000 in
theorem prefixAt_any (B : Nat) (a : Option Addr) (n c i k : Nat) (t : List Nd) (ps : List Txt) (x : Txt) (w : World) (hB : B ≤ w.heap.size) (h : Nds B w a n c t) (ht : Tells t k ps) (hx : ps[i]? = some x) (hs : x.length ≤ 12) :
    Calls Try.prog 43 #[.agg #[.slice a n c], .int .i64 (i : Int)] w fun e w' => e = .returned (.string (bx x)) ∧ Below w.heap.size w w' := by
  have L := Lib.hid h.len
  have C := h.cap
  have T := h.top
  have hik : i < k := by have := ht.len; have := (List.getElem?_eq_some_iff.1 hx).1; omega
  have hkn : k ≤ n := by have := ht.le; have := h.len; omega
  have HB1 : Hid (Below w.heap.size w (w.alloc (.cells #[.slice a n c] 30))) := Lib.hid ((Below.refl _ _).alloc (Nat.le_refl _) _)
  have cL := Lib.hid (lettersTo_any B a n c i k t ps x (w.alloc (.cells #[.slice a n c] 30)) (by simp; omega) (h.keep (HB1.out.mono hB)) ht hx)
  have H := Lib.hid h
  have HB := Lib.hid hB
  have HT := Lib.hid ht
  have HX := Lib.hid hx
  obtain ⟨m, hm⟩ : ∃ m, x.length = m := ⟨_, rfl⟩
  have HM := Lib.hid hm
  rw [hm] at cL hs
  clear h ht hx hB hm
  obtain ⟨i0, hi, hz0, hz1, hz2⟩ := info_parts infoB
  have hbox := Boxed.new w 30 (.slice a n c)
  have HBox := Lib.hid hbox
  clear hbox
  go_enter Try.func43, Try.ntmps43
  go_wp2_with (first
    | (go_at_call 77; refine cL.out.mono ?_; rintro en w1 ⟨rfl, rfl⟩)
    | (at_make; refine wpList_make_full _ rfl _ _ 76 rfl (w.heap.size + 1) 5 i0 (.int .u8 0) 1 Try.underlying76 hi hz0 hz1 .i64 .i64 _ _ m rfl rfl rfl rfl (by rw [hz2]; omega) (by unfold maxLen; omega) (by simp) ?_; intro w1 hown hgrow))
  have hown0 : w1.ownsRow (w.heap.size + 1) 5 1 (.slice (some ⟨w.heap.size + 1, 0, none⟩) m m) m (filled m []) := by
    have e : (madeCells #[Value.int .u8 0] m).toList = filled m [] := by rw [toList_madeCells_one]; simp [filled]
    rw [Nat.mul_one] at hown
    have := e ▸ hown
    simpa using this
  have hb1 : Below w.heap.size w w1 := HB1.out.trans ((Below.refl _ _).grown hgrow (by simp) (fun k e => by cases e))
  have HO0 := Lib.hid hown0
  have HBw0 := Lib.hid hb1
  have HBx0 := Lib.hid (HBox.out.kept hgrow (by simp))
  clear hown hgrow hown0 hb1
  go_loopw [1, 6] (fun p i wr => ∃ (j q : Nat) (y s : Txt), j < k ∧ q ≤ 12 ∧ p = .int .i64 j ∧ i = .int .i64 ((q : Int) - 1) ∧ Hid (y.length = q) ∧ Hid (ps[j]? = some y) ∧ Hid (x = y ++ s) ∧ Hid (wr.ownsRow (w.heap.size + 1) 5 1 (.slice (some ⟨w.heap.size + 1, 0, none⟩) m m) m (filled q s)) ∧ Hid (Below w.heap.size w wr) ∧ Hid (Boxed wr w.heap.size 30 (.slice a n c))) (fun _ i _ => (intOf i + 1).toNat)
  case atStart => exact ⟨i, m, x, [], by omega, hs, rfl, rfl, HM, HX, Lib.hid (by simp), HO0, HBw0, HBx0⟩
  case round =>
    clear HO0 HBw0 HBx0
    obtain ⟨j, q, y, s, hjk, hq12, rfl, rfl, HQ, HY, HXS, HO, HBw, HBx⟩ := hrel
    have hbx := HBx.out.cell
    by_cases hq0 : q = 0
    · subst hq0
      have hyn : y = [] := List.eq_nil_of_length_eq_zero HQ.out
      have hxs : x = s := by have := HXS.out; rw [hyn] at this; simpa using this
      have HOx : Hid (wr.ownsRow (w.heap.size + 1) 5 1 (.slice (some ⟨w.heap.size + 1, 0, none⟩) m m) m (x.map (fun c => Value.int .u8 (c.toNat : Int)))) := Lib.hid (by have := HO.out; rw [← hxs] at this; simpa [filled] using this)
      have cv := run_convert_bytes_arg (P := Try.prog) wr 76 5 Try.underlying76 Try.underlying5 (w.heap.size + 1) 0 m m (x.map (fun c => (c.toNat : Int))) (by simp [HM.out]) (fun i hi => by
        rw [Nat.zero_add, HOx.out.cellAt i (by simp; omega)]
        have hl : i < x.length := by rw [HM.out]; exact hi
        simp [List.getD, hl]) 9 Try.underlying9
      rw [strOf_txt] at cv
      clear hyn hxs
      have hneg : ¬ ((0 : Int) ≤ ((0 : Nat) : Int) - 1) := by omega
      go_wp2
      go_ret
      exact ⟨rfl, HBw.out⟩
    · obtain ⟨q', rfl⟩ : ∃ q', q = q' + 1 := ⟨q - 1, by omega⟩
      have e1 : ((q' + 1 : Nat) : Int) - 1 = (q' : Int) := by omega
      rw [e1]
      clear e1
      have hjn : j < n := by omega
      have hj0 : j ≠ 0 := by
        rintro rfl
        have := HY.out
        rw [HT.out.nil] at this
        have h2 := HQ.out
        rw [← Option.some.inj this] at h2
        simp at h2
      obtain ⟨b2, o2, l, pj, ej, rfl, hbB2, hdj, hlj, hpj, hc1, hc2, hc3⟩ := (H.out.keep (HBw.out.mono HB.out)).elem j hjn
      have hst : ∃ (p2 : Nat) (v : Txt) (ch : UInt8), pj = (p2 : Int) ∧ p2 < j ∧ l = (ch.toNat : Int) - 97 ∧ 97 ≤ ch.toNat ∧ ch.toNat ≤ 122 ∧ ps[p2]? = some v ∧ y = v ++ [ch] := by
        obtain ⟨p2, v, ch, f1, f2, f3, f4, f5, f6, f7⟩ := HT.out.step j _ (by omega) hjk hdj
        rw [HY.out] at f7
        exact ⟨p2, v, ch, f1, f2, f3, f4, f5, f6, Option.some.inj f7⟩
      obtain ⟨p2, v, ch, rfl, hpj2, hlc, c0, c1, hv, hyv⟩ := hst
      have HV := Lib.hid hv
      have HQ2 : Hid (v.length = q') := Lib.hid (by have := HQ.out; rw [hyv] at this; simpa using this)
      have HXS2 : Hid (x = v ++ (ch :: s)) := Lib.hid (by have := HXS.out; rw [hyv] at this; simpa using this)
      have hqm : q' < m := by
        have h1 := HXS2.out
        have h2 := HM.out
        have h3 := HQ2.out
        rw [h1] at h2
        simp at h2
        omega
      have cT := Lib.hid (letterAt_raw B (some ⟨b2, o2, none⟩) n c j t ⟨l, (p2 : Int), ej⟩ wr (Nat.le_trans HB.out HBw.out.size) (H.out.keep (HBw.out.mono HB.out)) hdj (by show 0 ≤ l; omega) (by show l ≤ 25; omega))
      have e2 : (97 : Int) + l = (ch.toNat : Int) := by omega
      simp only at cT
      rw [e2] at cT
      have HC2 := Lib.hid hc2
      have hbr := HBw.out.size
      clear hv hyv hdj hc1 hc2 hc3 hlc e2
      go_wp2_with fail
      refine cT.out.mono ?_
      rintro e w2 ⟨rfl, hb2⟩
      have HO2 := Lib.hid (own_stay HO.out hb2)
      have hrl : w.heap.size + 1 < wr.heap.size := (own_ge HO.out (g := w.heap.size + 1) rfl).2
      have HBy : Hid (Boxed w2 w.heap.size 30 (.slice (some ⟨b2, o2, none⟩) n c)) := Lib.hid ((hb2.block w.heap.size (by omega)).trans HBx.out)
      have HBw2 := Lib.hid (HBw.out.trans (hb2.mono HBw.out.size))
      have hc2w := (hb2.cell (p := ⟨b2, o2 + j * 3 + 1, none⟩) (by have := HB.out; simp; omega)).trans HC2.out
      have hf := HO2.out.frozenAt q'
      have hd := HO2.out.cellAt q' (by omega)
      rw [filled_at (by omega)] at hd
      have HS := Lib.hid ((HO2.out.stored q' (.int .u8 (ch.toNat : Int))).1)
      have HS2 : Hid ((w2.setCell ⟨w.heap.size + 1, q', none⟩ (.int .u8 (ch.toNat : Int))).ownsRow (w.heap.size + 1) 5 1 (.slice (some ⟨w.heap.size + 1, 0, none⟩) m m) m (filled q' (ch :: s))) := Lib.hid (by have := HS.out; rwa [filled_set] at this)
      have HBx2 : Hid (Boxed (w2.setCell ⟨w.heap.size + 1, q', none⟩ (.int .u8 (ch.toNat : Int))) w.heap.size 30 (.slice (some ⟨b2, o2, none⟩) n c)) := Lib.hid ((Below.heap_setCell w2 ⟨w.heap.size + 1, q', none⟩ _ w.heap.size (by simp)).trans HBy.out)
      clear HS hb2 hbx
      obtain ⟨cn, hcn⟩ : ∃ cn : Int, (ch.toNat : Int) = cn := ⟨_, rfl⟩
      rw [hcn] at HS2 HBx2 ⊢
      have hneq : decide ((0 : Int) ≤ (q' : Int)) = true := by simp
      have hb2w : b2 < w.heap.size := by have := HB.out; omega
      have hbx2 := HBx2.out.cell
      have hc2b := (World.cell?_setCell_other w2 ⟨w.heap.size + 1, q', none⟩ ⟨b2, o2 + j * 3 + 1, none⟩ (.int .u8 cn) (by intro e; injection e with e1; omega)).trans hc2w
      clear hcn c0 c1
      go_wp2
      go_roundw
      case rel => exact ⟨p2, q', v, ch :: s, by omega, by omega, rfl, rfl, HQ2, HV, HXS2, HS2, Lib.hid (HBw2.out.setCell (by simp) _), HBx2⟩
      case measure => first | (simp [intOf]; done) | (simp [intOf]; omega)

end Go.Proofs.Ytfehfjnmkaifbab
