/-
  The program's text for what is behind a node.
-/
import Derived.Test.YtmgieahachphmabDoorEdgesAt
import Derived.Test.YtmgieahachphmabDoorShelf
import Derived.Lib.AppendIntMem
import Derived.Lib.ItoaLen
import Derived.Laws.IdiomStrings
import Derived.Laws.BytesArg
import Derived.Deep.DeepCutAuto
namespace Go.Proofs.YtmgieahachphmabDoor
open Go.RowKit
set_option linter.unusedVariables false

theorem infoY : (Tryd.prog.info? 5).map (fun i => (i.zero, i.size, i.bytes)) = some (some (.int .u8 0), 1, 1) := by kernel_rfl

/-- the text of an edge, and of what is told of a node -/
def et (p : Int × Nat) : List UInt8 := UInt8.ofNat (97 + p.1).toNat :: Lib.itoa (p.2 : Int)
def etl (l : List (Int × Nat)) : List UInt8 := l.flatMap et
def ets (s : Sg) : List UInt8 := (if s.1 then [46] else []) ++ etl s.2

theorem ecells_at : ∀ {l : List (Int × Nat)} {j : Nat} {x : Int} {y : Nat}, l[j]? = some (x, y) → (ecells l)[j * 2]? = some (.int .i64 x) ∧ (ecells l)[j * 2 + 1]? = some (.int .i64 (y : Int))
  | [], j, x, y, h => by simp at h
  | a :: l, 0, x, y, h => by
    simp at h
    subst h
    exact ⟨rfl, rfl⟩
  | a :: l, j + 1, x, y, h => by
    have := ecells_at (l := l) (j := j) (x := x) (y := y) (by simpa using h)
    have e : (j + 1) * 2 = j * 2 + 2 := by omega
    rw [e]
    simpa [ecells] using this

theorem ownE_at {base : Nat} {W : World} {a : Option Addr} {m c j : Nat} {l : List (Int × Nat)} {x : Int} {y : Nat} (h : W.ownsRow base 84 2 (.slice a m c) m (ecells l)) (hj : l[j]? = some (x, y)) : ∃ g, a = some ⟨g, 0, none⟩ ∧ g < W.heap.size ∧ W.cell? ⟨g, j * 2, none⟩ = some (.int .i64 x) ∧ W.cell? ⟨g, j * 2 + 1, none⟩ = some (.int .i64 (y : Int)) := by
  have hjl := (List.getElem?_eq_some_iff.1 hj).1
  have hl : l.length * 2 = m * 2 := by rw [← ecells_len]; exact h.1
  have hc := ecells_at hj
  cases a with
  | none =>
    rcases h.2 with ⟨e, _⟩ | ⟨g, cap, cur, e, _⟩
    · injection e with e1 e2 e3
      omega
    · cases e
  | some ad =>
    rcases h.2 with ⟨e, _⟩ | ⟨g, cap, cur, e, h2⟩
    · cases e
    · injection e with e1 e2 e3
      injection e1 with e1
      subst e1
      exact ⟨g, rfl, (own_ge h rfl).2, (h.cellAt (j * 2) (by omega)).trans hc.1, (h.cellAt (j * 2 + 1) (by omega)).trans hc.2⟩

/-- a text that grows -/
structure TX (base : Nat) (W1 wr : World) (v : Value) (tt : List UInt8) : Prop where
  own : wr.ownsRow base 5 1 v tt.length (Lib.byteCells tt)
  bel : Below base W1 wr

theorem bcells_app (x y : List UInt8) : Lib.byteCells (x ++ y) = Lib.byteCells x ++ Lib.byteCells y := by simp [Lib.byteCells]

theorem TX.more {base : Nat} {W1 W2 w3 : World} {v v' : Value} {tt : List UInt8} {c : UInt8} {z : Int} (h : TX base W1 W2 v tt) (hz : z = (c.toNat : Int)) (hO : w3.ownsRow base 5 1 v' (tt.length + 1) (Lib.byteCells tt ++ [.int .u8 z])) (hb : Below base W1 w3) : TX base W1 w3 v' (tt ++ [c]) := by
  subst hz
  refine ⟨?_, hb⟩
  rw [List.length_append, bcells_app]
  exact hO

theorem conv_own {base : Nat} {w : World} {v : Value} {tt : List UInt8} (h : w.ownsRow base 5 1 v tt.length (Lib.byteCells tt)) : (convert 122 9 v).run Tryd.prog w = .ok (.string ⟨tt.toArray⟩) w := by
  obtain ⟨a, c, rfl⟩ := own_slice h
  rcases h.2 with ⟨e, h0⟩ | ⟨g, cap, cur, e, h2⟩
  · have e2 : tt = [] := by
      injection e with _ e3 _
      exact List.eq_nil_of_length_eq_zero e3
    subst e2
    rw [e]
    exact run_convert_bytes_nil w 122 5 Tryd.underlying122 Tryd.underlying5 0 0 _ Tryd.underlying9
  · have h' := h
    rw [e] at h' ⊢
    exact run_convert_bytes_back w 122 9 5 ⟨g, 0, none⟩ cap tt Tryd.underlying122 Tryd.underlying5 Tryd.underlying9 (fun j hj => by
      have hadd : (Addr.add ⟨g, 0, none⟩ j) = ⟨g, j, none⟩ := by cases j <;> simp [Addr.add]
      rw [hadd, h'.cellAt j (by omega)]
      simp [Lib.byteCells, hj])

theorem lit_ownY {W : World} {o : Obj} : ((W.alloc o).alloc (.cells #[] 5)).ownsRow (W.heap.size + 1) 5 1 (.slice (some ⟨W.heap.size + 1, 0, none⟩) 0 0) 0 [] := by
  have := World.ownsRow_lit (base := W.heap.size + 1) (e := 5) (size := 1) (W.alloc o) #[] 0 (by simp) (by unfold maxLen; omega) rfl
  simpa using this

theorem etl_app (x y : List (Int × Nat)) : etl (x ++ y) = etl x ++ etl y := by simp [etl]
theorem etl_len : ∀ l : List (Int × Nat), (∀ p ∈ l, p.2 ≤ 1000) → (etl l).length ≤ 22 * l.length
  | [], _ => Nat.le_refl _
  | p :: l, h => by
    have ih := etl_len l (fun q hq => h q (List.mem_cons_of_mem _ hq))
    have hp := h p (by simp)
    have hi := Lib.itoa_length_le (p.2 : Int) (by omega) (by omega)
    have e : etl (p :: l) = et p ++ etl l := rfl
    rw [e, List.length_append]
    simp only [et, List.length_cons]
    omega

theorem TX.edge {base : Nat} {W1 wr w4 : World} {o1 o2 : Obj} {v v4 : Value} {tt : List UInt8} {c : UInt8} {z : Int} (h : TX base W1 wr v tt) (hbase : base ≤ wr.heap.size) (hz : z = (c.toNat : Int)) (hO : w4.ownsRow base 5 1 v4 (tt.length + 1) (Lib.byteCells tt ++ [.int .u8 z])) (hG : ((wr.alloc o1).alloc o2).grownBy w4 v.ownBlock) :
    TX base W1 w4 v4 (tt ++ [c]) ∧ ∀ k, w4.cell? ⟨wr.heap.size, k, none⟩ = (wr.alloc o1).cell? ⟨wr.heap.size, k, none⟩ := by
  have hs : (wr.alloc o1).heap.size = wr.heap.size + 1 := by simp
  have hs2 : ((wr.alloc o1).alloc o2).heap.size = wr.heap.size + 2 := by simp
  have hne : some wr.heap.size ≠ v.ownBlock := fun e => by
    have := (own_ge h.own e.symm).2
    omega
  refine ⟨h.more hz hO (h.bel.trans ((((Below.refl _ _).alloc hbase _).alloc (by omega) _).trans (below_grown ((h.own.alloc _).alloc _) (Nat.le_refl _) (by omega) hG))), fun k => ?_⟩
  have h1 := World.cell?_of_block (w := (wr.alloc o1).alloc o2) (w' := w4) (a := ⟨wr.heap.size, k, none⟩) (hG.block wr.heap.size (by omega) hne)
  rw [h1]
  exact ((Below.refl (wr.heap.size + 1) (wr.alloc o1)).alloc (by omega) o2).cell (p := ⟨wr.heap.size, k, none⟩) (by show wr.heap.size < wr.heap.size + 1; omega)

theorem TX.num {base : Nat} {W1 w4 w5 : World} {v4 v5 : Value} {tt : List UInt8} {y : Nat} (h : TX base W1 w4 v4 tt) (hO : w5.ownsRow base 5 1 v5 (tt.length + (Lib.itoa (y : Int)).length) (Lib.byteCells tt ++ Lib.byteCells (Lib.itoa (y : Int)))) (hb : Below base w4 w5) : TX base W1 w5 v5 (tt ++ Lib.itoa (y : Int)) :=
  ⟨by rw [List.length_append, bcells_app]; exact hO, h.bel.trans hb⟩

set_option maxRecDepth 1000000 in
set_option maxHeartbeats 4000000 in
theorem endsText_any (B base : Nat) (s : Sg) (v : Value) (m : Nat) (w : World) (hm : s.2.length = m) (hm2 : m ≤ 481) (hl : ∀ p ∈ s.2, 0 ≤ p.1 ∧ p.1 ≤ 25 ∧ p.2 ≤ 1000) (hB : B ≤ w.heap.size) (htab : Lib.TabBelow Tryd.prog B w "internal/strconv.uint64pow10" .u64 Lib.pow10Tab) (hE : w.ownsRow base 84 2 v m (ecells s.2)) :
    Calls Tryd.prog 78 #[.agg #[.bool s.1, v]] w fun e w' => e = .returned (.string ⟨(ets s).toArray⟩) ∧ Below w.heap.size w w' := by
  obtain ⟨i0, hii, hz0, hz1, hz2⟩ := info_parts infoY
  obtain ⟨ea, l⟩ := s
  change l.length = m at hm
  change ∀ p ∈ l, 0 ≤ p.1 ∧ p.1 ≤ 25 ∧ p.2 ≤ 1000 at hl
  change w.ownsRow base 84 2 v m (ecells l) at hE
  show Calls Tryd.prog 78 #[.agg #[.bool ea, v]] w _
  obtain ⟨ae, ce, rfl⟩ := own_slice hE
  have hb1 : Below w.heap.size w (w.alloc (.cells #[.bool ea, .slice ae m ce] 82)) := (Below.refl _ _).alloc (Nat.le_refl _) _
  have hbx0 : (w.alloc (.cells #[.bool ea, .slice ae m ce] 82)).cell? ⟨w.heap.size, 0, none⟩ = some (.bool ea) := by simp
  have hbx1 : (w.alloc (.cells #[.bool ea, .slice ae m ce] 82)).cell? ⟨w.heap.size, 1, none⟩ = some (.slice ae m ce) := by simp
  have hsz1 : (w.alloc (.cells #[.bool ea, .slice ae m ce] 82)).heap.size = w.heap.size + 1 := by simp
  have hO2 := lit_ownY (W := w) (o := .cells #[.bool ea, .slice ae m ce] 82)
  have hb2 : Below (w.heap.size + 1) (w.alloc (.cells #[.bool ea, .slice ae m ce] 82)) ((w.alloc (.cells #[.bool ea, .slice ae m ce] 82)).alloc (.cells #[] 5)) := (Below.refl _ _).alloc (by rw [hsz1]; exact Nat.le_refl _) _
  have hbw : Below w.heap.size w ((w.alloc (.cells #[.bool ea, .slice ae m ce] 82)).alloc (.cells #[] 5)) := hb1.trans (hb2.mono (by omega))
  have hx0 := (hb2.cell (p := ⟨w.heap.size, 0, none⟩) (by show w.heap.size < w.heap.size + 1; omega)).trans hbx0
  have hx1 := (hb2.cell (p := ⟨w.heap.size, 1, none⟩) (by show w.heap.size < w.heap.size + 1; omega)).trans hbx1
  have hsz2 : ((w.alloc (.cells #[.bool ea, .slice ae m ce] 82)).alloc (.cells #[] 5)).heap.size = w.heap.size + 2 := by simp
  obtain ⟨W1, hW1⟩ : ∃ W1, (w.alloc (.cells #[.bool ea, .slice ae m ce] 82)).alloc (.cells #[] 5) = W1 := ⟨_, rfl⟩
  rw [hW1] at hO2 hbw hx0 hx1 hsz2
  have HC : Hid (∀ W, Below (w.heap.size + 1) W1 W → W.cell? ⟨w.heap.size, 0, none⟩ = some (.bool ea) ∧ W.cell? ⟨w.heap.size, 1, none⟩ = some (.slice ae m ce) ∧ W.ownsRow base 84 2 (.slice ae m ce) m (ecells l) ∧ Lib.TabBelow Tryd.prog (w.heap.size + 1) W "internal/strconv.uint64pow10" .u64 Lib.pow10Tab) := Lib.hid (fun W hb =>
    ⟨(hb.cell (p := ⟨w.heap.size, 0, none⟩) (by show w.heap.size < w.heap.size + 1; omega)).trans hx0, (hb.cell (p := ⟨w.heap.size, 1, none⟩) (by show w.heap.size < w.heap.size + 1; omega)).trans hx1, own_stay hE (hbw.trans (hb.mono (by omega))), fun w' hb' => htab w' (((hbw.trans (hb.mono (by omega))).mono hB).trans (hb'.mono (by omega)))⟩)
  have HBW := Lib.hid hbw
  have HZ2 := Lib.hid hsz2
  have HX0 : Hid (TX (w.heap.size + 1) W1 W1 (.slice (some ⟨w.heap.size + 1, 0, none⟩) 0 0) []) := Lib.hid ⟨hO2, Below.refl _ _⟩
  have HM := Lib.hid hm
  have HLt := Lib.hid hl
  clear hb1 hE htab hm hl hbx0 hbx1 hsz1 hO2 hb2 hbw hsz2
  go_enter Tryd.func78, Tryd.ntmps78
  go_upto_if 8 with fail
  go_cut [3] (fun s3 wx => ∃ v, v = s3 ∧ Hid (TX (w.heap.size + 1) W1 wx v (if ea then [46] else [])))
  case first =>
    cases ea with
    | false =>
      go_wp2
      go_meet
      exact ⟨_, rfl, HX0⟩
    | true =>
      go_wp2_with (at_builtin; go_loud (refine wpList_append_own_at _ rfl _ _ 122 rfl (w.heap.size + 1) 5 i0 (.int .u8 0) 1 1 Tryd.underlying122 hii hz0 hz1 hz2 rfl (by decide) _ _ _ rfl (HX0.out.own.alloc _) ⟨_, 0, none⟩ 1 1 [.int .u8 46] rfl rfl (cell_one_new _ _ _) (by simp [Value.oneCell']) (by unfold maxLen; simp) (by simp) (by have := HZ2.out; simp; omega) ?_); intro v' w4 hown' hgrow _ hat; have HA2 := Lib.hid (HX0.out.more (c := 46) rfl hown' (((Below.refl _ _).alloc (by have := HZ2.out; omega) _).trans (below_grown (HX0.out.own.alloc _) (Nat.le_refl _) (by have := HZ2.out; simp; omega) hgrow))); clear hown' hgrow hat)
      go_meet
      exact ⟨_, rfl, HA2⟩
  case rest =>
    obtain ⟨v3, rfl, HX⟩ := hcut
    rename World => w3
    have HT0 : Hid ((if ea then [46] else []) ++ etl (l.take 0) = (if ea then [46] else [])) := Lib.hid (by simp [etl])
    have HT1 : Hid (ets (ea, l) = (if ea then [46] else []) ++ etl l) := Lib.hid rfl
    obtain ⟨t0, ht0⟩ : ∃ t0 : List UInt8, (if ea then [46] else []) = t0 := ⟨_, rfl⟩
    have HLn : Hid (t0.length ≤ 1) := Lib.hid (by rw [← ht0]; cases ea <;> simp)
    rw [ht0] at HX HT0 HT1
    clear ht0 HX0
    obtain ⟨hx0, hx1, _, _⟩ := HC.out _ HX.out.bel
    have HS3 : Hid (w.heap.size + 1 ≤ w3.heap.size) := Lib.hid (by have := HX.out.bel.size; have := HZ2.out; omega)
    go_wp2_with fail
    go_loopw [3, 5, 15] (fun p3 p5 p15 wr => ∃ (j : Nat) (v : Value), j ≤ m ∧ p3 = v ∧ (∃ z : Value, p5 = z) ∧ p15 = .int .i64 (j : Int) ∧ Hid (TX (w.heap.size + 1) W1 wr v (t0 ++ etl (l.take j)))) (fun _ _ p15 _ => m - (intOf p15).toNat)
    case atStart => exact ⟨0, _, Nat.zero_le _, rfl, ⟨_, rfl⟩, rfl, Lib.hid (by rw [HT0.out]; exact HX.out)⟩
    case round =>
      clear HX hx0 hx1
      obtain ⟨j, v, hj, rfl, ⟨z, rfl⟩, rfl, HXr⟩ := hrel
      obtain ⟨hx0, hx1, hE, htb⟩ := HC.out _ HXr.out.bel
      by_cases hlt : j < m
      · obtain ⟨⟨x, y⟩, hxy⟩ : ∃ p, l[j]? = some p := ⟨_, List.getElem?_eq_getElem (by rw [HM.out]; exact hlt)⟩
        obtain ⟨hl0, hl25, hy⟩ := HLt.out (x, y) (by obtain ⟨h1, h2⟩ := List.getElem?_eq_some_iff.1 hxy; rw [← h2]; exact List.getElem_mem _)
        change 0 ≤ x at hl0
        change x ≤ 25 at hl25
        change y ≤ 1000 at hy
        obtain ⟨g, rfl, hgl, hc0, hc1⟩ := ownE_at hE hxy
        have HTk : Hid (t0 ++ etl (l.take j) ++ [UInt8.ofNat (97 + x).toNat] ++ Lib.itoa (y : Int) = t0 ++ etl (l.take (j + 1))) := Lib.hid (by
          have h1 : l.take (j + 1) = l.take j ++ [(x, y)] := by rw [List.take_add_one, hxy]; rfl
          rw [h1, etl_app]
          simp [etl, et])
        have HLe : Hid ((t0 ++ etl (l.take j)).length ≤ 20000) := Lib.hid (by
          have h1 := etl_len (l.take j) (fun p hp => (HLt.out p (List.mem_of_mem_take hp)).2.2)
          have h2 := List.length_take_le j l
          have h3 := HLn.out
          rw [List.length_append]
          omega)
        obtain ⟨tt, htt⟩ : ∃ tt, t0 ++ etl (l.take j) = tt := ⟨_, rfl⟩
        rw [htt] at HXr HTk HLe
        have HQ : Hid (97 + x = ((UInt8.ofNat (97 + x).toNat).toNat : Int)) := Lib.hid (by
          have e8 : (UInt8.ofNat (97 + x).toNat).toNat = (97 + x).toNat := by
            rw [UInt8.toNat_ofNat']
            exact Nat.mod_eq_of_lt (by omega)
          rw [e8]
          omega)
        have HSr : Hid (w.heap.size + 1 ≤ wr.heap.size) := Lib.hid (by have := HXr.out.bel.size; have := HZ2.out; omega)
        have HTB := Lib.hid htb
        have HY := Lib.hid hy
        have hj0 : (0 : Int) ≤ (j : Int) := by omega
        have hj1 : (j : Int) < (m : Int) := by omega
        clear hxy htt hgl hE htb hx0 hx1 hy
        go_wp2_with (first
          | (at_builtin; go_loud (refine wpList_append_own_at _ rfl _ _ 122 rfl (w.heap.size + 1) 5 i0 (.int .u8 0) 1 1 Tryd.underlying122 hii hz0 hz1 hz2 rfl (by decide) _ _ _ rfl ((HXr.out.own.alloc _).alloc _) ⟨wr.heap.size + 1, 0, none⟩ 1 1 [.int .u8 (97 + x)] rfl rfl (news_at (cs := #[.int .u8 (97 + x)]) (World.size_alloc _ _)) (by simp [Value.oneCell']) (by have := HLe.out; unfold maxLen; omega) (by have := HLe.out; omega) (by have := HSr.out; simp; omega) ?_); intro v4 w4 hO4 hG4 _ _; have HX4 := Lib.hid (HXr.out.edge HSr.out HQ.out hO4 hG4); have hcy : w4.cell? ⟨wr.heap.size, 1, none⟩ = some (.int .i64 (y : Int)) := (HX4.out.2 1).trans (by simp); have HB4 : Hid (w.heap.size + 1 ≤ w4.heap.size) := Lib.hid (by have := HX4.out.1.bel.size; have := HZ2.out; omega); clear hO4 hG4))
        have hln : (tt ++ [UInt8.ofNat (97 + x).toNat]).length + 21 ≤ 140737488355328 := by
          have := HLe.out
          rw [List.length_append, List.length_singleton]
          omega
        refine (Tryd.strconv_AppendInt_10 (w.heap.size + 1) _ (y : Int) (by have := HY.out; omega) (by have := HY.out; omega) v4 _ w4 HX4.out.1.own HB4.out hln (HC.out _ HX4.out.1.bel).2.2.2).mono ?_
        rintro e w5 ⟨v5, rfl, hO5, hb5, _⟩
        have HX5 := Lib.hid (HX4.out.1.num hO5 hb5)
        clear hO5 hb5 hcy hln
        go_wp2
        go_roundw
        case rel => exact ⟨j + 1, v5, hlt, rfl, ⟨_, rfl⟩, by go_num, Lib.hid (by rw [← HTk.out]; exact HX5.out)⟩
        case measure => simp [intOf]; omega
      · obtain rfl : j = m := by omega
        have hcv := conv_own HXr.out.own
        go_wp2
        go_ret
        refine ⟨?_, HBW.out.trans (HXr.out.bel.mono (by omega))⟩
        rw [HT1.out, ← HM.out, List.take_length]
        rfl

end Go.Proofs.YtmgieahachphmabDoor
