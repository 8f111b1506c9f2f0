/-
  The contract of the program's SplitString: a range over a function that tells the parts.
-/
import Derived.RangeFuncBox
import Derived.RangeFuncLeaves
import Derived.Shelf.Abstract
import Derived.WalkKit
import Derived.OwnWalkIn
import Derived.TacticsInMore
import Derived.LoopNIn
import Derived.LoopIn
import Derived.Maps.AppendAt
import Derived.Maps.OwnIn
import Derived.Sort.QuietIn
import Derived.Sort.BigQuietIn
import Derived.Test.YtlkajncgbnkkgaaSplitSpecWalk
namespace Go.Proofs.Ytlkajncgbnkkgaa
open Go.RowKit Go.Shelf
set_option linter.unusedVariables false

attribute [local go_sem] Oper.semAt_some

/-- two blocks are as they were -/
def KeepTwo (a b : Nat) (A B : World) : Prop := B.heap[a]? = A.heap[a]? ∧ B.heap[b]? = A.heap[b]?
theorem KeepTwo.refl (a b : Nat) (A : World) : KeepTwo a b A A := ⟨rfl, rfl⟩
theorem KeepTwo.trans {a b : Nat} {A B C : World} (h : KeepTwo a b A B) (k : KeepTwo a b B C) : KeepTwo a b A C := ⟨k.1.trans h.1, k.2.trans h.2⟩
theorem KeepTwo.drewN {a b : Nat} {A B : World} (h : KeepTwo a b A B) (n : Nat) : KeepTwo a b A (B.drewN n) := h
theorem KeepTwo.cell1 {a b : Nat} {A B : World} (h : KeepTwo a b A B) {v : Value} (hc : A.cell? ⟨a, 0, none⟩ = some v) : B.cell? ⟨a, 0, none⟩ = some v := (World.cell?_of_block (a := ⟨a, 0, none⟩) h.1).trans hc
theorem KeepTwo.cell2 {a b : Nat} {A B : World} (h : KeepTwo a b A B) {v : Value} (hc : A.cell? ⟨b, 0, none⟩ = some v) : B.cell? ⟨b, 0, none⟩ = some v := (World.cell?_of_block (a := ⟨b, 0, none⟩) h.2).trans hc
theorem grownBy_drewN (w : World) (n : Nat) : w.grownBy (w.drewN n) none := ⟨rfl, rfl, rfl, Nat.le_refl _, fun _ _ _ => rfl⟩

set_option maxRecDepth 100000 in
set_option maxHeartbeats 2000000 in
theorem parts1_in (n : Nat) (hn : 1 ≤ n) (l Bs Bx : Nat) (s : ByteArray) (x : UInt8) (hs : s.size ≤ 4000) (J Jx : List ByteArray → World → Prop)
    (hY : ∀ pre y W, J pre W → pre.length < s.size + 1 → YieldAt Fence.wide (n - 1) Try.prog l #[.string y] W fun e W' =>
      (e = .returned (.bool true) ∧ J (pre ++ [y]) W' ∧ KeepTwo Bs Bx W W') ∨ (e = .returned (.bool false) ∧ Jx (pre ++ [y]) W'))
    (W : World) (hBs : W.cell? ⟨Bs, 0, none⟩ = some (.string s)) (hBx : W.cell? ⟨Bx, 0, none⟩ = some (.int .u8 (x.toNat : Int))) (hJ : AbidesFrom W.heap.size J) (h0 : J [] W) :
    CallsIn Fence.wide n Try.prog 30 #[.func (.yield l) #[] #[], .pointer (some ⟨Bs, 0, none⟩), .pointer (some ⟨Bx, 0, none⟩)] W fun e W' => (∃ v, e = .returned v) ∧
      ((∃ ys, ys = spl s x ∧ J ys W') ∨ (∃ pre : List ByteArray, True ∧ Jx pre W')) := by
  refine callsIn_of_wp Try.func30 rfl trivial ?_ rfl
  simp only [Try.ntmps30, List.size_toArray, List.length_cons, List.length_nil, Nat.reduceAdd, Nat.reduceSub, Array.replicate_succ, Array.replicate_zero, List.push_toArray, List.append_toArray, List.nil_append, List.cons_append]
  gi_wp2
  gi_loopw [4, 8] (fun st i wr => ∃ (k f : Nat), k ≤ s.size ∧ i = .int .i64 k ∧ st = .int .i64 f ∧ f ≤ k ∧ Hid (f = splF s x k) ∧ J (splP s x k) wr ∧ KeepTwo Bs Bx W wr)
    (fun _ i _ => s.size - (intOf i).toNat)
  case atStart => exact ⟨0, 0, Nat.zero_le _, rfl, rfl, Nat.le_refl _, Lib.hid rfl, h0, KeepTwo.refl _ _ _⟩
  case round =>
    obtain ⟨k, f, hk, rfl, rfl, hfk, HF, hJs, hkt⟩ := hrel
    have hc1 := hkt.cell1 hBs
    have hc2 := hkt.cell2 hBx
    by_cases hlt : k < s.size
    · have hki : (k : Int) < (s.size : Int) := by omega
      have hk0 : (0 : Int) ≤ (k : Int) := by omega
      have hfki : (f : Int) ≤ (k : Int) := by omega
      by_cases hx : s[k] = x
      · have hq : ((s[k].toNat : Int) != (x.toNat : Int)) = false := by rw [hx]; simp
        have HP : Hid (splP s x (k + 1) = splP s x k ++ [s.extract f k] ∧ k + 1 = splF s x (k + 1)) := Lib.hid ⟨by rw [splP_hit hlt hx, ← HF.out], (splF_hit hlt hx).symm⟩
        clear hx
        gi_wp2
        gi_quiet (fail)
        have hJd := hJ _ _ _ none hJs (grownBy_drewN wr nq) (by simp)
        obtain ⟨fn, tmps, assign, body, hy, hR⟩ := hY _ (s.extract f k) (wr.drewN nq) hJd (by have := splP_len s x k; omega)
        gi_wp2
        refine hR.mono ?_
        rintro e W3 (⟨rfl, hJ3, hk3⟩ | ⟨rfl, hJx3⟩)
        · have hkt3 : KeepTwo Bs Bx W W3 := (hkt.drewN nq).trans hk3
          gi_wp2
          go_roundw
          case rel => exact ⟨k + 1, k + 1, by omega, by go_num, by go_num, Nat.le_refl _, Lib.hid HP.out.2, by rw [HP.out.1]; exact hJ3, hkt3⟩
          case measure => simp [intOf]; omega
        · gi_wp2
          refine bodyPost_ret (results_none rfl _ _ _) rfl ?_
          exact ⟨⟨_, rfl⟩, .inr ⟨_, trivial, hJx3⟩⟩
      · have hq : ((s[k].toNat : Int) != (x.toNat : Int)) = true := by
          rw [bne, byte_eq]
          simp [hx]
        have HP : Hid (splP s x (k + 1) = splP s x k ∧ f = splF s x (k + 1)) := Lib.hid ⟨splP_miss hlt hx, by rw [splF_miss hlt hx, ← HF.out]⟩
        clear hx
        gi_wp2
        gi_quiet (fail)
        have hJd := hJ _ _ _ none hJs (grownBy_drewN wr nq) (by simp)
        gi_wp2
        go_roundw
        case rel => exact ⟨k + 1, f, by omega, by go_num, rfl, by omega, Lib.hid HP.out.2, by rw [HP.out.1]; exact hJd, hkt.drewN nq⟩
        case measure => simp [intOf]; omega
    · have e : k = s.size := by omega
      subst e
      have hki : ¬ (s.size : Int) < (s.size : Int) := by omega
      have hfi : (f : Int) ≤ (s.size : Int) := by omega
      have HP : Hid (spl s x = splP s x s.size ++ [s.extract f s.size]) := Lib.hid (by unfold spl; rw [← HF.out])
      obtain ⟨fn, tmps, assign, body, hy, hR⟩ := hY _ (s.extract f s.size) wr hJs (by have := splP_len s x s.size; omega)
      gi_wp2
      refine hR.mono ?_
      rintro e W3 (⟨rfl, hJ3, hk3⟩ | ⟨rfl, hJx3⟩)
      · gi_wp2
        go_end0
        exact ⟨⟨_, rfl⟩, .inl ⟨_, rfl, by rw [HP.out]; exact hJ3⟩⟩
      · gi_wp2
        go_end0
        exact ⟨⟨_, rfl⟩, .inr ⟨_, trivial, hJx3⟩⟩

theorem keepTwo_b {a b : Nat} {w : World} (ha : a < w.heap.size) (hb : b < w.heap.size) (W : World) (l : Nat) (o o' : Obj) (hl : w.heap.size ≤ l) (h : W.heap[l]? = some o) (_ : o.isCells = false) (_ : o.isWalk = false) : KeepTwo a b W (W.putObj l o') := by
  have hlt := (Array.getElem?_eq_some_iff.1 h).1
  have g := grownBy_putObj' W l o'
  exact ⟨g.block a (by omega) (by simp; omega), g.block b (by omega) (by simp; omega)⟩

theorem parts_stops (n : Nat) (hn : 1 ≤ n) (Bs Bx : Nat) (s : ByteArray) (x : UInt8) (hs : s.size ≤ 4000) (w : World) (h1 : Bs < w.heap.size) (h2 : Bx < w.heap.size)
    (hBs : w.cell? ⟨Bs, 0, none⟩ = some (.string s)) (hBx : w.cell? ⟨Bx, 0, none⟩ = some (.int .u8 (x.toNat : Int))) :
    SeqStopsK Fence.wide n Try.prog 30 #[.pointer (some ⟨Bs, 0, none⟩), .pointer (some ⟨Bx, 0, none⟩)] (fun y : ByteArray => #[Value.string y]) (KeepTwo Bs Bx) (fun ys => ys = spl s x) (fun _ => True) (s.size + 1) w :=
  fun l J Jx W hW hJ _ hY h0 =>
    parts1_in n hn l Bs Bx s x hs J Jx hY W ((hW.cell (p := ⟨Bs, 0, none⟩) h1).trans hBs) ((hW.cell (p := ⟨Bx, 0, none⟩) h2).trans hBx) hJ h0

theorem partsOf_in (n : Nat) (s : ByteArray) (x : UInt8) (w : World) :
    CallsIn Fence.wide n Try.prog 23 #[.string s, .int .u8 (x.toNat : Int)] w fun e w' => e = .returned (.func (.func 30) #[] #[.pointer (some ⟨w.heap.size, 0, none⟩), .pointer (some ⟨w.heap.size + 1, 0, none⟩)]) ∧
      w' = (w.alloc (.cells #[.string s] 9)).alloc (.cells #[.int .u8 (x.toNat : Int)] 5) := by
  refine callsIn_of_wp Try.func23 rfl trivial ?_ rfl
  simp only [Try.ntmps23, List.size_toArray, List.length_cons, List.length_nil, Nat.reduceAdd, Nat.reduceSub, Array.replicate_succ, Array.replicate_zero, List.push_toArray, List.append_toArray, List.nil_append, List.cons_append]
  gi_wp2
  go_ret
  exact ⟨rfl, rfl⟩

theorem implSplit_no (s sep : ByteArray) (w : World) (hs : s.size ≤ 1048576) (hsep : sep.size ≤ 1048576) (hno : ¬ (sep.size = 1 ∧ s.size ≤ 4000)) :
    Calls Try.prog 8 #[.string s, .string sep] w (SplitPost w s sep) := by
  have hown0 := World.ownsRow_lit (base := w.heap.size) (e := 9) (size := 1) w #[] 0 (Nat.le_refl _) (by unfold maxLen; omega) rfl
  have hb0 : Below w.heap.size w ((w.alloc (.cells #[] 9)).alloc (.cells #[.slice (some ⟨w.heap.size, 0, none⟩) 0 0] 26)) := ((Below.refl _ _).alloc (Nat.le_refl _) _).alloc (by simp) _
  have HO := Lib.hid (hown0.alloc (.cells #[.slice (some ⟨w.heap.size, 0, none⟩) 0 0] 26))
  have HN := Lib.hid hno
  clear hown0
  by_cases h2 : 4000 < s.size
  · clear hno
    go_enter Try.func8, Try.ntmps8
    go_wp2
    go_ret2
    exact split_no HN.out HO.out hb0
  · have q1 : ((sep.size : Int) != 1) = true := by simp; omega
    clear hno
    go_enter Try.func8, Try.ntmps8
    go_wp2
    go_ret2
    exact split_no HN.out HO.out hb0

set_option maxRecDepth 100000 in
set_option maxHeartbeats 2000000 in
theorem implSplit_yes (s sep : ByteArray) (w : World) (h1 : sep.size = 1) (h2 : s.size ≤ 4000) :
    Calls Try.prog 8 #[.string s, .string sep] w (SplitPost w s sep) := by
  have HN := Lib.hid (show sep.size = 1 ∧ s.size ≤ 4000 by omega)
  have q1 : ((sep.size : Int) != 1) = false := by rw [h1]; rfl
  obtain ⟨h0, hsb⟩ := sep_one h1
  obtain ⟨x, hx⟩ : ∃ x, sep[0] = x := ⟨_, rfl⟩
  have HX := Lib.hid (show sep.data.toList = [x] by rw [← hx]; exact hsb)
  have s1 : (0 : Int) < (sep.size : Int) := by omega
  clear h1 hsb
  obtain ⟨i0, hi, hz0, hz1, hz2⟩ := info_parts infoS
  refine (callsIn_wide (n := 5)).1 ?_
  refine callsIn_of_wp_marks Try.func8 rfl trivial ?_ rfl
  simp only [Try.ntmps8, List.size_toArray, List.length_cons, List.length_nil, Nat.reduceAdd, Nat.reduceSub, Array.replicate_succ, Array.replicate_zero, List.push_toArray, List.append_toArray, List.nil_append, List.cons_append]
  have q0 : decide ((4000 : Int) < (s.size : Int)) = false := by simp; omega
  gi_wp2_with (refine ⟨trivial, ?_⟩; gi_at_call 23; refine (partsOf_in _ s x _).mono ?_; rintro e w' ⟨rfl, rfl⟩)
  have b0 := Boxed.new (w.alloc (.cells #[] 9)) 26 (.slice (some ⟨w.heap.size, 0, none⟩) 0 0)
  have b1 := Boxed.new ((w.alloc (.cells #[] 9)).alloc (.cells #[.slice (some ⟨w.heap.size, 0, none⟩) 0 0] 26)) 9 (.string s)
  have b2 := Boxed.new (((w.alloc (.cells #[] 9)).alloc (.cells #[.slice (some ⟨w.heap.size, 0, none⟩) 0 0] 26)).alloc (.cells #[.string s] 9)) 5 (.int .u8 (x.toNat : Int))
  have hown0 := World.ownsRow_lit (base := w.heap.size) (e := 9) (size := 1) w #[] 0 (Nat.le_refl _) (by unfold maxLen; omega) rfl
  simp only [World.size_alloc] at b0 b1 b2
  have hB0 : Below w.heap.size w ((((w.alloc (.cells #[] 9)).alloc (.cells #[.slice (some ⟨w.heap.size, 0, none⟩) 0 0] 26)).alloc (.cells #[.string s] 9)).alloc (.cells #[.int .u8 (x.toNat : Int)] 5)) :=
    ((((Below.refl _ w).alloc (Nat.le_refl _) _).alloc (by simp) _).alloc (by simp; omega) _).alloc (by simp; omega) _
  have c0 := (b0.alloc (.cells #[.string s] 9)).alloc (.cells #[.int .u8 (x.toNat : Int)] 5)
  have c1 := b1.alloc (.cells #[.int .u8 (x.toNat : Int)] 5)
  have hown1 := ((hown0.alloc (.cells #[.slice (some ⟨w.heap.size, 0, none⟩) 0 0] 26)).alloc (.cells #[.string s] 9)).alloc (.cells #[.int .u8 (x.toNat : Int)] 5)
  have hsz0 : ((((w.alloc (.cells #[] 9)).alloc (.cells #[.slice (some ⟨w.heap.size, 0, none⟩) 0 0] 26)).alloc (.cells #[.string s] 9)).alloc (.cells #[.int .u8 (x.toNat : Int)] 5)).heap.size = w.heap.size + 4 := by simp
  clear b0 b1 hown0
  obtain ⟨w0, hw0⟩ : ∃ w0, (((w.alloc (.cells #[] 9)).alloc (.cells #[.slice (some ⟨w.heap.size, 0, none⟩) 0 0] 26)).alloc (.cells #[.string s] 9)).alloc (.cells #[.int .u8 (x.toNat : Int)] 5) = w0 := ⟨_, rfl⟩
  rw [hw0] at c0 c1 b2 hown1 hsz0 hB0 ⊢
  clear hw0
  refine wpIn_rangeFunc_ownG (F := Fence.wide) rfl (by omega) (gf := 30) (lb := #[.pointer (some ⟨w.heap.size + 1 + 1, 0, none⟩), .pointer (some ⟨w.heap.size + 1 + 1 + 1, 0, none⟩)]) rfl trivial (enters_of Try.func30 (by kernel_rfl) rfl)
    (parts_stops _ (by omega) (w.heap.size + 1 + 1) (w.heap.size + 1 + 1 + 1) s x h2 _ (by omega) (by omega) c1.cell b2.cell) KeepTwo.trans (keepTwo_b (by omega) (by omega)) (Below.refl _ _) (fun _ => rfl)
    (fun pre W => (∃ v, Boxed W (w.heap.size + 1) 26 v ∧ W.ownsRow w.heap.size 9 1 v pre.length (pre.map Value.string) ∧ (∃ g cap, v = .slice (some ⟨g, 0, none⟩) pre.length cap ∧ (g = w.heap.size ∨ w.heap.size + 4 ≤ g))) ∧ Below w.heap.size w0 W)
    (fun _ _ _ => False)
    (OwnFrom.and (Own.from (holdsRow_own w.heap.size (w.heap.size + 1) 26 9 1 (fun pre : List ByteArray => pre.length) (fun pre : List ByteArray => pre.map Value.string) (fun (pre : List ByteArray) v => ∃ g cap, v = .slice (some ⟨g, 0, none⟩) pre.length cap ∧ (g = w.heap.size ∨ w.heap.size + 4 ≤ g))) _) (ownFrom_below (by omega) (by omega)))
    (fun _ _ _ _ _ hs _ _ => hs)
    ⟨⟨_, c0, hown1, w.heap.size, 0, rfl, .inl rfl⟩, Below.refl _ _⟩
    (fun y => { tmps := #[.string s, .string sep, undef, undef, .slice none 0 0, .bool false, .pointer (some ⟨w.heap.size + 1, 0, none⟩), .string y, .slice (some ⟨w.heap.size, 0, none⟩) 0 0, .string s, .int .i64 s.size,
      .bool false, .bool false, .string sep, .int .i64 sep.size, .bool false, .bool false, undef, .string s, .string sep, .int .u8 x.toNat,
      .func (.func 30) #[] #[.pointer (some ⟨w.heap.size + 1 + 1, 0, none⟩), .pointer (some ⟨w.heap.size + 1 + 1 + 1, 0, none⟩)], .string y, undef, undef, undef, undef, undef], defers := [] }) ?assign ?body ?done ?stop
  case assign =>
    intro l y W K hK
    gi_wp2
    exact hK
  case body =>
    clear c0 c1 b2 hown1
    rintro l pre y W ⟨⟨_, hv, hrow, g, cap, rfl, hg⟩, hB⟩ hlt
    have hc := hv.cell
    have hsz := hB.size
    have hvl := hv.lt
    gi_wp2_with (gi_at_builtin; refine wpListIn_append_own_at _ rfl _ _ 26 rfl w.heap.size 9 i0 (.string ByteArray.empty) 1 16 Try.underlying26 hi hz0 hz1 hz2 rfl (by decide) _ _ _ rfl (hrow.alloc _) ⟨W.heap.size, 0, none⟩ 1 1 [.string y] rfl rfl (cell_one_new _ _ _) (by simp [Value.oneCell']) (by unfold maxLen; omega) (by omega) (by simp; omega) ?_; intro v' w1 hown' hgrow _ hat; obtain ⟨g', cap', rfl⟩ := own_succ hown'; obtain ⟨hv1, hv2, hr2, hk2, hb2⟩ := hv.appended (by decide) hrow (by omega) (Nat.le_succ _) hown' hgrow; have hc1 := hv1.cell; have hf1 := hv1.frozen)
    have hat' : g' = g ∨ g' = W.heap.size + 1 := by
      have h : (some g' : Option Nat) = some g ∨ some g' = some (W.alloc (.cells #[.string y] 9)).heap.size := hat
      simpa using h
    have hgr : (W.alloc (.cells #[.string y] 9)).grownBy w1 (some g) := hgrow
    have keep : ∀ k, k < W.heap.size → k ≠ g → k ≠ w.heap.size + 1 → (w1.setCell ⟨w.heap.size + 1, 0, none⟩ (.slice (some ⟨g', 0, none⟩) (pre.length + 1) cap')).heap[k]? = W.heap[k]? := fun k h1 h2 h3 => by
      rw [Below.heap_setCell _ _ _ _ h3, hgr.block k (by simp; omega) (by simpa using h2), Below.heap_alloc _ _ _ h1]
    exact ⟨hk2.from _, ⟨keep _ (by omega) (by omega) (by omega), keep _ (by omega) (by omega) (by omega)⟩, ⟨_, hv2, by simpa using hr2, g', cap', by simp, by omega⟩, hB.trans hb2⟩
  case done =>
    rintro D ys W hD rfl ⟨⟨_, hv, hrow, g, cap, rfl, hg⟩, hB⟩ hK
    have hc := hv.cell
    gi_wp2
    refine ⟨by simp, .inl ⟨_, _, rfl, run_takeDeferred hK, ?_⟩⟩
    exact ⟨_, results_tmp2 (t := 4) (u := 5) rfl _ _ _, split_yes HN.out HX.out (ownsRow_putObj hrow _ hK rfl) ((hB0.trans hB).trans (belowK_b (w := w) (Nat.le_refl _) W D _ _ (by omega) hK rfl rfl))⟩
  case stop =>
    rintro D c pre W _ _ h _
    exact h.elim

theorem implSplit_any (s sep : ByteArray) (w : World) (hs : s.size ≤ 1048576) (hsep : sep.size ≤ 1048576) :
    Calls Try.prog 8 #[.string s, .string sep] w (SplitPost w s sep) := by
  by_cases h : sep.size = 1 ∧ s.size ≤ 4000
  · exact implSplit_yes s sep w h.1 h.2
  · exact implSplit_no s sep w hs hsep h

end Go.Proofs.Ytlkajncgbnkkgaa
