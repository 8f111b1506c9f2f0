/-
  The library's slices.Backward over a trie's nodes: a range over a function.
-/
import Derived.RangeFuncNested
import Derived.RangeFuncBound
import Derived.RangeFuncCalls
import Derived.RangeFuncLeaves
import Derived.Shelf.Abstract
import Derived.Shelf.RegionOpen
import Derived.WalkKit
import Derived.OwnWalkIn
import Derived.TacticsInMore
import Derived.LoopNIn
import Derived.LoopIn
import Derived.Maps.AppendAt
import Derived.Maps.OwnIn
import Derived.Sort.QuietIn
import Derived.Sort.BigQuietIn
import Derived.Test.YtmgieahachphmabDoorGvT
namespace Go.Proofs.YtmgieahachphmabDoor
open Go.RowKit Go.Shelf
set_option linter.unusedVariables false

attribute [local go_sem] Oper.semAt_some

/-- a node of a trie, with its place -/
structure BN (t : List Nd) where
  i : Nat
  d : Nd
  at' : t[i]? = some d

def BN.vals {t : List Nd} (y : BN t) : Array Value := #[.int .i64 (y.i : Int), .agg #[.int .i64 y.d.l, .int .i64 y.d.p, .bool y.d.e]]

/-- the last k places of m, from the last one back -/
def dwn (m : Nat) : Nat → List Nat
  | 0 => []
  | k + 1 => dwn m k ++ [m - 1 - k]

theorem dwn_len (m : Nat) : ∀ k, (dwn m k).length = k
  | 0 => rfl
  | k + 1 => by rw [dwn, List.length_append, dwn_len m k]; rfl

/-- one block is as it was, and all below B -/
def KeepE (Bt B : Nat) (V W : World) : Prop := W.heap[Bt]? = V.heap[Bt]? ∧ Below B V W
theorem KeepE.refl (Bt B : Nat) (V : World) : KeepE Bt B V V := ⟨rfl, Below.refl _ _⟩
theorem KeepE.trans {Bt B : Nat} {U V W : World} (h : KeepE Bt B U V) (k : KeepE Bt B V W) : KeepE Bt B U W := ⟨k.1.trans h.1, h.2.trans k.2⟩
theorem KeepE.cell {Bt B : Nat} {V W : World} (h : KeepE Bt B V W) {v : Value} (hc : V.cell? ⟨Bt, 0, none⟩ = some v) : W.cell? ⟨Bt, 0, none⟩ = some v := (World.cell?_of_block (a := ⟨Bt, 0, none⟩) h.1).trans hc

set_option maxRecDepth 1000000 in
set_option maxHeartbeats 2000000 in
theorem back1_in (n : Nat) (hn : 1 ≤ n) (l Bt B m c : Nat) (a : Option Addr) (t : List Nd) (J Jx : List (BN t) → World → Prop) (hm : m ≤ 481)
    (hY : ∀ pre (y : BN t) W, J pre W → pre.length < 500 → YieldAt Fence.wide (n - 1) Tryd.prog l y.vals W fun e W' =>
      (e = .returned (.bool true) ∧ J (pre ++ [y]) W' ∧ KeepE Bt B W W') ∨ (e = .returned (.bool false) ∧ Jx (pre ++ [y]) W'))
    (W : World) (hBt : W.cell? ⟨Bt, 0, none⟩ = some (.slice a m c)) (hlt : Bt < W.heap.size) (hN : Nds B W a m c t) (hBW : B ≤ W.heap.size) (h0 : J [] W) :
    CallsIn Fence.wide n Tryd.prog 91 #[.func (.yield l) #[] #[], .pointer (some ⟨Bt, 0, none⟩)] W fun e W' => (∃ v, e = .returned v) ∧
      ((∃ ys : List (BN t), ys.map BN.i = dwn m m ∧ J ys W') ∨ (∃ pre : List (BN t), True ∧ Jx pre W')) := by
  have L := Lib.hid hN.len
  have C := hN.cap
  have T := hN.top
  have HN := Lib.hid hN
  have HB := Lib.hid (And.intro hBt (And.intro hlt hBW))
  clear hN hBW hlt
  refine callsIn_of_wp Tryd.func91 rfl trivial ?_ rfl
  simp only [Tryd.ntmps91, List.size_toArray, List.length_cons, List.length_nil, Nat.reduceAdd, Nat.reduceSub, Array.replicate_succ, Array.replicate_zero, List.push_toArray, List.append_toArray, List.nil_append, List.cons_append]
  gi_wp2
  clear hBt
  gi_loopw [3] (fun i wr => ∃ (k r : Nat) (pre : List (BN t)), k + r = m ∧ i = .int .i64 ((r : Int) - 1) ∧ Hid (pre.map BN.i = dwn m k) ∧ J pre wr ∧ Hid (KeepE Bt B W wr))
    (fun i _ => (intOf i + 1).toNat)
  case atStart => exact ⟨0, m, [], by omega, rfl, Lib.hid rfl, h0, Lib.hid (KeepE.refl _ _ _)⟩
  case round =>
    obtain ⟨k, r, pre, hk, rfl, HP, hJs, HK⟩ := hrel
    cases r with
    | zero =>
      have HPe : Hid (pre.map BN.i = dwn m m) := Lib.hid (by
        have e : k = m := by omega
        have h := HP.out
        rw [e] at h
        exact h)
      gi_wp2
      go_end0
      exact ⟨⟨_, rfl⟩, .inl ⟨pre, HPe.out, hJs⟩⟩
    | succ i =>
      have e1 : (((i + 1 : Nat) : Int) - 1) = (i : Int) := by omega
      rw [e1]
      clear e1
      have him : i < m := by omega
      obtain ⟨b, o, l1, p1, e1, rfl, hb1, hd1, hl1, hp1, hc1, hc2, hc3⟩ := (HN.out.keep HK.out.2).elem i him
      have hbx := HK.out.cell HB.out.1
      have hi0 : (0 : Int) ≤ (i : Int) := by omega
      have hi1 : (i : Int) < (m : Int) := by omega
      have hpl : pre.length < 500 := by
        have h1 := congrArg List.length HP.out
        rw [List.length_map, dwn_len] at h1
        omega
      have HD := Lib.hid hd1
      have HPn : Hid ((pre ++ [(⟨i, ⟨l1, p1, e1⟩, HD.out⟩ : BN t)]).map BN.i = dwn m (k + 1)) := Lib.hid (by
        rw [List.map_append, HP.out, dwn]
        have e : m - 1 - k = i := by omega
        rw [e]
        rfl)
      obtain ⟨fn, tmps, assign, body, hy, hR⟩ := hY pre ⟨i, ⟨l1, p1, e1⟩, HD.out⟩ wr hJs hpl
      clear hd1
      simp only [BN.vals] at hy
      gi_wp2
      refine hR.mono ?_
      rintro e W3 (⟨rfl, hJ3, hk3⟩ | ⟨rfl, hJx3⟩)
      · gi_wp2
        go_roundw
        case rel => exact ⟨k + 1, i, _, by omega, rfl, HPn, hJ3, Lib.hid (HK.out.trans hk3)⟩
        case measure => simp only [intOf]; omega
      · gi_wp2
        refine bodyPost_ret (results_none rfl _ _ _) rfl ?_
        exact ⟨⟨_, rfl⟩, .inr ⟨_, trivial, hJx3⟩⟩

theorem keepE_b {Bt B : Nat} {w : World} (ht : Bt < w.heap.size) (hB : B ≤ w.heap.size) (W : World) (l : Nat) (o o' : Obj) (hl : w.heap.size ≤ l) (h : W.heap[l]? = some o) (_ : o.isCells = false) (_ : o.isWalk = false) : KeepE Bt B W (W.putObj l o') := by
  have hlt := (Array.getElem?_eq_some_iff.1 h).1
  have g := grownBy_putObj' W l o'
  refine ⟨g.block Bt (by omega) (by simp; omega), (Below.refl _ _).grown g (by omega) fun q hq => ?_⟩
  cases hq
  omega

/-- the contract of the iterator -/
theorem back_stops (n : Nat) (hn : 1 ≤ n) (Bt B m c : Nat) (a : Option Addr) (t : List Nd) (hm : m ≤ 481) (w : World) (hlt : Bt < w.heap.size) (hB : B ≤ w.heap.size) (hBt : w.cell? ⟨Bt, 0, none⟩ = some (.slice a m c)) (hN : Nds B w a m c t) :
    SeqStopsK Fence.wide n Tryd.prog 91 #[.pointer (some ⟨Bt, 0, none⟩)] (fun y : BN t => #[.int .i64 (y.i : Int), .agg #[.int .i64 y.d.l, .int .i64 y.d.p, .bool y.d.e]]) (KeepE Bt B) (fun ys => ys.map BN.i = dwn m m) (fun _ => True) 500 w :=
  fun l J Jx W hW hJ _ hY h0 =>
    back1_in n hn l Bt B m c a t J Jx hm hY W ((hW.cell (p := ⟨Bt, 0, none⟩) hlt).trans hBt) (Nat.lt_of_lt_of_le hlt hW.size) (hN.keep (hW.mono hB)) (Nat.le_trans hB hW.size) h0

theorem backward_in (n : Nat) (a : Option Addr) (m c : Nat) (w : World) :
    CallsIn Fence.wide n Tryd.prog 76 #[.slice a m c] w fun e w' => e = .returned (.func (.func 91) #[] #[.pointer (some ⟨w.heap.size, 0, none⟩)]) ∧ w' = w.alloc (.cells #[.slice a m c] 31) := by
  refine callsIn_of_wp Tryd.func76 rfl trivial ?_ rfl
  simp only [Tryd.ntmps76, List.size_toArray, List.length_cons, List.length_nil, Nat.reduceAdd, Nat.reduceSub, Array.replicate_succ, Array.replicate_zero, List.push_toArray, List.append_toArray, List.nil_append, List.cons_append]
  gi_wp2
  go_ret
  exact ⟨rfl, rfl⟩

end Go.Proofs.YtmgieahachphmabDoor
