/-
  The program's words of a trie, told one by one with their places: a range over a function.
-/
import Derived.RangeFuncNested
import Derived.RangeFuncBound
import Derived.RangeFuncCalls
import Derived.RangeFuncLeaves
import Derived.Shelf.Abstract
import Derived.Shelf.RegionOpen
import Derived.WalkKit
import Derived.OwnWalkIn
import Derived.TacticsInMore
import Derived.LoopNIn
import Derived.LoopIn
import Derived.Maps.AppendAt
import Derived.Maps.OwnIn
import Derived.Sort.QuietIn
import Derived.Sort.BigQuietIn
import Derived.Test.YtibdfhhbkbncgabPrefixAt
import Derived.Test.YtibdfhhbkbncgabGvT
import Derived.Test.YtibdfhhbkbncgabWordsN
namespace Go.Proofs.Ytibdfhhbkbncgab
open Go.RowKit Go.Shelf
set_option linter.unusedVariables false

attribute [local go_sem] Oper.semAt_some

/-- a word of a trie, with its place -/
structure EW (t : List Nd) (ps : List Txt) where
  i : Nat
  x : Txt
  at' : ps[i]? = some x
  en : ∃ d, t[i]? = some d ∧ d.e = true

def EW.val {t : List Nd} {ps : List Txt} (y : EW t ps) : Nat × Txt := (y.i, y.x)

/-- the words of the first k nodes, with their places -/
def pls (t : List Nd) (ps : List Txt) : Nat → List (Nat × Txt)
  | 0 => []
  | k + 1 => pls t ps k ++ (match t[k]?, ps[k]? with
    | some d, some x => if d.e then [(k, x)] else []
    | _, _ => [])

theorem pls_hit {t : List Nd} {ps : List Txt} {k : Nat} {d : Nd} {x : Txt} (h : t[k]? = some d) (hx : ps[k]? = some x) (he : d.e = true) : pls t ps (k + 1) = pls t ps k ++ [(k, x)] := by
  simp [pls, h, hx, he]
theorem pls_miss {t : List Nd} {ps : List Txt} {k : Nat} {d : Nd} {x : Txt} (h : t[k]? = some d) (hx : ps[k]? = some x) (he : d.e = false) : pls t ps (k + 1) = pls t ps k := by
  simp [pls, h, hx, he]

theorem pls_snd {t : List Nd} {ps : List Txt} (hl : ps.length = t.length) : ∀ k, k ≤ t.length → (pls t ps k).map Prod.snd = wds (t.take k) (ps.take k)
  | 0, _ => by simp [pls, wds]
  | k + 1, hk => by
    have ih := pls_snd hl k (by omega)
    obtain ⟨d, hd⟩ : ∃ d, t[k]? = some d := ⟨_, List.getElem?_eq_getElem (by omega)⟩
    obtain ⟨x, hx⟩ : ∃ x, ps[k]? = some x := ⟨_, List.getElem?_eq_getElem (by omega)⟩
    rw [wds_succ hl hd hx]
    cases he : d.e with
    | true => rw [pls_hit hd hx he, List.map_append, ih]; simp
    | false => rw [pls_miss hd hx he, ih]; simp

theorem pls_all {t : List Nd} {ps : List Txt} (hv : Valid t ps) : (pls t ps t.length).map Prod.snd = wds t ps := by
  rw [pls_snd hv.lenEq _ (Nat.le_refl _), List.take_of_length_le (Nat.le_refl _), List.take_of_length_le (by rw [hv.lenEq]; exact Nat.le_refl _)]

theorem pls_len {t : List Nd} {ps : List Txt} (hv : Valid t ps) (k : Nat) (hk : k ≤ t.length) : (pls t ps k).length = ends (t.take k) := by
  have h := congrArg List.length (pls_snd hv.lenEq k hk)
  rw [List.length_map] at h
  rw [h, wds_len _ _ (by simp [hv.lenEq])]

/-- one block is as it was, and all below B -/
def KeepE (Bt B : Nat) (V W : World) : Prop := W.heap[Bt]? = V.heap[Bt]? ∧ Below B V W
theorem KeepE.refl (Bt B : Nat) (V : World) : KeepE Bt B V V := ⟨rfl, Below.refl _ _⟩
theorem KeepE.trans {Bt B : Nat} {U V W : World} (h : KeepE Bt B U V) (k : KeepE Bt B V W) : KeepE Bt B U W := ⟨k.1.trans h.1, h.2.trans k.2⟩
theorem KeepE.cell {Bt B : Nat} {V W : World} (h : KeepE Bt B V W) {v : Value} (hc : V.cell? ⟨Bt, 0, none⟩ = some v) : W.cell? ⟨Bt, 0, none⟩ = some v := (World.cell?_of_block (a := ⟨Bt, 0, none⟩) h.1).trans hc
theorem KeepE.far {Bt B : Nat} {V W : World} (ht : Bt < V.heap.size) (hB : B ≤ V.heap.size) (h : Below V.heap.size V W) : KeepE Bt B V W := ⟨h.block Bt ht, h.mono hB⟩

theorem grown_bel {a w : World} (h : Below a.heap.size a w) : a.grownBy w none := ⟨h.os, h.tape, h.output, h.size, fun k hk _ => h.block k hk⟩

set_option maxRecDepth 1000000 in
set_option maxHeartbeats 2000000 in
theorem each1_in (n : Nat) (hn : 1 ≤ n) (l Bt B m c : Nat) (a : Option Addr) (t : List Nd) (ps : List Txt) (hv : Valid t ps) (J Jx : List (EW t ps) → World → Prop)
    (hY : ∀ pre (y : EW t ps) W, J pre W → pre.length < 40 → YieldAt Fence.wide (n - 1) Try.prog l #[.int .i64 (y.i : Int), .string (bx y.x)] W fun e W' =>
      (e = .returned (.bool true) ∧ J (pre ++ [y]) W' ∧ KeepE Bt B W W') ∨ (e = .returned (.bool false) ∧ Jx (pre ++ [y]) W'))
    (W : World) (hBt : W.cell? ⟨Bt, 0, none⟩ = some (.slice a m c)) (hlt : Bt < W.heap.size) (hN : Nds B W a m c t) (hBW : B ≤ W.heap.size) (hJ : AbidesFrom W.heap.size J) (h0 : J [] W) :
    CallsIn Fence.wide n Try.prog 59 #[.func (.yield l) #[] #[], .pointer (some ⟨Bt, 0, none⟩)] W fun e W' => (∃ v, e = .returned v) ∧
      ((∃ ys : List (EW t ps), ys.map EW.val = pls t ps t.length ∧ J ys W') ∨ (∃ pre : List (EW t ps), True ∧ Jx pre W')) := by
  have L := Lib.hid hN.len
  have C := hN.cap
  have T := hN.top
  have HN := Lib.hid hN
  have HV := Lib.hid hv
  have hm481 : m ≤ 481 := by have := hv.size; have := hN.len; omega
  have HB := Lib.hid (And.intro hBt (And.intro hlt hBW))
  clear hN hBW hv hlt
  refine callsIn_of_wp Try.func59 rfl trivial ?_ rfl
  simp only [Try.ntmps59, List.size_toArray, List.length_cons, List.length_nil, Nat.reduceAdd, Nat.reduceSub, Array.replicate_succ, Array.replicate_zero, List.push_toArray, List.append_toArray, List.nil_append, List.cons_append]
  gi_wp2
  clear hBt
  gi_loopw [8] (fun i wr => ∃ (k : Nat) (pre : List (EW t ps)), k ≤ m ∧ i = .int .i64 k ∧ Hid (pre.map EW.val = pls t ps k) ∧ J pre wr ∧ Hid (KeepE Bt B W wr ∧ W.heap.size ≤ wr.heap.size))
    (fun i _ => m - (intOf i).toNat)
  case atStart => exact ⟨0, [], Nat.zero_le _, rfl, Lib.hid rfl, h0, Lib.hid ⟨KeepE.refl _ _ _, Nat.le_refl _⟩⟩
  case round =>
    obtain ⟨k, pre, hk, rfl, HP, hJs, HK⟩ := hrel
    by_cases hlt : k < m
    · obtain ⟨b, o, l1, p1, e1, rfl, hb1, hd1, hl1, hp1, hc1, hc2, hc3⟩ := (HN.out.keep HK.out.1.2).elem k hlt
      obtain ⟨x, hx⟩ : ∃ x, ps[k]? = some x := ⟨_, List.getElem?_eq_getElem (by rw [HV.out.lenEq, L.out]; exact hlt)⟩
      have HD := Lib.hid hd1
      have HX := Lib.hid hx
      have hi0 : (0 : Int) ≤ (k : Int) := by omega
      have hi1 : (k : Int) < (m : Int) := by omega
      have HBa : Hid (Below wr.heap.size wr (wr.alloc (.cells #[.int .i64 l1, .int .i64 p1, .bool e1] 55))) := Lib.hid ((Below.refl _ _).alloc (Nat.le_refl _) _)
      have HKa : Hid (KeepE Bt B W (wr.alloc (.cells #[.int .i64 l1, .int .i64 p1, .bool e1] 55)) ∧ W.heap.size ≤ (wr.alloc (.cells #[.int .i64 l1, .int .i64 p1, .bool e1] 55)).heap.size) := Lib.hid ⟨HK.out.1.trans (KeepE.far (by have := HB.out.2.1; have := HK.out.2; omega) (by have := HB.out.2.2; have := HK.out.2; omega) HBa.out), by have := HK.out.2; simp; omega⟩
      have hJa := hJ _ _ _ none hJs (World.grownBy_alloc wr (.cells #[.int .i64 l1, .int .i64 p1, .bool e1] 55) none) (by simp)
      have hbx := HKa.out.1.cell HB.out.1
      clear hd1 hx
      cases e1 with
      | false =>
        have HPn : Hid (pre.map EW.val = pls t ps (k + 1)) := Lib.hid (by rw [pls_miss HD.out HX.out rfl]; exact HP.out)
        gi_wp2
        refine ⟨trivial, ?_⟩
        gi_wp2
        refine ⟨fun _ h => (by cases h), ?_⟩
        gi_wp2
        go_roundw
        case rel => exact ⟨k + 1, pre, by omega, by go_num, HPn, hJa, HKa⟩
        case measure => simp [intOf]; omega
      | true =>
        have HPn : Hid ((pre ++ [(⟨k, x, HX.out, ⟨_, HD.out, rfl⟩⟩ : EW t ps)]).map EW.val = pls t ps (k + 1)) := Lib.hid (by rw [pls_hit HD.out HX.out rfl, List.map_append, HP.out]; rfl)
        have hpl : pre.length < 40 := by
          have h1 := congrArg List.length HPn.out
          have h2 := pls_len HV.out (k + 1) (by rw [L.out]; omega)
          have h3 := HV.out.few
          have h4 : ends (t.take (k + 1)) ≤ ends t := by
            have h5 : ends (t.take (k + 1)) + ends (t.drop (k + 1)) = ends t := by rw [← ends_app, List.take_append_drop]
            omega
          simp at h1
          omega
        have hx12 := HV.out.short x (at_mem HX.out)
        have cP := Lib.hid (prefixAt_any B (some ⟨b, o, none⟩) m c k t.length t ps x (wr.alloc (.cells #[.int .i64 l1, .int .i64 p1, .bool true] 55)) (by have := HB.out.2.2; have := HKa.out.2; omega) (HN.out.keep HKa.out.1.2) HV.out.tells HX.out hx12)
        have hJ0 := hJa
        clear hJa hJs
        gi_wp2_with (refine ⟨trivial, ?_⟩; gi_at_call 60; refine (callsIn_wide.2 cP.out).mono ?_; rintro e w4 ⟨rfl, hb4⟩; have hJ4 := hJ _ _ _ none hJ0 (grown_bel hb4) (by simp); obtain ⟨fn, tmps, assign, body, hy, hR⟩ := hY pre ⟨k, x, HX.out, ⟨_, HD.out, rfl⟩⟩ w4 hJ4 hpl; have HK4 : Hid (KeepE Bt B W w4 ∧ W.heap.size ≤ w4.heap.size) := Lib.hid ⟨HKa.out.1.trans (KeepE.far (by have := HB.out.2.1; have := HKa.out.2; omega) (by have := HB.out.2.2; have := HKa.out.2; omega) hb4), Nat.le_trans HKa.out.2 hb4.size⟩; clear hb4)
        refine hR.mono ?_
        rintro e W3 (⟨rfl, hJ3, hk3⟩ | ⟨rfl, hJx3⟩)
        · gi_wp2
          go_roundw
          case rel => exact ⟨k + 1, _, by omega, by go_num, HPn, hJ3, Lib.hid ⟨HK4.out.1.trans hk3, Nat.le_trans HK4.out.2 hk3.2.size⟩⟩
          case measure => simp [intOf]; omega
        · gi_wp2
          refine bodyPost_ret (results_none rfl _ _ _) rfl ?_
          exact ⟨⟨_, rfl⟩, .inr ⟨_, trivial, hJx3⟩⟩
    · have HPe : Hid (pre.map EW.val = pls t ps t.length) := Lib.hid (by have e : t.length = k := (by rw [L.out]; omega); rw [e]; exact HP.out)
      gi_wp2
      go_end0
      exact ⟨⟨_, rfl⟩, .inl ⟨pre, HPe.out, hJs⟩⟩

theorem keepE_b {Bt B : Nat} {w : World} (ht : Bt < w.heap.size) (hB : B ≤ w.heap.size) (W : World) (l : Nat) (o o' : Obj) (hl : w.heap.size ≤ l) (h : W.heap[l]? = some o) (_ : o.isCells = false) (_ : o.isWalk = false) : KeepE Bt B W (W.putObj l o') := by
  have hlt := (Array.getElem?_eq_some_iff.1 h).1
  have g := grownBy_putObj' W l o'
  refine ⟨g.block Bt (by omega) (by simp; omega), (Below.refl _ _).grown g (by omega) fun q hq => ?_⟩
  cases hq
  omega

/-- the contract of the iterator -/
theorem each_stops (n : Nat) (hn : 1 ≤ n) (Bt B m c : Nat) (a : Option Addr) (t : List Nd) (ps : List Txt) (hv : Valid t ps) (w : World) (hlt : Bt < w.heap.size) (hB : B ≤ w.heap.size) (hBt : w.cell? ⟨Bt, 0, none⟩ = some (.slice a m c)) (hN : Nds B w a m c t) :
    SeqStopsK Fence.wide n Try.prog 59 #[.pointer (some ⟨Bt, 0, none⟩)] (fun y : EW t ps => #[.int .i64 (y.i : Int), .string (bx y.x)]) (KeepE Bt B) (fun ys => ys.map EW.val = pls t ps t.length) (fun _ => True) 40 w :=
  fun l J Jx W hW hJ _ hY h0 =>
    each1_in n hn l Bt B m c a t ps hv J Jx hY W ((hW.cell (p := ⟨Bt, 0, none⟩) hlt).trans hBt) (Nat.lt_of_lt_of_le hlt hW.size) (hN.keep (hW.mono hB)) (Nat.le_trans hB hW.size) hJ h0

theorem eachWord_in (n : Nat) (a : Option Addr) (m c : Nat) (w : World) :
    CallsIn Fence.wide n Try.prog 34 #[.agg #[.slice a m c]] w fun e w' => e = .returned (.func (.func 59) #[] #[.pointer (some ⟨w.heap.size, 0, none⟩)]) ∧ w' = w.alloc (.cells #[.slice a m c] 31) := by
  refine callsIn_of_wp Try.func34 rfl trivial ?_ rfl
  simp only [Try.ntmps34, List.size_toArray, List.length_cons, List.length_nil, Nat.reduceAdd, Nat.reduceSub, Array.replicate_succ, Array.replicate_zero, List.push_toArray, List.append_toArray, List.nil_append, List.cons_append]
  gi_wp2
  go_ret
  exact ⟨rfl, rfl⟩

end Go.Proofs.Ytibdfhhbkbncgab
