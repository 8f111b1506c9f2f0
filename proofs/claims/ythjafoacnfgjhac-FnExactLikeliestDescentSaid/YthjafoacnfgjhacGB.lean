import Derived.RangeFuncNested
import Derived.RangeFuncBound
import Derived.RangeFuncCalls
import Derived.RangeFuncLeaves
import Derived.Shelf.Abstract
import Derived.Shelf.RegionOpen
import Derived.WalkKit
import Derived.OwnWalkIn
import Derived.TacticsInMore
import Derived.LoopNIn
import Derived.LoopIn
import Derived.Maps.AppendAt
import Derived.Maps.OwnIn
import Derived.Sort.QuietIn
import Derived.Sort.BigQuietIn
import Derived.Test.YthjafoacnfgjhacPrefixAt
import Derived.Test.YthjafoacnfgjhacGvT
import Derived.Test.YthjafoacnfgjhacWordsN
import Derived.RangeFuncFrom
import Derived.Test.YthjafoacnfgjhacKids
import Derived.Test.YthjafoacnfgjhacIsTrie
import Derived.Test.YthjafoacnfgjhacBas
import Derived.Deep.RegionHeld3
import Derived.Test.YthjafoacnfgjhacTxt
import Derived.OrdersIn
import Derived.Test.YthjafoacnfgjhacGA
import Derived.Test.YthjafoacnfgjhacLkS

/-
  The program's words of a trie, told one by one with their places: a range over a function.
-/
namespace Go.Proofs.Ythjafoacnfgjhac
open Go.RowKit Go.Shelf
set_option linter.unusedVariables false

attribute [local go_sem] Oper.semAt_some

/-- a word of a trie, with its place -/
structure EW (t : List Nd) (ps : List Txt) where
  i : Nat
  x : Txt
  at' : ps[i]? = some x
  en : ∃ d, t[i]? = some d ∧ d.e = true

def EW.val {t : List Nd} {ps : List Txt} (y : EW t ps) : Nat × Txt := (y.i, y.x)

/-- the words of the first k nodes, with their places -/
def pls (t : List Nd) (ps : List Txt) : Nat → List (Nat × Txt)
  | 0 => []
  | k + 1 => pls t ps k ++ (match t[k]?, ps[k]? with
    | some d, some x => if d.e then [(k, x)] else []
    | _, _ => [])

theorem pls_hit {t : List Nd} {ps : List Txt} {k : Nat} {d : Nd} {x : Txt} (h : t[k]? = some d) (hx : ps[k]? = some x) (he : d.e = true) : pls t ps (k + 1) = pls t ps k ++ [(k, x)] := by
  simp [pls, h, hx, he]
theorem pls_miss {t : List Nd} {ps : List Txt} {k : Nat} {d : Nd} {x : Txt} (h : t[k]? = some d) (hx : ps[k]? = some x) (he : d.e = false) : pls t ps (k + 1) = pls t ps k := by
  simp [pls, h, hx, he]

theorem pls_snd {t : List Nd} {ps : List Txt} (hl : ps.length = t.length) : ∀ k, k ≤ t.length → (pls t ps k).map Prod.snd = wds (t.take k) (ps.take k)
  | 0, _ => by simp [pls, wds]
  | k + 1, hk => by
    have ih := pls_snd hl k (by omega)
    obtain ⟨d, hd⟩ : ∃ d, t[k]? = some d := ⟨_, List.getElem?_eq_getElem (by omega)⟩
    obtain ⟨x, hx⟩ : ∃ x, ps[k]? = some x := ⟨_, List.getElem?_eq_getElem (by omega)⟩
    rw [wds_succ hl hd hx]
    cases he : d.e with
    | true => rw [pls_hit hd hx he, List.map_append, ih]; simp
    | false => rw [pls_miss hd hx he, ih]; simp

theorem pls_all {t : List Nd} {ps : List Txt} (hv : Valid t ps) : (pls t ps t.length).map Prod.snd = wds t ps := by
  rw [pls_snd hv.lenEq _ (Nat.le_refl _), List.take_of_length_le (Nat.le_refl _), List.take_of_length_le (by rw [hv.lenEq]; exact Nat.le_refl _)]

theorem pls_len {t : List Nd} {ps : List Txt} (hv : Valid t ps) (k : Nat) (hk : k ≤ t.length) : (pls t ps k).length = ends (t.take k) := by
  have h := congrArg List.length (pls_snd hv.lenEq k hk)
  rw [List.length_map] at h
  rw [h, wds_len _ _ (by simp [hv.lenEq])]

/-- one block is as it was, and all below B -/
def KeepE (Bt B : Nat) (V W : World) : Prop := W.heap[Bt]? = V.heap[Bt]? ∧ Below B V W
theorem KeepE.refl (Bt B : Nat) (V : World) : KeepE Bt B V V := ⟨rfl, Below.refl _ _⟩
theorem KeepE.trans {Bt B : Nat} {U V W : World} (h : KeepE Bt B U V) (k : KeepE Bt B V W) : KeepE Bt B U W := ⟨k.1.trans h.1, h.2.trans k.2⟩
theorem KeepE.cell {Bt B : Nat} {V W : World} (h : KeepE Bt B V W) {v : Value} (hc : V.cell? ⟨Bt, 0, none⟩ = some v) : W.cell? ⟨Bt, 0, none⟩ = some v := (World.cell?_of_block (a := ⟨Bt, 0, none⟩) h.1).trans hc
theorem KeepE.far {Bt B : Nat} {V W : World} (ht : Bt < V.heap.size) (hB : B ≤ V.heap.size) (h : Below V.heap.size V W) : KeepE Bt B V W := ⟨h.block Bt ht, h.mono hB⟩

theorem grown_bel {a w : World} (h : Below a.heap.size a w) : a.grownBy w none := ⟨h.os, h.tape, h.output, h.size, fun k hk _ => h.block k hk⟩

set_option maxRecDepth 1000000 in
set_option maxHeartbeats 2000000 in
theorem each1_in (n : Nat) (hn : 1 ≤ n) (l Bt B m c : Nat) (a : Option Addr) (t : List Nd) (ps : List Txt) (hv : Valid t ps) (J Jx : List (EW t ps) → World → Prop)
    (hY : ∀ pre (y : EW t ps) W, J pre W → pre.length < 40 → YieldAt Fence.wide (n - 1) Try.prog l #[.int .i64 (y.i : Int), .string (bx y.x)] W fun e W' =>
      (e = .returned (.bool true) ∧ J (pre ++ [y]) W' ∧ KeepE Bt B W W') ∨ (e = .returned (.bool false) ∧ Jx (pre ++ [y]) W'))
    (W : World) (hBt : W.cell? ⟨Bt, 0, none⟩ = some (.slice a m c)) (hlt : Bt < W.heap.size) (hN : Nds B W a m c t) (hBW : B ≤ W.heap.size) (hJ : AbidesFrom W.heap.size J) (h0 : J [] W) :
    CallsIn Fence.wide n Try.prog 59 #[.func (.yield l) #[] #[], .pointer (some ⟨Bt, 0, none⟩)] W fun e W' => (∃ v, e = .returned v) ∧
      ((∃ ys : List (EW t ps), ys.map EW.val = pls t ps t.length ∧ J ys W') ∨ (∃ pre : List (EW t ps), True ∧ Jx pre W')) := by
  have L := Lib.hid hN.len
  have C := hN.cap
  have T := hN.top
  have HN := Lib.hid hN
  have HV := Lib.hid hv
  have hm481 : m ≤ 481 := by have := hv.size; have := hN.len; omega
  have HB := Lib.hid (And.intro hBt (And.intro hlt hBW))
  clear hN hBW hv hlt
  refine callsIn_of_wp Try.func59 rfl trivial ?_ rfl
  simp only [Try.ntmps59, List.size_toArray, List.length_cons, List.length_nil, Nat.reduceAdd, Nat.reduceSub, Array.replicate_succ, Array.replicate_zero, List.push_toArray, List.append_toArray, List.nil_append, List.cons_append]
  gi_wp2
  clear hBt
  gi_loopw [8] (fun i wr => ∃ (k : Nat) (pre : List (EW t ps)), k ≤ m ∧ i = .int .i64 k ∧ Hid (pre.map EW.val = pls t ps k) ∧ J pre wr ∧ Hid (KeepE Bt B W wr ∧ W.heap.size ≤ wr.heap.size))
    (fun i _ => m - (intOf i).toNat)
  case atStart => exact ⟨0, [], Nat.zero_le _, rfl, Lib.hid rfl, h0, Lib.hid ⟨KeepE.refl _ _ _, Nat.le_refl _⟩⟩
  case round =>
    obtain ⟨k, pre, hk, rfl, HP, hJs, HK⟩ := hrel
    by_cases hlt : k < m
    · obtain ⟨b, o, l1, p1, e1, rfl, hb1, hd1, hl1, hp1, hc1, hc2, hc3⟩ := (HN.out.keep HK.out.1.2).elem k hlt
      obtain ⟨x, hx⟩ : ∃ x, ps[k]? = some x := ⟨_, List.getElem?_eq_getElem (by rw [HV.out.lenEq, L.out]; exact hlt)⟩
      have HD := Lib.hid hd1
      have HX := Lib.hid hx
      have hi0 : (0 : Int) ≤ (k : Int) := by omega
      have hi1 : (k : Int) < (m : Int) := by omega
      have HBa : Hid (Below wr.heap.size wr (wr.alloc (.cells #[.int .i64 l1, .int .i64 p1, .bool e1] 82))) := Lib.hid ((Below.refl _ _).alloc (Nat.le_refl _) _)
      have HKa : Hid (KeepE Bt B W (wr.alloc (.cells #[.int .i64 l1, .int .i64 p1, .bool e1] 82)) ∧ W.heap.size ≤ (wr.alloc (.cells #[.int .i64 l1, .int .i64 p1, .bool e1] 82)).heap.size) := Lib.hid ⟨HK.out.1.trans (KeepE.far (by have := HB.out.2.1; have := HK.out.2; omega) (by have := HB.out.2.2; have := HK.out.2; omega) HBa.out), by have := HK.out.2; simp; omega⟩
      have hJa := hJ _ _ _ none hJs (World.grownBy_alloc wr (.cells #[.int .i64 l1, .int .i64 p1, .bool e1] 82) none) (by simp)
      have hbx := HKa.out.1.cell HB.out.1
      clear hd1 hx
      cases e1 with
      | false =>
        have HPn : Hid (pre.map EW.val = pls t ps (k + 1)) := Lib.hid (by rw [pls_miss HD.out HX.out rfl]; exact HP.out)
        gi_wp2
        refine ⟨trivial, ?_⟩
        gi_wp2
        refine ⟨fun _ h => (by cases h), ?_⟩
        gi_wp2
        go_roundw
        case rel => exact ⟨k + 1, pre, by omega, by go_num, HPn, hJa, HKa⟩
        case measure => simp [intOf]; omega
      | true =>
        have HPn : Hid ((pre ++ [(⟨k, x, HX.out, ⟨_, HD.out, rfl⟩⟩ : EW t ps)]).map EW.val = pls t ps (k + 1)) := Lib.hid (by rw [pls_hit HD.out HX.out rfl, List.map_append, HP.out]; rfl)
        have hpl : pre.length < 40 := by
          have h1 := congrArg List.length HPn.out
          have h2 := pls_len HV.out (k + 1) (by rw [L.out]; omega)
          have h3 := HV.out.few
          have h4 : ends (t.take (k + 1)) ≤ ends t := by
            have h5 : ends (t.take (k + 1)) + ends (t.drop (k + 1)) = ends t := by rw [← ends_app, List.take_append_drop]
            omega
          simp at h1
          omega
        have hx12 := HV.out.short x (at_mem HX.out)
        have cP := Lib.hid (prefixAt_any B (some ⟨b, o, none⟩) m c k t.length t ps x (wr.alloc (.cells #[.int .i64 l1, .int .i64 p1, .bool true] 82)) (by have := HB.out.2.2; have := HKa.out.2; omega) (HN.out.keep HKa.out.1.2) HV.out.tells HX.out hx12)
        have hJ0 := hJa
        clear hJa hJs
        gi_wp2_with (refine ⟨trivial, ?_⟩; gi_at_call 60; refine (callsIn_wide.2 cP.out).mono ?_; rintro e w4 ⟨rfl, hb4⟩; have hJ4 := hJ _ _ _ none hJ0 (grown_bel hb4) (by simp); obtain ⟨fn, tmps, assign, body, hy, hR⟩ := hY pre ⟨k, x, HX.out, ⟨_, HD.out, rfl⟩⟩ w4 hJ4 hpl; have HK4 : Hid (KeepE Bt B W w4 ∧ W.heap.size ≤ w4.heap.size) := Lib.hid ⟨HKa.out.1.trans (KeepE.far (by have := HB.out.2.1; have := HKa.out.2; omega) (by have := HB.out.2.2; have := HKa.out.2; omega) hb4), Nat.le_trans HKa.out.2 hb4.size⟩; clear hb4)
        refine hR.mono ?_
        rintro e W3 (⟨rfl, hJ3, hk3⟩ | ⟨rfl, hJx3⟩)
        · gi_wp2
          go_roundw
          case rel => exact ⟨k + 1, _, by omega, by go_num, HPn, hJ3, Lib.hid ⟨HK4.out.1.trans hk3, Nat.le_trans HK4.out.2 hk3.2.size⟩⟩
          case measure => simp [intOf]; omega
        · gi_wp2
          refine bodyPost_ret (results_none rfl _ _ _) rfl ?_
          exact ⟨⟨_, rfl⟩, .inr ⟨_, trivial, hJx3⟩⟩
    · have HPe : Hid (pre.map EW.val = pls t ps t.length) := Lib.hid (by have e : t.length = k := (by rw [L.out]; omega); rw [e]; exact HP.out)
      gi_wp2
      go_end0
      exact ⟨⟨_, rfl⟩, .inl ⟨pre, HPe.out, hJs⟩⟩

theorem keepE_b {Bt B : Nat} {w : World} (ht : Bt < w.heap.size) (hB : B ≤ w.heap.size) (W : World) (l : Nat) (o o' : Obj) (hl : w.heap.size ≤ l) (h : W.heap[l]? = some o) (_ : o.isCells = false) (_ : o.isWalk = false) : KeepE Bt B W (W.putObj l o') := by
  have hlt := (Array.getElem?_eq_some_iff.1 h).1
  have g := grownBy_putObj' W l o'
  refine ⟨g.block Bt (by omega) (by simp; omega), (Below.refl _ _).grown g (by omega) fun q hq => ?_⟩
  cases hq
  omega

/-- the contract of the iterator -/
theorem each_stops (n : Nat) (hn : 1 ≤ n) (Bt B m c : Nat) (a : Option Addr) (t : List Nd) (ps : List Txt) (hv : Valid t ps) (w : World) (hlt : Bt < w.heap.size) (hB : B ≤ w.heap.size) (hBt : w.cell? ⟨Bt, 0, none⟩ = some (.slice a m c)) (hN : Nds B w a m c t) :
    SeqStopsK Fence.wide n Try.prog 59 #[.pointer (some ⟨Bt, 0, none⟩)] (fun y : EW t ps => #[.int .i64 (y.i : Int), .string (bx y.x)]) (KeepE Bt B) (fun ys => ys.map EW.val = pls t ps t.length) (fun _ => True) 40 w :=
  fun l J Jx W hW hJ _ hY h0 =>
    each1_in n hn l Bt B m c a t ps hv J Jx hY W ((hW.cell (p := ⟨Bt, 0, none⟩) hlt).trans hBt) (Nat.lt_of_lt_of_le hlt hW.size) (hN.keep (hW.mono hB)) (Nat.le_trans hB hW.size) hJ h0

theorem eachWord_in (n : Nat) (a : Option Addr) (m c : Nat) (w : World) :
    CallsIn Fence.wide n Try.prog 36 #[.agg #[.slice a m c]] w fun e w' => e = .returned (.func (.func 59) #[] #[.pointer (some ⟨w.heap.size, 0, none⟩)]) ∧ w' = w.alloc (.cells #[.slice a m c] 38) := by
  refine callsIn_of_wp Try.func36 rfl trivial ?_ rfl
  simp only [Try.ntmps36, List.size_toArray, List.length_cons, List.length_nil, Nat.reduceAdd, Nat.reduceSub, Array.replicate_succ, Array.replicate_zero, List.push_toArray, List.append_toArray, List.nil_append, List.cons_append]
  gi_wp2
  go_ret
  exact ⟨rfl, rfl⟩

end Go.Proofs.Ythjafoacnfgjhac

/-
  Words that stand alone; what becomes of cells: for ranges over a function.
-/
namespace Go.Proofs.Ythjafoacnfgjhac
open Go.RowKit Go.Shelf
set_option linter.unusedVariables false

attribute [local go_sem] Oper.semAt_some

theorem pls_mem {t : List Nd} {ps : List Txt} {i : Nat} {d : Nd} {x : Txt} (h : t[i]? = some d) (hx : ps[i]? = some x) (he : d.e = true) : ∀ k, i < k → (i, x) ∈ pls t ps k
  | 0, hk => by omega
  | k + 1, hk => by
    by_cases c : i = k
    · subst c
      rw [pls_hit h hx he]
      exact List.mem_append.2 (.inr (by simp))
    · have ih := pls_mem h hx he k (by omega)
      show _ ∈ pls t ps k ++ _
      exact List.mem_append.2 (.inl ih)

/-- no other node is under a word's -/
def Aln {t : List Nd} {ps : List Txt} (y : EW t ps) : Prop := ∀ (m : Nat) (z : Txt), ps[m]? = some z → y.x <+: z → m = y.i

theorem aln_iff {t : List Nd} {ps : List Txt} (h : Tells t t.length ps) (y : EW t ps) {b : Nat} (hb : Behind t ps y.i b) : decide (b = y.i + 1) = true ↔ Aln y := by
  rw [decide_eq_true_eq]
  constructor
  · rintro rfl m z hz hp
    have := (hb.iff h y.at' hz).1 hp
    omega
  · intro ha
    have h1 := hb.lt
    by_cases c : b = y.i + 1
    · exact c
    · exfalso
      have hle := hb.le
      obtain ⟨_, z, _, hz⟩ := h.at (show y.i + 1 < t.length by omega)
      have := ha _ _ hz ((hb.iff h y.at' hz).2 ⟨by omega, by omega⟩)
      omega

theorem keepsOthers_of_below {W W' : World} (h : Below W.heap.size W W') : KeepsOthers W W' := ⟨h.size, fun l o hl _ => (h.block l (Array.getElem?_eq_some_iff.1 hl).1).trans hl⟩

theorem cellNew (W : World) (v : Value) (t : TypeId) : (W.alloc (.cells #[v] t)).cell? ⟨W.heap.size, 0, none⟩ = some v ∧ (W.alloc (.cells #[v] t)).frozen? ⟨W.heap.size, 0, none⟩ = false := ⟨World.cell?_alloc_new W _ t 0, World.frozen?_alloc_new W _ t 0⟩
theorem cellOld {W : World} {a : Addr} {v : Value} (o : Obj) (h : W.cell? a = some v) : (W.alloc o).cell? a = some v := cell_kept h (World.grownBy_alloc W o none) (fun r e => by cases e)
theorem frozenOld {W : World} {a : Addr} {v : Value} (o : Obj) (h : W.cell? a = some v) (hf : W.frozen? a = false) : (W.alloc o).frozen? a = false := (frozen_kept h (World.grownBy_alloc W o none) (fun r e => by cases e)).trans hf

theorem twoCells {W : World} {s : Nat} {u1 u2 : Value} (h1 : W.cell? ⟨s + 1, 0, none⟩ = some u1) (h2 : W.cell? ⟨s + 1 + 1, 0, none⟩ = some u2) (b1 b2 : Bool) :
    ((W.setCell ⟨s + 1, 0, none⟩ (.bool b1)).setCell ⟨s + 1 + 1, 0, none⟩ (.bool b2)).cell? ⟨s + 1, 0, none⟩ = some (.bool b1) ∧ ((W.setCell ⟨s + 1, 0, none⟩ (.bool b1)).setCell ⟨s + 1 + 1, 0, none⟩ (.bool b2)).cell? ⟨s + 1 + 1, 0, none⟩ = some (.bool b2) := by
  constructor
  · rw [World.cell?_setCell_far _ _ _ _ (by simp)]
    exact World.cell?_setCell_same' _ _ _ (by rw [h1]; rfl)
  · exact World.cell?_setCell_same' _ _ _ (by rw [World.cell?_setCell_far _ _ _ _ (by simp), h2]; rfl)

end Go.Proofs.Ythjafoacnfgjhac

/-
  An append to a row that a call owns, at an operation of a region that draws its order.
-/
namespace Go.Proofs.Ythjafoacnfgjhac
open Go.RowKit
set_option linter.unusedVariables false

theorem step_append_row {P : Program} {w : World} {ops : Array Oper} {o : Oper} {ac : Act} {K : Act → World → Prop} {Q : Exit → Act → World → Prop} {E : Prop} (hgd : o.guard = none) (s x : Operand) (t : TypeId)
    (ho : o.op = .call { callee := .builtin .append, args := #[s, x], argTypes := #[t, t] })
    (base : Nat) (e : TypeId) (i : TypeInfo) (z : Value) (size bytes : Nat) (ht : P.underlying t = some (.slice e)) (hi : P.info? e = some i) (hz : i.zero = some z)
    (hsize : i.size = size) (hby : i.bytes = bytes) (hzs : z.cells.size = size) (hsz : 0 < size)
    (v : Value) (n : Nat) (xs : List Value) (hs : ac.eval s = v) (hown : w.ownsRow base e size v n xs)
    (ad : Addr) (m c : Nat) (news : List Value) (hx : ac.eval x = .slice (some ad) m c) (hl : news.length = m * size) (hnews : ∀ j u, news[j]? = some u → w.cell? (ad.add j) = some u) (h1 : ∀ u ∈ news, u.oneCell' = true)
    (h63 : n + m ≤ maxLen) (hbytes : (n + m) * bytes ≤ 140737488355328) (hbase : base ≤ w.heap.size)
    (h : ∀ v' w', w'.ownsRow base e size v' (n + m) (xs ++ news) → w.grownBy w' v.ownBlock → (v'.ownBlock = v.ownBlock ∨ v'.ownBlock = some w.heap.size) → K (ac.put o.dst v') w') :
    if Region.wanted o (yielded ops ac.tmps) = true then Oper.wp P o ac w K Q else E := by
  have hw : Region.wanted o (yielded ops ac.tmps) = true := by simp [Region.wanted, hgd]
  rw [if_pos hw]
  obtain ⟨v', w', hr, h2, h3, _, h5⟩ := run_append_own_at (P := P) w base t o.type e i z size bytes ht hi hz hsize hby hzs hsz v n xs hown ad m c news hl hnews h1 h63 hbytes hbase
  unfold Oper.wp execOp
  simp only [ho, resolve, invoke, builtin, Sem.run_bind, Sem.run_pure, Result.andThen_ok, List.map_toArray, List.map_cons, List.map_nil, hs, hx, hr]
  exact h v' w' h2 h3 h5

end Go.Proofs.Ythjafoacnfgjhac

/-
  The sum of what is told of texts.
-/
namespace Go.Proofs.Ythjafoacnfgjhac
set_option linter.unusedVariables false

/-- the sum of what is told -/
def tsum (tell : Txt → Nat) : List Txt → Nat
  | [] => 0
  | x :: r => tsum tell r + tell x
theorem tsum_app (tell : Txt → Nat) : ∀ a b : List Txt, tsum tell (a ++ b) = tsum tell a + tsum tell b
  | [], b => by simp [tsum]
  | x :: a, b => by simp only [List.cons_append, tsum]; rw [tsum_app tell a b]; omega
theorem tsum_succ (tell : Txt → Nat) {xs : List Txt} {k : Nat} {x : Txt} (h : xs[k]? = some x) : tsum tell (xs.take (k + 1)) = tsum tell (xs.take k) + tell x := by
  obtain ⟨hk, e⟩ := List.getElem?_eq_some_iff.1 h
  rw [List.take_succ_eq_append_getElem hk, tsum_app, e]
  simp [tsum]

theorem tsum_le (tell : Txt → Nat) (b : Nat) : ∀ {xs : List Txt}, (∀ x ∈ xs, tell x ≤ b) → tsum tell xs ≤ b * xs.length
  | [], _ => Nat.zero_le _
  | x :: r, h => by
    have h1 := tsum_le tell b (xs := r) (fun y hy => h y (List.mem_cons_of_mem _ hy))
    have h2 := h x List.mem_cons_self
    simp only [tsum, List.length_cons, Nat.mul_add, Nat.mul_one]
    omega
theorem tsum_congr {f g : Txt → Nat} : ∀ {xs : List Txt}, (∀ x ∈ xs, f x = g x) → tsum f xs = tsum g xs
  | [], _ => rfl
  | x :: r, h => by
    simp only [tsum]
    rw [tsum_congr (xs := r) (fun y hy => h y (List.mem_cons_of_mem _ hy)), h x List.mem_cons_self]
theorem tsum_add (f g : Txt → Nat) : ∀ xs : List Txt, tsum (fun x => f x + g x) xs = tsum f xs + tsum g xs
  | [] => rfl
  | x :: r => by simp only [tsum]; rw [tsum_add f g r]; omega

end Go.Proofs.Ythjafoacnfgjhac

/-
  What has been added of the words told so far: plain mathematics.
-/
namespace Go.Proofs.Ythjafoacnfgjhac
open Go.RowKit
set_option linter.unusedVariables false
set_option linter.unusedSimpArgs false

/-- what has been added of the words told so far -/
def hsum {t : List Nd} {ps : List Txt} (f : Txt → Nat) (pre : List (EW t ps)) : Nat := tsum f (pre.map fun y => y.x)
theorem hsum_snoc {t : List Nd} {ps : List Txt} (f : Txt → Nat) (pre : List (EW t ps)) (y : EW t ps) : hsum f (pre ++ [y]) = hsum f pre + f y.x := by
  unfold hsum
  rw [List.map_append, tsum_app]
  simp [tsum]
theorem hsum_all {t : List Nd} {ps : List Txt} (hv : Valid t ps) (f : Txt → Nat) {ys : List (EW t ps)} (h : ys.map EW.val = pls t ps t.length) : hsum f ys = tsum f (wds t ps) := by
  unfold hsum
  have h1 := congrArg (List.map Prod.snd) h
  rw [List.map_map, pls_all hv] at h1
  rw [← h1]
  rfl
theorem hsum_le {t : List Nd} {ps : List Txt} (f : Txt → Nat) (b : Nat) (h : ∀ x, f x ≤ b) (pre : List (EW t ps)) : hsum f pre ≤ b * pre.length := by
  unfold hsum
  have := tsum_le f b (xs := pre.map fun y => y.x) (fun x _ => h x)
  rwa [List.length_map] at this

end Go.Proofs.Ythjafoacnfgjhac

/-
  A region that draws its order, in a statement of a range over a function: walked by the laws of a plain walk.
-/
namespace Go.Proofs.Ythjafoacnfgjhac
open Go.RowKit
set_option linter.unusedVariables false

section
variable {l n : Nat} {P : Program} {md : Region.Mode} {ops : Array Oper} {Q : Exit → Act → World → Prop} {S : World → Prop}

/-- only the plain way on -/
def Only (Q : Exit → Act → World → Prop) : Exit → Act → World → Prop
  | .normal, a, w => Q .normal a w
  | _, _, _ => False

theorem Only.imp : ∀ e a w, Only Q e a w → Q e a w := fun e a w h => by
  cases e <;> first | exact h | exact (h : False).elim
theorem Only.met {K : Act → World → Prop} {a : Act} {w : World} (h : K a w) : Only (Exit.then K Q) .normal a w := h
theorem Only.kept : ¬ LetsOut (Only Q) := fun ⟨_, _, h⟩ => h

theorem oper_round {o : Oper} {a : Act} {w : World} {K : Act → World → Prop} (hd : ∀ c, o.op ≠ .defer c) (h : o.wp P a w K Q) : o.wpIn (Fence.wide.inRound l) n P a w K Q := by
  refine ⟨fun f _ => trivial, ?_⟩
  have hno : (Fence.wide.inRound l).depth.isSome = true → 1 ≤ n := fun hx => by cases hx
  rw [Oper.semAt_plain _ _ _ hd]
  unfold Oper.wp at h
  generalize (execOp a.eval o).run P w = r at h ⊢
  cases r with
  | ok x w' =>
    cases x with
    | value v => exact h
    | skip => exact h
    | defer d => exact h
    | enter f args => exact ⟨hno, CallsIn.inRound l (callsIn_wide.2 h)⟩
    | row r args => exact ⟨hno, fun c cs _ => by
        obtain ⟨v, w2, h1, h2⟩ := (show Rows P r args w' _ from h) c cs
        exact ⟨v, w2, h1, by rw [fenced_inRound]; exact stepsIn_wide.2 h2⟩⟩
    | _ => exact (h : False).elim
  | halt x w' => cases x <;> first | exact h | exact (h : False).elim

theorem op_round (hQ : ¬ LetsOut Q) (hd : ∀ (i : Nat) o, ops[i]? = some o → ∀ c, o.op ≠ .defer c) {i : Nat} {K K' : Act → World → Prop} {a : Act} {w : World} (hK : ∀ a w, K a w → K' a w) (h : wpOp P ops Q i K a w) : wpOpIn (Fence.wide.inRound l) n P ops Q i K' a w := by
  unfold wpOp at h
  unfold wpOpIn
  cases ho : ops[i]? with
  | none => rw [ho] at h; exact hK _ _ h
  | some o =>
    rw [ho] at h
    by_cases hw : Region.wanted o (yielded ops a.tmps) = true
    · simp only [hw, if_true] at h ⊢
      rcases h with h | h
      · exact oper_round (hd i o ho) (Oper.wp_mono hK h)
      · exact (hQ h.2).elim
    · simp only [hw] at h ⊢
      exact ⟨fun _ _ => trivial, hK _ _ h⟩

theorem any_round (hQ : ¬ LetsOut Q) (hd : ∀ (i : Nat) o, ops[i]? = some o → ∀ c, o.op ≠ .defer c) : ∀ (fuel : Nat) (listed : Array Bool) (a : Act) (w : World), wpAny P md ops Q fuel listed a w → wpAnyIn (Fence.wide.inRound l) n P md ops Q fuel listed a w
  | 0, _, _, _, h => h
  | fuel + 1, listed, _, _, h => ⟨h.1, fun i hi => op_round hQ hd (any_round hQ hd fuel _) (h.2 i hi)⟩

/-- no operation of the region defers -/
def noDefers (ops : Array Oper) : Bool := ops.toList.all fun o => match o.op with | .defer _ => false | _ => true
theorem noDefers_spec (h : noDefers ops = true) : ∀ (i : Nat) o, ops[i]? = some o → ∀ c, o.op ≠ .defer c := fun i o ho c hc => by
  have hm : o ∈ ops.toList := by
    rw [← Array.getElem?_toList] at ho
    exact List.mem_of_getElem? ho
  have := List.all_eq_true.1 h o hm
  rw [hc] at this
  cases this

theorem wpIn_region_round (S : World → Prop) {id : Nat} {a : Act} {w : World} (hm : P.follows .mixedOrders = true) (hd : noDefers ops = true) (hS : S w.drew)
    (h : S w.drew → wpAnyH P .any ops (Only Q) S ops.size (Array.replicate ops.size false) a w.drew) : (Code.region id ops true).wpIn (Fence.wide.inRound l) n P Q a w :=
  Go.wpIn_mono (wpIn_region_any hm (any_round Only.kept (noDefers_spec hd) _ _ _ _ (wpAny_of_held _ _ _ _ (h hS)))) Only.imp

end
end Go.Proofs.Ythjafoacnfgjhac

/-
  The greatest of fractions whose numerators are one.
-/
namespace Go.Proofs.Ythjafoacnfgjhac
open Go.RowKit
set_option linter.unusedVariables false
set_option linter.unusedSimpArgs false

/-- the greatest of fractions whose numerators are one has the least denominator -/
theorem grt_one (dl : List Nat) : ∀ (k : Nat), k < dl.length → ∃ D, grt (dl.map fun d => (1, d)) k = (1, D) ∧ ∀ (j x : Nat), j ≤ k → dl[j]? = some x → D ≤ x
  | 0, h => by
    refine ⟨dl[0], by simp [grt, List.getD_eq_getElem?_getD, List.getElem?_eq_getElem h], fun j x hj hx => ?_⟩
    obtain rfl : j = 0 := by omega
    rw [List.getElem?_eq_getElem h] at hx
    rw [Option.some.inj hx]
    exact Nat.le_refl _
  | k + 1, h => by
    obtain ⟨D, h1, h2⟩ := grt_one dl k (by omega)
    have hd : (dl.map fun d => ((1 : Nat), d)).getD (k + 1) (0, 1) = (1, dl[k + 1]) := by simp [List.getD_eq_getElem?_getD, List.getElem?_eq_getElem h]
    simp only [grt, h1, hd, grp]
    by_cases c : 1 * dl[k + 1] < 1 * D
    · refine ⟨dl[k + 1], by rw [if_pos c], fun j x hj hx => ?_⟩
      rcases Nat.lt_or_ge j (k + 1) with q | q
      · have := h2 j x (by omega) hx
        omega
      · obtain rfl : j = k + 1 := by omega
        rw [List.getElem?_eq_getElem h] at hx
        rw [Option.some.inj hx]
        exact Nat.le_refl _
    · refine ⟨D, by rw [if_neg c], fun j x hj hx => ?_⟩
      rcases Nat.lt_or_ge j (k + 1) with q | q
      · exact h2 j x (by omega) hx
      · obtain rfl : j = k + 1 := by omega
        rw [List.getElem?_eq_getElem h] at hx
        have := Option.some.inj hx
        omega

/-- so the first place of the greatest is the first place of the least -/
theorem lk_of_fg {dl : List Nat} {r : Nat} (h0 : 0 < dl.length) (h : FgAt (dl.map fun d => (1, d)) (grt (dl.map fun d => (1, d)) (dl.length - 1)) r) : ∃ D, grt (dl.map fun d => (1, d)) (dl.length - 1) = (1, D) ∧ LkAt dl r D := by
  obtain ⟨D, h1, h2⟩ := grt_one dl (dl.length - 1) (by omega)
  rw [h1] at h
  have hle : ∀ (j x : Nat), dl[j]? = some x → D ≤ x := fun j x hx => h2 j x (by have := (List.getElem?_eq_some_iff.1 hx).1; omega) hx
  refine ⟨D, h1, ?_, hle, fun j x hj hx => ?_⟩
  · have := h.1
    rw [List.getElem?_map, Option.map_eq_some_iff] at this
    obtain ⟨d, hd, e⟩ := this
    injection e with _ e
    rw [hd, e]
  · have h3 := hle j x hx
    rcases Nat.lt_or_ge D x with q | q
    · exact q
    · obtain rfl : x = D := by omega
      exact absurd (by rw [List.getElem?_map, hx]; rfl) (h.2 j hj)

/-- a row of fractions that a call owns, read -/
theorem FRow.of_own {base m : Nat} {W : World} {g c : Nat} {dl : List Nat} (hm : dl.length = m) (h : W.ownsRow base 65 2 (.slice (some ⟨g, 0, none⟩) m c) m (dl.flatMap fun (d : Nat) => [Value.int .i64 1, Value.int .i64 (d : Int)])) : FRow W.heap.size W g m (dl.map fun d => (1, d)) ∧ m ≤ c ∧ c ≤ 9223372036854775807 := by
  have hat : ∀ (l : List Nat) (i d : Nat), l[i]? = some d → (l.flatMap fun (d : Nat) => [Value.int .i64 1, Value.int .i64 (d : Int)])[i * 2]? = some (Value.int .i64 1) ∧ (l.flatMap fun (d : Nat) => [Value.int .i64 1, Value.int .i64 (d : Int)])[i * 2 + 1]? = some (Value.int .i64 (d : Int)) := by
    intro l
    induction l with
    | nil => intro i d h; simp at h
    | cons y l ih =>
      intro i d h
      cases i with
      | zero => simp at h; subst h; simp
      | succ i =>
        have := ih i d (by simpa using h)
        rw [show (i + 1) * 2 = i * 2 + 2 by omega]
        simpa using this
  rcases h.2 with ⟨e, _⟩ | ⟨g', cap, cur, e, h2, hg, h3, h4, h5⟩
  · cases e
  · injection e with e1 e2 e3
    injection e1 with e1
    injection e1 with e1 _
    subst e1 e3
    refine ⟨⟨by rw [List.length_map, hm], (Array.getElem?_eq_some_iff.1 hg).1, fun i p hp => ?_⟩, h3, by unfold maxLen at h4; omega⟩
    rw [List.getElem?_map, Option.map_eq_some_iff] at hp
    obtain ⟨d, hd, rfl⟩ := hp
    have hi := (List.getElem?_eq_some_iff.1 hd).1
    obtain ⟨k1, k2⟩ := hat dl i d hd
    refine ⟨?_, ?_⟩
    · rw [h.cellAt (i * 2) (by omega), k1]
      rfl
    · rw [h.cellAt (i * 2 + 1) (by omega), k2]

end Go.Proofs.Ythjafoacnfgjhac
