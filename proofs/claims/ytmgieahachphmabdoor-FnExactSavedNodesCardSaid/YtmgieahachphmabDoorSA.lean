import Derived.Test.YtmgieahachphmabDoorEndsInj
import Derived.Test.YtmgieahachphmabDoorBack
import Derived.RangeFuncFrom
import Derived.RangeFuncNested
import Derived.RangeFuncBox
import Derived.RangeFuncWrites
import Derived.Test.YtmgieahachphmabDoorMapI
import Derived.RangeFuncCalls
import Derived.Deep.RegionHeld3
import Derived.OrdersIn
import Derived.OwnWalkIn
import Derived.Sort.BigQuietIn
import Derived.Sort.CutIn
import Derived.Stop.RegionWithIn
import Derived.Test.YtmgieahachphmabDoorL7Ends

/-
  What the program finds of a trie's nodes, told one after another: plain mathematics.
-/
namespace Go.Proofs.YtmgieahachphmabDoor
set_option linter.unusedVariables false

def fdStep (t : List Nd) (FL : List Sg × (Nat → Nat)) (i : Nat) : List Sg × (Nat → Nat) :=
  if sg t FL.2 i ∈ FL.1 then (FL.1, setL FL.2 i (FL.1.idxOf (sg t FL.2 i))) else (FL.1 ++ [sg t FL.2 i], setL FL.2 i FL.1.length)
def fdL (t : List Nd) (is : List Nat) : List Sg × (Nat → Nat) := is.foldl (fdStep t) ([], fun _ => 0)

theorem fdL_snoc (t : List Nd) (is : List Nat) (i : Nat) : fdL t (is ++ [i]) = fdStep t (fdL t is) i := by
  unfold fdL
  rw [List.foldl_append]
  rfl

theorem fdL_dwn (t : List Nd) : ∀ m, fdL t (dwn t.length m) = fnd t m
  | 0 => rfl
  | m + 1 => by
    rw [dwn, fdL_snoc, fdL_dwn t m]
    rfl

theorem fdL_len (t : List Nd) (is : List Nat) : (fdL t is).1.length ≤ is.length ∧ ∀ j, (fdL t is).2 j ≤ is.length := by
  have main : ∀ (is : List Nat) (FL : List Sg × (Nat → Nat)) (k : Nat), FL.1.length ≤ k → (∀ j, FL.2 j ≤ k) → (is.foldl (fdStep t) FL).1.length ≤ k + is.length ∧ ∀ j, (is.foldl (fdStep t) FL).2 j ≤ k + is.length := by
    intro is
    induction is with
    | nil => intro FL k h1 h2; exact ⟨h1, h2⟩
    | cons i is ih =>
      intro FL k h1 h2
      have h3 : (fdStep t FL i).1.length ≤ k + 1 := by
        unfold fdStep
        split
        · show FL.1.length ≤ _; omega
        · show (FL.1 ++ _).length ≤ _; rw [List.length_append, List.length_singleton]; omega
      have h4 : ∀ j, (fdStep t FL i).2 j ≤ k + 1 := by
        intro j
        unfold fdStep
        split
        · rename_i hm
          have := List.idxOf_lt_length_iff.2 hm
          show setL FL.2 i _ j ≤ _
          unfold setL
          split
          · omega
          · have := h2 j; omega
        · show setL FL.2 i _ j ≤ _
          unfold setL
          split
          · omega
          · have := h2 j; omega
      have h5 := ih (fdStep t FL i) (k + 1) h3 h4
      rw [List.foldl_cons, List.length_cons]
      exact ⟨by omega, fun j => by have := h5.2 j; omega⟩
  have := main is ([], fun _ => 0) 0 (Nat.le_refl _) (fun _ => Nat.le_refl _)
  simpa [fdL] using this

theorem sg_lets {t : List Nd} {ps : List Txt} (hv : Valid t ps) (L : Nat → Nat) (i : Nat) : Lets (sg t L i).2 := by
  intro p hp
  obtain ⟨k, hk, rfl⟩ := List.mem_map.1 hp
  obtain ⟨h1, h2, d, hd, _⟩ := mem_kidsTo.1 hk
  obtain ⟨q, x, c, _, _, hl, h3, h4, _⟩ := hv.tells.step k d (by omega) h1 hd
  rw [ndA_at hd]
  show 0 ≤ d.l ∧ d.l ≤ 25
  omega

theorem fdL_lets {t : List Nd} {ps : List Txt} (hv : Valid t ps) (is : List Nat) : ∀ s ∈ (fdL t is).1, Lets s.2 := by
  have main : ∀ (is : List Nat) (FL : List Sg × (Nat → Nat)), (∀ s ∈ FL.1, Lets s.2) → ∀ s ∈ (is.foldl (fdStep t) FL).1, Lets s.2 := by
    intro is
    induction is with
    | nil => intro FL h; exact h
    | cons i is ih =>
      intro FL h
      rw [List.foldl_cons]
      refine ih _ fun s hs => ?_
      unfold fdStep at hs
      split at hs
      · exact h s hs
      · rw [show ((FL.1 ++ [sg t FL.2 i], setL FL.2 i FL.1.length) : List Sg × (Nat → Nat)).1 = FL.1 ++ [sg t FL.2 i] from rfl, List.mem_append, List.mem_singleton] at hs
        rcases hs with hs | rfl
        · exact h s hs
        · exact sg_lets hv _ _
  exact main is _ (fun s hs => by cases hs)

/-- the texts tell what the tellings tell -/
theorem ets_mem {F : List Sg} {s : Sg} (hF : ∀ x ∈ F, Lets x.2) (hs : Lets s.2) : ets s ∈ F.map ets ↔ s ∈ F := by
  rw [List.mem_map]
  constructor
  · rintro ⟨x, hx, e⟩
    rw [← ets_inj (hF x hx) hs e]
    exact hx
  · intro h
    exact ⟨s, h, rfl⟩

theorem ets_idx : ∀ {F : List Sg} {s : Sg}, (∀ x ∈ F, Lets x.2) → Lets s.2 → (F.map ets).idxOf (ets s) = F.idxOf s
  | [], s, _, _ => rfl
  | a :: F, s, hF, hs => by
    rw [List.map_cons, List.idxOf_cons, List.idxOf_cons, ets_idx (fun x hx => hF x (by simp [hx])) hs]
    have e : (ets a == ets s) = (a == s) := by
      rw [Bool.eq_iff_iff, beq_iff_eq, beq_iff_eq]
      exact ⟨fun h => ets_inj (hF a (by simp)) hs h, fun h => by rw [h]⟩
    rw [e]

end Go.Proofs.YtmgieahachphmabDoor

/-
  What findStates carries from node to node.
-/
namespace Go.Proofs.YtmgieahachphmabDoor
open Go.RowKit Go.Shelf
set_option linter.unusedVariables false

theorem gbel {a w : World} (h : Below a.heap.size a w) : a.grownBy w none := ⟨h.os, h.tape, h.output, h.size, fun k hk _ => h.block k hk⟩

theorem own_cells {W : World} {base size g n c : Nat} {e : TypeId} {xs : List Value} (h : W.ownsRow base e size (.slice (some ⟨g, 0, none⟩) n c) n xs) : ∃ o, W.heap[g]? = some o ∧ o.isCells = true := by
  rcases h.2 with ⟨e3, _⟩ | ⟨g9, cap9, cur9, e3, _, hg9, _⟩
  · cases e3
  · injection e3 with e4 _ _
    have e5 : g = g9 := by injection e4 with e4; injection e4
    rw [e5]
    exact ⟨_, hg9, rfl⟩

/-- z: the call's first block; s: the first one behind the numbers' row; m: a bound of the map; K: its keys; nf: how many states have been found; L: the numbers -/
structure FQ (z s n c : Nat) (a : Option Addr) (w0 : World) (m : Nat) (K : List Txt) (nf : Nat) (L : Nat → Nat) (V : World) : Prop where
  found : ∃ xs g cap, Boxed V (z + 2) 26 (.slice (some ⟨g, 0, none⟩) nf cap) ∧ V.ownsRow z 82 2 (.slice (some ⟨g, 0, none⟩) nf cap) nf xs ∧ ∃ o, V.heap[g]? = some o ∧ o.isCells = true
  nb : Boxed V s 55 (.slice (some ⟨z + 3, 0, none⟩) n n)
  no : V.ownsRow z 3 1 (.slice (some ⟨z + 3, 0, none⟩) n n) n (lrow L n)
  mb : Boxed V (s + 2) 102 (.map (some (s + 1)))
  mo : NumIs V (s + 1) m K
  kb : Boxed V (s + 3) 31 (.slice a n c)
  tb : Boxed V z 33 (.slice a n c)
  bel : Below z w0 V
  zs : z + 3 < s
  size : s + 4 ≤ V.heap.size

section
variable {z s n c m nf : Nat} {a : Option Addr} {w0 : World} {K : List Txt} {L : Nat → Nat} {V V' : World} {row : Option Nat}

theorem FQ.grown (h : FQ z s n c a w0 m K nf L V) (hg : V.grownBy V' row) (hr : ∀ r, row = some r → s + 4 ≤ r ∧ ∀ o, V.heap[r]? = some o → o.isCells = false) : FQ z s n c a w0 m K nf L V' := by
  have hzs := h.zs
  have hsz := h.size
  have key : ∀ k, k < s + 4 → some k ≠ row := fun k hk e => by have := (hr k e.symm).1; omega
  obtain ⟨xs, g, cap, h1, h2, o, h3, h4⟩ := h.found
  have hgr : some g ≠ row := fun e => by
    have := (hr g e.symm).2 o h3
    rw [this] at h4
    cases h4
  have hgl := (own_ge h2 rfl).2
  have hno : row ≠ some (z + 3) := fun e => key (z + 3) (by omega) e.symm
  exact ⟨⟨xs, g, cap, h1.kept hg (key _ (by omega)), h2.kept hg (.inr hgr), o, (hg.block g hgl hgr).trans h3, h4⟩, h.nb.kept hg (key _ (by omega)), h.no.kept hg (.inr (key (z + 3) (by omega))), h.mb.kept hg (key _ (by omega)), h.mo.kept (hg.block _ h.mo.lt (key _ (by omega))), h.kb.kept hg (key _ (by omega)), h.tb.kept hg (key _ (by omega)), h.bel.grown hg (by omega) (fun k e => by have := (hr k e).1; omega), hzs, by have := hg.size; omega⟩

theorem FQ.on (h : FQ z s n c a w0 m K nf L V) (hb : Below V.heap.size V V') : FQ z s n c a w0 m K nf L V' := h.grown (gbel hb) (fun r e => by cases e)

theorem map_block (h : NumIs V (s + 1) m K) : ∃ es k, V.heap[s + 1]? = some (.map es k) := by
  obtain ⟨D, ⟨es, clock, h1, _⟩, _⟩ := h
  exact ⟨es, clock, h1⟩

/-- the map is updated -/
theorem FQ.map {m' : Nat} {K' : List Txt} (h : FQ z s n c a w0 m K nf L V) (hS : NumIs V' (s + 1) m' K') (hg : V.grownBy V' (some (s + 1))) : FQ z s n c a w0 m' K' nf L V' := by
  have hzs := h.zs
  have hsz := h.size
  have key : ∀ k, k ≠ s + 1 → some k ≠ some (s + 1) := fun k hk e => hk (by injection e)
  obtain ⟨xs, g, cap, h1, h2, o, h3, h4⟩ := h.found
  obtain ⟨es, ck, hm⟩ := map_block h.mo
  have hgr : g ≠ s + 1 := fun e => by
    rw [e, hm] at h3
    injection h3 with h3
    rw [← h3] at h4
    cases h4
  have hgl := (own_ge h2 rfl).2
  exact ⟨⟨xs, g, cap, h1.kept hg (key _ (by omega)), h2.kept hg (.inr (key g hgr)), o, (hg.block g hgl (key g hgr)).trans h3, h4⟩, h.nb.kept hg (key _ (by omega)), h.no.kept hg (.inr (key (z + 3) (by omega))), h.mb.kept hg (key _ (by omega)), hS, h.kb.kept hg (key _ (by omega)), h.tb.kept hg (key _ (by omega)), h.bel.grown hg (by omega) (fun k e => by cases e; omega), hzs, by have := hg.size; omega⟩

/-- a number is stored -/
theorem FQ.num (h : FQ z s n c a w0 m K nf L V) {i : Nat} (hi : i < n) (v : Nat) : FQ z s n c a w0 m K nf (setL L i v) (V.setCell ⟨z + 3, i, none⟩ (.int .i64 (v : Int))) := by
  have hzs := h.zs
  have hsz := h.size
  have hst := h.no.stored i (.int .i64 (v : Int))
  have hg := hst.2
  have key : ∀ k, k ≠ z + 3 → some k ≠ some (z + 3) := fun k hk e => hk (by injection e)
  obtain ⟨xs, g, cap, h1, h2, o, h3, h4⟩ := h.found
  have hgr : some g ≠ some (z + 3) := by
    have h9 := own_ne h.no h2 (by decide)
    simpa [Value.ownBlock] using h9
  have hgl := (own_ge h2 rfl).2
  have hnl := (own_ge h.no rfl).2
  refine ⟨⟨xs, g, cap, h1.kept hg (key _ (by omega)), h2.kept hg (.inr hgr), o, (hg.block g hgl hgr).trans h3, h4⟩, h.nb.kept hg (key _ (by omega)), ?_, h.mb.kept hg (key _ (by omega)), h.mo.kept (hg.block _ h.mo.lt (key _ (by omega))), h.kb.kept hg (key _ (by omega)), h.tb.kept hg (key _ (by omega)), h.bel.grown hg (by omega) (fun k e => by have e2 : z + 3 = k := Option.some.inj e; omega), hzs, by have := hg.size; omega⟩
  have h5 := hst.1
  rw [lrow_set L n i v hi] at h5
  exact h5

theorem FQ.look (h : FQ z s n c a w0 m K nf L V) : Sl V.heap.size V (some ⟨z + 3, 0, none⟩) n n (lrow L n) := Sl.of_own h.no

/-- a state is appended, and the slice is stored -/
theorem FQ.app {w1 : World} {tmp : Obj} {g' cap' g cap : Nat} {xs xs' : List Value} (h : FQ z s n c a w0 m K nf L V) (hv : Boxed V (z + 2) 26 (.slice (some ⟨g, 0, none⟩) nf cap)) (hrow : V.ownsRow z 82 2 (.slice (some ⟨g, 0, none⟩) nf cap) nf xs)
    (hO : w1.ownsRow z 82 2 (.slice (some ⟨g', 0, none⟩) (nf + 1) cap') (nf + 1) xs') (hg : (V.alloc tmp).grownBy w1 (Value.slice (some ⟨g, 0, none⟩) nf cap).ownBlock) :
    FQ z s n c a w0 m K (nf + 1) L (w1.setCell ⟨z + 2, 0, none⟩ (.slice (some ⟨g', 0, none⟩) (nf + 1) cap')) := by
  have hzs := h.zs
  have hsz := h.size
  obtain ⟨b1, b2, b3, b4, b5⟩ := hv.appended (by decide) hrow (by omega) (by omega) hO hg
  have hgS := grownBy_setCell' w1 (z + 2) (.slice (some ⟨g', 0, none⟩) (nf + 1) cap')
  have key : ∀ k, k ≠ z + 2 → some k ≠ some (z + 2) := fun k hk e => hk (by injection e)
  obtain ⟨es, ck, hm⟩ := map_block h.mo
  have hmg : some (s + 1) ≠ (Value.slice (some ⟨g, 0, none⟩) nf cap).ownBlock := fun e => by
    have e2 : s + 1 = g := by simpa [Value.ownBlock] using e
    rcases hrow.2 with ⟨e3, _⟩ | ⟨g9, cap9, cur9, e3, _, hg9, _⟩
    · cases e3
    · injection e3 with e4 _ _
      have e5 : g = g9 := by injection e4 with e4; injection e4
      rw [← e5, ← e2, hm] at hg9
      cases hg9
  have hmap : (V.alloc tmp).heap[s + 1]? = V.heap[s + 1]? := (World.grownBy_alloc V tmp none).block (s + 1) h.mo.lt (by simp)
  have hml : s + 1 < (V.alloc tmp).heap.size := by have := h.mo.lt; simp; omega
  have hne : some (z + 3) ≠ (Value.slice (some ⟨g, 0, none⟩) nf cap).ownBlock := by
    have h9 := own_ne hrow h.no (by decide)
    simpa [Value.ownBlock] using h9
  have n1 := ((h.no.alloc tmp).kept hg (.inr hne)).kept hgS (.inr (key (z + 3) (by omega)))
  have m1 := (h.mo.kept hmap).kept (hg.block (s + 1) hml hmg)
  have m2 := m1.kept (hgS.block (s + 1) m1.lt (key _ (by omega)))
  refine ⟨⟨xs', g', cap', b2, b3, ?_⟩, ?_, n1, ?_, m2, ?_, ?_, h.bel.trans b5, hzs, by have := b5.size; omega⟩
  · exact own_cells b3
  · exact ((h.nb.alloc tmp).kept hg ((h.nb.alloc tmp).not_row (by decide) (hrow.alloc tmp))).kept hgS (key _ (by omega))
  · exact ((h.mb.alloc tmp).kept hg ((h.mb.alloc tmp).not_row (by decide) (hrow.alloc tmp))).kept hgS (key _ (by omega))
  · exact ((h.kb.alloc tmp).kept hg ((h.kb.alloc tmp).not_row (by decide) (hrow.alloc tmp))).kept hgS (key _ (by omega))
  · exact ((h.tb.alloc tmp).kept hg ((h.tb.alloc tmp).not_row (by decide) (hrow.alloc tmp))).kept hgS (key _ (by omega))

end
end Go.Proofs.YtmgieahachphmabDoor

/-
  A region that draws its order, in a statement of a range over a function: walked by the laws of a plain walk.
-/
namespace Go.Proofs.YtmgieahachphmabDoor
open Go.RowKit
set_option linter.unusedVariables false

section
variable {l n : Nat} {P : Program} {md : Region.Mode} {ops : Array Oper} {Q : Exit → Act → World → Prop} {S : World → Prop}

/-- only the plain way on -/
def Only (Q : Exit → Act → World → Prop) : Exit → Act → World → Prop
  | .normal, a, w => Q .normal a w
  | _, _, _ => False

theorem Only.imp : ∀ e a w, Only Q e a w → Q e a w := fun e a w h => by
  cases e <;> first | exact h | exact (h : False).elim
theorem Only.met {K : Act → World → Prop} {a : Act} {w : World} (h : K a w) : Only (Exit.then K Q) .normal a w := h
theorem Only.kept : ¬ LetsOut (Only Q) := fun ⟨_, _, h⟩ => h

theorem oper_round {o : Oper} {a : Act} {w : World} {K : Act → World → Prop} (hd : ∀ c, o.op ≠ .defer c) (h : o.wp P a w K Q) : o.wpIn (Fence.wide.inRound l) n P a w K Q := by
  refine ⟨fun f _ => trivial, ?_⟩
  have hno : (Fence.wide.inRound l).depth.isSome = true → 1 ≤ n := fun hx => by cases hx
  rw [Oper.semAt_plain _ _ _ hd]
  unfold Oper.wp at h
  generalize (execOp a.eval o).run P w = r at h ⊢
  cases r with
  | ok x w' =>
    cases x with
    | value v => exact h
    | skip => exact h
    | defer d => exact h
    | enter f args => exact ⟨hno, CallsIn.inRound l (callsIn_wide.2 h)⟩
    | row r args => exact ⟨hno, fun c cs _ => by
        obtain ⟨v, w2, h1, h2⟩ := (show Rows P r args w' _ from h) c cs
        exact ⟨v, w2, h1, by rw [fenced_inRound]; exact stepsIn_wide.2 h2⟩⟩
    | _ => exact (h : False).elim
  | halt x w' => cases x <;> first | exact h | exact (h : False).elim

theorem op_round (hQ : ¬ LetsOut Q) (hd : ∀ (i : Nat) o, ops[i]? = some o → ∀ c, o.op ≠ .defer c) {i : Nat} {K K' : Act → World → Prop} {a : Act} {w : World} (hK : ∀ a w, K a w → K' a w) (h : wpOp P ops Q i K a w) : wpOpIn (Fence.wide.inRound l) n P ops Q i K' a w := by
  unfold wpOp at h
  unfold wpOpIn
  cases ho : ops[i]? with
  | none => rw [ho] at h; exact hK _ _ h
  | some o =>
    rw [ho] at h
    by_cases hw : Region.wanted o (yielded ops a.tmps) = true
    · simp only [hw, if_true] at h ⊢
      rcases h with h | h
      · exact oper_round (hd i o ho) (Oper.wp_mono hK h)
      · exact (hQ h.2).elim
    · simp only [hw] at h ⊢
      exact ⟨fun _ _ => trivial, hK _ _ h⟩

theorem any_round (hQ : ¬ LetsOut Q) (hd : ∀ (i : Nat) o, ops[i]? = some o → ∀ c, o.op ≠ .defer c) : ∀ (fuel : Nat) (listed : Array Bool) (a : Act) (w : World), wpAny P md ops Q fuel listed a w → wpAnyIn (Fence.wide.inRound l) n P md ops Q fuel listed a w
  | 0, _, _, _, h => h
  | fuel + 1, listed, _, _, h => ⟨h.1, fun i hi => op_round hQ hd (any_round hQ hd fuel _) (h.2 i hi)⟩

/-- no operation of the region defers -/
def noDefers (ops : Array Oper) : Bool := ops.toList.all fun o => match o.op with | .defer _ => false | _ => true
theorem noDefers_spec (h : noDefers ops = true) : ∀ (i : Nat) o, ops[i]? = some o → ∀ c, o.op ≠ .defer c := fun i o ho c hc => by
  have hm : o ∈ ops.toList := by
    rw [← Array.getElem?_toList] at ho
    exact List.mem_of_getElem? ho
  have := List.all_eq_true.1 h o hm
  rw [hc] at this
  cases this

theorem wpIn_region_round (S : World → Prop) {id : Nat} {a : Act} {w : World} (hm : P.follows .mixedOrders = true) (hd : noDefers ops = true) (hS : S w.drew)
    (h : S w.drew → wpAnyH P .any ops (Only Q) S ops.size (Array.replicate ops.size false) a w.drew) : (Code.region id ops true).wpIn (Fence.wide.inRound l) n P Q a w :=
  Go.wpIn_mono (wpIn_region_any hm (any_round Only.kept (noDefers_spec hd) _ _ _ _ (wpAny_of_held _ _ _ _ (h hS)))) Only.imp

end
end Go.Proofs.YtmgieahachphmabDoor

/-
  The program finds the states of a trie's nodes.
-/
namespace Go.Proofs.YtmgieahachphmabDoor
open Go.RowKit Go.Shelf
set_option linter.unusedVariables false

attribute [local go_sem] Oper.semAt_some

theorem lit_ownF {W : World} {o : Obj} : ((W.alloc o).alloc (.cells #[] 82)).ownsRow W.heap.size 82 2 (.slice (some ⟨W.heap.size + 1, 0, none⟩) 0 0) 0 [] := by
  have := World.ownsRow_lit (base := W.heap.size) (e := 82) (size := 2) (W.alloc o) #[] 0 (by simp) (by unfold maxLen; omega) rfl
  simpa using this

/-- a state in a box -/
def Boxed2 (W : World) (B : Nat) (e : Bool) (v : Value) : Prop := W.heap[B]? = some (.cells #[.bool e, v] 82)

theorem two_set {W : World} {g : Nat} {a b a' b' : Value} {e : TypeId} (h : W.heap[g]? = some (.cells #[a, b] e)) : ((W.setCell ⟨g, 0, none⟩ a').setCell ⟨g, 1, none⟩ b').heap[g]? = some (.cells #[a', b'] e) := by
  simp [World.setCell, Array.getElem?_modify, h]

theorem grown_at (W : World) (b o : Nat) (v : Value) : W.grownBy (W.setCell ⟨b, o, none⟩ v) (some b) :=
  ⟨rfl, rfl, rfl, by simp [World.setCell], fun k _ hk => Below.heap_setCell _ _ _ k (fun e => hk (by rw [e]))⟩

theorem NumIs.more {W : World} {b n n' : Nat} {ks : List Txt} (h : NumIs W b n ks) (hn : n ≤ n') : NumIs W b n' ks := by
  obtain ⟨D, h1, h2⟩ := h
  exact ⟨D, h1.mono hn, h2⟩
theorem FQ.more {z s n c m nf : Nat} {a : Option Addr} {w0 V : World} {K : List Txt} {L : Nat → Nat} (h : FQ z s n c a w0 m K nf L V) : FQ z s n c a w0 (m + 1) K nf L V :=
  ⟨h.found, h.nb, h.no, h.mb, h.mo.more (Nat.le_succ _), h.kb, h.tb, h.bel, h.zs, h.size⟩
theorem infoSt : (Tryd.prog.info? 82).map (fun i => (i.zero, i.size, i.bytes)) = some (some (.agg #[.bool false, .slice none 0 0]), 2, 32) := by kernel_rfl
theorem zeroN (w : World) : (zeroValue 3).run Tryd.prog w = .ok (.int .i64 0) w := by kernel_rfl
theorem ets_len {s : Sg} (h : ∀ p ∈ s.2, p.2 ≤ 1000) (hm : s.2.length ≤ 481) : (ets s).length ≤ maxLen := by
  have h1 := etl_len s.2 h
  unfold ets maxLen
  rw [List.length_append]
  have : (if s.1 then [46] else [] : List UInt8).length ≤ 1 := by split <;> simp
  omega

/-- a row that is made, in a walk within a fence -/
theorem upon_makeIn {F : Fence} {N : Nat} {P : Program} {w : World} {o : Oper} {ac : Act} {K : Act → World → Prop} {Q : Exit → Act → World → Prop} {kl kc : IntKind} {n : Nat} (t e : TypeId) (i : TypeInfo) (z : Value) (bytes : Nat) (ht : P.underlying t = some (.slice e)) (hi : P.info? e = some i) (hz : i.zero = some z) (hsize : i.size = 1) (hby : i.bytes = bytes) (hzc : z.cells = #[z]) (hb : bytes * n ≤ 281474976710656) (h63 : n ≤ maxLen)
    (h : ∀ w', w'.ownsRow w.heap.size e 1 (.slice (some ⟨w.heap.size, 0, none⟩) n n) n (List.replicate n z) → w.grownBy w' none → K (ac.put o.dst (.slice (some ⟨w.heap.size, 0, none⟩) n n)) w') :
    Oper.uponIn F N P o ac K Q (((Instr.makeSlice t (.int kl (n : Int)) (.int kc (n : Int))).run P w).andThen fun a w' => .ok (.value a) w') := by
  obtain ⟨w', hr, h1, h2⟩ := run_make_full (P := P) (w := w) w.heap.size t e i z 1 ht hi hz hsize kl kc n (by rw [hby]; exact hb) h63 (Nat.le_refl _)
  rw [hr]
  exact h w' (made_rep hzc h1) h2

set_option maxRecDepth 1000000 in
set_option maxHeartbeats 4000000 in
theorem findStates_in (N : Nat) (hN3 : 5 ≤ N) (B : Nat) (a : Option Addr) (n c : Nat) (t : List Nd) (ps : List Txt) (hv : Valid t ps) (w : World) (hB : B ≤ w.heap.size) (h : Nds B w a n c t) (htab : Lib.TabBelow Tryd.prog B w "internal/strconv.uint64pow10" .u64 Lib.pow10Tab) :
    CallsIn Fence.wide N Tryd.prog 48 #[.agg #[.slice a n c]] w fun e w' => ∃ vf gn xs, e = .returned (.tuple #[vf, .slice (some ⟨gn, 0, none⟩) n n]) ∧ w'.ownsRow w.heap.size 3 1 (.slice (some ⟨gn, 0, none⟩) n n) n (lrow (lbI t) n) ∧ w'.ownsRow w.heap.size 82 2 vf (fdI t).length xs ∧ Below w.heap.size w w' := by
  have h1 : 1 ≤ N := by omega
  have L := Lib.hid h.len
  have HV := Lib.hid hv
  have hn481 : n ≤ 481 := by have := hv.size; have := h.len; omega
  obtain ⟨j0, hji, hy0, hy1, hy2⟩ := info_parts infoI
  have hb1 : Below w.heap.size w (w.alloc (.cells #[.slice a n c] 33)) := (Below.refl _ _).alloc (Nat.le_refl _) _
  have hbx : (w.alloc (.cells #[.slice a n c] 33)).cell? ⟨w.heap.size, 0, none⟩ = some (.slice a n c) := by simp
  clear hv
  have hmm := @run_makeMap Tryd.prog
  refine callsIn_of_wp_marks Tryd.func48 rfl trivial ?_ rfl
  simp only [Tryd.ntmps48, List.size_toArray, List.length_cons, List.length_nil, Nat.reduceAdd, Nat.reduceSub, Array.replicate_succ, Array.replicate_zero, List.push_toArray, List.append_toArray, List.nil_append, List.cons_append]
  gi_wp2_with fail
  refine upon_makeIn 55 3 j0 (.int .i64 0) 8 Tryd.underlying55 hji hy0 hy1 hy2 rfl (by omega) (by unfold maxLen; omega) ?_
  intro w3 hO3 hg3
  have hb3 : Below (w.heap.size + 1) (w.alloc (.cells #[.slice a n c] 33)) w3 := (((Below.refl _ _).alloc (by simp) _).alloc (by simp) _).grown hg3 (by simp) (fun k e => by cases e)
  have hbx3 := (hb3.cell (p := ⟨w.heap.size, 0, none⟩) (by show w.heap.size < w.heap.size + 1; omega)).trans hbx
  have hlt3 : w.heap.size + 3 < w3.heap.size := by have := (own_ge hO3 rfl).2; simpa using this
  have hb4 : Below w3.heap.size w3 (((w3.alloc (.cells #[.slice (some ⟨w.heap.size + 1 + 1 + 1, 0, none⟩) n n] 55)).alloc (.map #[] 0)).alloc (.cells #[.map (some (w3.heap.size + 1))] 102)) := (((Below.refl _ _).alloc (Nat.le_refl _) _).alloc (by simp) _).alloc (by simp; omega) _
  have hbx4 := (hb4.cell (p := ⟨w.heap.size, 0, none⟩) (by show w.heap.size < w3.heap.size; omega)).trans hbx3
  gi_wp2_with (refine ⟨trivial, ?_⟩; gi_at_call 76; refine (backward_in (N - 1) a n c _).mono ?_; rintro e w4 ⟨rfl, rfl⟩)
  have hN4 := (h.keep (hb1.mono hB)).keep ((hb3.mono (by omega)).trans (hb4.mono (by omega)))
  have tb0 := Boxed.new w 33 (.slice a n c)
  have fo0 := lit_ownF (W := w) (o := .cells #[.slice a n c] 33)
  have fb0 := Boxed.new ((w.alloc (.cells #[.slice a n c] 33)).alloc (.cells #[] 82)) 26 (.slice (some ⟨w.heap.size + 1, 0, none⟩) 0 0)
  have nb0 := Boxed.new w3 55 (.slice (some ⟨w.heap.size + 1 + 1 + 1, 0, none⟩) n n)
  have mo0 := NumIs.made (w3.alloc (.cells #[.slice (some ⟨w.heap.size + 1 + 1 + 1, 0, none⟩) n n] 55))
  have mb0 := Boxed.new ((w3.alloc (.cells #[.slice (some ⟨w.heap.size + 1 + 1 + 1, 0, none⟩) n n] 55)).alloc (.map #[] 0)) 102 (.map (some (w3.heap.size + 1)))
  have kb0 := Boxed.new (((w3.alloc (.cells #[.slice (some ⟨w.heap.size + 1 + 1 + 1, 0, none⟩) n n] 55)).alloc (.map #[] 0)).alloc (.cells #[.map (some (w3.heap.size + 1))] 102)) 31 (.slice a n c)
  have hg4 := gbel hb4
  have tb4 := ((((tb0.alloc (.cells #[] 82)).alloc (.cells #[.slice (some ⟨w.heap.size + 1, 0, none⟩) 0 0] 26)).kept hg3 (by simp)).kept hg4 (by simp)).alloc (.cells #[.slice a n c] 31)
  have fb4 := ((fb0.kept hg3 (by simp)).kept hg4 (by simp)).alloc (.cells #[.slice a n c] 31)
  have fo4 := (((fo0.alloc (.cells #[.slice (some ⟨w.heap.size + 1, 0, none⟩) 0 0] 26)).kept hg3 (.inr (by simp [Value.ownBlock]))).kept hg4 (.inr (by simp [Value.ownBlock]))).alloc (.cells #[.slice a n c] 31)
  have no4 := (((hO3.alloc (.cells #[.slice (some ⟨w.heap.size + 1 + 1 + 1, 0, none⟩) n n] 55)).alloc (.map #[] 0)).alloc (.cells #[.map (some (w3.heap.size + 1))] 102)).alloc (.cells #[.slice a n c] 31)
  have nb4 := ((nb0.alloc (.map #[] 0)).alloc (.cells #[.map (some (w3.heap.size + 1))] 102)).alloc (.cells #[.slice a n c] 31)
  have mb4 := mb0.alloc (.cells #[.slice a n c] 31)
  have hN5 := hN4.keep ((Below.refl B _).alloc (by simp; omega) (.cells #[.slice a n c] 31))
  have hsz5 : ((((w3.alloc (.cells #[.slice (some ⟨w.heap.size + 1 + 1 + 1, 0, none⟩) n n] 55)).alloc (.map #[] 0)).alloc (.cells #[.map (some (w3.heap.size + 1))] 102)).alloc (.cells #[.slice a n c] 31)).heap.size = w3.heap.size + 4 := by simp
  have mo4 := (mo0.kept ((World.grownBy_alloc _ (.cells #[.map (some (w3.heap.size + 1))] 102) none).block _ mo0.lt (by simp)))
  have mo5 := (mo4.kept ((World.grownBy_alloc _ (.cells #[.slice a n c] 31) none).block _ mo4.lt (by simp)))
  obtain ⟨w0, hw0⟩ : ∃ w0, (((w3.alloc (.cells #[.slice (some ⟨w.heap.size + 1 + 1 + 1, 0, none⟩) n n] 55)).alloc (.map #[] 0)).alloc (.cells #[.map (some (w3.heap.size + 1))] 102)).alloc (.cells #[.slice a n c] 31) = w0 := ⟨_, rfl⟩
  rw [hw0] at tb4 fb4 fo4 no4 nb4 mb4 hN5 hsz5 mo5 kb0 ⊢
  simp only [World.size_alloc] at tb4 fb4 fo4 no4 nb4 mb4 mo5 kb0
  have hHB : Below w.heap.size w w0 := by
    rw [← hw0]
    exact (hb1.trans ((hb3.mono (by omega)).trans (hb4.mono (by omega)))).alloc (by simp; omega) _
  have HHB := Lib.hid hHB
  obtain ⟨z, hz⟩ : ∃ z, w.heap.size = z := ⟨_, rfl⟩
  obtain ⟨s, hs⟩ : ∃ s, w3.heap.size = s := ⟨_, rfl⟩
  have HZ := Lib.hid hz
  rw [hz] at tb4 fb4 fo4 no4 nb4 hlt3 hB
  rw [hs] at nb4 mb4 hsz5 mo5 kb0 hlt3
  have HQ0 : Hid (FQ z s n c a w0 0 [] 0 (fun _ => 0) w0) := Lib.hid ⟨⟨[], z + 1, 0, fb4, fo4, own_cells fo4⟩, nb4, by rw [lrow_zero]; exact own_down no4 (by omega), mb4, mo5, kb0, tb4, Below.refl _ _, hlt3, by omega⟩
  simp only [hz, hs]
  clear hw0 tb0 fo0 fb0 nb0 mo0 mb0 kb0 hg4 tb4 fb4 fo4 no4 nb4 mb4 mo4 mo5 hN4 hb4 hbx4 hbx3 hb3 hO3 hg3 hbx hb1 hz hs hHB
  simp only [Nat.add_assoc, Nat.reduceAdd]
  have hcell := HQ0.out.kb.cell
  refine wpIn_rangeFunc_ownH rfl h1 (gf := 91) (lb := #[.pointer (some ⟨s + 3, 0, none⟩)]) rfl trivial (enters_of Tryd.func91 (by kernel_rfl) rfl)
    (back_stops (N - 1) (by omega) (s + 3) B n c a t hn481 w0 (by omega) (by omega) hcell hN5) KeepE.trans (keepE_b (by omega) (by omega)) (Below.refl _ _) (fun _ => rfl)
    (fun pre V => FQ z s n c a w0 pre.length ((fdL t (pre.map BN.i)).1.map ets) (fdL t (pre.map BN.i)).1.length (fdL t (pre.map BN.i)).2 V)
    (fun _ _ _ => False)
    (fun pre V V' row hs hg hr => hs.grown hg (fun r e => ⟨by have := (hr r e).1; omega, fun o ho => by obtain ⟨o2, h2, h3⟩ := (hr r e).2; rw [h2] at ho; cases ho; exact h3⟩))
    (fun _ _ _ _ _ hs _ _ => hs)
    HQ0.out
    (fun x a' V => ∃ Bx, s + 3 < Bx ∧ V.heap[Bx]? = some (.cells #[.int .i64 x.d.l, .int .i64 x.d.p, .bool x.d.e] 92) ∧ a' = { tmps := #[.agg #[.slice a n c], .pointer (some ⟨z, 0, none⟩), .slice none 0 0, .slice none 0 0, .pointer (some ⟨z + 2, 0, none⟩), .pointer (some ⟨s, 0, none⟩), .pointer (some ⟨s + 2, 0, none⟩), .int .i64 (x.i : Int), .pointer (some ⟨Bx, 0, none⟩), undef, undef, undef, undef, .slice (some ⟨z + 1, 0, none⟩) 0 0, .pointer (some ⟨z, 0, none⟩), .slice a n c, .int .i64 (n : Int), .slice (some ⟨z + 3, 0, none⟩) n n, .map (some (s + 1)), .pointer (some ⟨z, 0, none⟩), .slice a n c, .func (.func 91) #[] #[.pointer (some ⟨s + 3, 0, none⟩)], .int .i64 (x.i : Int), .agg #[.int .i64 x.d.l, .int .i64 x.d.p, .bool x.d.e], undef, undef, undef, undef, undef, undef, undef, undef, undef, undef, undef, undef, undef, undef, undef, undef, undef, undef, undef, undef, undef, undef, undef, undef, undef, undef, undef, undef, undef, undef, undef, undef], defers := [] })
    (fun x a' _ X Y row hs hg hr => by
      obtain ⟨Bx, q1, q2, q3⟩ := hs
      refine ⟨Bx, q1, (hg.block Bx (Array.getElem?_eq_some_iff.1 q2).1 (fun e => ?_)).trans q2, q3⟩
      obtain ⟨o2, h2, h3⟩ := (hr Bx e.symm).2
      rw [q2] at h2
      cases h2
      cases h3)
    ?assign ?body ?done ?stop
  case assign =>
    rintro l pre x V K hQ hK
    gi_wp2
    exact hK _ _ ((KeepsOthers.alloc _ _).from _) ⟨(World.grownBy_alloc V _ none).block (s + 3) (by have := hQ.size; omega) (by simp), (Below.refl _ _).alloc (by have := hQ.size; omega) _⟩ (hQ.on ((Below.refl _ _).alloc (Nat.le_refl _) _)) ⟨V.heap.size, by have := hQ.size; omega, heap_alloc_new V _, rfl⟩
  case body =>
    rintro l pre x a' V hl ⟨r, hr⟩ hQ ⟨Bx, hBx, hX, rfl⟩ hlt
    have hin : x.i < n := by have := (List.getElem?_eq_some_iff.1 x.at').1; have := L.out; omega
    have HSn : Hid (fdL t ((pre ++ [x]).map BN.i) = fdStep t (fdL t (pre.map BN.i)) x.i) := Lib.hid (by rw [List.map_append]; exact fdL_snoc t _ _)
    have HLen := Lib.hid (fdL_len t (pre.map BN.i))
    have HLet := Lib.hid (fdL_lets HV.out (pre.map BN.i))
    obtain ⟨FL, hFL⟩ : ∃ FL, fdL t (pre.map BN.i) = FL := ⟨_, rfl⟩
    rw [hFL] at hQ HSn HLen HLet
    obtain ⟨F, M⟩ := FL
    change FQ z s n c a w0 pre.length (F.map ets) F.length M V at hQ
    change Hid (F.length ≤ (pre.map BN.i).length ∧ ∀ j, M j ≤ (pre.map BN.i).length) at HLen
    change Hid (∀ y ∈ F, Lets y.2) at HLet
    rw [List.length_map] at HLen
    have HSg : Hid (sg t M x.i = (x.d.e, (sg t M x.i).2)) := Lib.hid (by
      have : (sg t M x.i).1 = x.d.e := by show (ndA t x.i).e = _; rw [ndA_at x.at']
      rw [← this])
    have HLs := Lib.hid (sg_lets HV.out M x.i)
    have cE : Hid (∀ W, FQ z s n c a w0 pre.length (F.map ets) F.length M W → Calls Tryd.prog 77 #[.agg #[.slice a n c], .int .i64 (x.i : Int), .slice (some ⟨z + 3, 0, none⟩) n n] W fun e w' => ∃ v, e = .returned v ∧ w'.ownsRow W.heap.size 84 2 v (sg t M x.i).2.length (ecells (sg t M x.i).2) ∧ Below W.heap.size W w') := Lib.hid (fun W hW => edgesAt_any B (z + 3) a n c x.i t ps M W (by have := hW.size; have := hW.zs; omega) (hN5.keep (hW.bel.mono hB)) HV.out hin hW.look)
    have h1b : 1 ≤ N - 1 - 1 := by omega
    have HQ := Lib.hid hQ
    have hsV := hQ.size
    have HQd : Hid (FQ z s n c a w0 pre.length (F.map ets) F.length M V.drew) := Lib.hid (hQ.on (Below.refl _ _).drew)
    have hxe : V.cell? ⟨Bx, 2, none⟩ = some (.bool x.d.e) := by simp [World.cell?, hX]
    have hBxl : Bx < V.heap.size := (Array.getElem?_eq_some_iff.1 hX).1
    have htb := hQ.tb.cell
    have hnb := hQ.nb.cell
    clear hFL hr
    gi_wp2_with fail
    gi_cut [9] from 24 (fun p9 wx => ∃ Bs ve, p9 = .pointer (some ⟨Bs, 0, none⟩) ∧ Hid (V.heap.size ≤ Bs ∧ Boxed2 wx Bs x.d.e ve) ∧ Hid (wx.ownsRow V.heap.size 84 2 ve (sg t M x.i).2.length (ecells (sg t M x.i).2)) ∧ Hid (Below V.heap.size V wx))
    case first =>
      have HS3 : Hid (∀ W, Below V.heap.size V W → W.cell? ⟨Bx, 2, none⟩ = some (.bool x.d.e) ∧ W.cell? ⟨z, 0, none⟩ = some (.slice a n c) ∧ W.cell? ⟨s, 0, none⟩ = some (.slice (some ⟨z + 3, 0, none⟩) n n)) := Lib.hid (fun W hb => ⟨(hb.cell (p := ⟨Bx, 2, none⟩) hBxl).trans hxe, (hQ.on hb).tb.cell, (hQ.on hb).nb.cell⟩)
      clear hxe htb hnb
      refine wpIn_region_round (fun W => Below V.heap.size V W) (by kernel_rfl) (by kernel_rfl) (Below.refl _ _).drew (fun hHeld => ?_)
      refine wpAnyH_take (i := 0) (oi := _) (v := .pointer (some ⟨Bx, 2, none⟩)) rfl (by kernel_rfl) (by kernel_rfl) (by kernel_rfl) (fun _ _ _ h => h) (Or.inl ⟨by rfl, ?_⟩) hHeld ?_
      · intro W hSw
        obtain ⟨hq1, hq2, hq3⟩ := HS3.out W hSw
        go_simp
      simp only [Act.put, List.setIfInBounds_toArray]
      refine wpAnyH_take (i := 1) (oi := _) (v := .bool x.d.e) rfl (by kernel_rfl) (by kernel_rfl) (by kernel_rfl) (fun _ _ _ h => h) (Or.inl ⟨by rfl, ?_⟩) hHeld ?_
      · intro W hSw
        obtain ⟨hq1, hq2, hq3⟩ := HS3.out W hSw
        go_simp
      simp only [Act.put]
      refine wpAnyH_take (i := 2) (oi := _) (v := .agg #[.slice a n c]) rfl (by kernel_rfl) (by kernel_rfl) (by kernel_rfl) (fun _ _ _ h => h) (Or.inl ⟨by rfl, ?_⟩) hHeld ?_
      · intro W hSw
        obtain ⟨hq1, hq2, hq3⟩ := HS3.out W hSw
        go_simp
      simp only [Act.put]
      refine wpAnyH_take (i := 3) (oi := _) (v := .int .i64 (x.i : Int)) rfl (by kernel_rfl) (by kernel_rfl) (by kernel_rfl) (fun _ _ _ h => h) (Or.inl ⟨by rfl, ?_⟩) hHeld ?_
      · intro W hSw
        obtain ⟨hq1, hq2, hq3⟩ := HS3.out W hSw
        go_simp
      simp only [Act.put]
      refine wpAnyH_take (i := 4) (oi := _) (v := .slice (some ⟨z + 3, 0, none⟩) n n) rfl (by kernel_rfl) (by kernel_rfl) (by kernel_rfl) (fun _ _ _ h => h) (Or.inl ⟨by rfl, ?_⟩) hHeld ?_
      · intro W hSw
        obtain ⟨hq1, hq2, hq3⟩ := HS3.out W hSw
        go_simp
      simp only [Act.put]
      refine wpAnyH_ready (rs := [5, 7]) (by kernel_rfl) (by simp) ?_
      refine AllReadyH.cons rfl (fun K hK => ?_) (AllReadyH.cons rfl (fun K hK => ?_) AllReadyH.nil)
      · rw [if_pos (by rfl)]
        go_simp
        go_at_call 77
        refine (cE.out _ HQd.out).mono ?_
        rintro e w3 ⟨ve, rfl, hO3, hb3⟩
        obtain ⟨a3, c3, rfl⟩ := own_slice hO3
        obtain ⟨m3, hm3⟩ : ∃ m3, (sg t M x.i).2.length = m3 := ⟨_, rfl⟩
        rw [hm3] at hO3 ⊢
        have hb3' : Below V.heap.size V w3 := (Below.refl _ _).drew.trans hb3
        refine hK.out _ _ hb3' (fun hHeld => ?_)
        clear hK K
        try simp only [Act.put]
        refine wpAnyH_take (i := 6) (oi := _) (v := .agg #[.bool x.d.e, .slice a3 m3 c3]) rfl (by kernel_rfl) (by kernel_rfl) (by kernel_rfl) (fun _ _ _ h => h) (Or.inl ⟨by rfl, ?_⟩) hHeld ?_
        · intro W hSw
          go_simp
        try simp only [Act.put]
        refine wpAnyH_ready (rs := [7]) (by kernel_rfl) (by simp) ?_
        refine AllReadyH.cons rfl (fun K hK => ?_) AllReadyH.nil
        rw [if_pos (by rfl)]
        go_simp
        refine hK.out _ _ (hb3'.alloc hb3'.size _) (fun hHeld => ?_)
        clear hK K
        try simp only [Act.put]
        refine wpAnyH_ready (rs := [8]) (by kernel_rfl) (by simp) ?_
        refine AllReadyH.cons rfl (fun K hK => ?_) AllReadyH.nil
        rw [if_pos (by rfl)]
        go_simp
        have hb4 : Below V.heap.size V (w3.alloc (.cells #[.bool x.d.e, .slice a3 m3 c3] 82)) := hb3'.alloc hb3'.size _
        refine hK.out _ _ hb4 (fun hHeld => ?_)
        clear hK K
        refine wpAnyH_done (by kernel_rfl) ?_ _
        refine Only.met ?_
        gi_wp2
        gi_meet
        case rel => exact ⟨w3.heap.size, _, rfl, Lib.hid ⟨hb3'.size, heap_alloc_new w3 _⟩, Lib.hid (by rw [hm3]; exact hO3.alloc _), Lib.hid hb4⟩
      · rw [if_pos (by rfl)]
        go_simp
        have hb2 : Below V.heap.size V (V.alloc (.cells #[.bool false, .slice none 0 0] 82)).drew := ((Below.refl _ _).alloc (Nat.le_refl _) _).drew
        refine hK.out _ _ hb2 (fun hHeld => ?_)
        clear hK K
        try simp only [Act.put]
        refine wpAnyH_ready (rs := [5]) (by kernel_rfl) (by simp) ?_
        refine AllReadyH.cons rfl (fun K hK => ?_) AllReadyH.nil
        rw [if_pos (by rfl)]
        go_simp
        go_at_call 77
        refine (cE.out _ (HQ.out.on hb2)).mono ?_
        rintro e w3 ⟨ve, rfl, hO3, hb3⟩
        obtain ⟨a3, c3, rfl⟩ := own_slice hO3
        obtain ⟨m3, hm3⟩ : ∃ m3, (sg t M x.i).2.length = m3 := ⟨_, rfl⟩
        rw [hm3] at hO3 ⊢
        have hb3' : Below V.heap.size V w3 := hb2.trans (hb3.mono hb2.size)
        have hcn : w3.heap[V.heap.size]? = some (.cells #[.bool false, .slice none 0 0] 82) := (hb3.block _ (by simp)).trans (heap_alloc_new V _)
        have hc0 : w3.cell? ⟨V.heap.size, 0, none⟩ = some (.bool false) := by simp [World.cell?, hcn]
        have hc1 : w3.cell? ⟨V.heap.size, 1, none⟩ = some (.slice none 0 0) := by simp [World.cell?, hcn]
        have hf0 : w3.frozen? ⟨V.heap.size, 0, none⟩ = false := by simp [World.frozen?, hcn]
        have hf1 : w3.frozen? ⟨V.heap.size, 1, none⟩ = false := by simp [World.frozen?, hcn]
        refine hK.out _ _ hb3' (fun hHeld => ?_)
        clear hK K
        try simp only [Act.put]
        refine wpAnyH_take (i := 6) (oi := _) (v := .agg #[.bool x.d.e, .slice a3 m3 c3]) rfl (by kernel_rfl) (by kernel_rfl) (by kernel_rfl) (fun _ _ _ h => h) (Or.inl ⟨by rfl, ?_⟩) hHeld ?_
        · intro W hSw
          go_simp
        try simp only [Act.put]
        refine wpAnyH_ready (rs := [8]) (by kernel_rfl) (by simp) ?_
        refine AllReadyH.cons rfl (fun K hK => ?_) AllReadyH.nil
        rw [if_pos (by rfl)]
        go_simp
        have hb4 : Below V.heap.size V ((w3.setCell ⟨V.heap.size, 0, none⟩ (.bool x.d.e)).setCell ⟨V.heap.size, 1, none⟩ (.slice a3 m3 c3)) := (hb3'.setCell (Nat.le_refl _) _).setCell (Nat.le_refl _) _
        refine hK.out _ _ hb4 (fun hHeld => ?_)
        clear hK K
        refine wpAnyH_done (by kernel_rfl) ?_ _
        refine Only.met ?_
        gi_wp2
        gi_meet
        have hne : (Value.slice a3 m3 c3).ownBlock ≠ some V.heap.size := fun e => by
          have := (own_ge hO3 e).1
          rw [show (V.alloc (.cells #[.bool false, .slice none 0 0] 82)).drew.heap.size = V.heap.size + 1 from World.size_alloc _ _] at this
          omega
        have hO4 := ((own_down hO3 hb2.size).kept (grownBy_setCell' w3 V.heap.size (.bool x.d.e)) (.inr (by first | exact hne | exact hne.symm))).kept (grown_at _ V.heap.size 1 (.slice a3 m3 c3)) (.inr (by first | exact hne | exact hne.symm))
        case rel => exact ⟨V.heap.size, _, rfl, Lib.hid ⟨Nat.le_refl _, two_set hcn⟩, Lib.hid (by rw [hm3]; exact hO4), Lib.hid hb4⟩
    case rest =>
      obtain ⟨Bs, ve, rfl, HBs, HRow, HBc⟩ := hcut
      obtain ⟨a3, c3, rfl⟩ := own_slice HRow.out
      have hBs := HBs.out.1
      have hbox : wc.heap[Bs]? = some (.cells #[.bool x.d.e, .slice a3 (sg t M x.i).2.length c3] 82) := HBs.out.2
      have hm481 : (sg t M x.i).2.length ≤ 481 := by
        show ((kidsTo t x.i t.length).map _).length ≤ 481
        rw [List.length_map]
        have := kidsTo_le (t := t) (i := x.i) t.length
        have := L.out
        omega
      have HPs : Hid (∀ p ∈ (sg t M x.i).2, 0 ≤ p.1 ∧ p.1 ≤ 25 ∧ p.2 ≤ 1000) := Lib.hid (fun p hp => by
        obtain ⟨h1, h2⟩ := HLs.out p hp
        obtain ⟨k, hk, rfl⟩ := List.mem_map.1 hp
        have := HLen.out.2 k
        exact ⟨h1, h2, by show M k ≤ 1000; omega⟩)
      have HSn2 : Hid (fdL t ((pre ++ [x]).map BN.i) = if sg t M x.i ∈ F then (F, setL M x.i (F.idxOf (sg t M x.i))) else (F ++ [sg t M x.i], setL M x.i F.length)) := Lib.hid HSn.out
      clear HSn HBs cE HQd hxe htb hnb HQ0 hcell
      obtain ⟨sv, hsv⟩ : ∃ sv, sg t M x.i = sv := ⟨_, rfl⟩
      rw [hsv] at HRow hbox hm481 HPs HSg HLs HSn2
      clear hsv
      obtain ⟨m3, hm3⟩ : ∃ m3, sv.2.length = m3 := ⟨_, rfl⟩
      have HM3 := Lib.hid hm3
      rw [hm3] at HRow hbox hm481
      clear hm3
      have he : sv.1 = x.d.e := by rw [HSg.out]
      have HQc := Lib.hid (HQ.out.on HBc.out)
      have hc0 : wc.cell? ⟨Bs, 0, none⟩ = some (.bool x.d.e) := by simp [World.cell?, hbox]
      have hc1 : wc.cell? ⟨Bs, 1, none⟩ = some (.slice a3 m3 c3) := by simp [World.cell?, hbox]
      have hBsl : Bs < wc.heap.size := (Array.getElem?_eq_some_iff.1 hbox).1
      have hT : Below B w wc := (HHB.out.trans (by rw [HZ.out]; exact HQc.out.bel)).mono (by rw [HZ.out]; exact hB)
      have cT : Hid (Calls Tryd.prog 78 #[.agg #[.bool x.d.e, .slice a3 m3 c3]] wc fun e w' => e = .returned (.string (bx (ets sv))) ∧ Below wc.heap.size wc w') := Lib.hid (by
        have := endsText_any B V.heap.size sv (.slice a3 m3 c3) m3 wc HM3.out hm481 HPs.out (by have := HQc.out.size; have := HQc.out.zs; omega) (htab.on hT) HRow.out
        rw [he] at this
        exact this)
      have hel : (ets sv).length ≤ maxLen := ets_len (fun p hp => (HPs.out p hp).2.2) (by rw [HM3.out]; exact hm481)
      have HEl := Lib.hid hel
      obtain ⟨y, hy⟩ : ∃ y, bx (ets sv) = y := ⟨_, rfl⟩
      have HY := Lib.hid hy
      rw [hy] at cT
      have HCx : Hid (∀ (m' : Nat) (K' : List Txt) (nf : Nat) (W : World), FQ z s n c a w0 m' K' nf M W → W.cell? ⟨s + 2, 0, none⟩ = some (.map (some (s + 1))) ∧ W.cell? ⟨s, 0, none⟩ = some (.slice (some ⟨z + 3, 0, none⟩) n n) ∧ W.cell? ⟨z + 3, x.i, none⟩ = some (.int .i64 ((M x.i : Nat) : Int)) ∧ W.frozen? ⟨z + 3, x.i, none⟩ = false) := Lib.hid (fun m' K' nf W h => ⟨h.mb.cell, h.nb.cell, (h.no.cellAt x.i (by omega)).trans (lrow_at M hin), h.no.frozenAt x.i⟩)
      clear hy hel hT
      have hi0 : (0 : Int) ≤ (x.i : Int) := by omega
      have hi1 : (x.i : Int) < (n : Int) := by omega
      have hzw : z + 3 < w0.heap.size := by omega
      by_cases hk : sv ∈ F
      · have HE := Lib.hid (ets_mem HLet.out HLs.out |>.2 hk)
        obtain ⟨q, hq⟩ : ∃ q, F.idxOf sv = q := ⟨_, rfl⟩
        have HLook : Hid (∀ W, NumIs W (s + 1) pre.length (F.map ets) → (Instr.lookup 102 (.map (some (s + 1))) (.string y) true).run Tryd.prog W = .ok (.tuple #[.int .i64 (q : Int), .bool true]) W) := Lib.hid (fun W h => by
          have := h.look (zeroN W) (ets sv) HEl.out
          rw [if_pos HE.out, decide_eq_true HE.out, ets_idx HLet.out HLs.out, hq, HY.out] at this
          exact this)
        have HSn3 : Hid (fdL t ((pre ++ [x]).map BN.i) = (F, setL M x.i q)) := Lib.hid (by rw [HSn2.out, if_pos hk, hq])
        clear hq hk
        gi_wp2_with (refine ⟨trivial, ?_⟩; gi_at_call 78; refine (CallsIn.inRound l (callsIn_wide.2 cT.out)).mono ?_; rintro e w5 ⟨rfl, hb5⟩; have HQ5 := Lib.hid (HQc.out.on hb5); obtain ⟨hmb, hnb, hn0, hnf⟩ := HCx.out _ _ _ w5 HQ5.out; have hlook := HLook.out w5 HQ5.out.mo; have HB5 := Lib.hid (HBc.out.trans (hb5.mono HBc.out.size)); clear hb5)
        have hzV : s + 4 ≤ V.heap.size := HQ.out.size
        refine ⟨⟨Nat.le_trans HB5.out.size (KeepsOthers.setCell w5 _ _).size, fun k o _ hk ho => (KeepsOthers.setCell w5 _ _).same k o ((HB5.out.block k (Array.getElem?_eq_some_iff.1 hk).1).trans hk) ho⟩, ⟨?_, ?_⟩, ?_⟩
        · rw [Below.heap_setCell _ _ _ _ (show s + 3 ≠ z + 3 by omega)]
          exact HB5.out.block _ (by omega)
        · exact (HB5.out.mono (by omega)).setCell (p := ⟨z + 3, x.i, none⟩) (by show B ≤ z + 3; omega) _
        · show FQ z s n c a w0 (pre ++ [x]).length _ _ _ _
          rw [HSn3.out, List.length_append, List.length_singleton]
          exact (HQ5.out.num hin q).more
      · have hkm : ets sv ∉ F.map ets := fun h => hk (ets_mem HLet.out HLs.out |>.1 h)
        have HE := Lib.hid hkm
        have HLook : Hid (∀ W, NumIs W (s + 1) pre.length (F.map ets) → (Instr.lookup 102 (.map (some (s + 1))) (.string y) true).run Tryd.prog W = .ok (.tuple #[.int .i64 0, .bool false]) W) := Lib.hid (fun W h => by
          have := h.look (zeroN W) (ets sv) HEl.out
          rw [if_neg HE.out, decide_eq_false HE.out, HY.out] at this
          exact this)
        have HSn3 : Hid (fdL t ((pre ++ [x]).map BN.i) = (F ++ [sv], setL M x.i F.length)) := Lib.hid (by rw [HSn2.out, if_neg hk])
        have hpl : pre.length < 500 := hlt
        have hFl : F.length ≤ pre.length := HLen.out.1
        have HUp : Hid (∀ W, FQ z s n c a w0 pre.length (F.map ets) F.length M W → ∃ W', (Instr.mapUpdate 102 (.map (some (s + 1))) (.string y) (.int .i64 ((F.length : Nat) : Int))).run Tryd.prog W = .ok () W' ∧ FQ z s n c a w0 (pre.length + 1) (F.map ets ++ [ets sv]) F.length M W' ∧ W.grownBy W' (some (s + 1))) := Lib.hid (fun W h => by
          obtain ⟨W', h1, h2, h3⟩ := h.mo.update (by unfold maxLen; omega) (ets sv) HEl.out HE.out (by rw [List.length_map]; omega)
          rw [List.length_map, HY.out] at h1
          exact ⟨W', h1, h.map h2 h3, h3⟩)
        obtain ⟨nf, hnf0⟩ : ∃ nf, F.length = nf := ⟨_, rfl⟩
        have HNf := Lib.hid hnf0
        rw [hnf0] at HUp HSn3 HQc HQ hFl
        obtain ⟨i0, hii, hz0, hz1, hz2⟩ := info_parts infoSt
        clear hkm hk hnf0
        have hBs4 : s + 4 ≤ Bs := by have := HQ.out.size; omega
        gi_wp2_with (first
          | (refine ⟨trivial, ?_⟩; gi_at_call 78; refine (CallsIn.inRound l (callsIn_wide.2 cT.out)).mono ?_; rintro e w5 ⟨rfl, hb5⟩; have HQ5 := Lib.hid (HQc.out.on hb5); obtain ⟨hmb, hnb, hn0, hnf⟩ := HCx.out _ _ _ w5 HQ5.out; have hlook := HLook.out w5 HQ5.out.mo; have HB5 := Lib.hid (HBc.out.trans (hb5.mono HBc.out.size)); obtain ⟨xs5, g5, cap5, hfb5, _, _⟩ := HQ5.out.found; have hfc5 := hfb5.cell; obtain ⟨w6, hupd, hq6, hg6⟩ := HUp.out w5 HQ5.out; have HQ6 := Lib.hid hq6; have HG6 := Lib.hid hg6; obtain ⟨xs6, g6, cap6, hfb6, hfr6, _⟩ := hq6.found; have hfc6 := hfb6.cell; have HFb6 := Lib.hid hfb6; have HFr6 := Lib.hid hfr6; have hbx6 : w6.heap[Bs]? = some (.cells #[.bool x.d.e, .slice a3 m3 c3] 82) := ((hg6.block Bs (by have := hb5.size; omega) (by intro e; injection e with e; omega)).trans ((hb5.block Bs hBsl).trans hbox)); have hd0 : w6.cell? ⟨Bs, 0, none⟩ = some (.bool x.d.e) := (by simp [World.cell?, hbx6]); have hd1 : w6.cell? ⟨Bs, 1, none⟩ = some (.slice a3 m3 c3) := (by simp [World.cell?, hbx6]); have hz6 := hq6.size; clear hb5 hfb5 hq6 hg6 hfb6 hfr6 hbx6)
          | (gi_at_builtin; refine wpListIn_append_own_at _ rfl _ _ 26 rfl z 82 i0 (.agg #[.bool false, .slice none 0 0]) 2 32 Tryd.underlying26 hii hz0 hz1 hz2 rfl (by decide) _ _ _ rfl (HFr6.out.alloc _) ⟨w6.heap.size, 0, none⟩ 1 1 [.bool x.d.e, .slice a3 m3 c3] rfl rfl (World.news_of_block (heap_alloc_new _ _)) (by simp [Value.oneCell']) (by unfold maxLen; omega) (by omega) (by simp; omega) ?_; intro v' w7 hown' hgrow _ hat; obtain ⟨g', cap', rfl⟩ := own_succ hown'; obtain ⟨hv1, hv2, hr2, hk2, hb2⟩ := HFb6.out.appended (by decide) HFr6.out (by omega) (by omega) hown' hgrow; have hc7 := hv1.cell; have hf7 := hv1.frozen; have HQ7 := Lib.hid (HQ6.out.app HFb6.out HFr6.out hown' hgrow); obtain ⟨_, hnb7, hn7, hnf7⟩ := HCx.out _ _ _ _ HQ7.out; have HK7 := Lib.hid hk2; have HB7 := Lib.hid hb2; clear hown' hgrow hat hv1 hv2 hr2 hk2 hb2))
        have hzV : s + 4 ≤ V.heap.size := HQ.out.size
        have HQ8 := Lib.hid (HQ7.out.num hin nf)
        have hs5 := HB5.out.size
        have hs6 := HG6.out.size
        refine ⟨⟨Nat.le_trans hs5 (Nat.le_trans hs6 (Nat.le_trans HK7.out.size (KeepsOthers.setCell _ _ _).size)), fun k o hk0 hk ho => (KeepsOthers.setCell _ _ _).same k o (HK7.out.same k o ((HG6.out.block k (by have := (Array.getElem?_eq_some_iff.1 hk).1; omega) (by intro e; injection e with e; omega)).trans ((HB5.out.block k (Array.getElem?_eq_some_iff.1 hk).1).trans hk)) ho) ho⟩, ⟨?_, ?_⟩, ?_⟩
        · exact (show _ = _ from HQ8.out.kb).trans (show _ = _ from HQ.out.kb).symm
        · have hb6 : Below B w5 w6 := (Below.refl _ _).grown HG6.out (by omega) (fun k e => by injection e with e; omega)
          exact (((HB5.out.mono (by omega)).trans hb6).trans (HB7.out.mono hB)).setCell (p := ⟨z + 3, x.i, none⟩) (by show B ≤ z + 3; omega) _
        · show FQ z s n c a w0 (pre ++ [x]).length _ _ _ _
          rw [HSn3.out, List.length_append, List.length_singleton]
          have hl8 : (F ++ [sv]).length = nf + 1 := by rw [List.length_append, HNf.out]; rfl
          show FQ z s n c a w0 (pre.length + 1) ((F ++ [sv]).map ets) (F ++ [sv]).length (setL M x.i nf) _
          rw [hl8, List.map_append]
          exact HQ8.out
  case done =>
    rintro D ys V hD hys hQ hK
    have e9 : fdL t (ys.map BN.i) = fnd t t.length := by rw [hys, ← L.out, fdL_dwn]
    rw [e9] at hQ
    change FQ z s n c a w0 ys.length ((fdI t).map ets) (fdI t).length (lbI t) V at hQ
    obtain ⟨xs, g, cap, hf1, hf2, _⟩ := hQ.found
    have hc1 := hf1.cell
    have hc2 := hQ.nb.cell
    gi_wp2_with fail
    gi_region
    all_goals
      gi_wp2
      refine ⟨by simp, .inl ⟨_, _, rfl, run_takeDeferred (by exact hK), ?_⟩⟩
      refine ⟨.tuple #[.slice (some ⟨g, 0, none⟩) (fdI t).length cap, .slice (some ⟨z + 3, 0, none⟩) n n], ?_, _, z + 3, xs, rfl, ?_, ?_, ?_⟩
      · simp [results, Tryd.f48, go_sem]
      · rw [HZ.out]
        exact ownsRow_putObj hQ.no _ hK rfl
      · rw [HZ.out]
        exact ownsRow_putObj hf2 _ hK rfl
      · refine (HHB.out.trans (by rw [HZ.out]; exact hQ.bel)).trans ((Below.refl _ V).drew.grown (grownBy_putObj' _ D _) (by rw [HZ.out]; have := hQ.size; show z ≤ V.heap.size; omega) (fun k e => by cases e; rw [HZ.out]; omega))
  case stop =>
    rintro D c' pre W _ _ h _
    exact h.elim

end Go.Proofs.YtmgieahachphmabDoor
