/-
  What stays in the laws on functions of two tries.
-/
import Derived.Test.YtipkdoplgjgkpacLawTwo
namespace Go.Proofs.Ytipkdoplgjgkpac
open Go.RowKit
set_option linter.unusedVariables false

/-- one copy has been made -/
structure QA (W0 W : World) (g n : Nat) (t : List Nd) : Prop where
  bel : Below W0.heap.size W0 W
  nds : Nds W.heap.size W (some ⟨g, 0, none⟩) n n t

/-- two copies have been made -/
structure QB (W0 W : World) (g n : Nat) (t : List Nd) (g' k : Nat) (u : List Nd) : Prop where
  bel : Below W0.heap.size W0 W
  nds1 : Nds W.heap.size W (some ⟨g, 0, none⟩) n n t
  nds2 : Nds W.heap.size W (some ⟨g', 0, none⟩) k k u

/-- the reference has answered -/
structure QC (W0 W : World) (a : Option Addr) (m c : Nat) (tt : List Nd) : Prop where
  bel : Below W0.heap.size W0 W
  nds : Nds W.heap.size W a m c tt

/-- the program has answered -/
structure QD (W0 W : World) (base : Nat) (a : Option Addr) (m c : Nat) (tt : List Nd) : Prop where
  bel : Below W0.heap.size W0 W
  own : W.ownsRow base 86 3 (.slice a m c) m (ndc tt)

section
variable {W0 W W' : World} {g n m c g' k : Nat} {t u tt : List Nd} {a : Option Addr}

theorem QA.mk' (hb : Below W0.heap.size W0 W) (hb' : Below W.heap.size W W') (hO : W'.ownsRow W.heap.size 86 3 (.slice (some ⟨g, 0, none⟩) n n) n (ndc t)) (hf : Fits t) : QA W0 W' g n t := ⟨hb.trans (hb'.mono hb.size), nds_own hO hf⟩
theorem QA.al (h : QA W0 W g n t) (o : Obj) : QA W0 (W.alloc o) g n t := ⟨h.bel.alloc h.bel.size _, (h.nds.keep ((Below.refl _ _).alloc (Nat.le_refl _) _)).mono (by simp)⟩
theorem QB.mk' (h : QA W0 W g n t) (hb' : Below W.heap.size W W') (hO : W'.ownsRow W.heap.size 86 3 (.slice (some ⟨g', 0, none⟩) k k) k (ndc u)) (hf : Fits u) : QB W0 W' g n t g' k u := ⟨h.bel.trans (hb'.mono h.bel.size), (h.nds.keep hb').mono hb'.size, nds_own hO hf⟩
theorem QB.al (h : QB W0 W g n t g' k u) (o : Obj) : QB W0 (W.alloc o) g n t g' k u := ⟨h.bel.alloc h.bel.size _, (h.nds1.keep ((Below.refl _ _).alloc (Nat.le_refl _) _)).mono (by simp), (h.nds2.keep ((Below.refl _ _).alloc (Nat.le_refl _) _)).mono (by simp)⟩
theorem QC.mk' (h : QB W0 W g n t g' k u) (hb' : Below W.heap.size W W') (hN : Nds W'.heap.size W' a m c tt) : QC W0 W' a m c tt := ⟨h.bel.trans (hb'.mono h.bel.size), hN⟩
theorem QC.al (h : QC W0 W a m c tt) (o : Obj) : QC W0 (W.alloc o) a m c tt := ⟨h.bel.alloc h.bel.size _, (h.nds.keep ((Below.refl _ _).alloc (Nat.le_refl _) _)).mono (by simp)⟩
theorem QD.mk' (h : QB W0 W g n t g' k u) (hb' : Below W.heap.size W W') (hO : W'.ownsRow W.heap.size 86 3 (.slice a m c) m (ndc tt)) : QD W0 W' W.heap.size a m c tt := ⟨h.bel.trans (hb'.mono h.bel.size), hO⟩
theorem QD.al {base : Nat} (h : QD W0 W base a m c tt) (o : Obj) : QD W0 (W.alloc o) base a m c tt := ⟨h.bel.alloc h.bel.size _, h.own.alloc _⟩
end

/-- the reference's answer lies in a variable; all that changes is made behind it -/
structure R2 (W0 W : World) (B3 b4 m : Nat) (a3 : Option Addr) (c3 : Nat) (tt : List Nd) : Prop where
  bel : Below W0.heap.size W0 W
  box : Boxed W b4 30 (.slice a3 m c3)
  ref : Nds B3 W a3 m c3 tt
  lt : b4 < B3
  le : B3 ≤ W.heap.size
  s0 : W0.heap.size ≤ B3

section
variable {W0 W W' : World} {B3 b4 m c3 : Nat} {a3 : Option Addr} {tt : List Nd}

theorem R2.on (h : R2 W0 W B3 b4 m a3 c3 tt) (hb : Below B3 W W') : R2 W0 W' B3 b4 m a3 c3 tt :=
  ⟨h.bel.trans (hb.mono h.s0), box_under h.box hb h.lt, h.ref.keep hb, h.lt, Nat.le_trans h.le hb.size, h.s0⟩
theorem R2.keep (h : R2 W0 W B3 b4 m a3 c3 tt) (hb : Below W.heap.size W W') : R2 W0 W' B3 b4 m a3 c3 tt := h.on (hb.mono h.le)
theorem R2.read (h : R2 W0 W B3 b4 m a3 c3 tt) : Nds W.heap.size W a3 m c3 tt := h.ref.mono h.le

/-- the box was laid behind the answer -/
theorem R2.late {X : Value} {o : Obj} (hQ : QC W0 W a3 m c3 tt) (ho : (W.alloc o).setCell ⟨W.heap.size, 0, none⟩ (.slice a3 m c3) = W.alloc (.cells #[.slice a3 m c3] 30)) : R2 W0 ((W.alloc o).setCell ⟨W.heap.size, 0, none⟩ (.slice a3 m c3)) (W.heap.size + 1) W.heap.size m a3 c3 tt := by
  rw [ho]
  exact ⟨hQ.bel.alloc hQ.bel.size _, Boxed.new _ _ _, (hQ.nds.keep ((Below.refl _ _).alloc (Nat.le_refl _) _)).mono (by simp), by simp, by simp, by have := hQ.bel.size; omega⟩
theorem R2.late' (hQ : QC W0 W a3 m c3 tt) : R2 W0 (W.alloc (.cells #[.slice a3 m c3] 30)) (W.heap.size + 1) W.heap.size m a3 c3 tt :=
  ⟨hQ.bel.alloc hQ.bel.size _, Boxed.new _ _ _, (hQ.nds.keep ((Below.refl _ _).alloc (Nat.le_refl _) _)).mono (by simp), by simp, by simp, by have := hQ.bel.size; omega⟩
/-- the box was laid ahead of it -/
theorem R2.early {V : World} {a : Option Addr} {x y : Nat} (hQ : QC W0 W a3 m c3 tt) (hV : Below W0.heap.size W0 V) (hbx : Boxed W V.heap.size 30 (.slice a x y)) : R2 W0 (W.setCell ⟨V.heap.size, 0, none⟩ (.slice a3 m c3)) W.heap.size V.heap.size m a3 c3 tt :=
  ⟨hQ.bel.setCell (p := ⟨V.heap.size, 0, none⟩) hV.size _, hbx.set _, hQ.nds.box hbx _, hbx.lt, by rw [World.size_setCell]; exact Nat.le_refl _, hQ.bel.size⟩
end

/-- the arguments' copies, and the program's answer, in variables of their own -/
structure L2 (W0 W : World) (B3 b4 m : Nat) (a3 : Option Addr) (c3 : Nat) (tt : List Nd) (bA gA n : Nat) (ta : List Nd) (bB gB k B5 : Nat) (ub : List Nd) (b7 base7 : Nat) (a7 : Option Addr) (c7 : Nat) (uu : List Nd) : Prop where
  r : R2 W0 W B3 b4 m a3 c3 tt
  boxA : Boxed W bA 30 (.slice (some ⟨gA, 0, none⟩) n n)
  rowA : W.ownsRow B3 86 3 (.slice (some ⟨gA, 0, none⟩) n n) n (ndc ta)
  boxB : Boxed W bB 30 (.slice (some ⟨gB, 0, none⟩) k k)
  rowB : W.ownsRow B5 86 3 (.slice (some ⟨gB, 0, none⟩) k k) k (ndc ub)
  box7 : Boxed W b7 30 (.slice a7 m c7)
  row7 : W.ownsRow base7 86 3 (.slice a7 m c7) m (ndc uu)
  hA : gA < B5
  hB : gB < base7
  h5 : B3 ≤ B5
  h7 : B5 ≤ base7
  hs : base7 ≤ W.heap.size

section
variable {W0 W W' : World} {B3 b4 m c3 bA gA n bB gB k B5 b7 base7 c7 : Nat} {a3 a7 : Option Addr} {tt ta ub uu : List Nd}

theorem L2.keep (h : L2 W0 W B3 b4 m a3 c3 tt bA gA n ta bB gB k B5 ub b7 base7 a7 c7 uu) (hb : Below W.heap.size W W') : L2 W0 W' B3 b4 m a3 c3 tt bA gA n ta bB gB k B5 ub b7 base7 a7 c7 uu :=
  ⟨h.r.keep hb, box_stay h.boxA hb, own_stay h.rowA hb, box_stay h.boxB hb, own_stay h.rowB hb, box_stay h.box7 hb, own_stay h.row7 hb, h.hA, h.hB, h.h5, h.h7, Nat.le_trans h.hs hb.size⟩

theorem L2.markA {vv : List Nd} (h : L2 W0 W B3 b4 m a3 c3 tt bA gA n ta bB gB k B5 ub b7 base7 a7 c7 uu) (hg : W.grownBy W' (Value.ownBlock (.slice (some ⟨gA, 0, none⟩) n n))) (ho : W'.ownsRow B3 86 3 (.slice (some ⟨gA, 0, none⟩) n n) n (ndc vv)) : L2 W0 W' B3 b4 m a3 c3 tt bA gA n vv bB gB k B5 ub b7 base7 a7 c7 uu := by
  have hge : B3 ≤ gA := own_base h.rowA
  have hb : Below B3 W W' := (Below.refl _ _).grown hg h.r.le fun q hq => by cases hq; exact hge
  have h1 := h.hA
  have h2 := h.h7
  refine ⟨h.r.on hb, h.boxA.kept hg (h.boxA.not_row (by decide) h.rowA), ho, h.boxB.kept hg (h.boxB.not_row (by decide) h.rowA), h.rowB.kept hg (.inr fun e => ?_), h.box7.kept hg (h.box7.not_row (by decide) h.rowA), h.row7.kept hg (.inr fun e => ?_), h1, h.hB, h.h5, h.h7, Nat.le_trans h.hs hg.size⟩
  · have := (h.rowB.lt gA e).1
    omega
  · have := (h.row7.lt gA e).1
    omega

theorem L2.markB {vv : List Nd} (h : L2 W0 W B3 b4 m a3 c3 tt bA gA n ta bB gB k B5 ub b7 base7 a7 c7 uu) (hg : W.grownBy W' (Value.ownBlock (.slice (some ⟨gB, 0, none⟩) k k))) (ho : W'.ownsRow B5 86 3 (.slice (some ⟨gB, 0, none⟩) k k) k (ndc vv)) : L2 W0 W' B3 b4 m a3 c3 tt bA gA n ta bB gB k B5 vv b7 base7 a7 c7 uu := by
  have hge : B5 ≤ gB := own_base h.rowB
  have h5 := h.h5
  have hb : Below B3 W W' := (Below.refl _ _).grown hg h.r.le fun q hq => by have e : gB = q := (by cases hq; rfl); rw [← e]; exact Nat.le_trans h5 hge
  have h1 := h.hA
  have h2 := h.hB
  refine ⟨h.r.on hb, h.boxA.kept hg (h.boxA.not_row (by decide) h.rowB), h.rowA.kept hg (.inr fun e => ?_), h.boxB.kept hg (h.boxB.not_row (by decide) h.rowB), ho, h.box7.kept hg (h.box7.not_row (by decide) h.rowB), h.row7.kept hg (.inr fun e => ?_), h1, h.hB, h.h5, h.h7, Nat.le_trans h.hs hg.size⟩
  · have e2 : gB = gA := by cases e; rfl
    omega
  · have := (h.row7.lt gB e).1
    omega

theorem L2.mark7 {vv : List Nd} (h : L2 W0 W B3 b4 m a3 c3 tt bA gA n ta bB gB k B5 ub b7 base7 a7 c7 uu) (hg : W.grownBy W' (Value.ownBlock (.slice a7 m c7))) (ho : W'.ownsRow base7 86 3 (.slice a7 m c7) m (ndc vv)) : L2 W0 W' B3 b4 m a3 c3 tt bA gA n ta bB gB k B5 ub b7 base7 a7 c7 vv := by
  have h5 := h.h5
  have h1 := h.hA
  have h2 := h.hB
  have h3 := h.h7
  have hb : Below B3 W W' := (Below.refl _ _).grown hg h.r.le fun q hq => by have := (h.row7.lt q hq).1; omega
  refine ⟨h.r.on hb, h.boxA.kept hg (h.boxA.not_row (by decide) h.row7), h.rowA.kept hg (.inr fun e => ?_), h.boxB.kept hg (h.boxB.not_row (by decide) h.row7), h.rowB.kept hg (.inr fun e => ?_), h.box7.kept hg (h.box7.not_row (by decide) h.row7), ho, h1, h.hB, h.h5, h.h7, Nat.le_trans h.hs hg.size⟩
  · have := (h.row7.lt gA e.symm).1
    omega
  · have := (h.row7.lt gB e.symm).1
    omega

end

end Go.Proofs.Ytipkdoplgjgkpac
