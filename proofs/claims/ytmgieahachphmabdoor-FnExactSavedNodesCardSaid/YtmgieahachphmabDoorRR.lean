/-
  A row of rows of numbers that a call owns.
-/
import Derived.Test.YtmgieahachphmabDoorInfoI
import Derived.Test.YtmgieahachphmabDoorNumsL
import Derived.Test.YtmgieahachphmabDoorBas
import Derived.Test.YtmgieahachphmabDoorOW
import Derived.Test.YtmgieahachphmabDoorLab
namespace Go.Proofs.YtmgieahachphmabDoor
open Go.RowKit
set_option linter.unusedVariables false

theorem infoII : (Tryd.prog.info? 55).map (fun i => (i.zero, i.size, i.bytes)) = some (some (.slice none 0 0), 1, 24) := by kernel_rfl

/-- rows of different types lie in different blocks -/
theorem own_ne {W : World} {b b' s s' m k : Nat} {e e' : TypeId} {g n c : Nat} {v : Value} {xs ys : List Value} (h : W.ownsRow b e s (.slice (some ⟨g, 0, none⟩) n c) m xs) (h' : W.ownsRow b' e' s' v k ys) (hne : e ≠ e') : v.ownBlock ≠ some g := by
  rcases h.2 with ⟨h1, _⟩ | ⟨g1, cap1, cur1, h1, _, hc1, _⟩
  · cases h1
  · cases h1
    rcases h'.2 with ⟨rfl, _⟩ | ⟨g2, cap2, cur2, rfl, _, hc2, _⟩
    · simp [Value.ownBlock]
    · intro e2
      have e3 : g2 = g := by simpa [Value.ownBlock] using e2
      subst e3
      rw [hc1] at hc2
      injection hc2 with hc2
      injection hc2 with _ h3
      exact hne h3

/-- g: the block of the rows; ks: what each of them has -/
structure RR (base : Nat) (W : World) (g n : Nat) (vs : List Value) (ks : Nat → List Nat) : Prop where
  out : W.ownsRow base 55 1 (.slice (some ⟨g, 0, none⟩) n n) n vs
  row : ∀ i, i < n → ∃ v, vs[i]? = some v ∧ W.ownsRow base 3 1 v (ks i).length (nums (ks i))
  dis : ∀ (i j : Nat) (v v' : Value), i ≠ j → vs[i]? = some v → vs[j]? = some v' → v.ownBlock = none ∨ v.ownBlock ≠ v'.ownBlock

section
variable {base g n : Nat} {W W' w1 : World} {vs : List Value} {ks : Nat → List Nat}

theorem RR.on (h : RR base W g n vs ks) (hb : Below W.heap.size W W') : RR base W' g n vs ks :=
  ⟨own_stay h.out hb, fun i hi => by obtain ⟨v, h1, h2⟩ := h.row i hi; exact ⟨v, h1, own_stay h2 hb⟩, h.dis⟩

theorem RR.cong {ks' : Nat → List Nat} (h : RR base W g n vs ks) (e : ∀ i, i < n → ks i = ks' i) : RR base W g n vs ks' :=
  ⟨h.out, fun i hi => by obtain ⟨v, h1, h2⟩ := h.row i hi; rw [e i hi] at h2; exact ⟨v, h1, h2⟩, h.dis⟩

theorem RR.down {base' : Nat} (h : RR base W g n vs ks) (hb : base' ≤ base) : RR base' W g n vs ks :=
  ⟨own_down h.out hb, fun i hi => by obtain ⟨v, h1, h2⟩ := h.row i hi; exact ⟨v, h1, own_down h2 hb⟩, h.dis⟩

theorem RR.spot (h : RR base W g n vs ks) : base ≤ g ∧ g < W.heap.size := own_ge h.out rfl

/-- one row has grown, and its slice is stored -/
theorem RR.put {p m x : Nat} {v v' : Value} {o : Obj} (h : RR base W g n vs ks) (hp : p < n) (hv : vs[p]? = some v) (hm : (ks p).length = m) (hvO : W.ownsRow base 3 1 v m (nums (ks p))) (hbase : base ≤ W.heap.size)
    (hO : w1.ownsRow base 3 1 v' (m + 1) (nums (ks p) ++ [.int .i64 (x : Int)])) (hg : (W.alloc o).grownBy w1 v.ownBlock) (hat : v'.ownBlock = v.ownBlock ∨ v'.ownBlock = some (W.alloc o).heap.size) :
    w1.cell? ⟨g, p, none⟩ = some v ∧ w1.frozen? ⟨g, p, none⟩ = false ∧ RR base (w1.setCell ⟨g, p, none⟩ v') g n (vs.set p v') (fun i => if i = p then ks p ++ [x] else ks i) ∧ Below base W (w1.setCell ⟨g, p, none⟩ v') := by
  subst hm
  have hz : (W.alloc o).heap.size = W.heap.size + 1 := by simp
  have hlen : vs.length = n := by simpa using h.out.1
  have hout1 : w1.ownsRow base 55 1 (.slice (some ⟨g, 0, none⟩) n n) n vs := (h.out.alloc o).kept hg (.inr (by
    have h9 := own_ne h.out hvO (by decide)
    first | exact h9 | exact h9.symm))
  have hc := hout1.cellAt p (by omega)
  have hf := hout1.frozenAt p
  have hst := hout1.stored p v'
  have hb : Below base (W.alloc o) w1 := below_grown (hvO.alloc o) (Nat.le_refl _) (by omega) hg
  have hbe := h.spot
  refine ⟨hc.trans hv, hf, ⟨hst.1, fun i hi => ?_, fun i j u u' hij hu hu' => ?_⟩, ((Below.refl base W).alloc hbase o).trans (hb.setCell (p := ⟨g, p, none⟩) hbe.1 _)⟩
  · by_cases e : i = p
    · subst e
      refine ⟨v', by rw [List.getElem?_set_self (by omega)], ?_⟩
      rw [if_pos rfl, List.length_append, show nums (ks i ++ [x]) = nums (ks i) ++ [.int .i64 (x : Int)] from by simp [nums]]
      exact hO.kept hst.2 (.inr (by have h9 := own_ne hout1 hO (by decide); first | exact h9 | exact h9.symm))
    · obtain ⟨u, hu, hu2⟩ := h.row i hi
      refine ⟨u, by rw [List.getElem?_set_ne (fun e2 => e e2.symm)]; exact hu, ?_⟩
      rw [if_neg e]
      have h1 := (hu2.alloc o).kept hg (by
        rcases h.dis i p u v e hu hv with q | q
        · exact .inl q
        · exact .inr (by first | exact q | exact q.symm))
      exact h1.kept hst.2 (.inr (by have h9 := own_ne hout1 h1 (by decide); first | exact h9 | exact h9.symm))
  · have key : ∀ (i : Nat) (u : Value), i ≠ p → vs[i]? = some u → u.ownBlock = none ∨ u.ownBlock ≠ v'.ownBlock := by
      intro i u e hu
      have hi : i < n := by have := (List.getElem?_eq_some_iff.1 hu).1; omega
      obtain ⟨u2, hu2, hu3⟩ := h.row i hi
      rw [hu] at hu2
      obtain rfl := Option.some.inj hu2
      cases hb : u.ownBlock with
      | none => exact .inl rfl
      | some q =>
        refine .inr fun e2 => ?_
        rcases hat with e3 | e3
        · rcases h.dis i p u v e hu hv with d | d
          · rw [hb] at d; cases d
          · exact d (by rw [hb, e2, e3])
        · rw [e3] at e2
          have := (own_ge hu3 hb).2
          injection e2 with e2
          omega
    by_cases e1 : i = p
    · subst e1
      rw [List.getElem?_set_self (by omega)] at hu
      obtain rfl := Option.some.inj hu
      rw [List.getElem?_set_ne hij] at hu'
      rcases key j u' (fun e => hij e.symm) hu' with q | q
      · cases hb : v'.ownBlock with
        | none => exact .inl rfl
        | some z => exact .inr (by rw [q]; simp)
      · exact .inr q.symm
    · rw [List.getElem?_set_ne (fun e => e1 e.symm)] at hu
      by_cases e2 : j = p
      · subst e2
        rw [List.getElem?_set_self (by omega)] at hu'
        obtain rfl := Option.some.inj hu'
        exact key i u e1 hu
      · rw [List.getElem?_set_ne (fun e => e2 e.symm)] at hu'
        exact h.dis i j u u' hij hu hu'
end

end Go.Proofs.YtmgieahachphmabDoor
