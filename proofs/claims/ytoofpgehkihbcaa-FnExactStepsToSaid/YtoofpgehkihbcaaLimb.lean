/-
  The program's pressed tree while it is made: what each of its linked blocks holds, told by the texts that lead to them.
-/
import Derived.Test.YtoofpgehkihbcaaGrew
import Derived.Test.YtoofpgehkihbcaaPrT
import Derived.Deep.Heap
namespace Go.Proofs.Ytoofpgehkihbcaa
open Go.RowKit
set_option linter.unusedVariables false

/-- block b is a limb -/
def LB (w : World) (b : Nat) (l : Value) (e : Bool) (v : Value) : Prop := w.heap[b]? = some (.cells #[l, .bool e, v] 89 (0, 0))

section
variable {w w' : World} {b : Nat} {l v : Value} {e : Bool}
theorem LB.lt (h : LB w b l e v) : b < w.heap.size := (Array.getElem?_eq_some_iff.1 h).1
theorem LB.c0 (h : LB w b l e v) : w.cell? ⟨b, 0, none⟩ = some l := by simp [World.cell?, show w.heap[b]? = _ from h]
theorem LB.c1 (h : LB w b l e v) : w.cell? ⟨b, 1, none⟩ = some (.bool e) := by simp [World.cell?, show w.heap[b]? = _ from h]
theorem LB.c2 (h : LB w b l e v) : w.cell? ⟨b, 2, none⟩ = some v := by simp [World.cell?, show w.heap[b]? = _ from h]
theorem LB.free (h : LB w b l e v) (o : Nat) : w.frozen? ⟨b, o, none⟩ = false := by simp [World.frozen?, show w.heap[b]? = _ from h]
theorem LB.keep (h : LB w b l e v) (hb : w'.heap[b]? = w.heap[b]?) : LB w' b l e v := hb.trans h
theorem LB.new (w : World) (l : Value) (e : Bool) (v : Value) : LB (w.alloc (.cells #[l, .bool e, v] 89)) w.heap.size l e v := Deep.blk_alloc_new w _
theorem LB.set (h : LB w b l e v) (o : Nat) (u : Value) : (w.setCell ⟨b, o, none⟩ u).heap[b]? = some (.cells (#[l, .bool e, v].setIfInBounds o u) 89 (0, 0)) := by
  obtain ⟨hlt, hk⟩ := Array.getElem?_eq_some_iff.1 h
  show (w.heap.modify b _)[b]? = _
  rw [Array.getElem?_eq_getElem (by rw [Array.size_modify]; exact hlt), Array.getElem_modify_self, hk]
  rfl
theorem LB.set0 (h : LB w b l e v) (u : Value) : LB (w.setCell ⟨b, 0, none⟩ u) b u e v := h.set 0 _
theorem LB.set1 (h : LB w b l e v) (u : Bool) : LB (w.setCell ⟨b, 1, none⟩ (.bool u)) b l u v := h.set 1 _
theorem LB.set2 (h : LB w b l e v) (u : Value) : LB (w.setCell ⟨b, 2, none⟩ u) b l e u := h.set 2 _
end

/-- the value reads as bytes that lie in a block of bytes -/
def Bts (w : World) (v : Value) (x : Txt) : Prop :=
  (v = .slice none 0 0 ∧ x = []) ∨ ∃ b o c cs m, v = .slice (some ⟨b, o, none⟩) x.length c ∧ w.heap[b]? = some (.cells cs 5 m) ∧ x.length ≤ c ∧ c ≤ 9223372036854775807 ∧ ∀ (i : Nat) (u : UInt8), x[i]? = some u → cs[o + i]? = some (.int .u8 (u.toNat : Int))

/-- what lies in blocks of bytes stays -/
def KeptB (w w' : World) : Prop := ∀ (b : Nat) (cs : Array Value) (m : Nat × Nat), w.heap[b]? = some (.cells cs 5 m) → w'.heap[b]? = some (.cells cs 5 m)

theorem KeptB.refl (w : World) : KeptB w w := fun _ _ _ h => h
theorem KeptB.trans {a b c : World} (h : KeptB a b) (k : KeptB b c) : KeptB a c := fun q cs m hq => k q cs m (h q cs m hq)
theorem KeptB.below {w w' : World} (h : Below w.heap.size w w') : KeptB w w' := fun b cs m hb => (h.block b (Array.getElem?_eq_some_iff.1 hb).1).trans hb
theorem KeptB.bts {w w' : World} (h : KeptB w w') {v : Value} {x : Txt} (hb : Bts w v x) : Bts w' v x := by
  rcases hb with hb | ⟨b, o, c, cs, m, h1, h2, h3⟩
  · exact .inl hb
  · exact .inr ⟨b, o, c, cs, m, h1, h b cs m h2, h3⟩
theorem KeptB.setLimb {w : World} {b : Nat} {l v : Value} {e : Bool} (h : LB w b l e v) (o : Nat) (u : Value) : KeptB w (w.setCell ⟨b, o, none⟩ u) := fun q cs m hq => by
  have hne : q ≠ b := by
    rintro rfl
    rw [show w.heap[q]? = _ from h] at hq
    have := Option.some.inj hq
    simp at this
  exact (Deep.blk_setCell_other _ _ _ _ hne).trans hq

/-- pointers to limbs -/
def ptrs (A : Txt → Nat) (ks : List Txt) : List Value := ks.map fun y => Value.pointer (some ⟨A y, 0, none⟩)

theorem ptrs_len (A : Txt → Nat) (ks : List Txt) : (ptrs A ks).length = ks.length := by simp [ptrs]
theorem ptrs_one (A : Txt → Nat) (ks : List Txt) : ∀ u ∈ ptrs A ks, u.oneCell' = true := by
  intro u hu
  simp only [ptrs, List.mem_map] at hu
  obtain ⟨y, _, rfl⟩ := hu
  rfl
theorem ptrs_same {A A' : Txt → Nat} {ks : List Txt} (h : ∀ y ∈ ks, A' y = A y) : ptrs A' ks = ptrs A ks := List.map_congr_left fun y hy => by rw [h y hy]

theorem KeptB.row {w w' : World} {base n : Nat} {v : Value} {xs : List Value} (h : w.ownsRow base 60 1 v n xs) (hg : w.grownBy w' v.ownBlock) : KeptB w w' := fun b cs m hb => by
  have hl := (Array.getElem?_eq_some_iff.1 hb).1
  refine (hg.block b hl fun he => ?_).trans hb
  rcases h.2 with ⟨rfl, _⟩ | ⟨g, cap, cur, rfl, _, hgg, _⟩
  · cases he
  · obtain rfl := Option.some.inj he
    rw [hb] at hgg
    have := Option.some.inj hgg
    simp at this

/-- the limbs of the texts qs -/
structure Limbs (base : Nat) (w : World) (qs : List Txt) (en : Txt → Bool) (A : Txt → Nat) (V : Txt → Value) : Prop where
  asc : Asc qs
  root : [] ∈ qs
  closed : Closed qs
  low : ∀ x ∈ qs, base ≤ A x
  inj : ∀ x ∈ qs, ∀ y ∈ qs, A x = A y → x = y
  sep : ∀ x ∈ qs, ∀ y ∈ qs, ∀ k, (V x).ownBlock = some k → (V y).ownBlock = some k → x = y
  spot : ∀ x ∈ qs, ∃ l, LB w (A x) l (en x) (V x) ∧ Bts w l (x.drop (up qs x).length)
  row : ∀ x ∈ qs, w.ownsRow base 60 1 (V x) (kidsL qs x).length (ptrs A (kidsL qs x))

section
variable {base : Nat} {w w' : World} {qs : List Txt} {en : Txt → Bool} {A : Txt → Nat} {V : Txt → Value}

theorem Limbs.lt (h : Limbs base w qs en A V) {x : Txt} (hx : x ∈ qs) : A x < w.heap.size := by
  obtain ⟨l, h1, _⟩ := h.spot x hx
  exact h1.lt

/-- a limb's block is no row of pointers -/
theorem Limbs.apart (h : Limbs base w qs en A V) {x y : Txt} (hx : x ∈ qs) (hy : y ∈ qs) : some (A x) ≠ (V y).ownBlock := fun he => by
  obtain ⟨l, h1, _⟩ := h.spot x hx
  rcases (h.row y hy).2 with ⟨e, _⟩ | ⟨g, cap, cur, e, _, hg, _⟩
  · rw [e] at he; cases he
  · rw [e] at he
    obtain rfl := Option.some.inj he
    rw [show w.heap[A x]? = _ from h1] at hg
    have := Option.some.inj hg
    simp at this

theorem Limbs.keep (h : Limbs base w qs en A V) (hA : ∀ x ∈ qs, w'.heap[A x]? = w.heap[A x]?) (hV : ∀ x ∈ qs, ∀ k, (V x).ownBlock = some k → w'.heap[k]? = w.heap[k]?) (hB : KeptB w w') : Limbs base w' qs en A V :=
  ⟨h.asc, h.root, h.closed, h.low, h.inj, h.sep, fun x hx => by
    obtain ⟨l, h1, h2⟩ := h.spot x hx
    exact ⟨l, h1.keep (hA x hx), hB.bts h2⟩, fun x hx => by
    have hr := h.row x hx
    refine ⟨hr.1, ?_⟩
    rcases hr.2 with e | ⟨g, cap, cur, e, hb, hg, rest⟩
    · exact .inl e
    · exact .inr ⟨g, cap, cur, e, hb, by rw [hV x hx g (by rw [e]; rfl)]; exact hg, rest⟩⟩

theorem Limbs.below (h : Limbs base w qs en A V) (hb : Below w.heap.size w w') : Limbs base w' qs en A V :=
  h.keep (fun x hx => hb.block _ (h.lt hx)) (fun x hx k hk => hb.block _ ((h.row x hx).lt k hk).2) (KeptB.below hb)

theorem Limbs.enEq {en' : Txt → Bool} (h : Limbs base w qs en A V) (he : ∀ x ∈ qs, en' x = en x) : Limbs base w qs en' A V :=
  ⟨h.asc, h.root, h.closed, h.low, h.inj, h.sep, fun x hx => by rw [he x hx]; exact h.spot x hx, h.row⟩

theorem Limbs.kl (h : Limbs base w qs en A V) (x : Txt) : KL qs x (kidsL qs x) := kidsL_kl h.asc h.root x

/-- the flag of a word -/
theorem Limbs.mark (h : Limbs base w qs en A V) {x : Txt} (hx : x ∈ qs) (u : Bool) : Limbs base (w.setCell ⟨A x, 1, none⟩ (.bool u)) qs (fun z => if z = x then u else en z) A V := by
  obtain ⟨l0, hl0, _⟩ := h.spot x hx
  have hB : KeptB w (w.setCell ⟨A x, 1, none⟩ (.bool u)) := KeptB.setLimb hl0 1 _
  refine ⟨h.asc, h.root, h.closed, h.low, h.inj, h.sep, fun z hz => ?_, fun z hz => ?_⟩
  · obtain ⟨l, h1, h2⟩ := h.spot z hz
    by_cases e : z = x
    · subst e
      exact ⟨l, by simpa using h1.set1 u, hB.bts h2⟩
    · refine ⟨l, ?_, hB.bts h2⟩
      simp only [if_neg e]
      exact h1.keep (Deep.blk_setCell_other _ _ _ _ (fun e' => e (h.inj z hz x hx e')))
  · refine (h.row z hz).kept (row := some (A x)) ⟨rfl, rfl, rfl, by simp, fun k hk hne => Deep.blk_setCell_other _ _ _ _ (fun e => hne (by rw [e]))⟩ ?_
    exact .inr (fun e => h.apart hx hz e.symm)

end

end Go.Proofs.Ytoofpgehkihbcaa
