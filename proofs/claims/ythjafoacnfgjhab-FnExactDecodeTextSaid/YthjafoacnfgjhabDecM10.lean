/-
  Decoding: plain mathematics.
-/
import Derived.Test.YthjafoacnfgjhabEnc10
namespace Go.Proofs.Ythjafoacnfgjhab
set_option linter.unusedVariables false

/-- the symbol whose sequence a text begins with -/
def symB (cs : List Txt) (r : Txt) (i : Nat) : Bool := (cs.getD i []).isPrefixOf r
def sym (cs : List Txt) (r : Txt) : Option Nat := (List.range cs.length).find? (symB cs r)
theorem symB_iff {cs : List Txt} {r x : Txt} {i : Nat} (h : cs[i]? = some x) : symB cs r i = true ↔ x <+: r := by
  unfold symB
  rw [List.getD_eq_getElem?_getD, h, Option.getD_some, List.isPrefixOf_iff_prefix]
theorem sym_inv {cs : List Txt} {r : Txt} {i : Nat} (h : sym cs r = some i) : ∃ x, cs[i]? = some x ∧ x <+: r := by
  have h1 := List.find?_some h
  have h2 := List.mem_of_find?_eq_some h
  rw [List.mem_range] at h2
  exact ⟨_, List.getElem?_eq_getElem h2, (symB_iff (List.getElem?_eq_getElem h2)).1 h1⟩
theorem sym_none {cs : List Txt} {r : Txt} (h : ∀ (i : Nat) (x : Txt), cs[i]? = some x → ¬ x <+: r) : sym cs r = none := by
  unfold sym
  rw [List.find?_eq_none]
  intro i hi hb
  rw [List.mem_range] at hi
  exact h i _ (List.getElem?_eq_getElem hi) ((symB_iff (List.getElem?_eq_getElem hi)).1 hb)
theorem Cd.same {cs : List Txt} (hc : Cd cs) {r x y : Txt} {i j : Nat} (hi : cs[i]? = some x) (hj : cs[j]? = some y) (hx : x <+: r) (hy : y <+: r) : i = j := by
  rcases Nat.le_total x.length y.length with h | h
  · exact (hc.free hi hj (List.prefix_of_prefix_length_le hx hy h)).symm
  · exact hc.free hj hi (List.prefix_of_prefix_length_le hy hx h)
theorem sym_some {cs : List Txt} (hc : Cd cs) {r x : Txt} {i : Nat} (hi : cs[i]? = some x) (hx : x <+: r) : sym cs r = some i := by
  cases h : sym cs r with
  | none =>
    unfold sym at h
    rw [List.find?_eq_none] at h
    exact absurd ((symB_iff hi).2 hx) (h i (List.mem_range.2 (List.getElem?_eq_some_iff.1 hi).1))
  | some j =>
    obtain ⟨y, hj, hy⟩ := sym_inv h
    rw [hc.same hj hi hy hx]

/-- the symbols of a text, at most as many -/
def dec (cs : List Txt) : Nat → Txt → List Nat
  | 0, _ => []
  | f + 1, r => match sym cs r with
    | none => []
    | some i => i :: dec cs f (r.drop (cs.getD i []).length)
theorem dec_none {cs : List Txt} {r : Txt} (h : sym cs r = none) : ∀ f, dec cs f r = []
  | 0 => rfl
  | f + 1 => by simp [dec, h]
theorem dec_some {cs : List Txt} {r x : Txt} {i : Nat} (h : sym cs r = some i) (hi : cs[i]? = some x) (f : Nat) : dec cs (f + 1) r = i :: dec cs f (r.drop x.length) := by
  simp [dec, h, List.getD, hi]
theorem dec_len (cs : List Txt) : ∀ f r, (dec cs f r).length ≤ f
  | 0, r => by simp [dec]
  | f + 1, r => by
    cases h : sym cs r with
    | none => rw [dec_none h]; simp
    | some i =>
      obtain ⟨x, hi, _⟩ := sym_inv h
      rw [dec_some h hi]
      have := dec_len cs f (r.drop x.length)
      simp
      omega
theorem dec_sym (cs : List Txt) : ∀ f r, ∀ i ∈ dec cs f r, i < cs.length
  | 0, r, i, h => by simp [dec] at h
  | f + 1, r, i, h => by
    cases hs : sym cs r with
    | none => rw [dec_none hs] at h; simp at h
    | some j =>
      obtain ⟨x, hj, _⟩ := sym_inv hs
      rw [dec_some hs hj] at h
      rcases List.mem_cons.1 h with rfl | h
      · exact (List.getElem?_eq_some_iff.1 hj).1
      · exact dec_sym cs f _ i h

/-- numbers as integers -/
def zs (l : List Nat) : List Int := l.map fun (i : Nat) => (i : Int)
theorem zs_snoc (l : List Nat) (i : Nat) : zs (l ++ [i]) = zs l ++ [(i : Int)] := by simp [zs]
theorem encT_snoc {cs : List Txt} {l : List Nat} {i : Nat} {x : Txt} (h : cs[i]? = some x) : encT cs (zs (l ++ [i])) = encT cs (zs l) ++ x := by
  unfold encT
  rw [zs_snoc, List.map_append, List.flatten_append]
  simp [List.getD, h]

/-- what has been decoded, and what is left -/
structure DecAt (cs : List Txt) (s : Txt) (o : List Nat) (f : Nat) (r : Txt) : Prop where
  list : dec cs 60 s = o ++ dec cs f r
  room : o.length + f = 60
  text : s = encT cs (zs o) ++ r
theorem DecAt.start (cs : List Txt) (s : Txt) : DecAt cs s [] 60 s := ⟨rfl, rfl, rfl⟩
theorem DecAt.step {cs : List Txt} {s : Txt} {o : List Nat} {f i : Nat} {r x : Txt} (h : DecAt cs s o (f + 1) r) (hs : sym cs r = some i) (hi : cs[i]? = some x) : DecAt cs s (o ++ [i]) f (r.drop x.length) := by
  obtain ⟨y, hi', hp⟩ := sym_inv hs
  rw [hi] at hi'
  cases hi'
  refine ⟨by rw [h.list, dec_some hs hi]; simp, by have := h.room; simp; omega, ?_⟩
  rw [encT_snoc hi, List.append_assoc]
  rw [h.text]
  congr 1
  obtain ⟨t, rfl⟩ := hp
  simp
theorem DecAt.stop {cs : List Txt} {s : Txt} {o : List Nat} {f : Nat} {r : Txt} (h : DecAt cs s o f r) (hs : sym cs r = none ∨ f = 0) : dec cs 60 s = o := by
  rw [h.list]
  rcases hs with hs | rfl
  · rw [dec_none hs]; simp
  · simp [dec]
theorem DecAt.left {cs : List Txt} {s : Txt} {o : List Nat} {f : Nat} {r : Txt} (h : DecAt cs s o f r) : r = s.drop (encT cs (zs o)).length ∧ s.length = (encT cs (zs o)).length + r.length := by
  constructor
  · conv => rhs; rw [h.text]
    simp
  · conv => lhs; rw [h.text]
    simp

/-- the symbol that a search has found among the first k, or -1 -/
def SymTo (cs : List Txt) (r : Txt) (k : Nat) (q : Int) : Prop :=
  (q = -1 ∧ ∀ (j : Nat) (x : Txt), j < k → cs[j]? = some x → ¬ x <+: r) ∨ (∃ (j : Nat) (x : Txt), j < k ∧ q = (j : Int) ∧ cs[j]? = some x ∧ x <+: r)
theorem SymTo.zero (cs : List Txt) (r : Txt) : SymTo cs r 0 (-1) := .inl ⟨rfl, fun j x h => by omega⟩
theorem SymTo.yes {cs : List Txt} {r x : Txt} {k : Nat} (hk : cs[k]? = some x) (hx : x <+: r) : SymTo cs r (k + 1) (k : Int) := .inr ⟨k, x, by omega, rfl, hk, hx⟩
theorem SymTo.no {cs : List Txt} {r x : Txt} {k : Nat} {q : Int} (h : SymTo cs r k q) (hk : cs[k]? = some x) (hx : ¬ x <+: r) : SymTo cs r (k + 1) q := by
  rcases h with ⟨h1, h2⟩ | ⟨j, y, h1, h2, h3, h4⟩
  · refine .inl ⟨h1, fun j y hj hy => ?_⟩
    by_cases e : j = k
    · subst e
      rw [hk] at hy
      cases hy
      exact hx
    · exact h2 j y (by omega) hy
  · exact .inr ⟨j, y, by omega, h2, h3, h4⟩
theorem SymTo.done {cs : List Txt} (hc : Cd cs) {r : Txt} {k : Nat} {q : Int} (h : SymTo cs r k q) (hk : cs.length ≤ k) : (q = -1 ∧ sym cs r = none) ∨ (∃ (j : Nat) (x : Txt), q = (j : Int) ∧ sym cs r = some j ∧ cs[j]? = some x ∧ x <+: r) := by
  rcases h with ⟨h1, h2⟩ | ⟨j, y, h1, h2, h3, h4⟩
  · exact .inl ⟨h1, sym_none fun i x hi => h2 i x (by have := (List.getElem?_eq_some_iff.1 hi).1; omega) hi⟩
  · exact .inr ⟨j, y, h2, sym_some hc h3 h4, h3, h4⟩

/-- none of the first p beginnings of what is left is a sequence -/
def NoSq (cs : List Txt) (r : Txt) (p : Nat) : Prop := ∀ (j : Nat) (x : Txt), cs[j]? = some x → x <+: r → p < x.length
theorem NoSq.zero {cs : List Txt} (hc : Cd cs) (r : Txt) : NoSq cs r 0 := fun j x hj _ => (hc.sq hj).1
theorem NoSq.succ {cs : List Txt} {r : Txt} {p : Nat} (h : NoSq cs r p) (hp : p < r.length) (hn : ∀ (j : Nat) (x : Txt), cs[j]? = some x → x ≠ r.take (p + 1)) : NoSq cs r (p + 1) := by
  intro j x hj hx
  have h1 := h j x hj hx
  by_cases e : x.length = p + 1
  · exfalso
    apply hn j x hj
    rw [← e]
    exact (List.prefix_iff_eq_take.1 hx)
  · omega
theorem NoSq.end_ {cs : List Txt} {r : Txt} {p : Nat} (h : NoSq cs r p) (hp : r.length ≤ p) : sym cs r = none :=
  sym_none fun j x hj hx => by have h1 := h j x hj hx; have h2 := hx.length_le; omega
theorem NoSq.all {cs : List Txt} (hc : Cd cs) {r : Txt} {p : Nat} (h : NoSq cs r p) (hp : 14 ≤ p) : sym cs r = none :=
  sym_none fun j x hj hx => by have h1 := h j x hj hx; have h2 := (hc.sq hj).2.1; omega
theorem found_pre {cs : List Txt} {r x : Txt} {p j : Nat} (hj : cs[j]? = some x) (hx : x = r.take p) : x <+: r := by rw [hx]; exact List.take_prefix _ _

end Go.Proofs.Ythjafoacnfgjhab
