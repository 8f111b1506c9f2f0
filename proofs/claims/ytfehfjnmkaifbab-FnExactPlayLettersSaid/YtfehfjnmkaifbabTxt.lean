/-
  Texts in their order, and lists of them that are kept ascending: plain mathematics.
-/
namespace Go.Proofs.Ytfehfjnmkaifbab
set_option linter.unusedVariables false

abbrev Txt := List UInt8

/-- a text comes before another one -/
def bef : Txt → Txt → Bool
  | _, [] => false
  | [], _ :: _ => true
  | a :: x, b :: y => if a = b then bef x y else decide (a < b)

theorem bef_nil (x : Txt) : bef x [] = false := by cases x <;> rfl
theorem bef_cons_same (a : UInt8) (x y : Txt) : bef (a :: x) (a :: y) = bef x y := by simp [bef]
theorem bef_irrefl : ∀ x : Txt, bef x x = false
  | [] => rfl
  | a :: x => by rw [bef_cons_same, bef_irrefl x]

theorem bef_app : ∀ (p x y : Txt), bef (p ++ x) (p ++ y) = bef x y
  | [], _, _ => rfl
  | a :: p, x, y => by simp only [List.cons_append]; rw [bef_cons_same, bef_app p]

theorem bef_total : ∀ x y : Txt, bef x y = true ∨ x = y ∨ bef y x = true
  | [], [] => .inr (.inl rfl)
  | [], _ :: _ => .inl rfl
  | _ :: _, [] => .inr (.inr rfl)
  | a :: x, b :: y => by
    by_cases h : a = b
    · subst h
      rw [bef_cons_same, bef_cons_same]
      rcases bef_total x y with h | h | h
      · exact .inl h
      · exact .inr (.inl (by rw [h]))
      · exact .inr (.inr h)
    · have h' : ¬ b = a := fun e => h e.symm
      simp only [bef, if_neg h, if_neg h', decide_eq_true_eq]
      have : ¬ a.toNat = b.toNat := fun e => h (UInt8.toNat_inj.1 e)
      rw [UInt8.lt_iff_toNat_lt, UInt8.lt_iff_toNat_lt]
      omega

theorem bef_trans : ∀ {x y z : Txt}, bef x y = true → bef y z = true → bef x z = true
  | _, [], _, h, _ => by rw [bef_nil] at h; cases h
  | _, _ :: _, [], _, h => by rw [bef_nil] at h; cases h
  | [], _ :: _, _ :: _, _, _ => rfl
  | a :: x, b :: y, c :: z, h, k => by
    unfold bef at h k ⊢
    by_cases hab : a = b
    · subst hab
      rw [if_pos rfl] at h
      by_cases hac : a = c
      · subst hac
        rw [if_pos rfl] at k ⊢
        exact bef_trans h k
      · rw [if_neg hac] at k ⊢
        exact k
    · rw [if_neg hab] at h
      by_cases hbc : b = c
      · subst hbc
        rw [if_neg hab]
        exact h
      · rw [if_neg hbc] at k
        simp only [decide_eq_true_eq, UInt8.lt_iff_toNat_lt] at h k
        have hac : ¬ a = c := by rintro rfl; omega
        rw [if_neg hac]
        simp only [decide_eq_true_eq, UInt8.lt_iff_toNat_lt]
        omega

theorem bef_asymm {x y : Txt} (h : bef x y = true) : bef y x = false := by
  cases k : bef y x with
  | false => rfl
  | true => have := bef_trans h k; rw [bef_irrefl] at this; cases this

theorem bef_ne {x y : Txt} (h : bef x y = true) : x ≠ y := by
  rintro rfl
  rw [bef_irrefl] at h; cases h

theorem bef_of_not {x y : Txt} (h : bef x y = false) (n : x ≠ y) : bef y x = true := by
  rcases bef_total x y with k | k | k
  · rw [h] at k; cases k
  · exact absurd k n
  · exact k

theorem bef_nil_of {x : Txt} (h : x ≠ []) : bef [] x = true := by
  cases x with
  | nil => exact absurd rfl h
  | cons a x => rfl

theorem bef_longer (p : Txt) {x : Txt} (h : x ≠ []) : bef p (p ++ x) = true := by
  have := bef_app p [] x
  rw [List.append_nil] at this
  rw [this, bef_nil_of h]

theorem bef_pre {p q : Txt} (h : p <+: q) (n : p ≠ q) : bef p q = true := by
  obtain ⟨x, rfl⟩ := h
  exact bef_longer p (by rintro rfl; simp at n)

/-- what comes before a text and is no beginning of it comes before it with anything behind -/
theorem bef_far : ∀ {x y : Txt} (c : Txt), bef x y = true → ¬ x <+: y → bef (x ++ c) y = true
  | _, [], _, h, _ => by rw [bef_nil] at h; cases h
  | [], _ :: _, _, _, h => absurd (List.nil_prefix) h
  | a :: x, b :: y, c, h, n => by
    simp only [List.cons_append]
    unfold bef at h ⊢
    by_cases e : a = b
    · subst e
      rw [if_pos rfl] at h ⊢
      exact bef_far c h (fun k => n (by rw [List.cons_prefix_cons]; exact ⟨rfl, k⟩))
    · rw [if_neg e] at h ⊢
      exact h

/-- what stands between a text and a longer one begins with it -/
theorem pre_between {p x q : Txt} (h1 : bef p x = true) (h2 : bef x q = true) (h : p <+: q) : p <+: x := by
  by_cases k : p <+: x
  · exact k
  · obtain ⟨c, rfl⟩ := h
    have := bef_far c h1 k
    rw [bef_asymm this] at h2
    cases h2

theorem pre_between' {p x q : Txt} (h1 : bef x p = false) (h2 : bef q x = false) (h : p <+: q) : p <+: x := by
  rcases bef_total p x with k | k | k
  · rcases bef_total x q with l | l | l
    · exact pre_between k l h
    · rw [l]; exact h
    · rw [h2] at l; cases l
  · rw [k]; exact List.prefix_refl _
  · rw [h1] at k; cases k

/-- ascending lists -/
abbrev Asc (l : List Txt) : Prop := l.Pairwise fun x y => bef x y = true

theorem asc_ext : ∀ {a b : List Txt}, Asc a → Asc b → (∀ x, x ∈ a ↔ x ∈ b) → a = b
  | [], [], _, _, _ => rfl
  | [], y :: b, _, _, h => by have := (h y).2 (List.mem_cons_self); cases this
  | x :: a, [], _, _, h => by have := (h x).1 (List.mem_cons_self); cases this
  | x :: a, y :: b, ha, hb, h => by
    obtain ⟨ha1, ha2⟩ := List.pairwise_cons.1 ha
    obtain ⟨hb1, hb2⟩ := List.pairwise_cons.1 hb
    have e : x = y := by
      rcases List.mem_cons.1 ((h x).1 List.mem_cons_self) with e | k
      · exact e
      · rcases List.mem_cons.1 ((h y).2 List.mem_cons_self) with e | l
        · exact e.symm
        · have := bef_trans (ha1 _ l) (hb1 _ k)
          rw [bef_irrefl] at this; cases this
    subst e
    congr 1
    refine asc_ext ha2 hb2 fun z => ⟨fun hz => ?_, fun hz => ?_⟩
    · rcases List.mem_cons.1 ((h z).1 (List.mem_cons_of_mem _ hz)) with e | k
      · subst e; have := ha1 _ hz; rw [bef_irrefl] at this; cases this
      · exact k
    · rcases List.mem_cons.1 ((h z).2 (List.mem_cons_of_mem _ hz)) with e | k
      · subst e; have := hb1 _ hz; rw [bef_irrefl] at this; cases this
      · exact k

/-- put to its place, if it is not there -/
def put : List Txt → Txt → List Txt
  | [], w => [w]
  | x :: r, w => if bef x w = true then x :: put r w else if x = w then x :: r else w :: x :: r

theorem mem_put : ∀ (l : List Txt) (w x : Txt), x ∈ put l w ↔ x ∈ l ∨ x = w
  | [], w, x => by simp [put]
  | y :: r, w, x => by
    unfold put
    by_cases h : bef y w = true
    · rw [if_pos h]; simp [mem_put r w x, or_assoc]
    · rw [if_neg h]
      by_cases e : y = w
      · subst e; rw [if_pos rfl]; simp; rintro rfl; exact .inl rfl
      · rw [if_neg e]; simp; constructor
        · rintro (h | h | h) <;> simp [h]
        · rintro ((h | h) | h) <;> simp [h]

theorem asc_put : ∀ {l : List Txt} (w : Txt), Asc l → Asc (put l w)
  | [], w, _ => by simp [put]
  | y :: r, w, h => by
    obtain ⟨h1, h2⟩ := List.pairwise_cons.1 h
    unfold put
    by_cases hb : bef y w = true
    · rw [if_pos hb]
      refine List.pairwise_cons.2 ⟨fun z hz => ?_, asc_put w h2⟩
      rcases (mem_put r w z).1 hz with k | k
      · exact h1 _ k
      · rw [k]; exact hb
    · rw [if_neg hb]
      by_cases e : y = w
      · rw [if_pos e]; exact h
      · rw [if_neg e]
        have hw : bef w y = true := bef_of_not (by simpa using hb) e
        refine List.pairwise_cons.2 ⟨fun z hz => ?_, h⟩
        rcases List.mem_cons.1 hz with k | k
        · rw [k]; exact hw
        · exact bef_trans hw (h1 _ k)

theorem put_len : ∀ (l : List Txt) (w : Txt), (put l w).length ≤ l.length + 1
  | [], w => by simp [put]
  | y :: r, w => by
    unfold put
    split
    · simp; exact put_len r w
    · split <;> simp

theorem len_put : ∀ (l : List Txt) (w : Txt), l.length ≤ (put l w).length
  | [], w => by simp [put]
  | y :: r, w => by
    unfold put
    split
    · simp; exact len_put r w
    · split <;> simp

theorem put_mem {l : List Txt} {w : Txt} (ha : Asc l) (h : w ∈ l) : put l w = l :=
  asc_ext (asc_put w ha) ha fun x => by
    rw [mem_put]
    constructor
    · rintro (k | rfl)
      · exact k
      · exact h
    · exact .inl

/-- how many of the first are before -/
def pos : List Txt → Txt → Nat
  | [], _ => 0
  | x :: r, w => if bef x w = true then pos r w + 1 else 0

theorem pos_le : ∀ (l : List Txt) (w : Txt), pos l w ≤ l.length
  | [], _ => Nat.le_refl _
  | x :: r, w => by unfold pos; split <;> simp; exact pos_le r w

theorem put_pos : ∀ (l : List Txt) (w : Txt), put l w = if l[pos l w]? = some w then l else l.take (pos l w) ++ w :: l.drop (pos l w)
  | [], w => by simp [put, pos]
  | x :: r, w => by
    unfold put pos
    by_cases h : bef x w = true
    · rw [if_pos h, if_pos h, put_pos r w]
      simp
      split <;> rfl
    · rw [if_neg h, if_neg h]
      by_cases e : x = w
      · subst e; simp
      · simp [e]

theorem asc_filter {l : List Txt} (p : Txt → Bool) (h : Asc l) : Asc (l.filter p) := List.Pairwise.filter p h

theorem asc_lt {l : List Txt} (h : Asc l) {i j : Nat} {x y : Txt} (hi : l[i]? = some x) (hj : l[j]? = some y) (hij : i < j) : bef x y = true := by
  obtain ⟨ki, rfl⟩ := List.getElem?_eq_some_iff.1 hi
  obtain ⟨kj, rfl⟩ := List.getElem?_eq_some_iff.1 hj
  exact List.pairwise_iff_getElem.1 h i j ki kj hij

theorem asc_inj {l : List Txt} (h : Asc l) {i j : Nat} {x : Txt} (hi : l[i]? = some x) (hj : l[j]? = some x) : i = j := by
  rcases Nat.lt_trichotomy i j with k | k | k
  · have := asc_lt h hi hj k; rw [bef_irrefl] at this; cases this
  · exact k
  · have := asc_lt h hj hi k; rw [bef_irrefl] at this; cases this

theorem asc_pos {l : List Txt} (h : Asc l) {i j : Nat} {x y : Txt} (hi : l[i]? = some x) (hj : l[j]? = some y) (hb : bef x y = true) : i < j := by
  rcases Nat.lt_trichotomy i j with k | k | k
  · exact k
  · subst k; rw [hi] at hj; cases hj; rw [bef_irrefl] at hb; cases hb
  · rw [bef_asymm (asc_lt h hj hi k)] at hb; cases hb

theorem asc_le {l : List Txt} (h : Asc l) {i j : Nat} {x y : Txt} (hi : l[i]? = some x) (hj : l[j]? = some y) (hij : i ≤ j) : bef y x = false := by
  rcases Nat.lt_or_eq_of_le hij with k | k
  · exact bef_asymm (asc_lt h hi hj k)
  · subst k; rw [hi] at hj; cases hj; exact bef_irrefl _

end Go.Proofs.Ytfehfjnmkaifbab
