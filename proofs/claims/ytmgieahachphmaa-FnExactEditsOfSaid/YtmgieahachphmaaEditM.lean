/-
  Edits of a word: plain mathematics.
-/
import Derived.Test.YtmgieahachphmaaPrt
namespace Go.Proofs.Ytmgieahachphmaa
set_option linter.unusedVariables false

/-- what comes of a text at a place with a letter -/
def edOne (x : Txt) (i : Nat) (c : UInt8) : List Txt :=
  (if x.length < 12 then [x.take i ++ c :: x.drop i] else []) ++ (if i < x.length ∧ x[i]? ≠ some c then [x.take i ++ c :: x.drop (i + 1)] else [])
def edDel (x : Txt) (i : Nat) : List Txt := if i < x.length then [x.take i ++ x.drop (i + 1)] else []
/-- at a place, by the program; by the reference -/
def edP (x : Txt) (i : Nat) : List Txt := edDel x i ++ (x ++ [97]).flatMap (edOne x i)
def edS (x : Txt) (i : Nat) : List Txt := (97 :: x).flatMap (edOne x i) ++ edDel x i
def edAll (f : Txt → Nat → List Txt) (x : Txt) (k : Nat) : List Txt := (List.range k).flatMap (f x)
theorem edAll_succ (f : Txt → Nat → List Txt) (x : Txt) (k : Nat) : edAll f x (k + 1) = edAll f x k ++ f x k := by
  unfold edAll
  rw [List.range_succ, List.flatMap_append, List.flatMap_cons, List.flatMap_nil, List.append_nil]
theorem edOne_len (x : Txt) (i : Nat) (c : UInt8) : (edOne x i c).length ≤ 2 := by
  unfold edOne
  rw [List.length_append]
  split <;> split <;> simp
theorem flat_le {α : Type} {f : α → List Txt} {m : Nat} : ∀ (l : List α), (∀ a ∈ l, (f a).length ≤ m) → (l.flatMap f).length ≤ l.length * m
  | [], _ => by simp
  | a :: l, h => by
    rw [List.flatMap_cons, List.length_append, List.length_cons, Nat.add_mul]
    have h1 := h a List.mem_cons_self
    have h2 := flat_le l (fun b hb => h b (List.mem_cons_of_mem _ hb))
    omega
theorem edDel_len (x : Txt) (i : Nat) : (edDel x i).length ≤ 1 := by unfold edDel; split <;> simp
theorem edP_len {x : Txt} (hx : x.length ≤ 12) (i : Nat) : (edP x i).length ≤ 27 := by
  unfold edP
  rw [List.length_append]
  have h1 := edDel_len x i
  have h2 := flat_le (f := edOne x i) (m := 2) (x ++ [97]) (fun c _ => edOne_len x i c)
  rw [List.length_append, List.length_singleton] at h2
  omega
theorem edS_len {x : Txt} (hx : x.length ≤ 12) (i : Nat) : (edS x i).length ≤ 27 := by
  unfold edS
  rw [List.length_append]
  have h1 := edDel_len x i
  have h2 := flat_le (f := edOne x i) (m := 2) (97 :: x) (fun c _ => edOne_len x i c)
  rw [List.length_cons] at h2
  omega
theorem edAll_len {f : Txt → Nat → List Txt} {x : Txt} (h : ∀ i, (f x i).length ≤ 27) (k : Nat) : (edAll f x k).length ≤ k * 27 := by
  have := flat_le (f := f x) (m := 27) (List.range k) (fun i _ => h i)
  simpa [edAll] using this
theorem mem_ed (x : Txt) (i : Nat) (t : Txt) : t ∈ edP x i ↔ t ∈ edS x i := by
  unfold edP edS
  rw [List.mem_append, List.mem_append, List.mem_flatMap, List.mem_flatMap]
  constructor
  · rintro (h | ⟨c, hc, h⟩)
    · exact .inr h
    · refine .inl ⟨c, ?_, h⟩
      rcases List.mem_append.1 hc with k | k
      · exact List.mem_cons_of_mem _ k
      · rw [List.mem_singleton.1 k]; exact List.mem_cons_self
  · rintro (⟨c, hc, h⟩ | h)
    · refine .inr ⟨c, ?_, h⟩
      rcases List.mem_cons.1 hc with k | k
      · rw [k]; exact List.mem_append_right _ (List.mem_singleton.2 rfl)
      · exact List.mem_append_left _ k
    · exact .inl h
theorem mem_edAll (x : Txt) (k : Nat) (t : Txt) : t ∈ edAll edP x k ↔ t ∈ edAll edS x k := by
  unfold edAll
  rw [List.mem_flatMap, List.mem_flatMap]
  exact ⟨fun ⟨i, hi, h⟩ => ⟨i, hi, (mem_ed x i t).1 h⟩, fun ⟨i, hi, h⟩ => ⟨i, hi, (mem_ed x i t).2 h⟩⟩
/-- what both tell -/
def edits (x : Txt) : List Txt := puts (edAll edS x (x.length + 1))
theorem edits_sorted (x : Txt) : Lib.compact ((edAll edP x (x.length + 1)).mergeSort fun a b => decide (a ≤ b)) = edits x := by
  obtain ⟨h1, h2⟩ := compact_sorted (edAll edP x (x.length + 1))
  refine asc_ext h1 (puts_asc _) fun t => ?_
  rw [h2, edits, mem_puts, mem_edAll]
theorem edOne_short {x : Txt} (hx : x.length ≤ 12) {i : Nat} {c : UInt8} : ∀ t ∈ edOne x i c, t.length ≤ 13 := by
  intro t ht
  unfold edOne at ht
  rcases List.mem_append.1 ht with h | h <;> split at h <;> simp at h <;> subst h <;> simp <;> omega
theorem ed_short {x : Txt} (hx : x.length ≤ 12) {i : Nat} : ∀ t ∈ edS x i, t.length ≤ 13 := by
  intro t ht
  unfold edS at ht
  rcases List.mem_append.1 ht with h | h
  · obtain ⟨c, _, h⟩ := List.mem_flatMap.1 h
    exact edOne_short hx t h
  · unfold edDel at h
    split at h
    · simp at h; subst h; simp; omega
    · simp at h
theorem edits_short {x : Txt} (hx : x.length ≤ 12) : ∀ t ∈ edits x, t.length ≤ 13 := by
  intro t ht
  unfold edits edAll at ht
  rw [mem_puts] at ht
  obtain ⟨i, _, h⟩ := List.mem_flatMap.1 ht
  exact ed_short hx t h
theorem edits_len {x : Txt} (hx : x.length ≤ 12) : (edits x).length ≤ 351 := by
  have h1 := puts_len (edAll edS x (x.length + 1))
  have h2 := edAll_len (f := edS) (edS_len hx) (x.length + 1)
  unfold edits
  have : (x.length + 1) * 27 ≤ 13 * 27 := Nat.mul_le_mul (by omega) (Nat.le_refl _)
  omega

end Go.Proofs.Ytmgieahachphmaa
