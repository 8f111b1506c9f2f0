/-
  The words that stand at the beginning of a text: their numbers of letters, as found in a list of words and letter by letter.
-/
import Derived.Test.YtknoafkgeaibpaaTri
namespace Go.Proofs.Ytknoafkgeaibpaa
set_option linter.unusedVariables false

abbrev AscN (l : List Nat) : Prop := l.Pairwise fun x y => x < y

theorem ascN_ext : ∀ {a b : List Nat}, AscN a → AscN b → (∀ x, x ∈ a ↔ x ∈ b) → a = b
  | [], [], _, _, _ => rfl
  | [], y :: b, _, _, h => by have := (h y).2 (by simp); simp at this
  | x :: a, [], _, _, h => by have := (h x).1 (by simp); simp at this
  | x :: a, y :: b, ha, hb, h => by
    rw [AscN, List.pairwise_cons] at ha hb
    have e : x = y := by
      have h1 := (h x).1 (by simp)
      have h2 := (h y).2 (by simp)
      rw [List.mem_cons] at h1 h2
      rcases h1 with h1 | h1
      · exact h1
      · rcases h2 with h2 | h2
        · exact h2.symm
        · have a1 := ha.1 y h2
          have a2 := hb.1 x h1
          omega
    subst e
    congr 1
    refine ascN_ext ha.2 hb.2 fun z => ?_
    have hz := h z
    rw [List.mem_cons, List.mem_cons] at hz
    constructor
    · intro hm
      rcases hz.1 (.inr hm) with h1 | h1
      · have := ha.1 z hm; omega
      · exact h1
    · intro hm
      rcases hz.2 (.inr hm) with h1 | h1
      · have := hb.1 z hm; omega
      · exact h1

/-- a word that counts for a rest -/
def stands (r w : Txt) : Bool := decide (w ≠ [] ∧ w <+: r)

theorem stands_iff {r w : Txt} : stands r w = true ↔ w ≠ [] ∧ w <+: r := by simp [stands]

/-- the numbers of letters of all words that stand at the beginning of a text -/
def Mt (ws : List Txt) (r : Txt) : List Nat := (ws.filter (stands r)).map List.length

theorem mt_mem {ws : List Txt} {r : Txt} {k : Nat} : k ∈ Mt ws r ↔ 1 ≤ k ∧ k ≤ r.length ∧ r.take k ∈ ws := by
  unfold Mt
  rw [List.mem_map]
  constructor
  · rintro ⟨w, hw, rfl⟩
    rw [List.mem_filter, stands_iff] at hw
    obtain ⟨h1, h2, h3⟩ := hw
    refine ⟨?_, h3.length_le, ?_⟩
    · cases w with
      | nil => exact absurd rfl h2
      | cons c w => simp
    · rw [← List.prefix_iff_eq_take.1 h3]; exact h1
  · rintro ⟨h1, h2, h3⟩
    refine ⟨r.take k, ?_, by rw [List.length_take]; omega⟩
    rw [List.mem_filter, stands_iff]
    refine ⟨h3, ?_, List.take_prefix _ _⟩
    intro e
    have := congrArg List.length e
    rw [List.length_take, List.length_nil] at this
    omega

theorem mt_asc {ws : List Txt} {r : Txt} (h : Asc ws) : AscN (Mt ws r) := by
  unfold Mt AscN
  rw [List.pairwise_map]
  have h1 := asc_filter (stands r) h
  refine List.Pairwise.imp_of_mem ?_ h1
  intro x y hx hy hb
  rw [List.mem_filter, stands_iff] at hx hy
  rcases Nat.lt_or_ge x.length y.length with hl | hl
  · exact hl
  · exfalso
    have hp : y <+: x := List.prefix_of_prefix_length_le hy.2.2 hx.2.2 hl
    by_cases e : y = x
    · subst e; rw [bef_irrefl] at hb; cases hb
    · have := bef_asymm (bef_pre hp e)
      rw [hb] at this; cases this

/-- the same letter by letter -/
def upTo (ws : List Txt) (r : Txt) : Nat → List Nat
  | 0 => []
  | k + 1 => upTo ws r k ++ if r.take (k + 1) ∈ ws then [k + 1] else []

theorem upTo_hit {ws : List Txt} {r : Txt} {k : Nat} (h : r.take (k + 1) ∈ ws) : upTo ws r (k + 1) = upTo ws r k ++ [k + 1] := by rw [upTo, if_pos h]
theorem upTo_miss {ws : List Txt} {r : Txt} {k : Nat} (h : r.take (k + 1) ∉ ws) : upTo ws r (k + 1) = upTo ws r k := by rw [upTo, if_neg h, List.append_nil]

theorem upTo_mem {ws : List Txt} {r : Txt} : ∀ {n k : Nat}, k ∈ upTo ws r n ↔ 1 ≤ k ∧ k ≤ n ∧ r.take k ∈ ws
  | 0, k => by simp [upTo]; omega
  | n + 1, k => by
    have ih := @upTo_mem ws r n k
    by_cases h : r.take (n + 1) ∈ ws
    · rw [upTo_hit h, List.mem_append, ih, List.mem_singleton]
      constructor
      · rintro (⟨h1, h2, h3⟩ | rfl)
        · exact ⟨h1, by omega, h3⟩
        · exact ⟨by omega, Nat.le_refl _, h⟩
      · rintro ⟨h1, h2, h3⟩
        by_cases e : k = n + 1
        · exact .inr e
        · exact .inl ⟨h1, by omega, h3⟩
    · rw [upTo_miss h, ih]
      constructor
      · rintro ⟨h1, h2, h3⟩; exact ⟨h1, by omega, h3⟩
      · rintro ⟨h1, h2, h3⟩
        refine ⟨h1, ?_, h3⟩
        by_cases e : k = n + 1
        · subst e; exact absurd h3 h
        · omega

theorem upTo_asc (ws : List Txt) (r : Txt) : ∀ n, AscN (upTo ws r n)
  | 0 => List.Pairwise.nil
  | n + 1 => by
    have ih := upTo_asc ws r n
    by_cases h : r.take (n + 1) ∈ ws
    · rw [upTo_hit h, AscN, List.pairwise_append]
      refine ⟨ih, by simp, fun x hx y hy => ?_⟩
      have := (upTo_mem.1 hx).2.1
      rw [List.mem_singleton] at hy
      omega
    · rw [upTo_miss h]; exact ih

theorem upTo_len (ws : List Txt) (r : Txt) : ∀ n, (upTo ws r n).length ≤ n
  | 0 => Nat.le_refl _
  | n + 1 => by
    have ih := upTo_len ws r n
    by_cases h : r.take (n + 1) ∈ ws
    · rw [upTo_hit h, List.length_append]; simp; omega
    · rw [upTo_miss h]; omega

theorem mt_upTo {ws : List Txt} {r : Txt} (h : Asc ws) : Mt ws r = upTo ws r r.length :=
  ascN_ext (mt_asc h) (upTo_asc ws r _) fun x => by rw [mt_mem, upTo_mem]

/-- no word goes on: nothing more is found -/
theorem upTo_stop {ws : List Txt} {r : Txt} {k : Nat} (h : ∀ w ∈ ws, r.take (k + 1) <+: w → False) : ∀ n, k ≤ n → upTo ws r n = upTo ws r k := by
  intro n
  induction n with
  | zero => intro hk; have : k = 0 := by omega
            subst this; rfl
  | succ n ih =>
    intro hk
    by_cases e : k = n + 1
    · rw [e]
    · rw [upTo_miss, ih (by omega)]
      intro hm
      refine h _ hm ?_
      have e2 : r.take (k + 1) = (r.take (n + 1)).take (k + 1) := by rw [List.take_take]; congr 1; omega
      rw [e2]
      exact List.take_prefix _ _

/-- word by word -/
theorem mt_hit {ws : List Txt} {r : Txt} {i : Nat} {y : Txt} (h : ws[i]? = some y) (hs : stands r y = true) : Mt (ws.take (i + 1)) r = Mt (ws.take i) r ++ [y.length] := by
  obtain ⟨hk, e⟩ := List.getElem?_eq_some_iff.1 h
  unfold Mt
  rw [List.take_succ_eq_append_getElem hk, List.filter_append, List.map_append, e]
  simp [hs]
theorem mt_miss {ws : List Txt} {r : Txt} {i : Nat} {y : Txt} (h : ws[i]? = some y) (hs : stands r y = false) : Mt (ws.take (i + 1)) r = Mt (ws.take i) r := by
  obtain ⟨hk, e⟩ := List.getElem?_eq_some_iff.1 h
  unfold Mt
  rw [List.take_succ_eq_append_getElem hk, List.filter_append, List.map_append, e]
  simp [hs]

theorem mt_le {ws : List Txt} {r : Txt} : (Mt ws r).length ≤ ws.length := by
  unfold Mt
  rw [List.length_map]
  exact List.length_filter_le _ _

/-- what is found last is greater than what was found before -/
theorem mt_less {ws : List Txt} {r : Txt} {i : Nat} {y : Txt} (ha : Asc ws) (h : ws[i]? = some y) (hs : stands r y = true) : ∀ k ∈ Mt (ws.take i) r, k < y.length := by
  intro k hk
  have h1 := mt_asc (r := r) (ha.sublist (List.take_sublist (i + 1) ws))
  rw [mt_hit h hs, AscN, List.pairwise_append] at h1
  exact h1.2.2 k hk _ (by simp)

end Go.Proofs.Ytknoafkgeaibpaa
