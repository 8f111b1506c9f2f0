/-
  All substrings of a text: plain mathematics.
-/
import Derived.Test.YtmgieahachphmaaTxt
import Derived.Lib.SlicesCompact
namespace Go.Proofs.Ytmgieahachphmaa
set_option linter.unusedVariables false

/-- texts put in, one behind the other -/
def puts (xs : List Txt) : List Txt := xs.foldl put []

theorem foldl_puts : ∀ (xs acc : List Txt), Asc acc → Asc (xs.foldl put acc) ∧ ∀ x, x ∈ xs.foldl put acc ↔ x ∈ acc ∨ x ∈ xs
  | [], acc, h => ⟨h, by simp⟩
  | y :: r, acc, h => by
    have := foldl_puts r (put acc y) (asc_put y h)
    refine ⟨this.1, fun x => ?_⟩
    rw [List.foldl_cons, this.2, mem_put, List.mem_cons, or_assoc]

theorem puts_asc (xs : List Txt) : Asc (puts xs) := (foldl_puts xs [] List.Pairwise.nil).1
theorem mem_puts {xs : List Txt} {x : Txt} : x ∈ puts xs ↔ x ∈ xs := by
  have := (foldl_puts xs [] List.Pairwise.nil).2 x
  unfold puts
  simpa using this
theorem puts_snoc (xs : List Txt) (x : Txt) : puts (xs ++ [x]) = put (puts xs) x := by
  unfold puts; rw [List.foldl_append]; rfl
theorem puts_len_le : ∀ (xs acc : List Txt), (xs.foldl put acc).length ≤ acc.length + xs.length
  | [], acc => by simp
  | y :: r, acc => by
    rw [List.foldl_cons]
    have := puts_len_le r (put acc y)
    have := put_len acc y
    simp only [List.length_cons]; omega
theorem puts_len (xs : List Txt) : (puts xs).length ≤ xs.length := by have := puts_len_le xs []; unfold puts; simpa using this

/-- the first beginnings of a text, but the empty one -/
def begs1 (e : Txt) (j : Nat) : List Txt := (List.range j).map fun b => e.take (b + 1)
theorem begs1_succ (e : Txt) (j : Nat) : begs1 e (j + 1) = begs1 e j ++ [e.take (j + 1)] := by
  unfold begs1; rw [List.range_succ, List.map_append]; rfl
theorem begs1_len (e : Txt) (j : Nat) : (begs1 e j).length = j := by unfold begs1; simp
theorem begs1_zero (e : Txt) : begs1 e 0 = [] := rfl

/-- the stretches that go from the first places, in their order -/
def strs (x : Txt) : Nat → List Txt
  | 0 => []
  | i + 1 => strs x i ++ begs1 (x.drop i) (x.length - i)

theorem strs_len (x : Txt) : ∀ i, (strs x i).length ≤ i * x.length
  | 0 => by simp [strs]
  | i + 1 => by
    have := strs_len x i
    have e : (strs x (i + 1)).length = (strs x i).length + (x.length - i) := by
      show (strs x i ++ begs1 (x.drop i) (x.length - i)).length = _
      rw [List.length_append, begs1_len]
    rw [e, Nat.add_mul]; omega

theorem mem_strs (x t : Txt) : ∀ i, t ∈ strs x i ↔ ∃ a b, a < i ∧ b < x.length - a ∧ t = (x.drop a).take (b + 1)
  | 0 => by simp [strs]
  | i + 1 => by
    unfold strs
    rw [List.mem_append, mem_strs x t i]
    unfold begs1
    simp only [List.mem_map, List.mem_range]
    constructor
    · rintro (⟨a, b, h1, h2, h3⟩ | ⟨b, h2, h3⟩)
      · exact ⟨a, b, by omega, h2, h3⟩
      · exact ⟨i, b, by omega, h2, h3.symm⟩
    · rintro ⟨a, b, h1, h2, h3⟩
      by_cases e : a = i
      · subst e; exact .inr ⟨b, h2, h3.symm⟩
      · exact .inl ⟨a, b, by omega, h2, h3⟩

/-- all stretches -/
def stretches (x : Txt) : List Txt := strs x x.length
/-- all substrings but the empty one, in order -/
def prt (x : Txt) : List Txt := puts (stretches x)

theorem prt_asc (x : Txt) : Asc (prt x) := puts_asc _

theorem mem_stretches {x t : Txt} : t ∈ stretches x ↔ t ≠ [] ∧ t <:+: x := by
  unfold stretches
  rw [mem_strs]
  constructor
  · rintro ⟨a, b, h1, h2, rfl⟩
    refine ⟨?_, ?_⟩
    · intro h
      have := congrArg List.length h
      simp at this
      omega
    · exact ((List.take_prefix _ _).isInfix).trans (List.drop_suffix _ _).isInfix
  · rintro ⟨hn, p, q, rfl⟩
    have hl : 0 < t.length := List.length_pos_iff.2 hn
    refine ⟨p.length, t.length - 1, by simp; omega, by simp; omega, ?_⟩
    rw [List.append_assoc, List.drop_left]
    have : t.length - 1 + 1 = t.length := by omega
    rw [this, List.take_left]

theorem mem_prt {x t : Txt} : t ∈ prt x ↔ t ≠ [] ∧ t <:+: x := by unfold prt; rw [mem_puts, mem_stretches]

theorem prt_len (x : Txt) : (prt x).length ≤ x.length * x.length := Nat.le_trans (puts_len _) (strs_len x x.length)

theorem prt_short {x t : Txt} (h : t ∈ prt x) : t.length ≤ x.length := (mem_prt.1 h).2.length_le
theorem prt_pos {x t : Txt} (h : t ∈ prt x) : 0 < t.length := List.length_pos_iff.2 (mem_prt.1 h).1
theorem prt_nil : prt [] = [] := rfl

/-- the order of the library is the order of texts -/
theorem bef_lt : ∀ x y : Txt, bef x y = true ↔ x < y
  | x, [] => by rw [bef_nil]; simp
  | [], y :: b => by simp [bef]
  | a :: x, b :: y => by
    rw [List.cons_lt_cons_iff, ← bef_lt x y]
    by_cases h : a = b
    · subst h; rw [bef_cons_same]; simp [UInt8.lt_irrefl]
    · simp [bef, h]

theorem bef_le (x y : Txt) : decide (x ≤ y) = !bef y x := by
  cases h : bef y x with
  | true => have := (bef_lt y x).1 h; simpa using this
  | false =>
    have h' : ¬ y < x := fun k => by rw [(bef_lt y x).2 k] at h; cases h
    simpa using h'

/-- what is in order, by the library's order -/
theorem sorted_pair (l : List Txt) : (l.mergeSort fun x y => decide (x ≤ y)).Pairwise fun x y => bef y x = false := by
  have h := List.pairwise_mergeSort (le := fun x y : Txt => decide (x ≤ y))
    (fun a b c h1 h2 => by
      rw [bef_le] at h1 h2 ⊢
      simp only [Bool.not_eq_true'] at h1 h2 ⊢
      cases k : bef c a with
      | false => rfl
      | true =>
        rcases bef_total b a with h | h | h
        · rw [h] at h1; cases h1
        · subst h; rw [k] at h2; cases h2
        · have := bef_trans k h; rw [this] at h2; cases h2)
    (fun a b => by
      rw [bef_le, bef_le]
      cases h : bef b a with
      | false => simp
      | true => simp [bef_asymm h]) l
  exact h.imp (fun {a b} h => by rw [bef_le] at h; simpa using h)

theorem sorted_get {l : List Txt} (h : l.Pairwise fun x y => bef y x = false) {i j : Nat} (hij : i < j) (hj : j < l.length) : bef l[j] l[i] = false :=
  List.pairwise_iff_getElem.1 h i j (by omega) hj hij

theorem keeps_iff (l : List Txt) (j : Nat) (hj : j < l.length) : Lib.keeps l.toArray j = true ↔ j = 0 ∨ l[j] ≠ l[j - 1]! := by
  unfold Lib.keeps
  have e : (l.toArray)[j]! = l[j] := by simp [hj]
  have e2 : (l.toArray)[j - 1]! = l[j - 1]! := by simp
  simp [e, e2]

/-- of what is in order, that without the same ones is ascending and has the same texts -/
theorem compact_asc {l : List Txt} (h : l.Pairwise fun x y => bef y x = false) : ∀ m, m ≤ l.length →
    Asc (Lib.compactUpTo l.toArray m) ∧ (∀ t, t ∈ Lib.compactUpTo l.toArray m ↔ t ∈ l.take m) ∧ (∀ hm : 0 < m, (Lib.compactUpTo l.toArray m).getLast? = some (l[m - 1]!))
  | 0, _ => ⟨by simp [Lib.compactUpTo], by simp [Lib.compactUpTo], fun h => absurd h (by omega)⟩
  | m + 1, hm => by
    obtain ⟨h1, h2, h3⟩ := compact_asc h m (by omega)
    have hlt : m < l.length := by omega
    have hg : (l.toArray)[m]! = l[m] := by simp [hlt]
    have hg' : l[m]! = l[m] := by simp [hlt]
    rw [Lib.compactUpTo_succ, hg]
    by_cases hk : Lib.keeps l.toArray m = true
    · rw [if_pos hk]
      refine ⟨?_, ?_, ?_⟩
      · rw [Asc, List.pairwise_append]
        refine ⟨h1, by simp, fun a ha b hb => ?_⟩
        simp only [List.mem_singleton] at hb
        subst hb
        obtain ⟨i, hi, e⟩ := List.getElem_of_mem ((h2 a).1 ha)
        simp only [List.length_take] at hi
        have hil : i < l.length := by omega
        have e' : l[i] = a := by rw [← e, List.getElem_take]
        have hb := sorted_get h (show i < m by omega) hlt
        rw [e'] at hb
        rcases bef_total a l[m] with k | k | k
        · exact k
        · exfalso
          rcases (keeps_iff l m hlt).1 hk with h0 | h0
          · omega
          · apply h0
            have hm1 : m - 1 < l.length := by omega
            have e3 : l[m - 1]! = l[m - 1] := by simp [hm1]
            rw [e3]
            rcases bef_total l[m - 1] l[m] with q | q | q
            · by_cases hi2 : i = m - 1
              · subst hi2; rw [e', k, bef_irrefl] at q; cases q
              · have := sorted_get h (show i < m - 1 by omega) hm1
                rw [e', k, q] at this; cases this
            · exact q.symm
            · have := sorted_get h (show m - 1 < m by omega) hlt
              rw [q] at this; cases this
        · rw [k] at hb; cases hb
      · intro t
        rw [List.mem_append, h2, List.take_succ_eq_append_getElem hlt, List.mem_append]
      · intro _
        rw [List.getLast?_append]
        simp [hlt]
    · have hk' : ¬ (m = 0 ∨ l[m] ≠ l[m - 1]!) := fun k => hk ((keeps_iff l m hlt).2 k)
      have hm0 : ¬ m = 0 := fun e => hk' (.inl e)
      have he : l[m] = l[m - 1]! := Decidable.not_not.1 fun e => hk' (.inr e)
      rw [if_neg hk, List.append_nil]
      refine ⟨h1, ?_, ?_⟩
      · intro t
        rw [h2, List.take_succ_eq_append_getElem hlt, List.mem_append]
        constructor
        · exact .inl
        · rintro (k | k)
          · exact k
          · simp only [List.mem_singleton] at k
            rw [k, he]
            have hm1 : m - 1 < l.length := by omega
            have e3 : l[m - 1]! = l[m - 1] := by simp [hm1]
            rw [e3, List.mem_iff_getElem]
            exact ⟨m - 1, by simp; omega, by rw [List.getElem_take]⟩
      · intro _
        rw [h3 (by omega), Nat.add_sub_cancel, hg', he]

theorem compact_sorted (l : List Txt) : Asc (Lib.compact (l.mergeSort fun x y => decide (x ≤ y))) ∧ ∀ t, t ∈ Lib.compact (l.mergeSort fun x y => decide (x ≤ y)) ↔ t ∈ l := by
  unfold Lib.compact
  obtain ⟨h1, h2, _⟩ := compact_asc (sorted_pair l) _ (Nat.le_refl _)
  refine ⟨h1, fun t => ?_⟩
  rw [h2, List.take_length, (List.mergeSort_perm l _).mem_iff]

/-- what the program tells is what is told -/
theorem compact_prt (x : Txt) (p : Txt → Bool) : Lib.compact (((stretches x).filter p).mergeSort fun x y => decide (x ≤ y)) = (prt x).filter p := by
  obtain ⟨h1, h2⟩ := compact_sorted ((stretches x).filter p)
  refine asc_ext h1 (asc_filter p (prt_asc x)) fun t => ?_
  rw [h2, List.mem_filter, List.mem_filter]
  unfold prt
  rw [mem_puts]

/-- a list of texts of which no two are the same, in order -/
theorem sorted_nodup {l : List Txt} (h : l.Nodup) : (l.mergeSort fun x y => decide (x ≤ y)) = puts l := by
  refine asc_ext ?_ (puts_asc l) fun t => by rw [mem_puts, (List.mergeSort_perm l _).mem_iff]
  have hn : (l.mergeSort fun x y => decide (x ≤ y)).Nodup := (List.mergeSort_perm l _).nodup_iff.2 h
  exact (List.Pairwise.and (sorted_pair l) hn).imp fun {a b} ⟨h1, h2⟩ => by
    rcases bef_total a b with k | k | k
    · exact k
    · exact absurd k h2
    · rw [k] at h1; cases h1

end Go.Proofs.Ytmgieahachphmaa
