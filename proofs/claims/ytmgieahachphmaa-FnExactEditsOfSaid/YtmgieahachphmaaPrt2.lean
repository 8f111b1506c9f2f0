/-
  Places of a part, the longest and the shortest of a list, ends, what texts have in common: plain mathematics.
-/
import Derived.Test.YtmgieahachphmaaPrt
import Derived.Lib.Strings
namespace Go.Proofs.Ytmgieahachphmaa
set_option linter.unusedVariables false

/-- the places before a place at which a text occurs -/
def ats (x p : Txt) (k : Nat) : List Nat := (List.range k).filter fun i => p.isPrefixOf (x.drop i)
/-- all places at which a text occurs -/
def plcs (x p : Txt) : List Nat := ats x p x.length

theorem ats_succ (x p : Txt) (k : Nat) : ats x p (k + 1) = ats x p k ++ (if p.isPrefixOf (x.drop k) then [k] else []) := by
  unfold ats
  rw [List.range_succ, List.filter_append]
  congr 1
  by_cases h : p.isPrefixOf (x.drop k) <;> simp [h]

theorem ats_yes {x p : Txt} {k : Nat} (h : p.isPrefixOf (x.drop k) = true) : ats x p (k + 1) = ats x p k ++ [k] := by rw [ats_succ, if_pos h]
theorem ats_no {x p : Txt} {k : Nat} (h : p.isPrefixOf (x.drop k) = false) : ats x p (k + 1) = ats x p k := by rw [ats_succ, if_neg (by simp [h]), List.append_nil]
theorem ats_len (x p : Txt) (k : Nat) : (ats x p k).length ≤ k := by
  unfold ats; exact Nat.le_trans (List.length_filter_le _ _) (by simp)

theorem at_far {x p : Txt} {i : Nat} (hp : 0 < p.length) (h : x.length < i + p.length) : p.isPrefixOf (x.drop i) = false := by
  cases k : p.isPrefixOf (x.drop i) with
  | false => rfl
  | true =>
    have := (List.isPrefixOf_iff_prefix.1 k).length_le
    simp at this; omega

theorem ats_end {x p : Txt} {i : Nat} (hp : 0 < p.length) (h : x.length < i + p.length) : ∀ k, ats x p (i + k) = ats x p i
  | 0 => rfl
  | k + 1 => by rw [← Nat.add_assoc, ats_no (at_far hp (by omega)), ats_end hp h k]

theorem ats_all {x p : Txt} {i : Nat} (hp : 0 < p.length) (h : x.length < i + p.length) (hi : i ≤ x.length) : ats x p i = plcs x p := by
  have := ats_end (x := x) hp h (x.length - i)
  rw [show i + (x.length - i) = x.length by omega] at this
  exact this.symm

theorem at_take {x p : Txt} {i : Nat} (h : i + p.length ≤ x.length) : ((x.drop i).take p.length = p) ↔ p.isPrefixOf (x.drop i) = true := by
  rw [List.isPrefixOf_iff_prefix]
  constructor
  · intro e; rw [← e]; exact List.take_prefix _ _
  · intro e; exact (List.prefix_iff_eq_take.1 e).symm

theorem mem_plcs {x p : Txt} {i : Nat} : i ∈ plcs x p ↔ i < x.length ∧ p <+: x.drop i := by
  unfold plcs ats
  rw [List.mem_filter, List.mem_range, List.isPrefixOf_iff_prefix]

theorem plcs_some {x p : Txt} (h : p ∈ prt x) : 0 < (plcs x p).length := by
  obtain ⟨hn, a, b, e⟩ := mem_prt.1 h
  have hl : 0 < p.length := List.length_pos_iff.2 hn
  have : a.length ∈ plcs x p := by
    rw [mem_plcs, ← e]
    refine ⟨by simp; omega, ?_⟩
    rw [List.append_assoc, List.drop_left]
    exact List.prefix_append _ _
  exact List.length_pos_iff.2 (List.ne_nil_of_mem this)

/-- a text occurs just where it is a stretch -/
theorem plcs_pos_iff {x p : Txt} (hp : p ≠ []) : 0 < (plcs x p).length ↔ p <:+: x := by
  constructor
  · intro h
    obtain ⟨i, hi⟩ := List.exists_mem_of_length_pos h
    exact ((mem_plcs.1 hi).2.isInfix).trans (List.drop_suffix _ _).isInfix
  · intro h; exact plcs_some (mem_prt.2 ⟨hp, h⟩)

/-- the first of the longest texts -/
def lst (l : List Txt) (b : Txt) : Txt := l.foldl (fun b t => if b.length < t.length then t else b) b
def lstIf (c : Txt → Bool) (l : List Txt) (b : Txt) : Txt := l.foldl (fun b t => if b.length < t.length ∧ c t = true then t else b) b

theorem lst_snoc (l : List Txt) (t b : Txt) : lst (l ++ [t]) b = if (lst l b).length < t.length then t else lst l b := by
  unfold lst; rw [List.foldl_append]; rfl
theorem lstIf_snoc (c : Txt → Bool) (l : List Txt) (t b : Txt) : lstIf c (l ++ [t]) b = if (lstIf c l b).length < t.length ∧ c t = true then t else lstIf c l b := by
  unfold lstIf; rw [List.foldl_append]; rfl

theorem lstIf_filter (c : Txt → Bool) : ∀ (l : List Txt) (b : Txt), lstIf c l b = lst (l.filter c) b
  | [], _ => rfl
  | t :: l, b => by
    have ih := lstIf_filter c l
    unfold lstIf lst at ih ⊢
    rw [List.foldl_cons, ih, List.filter_cons]
    by_cases h : c t = true
    · rw [if_pos h, List.foldl_cons]
      simp only [h, and_true]
    · rw [if_neg h]
      rw [if_neg (by simp [h])]

theorem lst_len : ∀ (l : List Txt) (b : Txt), (lst l b = b ∨ lst l b ∈ l) ∧ b.length ≤ (lst l b).length ∧ ∀ t ∈ l, t.length ≤ (lst l b).length
  | [], b => ⟨.inl rfl, Nat.le_refl _, by simp⟩
  | t :: l, b => by
    have e : lst (t :: l) b = lst l (if b.length < t.length then t else b) := rfl
    rw [e]
    by_cases h : b.length < t.length
    · rw [if_pos h]
      obtain ⟨h1, h2, h3⟩ := lst_len l t
      refine ⟨.inr ?_, by omega, fun u hu => ?_⟩
      · rcases h1 with h1 | h1
        · rw [h1]; exact List.mem_cons_self
        · exact List.mem_cons_of_mem _ h1
      · rcases List.mem_cons.1 hu with rfl | k
        · exact h2
        · exact h3 u k
    · rw [if_neg h]
      obtain ⟨h1, h2, h3⟩ := lst_len l b
      refine ⟨?_, h2, fun u hu => ?_⟩
      · rcases h1 with h1 | h1
        · exact .inl h1
        · exact .inr (List.mem_cons_of_mem _ h1)
      · rcases List.mem_cons.1 hu with rfl | k
        · omega
        · exact h3 u k

/-- the first of the shortest texts that are wanted, if they are shorter than the one that is there -/
def sht (c : Txt → Bool) (l : List Txt) (b : Txt) : Txt := l.foldl (fun b t => if t.length < b.length ∧ c t = true then t else b) b

theorem sht_snoc (c : Txt → Bool) (l : List Txt) (t b : Txt) : sht c (l ++ [t]) b = if (t.length < (sht c l b).length ∧ c t = true) then t else sht c l b := by
  unfold sht; rw [List.foldl_append]; rfl

theorem sht_le (c : Txt → Bool) : ∀ (l : List Txt) (b : Txt), (sht c l b).length ≤ b.length ∧ (sht c l b = b ∨ (sht c l b ∈ l ∧ c (sht c l b) = true)) ∧ ∀ t ∈ l, c t = true → (sht c l b).length ≤ t.length
  | [], b => ⟨Nat.le_refl _, .inl rfl, by simp⟩
  | t :: l, b => by
    have e : sht c (t :: l) b = sht c l (if t.length < b.length ∧ c t = true then t else b) := rfl
    rw [e]
    by_cases h : t.length < b.length ∧ c t = true
    · rw [if_pos h]
      obtain ⟨h1, h2, h3⟩ := sht_le c l t
      refine ⟨by omega, .inr ?_, fun u hu hc => ?_⟩
      · rcases h2 with h2 | h2
        · rw [h2]; exact ⟨List.mem_cons_self, h.2⟩
        · exact ⟨List.mem_cons_of_mem _ h2.1, h2.2⟩
      · rcases List.mem_cons.1 hu with rfl | k
        · exact h1
        · exact h3 u k hc
    · rw [if_neg h]
      obtain ⟨h1, h2, h3⟩ := sht_le c l b
      refine ⟨h1, ?_, fun u hu hc => ?_⟩
      · rcases h2 with h2 | h2
        · exact .inl h2
        · exact .inr ⟨List.mem_cons_of_mem _ h2.1, h2.2⟩
      · rcases List.mem_cons.1 hu with rfl | k
        · have : ¬ u.length < b.length := fun k => h ⟨k, hc⟩
          omega
        · exact h3 u k hc

/-- the ends of a text that are not empty, by their places -/
def endsTo (x : Txt) (k : Nat) : List Txt := (List.range k).map x.drop
def endsL (x : Txt) : List Txt := endsTo x x.length
/-- the ends in order -/
def endsO (x : Txt) : List Txt := puts (endsL x)

theorem endsTo_succ (x : Txt) (k : Nat) : endsTo x (k + 1) = endsTo x k ++ [x.drop k] := by unfold endsTo; rw [List.range_succ, List.map_append]; rfl
theorem endsTo_len (x : Txt) (k : Nat) : (endsTo x k).length = k := by unfold endsTo; simp
theorem endsL_len (x : Txt) : (endsL x).length = x.length := endsTo_len _ _
theorem endsL_get (x : Txt) (i : Nat) (h : i < x.length) : (endsL x)[i]? = some (x.drop i) := by unfold endsL endsTo; simp [h]
theorem mem_endsL {x e : Txt} : e ∈ endsL x ↔ ∃ i, i < x.length ∧ e = x.drop i := by
  unfold endsL endsTo; simp only [List.mem_map, List.mem_range]
  exact ⟨fun ⟨i, h, e⟩ => ⟨i, h, e.symm⟩, fun ⟨i, h, e⟩ => ⟨i, h, e.symm⟩⟩
theorem endsL_nodup (x : Txt) : (endsL x).Nodup := by
  unfold endsL endsTo
  rw [List.nodup_iff_pairwise_ne, List.pairwise_map]
  refine List.Pairwise.imp_of_mem ?_ (List.pairwise_lt_range (n := x.length))
  intro a b ha hb hab e
  have := congrArg List.length e
  simp only [List.mem_range] at ha hb
  simp at this; omega
theorem sorted_ends (x : Txt) : ((endsL x).mergeSort fun a b => decide (a ≤ b)) = endsO x := sorted_nodup (endsL_nodup x)
theorem mem_endsO {x e : Txt} : e ∈ endsO x ↔ ∃ i, i < x.length ∧ e = x.drop i := by unfold endsO; rw [mem_puts, mem_endsL]
theorem endsO_perm (x : Txt) : (endsO x).Perm (endsL x) := by rw [← sorted_ends]; exact List.mergeSort_perm _ _
theorem endsO_len (x : Txt) : (endsO x).length = x.length := by rw [(endsO_perm x).length_eq, endsL_len]
theorem endsO_drop {x e : Txt} (h : e ∈ endsO x) : x.drop (x.length - e.length) = e ∧ 0 < e.length ∧ e.length ≤ x.length := by
  obtain ⟨i, hi, rfl⟩ := mem_endsO.1 h
  simp
  refine ⟨?_, by omega⟩
  congr 1; omega
/-- the place of an end among all -/
theorem ends_idx {x e : Txt} (h : e ∈ endsO x) : (endsL x)[x.length - e.length]? = some e ∧ ∀ j, j < x.length - e.length → (endsL x)[j]? ≠ some e := by
  obtain ⟨h1, h2, h3⟩ := endsO_drop h
  refine ⟨by rw [endsL_get x _ (by omega), h1], fun j hj => ?_⟩
  rw [endsL_get x j (by omega)]
  intro k
  have := congrArg List.length (Option.some.inj k)
  simp at this; omega

/-- how many letters two texts have in common at their beginnings -/
def com : Txt → Txt → Nat
  | a :: x, b :: y => if a = b then com x y + 1 else 0
  | _, _ => 0
theorem com_nil (x : Txt) : com x [] = 0 := by cases x <;> rfl
theorem com_nil' (x : Txt) : com [] x = 0 := by cases x <;> rfl
theorem com_cons (a b : UInt8) (x y : Txt) : com (a :: x) (b :: y) = if a = b then com x y + 1 else 0 := rfl
theorem com_le : ∀ x y : Txt, com x y ≤ x.length ∧ com x y ≤ y.length
  | [], y => by rw [com_nil']; simp
  | a :: x, [] => by rw [com_nil]; simp
  | a :: x, b :: y => by
    rw [com_cons]
    have := com_le x y
    split <;> simp <;> omega

/-- what each of the first has in common with the next one -/
def adj (E : List Txt) (k : Nat) : List Nat := (List.range k).map fun i => com (E.getD i []) (E.getD (i + 1) [])
theorem adj_succ (E : List Txt) (k : Nat) : adj E (k + 1) = adj E k ++ [com (E.getD k []) (E.getD (k + 1) [])] := by unfold adj; rw [List.range_succ, List.map_append]; rfl
theorem adj_len (E : List Txt) (k : Nat) : (adj E k).length = k := by unfold adj; simp

/-- how many of a list have a length; the empty text as well -/
def cnt (ps : List Txt) (j : Nat) : Nat := (if j = 0 then 1 else 0) + (ps.filter fun t => t.length = j).length
def cnts (n : Nat) (ps : List Txt) : List Nat := (List.range (n + 1)).map (cnt ps)
theorem cnts_len (n : Nat) (ps : List Txt) : (cnts n ps).length = n + 1 := by unfold cnts; simp
theorem cnts_nil (n : Nat) : cnts n [] = 1 :: List.replicate n 0 := by
  unfold cnts
  apply List.ext_getElem
  · simp
  · intro i h1 h2
    simp [cnt]
    cases i with
    | zero => simp
    | succ i => simp
theorem cnt_snoc (ps : List Txt) (t : Txt) (j : Nat) : cnt (ps ++ [t]) j = cnt ps j + if t.length = j then 1 else 0 := by
  unfold cnt
  rw [List.filter_append, List.length_append]
  by_cases h : t.length = j <;> simp [h] <;> omega
theorem cnts_get? (n : Nat) (ps : List Txt) (j : Nat) : (cnts n ps)[j]? = if j ≤ n then some (cnt ps j) else none := by
  unfold cnts
  rw [List.getElem?_map]
  by_cases h : j ≤ n
  · rw [if_pos h, List.getElem?_range (by omega)]; rfl
  · rw [if_neg h, List.getElem?_eq_none (by simp; omega)]; rfl
theorem cnts_get (n : Nat) (ps : List Txt) (j : Nat) (h : j ≤ n) : (cnts n ps)[j]? = some (cnt ps j) := by rw [cnts_get?, if_pos h]
theorem cnts_snoc (n : Nat) (ps : List Txt) (t : Txt) (h : t.length ≤ n) : cnts n (ps ++ [t]) = (cnts n ps).set t.length (cnt ps t.length + 1) := by
  apply List.ext_getElem?
  intro i
  rw [cnts_get?, List.getElem?_set, cnts_len, cnts_get?, cnt_snoc]
  by_cases hi : i ≤ n
  · rw [if_pos hi]
    by_cases e : t.length = i
    · rw [if_pos e, if_pos e, if_pos (by omega), e]
    · rw [if_neg e, if_neg e, if_pos hi, Nat.add_zero]
  · rw [if_neg hi, if_neg (by omega), if_neg hi]
theorem cnt_le (ps : List Txt) (j : Nat) : cnt ps j ≤ 1 + ps.length := by
  unfold cnt
  have := List.length_filter_le (fun t : Txt => decide (t.length = j)) ps
  split <;> omega

/-- a square: twice the same letters -/
def sqrB (t : Txt) : Bool := decide (t.take (t.length / 2) = t.drop (t.length / 2))
theorem sqrB_even {t : Txt} (h : sqrB t = true) : t.length % 2 = 0 := by
  unfold sqrB at h
  have := congrArg List.length (decide_eq_true_eq.mp h)
  simp at this; omega

/-- the same from the last letter to the first -/
def palB (t : Txt) : Bool := decide (t = t.reverse)

end Go.Proofs.Ytmgieahachphmaa
