/-
  The trie of a list of texts, as a row of nodes: plain mathematics.
-/
import Derived.Test.YtmgieahachphmaaOf
import Derived.Test.YtmgieahachphmaaTwig
namespace Go.Proofs.Ytmgieahachphmaa
set_option linter.unusedVariables false

/-- all beginnings but the empty one -/
def begs (ws : List Txt) : List Txt := ws.flatMap fun w => (List.range w.length).map fun q => w.take (q + 1)

/-- all beginnings, ascending -/
def pres (ws : List Txt) : List Txt := (begs ws).foldl put [[]]

theorem mem_begs {ws : List Txt} {x : Txt} : x ∈ begs ws ↔ x ≠ [] ∧ ∃ w ∈ ws, x <+: w := by
  unfold begs
  simp only [List.mem_flatMap, List.mem_map, List.mem_range]
  constructor
  · rintro ⟨w, hw, q, hq, rfl⟩
    refine ⟨fun h => ?_, w, hw, List.take_prefix _ _⟩
    have := congrArg List.length h
    rw [List.length_take, List.length_nil] at this
    omega
  · rintro ⟨hne, w, hw, hp⟩
    have hl := hp.length_le
    have h0 : 0 < x.length := List.length_pos_iff.2 hne
    refine ⟨w, hw, x.length - 1, by omega, ?_⟩
    have e : x.length - 1 + 1 = x.length := by omega
    rw [e]
    exact (List.prefix_iff_eq_take.1 hp).symm

theorem pres_pre (ws : List Txt) : Pre ws (pres ws) := by
  have := foldl_put (begs ws) [[]] (by simp)
  refine ⟨this.1, fun x => ?_⟩
  unfold pres
  rw [this.2, mem_begs]
  simp only [List.mem_singleton]
  constructor
  · rintro (h | h)
    · exact .inl h
    · exact .inr h.2
  · rintro (h | h)
    · exact .inl h
    · by_cases e : x = []
      · exact .inl e
      · exact .inr ⟨e, h⟩

theorem foldl_len : ∀ (xs acc : List Txt), (xs.foldl put acc).length ≤ acc.length + xs.length
  | [], acc => by simp
  | y :: r, acc => by
    have h1 := foldl_len r (put acc y)
    have h2 := put_len acc y
    simp only [List.foldl_cons, List.length_cons]
    omega

theorem foldl_len' : ∀ (xs acc : List Txt), acc.length ≤ (xs.foldl put acc).length
  | [], acc => by simp
  | y :: r, acc => by
    have h1 := foldl_len' r (put acc y)
    have h2 := len_put acc y
    simp only [List.foldl_cons]
    omega

theorem begs_len : ∀ {ws : List Txt}, (∀ w ∈ ws, w.length ≤ 12) → (begs ws).length ≤ 12 * ws.length
  | [], _ => by simp [begs]
  | w :: r, h => by
    have h1 := begs_len (ws := r) (fun x hx => h x (List.mem_cons_of_mem _ hx))
    have h2 := h w List.mem_cons_self
    unfold begs at h1 ⊢
    simp only [List.flatMap_cons, List.length_append, List.length_map, List.length_range, List.length_cons]
    omega

theorem pre_few {ws ps : List Txt} (hw : ∀ w ∈ ws, IsW w) (hn : ws.length ≤ 40) (h : Pre ws ps) : ps.length ≤ 481 := by
  rw [h.uniq (pres_pre ws)]
  have h1 := foldl_len (begs ws) [[]]
  have h2 := begs_len (fun w hh => (hw w hh).1)
  unfold pres
  simp only [List.length_cons, List.length_nil] at h1
  omega

/-- the nodes of the trie of some words -/
def made (ws : List Txt) : List Nd := mkT ws (pres ws)

theorem made_of {ws ps : List Txt} (h : Pre ws ps) : mkT ws ps = made ws := by unfold made; rw [h.uniq (pres_pre ws)]

theorem made_valid {ws : List Txt} (ha : Asc ws) (hw : ∀ w ∈ ws, IsW w) (hn : ws.length ≤ 40) : Valid (made ws) (pres ws) :=
  mk_valid ha hw hn (pres_pre ws) (pre_few hw hn (pres_pre ws))

theorem made_isT {ws : List Txt} (ha : Asc ws) (hw : ∀ w ∈ ws, IsW w) (hn : ws.length ≤ 40) : IsT (made ws) := ⟨_, made_valid ha hw hn⟩

/-- a valid trie is that of its words -/
theorem made_wds {t : List Nd} {ps : List Txt} (h : Valid t ps) : made (wds t ps) = t := by rw [← made_of h.pre, h.made]

/-- the trie of a list, if it has one; no node else -/
def tofT (xs : List Txt) : List Nd := if setOk xs then made (setOf xs) else []

theorem tofT_yes {xs : List Txt} (h : setOk xs = true) : tofT xs = made (setOf xs) := if_pos h
theorem tofT_no {xs : List Txt} (h : setOk xs = false) : tofT xs = [] := by unfold tofT; rw [h]; rfl

theorem made_fits {ws : List Txt} (hw : ∀ w ∈ ws, IsW w) (hn : ws.length ≤ 40) : Fits (made ws) := pre_fits hw (pres_pre ws) (pre_few hw hn (pres_pre ws))
theorem tofT_fits (xs : List Txt) : Fits (tofT xs) := by
  cases h : setOk xs with
  | true => rw [tofT_yes h]; exact made_fits (setOk_words h).1 (setOk_words h).2
  | false => rw [tofT_no h]; intro d hd; cases hd
theorem tofT_len (xs : List Txt) : (tofT xs).length ≤ 481 := by
  cases h : setOk xs with
  | true =>
    rw [tofT_yes h]
    unfold made
    rw [mkT_len]
    exact pre_few (setOk_words h).1 (setOk_words h).2 (pres_pre _)
  | false => rw [tofT_no h]; simp

theorem setOf_take_len (xs : List Txt) (k : Nat) : (setOf (xs.take k)).length ≤ (setOf xs).length := by
  unfold setOf
  have : xs.foldl put [] = (xs.drop k).foldl put ((xs.take k).foldl put []) := by rw [← List.foldl_append, List.take_append_drop]
  rw [this]
  exact foldl_len' _ _

theorem setOk_many {xs : List Txt} {k : Nat} (h : 40 < (setOf (xs.take k)).length) : setOk xs = false := by
  unfold setOk
  rw [decide_eq_false_iff_not]
  rintro ⟨_, h2⟩
  have := setOf_take_len xs k
  omega

theorem put_len_new {l : List Txt} {w : Txt} (h : w ∉ l) : (put l w).length = l.length + 1 := by
  induction l with
  | nil => rfl
  | cons y r ih =>
    have h1 : y ≠ w := fun e => h (by simp [e])
    have h2 : w ∉ r := fun e => h (by simp [e])
    unfold put
    split
    · simp [ih h2]
    · simp

end Go.Proofs.Ytmgieahachphmaa
