/-
  Numbers that are told of what is left of a text from each of its places on, from its end on.
-/
import Derived.Test.YtknoafkgeaibpabMat
import Derived.Test.YtknoafkgeaibpabNumsL
namespace Go.Proofs.Ytknoafkgeaibpab
set_option linter.unusedVariables false

/-- T: the number of a rest, out of the words at its beginning and the numbers behind them; e: that of the empty rest -/
def telv (T : List Nat → (Nat → Int) → Int) (ws : List Txt) (e : Int) : Txt → List Int
  | [] => [e]
  | c :: r => T (Mt ws (c :: r)) (fun j => (telv T ws e r).getD (j - 1) 0) :: telv T ws e r

variable {T : List Nat → (Nat → Int) → Int} {ws : List Txt} {e : Int}

theorem telv_len : ∀ x : Txt, (telv T ws e x).length = x.length + 1
  | [] => rfl
  | c :: r => by rw [telv, List.length_cons, telv_len r, List.length_cons]

theorem telv_drop : ∀ (x : Txt) (k : Nat), k ≤ x.length → telv T ws e (x.drop k) = (telv T ws e x).drop k
  | x, 0, _ => by simp
  | [], k + 1, h => by simp at h
  | c :: r, k + 1, h => by
    rw [List.drop_succ_cons, telv, List.drop_succ_cons]
    exact telv_drop r k (by simpa using h)

theorem telv_step (x : Txt) {k : Nat} (h : k < x.length) : telv T ws e (x.drop k) = T (Mt ws (x.drop k)) (fun j => (telv T ws e (x.drop (k + 1))).getD (j - 1) 0) :: telv T ws e (x.drop (k + 1)) := by
  rw [List.drop_eq_getElem_cons h, telv]

theorem telv_end (x : Txt) : telv T ws e (x.drop x.length) = [e] := by rw [List.drop_length]; rfl

/-- the numbers told so far stand behind zeros -/
def trow (k : Nat) (l : List Int) : List Value := List.replicate k (.int .i64 0) ++ l.map (Value.int .i64)

theorem trow_len (k : Nat) (l : List Int) : (trow k l).length = k + l.length := by simp [trow]
theorem trow_set (k : Nat) (l : List Int) (z : Int) : (trow (k + 1) l).set k (.int .i64 z) = trow k (z :: l) := by
  unfold trow
  rw [List.replicate_succ', List.append_assoc, List.set_append_right _ _ (by simp)]
  simp
theorem trow_at {k j : Nat} {l : List Int} (h : j < l.length) : (trow k l)[k + j]? = some (.int .i64 (l.getD j 0)) := by
  unfold trow
  rw [List.getElem?_append_right (by simp)]
  simp [h]

/-- all words at the beginning of a text stand within it -/
theorem mt_in {x : Txt} {j : Nat} (h : j ∈ Mt ws x) : 1 ≤ j ∧ j ≤ x.length := by
  have := mt_mem.1 h
  exact ⟨this.1, this.2.1⟩

end Go.Proofs.Ytknoafkgeaibpab
