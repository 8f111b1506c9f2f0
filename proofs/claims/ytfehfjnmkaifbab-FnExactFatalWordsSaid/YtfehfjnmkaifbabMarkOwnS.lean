/-
  The laws' comparisons and marks on lists of texts that a call owns.
-/
import Derived.Test.YtfehfjnmkaifbabPutW
import Derived.Test.YtfehfjnmkaifbabMarkS
namespace Go.Proofs.Ytfehfjnmkaifbab.ownS
open Go.RowKit
set_option linter.unusedVariables false

theorem eq_same (B : Nat) (a1 a2 : Option Addr) (n c d : Nat) (xs : List ByteArray) (w : World) (hB : B ≤ w.heap.size) (h1 : Strs B w a1 n c xs) (h2 : Strs B w a2 n d xs) :
    Calls Try.prog 16 #[.slice a1 n c, .slice a2 n d] w fun e w' => e = .returned (.bool true) ∧ Below w.heap.size w w' := by
  have := eqStringS_any B a1 a2 n c n d xs xs w hB h1 h2
  rwa [decide_eq_true rfl] at this

theorem marks_each (k n : Nat) (h : k + n ≤ 10000000) : ∀ t ∈ marks k n, t.size ≤ 9223372036854775807 := by
  have hm : ∀ (f j : Nat) (m : ByteArray), (mtl f j m).size ≤ m.size + f := by
    intro f
    induction f with
    | zero => intro j m; simp [mtl]
    | succ f ih =>
      intro j m
      rw [mtl]
      by_cases h0 : j = 0
      · rw [if_pos h0]; omega
      · rw [if_neg h0]
        have := ih (j / 10) (strOfNums [48 + (j : Int) % 10] ++ m)
        rw [ByteArray.size_append, strOfNums_size] at this
        simp at this
        omega
  intro t ht
  unfold marks at ht
  obtain ⟨i, hi, rfl⟩ := List.mem_map.1 ht
  simp at hi
  unfold mt
  by_cases h0 : k + i = 0
  · rw [if_pos h0]; show 2 ≤ _; omega
  · rw [if_neg h0, ByteArray.size_append]
    have h1 := hm (k + i) (k + i) ⟨#[]⟩
    have h2 : (⟨#[]⟩ : ByteArray).size = 0 := rfl
    have h3 : (⟨#[109]⟩ : ByteArray).size = 1 := rfl
    omega

/-- a row that a call owns is there with an address of its own, empty or not, or it is nil -/
theorem own_cases {base : Nat} {w : World} {e : TypeId} {size n : Nat} {v : Value} {xs : List Value} (h : w.ownsRow base e size v n xs) : (∃ g c, v = .slice (some ⟨g, 0, none⟩) n c) ∨ (v = .slice none 0 0 ∧ n = 0) := by
  rcases h.2 with ⟨rfl, rfl⟩ | ⟨g, cap, cur, rfl, _⟩
  · exact .inr ⟨rfl, rfl⟩
  · exact .inl ⟨g, cap, rfl⟩

/-- marks on a row that a call owns, nil or not -/
theorem mark_own (base m c : Nat) (a : Option Addr) (xs : List Value) (w : World) (h : w.ownsRow base 9 1 (.slice a m c) m xs) (hbase : base ≤ w.heap.size) (hm : m ≤ 1000) :
    Calls Try.prog 18 #[.slice a m c, .int .i64 ((1 : Nat) : Int)] w fun e w' => e = .returned (.int .i64 ((1 + m : Nat) : Int)) ∧ Strs w'.heap.size w' a m c (marks 1 m) ∧ Below base w w' := by
  rcases own_cases h with ⟨g, c', e⟩ | ⟨e, rfl⟩
  · injection e with e1 _ e2
    subst e1 e2
    refine (markStringS_any base g m c 1 xs w h hbase (by omega) (by omega)).mono ?_
    rintro e w' ⟨rfl, ho, hb⟩
    exact ⟨rfl, strs_of_own ho (marks_each 1 m (by omega)) (own_lt ho), hb⟩
  · injection e with e1 e2 e3
    subst e1 e3
    clear h
    go_enter Try.func18, Try.ntmps18
    go_wp2
    go_loop [1, 5] (fun q i => q = .int .i64 1 ∧ i = .int .i64 0) (fun _ _ => 0)
    case atStart => exact ⟨rfl, rfl⟩
    case round =>
      obtain ⟨rfl, rfl⟩ := hrel
      go_wp2
      go_ret
      exact ⟨rfl, ⟨⟨rfl, Nat.le_refl _, by omega, fun i u hu => by simp [marks] at hu⟩, fun t ht => by simp [marks] at ht⟩, Below.refl _ _⟩

/-- an empty list, newly made -/
theorem own_lit0 {W w : World} (hb : W.heap.size ≤ w.heap.size) : (w.alloc (.cells #[] 9)).ownsRow W.heap.size 9 1 (.slice (some ⟨w.heap.size, 0, none⟩) 0 0) 0 [] :=
  World.ownsRow_lit w #[] 0 hb (by unfold maxLen; omega) rfl

/-- an answer of texts that the call owns -/
def OwnTexts (w : World) (xs : List Txt) (ok : Bool) (e : Ending) (w' : World) : Prop :=
  ∃ v, e = .returned (.tuple #[v, .bool ok]) ∧ w'.ownsRow w.heap.size 9 1 v xs.length (xs.map (fun x => Value.string (bx x))) ∧ Below w.heap.size w w'

end Go.Proofs.Ytfehfjnmkaifbab.ownS
