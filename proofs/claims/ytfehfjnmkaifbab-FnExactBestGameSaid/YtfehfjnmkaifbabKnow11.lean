/-
  The game of adding letters: a map from nodes' places to what is known of them.
-/
import Derived.Maps.OwnIn
import Derived.Maps.OwnSet
import Derived.Maps.Ext
import Derived.WalkArith
import Derived.Test.YtfehfjnmkaifbabWays11
import Derived.Test.YtfehfjnmkaifbabNds
namespace Go.Proofs.Ytfehfjnmkaifbab
open Go.RowKit Go.MapKept
set_option linter.unusedVariables false

/-- what is known of a node, as the program holds it -/
def proV (p : Pro) : Value := .agg #[.bool p.wins, .int .i64 ((p.lts : Nat) : Int), .int .i64 ((p.ways : Nat) : Int), .int .i64 ((p.next : Nat) : Int)]
def proD (p : Pro) : DataW Unit := .agg [.lit (.bool p.wins), .lit (.int .i64 ((p.lts : Nat) : Int)), .lit (.int .i64 ((p.ways : Nat) : Int)), .lit (.int .i64 ((p.next : Nat) : Int))]
/-- how it reads -/
def proE : Value → Option (DataW Unit × List MemPlace)
  | .agg ⟨[.bool w, .int .i64 x, .int .i64 y, .int .i64 z]⟩ => some (.agg [.lit (.bool w), .lit (.int .i64 x), .lit (.int .i64 y), .lit (.int .i64 z)], [])
  | _ => none

theorem proE_mk (p : Pro) : proE (proV p) = some (proD p, []) := rfl
theorem proE_inv {v : Value} {p : Pro} {l : List MemPlace} (h : proE v = some (proD p, l)) : v = proV p := by
  unfold proE at h
  split at h
  · unfold proD at h
    simp at h
    obtain ⟨⟨h1, h2, h3, h4⟩, _⟩ := h
    unfold proV
    rw [h1, h2, h3, h4]
  · cases h

/-- block b is a map that has, for just the places that K tells, what f says of them -/
def KnowIs (W : World) (b N : Nat) (f : Nat → Pro) (K : Nat → Bool) : Prop :=
  ∃ D : DataW Unit, W.ownsMap Try.prog 3 proE b ((List.range N).countP K) D ∧ Maps.IsMap D ∧ ∀ p : Nat, p < N → (K p = true → ∀ z, D.atKey (.int .i64 ((p : Nat) : Int)) z = proD (f p)) ∧ (K p = false → ∀ z, D.atKey (.int .i64 ((p : Nat) : Int)) z = z)

theorem KnowIs.lt {W : World} {b N : Nat} {f : Nat → Pro} {K : Nat → Bool} (h : KnowIs W b N f K) : b < W.heap.size := by
  obtain ⟨D, hD, _⟩ := h
  exact hD.lt

theorem KnowIs.kept {W W' : World} {b N : Nat} {f : Nat → Pro} {K : Nat → Bool} (h : KnowIs W b N f K) (hb : W'.heap[b]? = W.heap[b]?) : KnowIs W' b N f K := by
  obtain ⟨D, ⟨es, clock, h1, h2, h3, h4⟩, h5⟩ := h
  exact ⟨D, ⟨es, clock, hb.trans h1, h2, h3, h4⟩, h5⟩

theorem KnowIs.below {W W' : World} {B b N : Nat} {f : Nat → Pro} {K : Nat → Bool} (h : KnowIs W b N f K) (hb : Below B W W') (hB : b < B) : KnowIs W' b N f K := h.kept (hb.block b hB)

theorem KnowIs.made (W : World) (N : Nat) (f : Nat → Pro) : KnowIs (W.alloc (.map #[] 0)) W.heap.size N f (fun _ => false) := by
  refine ⟨.map [], ?_, ⟨_, rfl⟩, fun p _ => ⟨fun h => (by cases h), fun _ z => rfl⟩⟩
  have := World.ownsMap_made (H := Unit) W Try.prog 3 proE
  exact this.mono (Nat.zero_le _)

theorem wfp (p : Nat) (hp : p ≤ 100000) : (Lit.int .i64 ((p : Nat) : Int)).wf = true := WalkArith.wf_i64 (by omega)

theorem keyP (p : Nat) (hp : p ≤ 100000) : keyOf Try.prog 3 (.int .i64 ((p : Nat) : Int)) = some (.int .i64 ((p : Nat) : Int)) := Maps.keyOf_int_mk Try.underlying3 (wfp p hp)

theorem zeroPro (W : World) : (zeroValue 56).run Try.prog W = .ok (proV ⟨false, 0, 0, 0⟩) W := by kernel_rfl

theorem KnowIs.look {W : World} {b N : Nat} {f : Nat → Pro} {K : Nat → Bool} (h : KnowIs W b N f K) (p : Nat) (hp : p < N) (hN : N ≤ 1000) :
    (Instr.lookup 59 (.map (some b)) (.int .i64 ((p : Nat) : Int)) true).run Try.prog W = .ok (.tuple #[proV (if K p = true then f p else ⟨false, 0, 0, 0⟩), .bool (K p)]) W := by
  obtain ⟨D, hD, hM, h5⟩ := h
  obtain ⟨v, ps, hr, hv⟩ := hD.look_ok (Maps.int_keyed Try.underlying3) Try.underlying59 (zeroPro W) (proE_mk ⟨false, 0, 0, 0⟩) (keyP p (by omega))
  cases hk : K p with
  | true =>
    have h6 := (h5 p hp).1 hk
    rw [h6] at hv
    rw [Maps.has_true_of_atKey h6] at hr
    rw [hr, if_pos rfl, proE_inv hv]
  | false =>
    have h6 := (h5 p hp).2 hk
    rw [h6] at hv
    rw [Maps.has_false_of_atKey h6] at hr
    rw [hr, if_neg (by simp), proE_inv hv]

theorem count_more {K : Nat → Bool} {p : Nat} (hk : K p = false) : ∀ N, (p < N → (List.range N).countP K + 1 ≤ (List.range N).countP fun q => K q || decide (q = p)) ∧ (List.range N).countP K ≤ (List.range N).countP fun q => K q || decide (q = p)
  | 0 => ⟨fun h => by omega, Nat.le_refl _⟩
  | N + 1 => by
    obtain ⟨h1, h2⟩ := count_more hk N
    rw [List.range_succ, List.countP_append, List.countP_append, List.countP_singleton, List.countP_singleton]
    by_cases e : N = p
    · subst e
      rw [hk]
      simp
      omega
    · have e2 : (K N || decide (N = p)) = K N := by simp [e]
      rw [e2]
      refine ⟨fun h => ?_, by omega⟩
      have := h1 (by omega)
      omega

theorem count_le {K : Nat → Bool} (N : Nat) : (List.range N).countP K ≤ N := by
  have := List.countP_le_length (p := K) (l := List.range N)
  simpa using this

theorem KnowIs.update {W : World} {b N : Nat} {f : Nat → Pro} {K : Nat → Bool} (h : KnowIs W b N f K) (p : Nat) (hp : p < N) (hN : N ≤ 1000) (hk : K p = false) :
    ∃ W', (Instr.mapUpdate 59 (.map (some b)) (.int .i64 ((p : Nat) : Int)) (proV (f p))).run Try.prog W = .ok () W' ∧ KnowIs W' b N f (fun q => K q || decide (q = p)) ∧ W.grownBy W' (some b) := by
  obtain ⟨D, hD, hM, h5⟩ := h
  have hc := count_le (K := K) N
  obtain ⟨W', hr, hO, hg⟩ := hD.update (Maps.int_keyed Try.underlying3) Try.underlying59 (by unfold maxLen; omega) (keyP p (by omega)) (proE_mk (f p))
  refine ⟨W', hr, ⟨_, hO.mono ((count_more hk N).1 hp), hM.put _ _, fun q hq => ?_⟩, hg⟩
  by_cases e : q = p
  · subst e
    refine ⟨fun _ z => ?_, fun h => ?_⟩
    · rw [Maps.atKey_put_same hM (by simp [WideAt.IsKeyLit])]
    · simp at h
  · have h6 : ∀ z, (D.put (.int .i64 ((p : Nat) : Int)) (proD (f p))).atKey (.int .i64 ((q : Nat) : Int)) z = D.atKey (.int .i64 ((q : Nat) : Int)) z := fun z => Maps.atKey_put_other (by intro h; injection h with _ h; exact e (by omega)) _ z
    refine ⟨fun hm z => ?_, fun hm z => ?_⟩
    · rw [h6, (h5 q hq).1 (by simpa [e] using hm) z]
    · rw [h6, (h5 q hq).2 (by simpa [e] using hm) z]

theorem grown_trans {A B C : World} {b : Nat} (h : A.grownBy B (some b)) (k : B.grownBy C (some b)) : A.grownBy C (some b) := ⟨k.os.trans h.os, k.tape.trans h.tape, k.output.trans h.output, Nat.le_trans h.size k.size, fun i hi hb => (k.block i (Nat.lt_of_lt_of_le hi h.size) hb).trans (h.block i hi hb)⟩


end Go.Proofs.Ytfehfjnmkaifbab
