/-
  A copy of a slice of nodes: slices.Clone.
-/
import Derived.Test.YtoofpgehkihbcadLawNds
import Derived.WalkSpells
namespace Go.Proofs.Ytoofpgehkihbcad
open Go.RowKit
set_option linter.unusedVariables false

theorem ndc_three : ∀ {t : List Nd} {j : Nat} {u : Value}, (ndc t)[j]? = some u → ∃ i d, t[i]? = some d ∧ ((j = i * 3 ∧ u = .int .i64 d.l) ∨ (j = i * 3 + 1 ∧ u = .int .i64 d.p) ∨ (j = i * 3 + 2 ∧ u = .bool d.e))
  | [], j, u, h => by simp [ndc] at h
  | d :: t, 0, u, h => ⟨0, d, rfl, .inl ⟨rfl, by simpa [ndc] using h.symm⟩⟩
  | d :: t, 1, u, h => ⟨0, d, rfl, .inr (.inl ⟨rfl, by simpa [ndc] using h.symm⟩)⟩
  | d :: t, 2, u, h => ⟨0, d, rfl, .inr (.inr ⟨rfl, by simpa [ndc] using h.symm⟩)⟩
  | d :: t, j + 3, u, h => by
    obtain ⟨i, d', h1, h2⟩ := ndc_three (t := t) (j := j) (u := u) (by simpa [ndc] using h)
    refine ⟨i + 1, d', by simpa using h1, ?_⟩
    rcases h2 with ⟨e, e2⟩ | ⟨e, e2⟩ | ⟨e, e2⟩
    · exact .inl ⟨by omega, e2⟩
    · exact .inr (.inl ⟨by omega, e2⟩)
    · exact .inr (.inr ⟨by omega, e2⟩)

theorem nds_cells {B b o n c : Nat} {w : World} {t : List Nd} (h : Nds B w (some ⟨b, o, none⟩) n c t) : ∀ (j : Nat) (u : Value), (ndc t)[j]? = some u → w.cell? ((⟨b, o, none⟩ : Addr).add j) = some u := fun j u hu => by
  obtain ⟨i, d, h1, h2⟩ := ndc_three hu
  obtain ⟨b', o', e, _, c1, c2, c3⟩ := h.spot i d h1
  simp only [Option.some.injEq, Addr.mk.injEq] at e
  obtain ⟨rfl, rfl, _⟩ := e
  have ea : (⟨b, o, none⟩ : Addr).add j = ⟨b, o + j, none⟩ := by cases j <;> simp [Addr.add]
  rw [ea]
  rcases h2 with ⟨e, rfl⟩ | ⟨e, rfl⟩ | ⟨e, rfl⟩
  · rw [e]; exact c1
  · rw [e]; exact c2
  · rw [e]; exact c3

set_option maxRecDepth 1000000 in
set_option maxHeartbeats 1000000 in
theorem cloneNodes_any (B b o n c : Nat) (t : List Nd) (w : World) (hB : B ≤ w.heap.size) (h : Nds B w (some ⟨b, o, none⟩) n c t) (hn : n ≤ 1048576) :
    Calls Try.prog 32 #[.slice (some ⟨b, o, none⟩) n c] w fun e w' => ∃ v, e = .returned v ∧ w'.ownsRow w.heap.size 52 3 v n (ndc t) ∧ Below w.heap.size w w' := by
  have HB1 : Hid (Below w.heap.size w (w.alloc (.cells #[] 52))) := Lib.hid ((Below.refl _ _).alloc (Nat.le_refl _) _)
  have HO := Lib.hid (World.ownsRow_lit (base := w.heap.size) (e := 52) (size := 3) w #[] 0 (Nat.le_refl _) (by unfold maxLen; omega) rfl)
  have HC := Lib.hid (nds_cells (h.keep (HB1.out.mono hB)))
  have HL := Lib.hid (show (ndc t).length = n * 3 by rw [ndc_len, h.len])
  have C := h.cap
  have T := h.top
  have h1 := ndc_one t
  have HOne := Lib.hid h1
  clear h hB h1
  obtain ⟨i0, hi, hz0, hz1, hz2⟩ := info_parts infoN
  have hnil := fun (w : World) => Lib.run_eql_slice_nil w 28 52 (some ⟨b, o, none⟩) n c 0 0 Try.underlying28
  go_enter Try.func32, Try.ntmps32
  go_wp2_with (at_builtin; refine wpList_append_own_at _ rfl _ _ 28 rfl w.heap.size 52 i0 (.agg #[.int .i64 0, .int .i64 0, .bool false]) 3 24 Try.underlying28 hi hz0 hz1 hz2 rfl (by decide) _ _ _ rfl HO.out ⟨b, o, none⟩ n c (ndc t) rfl HL.out HC.out HOne.out (by unfold maxLen; omega) (by omega) (by simp) ?_; intro v2 w2 hO2 hg2 _ _; have HO2 := Lib.hid hO2; have HB2 := Lib.hid ((HB1.out.grown hg2 (by simp) (fun q hq => by cases hq; exact Nat.le_refl _))); clear hO2 hg2)
  go_ret
  refine ⟨_, rfl, ?_, HB2.out⟩
  have := HO2.out
  simpa using this

end Go.Proofs.Ytoofpgehkihbcad
