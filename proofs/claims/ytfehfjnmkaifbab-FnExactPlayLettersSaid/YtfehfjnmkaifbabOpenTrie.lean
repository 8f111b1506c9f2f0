/-
  A trie that comes in, read as nodes.
-/
import Derived.Test.YtfehfjnmkaifbabOpenAux
import Derived.Deep.Slices
import Derived.Deep.Fields
import Derived.ChangeSame
namespace Go.Proofs.Ytfehfjnmkaifbab
open Go.ChangeShapes Go.WideShapes Go.Deep Go.RowKit
set_option linter.unusedVariables false


set_option maxRecDepth 1000000 in
theorem open_trie {H : Type} {enc : TypeId × Value → H} {W : World} {b0 : Nat} {v : Value} {d : DataW H} {p : List MemPlace} (hv : Value.okWide Try.prog W .any b0 24 v) (h : DataW.Trod enc Try.prog W 0 (fun _ => true) true 24 v d p) :
    ∃ a n c t, v = .agg #[.slice a n c] ∧ n ≤ maxLen ∧ Nds W.heap.size W a n c t := by
  obtain ⟨cs, rfl, hsz⟩ := okWide_struct Try.underlying24 hv
  have hC : Try.prog.cellsOf 24 = 1 := by kernel_rfl
  obtain ⟨ls⟩ := cs
  match ls, hsz.trans hC with
  | [c0], _ =>
    obtain ⟨fuel, hf⟩ := h
    obtain ⟨xs, n0, _, hx, _, hlen, hg⟩ := DataW.trod_struct Try.underlying24 hf
    have h0 := hg 0 _ rfl
    have k0 : Try.prog.cellsOf 22 = 1 := by kernel_rfl
    match xs, hlen with
    | [y0], _ =>
      have h1 : DataW.trod enc Try.prog W 0 (fun _ => true) true n0 22 [c0] = some y0 := by simpa [Value.cells, k0] using h0
      have k3 : Try.prog.cellsOf 106 = 3 := by kernel_rfl
      have ki : Try.prog.cellsOf 3 = 1 := by kernel_rfl
      have kb : Try.prog.cellsOf 4 = 1 := by kernel_rfl
      rcases open_slice Try.underlying22 h1 with ⟨hcs, _⟩ | ⟨a, len, cap, m, n1, D, Pl, hcs, hb, hl, hm, hmm, _, hi⟩
      · obtain rfl : c0 = .slice none 0 0 := by simpa using hcs
        exact ⟨none, 0, 0, [], rfl, by unfold maxLen; omega, ⟨rfl, Nat.le_refl _, by omega, fun i d h => by simp at h, fun d h => by simp at h⟩⟩
      · obtain rfl : c0 = .slice (some a) len cap := by simpa using hcs
        have hm' : m = cap := by simpa using hmm
        subst hm'
        rw [k3] at hi
        have each : ∀ i, i < len → ∃ d : Nd, (W.cell? ((a.add (i * 3)).add 0) = some (.int .i64 d.l) ∧ W.cell? ((a.add (i * 3)).add 1) = some (.int .i64 d.p) ∧ W.cell? ((a.add (i * 3)).add 2) = some (.bool d.e)) ∧ (-9223372036854775808 ≤ d.l ∧ d.l ≤ 9223372036854775807) ∧ -9223372036854775808 ≤ d.p ∧ d.p ≤ 9223372036854775807 := by
          intro i hlt
          obtain ⟨cs', hc, ht⟩ := hi i (by omega)
          obtain ⟨_, hcl, hat⟩ := World.cells?_some hc
          obtain ⟨ys, n2, _, _, _, hyl, hf2⟩ := DataW.trod_struct Try.underlying106 ht
          match cs', hcl with
          | [u0, u1, u2], _ =>
            match ys, hyl with
            | [z0, z1, z2], _ =>
              have f0 := hf2 0 _ rfl
              have f1 := hf2 1 _ rfl
              have f2 := hf2 2 _ rfl
              have f0' : DataW.trod enc Try.prog W 0 (fun _ => true) true n2 3 [u0] = some z0 := by simpa [ki] using f0
              have f1' : DataW.trod enc Try.prog W 0 (fun _ => true) true n2 3 [u1] = some z1 := by simpa [ki] using f1
              have f2' : DataW.trod enc Try.prog W 0 (fun _ => true) true n2 4 [u2] = some z2 := by simpa [kb] using f2
              obtain ⟨l, e0, _, w0⟩ := DataW.trod_int Try.underlying3 f0'
              obtain ⟨q, e1, _, w1⟩ := DataW.trod_int Try.underlying3 f1'
              obtain ⟨e, e2, _⟩ := DataW.trod_bool Try.underlying4 f2'
              simp only [List.cons.injEq, and_true] at e0 e1 e2
              subst e0 e1 e2
              exact ⟨⟨l, q, e⟩, ⟨by rw [hat 0 (by omega)]; rfl, by rw [hat 1 (by omega)]; rfl, by rw [hat 2 (by omega)]; rfl⟩, wf_i64 w0, wf_i64 w1⟩
        obtain ⟨t, htl, ht⟩ := list_of len each
        refine ⟨some a, len, m, t, rfl, by omega, ⟨htl, hl, by unfold maxLen at hm; omega, fun i d hd => ?_, fun d hd => ?_⟩⟩
        · obtain ⟨⟨g0, g1, g2⟩, _⟩ := ht i d hd
          obtain ⟨b, o, sp⟩ := a
          have hsp : sp = none := by
            have hl0 : 0 < len := by have := (List.getElem?_eq_some_iff.1 hd).1; omega
            obtain ⟨d0, ⟨g9, _, _⟩, _⟩ := each 0 hl0
            have := World.cell?_spot g9
            simpa [Addr.add] using this
          subst hsp
          rw [addr_add, addr_add] at g0 g1 g2
          exact ⟨b, o, rfl, World.block_lt_of_cell? W _ g0, by simpa using g0, g1, g2⟩
        · obtain ⟨i, hi', e⟩ := List.mem_iff_getElem.1 hd
          exact (ht i d (by rw [List.getElem?_eq_getElem hi', e])).2

end Go.Proofs.Ytfehfjnmkaifbab
