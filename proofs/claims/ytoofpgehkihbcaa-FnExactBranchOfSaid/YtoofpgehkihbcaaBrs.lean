/-
  Slices of branches; a pressed tree that comes in, read as branches.
-/
import Derived.Test.YtoofpgehkihbcaaBrRow
import Derived.Test.YtoofpgehkihbcaaOpenAux
namespace Go.Proofs.Ytoofpgehkihbcaa
open Go.ChangeShapes Go.WideShapes Go.Deep Go.RowKit
set_option linter.unusedVariables false

/-- The slice (a, n, c) reads as the branches p, in blocks below B. -/
structure Brs (B : Nat) (w : World) (a : Option Addr) (n c : Nat) (p : List Br) : Prop where
  len : p.length = n
  cap : n ≤ c
  top : c ≤ 9223372036854775807
  spot : ∀ (i : Nat) (d : Br), p[i]? = some d → ∃ b o, a = some ⟨b, o, none⟩ ∧ b < B ∧ w.cell? ⟨b, o + i * 3, none⟩ = some (.string (bx d.l)) ∧ w.cell? ⟨b, o + i * 3 + 1, none⟩ = some (.int .i64 d.p) ∧ w.cell? ⟨b, o + i * 3 + 2, none⟩ = some (.bool d.e)
  rng : ∀ d ∈ p, d.l.length ≤ 9223372036854775807 ∧ -9223372036854775808 ≤ d.p ∧ d.p ≤ 9223372036854775807

theorem Brs.keep {B : Nat} {w w' : World} {a : Option Addr} {n c : Nat} {p : List Br} (h : Brs B w a n c p) (hb : Below B w w') : Brs B w' a n c p :=
  ⟨h.len, h.cap, h.top, fun i d hd => by
    obtain ⟨b, o, ha, hB, h1, h2, h3⟩ := h.spot i d hd
    exact ⟨b, o, ha, hB, (hb.cell (p := ⟨b, o + i * 3, none⟩) hB).trans h1, (hb.cell (p := ⟨b, o + i * 3 + 1, none⟩) hB).trans h2, (hb.cell (p := ⟨b, o + i * 3 + 2, none⟩) hB).trans h3⟩, h.rng⟩

theorem Brs.mono {B B' : Nat} {w : World} {a : Option Addr} {n c : Nat} {p : List Br} (h : Brs B w a n c p) (hb : B ≤ B') : Brs B' w a n c p :=
  ⟨h.len, h.cap, h.top, fun i d hd => by
    obtain ⟨b, o, ha, hB, h1, h2, h3⟩ := h.spot i d hd
    exact ⟨b, o, ha, by omega, h1, h2, h3⟩, h.rng⟩

theorem Brs.elem {B : Nat} {w : World} {a : Option Addr} {n c : Nat} {t : List Br} (h : Brs B w a n c t) (k : Nat) (hk : k < n) :
    ∃ b o l p e, a = some ⟨b, o, none⟩ ∧ b < B ∧ t[k]? = some ⟨tx l, p, e⟩ ∧ l.size ≤ 9223372036854775807 ∧ (-9223372036854775808 ≤ p ∧ p ≤ 9223372036854775807) ∧ w.cell? ⟨b, o + k * 3, none⟩ = some (.string l) ∧ w.cell? ⟨b, o + k * 3 + 1, none⟩ = some (.int .i64 p) ∧ w.cell? ⟨b, o + k * 3 + 2, none⟩ = some (.bool e) := by
  have hl := h.len
  have hs : t[k]? = some t[k] := List.getElem?_eq_getElem (by omega)
  obtain ⟨b, o, ha, hB, h1, h2, h3⟩ := h.spot k _ hs
  have hr := h.rng t[k] (List.getElem_mem _)
  exact ⟨b, o, bx t[k].l, t[k].p, t[k].e, ha, hB, by rw [tx_bx]; exact hs, by rw [bx_size]; exact hr.1, hr.2, h1, h2, h3⟩

/-- what a branch may hold -/
def FitsB (p : List Br) : Prop := ∀ d ∈ p, d.l.length ≤ 9223372036854775807 ∧ -9223372036854775808 ≤ d.p ∧ d.p ≤ 9223372036854775807

theorem own_brs {base : Nat} {w : World} {n c : Nat} {a : Option Addr} {p : List Br} (h : w.ownsRow base 52 3 (.slice a n c) n (brc p)) (hx : FitsB p) : Brs w.heap.size w a n c p := by
  have hl : p.length = n := by have := h.1; rw [brc_len] at this; omega
  rcases h.2 with ⟨e, h0⟩ | ⟨g, cap, cur, e, hb, hg, hnc, hcm, hcs, htake⟩
  · simp only [Value.slice.injEq] at e
    obtain ⟨rfl, rfl, rfl⟩ := e
    exact ⟨hl, Nat.le_refl _, by omega, fun i d hd => by have := (List.getElem?_eq_some_iff.1 hd).1; omega, hx⟩
  · simp only [Value.slice.injEq] at e
    obtain ⟨rfl, _, rfl⟩ := e
    refine ⟨hl, hnc, by unfold maxLen at hcm; exact hcm, fun i d hd => ?_, hx⟩
    have hi := (List.getElem?_eq_some_iff.1 hd).1
    obtain ⟨e1, e2, e3⟩ := brc_at hd
    refine ⟨g, 0, rfl, (Array.getElem?_eq_some_iff.1 hg).1, ?_, ?_, ?_⟩
    · rw [Nat.zero_add, h.cellAt (i * 3) (by omega)]; exact e1
    · rw [Nat.zero_add, h.cellAt (i * 3 + 1) (by omega)]; exact e2
    · rw [Nat.zero_add, h.cellAt (i * 3 + 2) (by omega)]; exact e3

set_option maxRecDepth 1000000 in
theorem open_pressed {H : Type} {enc : TypeId × Value → H} {W : World} {b0 : Nat} {v : Value} {d : DataW H} {p : List MemPlace} (hv : Value.okWide Try.prog W .any b0 24 v) (h : DataW.Trod enc Try.prog W 0 (fun _ => true) true 24 v d p) :
    ∃ a n c t, v = .agg #[.slice a n c] ∧ n ≤ maxLen ∧ Brs W.heap.size W a n c t := by
  obtain ⟨cs, rfl, hsz⟩ := okWide_struct Try.underlying24 hv
  have hC : Try.prog.cellsOf 24 = 1 := by kernel_rfl
  obtain ⟨ls⟩ := cs
  match ls, hsz.trans hC with
  | [c0], _ =>
    obtain ⟨fuel, hf⟩ := h
    obtain ⟨xs, n0, _, hx, _, hlen, hg⟩ := DataW.trod_struct Try.underlying24 hf
    have h0 := hg 0 _ rfl
    have k0 : Try.prog.cellsOf 22 = 1 := by kernel_rfl
    match xs, hlen with
    | [y0], _ =>
      have h1 : DataW.trod enc Try.prog W 0 (fun _ => true) true n0 22 [c0] = some y0 := by simpa [Value.cells, k0] using h0
      have k3 : Try.prog.cellsOf 71 = 3 := by kernel_rfl
      have ki : Try.prog.cellsOf 3 = 1 := by kernel_rfl
      have ks : Try.prog.cellsOf 9 = 1 := by kernel_rfl
      have kb : Try.prog.cellsOf 4 = 1 := by kernel_rfl
      rcases open_slice Try.underlying22 h1 with ⟨hcs, _⟩ | ⟨a, len, cap, m, n1, D, Pl, hcs, hb, hl, hm, hmm, _, hi⟩
      · obtain rfl : c0 = .slice none 0 0 := by simpa using hcs
        exact ⟨none, 0, 0, [], rfl, by unfold maxLen; omega, ⟨rfl, Nat.le_refl _, by omega, fun i d h => by simp at h, fun d h => by simp at h⟩⟩
      · obtain rfl : c0 = .slice (some a) len cap := by simpa using hcs
        have hm' : m = cap := by simpa using hmm
        subst hm'
        rw [k3] at hi
        have each : ∀ i, i < len → ∃ d : Br, (W.cell? ((a.add (i * 3)).add 0) = some (.string (bx d.l)) ∧ W.cell? ((a.add (i * 3)).add 1) = some (.int .i64 d.p) ∧ W.cell? ((a.add (i * 3)).add 2) = some (.bool d.e)) ∧ d.l.length ≤ 9223372036854775807 ∧ -9223372036854775808 ≤ d.p ∧ d.p ≤ 9223372036854775807 := by
          intro i hlt
          obtain ⟨cs', hc, ht⟩ := hi i (by omega)
          obtain ⟨_, hcl, hat⟩ := World.cells?_some hc
          obtain ⟨ys, n2, _, _, _, hyl, hf2⟩ := DataW.trod_struct Try.underlying71 ht
          match cs', hcl with
          | [u0, u1, u2], _ =>
            match ys, hyl with
            | [z0, z1, z2], _ =>
              have f0 := hf2 0 _ rfl
              have f1 := hf2 1 _ rfl
              have f2 := hf2 2 _ rfl
              have f0' : DataW.trod enc Try.prog W 0 (fun _ => true) true n2 9 [u0] = some z0 := by simpa [ks] using f0
              have f1' : DataW.trod enc Try.prog W 0 (fun _ => true) true n2 3 [u1] = some z1 := by simpa [ki] using f1
              have f2' : DataW.trod enc Try.prog W 0 (fun _ => true) true n2 4 [u2] = some z2 := by simpa [kb] using f2
              obtain ⟨l, e0, _, w0⟩ := DataW.trod_string Try.underlying9 f0'
              obtain ⟨q, e1, _, w1⟩ := DataW.trod_int Try.underlying3 f1'
              obtain ⟨e, e2, _⟩ := DataW.trod_bool Try.underlying4 f2'
              simp only [List.cons.injEq, and_true] at e0 e1 e2
              subst e0 e1 e2
              exact ⟨⟨tx l, q, e⟩, ⟨by rw [hat 0 (by omega), bx_tx]; rfl, by rw [hat 1 (by omega)]; rfl, by rw [hat 2 (by omega)]; rfl⟩, by rw [tx_len]; unfold maxLen at w0; exact w0, wf_i64 w1⟩
        obtain ⟨t, htl, ht⟩ := list_of len each
        refine ⟨some a, len, m, t, rfl, by omega, ⟨htl, hl, by unfold maxLen at hm; omega, fun i d hd => ?_, fun d hd => ?_⟩⟩
        · obtain ⟨⟨g0, g1, g2⟩, _⟩ := ht i d hd
          obtain ⟨b, o, sp⟩ := a
          have hsp : sp = none := by
            have hl0 : 0 < len := by have := (List.getElem?_eq_some_iff.1 hd).1; omega
            obtain ⟨d0, ⟨g9, _, _⟩, _⟩ := each 0 hl0
            have := World.cell?_spot g9
            simpa [Addr.add] using this
          subst hsp
          rw [addr_add, addr_add] at g0 g1 g2
          exact ⟨b, o, rfl, World.block_lt_of_cell? W _ g0, by simpa using g0, g1, g2⟩
        · obtain ⟨i, hi', e⟩ := List.mem_iff_getElem.1 hd
          exact (ht i d (by rw [List.getElem?_eq_getElem hi', e])).2

end Go.Proofs.Ytoofpgehkihbcaa
