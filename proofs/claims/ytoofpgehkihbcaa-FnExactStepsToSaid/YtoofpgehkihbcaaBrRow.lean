/-
  Branches as cells; a text out of bytes.
-/
import Derived.Test.YtoofpgehkihbcaaLimb
import Derived.Test.YtoofpgehkihbcaaPut
import Derived.Laws.IdiomStrings
import Derived.Laws.BytesArg
namespace Go.Proofs.Ytoofpgehkihbcaa
open Go.RowKit
set_option linter.unusedVariables false

/-- the cells of branches -/
def brc : List Br → List Value
  | [] => []
  | d :: t => .string (bx d.l) :: .int .i64 d.p :: .bool d.e :: brc t

theorem brc_app : ∀ s t : List Br, brc (s ++ t) = brc s ++ brc t
  | [], t => rfl
  | d :: s, t => by simp only [List.cons_append, brc]; rw [brc_app s t]
theorem brc_len : ∀ t : List Br, (brc t).length = t.length * 3
  | [] => rfl
  | d :: t => by simp only [brc, List.length_cons]; rw [brc_len t]; omega
theorem brc_at : ∀ {t : List Br} {i : Nat} {d : Br}, t[i]? = some d → (brc t)[i * 3]? = some (.string (bx d.l)) ∧ (brc t)[i * 3 + 1]? = some (.int .i64 d.p) ∧ (brc t)[i * 3 + 2]? = some (.bool d.e)
  | [], i, d, h => by simp at h
  | a :: t, 0, d, h => by
    simp at h
    subst h
    simp [brc]
  | a :: t, i + 1, d, h => by
    have := brc_at (t := t) (i := i) (d := d) (by simpa using h)
    have e : (i + 1) * 3 = i * 3 + 3 := by omega
    rw [e]
    simpa [brc] using this
theorem brc_one : ∀ (t : List Br), ∀ u ∈ brc t, u.oneCell' = true
  | [], u, h => by cases h
  | d :: t, u, h => by
    simp only [brc, List.mem_cons] at h
    rcases h with rfl | rfl | rfl | h
    · rfl
    · rfl
    · rfl
    · exact brc_one t u h
theorem take_br {t : List Br} {j : Nat} {d : Br} (h : t[j]? = some d) : t.take (j + 1) = t.take j ++ [d] := by
  obtain ⟨hj, e⟩ := List.getElem?_eq_some_iff.1 h
  rw [List.take_succ_eq_append_getElem hj, e]

theorem infoBr : (Try.prog.info? 52).map (fun i => (i.zero, i.size, i.bytes)) = some (some (.agg #[.string ByteArray.empty, .int .i64 0, .bool false]), 3, 32) := by kernel_rfl

/-- bytes read as a text -/
theorem conv_bts {w : World} {v : Value} {x : Txt} (h : Bts w v x) : (convert 63 9 v).run Try.prog w = .ok (.string (bx x)) w := by
  rcases h with ⟨rfl, rfl⟩ | ⟨b, o, c, cs, m, rfl, hb, hc, hm, hat⟩
  · exact run_convert_bytes_nil w 63 5 Try.underlying63 Try.underlying5 0 0 _ Try.underlying9
  · exact run_convert_bytes_back w 63 9 5 ⟨b, o, none⟩ c x Try.underlying63 Try.underlying5 Try.underlying9 (fun j hj => by
      have hadd : (Addr.add ⟨b, o, none⟩ j) = ⟨b, o + j, none⟩ := by cases j <;> simp [Addr.add]
      rw [hadd]
      have := hat j x[j] (List.getElem?_eq_getElem hj)
      simp [World.cell?, hb, this])

theorem KeptB.rowT {w w' : World} {base n size : Nat} {e : TypeId} {v : Value} {xs : List Value} (he : e ≠ 5) (h : w.ownsRow base e size v n xs) (hg : w.grownBy w' v.ownBlock) : KeptB w w' := fun b cs m hb => by
  have hl := (Array.getElem?_eq_some_iff.1 hb).1
  refine (hg.block b hl fun hh => ?_).trans hb
  rcases h.2 with ⟨rfl, _⟩ | ⟨g, cap, cur, rfl, _, hgg, _⟩
  · cases hh
  · obtain rfl := Option.some.inj hh
    rw [hb] at hgg
    have := Option.some.inj hgg
    simp at this
    exact he this.2.1.symm

/-- limbs stay while a row of branches is made above them -/
theorem Limbs.grew {base bT n : Nat} {w w2 : World} {qs : List Txt} {en : Txt → Bool} {A : Txt → Nat} {V : Txt → Value} {v v2 : Value} {xs : List Value} (h : Limbs base w qs en A V) (hA : ∀ x ∈ qs, A x < bT) (hV : ∀ x ∈ qs, ∀ k, (V x).ownBlock = some k → k < bT) (hb : bT ≤ w.heap.size)
    (hown : w.ownsRow bT 52 3 v n xs) (hg : Grew w w2 v v2) : Limbs base w2 qs en A V :=
  h.keep (fun x hx => (hg.to hown hb).block _ (hA x hx)) (fun x hx k hk => (hg.to hown hb).block _ (hV x hx k hk)) (KeptB.rowT (by decide) hown hg.grown)

end Go.Proofs.Ytoofpgehkihbcaa
