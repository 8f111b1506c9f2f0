/-
  Which nodes of a trie stay, and what a pressed tree tells: plain mathematics.
-/
import Derived.Test.YtoofpgehkihbcaaPrN

import Derived.Test.YtoofpgehkihbcaaKids
namespace Go.Proofs.Ytoofpgehkihbcaa
set_option linter.unusedVariables false

theorem kidsTo_up {t : List Nd} {i : Nat} : ∀ k, (kidsTo t i k).Pairwise (fun a b => a < b)
  | 0 => List.Pairwise.nil
  | k + 1 => by
    unfold kidsTo
    refine List.pairwise_append.2 ⟨kidsTo_up k, ?_, fun a ha b hb => ?_⟩
    · cases t[k]? with
      | none => exact List.Pairwise.nil
      | some d => simp only; split <;> simp
    · have h1 := (mem_kidsTo.1 ha).1
      cases ht : t[k]? with
      | none => rw [ht] at hb; cases hb
      | some d =>
        rw [ht] at hb
        simp only at hb
        split at hb
        · rw [List.mem_singleton.1 hb]; exact h1
        · cases hb

theorem kid_mem {t : List Nd} {ps : List Txt} (h : Tells t t.length ps) {i m : Nat} {x : Txt} {c : UInt8} (hx : ps[i]? = some x) (hm : ps[m]? = some (x ++ [c])) : m ∈ kidsTo t i t.length := by
  have hl : m < t.length := by have := h.len; have := (List.getElem?_eq_some_iff.1 hm).1; omega
  have him : i < m := asc_pos h.asc hx hm (bef_longer x (by simp))
  have hd : t[m]? = some t[m] := List.getElem?_eq_getElem hl
  exact mem_kidsTo.2 ⟨hl, him, _, hd, (par_iff h hx (by omega) hd).2 ⟨c, hm⟩⟩

/-- a node behind the first stays exactly if it ends a word or has not just one kid -/
theorem stay_iff {t : List Nd} {ps : List Txt} (h : Valid t ps) {i : Nat} {d : Nd} {x : Txt} (hi : 1 ≤ i) (hd : t[i]? = some d) (hx : ps[i]? = some x) :
    (d.e = true ∨ (kidsTo t i t.length).length ≠ 1) ↔ St (wds t ps) x := by
  have hpre := h.pre
  have hT := h.tells
  have hin : ∀ z u, u ∈ wds t ps → z <+: u → z ∈ ps := fun z u hu hp => (hpre.mem z).2 (.inr ⟨u, hu, hp⟩)
  have hend : d.e = true ↔ x ∈ wds t ps := by
    rw [mem_wds]
    constructor
    · intro he; exact ⟨i, d, hd, hx, he⟩
    · rintro ⟨j, d', h1, h2, h3⟩
      have := asc_inj hT.asc h2 hx
      subst this
      rw [hd] at h1
      rw [Option.some.inj h1]; exact h3
  have hxne : x ≠ [] := by
    rintro rfl
    have := asc_inj hT.asc hx hT.nil
    omega
  constructor
  · rintro (he | hk)
    · exact st_word (hend.1 he)
    · by_cases he : x ∈ wds t ps
      · exact st_word he
      · obtain ⟨j, y, dj, hy, hdj, hje, hp⟩ := h.word i x hi hx
        have hyw : y ∈ wds t ps := mem_wds.2 ⟨j, dj, hdj, hy, hje⟩
        have hne : x ≠ y := by rintro rfl; exact he hyw
        obtain ⟨c, hc⟩ := pre_next hp hne
        obtain ⟨m, hm⟩ := mem_at (hin _ y hyw hc)
        have hmk := kid_mem hT hx hm
        match hl : kidsTo t i t.length with
        | [] => rw [hl] at hmk; cases hmk
        | [a] => rw [hl] at hk; simp at hk
        | a :: b :: r =>
          have hpw := kidsTo_up (t := t) (i := i) t.length
          rw [hl] at hpw
          have hab : a < b := (List.pairwise_cons.1 hpw).1 b (by simp)
          have ha : a ∈ kidsTo t i t.length := by rw [hl]; simp
          have hb : b ∈ kidsTo t i t.length := by rw [hl]; simp
          obtain ⟨al, ai, da, hda, hpa⟩ := mem_kidsTo.1 ha
          obtain ⟨bl, bi, db, hdb, hpb⟩ := mem_kidsTo.1 hb
          obtain ⟨c1, k1⟩ := (par_iff hT hx (by omega) hda).1 hpa
          obtain ⟨c2, k2⟩ := (par_iff hT hx (by omega) hdb).1 hpb
          have hcc : c1 ≠ c2 := by
            rintro rfl
            have := asc_inj hT.asc k1 k2
            omega
          have w1 : ∃ u, u ∈ wds t ps ∧ x ++ [c1] <+: u := by
            rcases (hpre.mem _).1 (at_mem k1) with e | ⟨u, hu, hp⟩
            · simp at e
            · exact ⟨u, hu, hp⟩
          have w2 : ∃ u, u ∈ wds t ps ∧ x ++ [c2] <+: u := by
            rcases (hpre.mem _).1 (at_mem k2) with e | ⟨u, hu, hp⟩
            · simp at e
            · exact ⟨u, hu, hp⟩
          obtain ⟨u, hu, hpu⟩ := w1
          obtain ⟨v, hv, hpv⟩ := w2
          refine .inr ⟨u, hu, v, hv, ?_⟩
          have hx1 : x <+: lcp u v := pre_lcp ((List.prefix_append _ _).trans hpu) ((List.prefix_append _ _).trans hpv)
          by_cases e : x = lcp u v
          · exact e.symm
          · exact absurd ((letter_same hpu ((letter_pre hpu (lcp_l _ _) hx1 e).trans (lcp_l _ _))).symm.trans (letter_same hpv ((letter_pre hpu (lcp_l _ _) hx1 e).trans (lcp_r _ _))).symm) (by
              intro e2
              have a1 := (letter_pre hpu (lcp_l _ _) hx1 e).trans (lcp_r u v)
              exact hcc (letter_same a1 hpv))
  · rintro (rfl | ⟨u, hu, v, hv, e⟩)
    · exact absurd rfl hxne
    · by_cases he : x ∈ wds t ps
      · exact .inl (hend.2 he)
      · refine .inr fun hl => ?_
        have hxu : x <+: u := e ▸ lcp_l u v
        have hxv : x <+: v := e ▸ lcp_r u v
        obtain ⟨c1, k1⟩ := pre_next hxu (by rintro rfl; exact he hu)
        obtain ⟨c2, k2⟩ := pre_next hxv (by rintro rfl; exact he hv)
        obtain ⟨m1, hm1⟩ := mem_at (hin _ u hu k1)
        obtain ⟨m2, hm2⟩ := mem_at (hin _ v hv k2)
        have a1 := kid_mem hT hx hm1
        have a2 := kid_mem hT hx hm2
        match hk : kidsTo t i t.length with
        | [] => rw [hk] at hl; simp at hl
        | [a] =>
          rw [hk, List.mem_singleton] at a1 a2
          rw [a1] at hm1
          rw [a2] at hm2
          rw [hm1] at hm2
          have hcc : c1 = c2 := by simpa using hm2
          subst hcc
          have := (pre_lcp k1 k2).length_le
          rw [e] at this
          simp at this
          omega
        | a :: b :: r => rw [hk] at hl; simp at hl

/-- all that stay are prefixes of nodes -/
theorem stl_sub {t : List Nd} {ps : List Txt} (h : Valid t ps) : ∀ x, x ∈ stl (wds t ps) → x ∈ ps := fun x hx => by
  rcases ((stl_sta _).mem x).1 hx with rfl | ⟨u, hu, v, hv, rfl⟩
  · exact at_mem h.tells.nil
  · exact (h.pre.mem _).2 (.inr ⟨u, hu, lcp_l u v⟩)

/-- the first m of those that stay have places before k -/
structure PlTo (ps qs : List Txt) (k m : Nat) : Prop where
  le : m ≤ qs.length
  iff : ∀ (j : Nat) (x : Txt), qs[j]? = some x → (ps.idxOf x < k ↔ j < m)

section
variable {ps qs : List Txt} {k m : Nat}
theorem PlTo.start : PlTo ps qs 0 0 := ⟨Nat.zero_le _, fun j x _ => by omega⟩
theorem PlTo.hit (hp : Asc ps) (hq : Asc qs) (hs : ∀ x, x ∈ qs → x ∈ ps) (h : PlTo ps qs k m) {x : Txt} (hx : ps[k]? = some x) (hm : x ∈ qs) : qs[m]? = some x ∧ PlTo ps qs (k + 1) (m + 1) := by
  obtain ⟨j0, hj0⟩ := mem_at hm
  have hk : ps.idxOf x = k := asc_inj hp (idx_at (at_mem hx)) hx
  have h1 := h.iff j0 x hj0
  have hj : j0 = m := by
    rcases Nat.lt_trichotomy j0 m with c | c | c
    · omega
    · exact c
    · exfalso
      have hl := (List.getElem?_eq_some_iff.1 hj0).1
      obtain ⟨y, hy⟩ : ∃ y, qs[m]? = some y := ⟨_, List.getElem?_eq_getElem (by omega)⟩
      have b := asc_lt hq hy hj0 c
      have := asc_pos hp (idx_at (hs y (at_mem hy))) hx b
      have := (h.iff m y hy).1 this
      omega
  subst hj
  refine ⟨hj0, ⟨(List.getElem?_eq_some_iff.1 hj0).1, fun j z hz => ?_⟩⟩
  have h2 := h.iff j z hz
  by_cases e : j = j0
  · subst e
    rw [hj0] at hz
    rw [← Option.some.inj hz, hk]
    omega
  · have : ps.idxOf z ≠ k := fun e2 => by
      have h3 := idx_at (hs z (at_mem hz))
      rw [e2, hx] at h3
      rw [← Option.some.inj h3] at hz
      exact e (asc_inj hq hz hj0)
    omega
theorem PlTo.miss (hs : ∀ x, x ∈ qs → x ∈ ps) (h : PlTo ps qs k m) {x : Txt} (hx : ps[k]? = some x) (hm : x ∉ qs) : PlTo ps qs (k + 1) m := by
  refine ⟨h.le, fun j z hz => ?_⟩
  have h2 := h.iff j z hz
  have : ps.idxOf z ≠ k := fun e2 => by
    have h3 := idx_at (hs z (at_mem hz))
    rw [e2, hx] at h3
    rw [← Option.some.inj h3] at hz
    exact hm (at_mem hz)
  omega
theorem PlTo.all (hs : ∀ x, x ∈ qs → x ∈ ps) (h : PlTo ps qs ps.length m) : m = qs.length := by
  have h1 := h.le
  by_cases hl : m < qs.length
  · have hx : qs[m]? = some qs[m] := List.getElem?_eq_getElem hl
    have := (h.iff m _ hx).1 (List.idxOf_lt_length_of_mem (hs _ (at_mem hx)))
    omega
  · omega
end

/-- the places of those that stay -/
def plcs (ps qs : List Txt) : List Nat := qs.map fun x => ps.idxOf x

/-- what branches tell: each one's text is that of an earlier one and its letters -/
structure ToldB (p : List Br) (k : Nat) (qs : List Txt) : Prop where
  len : qs.length = k
  le : k ≤ p.length
  nil : 0 < k → qs[0]? = some []
  step : ∀ (i : Nat) (d : Br), 1 ≤ i → i < k → p[i]? = some d → IsW d.l ∧ ∃ (j : Nat) (x : Txt), d.p = (j : Int) ∧ j < i ∧ qs[j]? = some x ∧ qs[i]? = some (x ++ d.l)

theorem told_uniq {p : List Br} {k m : Nat} {qs rs : List Txt} (h : ToldB p k qs) (g : ToldB p m rs) : ∀ i, i < k → i < m → qs[i]? = rs[i]? := by
  intro i
  induction i using Nat.strongRecOn with
  | ind i ih =>
    intro hk hm
    by_cases h0 : i = 0
    · subst h0; rw [h.nil hk, g.nil hm]
    · have hil : i < p.length := by have := h.le; omega
      have hd : p[i]? = some p[i] := List.getElem?_eq_getElem hil
      obtain ⟨_, j, x, e1, e2, e3, e4⟩ := h.step i _ (by omega) hk hd
      obtain ⟨_, j', x', f1, f2, f3, f4⟩ := g.step i _ (by omega) hm hd
      have ej : j = j' := by omega
      subst ej
      have := ih j e2 (by omega) (by omega)
      rw [e3, f3] at this
      rw [e4, f4, Option.some.inj this]

/-- the texts of the branches that end a word -/
def wdb : List Br → List Txt → List Txt
  | d :: t, x :: ps => if d.e then x :: wdb t ps else wdb t ps
  | [], _ => []
  | _, [] => []

theorem wdb_app : ∀ (t u : List Br) (ps rs : List Txt), ps.length = t.length → wdb (t ++ u) (ps ++ rs) = wdb t ps ++ wdb u rs
  | [], u, ps, rs, h => by cases ps with
    | nil => simp [wdb]
    | cons a b => simp at h
  | d :: t, u, [], rs, h => by simp at h
  | d :: t, u, y :: ps, rs, h => by
    have := wdb_app t u ps rs (by simpa using h)
    simp only [List.cons_append, wdb]
    split <;> simp [this]

theorem wdb_brs (qs : List Txt) (en : Txt → Bool) : ∀ (l : List Txt), wdb (l.map (brOf qs en)) l = l.filter en
  | [] => by simp [wdb]
  | x :: r => by
    simp only [List.map_cons, wdb, brOf, List.filter_cons]
    rw [wdb_brs qs en r]

theorem wdb_prs {ws : List Txt} (ha : Asc ws) : wdb (prw ws) (stl ws) = ws := by
  unfold prw brs
  rw [wdb_brs]
  refine asc_ext (asc_filter _ (stl_sta ws).asc) ha fun x => ?_
  rw [List.mem_filter, decide_eq_true_eq]
  exact ⟨fun h => h.2, fun h => ⟨(stl_sta ws).words h, h⟩⟩

theorem isW_pre {x y : Txt} (h : IsW y) (hp : x <+: y) : IsW x := ⟨Nat.le_trans hp.length_le h.1, fun c hc => h.2 c (hp.subset hc)⟩
theorem isW_suf {x y : Txt} (h : IsW y) (hp : x <:+ y) : IsW x := ⟨Nat.le_trans hp.length_le h.1, fun c hc => h.2 c (hp.subset hc)⟩
theorem isW_nil : IsW [] := ⟨by simp, fun c hc => by cases hc⟩

theorem stl_isW {ws : List Txt} (hw : ∀ w ∈ ws, IsW w) : ∀ x ∈ stl ws, IsW x := fun x hx => by
  rcases ((stl_sta ws).mem x).1 hx with rfl | ⟨u, hu, v, hv, rfl⟩
  · exact isW_nil
  · exact isW_pre (hw u hu) (lcp_l u v)

theorem told_prs {ws : List Txt} (hw : ∀ w ∈ ws, IsW w) : ToldB (prw ws) (prw ws).length (stl ws) := by
  have hs := stl_sta ws
  refine ⟨(prw_len ws).symm, Nat.le_refl _, fun _ => hs.zero, fun i d h1 h2 hd => ?_⟩
  have hl : i < (stl ws).length := by rw [← prw_len]; exact h2
  have hx : (stl ws)[i]? = some (stl ws)[i] := List.getElem?_eq_getElem hl
  obtain ⟨y, hy⟩ : ∃ y, (stl ws)[i] = y := ⟨_, rfl⟩
  rw [hy] at hx
  have hd2 : (prw ws)[i]? = some (brOf (stl ws) (fun x => decide (x ∈ ws)) y) := brs_at hx
  rw [hd] at hd2
  obtain rfl := Option.some.inj hd2
  have hne : y ≠ [] := by
    rintro rfl
    have := asc_inj hs.asc hx hs.zero
    omega
  have hk := up_kd hs.root (at_mem hx) hne
  obtain ⟨j, hj⟩ := mem_at hk.1
  rw [brOf_kid hs.asc hs.root hj hk]
  refine ⟨isW_suf (stl_isW hw y (at_mem hx)) (List.drop_suffix _ _), j, _, rfl, asc_pos hs.asc hj hx (bef_pre hk.2.2.1 hk.2.2.2.1), hj, ?_⟩
  rw [hx]
  congr 1
  obtain ⟨u, hu⟩ : ∃ u, up (stl ws) y = u := ⟨_, rfl⟩
  have hp := hk.2.2.1
  rw [hu] at hp ⊢
  obtain ⟨r, rfl⟩ := hp
  simp

/-- a pressed tree is valid -/
def IsP (p : List Br) : Prop := ∃ ws, Asc ws ∧ (∀ w ∈ ws, IsW w) ∧ ws.length ≤ 40 ∧ p = prw ws

theorem prw_inj {ws us : List Txt} (ha : Asc ws) (hb : Asc us) (hw : ∀ w ∈ ws, IsW w) (hu : ∀ w ∈ us, IsW w) (h : prw ws = prw us) : ws = us := by
  have h1 := told_prs hw
  have h2 := told_prs hu
  rw [← h] at h2
  have e : stl ws = stl us := by
    apply List.ext_getElem?
    intro i
    by_cases hi : i < (prw ws).length
    · exact told_uniq h1 h2 i hi hi
    · rw [List.getElem?_eq_none (by rw [h1.len]; omega), List.getElem?_eq_none (by rw [h2.len]; omega)]
  rw [← wdb_prs ha, ← wdb_prs hb, h, e]

end Go.Proofs.Ytoofpgehkihbcaa
