/-
  Nodes that are told by ascending prefixes, and when they are a valid Trie: plain mathematics.
-/
import Derived.Test.YtfehfjnmkaifbabTxt
namespace Go.Proofs.Ytfehfjnmkaifbab
set_option linter.unusedVariables false

structure Nd where
  l : Int
  p : Int
  e : Bool

theorem Nd.eq {a b : Nd} (h1 : a.l = b.l) (h2 : a.p = b.p) (h3 : a.e = b.e) : a = b := by
  cases a; cases b; simp_all

/-- what a node behind the first says of its prefix -/
def Step (ps : List Txt) (i : Nat) (d : Nd) : Prop :=
  ∃ (j : Nat) (x : Txt) (c : UInt8), d.p = (j : Int) ∧ j < i ∧ d.l = (c.toNat : Int) - 97 ∧ 97 ≤ c.toNat ∧ c.toNat ≤ 122 ∧ ps[j]? = some x ∧ ps[i]? = some (x ++ [c])

/-- the first k nodes are those with the prefixes ps, in order -/
structure Tells (t : List Nd) (k : Nat) (ps : List Txt) : Prop where
  len : ps.length = k
  le : k ≤ t.length
  nil : ps[0]? = some []
  root : ∃ e, t[0]? = some ⟨-1, -1, e⟩
  asc : Asc ps
  step : ∀ (i : Nat) (d : Nd), 1 ≤ i → i < k → t[i]? = some d → Step ps i d

theorem Tells.pos {t : List Nd} {k : Nat} {ps : List Txt} (h : Tells t k ps) : 0 < k := by
  have := h.len
  have := (List.getElem?_eq_some_iff.1 h.nil).1
  omega

theorem Tells.at {t : List Nd} {k : Nat} {ps : List Txt} (h : Tells t k ps) {i : Nat} (hi : i < k) : ∃ (d : Nd) (x : Txt), t[i]? = some d ∧ ps[i]? = some x := by
  have := h.len
  have := h.le
  exact ⟨t[i], ps[i], List.getElem?_eq_getElem (by omega), List.getElem?_eq_getElem (by omega)⟩

theorem tells_uniq {t : List Nd} {k m : Nat} {ps qs : List Txt} (h : Tells t k ps) (g : Tells t m qs) : ∀ i, i < k → i < m → ps[i]? = qs[i]? := by
  intro i
  induction i using Nat.strongRecOn with
  | ind i ih =>
    intro hk hm
    by_cases h0 : i = 0
    · subst h0; rw [h.nil, g.nil]
    · obtain ⟨d, x, hd, hx⟩ := h.at hk
      obtain ⟨j, x1, c, hp, hj, hl, c0, c1, e1, e2⟩ := h.step i d (by omega) hk hd
      obtain ⟨j', y1, c', hp', hj', hl', c0', c1', f1, f2⟩ := g.step i d (by omega) hm hd
      have ej : j = j' := by omega
      subst ej
      have := ih j hj (by omega) (by omega)
      rw [e1, f1] at this
      have ec : c = c' := UInt8.toNat_inj.1 (by omega)
      rw [e2, f2, ec, Option.some.inj this]

/-- the root of a row of nodes -/
theorem tells_one {t : List Nd} {e : Bool} (h : t[0]? = some ⟨-1, -1, e⟩) : Tells t 1 [[]] :=
  ⟨rfl, (List.getElem?_eq_some_iff.1 h).1, rfl, ⟨e, h⟩, by simp, fun i d h1 h2 => by omega⟩

/-- a node may be the next -/
def NextOk (ps : List Txt) (k : Nat) (z : Txt) (d : Nd) : Prop :=
  ∃ (j : Nat) (x : Txt) (c : UInt8), d.p = (j : Int) ∧ j < k ∧ d.l = (c.toNat : Int) - 97 ∧ 97 ≤ c.toNat ∧ c.toNat ≤ 122 ∧ ps[j]? = some x ∧ bef z (x ++ [c]) = true

theorem asc_snoc {ps : List Txt} {y : Txt} (h : Asc ps) (hy : ∀ x ∈ ps, bef x y = true) : Asc (ps ++ [y]) :=
  List.pairwise_append.2 ⟨h, by simp, fun a ha b hb => by
    rw [List.mem_singleton] at hb
    rw [hb]; exact hy a ha⟩

theorem asc_last {ps : List Txt} {k : Nat} {z : Txt} (h : Asc ps) (hl : ps.length = k + 1) (hz : ps[k]? = some z) : ∀ x ∈ ps, x = z ∨ bef x z = true := by
  intro x hx
  obtain ⟨i, hi, e⟩ := List.mem_iff_getElem.1 hx
  have hx' : ps[i]? = some x := by rw [List.getElem?_eq_getElem hi, e]
  rcases Nat.lt_or_ge i k with c | c
  · exact .inr (asc_lt h hx' hz c)
  · have : i = k := by omega
    subst this
    rw [hx'] at hz
    exact .inl (Option.some.inj hz)

theorem tells_next {t : List Nd} {k : Nat} {ps : List Txt} {z : Txt} {d : Nd} (h : Tells t k ps) (hz : ps[k - 1]? = some z) (hd : t[k]? = some d) (hn : NextOk ps k z d) :
    ∃ y, Tells t (k + 1) (ps ++ [y]) := by
  obtain ⟨j, x, c, hp, hj, hl, c0, c1, e1, hb⟩ := hn
  have hlen := h.len
  have hpos := h.pos
  refine ⟨x ++ [c], by simp [hlen], by have := (List.getElem?_eq_some_iff.1 hd).1; omega, ?_, h.root, asc_snoc h.asc fun y hy => ?_, fun i d' h1 h2 hd' => ?_⟩
  · rw [List.getElem?_append_left (by omega)]; exact h.nil
  · rcases asc_last h.asc (k := k - 1) (by omega) hz y hy with e | e
    · rw [e]; exact hb
    · exact bef_trans e hb
  · by_cases e : i = k
    · subst e
      rw [hd] at hd'
      obtain rfl := Option.some.inj hd'
      exact ⟨j, x, c, hp, hj, hl, c0, c1, by rw [List.getElem?_append_left (by omega)]; exact e1, by rw [List.getElem?_append_right (by omega)]; simp [hlen]⟩
    · obtain ⟨j', x', c', hp', hj', hl', c0', c1', e1', e2'⟩ := h.step i d' h1 (by omega) hd'
      exact ⟨j', x', c', hp', hj', hl', c0', c1', by rw [List.getElem?_append_left (by omega)]; exact e1', by rw [List.getElem?_append_left (by omega)]; exact e2'⟩

theorem tells_nextOk {t : List Nd} {k m : Nat} {ps qs : List Txt} {z : Txt} {d : Nd} (h : Tells t k ps) (g : Tells t m qs) (hkm : k < m) (hz : ps[k - 1]? = some z) (hd : t[k]? = some d) : NextOk ps k z d := by
  have hpos := h.pos
  obtain ⟨j, x, c, hp, hj, hl, c0, c1, e1, e2⟩ := g.step k d (by omega) hkm hd
  have hz' := tells_uniq h g (k - 1) (by omega) (by omega)
  have hx' := tells_uniq h g j (by omega) (by omega)
  exact ⟨j, x, c, hp, hj, hl, c0, c1, by rw [hx', e1], asc_lt g.asc (by rw [← hz', hz]) e2 (by omega)⟩

/-- each prefix is of small letters -/
def Low (x : Txt) : Prop := ∀ c ∈ x, 97 ≤ c.toNat ∧ c.toNat ≤ 122

theorem Tells.low {t : List Nd} {k : Nat} {ps : List Txt} (h : Tells t k ps) : ∀ (i : Nat) (x : Txt), ps[i]? = some x → Low x := by
  intro i
  induction i using Nat.strongRecOn with
  | ind i ih =>
    intro x hx
    by_cases h0 : i = 0
    · subst h0; rw [h.nil] at hx; cases hx; intro c hc; cases hc
    · have hi : i < k := by have := h.len; have := (List.getElem?_eq_some_iff.1 hx).1; omega
      obtain ⟨d, x', hd, hx'⟩ := h.at hi
      obtain ⟨j, y, c, hp, hj, hl, c0, c1, e1, e2⟩ := h.step i d (by omega) hi hd
      rw [e2] at hx
      obtain rfl := Option.some.inj hx
      intro a ha
      rcases List.mem_append.1 ha with ha | ha
      · exact ih j hj y e1 a ha
      · rw [List.mem_singleton] at ha; rw [ha]; exact ⟨c0, c1⟩

/-- how many nodes end a word -/
def ends : List Nd → Nat
  | [] => 0
  | d :: t => ends t + if d.e then 1 else 0

theorem ends_le : ∀ t : List Nd, ends t ≤ t.length
  | [] => Nat.le_refl _
  | d :: t => by have := ends_le t; unfold ends; simp only [List.length_cons]; split <;> omega

theorem ends_app : ∀ s t : List Nd, ends (s ++ t) = ends s + ends t
  | [], t => by simp [ends]
  | d :: s, t => by simp only [List.cons_append, ends]; rw [ends_app s t]; omega

theorem ends_succ {t : List Nd} {i : Nat} {d : Nd} (h : t[i]? = some d) : ends (t.take (i + 1)) = ends (t.take i) + if d.e then 1 else 0 := by
  obtain ⟨hi, e⟩ := List.getElem?_eq_some_iff.1 h
  rw [List.take_succ_eq_append_getElem hi, ends_app, e]
  simp [ends]

/-- the prefixes of the nodes that end a word -/
def wds : List Nd → List Txt → List Txt
  | d :: t, x :: ps => if d.e then x :: wds t ps else wds t ps
  | [], _ => []
  | _, [] => []

theorem mem_wds : ∀ {t : List Nd} {ps : List Txt} {x : Txt}, x ∈ wds t ps ↔ ∃ (i : Nat) (d : Nd), t[i]? = some d ∧ ps[i]? = some x ∧ d.e = true
  | [], _, x => by simp [wds]
  | _ :: _, [], x => by simp [wds]
  | d :: t, y :: ps, x => by
    have ih := mem_wds (t := t) (ps := ps) (x := x)
    have hr : (∃ (i : Nat) (d' : Nd), (d :: t)[i]? = some d' ∧ (y :: ps)[i]? = some x ∧ d'.e = true) ↔ (y = x ∧ d.e = true) ∨ ∃ (i : Nat) (d' : Nd), t[i]? = some d' ∧ ps[i]? = some x ∧ d'.e = true := by
      constructor
      · rintro ⟨i, d', h1, h2, h3⟩
        cases i with
        | zero => simp at h1 h2; subst h1; exact .inl ⟨h2, h3⟩
        | succ i => simp at h1 h2; exact .inr ⟨i, d', h1, h2, h3⟩
      · rintro (⟨h1, h2⟩ | ⟨i, d', h1, h2, h3⟩)
        · exact ⟨0, d, by simp, by simp [h1], h2⟩
        · exact ⟨i + 1, d', by simpa using h1, by simpa using h2, h3⟩
    rw [hr, ← ih, wds]
    by_cases c : d.e = true
    · rw [if_pos c, List.mem_cons]
      constructor
      · rintro (h | h); exact .inl ⟨h.symm, c⟩; exact .inr h
      · rintro (h | h); exact .inl h.1.symm; exact .inr h
    · rw [if_neg c]
      constructor
      · exact .inr
      · rintro (h | h); exact absurd h.2 c; exact h

theorem wds_sub : ∀ (t : List Nd) (ps : List Txt), (wds t ps).Sublist ps
  | [], ps => by simp [wds]
  | _ :: _, [] => by simp [wds]
  | d :: t, y :: ps => by
    unfold wds
    split
    · exact (wds_sub t ps).cons_cons _
    · exact (wds_sub t ps).cons _

theorem wds_len : ∀ (t : List Nd) (ps : List Txt), ps.length = t.length → (wds t ps).length = ends t
  | [], ps, _ => by simp [wds, ends]
  | d :: t, [], h => by simp at h
  | d :: t, y :: ps, h => by
    have := wds_len t ps (by simpa using h)
    unfold wds ends
    split <;> simp [this]

theorem wds_app : ∀ (t u : List Nd) (ps qs : List Txt), ps.length = t.length → wds (t ++ u) (ps ++ qs) = wds t ps ++ wds u qs
  | [], u, ps, qs, h => by cases ps with
    | nil => simp [wds]
    | cons a b => simp at h
  | d :: t, u, [], qs, h => by simp at h
  | d :: t, u, y :: ps, qs, h => by
    have := wds_app t u ps qs (by simpa using h)
    simp only [List.cons_append, wds]
    split <;> simp [this]

theorem wds_succ {t : List Nd} {ps : List Txt} {i : Nat} {d : Nd} {x : Txt} (hl : ps.length = t.length) (h : t[i]? = some d) (hx : ps[i]? = some x) :
    wds (t.take (i + 1)) (ps.take (i + 1)) = wds (t.take i) (ps.take i) ++ if d.e then [x] else [] := by
  obtain ⟨hi, e⟩ := List.getElem?_eq_some_iff.1 h
  obtain ⟨hi', e'⟩ := List.getElem?_eq_some_iff.1 hx
  rw [List.take_succ_eq_append_getElem hi, List.take_succ_eq_append_getElem hi', wds_app _ _ _ _ (by simp; omega), e, e']
  simp [wds]

/-- valid, with these prefixes -/
structure Valid (t : List Nd) (ps : List Txt) : Prop where
  tells : Tells t t.length ps
  short : ∀ x ∈ ps, x.length ≤ 12
  word : ∀ (i : Nat) (x : Txt), 1 ≤ i → ps[i]? = some x → ∃ (j : Nat) (y : Txt) (d : Nd), ps[j]? = some y ∧ t[j]? = some d ∧ d.e = true ∧ x <+: y
  few : ends t ≤ 40
  size : t.length ≤ 481

def IsT (t : List Nd) : Prop := ∃ ps, Valid t ps

theorem valid_uniq {t : List Nd} {ps qs : List Txt} (h : Valid t ps) (g : Valid t qs) : ps = qs := by
  apply List.ext_getElem?
  intro i
  have := h.tells.len
  have := g.tells.len
  by_cases hi : i < t.length
  · exact tells_uniq h.tells g.tells i hi hi
  · rw [List.getElem?_eq_none (by omega), List.getElem?_eq_none (by omega)]

theorem Valid.lenEq {t : List Nd} {ps : List Txt} (h : Valid t ps) : ps.length = t.length := h.tells.len

theorem Valid.wordsLen {t : List Nd} {ps : List Txt} (h : Valid t ps) : (wds t ps).length = ends t := wds_len t ps h.lenEq

theorem Valid.wordsAsc {t : List Nd} {ps : List Txt} (h : Valid t ps) : Asc (wds t ps) := h.tells.asc.sublist (wds_sub t ps)

/-- a text is a word -/
def IsW (x : Txt) : Prop := x.length ≤ 12 ∧ Low x

theorem Valid.isW {t : List Nd} {ps : List Txt} (h : Valid t ps) : ∀ x ∈ ps, IsW x := fun x hx => ⟨h.short x hx, by
  obtain ⟨i, hi, e⟩ := List.mem_iff_getElem.1 hx
  exact h.tells.low i x (by rw [List.getElem?_eq_getElem hi, e])⟩

theorem Valid.wordsW {t : List Nd} {ps : List Txt} (h : Valid t ps) : ∀ x ∈ wds t ps, IsW x := fun x hx => h.isW x ((wds_sub t ps).subset hx)

/-- all beginnings of some words, ascending -/
structure Pre (ws ps : List Txt) : Prop where
  asc : Asc ps
  mem : ∀ x, x ∈ ps ↔ x = [] ∨ ∃ w ∈ ws, x <+: w

theorem Pre.uniq {ws ps qs : List Txt} (h : Pre ws ps) (g : Pre ws qs) : ps = qs := asc_ext h.asc g.asc fun x => by rw [h.mem, g.mem]

theorem Pre.zero {ws ps : List Txt} (h : Pre ws ps) : ps[0]? = some [] := by
  have := (h.mem []).2 (.inl rfl)
  obtain ⟨i, hi, e⟩ := List.mem_iff_getElem.1 this
  have hx : ps[i]? = some [] := by rw [List.getElem?_eq_getElem hi, e]
  by_cases h0 : i = 0
  · rw [← h0]; exact hx
  · have h1 : ps[0]? = some ps[0] := List.getElem?_eq_getElem (by omega)
    have := asc_lt h.asc h1 hx (by omega)
    rw [bef_nil] at this
    cases this

/-- the node of a prefix -/
def mkN (ws ps : List Txt) (x : Txt) : Nd :=
  if x = [] then ⟨-1, -1, decide (x ∈ ws)⟩ else ⟨((x.getLastD 0).toNat : Int) - 97, (ps.idxOf x.dropLast : Int), decide (x ∈ ws)⟩

def mkT (ws ps : List Txt) : List Nd := ps.map (mkN ws ps)

theorem mkT_len (ws ps : List Txt) : (mkT ws ps).length = ps.length := by simp [mkT]
theorem mkT_at {ws ps : List Txt} {i : Nat} {x : Txt} (h : ps[i]? = some x) : (mkT ws ps)[i]? = some (mkN ws ps x) := by simp [mkT, h]
theorem mkN_e (ws ps : List Txt) (x : Txt) : (mkN ws ps x).e = decide (x ∈ ws) := by unfold mkN; split <;> rfl

theorem mem_at {l : List Txt} {x : Txt} (h : x ∈ l) : ∃ i : Nat, l[i]? = some x := by
  obtain ⟨i, hi, e⟩ := List.mem_iff_getElem.1 h
  exact ⟨i, by rw [List.getElem?_eq_getElem hi, e]⟩

theorem at_mem {l : List Txt} {i : Nat} {x : Txt} (h : l[i]? = some x) : x ∈ l := by
  obtain ⟨hi, e⟩ := List.getElem?_eq_some_iff.1 h
  rw [← e]; exact List.getElem_mem _

theorem idx_at {l : List Txt} {x : Txt} (h : x ∈ l) : l[l.idxOf x]? = some x := by
  have hi := List.idxOf_lt_length_of_mem h
  rw [List.getElem?_eq_getElem hi, List.getElem_idxOf hi]

theorem wds_mkT {ws ps : List Txt} (ha : Asc ws) (h : Pre ws ps) : wds (mkT ws ps) ps = ws :=
  asc_ext (h.asc.sublist (wds_sub _ _)) ha fun x => by
    rw [mem_wds]
    constructor
    · rintro ⟨i, d, h1, h2, h3⟩
      rw [mkT_at h2] at h1
      obtain rfl := Option.some.inj h1
      rw [mkN_e] at h3
      simpa using h3
    · intro hx
      obtain ⟨i, hi⟩ := mem_at ((h.mem x).2 (.inr ⟨x, hx, List.prefix_refl _⟩))
      exact ⟨i, _, mkT_at hi, hi, by rw [mkN_e]; simpa using hx⟩

/-- the nodes that are made of words are valid -/
theorem mk_valid {ws ps : List Txt} (ha : Asc ws) (hw : ∀ w ∈ ws, IsW w) (hn : ws.length ≤ 40) (h : Pre ws ps) (hs : ps.length ≤ 481) : Valid (mkT ws ps) ps := by
  have hz := h.zero
  have hwp : ∀ x ∈ ps, IsW x := fun x hx => by
    rcases (h.mem x).1 hx with e | ⟨w, hw1, hp⟩
    · rw [e]; exact ⟨by simp, fun c hc => by cases hc⟩
    · have := hw w hw1
      exact ⟨Nat.le_trans hp.length_le this.1, fun c hc => this.2 c (hp.subset hc)⟩
  refine ⟨⟨by rw [mkT_len], Nat.le_refl _, hz, ⟨decide ([] ∈ ws), by rw [mkT_at hz]; rfl⟩, h.asc, fun i d h1 h2 hd => ?_⟩, fun x hx => (hwp x hx).1, fun i x h1 hx => ?_, ?_, by rw [mkT_len]; exact hs⟩
  · rw [mkT_len] at h2
    have hx : ps[i]? = some ps[i] := List.getElem?_eq_getElem h2
    obtain ⟨x, hxe⟩ : ∃ x, ps[i] = x := ⟨_, rfl⟩
    rw [hxe] at hx
    rw [mkT_at hx] at hd
    obtain rfl := Option.some.inj hd
    have hne : x ≠ [] := by
      rintro rfl
      have := asc_inj h.asc hx hz
      omega
    have hdl : x.dropLast ∈ ps := (h.mem _).2 (by
      rcases (h.mem x).1 (at_mem hx) with e | ⟨w, hw1, hp⟩
      · exact absurd e hne
      · exact .inr ⟨w, hw1, (List.dropLast_prefix x).trans hp⟩)
    obtain ⟨y, c, rfl⟩ : ∃ y c, x = y ++ [c] := ⟨x.dropLast, x.getLast hne, (List.dropLast_concat_getLast hne).symm⟩
    have hc := (hwp _ (at_mem hx)).2 c (by simp)
    rw [List.dropLast_concat] at hdl
    have hj := idx_at hdl
    refine ⟨ps.idxOf y, y, c, by simp [mkN], asc_pos h.asc hj hx (bef_longer y (by simp)), by simp [mkN], hc.1, hc.2, hj, hx⟩
  · rcases (h.mem x).1 (at_mem hx) with e | ⟨w, hw1, hp⟩
    · rw [e] at hx; have := asc_inj h.asc hx hz; omega
    · obtain ⟨j, hj⟩ := mem_at ((h.mem w).2 (.inr ⟨w, hw1, List.prefix_refl _⟩))
      exact ⟨j, w, _, hj, mkT_at hj, by rw [mkN_e]; simpa using hw1, hp⟩
  · have := wds_len (mkT ws ps) ps (by rw [mkT_len])
    rw [wds_mkT ha h] at this
    omega

theorem Valid.pre {t : List Nd} {ps : List Txt} (h : Valid t ps) : Pre (wds t ps) ps := by
  refine ⟨h.tells.asc, fun x => ⟨fun hx => ?_, ?_⟩⟩
  · obtain ⟨i, hi⟩ := mem_at hx
    by_cases h0 : i = 0
    · subst h0; rw [h.tells.nil] at hi; exact .inl (Option.some.inj hi).symm
    · obtain ⟨j, y, d, h1, h2, h3, h4⟩ := h.word i x (by omega) hi
      exact .inr ⟨y, mem_wds.2 ⟨j, d, h2, h1, h3⟩, h4⟩
  · have hcl : ∀ (y x : Txt), y ∈ ps → x <+: y → x ∈ ps := by
      intro y
      obtain ⟨n, hn⟩ : ∃ n, y.length = n := ⟨_, rfl⟩
      induction n generalizing y with
      | zero =>
        intro x hy hp
        obtain rfl := List.length_eq_zero_iff.1 hn
        rw [List.prefix_nil.1 hp]; exact hy
      | succ n ih =>
        intro x hy hp
        by_cases e : x = y
        · rw [e]; exact hy
        · obtain ⟨i, hi⟩ := mem_at hy
          have h0 : i ≠ 0 := by
            rintro rfl
            rw [h.tells.nil] at hi
            rw [← Option.some.inj hi] at hn
            simp at hn
          have hlt : i < t.length := by have := h.lenEq; have := (List.getElem?_eq_some_iff.1 hi).1; omega
          obtain ⟨d, _, hd, _⟩ := h.tells.at hlt
          obtain ⟨j, z, c, _, _, _, _, _, e1, e2⟩ := h.tells.step i d (by omega) hlt hd
          rw [e2] at hi
          obtain rfl := Option.some.inj hi
          refine ih z (by simpa using hn) x (at_mem e1) ?_
          rcases List.prefix_concat_iff.1 (by simpa using hp) with h | h
          · exact absurd h e
          · exact h
    rintro (e | ⟨w, hw, hp⟩)
    · rw [e]; exact at_mem h.tells.nil
    · exact hcl w x ((wds_sub t ps).subset hw) hp

/-- a valid row of nodes is that of its words -/
theorem Valid.made {t : List Nd} {ps : List Txt} (h : Valid t ps) : mkT (wds t ps) ps = t := by
  apply List.ext_getElem?
  intro i
  by_cases hi : i < t.length
  · obtain ⟨d, x, hd, hx⟩ := h.tells.at hi
    rw [mkT_at hx, hd]
    congr 1
    have he : decide (x ∈ wds t ps) = d.e := by
      rw [Bool.eq_iff_iff, decide_eq_true_eq, mem_wds]
      constructor
      · rintro ⟨j, d', h1, h2, h3⟩
        have := asc_inj h.tells.asc hx h2
        subst this
        rw [hd] at h1
        rw [Option.some.inj h1]; exact h3
      · intro he
        exact ⟨i, d, hd, hx, he⟩
    by_cases h0 : i = 0
    · subst h0
      rw [h.tells.nil] at hx
      obtain rfl := Option.some.inj hx
      obtain ⟨e, hr⟩ := h.tells.root
      rw [hd] at hr
      obtain rfl := Option.some.inj hr
      unfold mkN
      rw [if_pos rfl, he]
    · obtain ⟨j, y, c, hp, hj, hl, c0, c1, e1, e2⟩ := h.tells.step i d (by omega) hi hd
      rw [e2] at hx
      obtain rfl := Option.some.inj hx
      have hidx : ps.idxOf y = j := asc_inj h.tells.asc (idx_at (at_mem e1)) e1
      unfold mkN
      rw [if_neg (by simp)]
      exact Nd.eq (by simp [hl]) (by simp [hidx, hp]) he
  · rw [List.getElem?_eq_none (by rw [mkT_len, h.lenEq]; omega), List.getElem?_eq_none (by omega)]

end Go.Proofs.Ytfehfjnmkaifbab
