import Derived.Test.YtoofpgehkihbcaaPrN
import Derived.Test.YtoofpgehkihbcaaIsPrI

/-
  The letters of a pressed tree are as many as the nodes but one; how many staying texts begin a text; the first one that a text begins. Plain mathematics.
-/
namespace Go.Proofs.Ytoofpgehkihbcaa.prl
set_option linter.unusedVariables false

/-- the letters of some branches -/
def ltr : List Br → Nat
  | [] => 0
  | d :: p => d.l.length + ltr p

theorem ltr_app : ∀ p q : List Br, ltr (p ++ q) = ltr p + ltr q
  | [], q => by simp [ltr]
  | d :: p, q => by rw [List.cons_append, ltr, ltr, ltr_app p q]; omega
theorem ltr_succ {p : List Br} {i : Nat} {d : Br} (h : p[i]? = some d) : ltr (p.take (i + 1)) = ltr (p.take i) + d.l.length := by
  rw [List.take_add_one, h, ltr_app]
  simp [ltr]

/-- the beginnings of a text that are longer than what is next above it -/
def way (qs : List Txt) (y : Txt) : List Txt := (List.range (y.length - (up qs y).length)).map fun q => y.take ((up qs y).length + q + 1)

theorem way_len (qs : List Txt) (y : Txt) : (way qs y).length = y.length - (up qs y).length := by simp [way]

theorem mem_way {qs : List Txt} {y z : Txt} : z ∈ way qs y ↔ z <+: y ∧ (up qs y).length < z.length := by
  unfold way
  simp only [List.mem_map, List.mem_range]
  constructor
  · rintro ⟨q, hq, rfl⟩
    refine ⟨List.take_prefix _ _, ?_⟩
    rw [List.length_take]
    omega
  · rintro ⟨h, hl⟩
    have := h.length_le
    refine ⟨z.length - (up qs y).length - 1, by omega, ?_⟩
    have e : (up qs y).length + (z.length - (up qs y).length - 1) + 1 = z.length := by omega
    rw [e]
    exact (List.prefix_iff_eq_take.1 h).symm

def ways (qs l : List Txt) : List Txt := l.flatMap (way qs)

theorem ways_len (qs : List Txt) (en : Txt → Bool) : ∀ l : List Txt, (ways qs l).length = ltr (l.map (brOf qs en))
  | [] => rfl
  | y :: l => by
    have := ways_len qs en l
    unfold ways at this ⊢
    rw [List.flatMap_cons, List.length_append, this, way_len, List.map_cons, ltr]
    simp [brOf]

theorem way_asc (qs : List Txt) (y : Txt) : Asc (way qs y) := by
  unfold way
  refine List.pairwise_map.2 ?_
  refine List.Pairwise.imp_of_mem ?_ (List.pairwise_lt_range (n := y.length - (up qs y).length))
  intro a b ha hb hab
  rw [List.mem_range] at ha hb
  refine bef_pre (List.prefix_of_prefix_length_le (List.take_prefix _ _) (List.take_prefix _ _) (by simp only [List.length_take]; omega)) fun e => ?_
  have := congrArg List.length e
  simp only [List.length_take] at this
  omega

theorem way_cross {qs : List Txt} (hc : Closed qs) (hr : [] ∈ qs) {y1 y2 z1 z2 : Txt} (h1 : y1 ∈ qs) (h2 : y2 ∈ qs) (hb : bef y1 y2 = true) (k1 : z1 ∈ way qs y1) (k2 : z2 ∈ way qs y2) : bef z1 z2 = true := by
  rw [mem_way] at k1 k2
  obtain ⟨p1, l1⟩ := k1
  obtain ⟨p2, l2⟩ := k2
  have hne := bef_ne hb
  have n2 : y2 ≠ [] := by
    rintro rfl
    rw [bef_nil] at hb
    cases hb
  have u2 := up_kd hr h2 n2
  have hm := hc y1 h1 y2 h2
  by_cases e1 : lcp y1 y2 = y1
  · have q : y1 <+: y2 := by rw [← e1]; exact lcp_r _ _
    have q2 := (u2.2.2.2.2 y1 h1 q hne).length_le
    have q3 := p1.length_le
    exact bef_pre (List.prefix_of_prefix_length_le (p1.trans q) p2 (by omega)) (fun e => by rw [e] at q3; omega)
  · by_cases e2 : lcp y1 y2 = y2
    · have q : y2 <+: y1 := by rw [← e2]; exact lcp_l _ _
      have := bef_pre q (Ne.symm hne)
      rw [bef_asymm hb] at this
      cases this
    · have n1 : y1 ≠ [] := by
        rintro rfl
        exact e1 (nil_lcp _)
      have u1 := up_kd hr h1 n1
      have m1 := (u1.2.2.2.2 _ hm (lcp_l _ _) e1).length_le
      have m2 := (u2.2.2.2.2 _ hm (lcp_r _ _) e2).length_le
      rcases bef_total z1 z2 with h | h | h
      · exact h
      · subst h
        have := (pre_lcp p1 p2).length_le
        omega
      · have hno : ¬ z2 <+: z1 := fun k => by
          have := (pre_lcp (k.trans p1) p2).length_le
          omega
        obtain ⟨r, rfl⟩ := p2
        have h3 := bef_far r h hno
        exfalso
        by_cases e : z1 = y1
        · rw [e, bef_asymm hb] at h3
          cases h3
        · have h4 := bef_trans h3 (bef_pre p1 e)
          rw [bef_asymm hb] at h4
          cases h4

theorem ways_asc {ws qs : List Txt} (h : Sta ws qs) : Asc ([] :: ways qs qs) := by
  refine List.pairwise_cons.2 ⟨fun z hz => ?_, ?_⟩
  · obtain ⟨y, _, hy⟩ := List.mem_flatMap.1 hz
    refine bef_nil_of fun e => ?_
    rw [mem_way, e] at hy
    have := hy.2
    simp at this
  · unfold ways
    refine List.pairwise_flatMap.2 ⟨fun y _ => way_asc qs y, ?_⟩
    exact List.Pairwise.imp_of_mem (fun ha hb hab z1 k1 z2 k2 => way_cross h.closed h.root ha hb hab k1 k2) h.asc

theorem way_of {qs : List Txt} (hr : [] ∈ qs) {z : Txt} (hz : z ≠ []) : ∀ (n : Nat) (y : Txt), y.length = n → y ∈ qs → z <+: y → ∃ y', y' ∈ qs ∧ z ∈ way qs y' := by
  intro n
  induction n using Nat.strongRecOn with
  | ind n ih =>
    intro y hn hy hp
    have hy0 : y ≠ [] := by
      rintro rfl
      exact hz (List.prefix_nil.1 hp)
    have u := up_kd hr hy hy0
    by_cases hl : (up qs y).length < z.length
    · exact ⟨y, hy, mem_way.2 ⟨hp, hl⟩⟩
    · have hlt : (up qs y).length < n := by
        have := u.2.2.1.length_le
        rcases Nat.lt_or_ge (up qs y).length y.length with l | l
        · omega
        · exact absurd (u.2.2.1.eq_of_length_le l) u.2.2.2.1
      exact ih _ hlt (up qs y) rfl u.1 (List.prefix_of_prefix_length_le hp u.2.2.1 (by omega))

theorem ways_pre {ws ps : List Txt} (h : Pre ws ps) : [] :: ways (stl ws) (stl ws) = ps := by
  have hs := stl_sta ws
  refine asc_ext (ways_asc hs) h.asc fun z => ?_
  rw [h.mem, List.mem_cons]
  constructor
  · rintro (rfl | hz)
    · exact .inl rfl
    · obtain ⟨y, hy, hw⟩ := List.mem_flatMap.1 hz
      obtain ⟨p, _⟩ := mem_way.1 hw
      rcases (hs.mem y).1 hy with rfl | ⟨u, hu, v, hv, rfl⟩
      · exact .inl (List.prefix_nil.1 p)
      · exact .inr ⟨u, hu, p.trans (lcp_l u v)⟩
  · rintro (rfl | ⟨w, hw, hp⟩)
    · exact .inl rfl
    · by_cases hz : z = []
      · exact .inl hz
      · obtain ⟨y, h1, h2⟩ := way_of hs.root hz _ w rfl (hs.words hw) hp
        exact .inr (List.mem_flatMap.2 ⟨y, h1, h2⟩)

/-- the letters of all branches, and one, are as many as the nodes -/
theorem ltr_prw {ws ps : List Txt} (h : Pre ws ps) : ltr (prw ws) + 1 = ps.length := by
  rw [← ways_pre h, List.length_cons, ways_len _ (fun x => decide (x ∈ ws))]
  rfl

/-- how many of some texts begin a text -/
def beg (y : Txt) : List Txt → Nat
  | [] => 0
  | z :: l => (if z.isPrefixOf y then 1 else 0) + beg y l

theorem beg_app (y : Txt) : ∀ a b : List Txt, beg y (a ++ b) = beg y a + beg y b
  | [], b => by simp [beg]
  | z :: a, b => by rw [List.cons_append, beg, beg, beg_app y a b]; omega
theorem beg_hit {y z : Txt} {l : List Txt} {i : Nat} (h : l[i]? = some z) (hp : z <+: y) : beg y (l.take (i + 1)) = beg y (l.take i) + 1 := by
  rw [List.take_add_one, h, beg_app]
  simp [beg, hp]
theorem beg_miss {y z : Txt} {l : List Txt} {i : Nat} (h : l[i]? = some z) (hp : ¬ z <+: y) : beg y (l.take (i + 1)) = beg y (l.take i) := by
  rw [List.take_add_one, h, beg_app]
  simp [beg, hp]
theorem beg_le (y : Txt) : ∀ l : List Txt, beg y l ≤ l.length
  | [] => Nat.le_refl _
  | z :: l => by
    have := beg_le y l
    rw [beg, List.length_cons]
    split <;> omega

theorem beg_same {x y : Txt} : ∀ {l : List Txt}, (∀ z ∈ l, (z <+: y ↔ z <+: x)) → beg y l = beg x l
  | [], _ => rfl
  | z :: l, h => by
    have h1 := h z (List.mem_cons_self ..)
    have h2 := beg_same (l := l) fun u hu => h u (List.mem_cons_of_mem _ hu)
    rw [beg, beg, h2]
    have h3 : z.isPrefixOf y = z.isPrefixOf x := by
      rw [Bool.eq_iff_iff, List.isPrefixOf_iff_prefix, List.isPrefixOf_iff_prefix]
      exact h1
    rw [h3]

theorem beg_more {x y : Txt} : ∀ {l : List Txt}, Asc l → y ∈ l → ¬ y <+: x → (∀ z ∈ l, z ≠ y → (z <+: y ↔ z <+: x)) → beg y l = beg x l + 1
  | [], _, h, _, _ => by cases h
  | z :: l, ha, hm, hn, h => by
    have hl := (List.pairwise_cons.1 ha).1
    by_cases e : z = y
    · subst e
      have h2 : beg z l = beg x l := beg_same fun u hu => h u (List.mem_cons_of_mem _ hu) fun e => by
        have := bef_ne (hl u hu)
        exact this e.symm
      rw [beg, beg, h2]
      have h3 : z.isPrefixOf z = true := List.isPrefixOf_iff_prefix.2 (List.prefix_refl _)
      have h4 : z.isPrefixOf x = false := by
        rw [Bool.eq_false_iff]
        exact fun k => hn (List.isPrefixOf_iff_prefix.1 k)
      rw [h3, h4]
      simp
      omega
    · have hm2 : y ∈ l := by
        rcases List.mem_cons.1 hm with k | k
        · exact absurd k.symm e
        · exact k
      have h1 := h z (List.mem_cons_self ..) e
      have h2 := beg_more (List.pairwise_cons.1 ha).2 hm2 hn fun u hu => h u (List.mem_cons_of_mem _ hu)
      rw [beg, beg, h2]
      have h3 : z.isPrefixOf y = z.isPrefixOf x := by
        rw [Bool.eq_iff_iff, List.isPrefixOf_iff_prefix, List.isPrefixOf_iff_prefix]
        exact h1
      rw [h3]
      omega

/-- a step up is one less -/
theorem beg_kd {qs : List Txt} (ha : Asc qs) {x y : Txt} (h : Kd qs x y) : beg y (qs.drop 1) = beg x (qs.drop 1) + 1 := by
  have hne := kd_not_nil h
  have hy : y ∈ qs.drop 1 := by
    cases qs with
    | nil => exact h.2.1
    | cons q qs =>
      rcases List.mem_cons.1 h.2.1 with e | e
      · have hq : ∀ z ∈ q :: qs, bef z q = false := fun z hz => by
          rcases List.mem_cons.1 hz with rfl | k
          · exact bef_irrefl z
          · exact bef_asymm ((List.pairwise_cons.1 ha).1 z k)
        have h3 := hq x h.1
        rw [← e, bef_pre h.2.2.1 h.2.2.2.1] at h3
        cases h3
      · exact e
  refine beg_more (ha.sublist (List.drop_sublist _ _)) hy (fun k => h.2.2.2.1 (pre_anti h.2.2.1 k)) fun z hz hn => ⟨fun k => h.2.2.2.2 z (List.mem_of_mem_drop hz) k hn, fun k => k.trans h.2.2.1⟩

theorem beg_nil {qs : List Txt} (ha : Asc qs) (h0 : qs[0]? = some []) : beg [] (qs.drop 1) = 0 := by
  have key : ∀ l : List Txt, (∀ z ∈ l, z ≠ []) → beg [] l = 0 := by
    intro l
    induction l with
    | nil => intro _; rfl
    | cons z l ih =>
      intro h
      have h1 := h z (List.mem_cons_self ..)
      rw [beg, ih fun u hu => h u (List.mem_cons_of_mem _ hu)]
      have : z.isPrefixOf [] = false := by
        cases z with
        | nil => exact absurd rfl h1
        | cons => rfl
      rw [this]
      rfl
  refine key _ fun z hz => ?_
  rintro rfl
  cases qs with
  | nil => cases hz
  | cons q qs =>
    simp at h0
    subst h0
    have := (List.pairwise_cons.1 ha).1 [] hz
    rw [bef_nil] at this
    cases this

end Go.Proofs.Ytoofpgehkihbcaa.prl

/-
  What stays while a function works on a pressed tree that it was given; whether this is valid: both functions.
-/
namespace Go.Proofs.Ytoofpgehkihbcaa
open Go.RowKit
set_option linter.unusedVariables false

/-- W: when the function was entered; w: now -/
structure GvP (W w : World) (a : Option Addr) (n c : Nat) (p : List Br) : Prop where
  box : w.cell? ⟨W.heap.size, 0, none⟩ = some (.slice a n c)
  lt : W.heap.size < w.heap.size
  bel : Below W.heap.size W w
  brs : Brs W.heap.size w a n c p

section
variable {W w w' : World} {a : Option Addr} {n c : Nat} {p : List Br}
theorem GvP.start (h : Brs W.heap.size W a n c p) : GvP W (W.alloc (.cells #[.slice a n c] 30)) a n c p :=
  have hb := (Below.refl W.heap.size W).alloc (Nat.le_refl _) (.cells #[.slice a n c] 30)
  ⟨by simp, by simp, hb, h.keep hb⟩
theorem GvP.on (h : GvP W w a n c p) (hb : Below w.heap.size w w') : GvP W w' a n c p :=
  ⟨(hb.cell (p := ⟨W.heap.size, 0, none⟩) h.lt).trans h.box, Nat.lt_of_lt_of_le h.lt hb.size, h.bel.trans (hb.mono (Nat.le_of_lt h.lt)), h.brs.keep (hb.mono (Nat.le_of_lt h.lt))⟩
theorem GvP.size (h : GvP W w a n c p) : W.heap.size ≤ w.heap.size := h.bel.size
end

theorem ret_ib {u v : Int} {p q : Bool} (h : u = v) (k : p = q) : Ending.returned (.tuple #[.int .i64 u, .bool p]) = .returned (.tuple #[.int .i64 v, .bool q]) := by rw [h, k]
theorem ret_iib {u v u' v' : Int} {p q : Bool} (h : u = v) (h' : u' = v') (k : p = q) : Ending.returned (.tuple #[.int .i64 u, .int .i64 u', .bool p]) = .returned (.tuple #[.int .i64 v, .int .i64 v', .bool q]) := by rw [h, h', k]

theorem l4Open_g {W w : World} {a : Option Addr} {n c : Nat} {p : List Br} (h : GvP W w a n c p) (hn : n ≤ 1048576) :
    Calls Try.prog 27 #[.agg #[.slice a n c]] w fun e w' => ∃ a' c', e = .returned (.tuple #[.agg #[.slice a' (pT p).length c'], .bool (pOk p)]) ∧ Nds w'.heap.size w' a' (pT p).length c' (pT p) ∧ Below w.heap.size w w' :=
  l4Open_any W.heap.size a n c p w h.size h.brs hn
theorem isPressed_g {W w : World} {a : Option Addr} {n c : Nat} {p : List Br} (h : GvP W w a n c p) (hn : n ≤ 1048576) :
    Calls Try.prog 33 #[.agg #[.slice a n c]] w fun e w' => e = .returned (.bool (pOk p)) ∧ Below w.heap.size w w' :=
  implIsPressed_any a n c p w (h.brs.mono h.size) hn

end Go.Proofs.Ytoofpgehkihbcaa
