/-
  Pressed trees as sets of texts: common beginnings, the texts that stay, who is next above whom. Plain mathematics.
-/
import Derived.Test.YtoofpgehkihbcaaTri
namespace Go.Proofs.Ytoofpgehkihbcaa
set_option linter.unusedVariables false

/-- the common beginning of two texts -/
def lcp : Txt → Txt → Txt
  | a :: x, b :: y => if a = b then a :: lcp x y else []
  | [], _ => []
  | _ :: _, [] => []

theorem lcp_nil (x : Txt) : lcp x [] = [] := by cases x <;> rfl
theorem nil_lcp (x : Txt) : lcp [] x = [] := by cases x <;> rfl
theorem lcp_l : ∀ x y : Txt, lcp x y <+: x
  | [], y => by rw [nil_lcp]; exact List.prefix_refl _
  | a :: x, [] => List.nil_prefix
  | a :: x, b :: y => by
    unfold lcp
    split
    · exact (List.prefix_cons_inj a).2 (lcp_l x y)
    · exact List.nil_prefix
theorem pre_lcp : ∀ {z x y : Txt}, z <+: x → z <+: y → z <+: lcp x y
  | [], _, _, _, _ => List.nil_prefix
  | c :: z, [], _, h, _ => by have := h.length_le; simp at this
  | c :: z, _ :: _, [], _, h => by have := h.length_le; simp at this
  | c :: z, a :: x, b :: y, h, k => by
    rw [List.cons_prefix_cons] at h k
    obtain ⟨rfl, h⟩ := h
    obtain ⟨rfl, k⟩ := k
    simp only [lcp, if_true]
    exact (List.prefix_cons_inj c).2 (pre_lcp h k)
theorem lcp_r : ∀ x y : Txt, lcp x y <+: y
  | [], y => by rw [nil_lcp]; exact List.nil_prefix
  | a :: x, [] => List.nil_prefix
  | a :: x, b :: y => by
    unfold lcp
    split
    · rename_i e
      subst e
      exact (List.prefix_cons_inj a).2 (lcp_r x y)
    · exact List.nil_prefix
theorem pre_anti {x y : Txt} (h : x <+: y) (k : y <+: x) : x = y := h.eq_of_length_le k.length_le
theorem lcp_comm (x y : Txt) : lcp x y = lcp y x := pre_anti (pre_lcp (lcp_r _ _) (lcp_l _ _)) (pre_lcp (lcp_r _ _) (lcp_l _ _))
theorem lcp_pre {x y : Txt} (h : x <+: y) : lcp x y = x := pre_anti (lcp_l _ _) (pre_lcp (List.prefix_refl _) h)
theorem lcp_self (x : Txt) : lcp x x = x := lcp_pre (List.prefix_refl _)
theorem lcp3 : ∀ w u v : Txt, lcp w (lcp u v) = lcp w u ∨ lcp w (lcp u v) = lcp w v
  | [], u, v => .inl (by rw [nil_lcp, nil_lcp])
  | a :: w, [], v => .inl (by rw [nil_lcp])
  | a :: w, b :: u, [] => .inr (by rw [lcp_nil])
  | a :: w, b :: u, c :: v => by
    by_cases h : b = c
    · subst h
      by_cases k : a = b
      · subst k
        simp only [lcp, if_true]
        rcases lcp3 w u v with e | e
        · exact .inl (by rw [e])
        · exact .inr (by rw [e])
      · simp [lcp, k]
    · by_cases k : a = b
      · subst k
        simp [lcp, h]
      · simp [lcp, k, h]

/-- of two beginnings of a text one begins the other -/
theorem pre_two {x y z : Txt} (h : x <+: z) (k : y <+: z) : x <+: y ∨ y <+: x := by
  rcases Nat.le_total x.length y.length with l | l
  · exact .inl (List.prefix_of_prefix_length_le h k l)
  · exact .inr (List.prefix_of_prefix_length_le k h l)

theorem pre_next {x y : Txt} (h : x <+: y) (n : x ≠ y) : ∃ c, x ++ [c] <+: y := by
  obtain ⟨r, rfl⟩ := h
  cases r with
  | nil => exact absurd (by simp) n
  | cons f r => exact ⟨f, r, by simp⟩

theorem letter_same {x z : Txt} {c f : UInt8} (h : x ++ [c] <+: z) (k : x ++ [f] <+: z) : c = f := by
  have := (List.prefix_of_prefix_length_le h k (by simp)).eq_of_length (by simp)
  simpa using this

theorem letter_pre {x y z : Txt} {c : UInt8} (h : x ++ [c] <+: z) (k : y <+: z) (hx : x <+: y) (n : x ≠ y) : x ++ [c] <+: y := by
  obtain ⟨f, hf⟩ := pre_next hx n
  have := letter_same h (hf.trans k)
  rw [this]; exact hf

/-- a text stays: it is empty or the common beginning of two words -/
def St (ws : List Txt) (x : Txt) : Prop := x = [] ∨ ∃ u, u ∈ ws ∧ ∃ v, v ∈ ws ∧ lcp u v = x

theorem st_word {ws : List Txt} {w : Txt} (h : w ∈ ws) : St ws w := .inr ⟨w, h, w, h, lcp_self w⟩

theorem st_lcp {ws : List Txt} {w x : Txt} (h : w ∈ ws) (k : St ws x) : St ws (lcp w x) := by
  rcases k with rfl | ⟨u, hu, v, hv, rfl⟩
  · exact .inl (lcp_nil w)
  · rcases lcp3 w u v with e | e
    · exact .inr ⟨w, h, u, hu, e.symm⟩
    · exact .inr ⟨w, h, v, hv, e.symm⟩

theorem st_closed {ws : List Txt} {x y : Txt} (h : St ws x) (k : St ws y) : St ws (lcp x y) := by
  rcases h with rfl | ⟨u, hu, v, hv, rfl⟩
  · exact .inl (nil_lcp y)
  · rw [lcp_comm]
    rcases lcp3 y u v with e | e
    · rw [e, lcp_comm]; exact st_lcp hu k
    · rw [e, lcp_comm]; exact st_lcp hv k

/-- all that stay, ascending -/
structure Sta (ws qs : List Txt) : Prop where
  asc : Asc qs
  mem : ∀ x, x ∈ qs ↔ St ws x

theorem Sta.uniq {ws qs rs : List Txt} (h : Sta ws qs) (g : Sta ws rs) : qs = rs := asc_ext h.asc g.asc fun x => by rw [h.mem, g.mem]
theorem st_same {ws us : List Txt} (h : ∀ x, x ∈ ws ↔ x ∈ us) (x : Txt) : St ws x ↔ St us x := by
  unfold St
  simp only [h]
theorem Sta.same {ws us qs : List Txt} (h : Sta ws qs) (e : ∀ x, x ∈ ws ↔ x ∈ us) : Sta us qs := ⟨h.asc, fun x => (h.mem x).trans (st_same e x)⟩

def Closed (qs : List Txt) : Prop := ∀ x, x ∈ qs → ∀ y, y ∈ qs → lcp x y ∈ qs

theorem Sta.closed {ws qs : List Txt} (h : Sta ws qs) : Closed qs := fun x hx y hy => (h.mem _).2 (st_closed ((h.mem x).1 hx) ((h.mem y).1 hy))
theorem Sta.root {ws qs : List Txt} (h : Sta ws qs) : [] ∈ qs := (h.mem []).2 (.inl rfl)
theorem Sta.words {ws qs : List Txt} (h : Sta ws qs) {w : Txt} (hw : w ∈ ws) : w ∈ qs := (h.mem w).2 (st_word hw)

/-- what a word brings in -/
def Grn (qs : List Txt) (w : Txt) (rs : List Txt) : Prop := Asc rs ∧ ∀ y, y ∈ rs ↔ y ∈ qs ∨ y = w ∨ ∃ z, z ∈ qs ∧ y = lcp w z

theorem Sta.more {ws us qs rs : List Txt} {w : Txt} (h : Sta ws qs) (g : Grn qs w rs) (e : ∀ x, x ∈ us ↔ x = w ∨ x ∈ ws) : Sta us rs := by
  refine ⟨g.1, fun y => ?_⟩
  rw [g.2]
  have hw : w ∈ us := (e w).2 (.inl rfl)
  have hup : ∀ x, St ws x → St us x := by
    rintro x (rfl | ⟨u, hu, v, hv, rfl⟩)
    · exact .inl rfl
    · exact .inr ⟨u, (e u).2 (.inr hu), v, (e v).2 (.inr hv), rfl⟩
  constructor
  · rintro (k | rfl | ⟨z, hz, rfl⟩)
    · exact hup y ((h.mem y).1 k)
    · exact st_word hw
    · exact st_lcp hw (hup z ((h.mem z).1 hz))
  · rintro (rfl | ⟨u, hu, v, hv, rfl⟩)
    · exact .inl h.root
    · rcases (e u).1 hu with rfl | hu
      · rcases (e v).1 hv with rfl | hv
        · exact .inr (.inl (lcp_self _))
        · exact .inr (.inr ⟨v, h.words hv, rfl⟩)
      · rcases (e v).1 hv with rfl | hv
        · exact .inr (.inr ⟨u, h.words hu, lcp_comm _ _⟩)
        · exact .inl ((h.mem _).2 (.inr ⟨u, hu, v, hv, rfl⟩))

/-- the longest common beginning -/
def lng (w : Txt) : List Txt → Txt
  | [] => []
  | z :: r => if (lng w r).length ≤ (lcp w z).length then lcp w z else lng w r

theorem lng_pre (w : Txt) : ∀ qs : List Txt, lng w qs <+: w
  | [] => List.nil_prefix
  | z :: r => by
    unfold lng
    split
    · exact lcp_l _ _
    · exact lng_pre w r
theorem lng_max (w : Txt) : ∀ (qs : List Txt) (z : Txt), z ∈ qs → (lcp w z).length ≤ (lng w qs).length
  | [], z, h => by cases h
  | y :: r, z, h => by
    unfold lng
    rcases List.mem_cons.1 h with rfl | k
    · split <;> omega
    · have := lng_max w r z k
      split <;> omega
theorem lng_at (w : Txt) : ∀ (qs : List Txt), qs ≠ [] → ∃ z, z ∈ qs ∧ lng w qs = lcp w z
  | [], h => absurd rfl h
  | y :: r, _ => by
    unfold lng
    split
    · exact ⟨y, List.mem_cons_self, rfl⟩
    · rename_i hh
      by_cases k : r = []
      · subst k; simp [lng] at hh
      · obtain ⟨z, hz, e⟩ := lng_at w r k
        exact ⟨z, List.mem_cons_of_mem _ hz, e⟩

/-- a shorter common beginning is that of two others -/
theorem lcp_short {w z s : Txt} (h : (lcp w z).length ≤ (lcp w s).length) : lcp w z = lcp w s ∨ lcp w z = lcp s z := by
  have hp : lcp w z <+: lcp w s := List.prefix_of_prefix_length_le (lcp_l _ _) (lcp_l _ _) h
  by_cases e : lcp w z = lcp w s
  · exact .inl e
  · refine .inr ?_
    have h1 : lcp w z <+: lcp s z := pre_lcp (hp.trans (lcp_r _ _)) (lcp_r _ _)
    by_cases k : lcp w z = lcp s z
    · exact k
    · exfalso
      obtain ⟨c, hc⟩ := pre_next h1 k
      have h2 : lcp w z ++ [c] <+: lcp w s := letter_pre (hc.trans (lcp_l _ _)) (lcp_r _ _) hp e
      have h3 := pre_lcp (h2.trans (lcp_l _ _)) (hc.trans (lcp_r _ _))
      have := h3.length_le
      simp at this
      omega

theorem grn_put {qs : List Txt} (ha : Asc qs) (hc : Closed qs) (hr : [] ∈ qs) (w : Txt) : Grn qs w (put (put qs (lng w qs)) w) := by
  refine ⟨asc_put _ (asc_put _ ha), fun y => ?_⟩
  rw [mem_put, mem_put]
  obtain ⟨s, hs, e⟩ := lng_at w qs (by rintro rfl; cases hr)
  constructor
  · rintro ((h | h) | h)
    · exact .inl h
    · exact .inr (.inr ⟨s, hs, by rw [h, e]⟩)
    · exact .inr (.inl h)
  · rintro (h | h | ⟨z, hz, rfl⟩)
    · exact .inl (.inl h)
    · exact .inr h
    · have hm := lng_max w qs z hz
      rw [e] at hm
      rcases lcp_short hm with k | k
      · exact .inl (.inr (by rw [k, e]))
      · exact .inl (.inl (by rw [k]; exact hc s hs z hz))

/-- all that stay of some words -/
def stl : List Txt → List Txt
  | [] => [[]]
  | w :: ws => put (put (stl ws) (lng w (stl ws))) w

theorem stl_sta : ∀ ws : List Txt, Sta ws (stl ws)
  | [] => ⟨by simp [stl], fun x => by simp [stl, St]⟩
  | w :: ws => (stl_sta ws).more (grn_put (stl_sta ws).asc (stl_sta ws).closed (stl_sta ws).root w) (fun x => by simp)

theorem stl_few : ∀ ws : List Txt, (stl ws).length ≤ 2 * ws.length + 1
  | [] => by simp [stl]
  | w :: ws => by
    have h1 := stl_few ws
    have h2 := put_len (stl ws) (lng w (stl ws))
    have h3 := put_len (put (stl ws) (lng w (stl ws))) w
    simp only [stl, List.length_cons]
    omega

theorem Sta.few {ws qs : List Txt} (h : Sta ws qs) : qs.length ≤ 2 * ws.length + 1 := by rw [h.uniq (stl_sta ws)]; exact stl_few ws
theorem Sta.zero {ws qs : List Txt} (h : Sta ws qs) : qs[0]? = some [] := by
  obtain ⟨i, hi⟩ := mem_at h.root
  by_cases h0 : i = 0
  · rw [← h0]; exact hi
  · have hl := (List.getElem?_eq_some_iff.1 hi).1
    have h1 : qs[0]? = some qs[0] := List.getElem?_eq_getElem (by omega)
    have := asc_lt h.asc h1 hi (by omega)
    rw [bef_nil] at this
    cases this

/-- y is next below x -/
def Kd (qs : List Txt) (x y : Txt) : Prop := x ∈ qs ∧ y ∈ qs ∧ x <+: y ∧ x ≠ y ∧ ∀ z, z ∈ qs → z <+: y → z ≠ y → z <+: x

theorem kd_uniq {qs : List Txt} {x x' y : Txt} (h : Kd qs x y) (k : Kd qs x' y) : x = x' :=
  pre_anti (k.2.2.2.2 x h.1 h.2.2.1 h.2.2.2.1) (h.2.2.2.2 x' k.1 k.2.2.1 k.2.2.2.1)

theorem kd_same {qs : List Txt} (hc : Closed qs) {x y y' : Txt} {c : UInt8} (h : Kd qs x y) (k : Kd qs x y') (h1 : x ++ [c] <+: y) (h2 : x ++ [c] <+: y') : y = y' := by
  have key : ∀ {a b : Txt}, Kd qs x a → Kd qs x b → x ++ [c] <+: a → x ++ [c] <+: b → a <+: b := by
    intro a b ha hb ca cb
    have hl := hc a ha.2.1 b hb.2.1
    by_cases e : lcp a b = a
    · rw [← e]; exact lcp_r _ _
    · exfalso
      have := (pre_lcp ca cb).trans (ha.2.2.2.2 _ hl (lcp_l _ _) e)
      have := this.length_le
      simp at this
      omega
  exact pre_anti (key h k h1 h2) (key k h h2 h1)

theorem kd_find {qs : List Txt} {x : Txt} (hx : x ∈ qs) {c : UInt8} : ∀ (n : Nat) (z : Txt), z.length = n → z ∈ qs → x ++ [c] <+: z → ∃ y, Kd qs x y ∧ x ++ [c] <+: y ∧ y <+: z := by
  intro n
  induction n using Nat.strongRecOn with
  | ind n ih =>
    intro z hn hz hp
    by_cases h : ∃ v, v ∈ qs ∧ v <+: z ∧ v ≠ z ∧ ¬ v <+: x
    · obtain ⟨v, hv, h1, h2, h3⟩ := h
      have hxz : x <+: z := (List.prefix_append _ _).trans hp
      have hxv : x <+: v := (pre_two hxz h1).resolve_right h3
      have hne : x ≠ v := by rintro rfl; exact h3 (List.prefix_refl _)
      have hl : v.length < n := by
        have := h1.length_le
        rcases Nat.lt_or_ge v.length z.length with l | l
        · omega
        · exact absurd (h1.eq_of_length_le l) h2
      obtain ⟨y, k1, k2, k3⟩ := ih v.length hl v rfl hv (letter_pre hp h1 hxv hne)
      exact ⟨y, k1, k2, k3.trans h1⟩
    · refine ⟨z, ⟨hx, hz, (List.prefix_append _ _).trans hp, ?_, fun v hv h1 h2 => ?_⟩, hp, List.prefix_refl _⟩
      · rintro rfl
        have := hp.length_le
        simp at this
        omega
      · by_cases k : v <+: x
        · exact k
        · exact absurd ⟨v, hv, h1, h2, k⟩ h

/-- the longest beginning that is there, less than k letters -/
def upn (qs : List Txt) (y : Txt) : Nat → Nat
  | 0 => 0
  | k + 1 => if y.take k ∈ qs then k else upn qs y k

def up (qs : List Txt) (y : Txt) : Txt := y.take (upn qs y y.length)

theorem upn_lt (qs : List Txt) (y : Txt) : ∀ k, 0 < k → upn qs y k < k
  | 0, h => by omega
  | k + 1, _ => by
    unfold upn
    split
    · omega
    · by_cases h : 0 < k
      · have := upn_lt qs y k h; omega
      · obtain rfl : k = 0 := by omega
        simp [upn]
theorem upn_in {qs : List Txt} (h : [] ∈ qs) (y : Txt) : ∀ k, y.take (upn qs y k) ∈ qs
  | 0 => by simpa [upn] using h
  | k + 1 => by
    unfold upn
    split
    · assumption
    · exact upn_in h y k
theorem upn_max (qs : List Txt) (y : Txt) : ∀ k j, j < k → y.take j ∈ qs → j ≤ upn qs y k
  | 0, j, h, _ => by omega
  | k + 1, j, h, hj => by
    unfold upn
    split
    · omega
    · rename_i hn
      by_cases e : j = k
      · rw [e] at hj; exact absurd hj hn
      · exact upn_max qs y k j (by omega) hj

theorem up_kd {qs : List Txt} (hr : [] ∈ qs) {y : Txt} (hy : y ∈ qs) (hne : y ≠ []) : Kd qs (up qs y) y := by
  have h0 : 0 < y.length := List.length_pos_iff.2 hne
  have hl := upn_lt qs y y.length h0
  refine ⟨upn_in hr y _, hy, List.take_prefix _ _, fun e => ?_, fun z hz hp hn => ?_⟩
  · have := congrArg List.length e
    unfold up at this
    rw [List.length_take] at this
    omega
  · have hzl : z.length < y.length := by
      rcases Nat.lt_or_ge z.length y.length with l | l
      · exact l
      · exact absurd (hp.eq_of_length_le l) hn
    have e := List.prefix_iff_eq_take.1 hp
    have hm := upn_max qs y y.length z.length hzl (by rw [← e]; exact hz)
    refine List.prefix_of_prefix_length_le hp (List.take_prefix _ _) ?_
    unfold up
    rw [List.length_take]
    omega

theorem kd_up {qs : List Txt} (hr : [] ∈ qs) {x y : Txt} (h : Kd qs x y) : up qs y = x := by
  have hne : y ≠ [] := by
    rintro rfl
    have := h.2.2.1.length_le
    exact h.2.2.2.1 (List.eq_nil_of_length_eq_zero (by simpa using this))
  exact kd_uniq (up_kd hr h.2.1 hne) h

theorem kd_not_nil {qs : List Txt} {x y : Txt} (h : Kd qs x y) : y ≠ [] := by
  rintro rfl
  have := h.2.2.1.length_le
  exact h.2.2.2.1 (List.eq_nil_of_length_eq_zero (by simpa using this))

/-- a text more, below one that has none with its letter -/
theorem kd_new {qs : List Txt} (hc : Closed qs) {x w : Txt} {c : UInt8} (hx : x ∈ qs) (hw : x ++ [c] <+: w) (hno : ∀ y, Kd qs x y → ¬ x ++ [c] <+: y) (z y : Txt) : Kd (put qs w) z y ↔ Kd qs z y ∨ (z = x ∧ y = w) := by
  have hfar : ∀ v, v ∈ qs → ¬ x ++ [c] <+: v := fun v hv hp => by
    obtain ⟨y, h1, h2, _⟩ := kd_find hx v.length v rfl hv hp
    exact hno y h1 h2
  have hxw : x <+: w := (List.prefix_append _ _).trans hw
  have hxn : x ≠ w := by rintro rfl; have := hw.length_le; simp at this; omega
  have hwq : w ∉ qs := fun h => hfar w h hw
  have hlow : ∀ v, v ∈ qs → v <+: w → v <+: x := fun v hv hp => by
    rcases pre_two hp hxw with k | k
    · exact k
    · by_cases e : x = v
      · rw [e]; exact List.prefix_refl _
      · exact absurd (letter_pre hw hp k e) (hfar v hv)
  constructor
  · rintro ⟨h1, h2, h3, h4, h5⟩
    rcases (mem_put _ _ _).1 h2 with hy | rfl
    · refine .inl ⟨?_, hy, h3, h4, fun v hv => h5 v ((mem_put _ _ _).2 (.inl hv))⟩
      rcases (mem_put _ _ _).1 h1 with hz | rfl
      · exact hz
      · exact absurd (hw.trans h3) (hfar y hy)
    · refine .inr ⟨?_, rfl⟩
      rcases (mem_put _ _ _).1 h1 with hz | rfl
      · exact pre_anti (hlow z hz h3) (h5 x ((mem_put _ _ _).2 (.inl hx)) hxw hxn)
      · exact absurd rfl h4
  · rintro (⟨h1, h2, h3, h4, h5⟩ | ⟨rfl, rfl⟩)
    · refine ⟨(mem_put _ _ _).2 (.inl h1), (mem_put _ _ _).2 (.inl h2), h3, h4, fun v hv hp hn => ?_⟩
      rcases (mem_put _ _ _).1 hv with hv | rfl
      · exact h5 v hv hp hn
      · exact absurd (hw.trans hp) (hfar y h2)
    · refine ⟨(mem_put _ _ _).2 (.inl hx), (mem_put _ _ _).2 (.inr rfl), hxw, hxn, fun v hv hp hn => ?_⟩
      rcases (mem_put _ _ _).1 hv with hv | rfl
      · exact hlow v hv hp
      · exact absurd rfl hn

/-- a text more, on the way to a kid -/
theorem kd_split {qs : List Txt} (hc : Closed qs) {x m k : Txt} (hk : Kd qs x k) (hxm : x <+: m) (hxn : x ≠ m) (hmk : m <+: k) (hmn : m ≠ k) (z y : Txt) : Kd (put qs m) z y ↔ (Kd qs z y ∧ y ≠ k) ∨ (z = x ∧ y = m) ∨ (z = m ∧ y = k) := by
  obtain ⟨c, hcm⟩ := pre_next hxm hxn
  have hmq : m ∉ qs := fun h => by
    have := hk.2.2.2.2 m h hmk hmn
    exact hxn (pre_anti hxm this)
  have hbeh : ∀ v, v ∈ qs → m <+: v → k <+: v := fun v hv hp => by
    obtain ⟨y', h1, h2, h3⟩ := kd_find hk.1 v.length v rfl hv (hcm.trans hp)
    rw [kd_same hc hk h1 (hcm.trans hmk) h2]
    exact h3
  constructor
  · rintro ⟨h1, h2, h3, h4, h5⟩
    rcases (mem_put _ _ _).1 h2 with hy | rfl
    · by_cases e : y = k
      · subst e
        refine .inr (.inr ⟨?_, rfl⟩)
        rcases (mem_put _ _ _).1 h1 with hz | rfl
        · have a1 := hk.2.2.2.2 z hz h3 h4
          have a2 := h5 m ((mem_put _ _ _).2 (.inr rfl)) hmk hmn
          exact pre_anti (a1.trans hxm) a2
        · rfl
      · refine .inl ⟨⟨?_, hy, h3, h4, fun v hv => h5 v ((mem_put _ _ _).2 (.inl hv))⟩, e⟩
        rcases (mem_put _ _ _).1 h1 with hz | rfl
        · exact hz
        · have a1 := h5 k ((mem_put _ _ _).2 (.inl hk.2.1)) (hbeh y hy h3) (fun e' => e e'.symm)
          exact absurd (pre_anti hmk a1) hmn
    · refine .inr (.inl ⟨?_, rfl⟩)
      rcases (mem_put _ _ _).1 h1 with hz | rfl
      · have hne : z ≠ k := by
          rintro rfl
          exact hmn (pre_anti hmk h3)
        exact pre_anti (hk.2.2.2.2 z hz (h3.trans hmk) hne) (h5 x ((mem_put _ _ _).2 (.inl hk.1)) hxm hxn)
      · exact absurd rfl h4
  · rintro (⟨⟨h1, h2, h3, h4, h5⟩, hne⟩ | ⟨rfl, rfl⟩ | ⟨rfl, rfl⟩)
    · refine ⟨(mem_put _ _ _).2 (.inl h1), (mem_put _ _ _).2 (.inl h2), h3, h4, fun v hv hp hn => ?_⟩
      rcases (mem_put _ _ _).1 hv with hv | rfl
      · exact h5 v hv hp hn
      · exact hmk.trans (h5 k hk.2.1 (hbeh y h2 hp) (fun e => hne e.symm))
    · refine ⟨(mem_put _ _ _).2 (.inl hk.1), (mem_put _ _ _).2 (.inr rfl), hxm, hxn, fun v hv hp hn => ?_⟩
      rcases (mem_put _ _ _).1 hv with hv | rfl
      · refine hk.2.2.2.2 v hv (hp.trans hmk) ?_
        rintro rfl
        exact hmn (pre_anti hmk hp)
      · exact absurd rfl hn
    · refine ⟨(mem_put _ _ _).2 (.inr rfl), (mem_put _ _ _).2 (.inl hk.2.1), hmk, hmn, fun v hv hp hn => ?_⟩
      rcases (mem_put _ _ _).1 hv with hv | rfl
      · exact (hk.2.2.2.2 v hv hp hn).trans hxm
      · exact List.prefix_refl _

theorem closed_split {qs : List Txt} (hc : Closed qs) {m k : Txt} (hk : k ∈ qs) (hmk : m <+: k) : Closed (put qs m) := by
  have key : ∀ z, z ∈ qs → lcp z m ∈ put qs m := fun z hz => by
    have h1 := hc z hz k hk
    rcases pre_two (lcp_r z k) hmk with h | h
    · have : lcp z m = lcp z k := pre_anti (pre_lcp (lcp_l _ _) ((lcp_r _ _).trans hmk)) (pre_lcp (lcp_l _ _) h)
      rw [this]; exact (mem_put _ _ _).2 (.inl h1)
    · have : lcp z m = m := pre_anti (lcp_r _ _) (pre_lcp (h.trans (lcp_l _ _)) (List.prefix_refl _))
      rw [this]; exact (mem_put _ _ _).2 (.inr rfl)
  intro x hx y hy
  rcases (mem_put _ _ _).1 hx with kx | rfl
  · rcases (mem_put _ _ _).1 hy with ky | rfl
    · exact (mem_put _ _ _).2 (.inl (hc x kx y ky))
    · exact key x kx
  · rcases (mem_put _ _ _).1 hy with ky | rfl
    · rw [lcp_comm]; exact key y ky
    · rw [lcp_self]; exact (mem_put _ _ _).2 (.inr rfl)

/-- what a word brings in, at its three places -/
theorem grn_here {qs : List Txt} (ha : Asc qs) (hc : Closed qs) {w : Txt} (hw : w ∈ qs) : Grn qs w qs :=
  ⟨ha, fun y => ⟨.inl, fun h => by
    rcases h with h | rfl | ⟨z, hz, rfl⟩
    · exact h
    · exact hw
    · exact hc w hw z hz⟩⟩

theorem grn_new {qs : List Txt} (ha : Asc qs) (hc : Closed qs) {x w : Txt} {c : UInt8} (hx : x ∈ qs) (hw : x ++ [c] <+: w) (hno : ∀ y, Kd qs x y → ¬ x ++ [c] <+: y) : Grn qs w (put qs w) := by
  refine ⟨asc_put _ ha, fun y => ?_⟩
  rw [mem_put]
  constructor
  · rintro (h | h)
    · exact .inl h
    · exact .inr (.inl h)
  · rintro (h | h | ⟨z, hz, rfl⟩)
    · exact .inl h
    · exact .inr h
    · refine .inl ?_
      have hxw : x <+: w := (List.prefix_append _ _).trans hw
      have hle : lcp w z <+: x := by
        rcases pre_two (lcp_l w z) hxw with k | k
        · exact k
        · by_cases e : x = lcp w z
          · rw [← e]; exact List.prefix_refl _
          · have h1 := letter_pre hw (lcp_l w z) k e
            obtain ⟨y, h2, h3, _⟩ := kd_find hx z.length z rfl hz (h1.trans (lcp_r _ _))
            exact absurd h3 (hno y h2)
      have : lcp w z = lcp x z := pre_anti (pre_lcp hle (lcp_r _ _)) (pre_lcp ((lcp_l _ _).trans hxw) (lcp_r _ _))
      rw [this]
      exact hc x hx z hz

theorem grn_split {qs rs : List Txt} {w k m : Txt} (hk : k ∈ qs) (hm : m = lcp w k) (h : Grn (put qs m) w rs) : Grn qs w rs := by
  refine ⟨h.1, fun y => ?_⟩
  rw [h.2, mem_put]
  constructor
  · rintro ((h | h) | h | ⟨z, hz, rfl⟩)
    · exact .inl h
    · exact .inr (.inr ⟨k, hk, by rw [h, hm]⟩)
    · exact .inr (.inl h)
    · rcases (mem_put _ _ _).1 hz with hz | rfl
      · exact .inr (.inr ⟨z, hz, rfl⟩)
      · refine .inr (.inr ⟨k, hk, ?_⟩)
        rw [hm, lcp_comm, lcp_pre (lcp_l _ _)]
  · rintro (h | h | ⟨z, hz, rfl⟩)
    · exact .inl (.inl h)
    · exact .inr (.inl h)
    · exact .inr (.inr ⟨z, (mem_put _ _ _).2 (.inl hz), rfl⟩)

end Go.Proofs.Ytoofpgehkihbcaa
