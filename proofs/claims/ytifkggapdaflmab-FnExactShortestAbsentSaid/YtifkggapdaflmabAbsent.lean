/-
  Texts of the first letters by their lengths, and the first that is absent: plain mathematics.
-/
import Derived.Test.YtifkggapdaflmabContains
namespace Go.Proofs.Ytifkggapdaflmab
set_option linter.unusedVariables false

/-- the texts with one letter more -/
def chd (L : Nat) (u : Txt) : List Txt := (List.range L).map fun k => u ++ [UInt8.ofNat (97 + k)]
/-- all texts of a length -/
def lev (L : Nat) : Nat → List Txt
  | 0 => [[]]
  | n + 1 => (lev L n).flatMap (chd L)
theorem lev_succ (L n : Nat) : lev L (n + 1) = (lev L n).flatMap (chd L) := rfl
theorem chd_len (L : Nat) (u : Txt) : (chd L u).length = L := by simp [chd]
theorem chd_at {L k : Nat} (u : Txt) (h : k < L) : (chd L u)[k]? = some (u ++ [UInt8.ofNat (97 + k)]) := by simp [chd, h]
theorem flat_len (L : Nat) : ∀ l : List Txt, (l.flatMap (chd L)).length = l.length * L
  | [] => by simp
  | u :: l => by rw [List.flatMap_cons, List.length_append, chd_len, flat_len L l, List.length_cons, Nat.add_mul]; omega

theorem lev_mem_len (L : Nat) : ∀ (n : Nat) (u : Txt), u ∈ lev L n → u.length = n
  | 0, u, h => by simp [lev] at h; simp [h]
  | n + 1, u, h => by
    rw [lev_succ, List.mem_flatMap] at h
    obtain ⟨v, hv, hu⟩ := h
    have := lev_mem_len L n v hv
    unfold chd at hu
    obtain ⟨k, _, rfl⟩ := List.mem_map.1 hu
    simp [this]

theorem lev_pos {L : Nat} (hL : 0 < L) : ∀ n, 0 < (lev L n).length
  | 0 => by simp [lev]
  | n + 1 => by rw [lev_succ, flat_len]; exact Nat.mul_pos (lev_pos hL n) hL

theorem bef_snoc_same (u : Txt) {a b : UInt8} (h : a < b) : bef (u ++ [a]) (u ++ [b]) = true := by
  rw [bef_app]
  have : ¬ a = b := fun e => by rw [e] at h; exact absurd h (UInt8.lt_irrefl b)
  simp [bef, this, h]

theorem bef_snoc {u v : Txt} (h : bef u v = true) (hl : u.length = v.length) (a b : UInt8) : bef (u ++ [a]) (v ++ [b]) = true := by
  have hn : ¬ u <+: v := fun k => by
    have := List.IsPrefix.eq_of_length k hl
    rw [this, bef_irrefl] at h
    cases h
  exact bef_trans (bef_far [a] h hn) (bef_longer v (by simp))

theorem chd_asc {L : Nat} (hL : L ≤ 4) (u : Txt) : Asc (chd L u) := by
  unfold chd Asc
  rw [List.pairwise_map]
  refine List.Pairwise.imp_of_mem ?_ (List.pairwise_lt_range (n := L))
  intro i j hi hj hij
  simp only [List.mem_range] at hi hj
  apply bef_snoc_same
  rw [UInt8.lt_iff_toNat_lt, UInt8.toNat_ofNat', UInt8.toNat_ofNat']
  omega

theorem flat_asc {L : Nat} (hL : L ≤ 4) (n : Nat) : ∀ l : List Txt, Asc l → (∀ u ∈ l, u.length = n) → Asc (l.flatMap (chd L))
  | [], _, _ => by simp
  | u :: l, h, hl => by
    obtain ⟨h1, h2⟩ := List.pairwise_cons.1 h
    rw [List.flatMap_cons, Asc, List.pairwise_append]
    refine ⟨chd_asc hL u, flat_asc hL n l h2 (fun v hv => hl v (List.mem_cons_of_mem _ hv)), fun a ha b hb => ?_⟩
    unfold chd at ha
    obtain ⟨i, _, rfl⟩ := List.mem_map.1 ha
    obtain ⟨v, hv, hb⟩ := List.mem_flatMap.1 hb
    unfold chd at hb
    obtain ⟨j, _, rfl⟩ := List.mem_map.1 hb
    exact bef_snoc (h1 v hv) (by rw [hl u List.mem_cons_self, hl v (List.mem_cons_of_mem _ hv)]) _ _

theorem lev_asc {L : Nat} (hL : L ≤ 4) : ∀ n, Asc (lev L n)
  | 0 => by simp [lev]
  | n + 1 => flat_asc hL n _ (lev_asc hL n) (lev_mem_len L n)

/-- an ascending list within another one is no longer -/
theorem asc_within {l k : List Txt} (hl : Asc l) (hk : Asc k) (h : ∀ u ∈ l, u ∈ k) : l.length ≤ k.length := by
  have e : l = k.filter (fun u => decide (u ∈ l)) := by
    refine asc_ext hl (asc_filter _ hk) fun u => ?_
    rw [List.mem_filter]
    exact ⟨fun hu => ⟨h u hu, by simpa using hu⟩, fun hu => by simpa using hu.2⟩
  rw [e]
  exact List.length_filter_le _ _

/-- all of a list are stretches of a text -/
def AllIn (x : Txt) (l : List Txt) : Prop := ∀ u ∈ l, Lib.contains x u = true

theorem allIn_len {x : Txt} {l : List Txt} (hl : Asc l) (h : AllIn x l) : l.length ≤ 1 + x.length * x.length := by
  have hk : Asc ([] :: prt x) := List.pairwise_cons.2 ⟨fun p hp => bef_nil_of (mem_prt.1 hp).1, prt_asc x⟩
  have := asc_within hl hk (fun u hu => by
    by_cases e : u = []
    · rw [e]; exact List.mem_cons_self
    · exact List.mem_cons_of_mem _ (mem_prt.2 ⟨e, contains_iff.1 (h u hu)⟩))
  have h2 := prt_len x
  simp at this
  omega

theorem AllIn.app {x : Txt} {l k : List Txt} (h1 : AllIn x l) (h2 : AllIn x k) : AllIn x (l ++ k) := fun u hu => by
  rcases List.mem_append.1 hu with h | h
  · exact h1 u h
  · exact h2 u h
theorem AllIn.nil (x : Txt) : AllIn x [] := fun u h => by cases h
theorem AllIn.one {x u : Txt} (h : Lib.contains x u = true) : AllIn x [u] := fun v hv => by rw [List.mem_singleton.1 hv]; exact h
theorem contains_nil (x : Txt) : Lib.contains x [] = true := contains_iff.2 (List.nil_infix)

/-- all texts of less letters are stretches -/
def Below' (L : Nat) (x : Txt) (n : Nat) : Prop := ∀ m, m < n → AllIn x (lev L m)

theorem below_le {L n : Nat} {x : Txt} (hL : 0 < L) (h : Below' L x n) (hx : x.length ≤ 16) : n ≤ 17 := by
  refine Nat.le_of_not_lt fun hn => ?_
  have hp := lev_pos hL 17
  obtain ⟨u, hu⟩ := List.exists_mem_of_length_pos hp
  have h1 := (contains_iff.1 (h 17 hn u hu)).length_le
  have h2 := lev_mem_len L 17 u hu
  omega

theorem lev_room {L n : Nat} {x : Txt} (hL : L ≤ 4) (h : Below' L x n) (hx : x.length ≤ 16) : (lev L n).length ≤ 1028 := by
  cases n with
  | zero => simp [lev]
  | succ n =>
    have h1 := allIn_len (lev_asc hL n) (h n (by omega))
    have h2 : x.length * x.length ≤ 16 * 16 := Nat.mul_le_mul hx hx
    rw [lev_succ, flat_len]
    have : (lev L n).length * L ≤ 257 * 4 := Nat.mul_le_mul (by omega) hL
    omega

/-- the first text of the shortest that is absent -/
def Fa (L : Nat) (x t : Txt) : Prop := ∃ n, Below' L x n ∧ (lev L n).find? (fun u => !Lib.contains x u) = some t

theorem fa_uniq {L : Nat} {x t t' : Txt} (h : Fa L x t) (h' : Fa L x t') : t = t' := by
  obtain ⟨n, h1, h2⟩ := h
  obtain ⟨n', h1', h2'⟩ := h'
  have go : ∀ {n n' : Nat} {t : Txt}, Below' L x n' → (lev L n).find? (fun u => !Lib.contains x u) = some t → ¬ n < n' := fun hb hf hlt => by
    have hm := List.mem_of_find?_eq_some hf
    have hp := List.find?_some hf
    rw [hb _ hlt _ hm] at hp
    cases hp
  have e : n = n' := by
    have a := go h1' h2
    have b := go h1 h2'
    omega
  subst e
  rw [h2] at h2'
  exact Option.some.inj h2'

theorem fa_split {L n : Nat} {x t : Txt} {A B : List Txt} (hb : Below' L x n) (e : lev L n = A ++ t :: B) (hA : AllIn x A) (ht : Lib.contains x t = false) : Fa L x t := by
  refine ⟨n, hb, ?_⟩
  rw [e, List.find?_append]
  have h1 : A.find? (fun u => !Lib.contains x u) = none := by
    rw [List.find?_eq_none]
    intro u hu
    rw [hA u hu]
    simp
  rw [h1, List.find?_cons]
  simp [ht]

open Classical in
/-- what both functions tell -/
noncomputable def faR (L : Nat) (x : Txt) : Txt := if h : ∃ t, Fa L x t then Classical.choose h else []
theorem faR_eq {L : Nat} {x t : Txt} (h : Fa L x t) : faR L x = t := by
  have hex : ∃ t, Fa L x t := ⟨t, h⟩
  unfold faR
  rw [dif_pos hex]
  exact fa_uniq (Classical.choose_spec hex) h

/-- what waits -/
def qu (L n i : Nat) : List Txt := (lev L n).drop i ++ ((lev L n).take i).flatMap (chd L)
theorem qu_start (L : Nat) : qu L 0 0 = [[]] := by simp [qu, lev]
theorem qu_next (L n : Nat) : qu L (n + 1) 0 = ((lev L n).take (lev L n).length).flatMap (chd L) := by simp [qu, lev_succ]

theorem qu_step {L n i : Nat} {u : Txt} (h : (lev L n)[i]? = some u) : ∃ rest, qu L n i = u :: rest ∧
    ((i + 1 < (lev L n).length ∧ rest ++ chd L u = qu L n (i + 1)) ∨ (i + 1 = (lev L n).length ∧ rest ++ chd L u = qu L (n + 1) 0)) := by
  obtain ⟨hi, e⟩ := List.getElem?_eq_some_iff.1 h
  refine ⟨(lev L n).drop (i + 1) ++ ((lev L n).take i).flatMap (chd L), ?_, ?_⟩
  · unfold qu
    rw [List.drop_eq_getElem_cons hi, e]
    rfl
  · have e2 : ((lev L n).take (i + 1)).flatMap (chd L) = ((lev L n).take i).flatMap (chd L) ++ chd L u := by
      rw [List.take_succ_eq_append_getElem hi, e, List.flatMap_append, List.flatMap_cons, List.flatMap_nil, List.append_nil]
    by_cases hl : i + 1 < (lev L n).length
    · exact .inl ⟨hl, by unfold qu; rw [e2, List.append_assoc]⟩
    · have hl2 : i + 1 = (lev L n).length := by omega
      refine .inr ⟨hl2, ?_⟩
      rw [qu_next, ← hl2, e2, List.append_assoc, List.drop_eq_nil_of_le (by omega), List.nil_append]

theorem qu_len (L n i : Nat) : (qu L n i).length ≤ (lev L n).length + (lev L n).length * L := by
  unfold qu
  rw [List.length_append, flat_len, List.length_drop, List.length_take]
  have : min i (lev L n).length * L ≤ (lev L n).length * L := Nat.mul_le_mul (Nat.min_le_right _ _) (Nat.le_refl _)
  omega

theorem qu_short {L n i : Nat} : ∀ u ∈ qu L n i, u.length ≤ n + 1 := by
  intro u hu
  unfold qu at hu
  rcases List.mem_append.1 hu with h | h
  · have := lev_mem_len L n u (List.mem_of_mem_drop h); omega
  · obtain ⟨v, hv, h⟩ := List.mem_flatMap.1 h
    have := lev_mem_len L n v (List.mem_of_mem_take hv)
    unfold chd at h
    obtain ⟨k, _, rfl⟩ := List.mem_map.1 h
    simp [this]

end Go.Proofs.Ytifkggapdaflmab
