/-
  How long the text of a trie can be: plain mathematics.
-/
import Derived.Test.YtjcaikfejgeknabReadM
import Derived.Test.YtjcaikfejgeknabMade
namespace Go.Proofs.Ytjcaikfejgeknab
set_option linter.unusedVariables false

def leafB (t : List Nd) (j : Nat) : Bool := (kidsTo t j t.length).length == 0
def lvs (t : List Nd) (k : Nat) : List Nat := (List.range k).filter (leafB t)
theorem lvs_succ (t : List Nd) (k : Nat) : (lvs t (k + 1)).length = (lvs t k).length + if leafB t k then 1 else 0 := by
  unfold lvs
  rw [List.range_succ, List.filter_append, List.length_append]
  cases h : leafB t k <;> simp [h]

theorem len_kids {t : List Nd} {ps : List Txt} (h : Tells t t.length ps) {f i b : Nat} {x : Txt} (hb : Behind t ps i b) (hx : ps[i]? = some x)
    (ih : ∀ (j c : Nat), i < j → Behind t ps j c → (txtOf t f j).length + 2 * (lvs t c).length + ends (t.take j) ≤ 3 * (c - j) + ends (t.take c) + 2 * (lvs t j).length) :
    ∀ (g k : Nat), t.length ≤ k + g → i < k → k ≤ b → KidAt t ps i k → (txtKids t f i k).length + 2 * (lvs t k).length + ends (t.take (i + 1)) ≤ 3 * (k - i - 1) + ends (t.take k) + 2 * (lvs t (i + 1)).length →
      (txtKids t f i t.length).length + 2 * (lvs t b).length + ends (t.take (i + 1)) ≤ 3 * (b - i - 1) + ends (t.take b) + 2 * (lvs t (i + 1)).length := by
  intro g
  induction g with
  | zero =>
    intro k hg hik hkb _ hr
    have e1 : k = t.length := by have := hb.le; omega
    have e2 : b = t.length := by have := hb.le; omega
    rw [e1] at hr
    rw [e2]
    exact hr
  | succ g ihg =>
    intro k hg hik hkb hK hr
    by_cases hkl : k < t.length
    · obtain ⟨dk, y, hdk, hy⟩ := h.at hkl
      by_cases hp : dk.p = (i : Int)
      · obtain ⟨b2, hb2⟩ := behind_ex h hkl
        have hkb2 := hb2.lt
        obtain ⟨c, hyc⟩ := (par_iff h hx (by omega) hdk).1 hp
        have hb2b : b2 ≤ b := by
          by_cases hle : b2 ≤ b
          · exact hle
          · exfalso
            have hbl : b < t.length := by have := hb2.le; omega
            obtain ⟨_, z, _, hz⟩ := h.at hbl
            have hkb' : k ≠ b := by
              rintro rfl
              exact hb.stop x _ hx hyc (List.prefix_append _ _)
            have h1 := hb2.all _ hyc b z (by omega) (by omega) hz
            exact hb.stop x z hx hz ((List.prefix_append _ _).trans h1)
        have hkids : kidsTo t i b2 = kidsTo t i k ++ [k] := by
          rw [kidsTo_skip (k + 1) b2 (by omega) (fun m d h1 h2 h3 h4 => not_kid h hik hdk hp hb2 (by omega) h2 h3 h4.2), kidsTo_hit hdk hik hp]
        have e : txtKids t f i b2 = txtKids t f i k ++ txtOf t f k := by
          unfold txtKids
          rw [hkids, List.flatMap_append]
          simp
        refine ihg b2 (by omega) (by omega) hb2b (kidAt_next h hik hdk hp hb2) ?_
        have := ih k b2 hik hb2
        rw [e, List.length_append]
        omega
      · have hsk : kidsTo t i t.length = kidsTo t i k := kidsTo_skip k t.length (by omega) (fun m d h1 h2 h3 h4 => no_more h hik hK hdk hp h1 h3 h4.2)
        have e : txtKids t f i t.length = txtKids t f i k := by unfold txtKids; rw [hsk]
        have ebk : b = k := by
          by_cases hlt : k < b
          · exfalso
            have h1 := hb.all x hx k y hik hlt hy
            exact hp (hK x y dk hx hy hdk h1)
          · omega
        rw [e, ebk]
        exact hr
    · have e1 : k = t.length := by have := hb.le; omega
      have e2 : b = t.length := by have := hb.le; omega
      rw [e1] at hr
      rw [e2]
      exact hr

theorem len_text {t : List Nd} {ps : List Txt} (h : Tells t t.length ps) : ∀ (f i b : Nat), Behind t ps i b → (txtOf t f i).length + 2 * (lvs t b).length + ends (t.take i) ≤ 3 * (b - i) + ends (t.take b) + 2 * (lvs t i).length
  | 0, i, b, hb => by
    have hlt := hb.lt
    have key : ∀ m, (lvs t (i + m)).length ≤ (lvs t i).length + m := by
      intro m
      induction m with
      | zero => simp
      | succ m ih =>
        have := lvs_succ t (i + m)
        have e : i + (m + 1) = i + m + 1 := by omega
        rw [e, this]
        split <;> omega
    have h1 := key (b - i)
    have e : i + (b - i) = b := by omega
    rw [e] at h1
    have h2 : ends (t.take i) ≤ ends (t.take b) := by
      have : t.take b = t.take i ++ (t.take b).drop i := by
        have := List.take_append_drop i (t.take b)
        rw [List.take_take, Nat.min_eq_left (by omega)] at this
        exact this.symm
      rw [this, ends_app]
      omega
    simp only [txtOf, List.length_nil]
    omega
  | f + 1, i, b, hb => by
    have hlt := hb.lt
    have hi : i < t.length := by have := hb.le; omega
    obtain ⟨d, x, hd, hx⟩ := h.at hi
    have hE := ends_succ hd
    have hL := lvs_succ t i
    have e : txtOf t (f + 1) i = ((if i = 0 then [] else [UInt8.ofNat (97 + d.l).toNat]) ++ (if d.e then [46] else [])) ++
        (if (kidsTo t i t.length).length = 0 then [] else [40] ++ (kidsTo t i t.length).flatMap (txtOf t f) ++ [41]) := by
      simp only [txtOf, hd]
    have hL1 : ((if i = 0 then [] else [UInt8.ofNat (97 + d.l).toNat] : Txt)).length ≤ 1 := by split <;> simp
    have hL2 : ((if d.e then [46] else [] : Txt)).length = if d.e then 1 else 0 := by split <;> simp
    rw [e, List.length_append, List.length_append, hL2]
    by_cases h0 : (kidsTo t i t.length).length = 0
    · have hl : leafB t i = true := by simp [leafB, h0]
      rw [if_pos h0, behind_leaf h hb (List.eq_nil_of_length_eq_zero h0)]
      rw [hl, if_pos rfl] at hL
      rw [hL, hE]
      simp only [List.length_nil]
      omega
    · have hl : leafB t i = false := by simp [leafB, h0]
      rw [hl, if_neg (by simp)] at hL
      rw [if_neg h0]
      have hk := len_kids h hb hx (fun j c hj hbj => len_text h f j c hbj) t.length (i + 1) (by omega) (by omega) hb.lt (kidAt_first h i) (by rw [txtKids_low]; simp; omega)
      unfold txtKids at hk
      simp only [List.length_append, List.length_cons, List.length_nil]
      rw [hE] at hk
      omega

/-- the texts of the leaves -/
def lfs (t : List Nd) (ps : List Txt) : List Txt := (lvs t t.length).map fun j => ps.getD j []

theorem mem_lfs {t : List Nd} {ps : List Txt} {i : Nat} {x : Txt} (hx : ps[i]? = some x) (hi : i < t.length) (hl : kidsTo t i t.length = []) : x ∈ lfs t ps := by
  unfold lfs lvs
  refine List.mem_map.2 ⟨i, List.mem_filter.2 ⟨List.mem_range.2 hi, by simp [leafB, hl]⟩, ?_⟩
  rw [List.getD_eq_getElem?_getD, hx]
  rfl

theorem lfs_pre {t : List Nd} {ps : List Txt} (hv : Valid t ps) : Pre (lfs t ps) ps := by
  have h := hv.tells
  refine ⟨h.asc, fun x => ⟨fun hx => ?_, ?_⟩⟩
  · by_cases e : x = []
    · exact .inl e
    · right
      obtain ⟨m, hm⟩ : ∃ m, 13 - x.length = m := ⟨_, rfl⟩
      clear e
      induction m generalizing x with
      | zero =>
        have := hv.short x hx
        omega
      | succ m ih =>
        obtain ⟨i, hi⟩ := mem_at hx
        have hil : i < t.length := by have := h.len; have := (List.getElem?_eq_some_iff.1 hi).1; omega
        by_cases hk : kidsTo t i t.length = []
        · exact ⟨x, mem_lfs hi hil hk, List.prefix_refl _⟩
        · obtain ⟨j, hj⟩ := List.exists_mem_of_ne_nil _ hk
          obtain ⟨h1, h2, d, hd, hp⟩ := mem_kidsTo.1 hj
          obtain ⟨c, hc⟩ := (par_iff h hi (by omega) hd).1 hp
          obtain ⟨w, hw, hpw⟩ := ih (x ++ [c]) (at_mem hc) (by simp; omega)
          exact ⟨w, hw, (List.prefix_append _ _).trans hpw⟩
  · rintro (rfl | ⟨w, hw, hp⟩)
    · exact at_mem h.nil
    · unfold lfs lvs at hw
      obtain ⟨j, hj, rfl⟩ := List.mem_map.1 hw
      have hjl := List.mem_range.1 (List.mem_filter.1 hj).1
      have hin : ps.getD j [] ∈ ps := by
        have : j < ps.length := by have := h.len; omega
        rw [List.getD_eq_getElem?_getD, List.getElem?_eq_getElem this]
        exact List.getElem_mem _
      rcases (hv.pre.mem _).1 hin with e | ⟨v, hv1, hv2⟩
      · rw [e] at hp
        rw [List.prefix_nil.1 hp]
        exact at_mem h.nil
      · exact (hv.pre.mem x).2 (.inr ⟨v, hv1, hp.trans hv2⟩)

/-- the text of a valid trie is not too long -/
theorem text_max {t : List Nd} {ps : List Txt} (hv : Valid t ps) (f : Nat) : (txtOf t f 0).length ≤ 1443 := by
  have h := hv.tells
  have h1 := len_text h f 0 t.length (behind_all h)
  have h2 : ends (t.take t.length) ≤ 40 := by rw [List.take_length]; exact hv.few
  have h3 := hv.size
  have h4 : t.length ≤ 1 + 12 * (lvs t t.length).length := by
    have e := (lfs_pre hv).uniq (pres_pre _)
    have a1 := foldl_len (begs (lfs t ps)) [[]]
    have a2 : (begs (lfs t ps)).length ≤ 12 * (lfs t ps).length := begs_len (fun w hw => hv.short w (((lfs_pre hv).mem w).2 (.inr ⟨w, hw, List.prefix_refl _⟩)))
    have a3 : (lfs t ps).length = (lvs t t.length).length := by simp [lfs]
    have a4 : ps.length ≤ 1 + (begs (lfs t ps)).length := by
      have e2 := congrArg List.length e
      unfold pres at e2
      simp only [List.length_cons, List.length_nil] at a1
      omega
    have := h.len
    omega
  have h5 : (lvs t 0).length = 0 := rfl
  have h6 : ends (t.take 0) = 0 := rfl
  omega

end Go.Proofs.Ytjcaikfejgeknab
