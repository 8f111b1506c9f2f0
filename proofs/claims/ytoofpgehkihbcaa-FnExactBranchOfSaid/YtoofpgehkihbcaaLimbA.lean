import Derived.Test.YtoofpgehkihbcaaLimb
import Derived.Deep.LoopGhost
import Derived.Test.YtoofpgehkihbcaaPut
import Derived.Laws.IdiomCopy
import Derived.Shelf.Spec.SlicesInsert
import Derived.Lib.AppendZerosOnto
import Derived.IntWalk
import Derived.Test.YtoofpgehkihbcaaWords

/-
  A limb more below another one, and a limb that is split: what the linked blocks then hold.
-/
namespace Go.Proofs.Ytoofpgehkihbcaa
open Go.RowKit
set_option linter.unusedVariables false

theorem up_nil (qs : List Txt) : up qs [] = [] := by simp [up]

/-- what is next above stays, if those next above stay -/
theorem up_same {qs rs : List Txt} (hr : [] ∈ qs) (hr' : [] ∈ rs) {y : Txt} (hy : y ∈ qs) (h : ∀ z, Kd qs z y → Kd rs z y) : up rs y = up qs y := by
  by_cases e : y = []
  · rw [e, up_nil, up_nil]
  · exact kd_up hr' (h _ (up_kd hr hy e))

theorem asc_mid {ks : List Txt} (ha : Asc ks) {w : Txt} {k : Nat} (h1 : ∀ q y, q < k → ks[q]? = some y → bef y w = true) (h2 : ∀ q y, k ≤ q → ks[q]? = some y → bef w y = true) : put ks w = ks.take k ++ w :: ks.drop k := by
  refine asc_ext (asc_put w ha) ?_ fun z => ?_
  · refine List.pairwise_append.2 ⟨ha.sublist (List.take_sublist _ _), List.pairwise_cons.2 ⟨fun z hz => ?_, ha.sublist (List.drop_sublist _ _)⟩, fun a hA b hB => ?_⟩
    · obtain ⟨q, hq⟩ := mem_at hz
      rw [List.getElem?_drop] at hq
      exact h2 _ z (by omega) hq
    · obtain ⟨q, hq⟩ := mem_at hA
      have hql : q < k := by
        have := (List.getElem?_eq_some_iff.1 hq).1
        rw [List.length_take] at this
        omega
      rw [List.getElem?_take, if_pos hql] at hq
      have ba := h1 q a hql hq
      rcases List.mem_cons.1 hB with e | hB
      · rw [e]; exact ba
      · obtain ⟨r, hr⟩ := mem_at hB
        rw [List.getElem?_drop] at hr
        exact bef_trans ba (h2 _ b (by omega) hr)
  · rw [mem_put, List.mem_append, List.mem_cons]
    have e : z ∈ ks ↔ z ∈ ks.take k ∨ z ∈ ks.drop k := by rw [← List.mem_append, List.take_append_drop]
    rw [e]
    constructor
    · rintro ((h | h) | h)
      · exact .inl h
      · exact .inr (.inr h)
      · exact .inr (.inl h)
    · rintro (h | h | h)
      · exact .inl (.inl h)
      · exact .inr h
      · exact .inl (.inr h)

section
variable {base : Nat} {w w1 w2 : World} {qs : List Txt} {en : Txt → Bool} {A : Txt → Nat} {V : Txt → Value}

theorem closed_grn {qs rs : List Txt} {w : Txt} (ha : Asc qs) (hc : Closed qs) (hr : [] ∈ qs) (h : Grn qs w rs) : Closed rs := by
  have key : ∀ {u v : Txt}, u ∈ qs → v ∈ qs → lcp u v ∈ rs := fun hu hv => (h.2 _).2 (.inl (hc _ hu _ hv))
  have kw : ∀ {z : Txt}, z ∈ qs → lcp w z ∈ rs := fun hz => (h.2 _).2 (.inr (.inr ⟨_, hz, rfl⟩))
  have hw : w ∈ rs := (h.2 _).2 (.inr (.inl rfl))
  have one : ∀ {z y : Txt}, z ∈ qs → y ∈ rs → lcp z y ∈ rs := by
    intro z y hz hy
    rcases (h.2 y).1 hy with k | rfl | ⟨v, hv, rfl⟩
    · exact key hz k
    · rw [lcp_comm]; exact kw hz
    · rcases lcp3 z w v with e | e
      · rw [e, lcp_comm]; exact kw hz
      · rw [e]; exact key hz hv
  intro x hx y hy
  rcases (h.2 x).1 hx with k | rfl | ⟨v, hv, rfl⟩
  · exact one k hy
  · rcases (h.2 y).1 hy with k | rfl | ⟨v, hv, rfl⟩
    · exact kw k
    · rw [lcp_self]; exact hw
    · rw [lcp_comm, lcp_pre (lcp_l _ _)]; exact kw hv
  · rw [lcp_comm]
    rcases lcp3 y w v with e | e
    · rw [e, lcp_comm]
      rcases (h.2 y).1 hy with k | rfl | ⟨u, hu, rfl⟩
      · exact kw k
      · rw [lcp_self]; exact hw
      · rw [lcp_comm, lcp_pre (lcp_l _ _)]; exact kw hu
    · rw [e, lcp_comm]; exact one hv hy

/-- a limb more -/
theorem Limbs.grow (h : Limbs base w qs en A V) (hbase : base ≤ w.heap.size) {x word : Txt} {c : UInt8} (hx : x ∈ qs) (hw : x ++ [c] <+: word) (hno : ∀ y, Kd qs x y → ¬ x ++ [c] <+: y)
    (hb : Below w.heap.size w w1) {nb k : Nat} {lv v' : Value} (hnb : w.heap.size ≤ nb) (hL : LB w1 nb lv true (.slice none 0 0)) (hlv : Bts w1 lv (word.drop x.length))
    (hk1 : ∀ q y, q < k → (kidsL qs x)[q]? = some y → bef y word = true) (hk2 : ∀ q y, k ≤ q → (kidsL qs x)[q]? = some y → bef word y = true)
    (hrow : w2.ownsRow base 60 1 v' ((kidsL qs x).length + 1) ((ptrs A (kidsL qs x)).take k ++ .pointer (some ⟨nb, 0, none⟩) :: (ptrs A (kidsL qs x)).drop k))
    (hg : Grew w1 w2 (V x) v') :
    Limbs base (w2.setCell ⟨A x, 2, none⟩ v') (put qs word) (fun z => decide (z = word) || en z) (fun z => if z = word then nb else A z) (fun z => if z = x then v' else if z = word then .slice none 0 0 else V z) ∧ KeptB w (w2.setCell ⟨A x, 2, none⟩ v') := by
  have hfar : word ∉ qs := fun hm => by
    obtain ⟨y, h1, h2, _⟩ := kd_find hx word.length word rfl hm hw
    exact hno y h1 h2
  have hne : ∀ z ∈ qs, z ≠ word := fun z hz e => hfar (e ▸ hz)
  have hkd := kd_new h.closed hx hw hno
  have hgrn := grn_new h.asc h.closed hx hw hno
  have hasc := asc_put word h.asc
  have hroot : [] ∈ put qs word := (mem_put _ _ _).2 (.inl h.root)
  have hmem := mem_put qs word
  have hrow1 := (h.below hb).row x hx
  have hszb := hb.size
  have hAx := h.lt hx
  have hVlt : ∀ z ∈ qs, ∀ k, (V z).ownBlock = some k → k < w.heap.size := fun z hz k hk => ((h.row z hz).lt k hk).2
  have hKB : KeptB w w2 := (KeptB.below hb).trans (KeptB.row hrow1 hg.grown)
  -- blocks of limbs
  have hA2 : ∀ z ∈ qs, w2.heap[A z]? = w.heap[A z]? := fun z hz => (hg.grown.block _ (Nat.lt_of_lt_of_le (h.lt hz) hszb) (h.apart hz hx)).trans (hb.block _ (h.lt hz))
  obtain ⟨lx, hlx, hbx⟩ := h.spot x hx
  have hlx2 : LB w2 (A x) lx (en x) (V x) := hlx.keep (hA2 x hx)
  have hKB' : KeptB w (w2.setCell ⟨A x, 2, none⟩ v') := hKB.trans (KeptB.setLimb hlx2 2 _)
  have hnbx : nb ≠ A x := by omega
  have hnb2 : LB (w2.setCell ⟨A x, 2, none⟩ v') nb lv true (.slice none 0 0) := hL.keep ((Deep.blk_setCell_other _ _ _ _ hnbx).trans (hg.grown.block _ hL.lt (fun e => by have := hVlt x hx nb e.symm; omega)))
  have hv'x : v'.ownBlock ≠ some (A x) := fun e => by
    rcases hg.spot with e2 | ⟨q, e2, hq⟩
    · rw [e2] at e; exact h.apart hx hx e.symm
    · rw [e2] at e; have := Option.some.inj e; omega
  have hset : ∀ (j : Nat), j ≠ A x → (w2.setCell ⟨A x, 2, none⟩ v').heap[j]? = w2.heap[j]? := fun j hj => Deep.blk_setCell_other _ _ _ _ hj
  have hup : ∀ y ∈ qs, up (put qs word) y = up qs y := fun y hy => up_same h.root hroot hy (fun z hz => (hkd z y).2 (.inl hz))
  have hupw : up (put qs word) word = x := kd_up hroot ((hkd x word).2 (.inr ⟨rfl, rfl⟩))
  have hkl := kidsL_kl hasc hroot
  have hkz : ∀ z ∈ qs, z ≠ x → kidsL (put qs word) z = kidsL qs z := fun z hz hzx => (hkl z).uniq ⟨(h.kl z).1, fun y => by
    rw [(h.kl z).2, hkd]
    exact ⟨.inl, fun hh => hh.elim id (fun hh => absurd hh.1 hzx)⟩⟩
  have hkw : kidsL (put qs word) word = [] := (hkl word).uniq ⟨List.Pairwise.nil, fun y => by
    rw [hkd]
    constructor
    · intro hy; cases hy
    · rintro (hh | hh)
      · exact absurd hh.1 hfar
      · exact absurd hh.1.symm (hne x hx)⟩
  have hkx : kidsL (put qs word) x = (kidsL qs x).take k ++ word :: (kidsL qs x).drop k := by
    rw [← asc_mid (h.kl x).1 hk1 hk2]
    refine (hkl x).uniq ⟨asc_put _ (h.kl x).1, fun y => ?_⟩
    rw [mem_put, (h.kl x).2, hkd]
    exact ⟨fun hh => hh.elim .inl (fun e => .inr ⟨rfl, e⟩), fun hh => hh.elim .inl (fun e => .inr e.2)⟩
  have hkq : ∀ z, ∀ y ∈ kidsL qs z, y ≠ word := fun z y hy => hne y ((h.kl z).2 y |>.1 hy).2.1
  have hptr : ∀ z, ptrs (fun z => if z = word then nb else A z) (kidsL qs z) = ptrs A (kidsL qs z) := fun z => ptrs_same fun y hy => if_neg (hkq z y hy)
  refine ⟨⟨hasc, hroot, closed_grn h.asc h.closed h.root hgrn, fun z hz => ?_, fun y hy z hz e => ?_, fun y hy z hz j hj1 hj2 => ?_, fun z hz => ?_, fun z hz => ?_⟩, hKB'⟩
  · rcases (hmem z).1 hz with k1 | rfl
    · simp only [if_neg (hne z k1)]; exact h.low z k1
    · simp only [if_pos]; omega
  · rcases (hmem y).1 hy with k1 | rfl
    · rcases (hmem z).1 hz with k2 | rfl
      · simp only [if_neg (hne y k1), if_neg (hne z k2)] at e
        exact h.inj y k1 z k2 e
      · simp only [if_neg (hne y k1), if_pos] at e
        have := h.lt k1; omega
    · rcases (hmem z).1 hz with k2 | rfl
      · simp only [if_neg (hne z k2), if_pos] at e
        have := h.lt k2; omega
      · rfl
  · have hv : ∀ u, u ∈ put qs word → u ≠ x → (if u = x then v' else if u = word then .slice none 0 0 else V u).ownBlock = some j → u ∈ qs ∧ (V u).ownBlock = some j := fun u hu hux hj => by
      rw [if_neg hux] at hj
      rcases (hmem u).1 hu with k1 | rfl
      · rw [if_neg (hne u k1)] at hj; exact ⟨k1, hj⟩
      · simp [Value.ownBlock] at hj
    have hvx : ∀ u, u ∈ qs → u ≠ x → (V u).ownBlock = some j → v'.ownBlock = some j → False := fun u hu hux h1 h2 => by
      rcases hg.spot with e2 | ⟨q, e2, hq⟩
      · rw [e2] at h2; exact hux (h.sep u hu x hx j h1 h2)
      · rw [e2] at h2
        have := Option.some.inj h2
        have := hVlt u hu j h1
        omega
    by_cases ey : y = x
    · by_cases ez : z = x
      · rw [ey, ez]
      · exfalso
        obtain ⟨h1, h2⟩ := hv z hz ez hj2
        rw [if_pos ey] at hj1
        exact hvx z h1 ez h2 hj1
    · obtain ⟨h1, h2⟩ := hv y hy ey hj1
      by_cases ez : z = x
      · exfalso
        rw [if_pos ez] at hj2
        exact hvx y h1 ey h2 hj2
      · obtain ⟨h3, h4⟩ := hv z hz ez hj2
        exact h.sep y h1 z h3 j h2 h4
  · rcases (hmem z).1 hz with k1 | rfl
    · have e0 : (decide (z = word) || en z) = en z := by simp [hne z k1]
      simp only [e0, if_neg (hne z k1), hup z k1]
      obtain ⟨l, h1, h2⟩ := h.spot z k1
      by_cases ez : z = x
      · subst ez
        simp only [if_pos]
        exact ⟨lx, hlx2.set2 v', hKB'.bts hbx⟩
      · simp only [if_neg ez]
        exact ⟨l, (h1.keep (hA2 z k1)).keep (hset _ (fun e => ez (h.inj z k1 x hx e))), hKB'.bts h2⟩
    · have e1 : ¬ z = x := fun e => hne x hx e.symm
      simp only [decide_true, Bool.true_or, if_pos, if_neg e1, hupw]
      exact ⟨lv, hnb2, (((KeptB.row hrow1 hg.grown).trans (KeptB.setLimb hlx2 2 _))).bts hlv⟩
  · have hgs : w2.grownBy (w2.setCell ⟨A x, 2, none⟩ v') (some (A x)) := ⟨rfl, rfl, rfl, by simp, fun j _ hne => hset j (fun e => hne (by rw [e]))⟩
    rcases (hmem z).1 hz with k1 | rfl
    · by_cases ez : z = x
      · subst ez
        simp only [if_pos, hkx]
        have e1 : ((kidsL qs z).take k ++ word :: (kidsL qs z).drop k).length = (kidsL qs z).length + 1 := by
          simp only [List.length_append, List.length_cons, List.length_take, List.length_drop]
          omega
        have e2 : ptrs (fun z => if z = word then nb else A z) ((kidsL qs z).take k ++ word :: (kidsL qs z).drop k) = (ptrs A (kidsL qs z)).take k ++ .pointer (some ⟨nb, 0, none⟩) :: (ptrs A (kidsL qs z)).drop k := by
          rw [← hptr z]
          simp [ptrs]
        rw [e1, e2]
        exact hrow.kept hgs (.inr hv'x)
      · simp only [if_neg ez, if_neg (hne z k1), hkz z k1 ez, hptr z]
        refine World.ownsRow.kept ?_ hgs (.inr (fun e => h.apart hx k1 e.symm))
        refine ((h.below hb).row z k1).kept hg.grown ?_
        by_cases hn : (V z).ownBlock = none
        · exact .inl hn
        · obtain ⟨j, hj⟩ := Option.ne_none_iff_exists'.1 hn
          exact .inr (fun e => ez (h.sep z k1 x hx j hj (e ▸ hj)))
    · have e1 : ¬ z = x := fun e => hne x hx e.symm
      simp only [if_neg e1, if_pos, hkw]
      exact World.ownsRow_nil _ _ _ _

/-- a limb that is split -/
theorem Limbs.split (h : Limbs base w qs en A V) (hbase : base ≤ w.heap.size) {x m k : Txt} (hk : Kd qs x k) (hxm : x <+: m) (hxn : x ≠ m) (hmk : m <+: k) (hmn : m ≠ k) (hen : en m = false)
    {nb rb : Nat} {lv1 lv2 vr : Value} (hnb : w.heap.size ≤ nb) (hrb : w.heap.size ≤ rb) (hvr : vr.ownBlock = some rb) (hsz : w.heap.size ≤ w2.heap.size)
    (hold : ∀ j, j < w.heap.size → j ≠ A k → w2.heap[j]? = w.heap[j]?) (hL1 : LB w2 (A k) lv1 false vr) (hL2 : LB w2 nb lv2 (en k) (V k)) (hrow : w2.ownsRow base 60 1 vr 1 [.pointer (some ⟨nb, 0, none⟩)])
    (hl1 : Bts w2 lv1 (m.drop x.length)) (hl2 : Bts w2 lv2 (k.drop m.length)) :
    Limbs base w2 (put qs m) en (fun z => if z = m then A k else if z = k then nb else A z) (fun z => if z = m then vr else V z) ∧ KeptB w w2 := by
  have hkd := kd_split h.closed hk hxm hxn hmk hmn
  have hmq : m ∉ qs := fun hh => by
    have := hk.2.2.2.2 m hh hmk hmn
    exact hxn (pre_anti hxm this)
  have hne : ∀ z ∈ qs, z ≠ m := fun z hz e => hmq (e ▸ hz)
  have hkq := hk.2.1
  have hasc := asc_put m h.asc
  have hroot : [] ∈ put qs m := (mem_put _ _ _).2 (.inl h.root)
  have hmem := mem_put qs m
  have hVlt : ∀ z ∈ qs, ∀ j, (V z).ownBlock = some j → j < w.heap.size := fun z hz j hj => ((h.row z hz).lt j hj).2
  obtain ⟨l0, hl0, _⟩ := h.spot k hkq
  have hKB : KeptB w w2 := fun b cs mm hb => by
    refine (hold b (Array.getElem?_eq_some_iff.1 hb).1 ?_).trans hb
    rintro rfl
    rw [show w.heap[A k]? = _ from hl0] at hb
    have := Option.some.inj hb
    simp at this
  have hup : ∀ y ∈ qs, y ≠ k → up (put qs m) y = up qs y := fun y hy hyk => up_same h.root hroot hy (fun z hz => (hkd z y).2 (.inl ⟨hz, hyk⟩))
  have hupm : up (put qs m) m = x := kd_up hroot ((hkd x m).2 (.inr (.inl ⟨rfl, rfl⟩)))
  have hupk : up (put qs m) k = m := kd_up hroot ((hkd m k).2 (.inr (.inr ⟨rfl, rfl⟩)))
  have hkl := kidsL_kl hasc hroot
  have hkz : ∀ z ∈ qs, z ≠ x → kidsL (put qs m) z = kidsL qs z := fun z hz hzx => (hkl z).uniq ⟨(h.kl z).1, fun y => by
    rw [(h.kl z).2, hkd]
    constructor
    · intro hh
      refine .inl ⟨hh, ?_⟩
      rintro rfl
      exact hzx (kd_uniq hh hk)
    · rintro (hh | hh | hh)
      · exact hh.1
      · exact absurd hh.1 hzx
      · exact absurd hh.1 (hne z hz)⟩
  have hkm : kidsL (put qs m) m = [k] := (hkl m).uniq ⟨by simp, fun y => by
    rw [hkd, List.mem_singleton]
    constructor
    · intro e; exact .inr (.inr ⟨rfl, e⟩)
    · rintro (hh | hh | hh)
      · exact absurd hh.1.1 hmq
      · exact absurd hh.1.symm hxn
      · exact hh.2⟩
  -- the kids of x: the one that is split has another text
  have hkx : kidsL (put qs m) x = (kidsL qs x).map fun y => if y = k then m else y := by
    have hk0 := h.kl x
    refine (hkl x).uniq ⟨?_, fun y => ?_⟩
    · refine List.pairwise_map.2 (List.Pairwise.imp_of_mem ?_ hk0.1)
      intro a b ha hb hab
      have ka := (hk0.2 a).1 ha
      have kb := (hk0.2 b).1 hb
      by_cases ea : a = k
      · subst ea
        have eb : b ≠ a := fun e => by rw [e, bef_irrefl] at hab; cases hab
        rw [if_pos rfl, if_neg eb]
        have : ¬ m <+: b := fun hp => by
          obtain ⟨c, hc⟩ := pre_next hxm hxn
          exact eb (kd_same h.closed kb ka (hc.trans hp) (hc.trans hmk))
        rcases bef_total m b with hh | hh | hh
        · exact hh
        · exact absurd (hh ▸ List.prefix_refl _) this
        · have := bef_trans hab hh
          rw [bef_asymm (bef_pre hmk hmn)] at this; cases this
      · rw [if_neg ea]
        by_cases eb : b = k
        · subst eb
          rw [if_pos rfl]
          have : ¬ m <+: a := fun hp => by
            obtain ⟨c, hc⟩ := pre_next hxm hxn
            exact ea (kd_same h.closed ka kb (hc.trans hp) (hc.trans hmk))
          rcases bef_total a m with hh | hh | hh
          · exact hh
          · exact absurd (hh ▸ List.prefix_refl _) this
          · exact absurd (pre_between hh hab hmk) this
        · rw [if_neg eb]; exact hab
    · rw [hkd, List.mem_map]
      constructor
      · rintro ⟨a, ha, rfl⟩
        have ka := (hk0.2 a).1 ha
        by_cases ea : a = k
        · rw [if_pos ea]; exact .inr (.inl ⟨rfl, rfl⟩)
        · rw [if_neg ea]; exact .inl ⟨ka, ea⟩
      · rintro (hh | hh | hh)
        · exact ⟨y, (hk0.2 y).2 hh.1, if_neg hh.2⟩
        · exact ⟨k, (hk0.2 k).2 hk, by rw [if_pos rfl, hh.2]⟩
        · exact absurd hh.1 hxn
  have hAz : ∀ z ∈ qs, z ≠ k → A z ≠ A k := fun z hz hzk e => hzk (h.inj z hz k hkq e)
  have hptr : ∀ z, z ≠ x → ptrs (fun z => if z = m then A k else if z = k then nb else A z) (kidsL qs z) = ptrs A (kidsL qs z) := fun z hzx => ptrs_same fun y hy => by
    have ky := ((h.kl z).2 y).1 hy
    have hyk : y ≠ k := by rintro rfl; exact hzx (kd_uniq ky hk)
    simp only [if_neg (hne y ky.2.1), if_neg hyk]
  have hkeep : ∀ z ∈ qs, w2.ownsRow base 60 1 (V z) (kidsL qs z).length (ptrs A (kidsL qs z)) := fun z hz => by
    have hr := h.row z hz
    refine ⟨hr.1, ?_⟩
    rcases hr.2 with e | ⟨g, cap, cur, e, hb, hg, rest⟩
    · exact .inl e
    · have hgl := hVlt z hz g (by rw [e]; rfl)
      refine .inr ⟨g, cap, cur, e, hb, ?_, rest⟩
      rw [hold g hgl (fun e2 => h.apart hkq hz (by rw [e, ← e2]; rfl))]
      exact hg
  refine ⟨⟨hasc, hroot, closed_split h.closed hkq hmk, fun z hz => ?_, fun y hy z hz e => ?_, fun y hy z hz j hj1 hj2 => ?_, fun z hz => ?_, fun z hz => ?_⟩, hKB⟩
  · rcases (hmem z).1 hz with k1 | rfl
    · simp only [if_neg (hne z k1)]
      split
      · omega
      · exact h.low z k1
    · simp only [if_pos]; exact h.low k hkq
  · have hlk := h.lt hkq
    have hval : ∀ u, u ∈ put qs m → (u = m ∧ (if u = m then A k else if u = k then nb else A u) = A k) ∨ (u = k ∧ u ≠ m ∧ (if u = m then A k else if u = k then nb else A u) = nb) ∨ (u ∈ qs ∧ u ≠ k ∧ u ≠ m ∧ (if u = m then A k else if u = k then nb else A u) = A u) := fun u hu => by
      rcases (hmem u).1 hu with k1 | k1
      · by_cases e2 : u = k
        · exact .inr (.inl ⟨e2, hne u k1, by rw [if_neg (hne u k1), if_pos e2]⟩)
        · exact .inr (.inr ⟨k1, e2, hne u k1, by rw [if_neg (hne u k1), if_neg e2]⟩)
      · exact .inl ⟨k1, if_pos k1⟩
    rcases hval y hy with ⟨a1, a2⟩ | ⟨a1, a0, a2⟩ | ⟨a1, a0, a3, a2⟩ <;> rcases hval z hz with ⟨b1, b2⟩ | ⟨b1, b0, b2⟩ | ⟨b1, b0, b3, b2⟩ <;> rw [a2, b2] at e
    · rw [a1, b1]
    · omega
    · exact absurd e.symm (hAz z b1 b0)
    · omega
    · rw [a1, b1]
    · have := h.lt b1; omega
    · exact absurd e (hAz y a1 a0)
    · have := h.lt a1; omega
    · exact h.inj y a1 z b1 e
  · by_cases ey : y = m
    · by_cases ez : z = m
      · rw [ey, ez]
      · exfalso
        rw [if_pos ey, hvr] at hj1
        rw [if_neg ez] at hj2
        have hzq := ((hmem z).1 hz).resolve_right ez
        have := hVlt z hzq j hj2
        have := Option.some.inj hj1
        omega
    · have hyq := ((hmem y).1 hy).resolve_right ey
      rw [if_neg ey] at hj1
      by_cases ez : z = m
      · exfalso
        rw [if_pos ez, hvr] at hj2
        have := hVlt y hyq j hj1
        have := Option.some.inj hj2
        omega
      · rw [if_neg ez] at hj2
        exact h.sep y hyq z (((hmem z).1 hz).resolve_right ez) j hj1 hj2
  · rcases (hmem z).1 hz with k1 | rfl
    · simp only [if_neg (hne z k1)]
      by_cases ez : z = k
      · subst ez
        simp only [if_pos, hupk]
        exact ⟨lv2, hL2, hl2⟩
      · simp only [if_neg ez, hup z k1 ez]
        obtain ⟨l, h1, h2⟩ := h.spot z k1
        exact ⟨l, h1.keep (hold _ (h.lt k1) (hAz z k1 ez)), hKB.bts h2⟩
    · simp only [if_pos, hupm, hen]
      exact ⟨lv1, hL1, hl1⟩
  · rcases (hmem z).1 hz with k1 | rfl
    · simp only [if_neg (hne z k1)]
      by_cases ez : z = x
      · subst ez
        have e1 : ptrs (fun z => if z = m then A k else if z = k then nb else A z) (kidsL (put qs m) z) = ptrs A (kidsL qs z) := by
          rw [hkx]
          unfold ptrs
          rw [List.map_map]
          refine List.map_congr_left fun y hy => ?_
          have ky := ((h.kl z).2 y).1 hy
          simp only [Function.comp]
          by_cases eyk : y = k
          · rw [if_pos eyk, if_pos rfl, eyk]
          · rw [if_neg eyk, if_neg (hne y ky.2.1), if_neg eyk]
        have e2 : (kidsL (put qs m) z).length = (kidsL qs z).length := by rw [hkx, List.length_map]
        rw [e1, e2]
        exact hkeep z k1
      · rw [hkz z k1 ez, hptr z ez]
        exact hkeep z k1
    · simp only [if_pos, hkm]
      have hkm' : k ≠ z := fun e => hmn e.symm
      simpa [ptrs, if_neg hkm'] using hrow

end

end Go.Proofs.Ytoofpgehkihbcaa

/-
  The library's search in the limbs below a limb, by their first letters.
-/
namespace Go.Proofs.Ytoofpgehkihbcaa
open Go.RowKit
set_option linter.unusedVariables false

theorem isNaN_byte (f : Int) (w : World) : Calls Try.prog 92 #[.int .u8 f] w fun e w' => e = .returned (.bool false) ∧ w = w' := by
  have hne : (f != f) = false := by simp
  go_enter Try.func92, Try.ntmps92
  go_wp2
  go_ret
  exact ⟨rfl, rfl⟩

theorem cmp_lt (f c : Int) (w : World) (h : f < c) : Calls Try.prog 86 #[.int .u8 f, .int .u8 c] w fun e w' => e = .returned (.int .i64 (-1)) ∧ w = w' := by
  have c1 := Lib.hid (isNaN_byte f w)
  have c2 := Lib.hid (isNaN_byte c w)
  go_enter Try.func86, Try.ntmps86
  go_wp2_with (go_at_call 92; refine (isNaN_byte _ _).mono ?_; rintro e w' ⟨rfl, rfl⟩)
  go_ret
  exact ⟨rfl, rfl⟩

theorem cmp_eq (f : Int) (w : World) : Calls Try.prog 86 #[.int .u8 f, .int .u8 f] w fun e w' => e = .returned (.int .i64 0) ∧ w = w' := by
  have h1 : ¬ f < f := by omega
  go_enter Try.func86, Try.ntmps86
  go_wp2_with (go_at_call 92; refine (isNaN_byte _ _).mono ?_; rintro e w' ⟨rfl, rfl⟩)
  go_ret
  exact ⟨rfl, rfl⟩

theorem cmp_gt (f c : Int) (w : World) (h : c < f) : Calls Try.prog 86 #[.int .u8 f, .int .u8 c] w fun e w' => e = .returned (.int .i64 1) ∧ w = w' := by
  have h1 : ¬ f < c := by omega
  go_enter Try.func86, Try.ntmps86
  go_wp2_with (go_at_call 92; refine (isNaN_byte _ _).mono ?_; rintro e w' ⟨rfl, rfl⟩)
  go_ret
  exact ⟨rfl, rfl⟩

/-- what the comparison of first letters says -/
def cmpU (f c : UInt8) : Int := if f.toNat < c.toNat then -1 else if f.toNat = c.toNat then 0 else 1

theorem cmp_u8 (f c : UInt8) (w : World) : Calls Try.prog 86 #[.int .u8 (f.toNat : Int), .int .u8 (c.toNat : Int)] w fun e w' => e = .returned (.int .i64 (cmpU f c)) ∧ w = w' := by
  unfold cmpU
  rcases Nat.lt_trichotomy f.toNat c.toNat with h | h | h
  · rw [if_pos h]; exact cmp_lt _ _ w (by omega)
  · rw [if_neg (by omega), if_pos h, h]; exact cmp_eq _ w
  · rw [if_neg (by omega), if_neg (by omega)]; exact cmp_gt _ _ w (by omega)

/-- the function that is handed to the search -/
theorem findFn_any (q : Nat) (l : Value) (x : Txt) (e : Bool) (v : Value) (w : World) (hl : LB w q l e v) (hb : Bts w l x) (f c : UInt8) (hx : x[0]? = some f) :
    Calls Try.prog 85 #[.pointer (some ⟨q, 0, none⟩), .int .u8 (c.toNat : Int)] w fun e w' => e = .returned (.int .i64 (cmpU f c)) ∧ w = w' := by
  rcases hb with ⟨rfl, rfl⟩ | ⟨b, o, cp, cs, m, rfl, hbb, hlc, hc63, hat⟩
  · simp at hx
  · have h0 := hl.c0
    have hlen : 0 < x.length := (List.getElem?_eq_some_iff.1 hx).1
    have h1 : w.cell? ⟨b, o, none⟩ = some (.int .u8 (f.toNat : Int)) := by
      have := hat 0 f hx
      simp only [Nat.add_zero] at this
      simp [World.cell?, hbb, this]
    obtain ⟨n, hn⟩ : ∃ n, x.length = n := ⟨_, rfl⟩
    rw [hn] at h0 hlen
    clear hx hat hbb hlc hn hl
    have cC := Lib.hid (cmp_u8 f c w)
    obtain ⟨fi, hfi⟩ : ∃ fi : Int, (f.toNat : Int) = fi := ⟨_, rfl⟩
    obtain ⟨ci, hci⟩ : ∃ ci : Int, (c.toNat : Int) = ci := ⟨_, rfl⟩
    obtain ⟨r, hr⟩ : ∃ r, cmpU f c = r := ⟨_, rfl⟩
    rw [hfi, hci, hr] at cC
    rw [hfi] at h1
    rw [hci, hr]
    clear hfi hci hr
    go_enter Try.func85, Try.ntmps85
    go_wp2_with (go_at_call 86; refine cC.out.mono ?_; rintro e2 w' ⟨rfl, rfl⟩)
    go_ret
    exact ⟨rfl, rfl⟩

/-- a row of limbs with these first letters -/
def Firsts (w : World) (g n : Nat) (fs : Nat → UInt8) : Prop := ∀ j, j < n → ∃ q l x e v, w.cell? ⟨g, j, none⟩ = some (.pointer (some ⟨q, 0, none⟩)) ∧ LB w q l e v ∧ Bts w l x ∧ x[0]? = some (fs j)

theorem shr_half (i j : Nat) (h : i + j ≤ 1000000) : IntKind.i64.wrap (IntKind.u64.wrap ((IntKind.u64.wrap ((i : Int) + (j : Int))) / 2)) = ((((i + j) / 2 : Nat)) : Int) := by
  have e1 : IntKind.u64.wrap ((i : Int) + (j : Int)) = (i : Int) + (j : Int) := by
    simp [IntKind.wrap, IntKind.bits, IntKind.signed]
    omega
  rw [e1]
  have e2 : IntKind.u64.wrap (((i : Int) + (j : Int)) / 2) = ((i : Int) + (j : Int)) / 2 := by
    simp [IntKind.wrap, IntKind.bits, IntKind.signed]
    omega
  rw [e2, IntKind.wrap_i64]
  omega

end Go.Proofs.Ytoofpgehkihbcaa

/-
  The library's binary search in a row of limbs.
-/
namespace Go.Proofs.Ytoofpgehkihbcaa
open Go.RowKit
set_option linter.unusedVariables false

/-- where the first of those that are not before c stands -/
def Spot (n : Nat) (fs : Nat → UInt8) (c : UInt8) (k : Nat) : Prop := k ≤ n ∧ (∀ q, q < k → (fs q).toNat < c.toNat) ∧ ∀ q, k ≤ q → q < n → c.toNat ≤ (fs q).toNat

def SearchPost (n : Nat) (fs : Nat → UInt8) (c : UInt8) (w : World) (e : Ending) (w' : World) : Prop :=
  ∃ k, Spot n fs c k ∧ e = .returned (.tuple #[.int .i64 (k : Int), .bool (decide (k < n ∧ fs k = c))]) ∧ w = w'

set_option maxRecDepth 1000000 in
set_option maxHeartbeats 1000000 in
theorem search_any (a : Option Addr) (g n cp : Nat) (fs : Nat → UInt8) (c : UInt8) (w : World) (ha : 0 < n → a = some ⟨g, 0, none⟩) (hcp : n ≤ cp) (hn : n ≤ 1000) (hc63 : cp ≤ 9223372036854775807) (hF : Firsts w g n fs)
    (hup : ∀ p q, p < q → q < n → (fs p).toNat < (fs q).toNat) :
    Calls Try.prog 84 #[.slice a n cp, .int .u8 (c.toNat : Int), .func (.func 85) #[] #[]] w (SearchPost n fs c w) := by
  have HA := Lib.hid ha
  have HF := Lib.hid hF
  have HU := Lib.hid hup
  clear ha hF hup
  go_enter Try.func84, Try.ntmps84
  go_wp2
  go_loop [9, 10] (fun ti tj => ∃ i j : Nat, i ≤ j ∧ j ≤ n ∧ ti = .int .i64 i ∧ tj = .int .i64 j ∧ Hid (∀ q, q < i → (fs q).toNat < c.toNat) ∧ Hid (∀ q, j ≤ q → q < n → c.toNat ≤ (fs q).toNat)) (fun ti tj => (intOf tj).toNat - (intOf ti).toNat)
  case atStart => exact ⟨0, n, by omega, by omega, rfl, rfl, Lib.hid (by omega), Lib.hid (by omega)⟩
  case round =>
    obtain ⟨i, j, hij, hjn, rfl, rfl, HL, HR⟩ := hrel
    by_cases hlt : i < j
    · obtain ⟨h, hh⟩ : ∃ h : Nat, (i + j) / 2 = h := ⟨_, rfl⟩
      have hhi : i ≤ h := by omega
      have hhj : h < j := by omega
      have hhn : h < n := by omega
      have hidx : ((i : Int) + (j : Int)) / 2 = (h : Int) := by omega
      obtain rfl := HA.out (by omega)
      obtain ⟨q, l, x, e, v, hcell, hLB, hBts, hx0⟩ := HF.out h hhn
      have cF := Lib.hid (findFn_any q l x e v w hLB hBts (fs h) c hx0)
      clear hLB hBts hx0 hh
      by_cases hcmp : (fs h).toNat < c.toNat
      · have e1 : cmpU (fs h) c = -1 := by unfold cmpU; rw [if_pos hcmp]
        rw [e1] at cF
        clear e1
        go_wp2_with (go_at_call 85; refine cF.out.mono ?_; rintro en w2 ⟨rfl, rfl⟩)
        go_round
        case rel => exact ⟨h + 1, j, by omega, hjn, by go_num, rfl, Lib.hid (fun p hp => by
          rcases Nat.lt_or_ge p h with k | k
          · have := HU.out p h k hhn; omega
          · obtain rfl : p = h := by omega
            exact hcmp), HR⟩
        case measure => simp [intOf]; omega
      · have e1 : ¬ cmpU (fs h) c < 0 := by unfold cmpU; rw [if_neg hcmp]; split <;> omega
        obtain ⟨r, hr⟩ : ∃ r, cmpU (fs h) c = r := ⟨_, rfl⟩
        rw [hr] at e1 cF
        clear hr
        go_wp2_with (go_at_call 85; refine cF.out.mono ?_; rintro en w2 ⟨rfl, rfl⟩)
        go_round
        case rel => exact ⟨i, h, hhi, by omega, rfl, rfl, HL, Lib.hid (fun p hp hpn => by
          rcases Nat.lt_or_ge h p with k | k
          · have := HU.out h p k hpn; omega
          · obtain rfl : p = h := by omega
            omega)⟩
        case measure => simp [intOf]; omega
    · obtain rfl : i = j := by omega
      have hS : Hid (Spot n fs c i) := Lib.hid ⟨hjn, HL.out, HR.out⟩
      by_cases hin : i < n
      · obtain rfl := HA.out (by omega)
        obtain ⟨q, l, x, e, v, hcell, hLB, hBts, hx0⟩ := HF.out i hin
        have cF := Lib.hid (findFn_any q l x e v w hLB hBts (fs i) c hx0)
        clear hLB hBts hx0
        have hge := HR.out i (Nat.le_refl _) hin
        by_cases heq : fs i = c
        · have e1 : cmpU (fs i) c = 0 := by unfold cmpU; rw [if_neg (by omega), if_pos (by rw [heq])]
          rw [e1] at cF
          have HE : Hid (decide (i < n ∧ fs i = c) = true) := Lib.hid (decide_eq_true ⟨hin, heq⟩)
          clear e1 hge heq
          go_wp2_with (go_at_call 85; refine cF.out.mono ?_; rintro en w2 ⟨rfl, rfl⟩)
          go_ret2
          exact ⟨i, hS.out, by rw [HE.out]; rfl, rfl⟩
        · have hne : (fs i).toNat ≠ c.toNat := fun hh => heq (UInt8.toNat_inj.1 hh)
          have e1 : cmpU (fs i) c = 1 := by unfold cmpU; rw [if_neg (by omega), if_neg hne]
          rw [e1] at cF
          have HE : Hid (decide (i < n ∧ fs i = c) = false) := Lib.hid (decide_eq_false (fun hh => heq hh.2))
          clear e1 hge heq hne
          go_wp2_with (go_at_call 85; refine cF.out.mono ?_; rintro en w2 ⟨rfl, rfl⟩)
          go_ret2
          exact ⟨i, hS.out, by rw [HE.out]; rfl, rfl⟩
      · have HE : Hid (decide (i < n ∧ fs i = c) = false) := Lib.hid (decide_eq_false (fun hh => hin hh.1))
        go_wp2
        go_ret2
        exact ⟨i, hS.out, by rw [HE.out]; rfl, rfl⟩

end Go.Proofs.Ytoofpgehkihbcaa

/-
  Cells that are set one by one in a row that a call owns; the front of such a row.
-/
namespace Go.Proofs.Ytoofpgehkihbcaa
open Go.RowKit
set_option linter.unusedVariables false

/-- cells that are set one by one in a row that a call owns -/
theorem own_setCells {base : Nat} {e : TypeId} {g n c : Nat} : ∀ (vs : List Value) (o : Nat) (w : World) (xs : List Value), w.ownsRow base e 1 (.slice (some ⟨g, 0, none⟩) n c) n xs → o + vs.length ≤ n →
    (w.setCells g o vs).ownsRow base e 1 (.slice (some ⟨g, 0, none⟩) n c) n (xs.take o ++ vs ++ xs.drop (o + vs.length)) ∧ w.grownBy (w.setCells g o vs) (some g)
  | [], o, w, xs, h, _ => ⟨by simpa [World.setCells] using h, World.grownBy.refl _ _⟩
  | v :: r, o, w, xs, h, hl => by
    have hx : xs.length = n := by have := h.1; omega
    simp only [List.length_cons] at hl
    obtain ⟨h1, h2⟩ := own_setCells r (o + 1) (w.setCell ⟨g, o, none⟩ v) _ (h.stored o v).1 (by omega)
    rw [World.setCells]
    refine ⟨?_, (h.stored o v).2.trans h2⟩
    have e1 : (xs.set o v).take (o + 1) = xs.take o ++ [v] := by
      rw [List.take_set, List.take_succ_eq_append_getElem (by omega), List.set_append_right _ _ (by simp; omega)]
      have : o - (xs.take o).length = 0 := by simp; omega
      rw [this]
      rfl
    have e2 : (xs.set o v).drop (o + 1 + r.length) = xs.drop (o + (v :: r).length) := by
      rw [List.drop_set_of_lt (by omega)]
      congr 1
      simp; omega
    rw [e1, e2] at h1
    simpa [List.append_assoc] using h1

theorem own_front {base : Nat} {w : World} {e : TypeId} {g n c m : Nat} {xs : List Value} (h : w.ownsRow base e 1 (.slice (some ⟨g, 0, none⟩) n c) n xs) (hm : m ≤ n) : w.ownsRow base e 1 (.slice (some ⟨g, 0, none⟩) m c) m (xs.take m) := by
  have hx : xs.length = n := by have := h.1; omega
  refine ⟨by simp; omega, ?_⟩
  rcases h.2 with ⟨h', _⟩ | ⟨g', cap', cur, h', hb, hg, hnc, hcm, hcs, htake⟩
  · simp at h'
  · simp only [Value.slice.injEq, Option.some.injEq, Addr.mk.injEq, and_true, true_and] at h'
    obtain ⟨rfl, rfl⟩ := h'
    refine .inr ⟨g, c, cur, rfl, hb, hg, by omega, hcm, hcs, ?_⟩
    rw [← htake, List.take_take]
    congr 1
    omega

end Go.Proofs.Ytoofpgehkihbcaa

/-
  The library's insertion of one limb into a row of limbs that the call owns.
-/
namespace Go.Proofs.Ytoofpgehkihbcaa
open Go.RowKit Go.Lib
set_option linter.unusedVariables false

theorem infoLP : (Try.prog.info? 60).map (fun i => (i.zero, i.size, i.bytes)) = some (some (.pointer none), 1, 8) := by kernel_rfl

def InsPost (base : Nat) (w : World) (v : Value) (n i : Nat) (xs : List Value) (p : Value) (e : Ending) (w' : World) : Prop :=
  ∃ v', e = .returned v' ∧ w'.ownsRow base 60 1 v' (n + 1) (xs.take i ++ p :: xs.drop i) ∧ Grew w w' v v'

theorem blk_cell {w : World} {b : Nat} {p : Value} {t : TypeId} (h : w.heap[b]? = some (.cells #[p] t (0, 0))) : ∀ (j : Nat) (u : Value), [p][j]? = some u → w.cell? ((⟨b, 0, none⟩ : Addr).add j) = some u := by
  intro j u hu
  cases j with
  | zero =>
    simp only [List.getElem?_cons_zero, Option.some.injEq] at hu
    subst hu
    simp [Addr.add, World.cell?, h]
  | succ j => simp at hu

/-- at the end -/
theorem insert_end (base : Nat) (v : Value) (n : Nat) (xs : List Value) (vb : Nat) (p : Value) (w : World) (hown : w.ownsRow base 60 1 v n xs) (hn : n ≤ 1000) (hbase : base ≤ w.heap.size)
    (hvb : w.heap[vb]? = some (.cells #[p] 60 (0, 0))) (h1 : p.oneCell' = true) :
    Calls Try.prog 66 #[v, .int .i64 (n : Int), .slice (some ⟨vb, 0, none⟩) 1 1] w (InsPost base w v n n xs p) := by
  obtain ⟨i0, hii, hz0, hz1, hz2⟩ := info_parts infoLP
  have hxl : xs.length = n := by have := hown.1; omega
  have HL : Hid (xs.take n ++ p :: xs.drop n = xs ++ [p]) := Lib.hid (by rw [List.take_of_length_le (by omega), List.drop_eq_nil_of_le (by omega)])
  have hsp : (∃ g cap, v = .slice (some ⟨g, 0, none⟩) n cap ∧ n ≤ cap ∧ cap ≤ 9223372036854775807) ∨ (v = .slice none 0 0 ∧ n = 0) := by
    rcases hown.2 with h | ⟨g, cap, cur, h, _, _, h3, h4, _⟩
    · exact .inr h
    · exact .inl ⟨g, cap, h, h3, by unfold maxLen at h4; exact h4⟩
  have HO := Lib.hid hown
  have HB := Lib.hid hbase
  have HV := Lib.hid hvb
  clear hown hbase hvb hxl
  rcases hsp with ⟨g, cap, rfl, hnc, hc63⟩ | ⟨rfl, rfl⟩
  · by_cases hcn : cap = n
    · subst hcn
      go_enter Try.func66, Try.ntmps66
      go_wp2_with (at_builtin; refine wpList_append_own_at _ rfl _ _ 87 rfl base 60 i0 (.pointer none) 1 8 Try.underlying87 hii hz0 hz1 hz2 rfl (by decide) _ _ _ rfl HO.out ⟨vb, 0, none⟩ 1 1 [p] rfl rfl (blk_cell HV.out) (by simpa using h1) (by unfold maxLen; omega) (by omega) HB.out ?_; intro v2 w2 hO2 hG2 _ hat; have HO2 := Lib.hid hO2; have HG2 : Hid (Grew w w2 _ v2) := Lib.hid ⟨hG2, hat.elim .inl (fun e => .inr ⟨_, e, Nat.le_refl _⟩)⟩; clear hO2 hG2 hat)
      go_ret
      exact ⟨_, rfl, by rw [HL.out]; exact HO2.out, HG2.out⟩
    · go_enter Try.func66, Try.ntmps66
      go_wp2_with (at_builtin; refine wpList_append_own_at _ rfl _ _ 87 rfl base 60 i0 (.pointer none) 1 8 Try.underlying87 hii hz0 hz1 hz2 rfl (by decide) _ _ _ rfl HO.out ⟨vb, 0, none⟩ 1 1 [p] rfl rfl (blk_cell HV.out) (by simpa using h1) (by unfold maxLen; omega) (by omega) HB.out ?_; intro v2 w2 hO2 hG2 _ hat; have HO2 := Lib.hid hO2; have HG2 : Hid (Grew w w2 _ v2) := Lib.hid ⟨hG2, hat.elim .inl (fun e => .inr ⟨_, e, Nat.le_refl _⟩)⟩; clear hO2 hG2 hat)
      go_ret
      exact ⟨_, rfl, by rw [HL.out]; exact HO2.out, HG2.out⟩
  · go_enter Try.func66, Try.ntmps66
    go_wp2_with (at_builtin; refine wpList_append_own_at _ rfl _ _ 87 rfl base 60 i0 (.pointer none) 1 8 Try.underlying87 hii hz0 hz1 hz2 rfl (by decide) _ _ _ rfl HO.out ⟨vb, 0, none⟩ 1 1 [p] rfl rfl (blk_cell HV.out) (by simpa using h1) (by unfold maxLen; omega) (by omega) HB.out ?_; intro v2 w2 hO2 hG2 _ hat; have HO2 := Lib.hid hO2; have HG2 : Hid (Grew w w2 _ v2) := Lib.hid ⟨hG2, hat.elim .inl (fun e => .inr ⟨_, e, Nat.le_refl _⟩)⟩; clear hO2 hG2 hat)
    go_ret
    exact ⟨_, rfl, by rw [HL.out]; exact HO2.out, HG2.out⟩

end Go.Proofs.Ytoofpgehkihbcaa

/-
  The library's insertion of one limb in the midst of a row that the call owns: in place, and in a new row.
-/
namespace Go.Proofs.Ytoofpgehkihbcaa
open Go.RowKit Go.Lib
set_option linter.unusedVariables false

theorem own_longer {base : Nat} {w : World} {e : TypeId} {g n cap : Nat} {xs : List Value} (h : w.ownsRow base e 1 (.slice (some ⟨g, 0, none⟩) n cap) n xs) (hr : n + 1 ≤ cap) :
    ∃ z, w.ownsRow base e 1 (.slice (some ⟨g, 0, none⟩) (n + 1) cap) (n + 1) (xs ++ [z]) := by
  have hl := h.1
  rcases h.2 with ⟨h', _⟩ | ⟨g', cap', cur, h', hb, hg, hnc, hcm, hcs, htake⟩
  · simp at h'
  · simp only [Value.slice.injEq, Option.some.injEq, Addr.mk.injEq, and_true, true_and] at h'
    obtain ⟨rfl, rfl⟩ := h'
    have hlt : n < cur.toList.length := by simp; omega
    refine ⟨cur.toList[n], by simp; omega, .inr ⟨g, cap, cur, rfl, hb, hg, hr, hcm, hcs, ?_⟩⟩
    have e1 : (n + 1) * 1 = n + 1 := by omega
    have e2 : n * 1 = n := by omega
    rw [e2] at htake
    rw [e1, List.take_succ_eq_append_getElem hlt, htake]

/-- what the two copies leave -/
theorem own_shift {base : Nat} {w : World} {e : TypeId} {g n cap i : Nat} {xs : List Value} {p : Value} (h : w.ownsRow base e 1 (.slice (some ⟨g, 0, none⟩) n cap) n xs) (hr : n + 1 ≤ cap) (hi : i < n) :
    ((w.setCells g (i + 1) (xs.drop i)).setCells g i [p]).ownsRow base e 1 (.slice (some ⟨g, 0, none⟩) (n + 1) cap) (n + 1) (xs.take i ++ p :: xs.drop i) ∧ w.grownBy ((w.setCells g (i + 1) (xs.drop i)).setCells g i [p]) (some g) := by
  have hl : xs.length = n := by have := h.1; omega
  obtain ⟨z, hz⟩ := own_longer h hr
  have hdl : (xs.drop i).length = n - i := by rw [List.length_drop, hl]
  obtain ⟨h1, h2⟩ := own_setCells (xs.drop i) (i + 1) w _ hz (by rw [hdl]; omega)
  have e1 : (xs ++ [z]).take (i + 1) ++ xs.drop i ++ (xs ++ [z]).drop (i + 1 + (xs.drop i).length) = xs.take (i + 1) ++ xs.drop i := by
    have e0 : (xs ++ [z]).drop (i + 1 + (xs.drop i).length) = [] := List.drop_eq_nil_of_le (by rw [hdl]; simp; omega)
    rw [List.take_append_of_le_length (by omega), e0, List.append_nil]
  rw [e1] at h1
  obtain ⟨h3, h4⟩ := own_setCells [p] i _ _ h1 (by simp; omega)
  refine ⟨?_, h2.trans h4⟩
  have e2 : (xs.take (i + 1) ++ xs.drop i).take i = xs.take i := by
    rw [List.take_append_of_le_length (by rw [List.length_take]; omega), List.take_take]
    congr 1
    omega
  have e3 : (xs.take (i + 1) ++ xs.drop i).drop (i + [p].length) = xs.drop i := by
    have : i + [p].length = (xs.take (i + 1)).length := by rw [List.length_take]; simp; omega
    rw [this, List.drop_left]
  rw [e2, e3, List.append_assoc] at h3
  exact h3

set_option maxRecDepth 1000000 in
set_option maxHeartbeats 4000000 in
theorem insert_room (base : Nat) (g n cap i : Nat) (xs : List Value) (vb : Nat) (p : Value) (w : World) (hown : w.ownsRow base 60 1 (.slice (some ⟨g, 0, none⟩) n cap) n xs) (hi : i < n) (hn : n ≤ 1000) (hroom : n + 1 ≤ cap) (hne : vb ≠ g)
    (hvb : w.heap[vb]? = some (.cells #[p] 60 (0, 0))) (h1 : p.oneCell' = true) (h1x : ∀ u ∈ xs, u.oneCell' = true) :
    Calls Try.prog 66 #[.slice (some ⟨g, 0, none⟩) n cap, .int .i64 (i : Int), .slice (some ⟨vb, 0, none⟩) 1 1] w (InsPost base w (.slice (some ⟨g, 0, none⟩) n cap) n i xs p) := by
  obtain ⟨i0, hii, hz0, hz1, hz2⟩ := info_parts infoLP
  have hxl : xs.length = n := by have := hown.1; omega
  obtain ⟨cur, hg, hcs, hc63⟩ : ∃ cur, w.heap[g]? = some (.cells cur 60 (0, 0)) ∧ cur.size = cap ∧ cap ≤ 9223372036854775807 := by
    rcases hown.2 with ⟨h', _⟩ | ⟨g', cap', cur, h', hb, hg, hnc, hcm, hcs, htake⟩
    · simp at h'
    · simp only [Value.slice.injEq, Option.some.injEq, Addr.mk.injEq, and_true, true_and] at h'
      obtain ⟨rfl, rfl⟩ := h'
      exact ⟨cur, hg, by omega, by unfold maxLen at hcm; exact hcm⟩
  have hsz : (Try.prog.info? 60).map (·.size) = some 1 := by rw [hii]; simp [hz1]
  have hcells : ∀ j v, xs[j]? = some v → w.cell? ⟨g, 0 + j, none⟩ = some v := fun j v hj => by
    rw [Nat.zero_add, hown.cellAt j (by have := (List.getElem?_eq_some_iff.1 hj).1; omega), hj]
  have hsp : ∀ j, j < n + 1 → (w.cell? ⟨g, 0 + j, none⟩).isSome = true := fun j hj => by
    simp [World.cell?, hg]
    omega
  have hfz : ∀ j, w.frozen? ⟨g, j, none⟩ = false := fun j => by simp [World.frozen?, hg]
  have hdl : (xs.drop i).length = n - i := by rw [List.length_drop, hxl]
  have hov : ∀ lb cb, (callFunc 87 #[.slice (some ⟨vb, 0, none⟩) 1 1, .slice (some ⟨g, i + 1, none⟩) lb cb]).run Try.prog w = .ok (.value (.bool false)) w := fun lb cb => by
    rw [run_callFunc_extern Try.func87 (by kernel_rfl) (by kernel_rfl) (by kernel_rfl) (e := Extern.SlicesOverlaps.overlaps #[87, 87] #[4]) (by kernel_rfl),
      Lib.run_overlaps_apart w 87 4 60 Try.underlying87 1 Try.sizeOf60 ⟨vb, 0, none⟩ ⟨g, i + 1, none⟩ 1 1 lb cb hne 60 60 1 cur.size (by simp [World.shape?, hvb]) (by simp [World.shape?, hg]) (by omega) (by simp [World.frozen?, hvb]) (by simp [World.frozen?, hvb])]
    rfl
  have hcp1 : ∀ ty dc sc, (Builtin.copy_ #[87, 87] ty #[.slice (some ⟨g, i + 1, none⟩) (n - i) dc, .slice (some ⟨g, i, none⟩) (n + 1 - i) sc]).run Try.prog w.drew = .ok (goInt (xs.drop i).length) (w.drew.setCells g (i + 1) (xs.drop i)) := fun ty dc sc =>
    run_copy_cells w.drew _ _ ty 60 g (i + 1) (n - i) dc ⟨g, i, none⟩ (n + 1 - i) sc (xs.drop i) Try.underlying87 hsz (by rw [hdl]; simp only [Nat.min_def]; split <;> omega)
      (fun j v hj => by
        rw [Addr.add_lit]
        have := hcells (i + j) v (by rwa [List.getElem?_drop] at hj)
        rw [Nat.zero_add] at this
        exact this)
      (fun j hj => by have := hsp (i + 1 + j) (by omega); rw [Nat.zero_add] at this; exact this) (fun j hj => hfz _) (fun v hv => h1x v (List.mem_of_mem_drop hv))
  obtain ⟨hO2, hG2⟩ := own_shift (p := p) (own_stay hown (below_drewN (Below.refl _ w) 1)) hroom hi
  obtain ⟨W1, hW1⟩ : ∃ W1, W1 = w.drew.setCells g (i + 1) (xs.drop i) := ⟨_, rfl⟩
  have hW1' : w.drewN 1 = w.drew := rfl
  rw [hW1', ← hW1] at hO2
  rw [hW1', ← hW1] at hG2
  have hsp1 : ∀ k, k < n + 1 → (W1.cell? ⟨g, k, none⟩).isSome = true := fun k hk => by
    rw [hW1]
    exact isSome_setCells g _ _ _ (fun j hj => by have := hsp (i + 1 + j) (by omega); rw [Nat.zero_add] at this; exact this) _ (by have := hsp k hk; rw [Nat.zero_add] at this; exact this)
  have hcp2 : ∀ (W : World), (∀ x, W.cell? x = W1.cell? x) → (∀ x, W.frozen? x = W1.frozen? x) → ∀ ty dc, (Builtin.copy_ #[87, 87] ty #[.slice (some ⟨g, i, none⟩) (n + 1 - i) dc, .slice (some ⟨vb, 0, none⟩) 1 1]).run Try.prog W = .ok (goInt [p].length) (W.setCells g i [p]) := fun W hWc hWf ty dc =>
    run_copy_cells W _ _ ty 60 g i (n + 1 - i) dc ⟨vb, 0, none⟩ 1 1 [p] Try.underlying87 hsz (by simp only [Nat.min_def, List.length_singleton]; split <;> omega)
      (fun j v hj => by
        rw [hWc, hW1, World.cell?_setCells_out g _ _ _ _ (fun hh _ => absurd hh (by cases j <;> simpa [Addr.add] using hne))]
        exact blk_cell hvb j v hj)
      (fun j hj => by rw [hWc]; exact hsp1 _ (by simp at hj; omega))
      (fun j hj => by rw [hWf, hW1, World.frozen?_setCells]; exact hfz _) (by simpa using h1)
  rw [← hW1] at hcp1
  have HO2 := Lib.hid hO2
  have HG2 : Hid (Grew w (W1.setCells g i [p]) (.slice (some ⟨g, 0, none⟩) n cap) (.slice (some ⟨g, 0, none⟩) (n + 1) cap)) := Lib.hid ⟨⟨hG2.os, hG2.tape, hG2.output, hG2.size, hG2.block⟩, .inl rfl⟩
  have mixed : Try.prog.follows Departure.mixedOrders = true := by kernel_rfl
  have hz2 : ¬ ((i : Int) = (n : Int)) := by omega
  have hw1 : IntKind.i64.wrap ((i : Int) + 1) = (i : Int) + 1 := by rw [IntKind.wrap_i64]; omega
  have hb1 : (0 : Int) ≤ (i : Int) + 1 := by omega
  have hin : i ≤ n := by omega
  have htn : ((i : Int) + 1).toNat = i + 1 := by omega
  have hb2 : ¬ (cap = i + 1) := by omega
  have hb3 : (i : Int) ≤ (n : Int) + 1 := by omega
  have hb4 : ¬ (cap = i) := by omega
  clear hO2 hG2 hW1' hsp1 hcells hsp hfz hown hg hcs hvb hxl hdl hsz h1 h1x hii hz0 hz1
  go_enter Try.func66, Try.ntmps66
  go_wp2_with (simp only [hov])
  go_region_law_o (refine step_copy_runI rfl _ _ 87 87 rfl _ _ (by simp [Act.eval, Act.put]) (by simp [Act.eval, Act.put]) (hcp1 _ _ _) ?_)
  go_wp2_with (at_builtin; refine wpList_copy_runI _ rfl _ _ 87 87 rfl _ _ rfl rfl (hcp2 _ (fun _ => rfl) (fun _ => rfl) _ _) ?_)
  go_ret
  exact ⟨_, rfl, by rw [← hW1]; exact HO2.out, by rw [← hW1]; exact HG2.out⟩

end Go.Proofs.Ytoofpgehkihbcaa

/-
  The library's insertion of one limb in the midst of a full row, which becomes a new row; and all three roads together.
-/
namespace Go.Proofs.Ytoofpgehkihbcaa
open Go.RowKit Go.Lib
set_option linter.unusedVariables false

theorem own_fresh {base : Nat} {w : World} {e : TypeId} {G n : Nat} {ROW : Array Value} (hb : base ≤ w.heap.size) (hn : n ≤ G) (hG : G ≤ maxLen) (hs : ROW.size = G) :
    (w.alloc (.cells ROW e)).ownsRow base e 1 (.slice (some ⟨w.heap.size, 0, none⟩) n G) n (ROW.toList.take n) :=
  ⟨by simp; omega, .inr ⟨w.heap.size, G, ROW, rfl, hb, Deep.blk_alloc_new w _, hn, hG, by omega, by rw [Nat.mul_one]⟩⟩

set_option maxRecDepth 1000000 in
set_option maxHeartbeats 4000000 in
theorem insert_grow (base : Nat) (g n i : Nat) (xs : List Value) (vb : Nat) (p : Value) (w : World) (hown : w.ownsRow base 60 1 (.slice (some ⟨g, 0, none⟩) n n) n xs) (hi : i < n) (hn : n ≤ 1000) (hbase : base ≤ w.heap.size)
    (hvb : w.heap[vb]? = some (.cells #[p] 60 (0, 0))) (h1 : p.oneCell' = true) (h1x : ∀ u ∈ xs, u.oneCell' = true) :
    Calls Try.prog 66 #[.slice (some ⟨g, 0, none⟩) n n, .int .i64 (i : Int), .slice (some ⟨vb, 0, none⟩) 1 1] w (InsPost base w (.slice (some ⟨g, 0, none⟩) n n) n i xs p) := by
  obtain ⟨i0, hii, hz0, hz1, hz2⟩ := info_parts infoLP
  have hxl : xs.length = n := by have := hown.1; omega
  have hgl := own_lt hown
  have hvl : vb < w.heap.size := (Array.getElem?_eq_some_iff.1 hvb).1
  have hsz : (Try.prog.info? 60).map (·.size) = some 1 := by rw [hii]; simp [hz1]
  have hcells : ∀ j v, xs[j]? = some v → w.cell? ⟨g, j, none⟩ = some v := fun j v hj => by
    rw [hown.cellAt j (by have := (List.getElem?_eq_some_iff.1 hj).1; omega), hj]
  have hdl : (xs.drop i).length = n - i := by rw [List.length_drop, hxl]
  have hkk : (n : Int) + 1 - (i : Int) = ((n + 1 - i : Nat) : Int) := by omega
  have hik : i + (n + 1 - i) = n + 1 := by omega
  have hold : (Builtin.firstCells i0.size i (.slice (some ⟨g, 0, none⟩) i n)).run Try.prog w.drew = .ok (xs.take i).toArray w.drew := by
    rw [hz1]
    exact run_firstCells_some w.drew 1 i ⟨g, 0, none⟩ i n (xs.take i) (by rw [List.length_take]; omega) (fun j v hj => by
      rw [Addr.add_lit, Nat.zero_add]
      rw [List.getElem?_take] at hj
      split at hj
      · exact hcells j v hj
      · cases hj)
  have hrz : ∀ ty, (Builtin.append_ #[87, 3] ty #[.slice (some ⟨g, 0, none⟩) i n, .int .i64 ((n : Int) + 1 - (i : Int))]).run Try.prog w =
      .ok (.slice (some ⟨w.heap.size, 0, none⟩) (n + 1) (grownCap w (n + 1) n 60)) (w.drew.alloc (.cells ((xs.take i).toArray ++ Builtin.zeroCells (Value.pointer none).cells (n + 1 - i) ++ Builtin.zeroCells (Value.pointer none).cells (grownCap w (n + 1) n 60 - (n + 1))) 60)) := fun ty => by
    have h := Lib.run_append_grow_zeros w 87 3 ty 60 i0 _ .i64 .i64 Try.underlying87 Try.underlying3 hii hz0 (some ⟨g, 0, none⟩) i n (xs.take i) hold (n + 1 - i) (by omega) (by omega) (by omega) (by omega) (by rw [hz2]; omega) (by rw [hz2, hik]; exact growslice_fits (by omega) (by omega))
    rw [hik] at h
    rw [hkk]
    exact h
  obtain ⟨G, hG⟩ : ∃ G, G = grownCap w (n + 1) n 60 := ⟨_, rfl⟩
  have hGn : n + 1 ≤ G := by rw [hG]; exact grownCap_ge w _ _ _
  have hGM : G ≤ maxLen := by rw [hG]; exact grownCap_le_maxLen w (n + 1) n _ (by unfold maxLen; omega)
  have hG63 : G ≤ 9223372036854775807 := by unfold maxLen at hGM; omega
  obtain ⟨ROW, hROW⟩ : ∃ ROW : Array Value, ROW = (xs.take i).toArray ++ Builtin.zeroCells (Value.pointer none).cells (n + 1 - i) ++ Builtin.zeroCells (Value.pointer none).cells (G - (n + 1)) := ⟨_, rfl⟩
  rw [← hG] at hrz
  rw [← hROW] at hrz
  have hRl : ROW.size = G := by
    rw [hROW]
    simp [Builtin.zeroCells, Value.cells]
    omega
  have hRt : ROW.toList.take i = xs.take i := by
    rw [hROW]
    simp only [Array.toList_append, List.append_assoc]
    rw [List.take_append_of_le_length (by simp; omega)]
    exact List.take_of_length_le (by simp; omega)
  obtain ⟨N, hN⟩ : ∃ N, N = w.heap.size := ⟨_, rfl⟩
  obtain ⟨W1, hW1⟩ : ∃ W1, W1 = w.drew.alloc (.cells ROW 60) := ⟨_, rfl⟩
  have hW1s : W1.heap[N]? = some (.cells ROW 60 (0, 0)) := by rw [hW1, hN]; exact Deep.blk_alloc_new w.drew _
  have hOw : W1.ownsRow base 60 1 (.slice (some ⟨N, 0, none⟩) (n + 1) G) (n + 1) (ROW.toList.take (n + 1)) := by
    rw [hW1, hN]
    exact own_fresh (w := w.drew) hbase hGn hGM hRl
  have hB1 : ∀ k, k < w.heap.size → W1.heap[k]? = w.heap[k]? := fun k hk => by rw [hW1]; exact Deep.blk_alloc_lt w.drew _ _ hk
  have hRtl : (ROW.toList.take (n + 1)).length = n + 1 := by have := hOw.1; omega
  -- what the two copies leave
  obtain ⟨hA1, hA2⟩ := own_setCells [p] i W1 _ hOw (by simp; omega)
  obtain ⟨hA3, hA4⟩ := own_setCells (xs.drop i) (i + 1) _ _ hA1 (by rw [hdl]; omega)
  have e1 : ((ROW.toList.take (n + 1)).take i ++ [p] ++ (ROW.toList.take (n + 1)).drop (i + [p].length)).take (i + 1) ++ xs.drop i ++ ((ROW.toList.take (n + 1)).take i ++ [p] ++ (ROW.toList.take (n + 1)).drop (i + [p].length)).drop (i + 1 + (xs.drop i).length) = xs.take i ++ p :: xs.drop i := by
    have e2 : (ROW.toList.take (n + 1)).take i = xs.take i := by
      rw [List.take_take, ← hRt]
      congr 1
      omega
    have e3 : (xs.take i).length = i := by rw [List.length_take]; omega
    rw [e2]
    have e4 : (xs.take i ++ [p] ++ (ROW.toList.take (n + 1)).drop (i + [p].length)).drop (i + 1 + (xs.drop i).length) = [] := List.drop_eq_nil_of_le (by
      simp only [List.length_append, List.length_singleton, List.length_drop, hRtl, e3, hdl]
      omega)
    have e5 : (xs.take i ++ [p] ++ (ROW.toList.take (n + 1)).drop (i + [p].length)).take (i + 1) = xs.take i ++ [p] := by
      rw [List.take_append_of_le_length (by simp; omega)]
      exact List.take_of_length_le (by simp; omega)
    rw [e4, e5, List.append_nil, List.append_assoc]
    rfl
  rw [e1] at hA3
  have hbN : g ≠ N := by omega
  have hvN : vb ≠ N := by omega
  have hNs : ∀ j, j < n + 1 → (W1.cell? ⟨N, j, none⟩).isSome = true := fun j hj => by
    simp [World.cell?, hW1s]
    omega
  have hNf : ∀ j, W1.frozen? ⟨N, j, none⟩ = false := fun j => by simp [World.frozen?, hW1s]
  have hOb : ∀ j v, w.cell? ⟨g, j, none⟩ = some v → W1.cell? ⟨g, j, none⟩ = some v := fun j v h => by
    rw [World.cell?_of_block (w := w) (hB1 g hgl)]; exact h
  have hcpA : ∀ (W : World), (∀ x, W.cell? x = W1.cell? x) → (∀ x, W.frozen? x = W1.frozen? x) → ∀ ty dc, (Builtin.copy_ #[87, 87] ty #[.slice (some ⟨N, i, none⟩) (n + 1 - i) dc, .slice (some ⟨vb, 0, none⟩) 1 1]).run Try.prog W = .ok (goInt [p].length) (W.setCells N i [p]) := fun W hWc hWf ty dc =>
    run_copy_cells W _ _ ty 60 N i (n + 1 - i) dc ⟨vb, 0, none⟩ 1 1 [p] Try.underlying87 hsz (by simp only [Nat.min_def, List.length_singleton]; split <;> omega)
      (fun j v hj => by
        have hbk : (Addr.add ⟨vb, 0, none⟩ j).block = vb := by cases j <;> rfl
        rw [hWc, World.cell?_of_block (w := w) (by rw [hbk]; exact hB1 vb hvl)]
        exact blk_cell hvb j v hj)
      (fun j hj => by rw [hWc]; exact hNs _ (by simp at hj; omega)) (fun j hj => by rw [hWf]; exact hNf _) (by simpa using h1)
  have hcpB : ∀ (W : World), (∀ x, W.cell? x = (W1.setCells N i [p]).cell? x) → (∀ x, W.frozen? x = (W1.setCells N i [p]).frozen? x) → ∀ ty dc sc, (Builtin.copy_ #[87, 87] ty #[.slice (some ⟨N, i + 1, none⟩) (n - i) dc, .slice (some ⟨g, i, none⟩) (n - i) sc]).run Try.prog W = .ok (goInt (xs.drop i).length) (W.setCells N (i + 1) (xs.drop i)) := fun W hWc hWf ty dc sc =>
    run_copy_cells W _ _ ty 60 N (i + 1) (n - i) dc ⟨g, i, none⟩ (n - i) sc (xs.drop i) Try.underlying87 hsz (by rw [hdl]; simp only [Nat.min_def]; split <;> omega)
      (fun j v hj => by
        rw [Addr.add_lit, hWc, World.cell?_setCells_out N _ _ _ _ (fun h _ => absurd h hbN)]
        exact hOb _ v (hcells (i + j) v (by rwa [List.getElem?_drop] at hj)))
      (fun j hj => by rw [hWc]; exact isSome_setCells _ _ _ _ (fun t ht => hNs _ (by simp at ht; omega)) _ (hNs _ (by omega)))
      (fun j hj => by rw [hWf, World.frozen?_setCells]; exact hNf _) (fun v hv => h1x v (List.mem_of_mem_drop hv))
  have HO2 := Lib.hid hA3
  have HG2 : Hid (Grew w ((W1.setCells N i [p]).setCells N (i + 1) (xs.drop i)) (.slice (some ⟨g, 0, none⟩) n n) (.slice (some ⟨N, 0, none⟩) (n + 1) G)) := Lib.hid ⟨⟨by rw [hA4.os, hA2.os, hW1]; rfl, by rw [hA4.tape, hA2.tape, hW1]; rfl, by rw [hA4.output, hA2.output, hW1]; rfl, by
      have a1 := hA2.size
      have a2 := hA4.size
      have a3 : w.heap.size ≤ W1.heap.size := by rw [hW1]; show w.heap.size ≤ (w.heap.push _).size; simp
      omega, fun k hk _ => by
      have hkN : some k ≠ some N := fun e => by have := Option.some.inj e; omega
      have a3 : w.heap.size ≤ W1.heap.size := by rw [hW1]; show w.heap.size ≤ (w.heap.push _).size; simp
      rw [hA4.block k (by have := hA2.size; omega) hkN, hA2.block k (by omega) hkN, hB1 k hk]⟩, .inr ⟨N, rfl, by omega⟩⟩
  have mixed : Try.prog.follows Departure.mixedOrders = true := by kernel_rfl
  rw [← hW1, ← hN] at hrz
  have hzi : ¬ ((i : Int) = (n : Int)) := by omega
  have hw1 : IntKind.i64.wrap ((i : Int) + 1) = (i : Int) + 1 := by rw [IntKind.wrap_i64]; omega
  have hb1 : (0 : Int) ≤ (i : Int) + 1 := by omega
  have hin : i ≤ n := by omega
  have htn : ((i : Int) + 1).toNat = i + 1 := by omega
  have hb3 : (i : Int) ≤ (n : Int) := by omega
  have hGi : ¬ (G = i) := by omega
  have hGim : ¬ (G = i + 1) := by omega
  have hci : ¬ (n = i) := by omega
  clear hkk hik hold hROW hG hRl hRt hW1 hN hW1s hOw hB1 hRtl hA1 hA2 hA3 hA4 e1 hNs hNf hOb hown hvb hcells hdl hxl hgl hvl hsz h1 h1x hii hz0 hz1 hz2 hbase hbN hvN hGM
  go_enter Try.func66, Try.ntmps66
  go_wp2_with (first
    | (at_builtin; refine Lib.wpList_append_run _ rfl _ _ _ _ rfl _ _ rfl rfl _ _ (hrz _) ?_)
    | (at_builtin; refine wpList_copy_runI _ rfl _ _ 87 87 rfl _ _ rfl rfl (hcpA _ (fun _ => rfl) (fun _ => rfl) _ _) ?_))
  go_region_law_o (refine step_copy_runI rfl _ _ 87 87 rfl (.slice (some ⟨N, i + 1, none⟩) (n - i) (G - (i + 1))) (.slice (some ⟨g, i, none⟩) (n - i) (n - i)) (by simp [Act.eval, Act.put]) (by simp [Act.eval, Act.put]) (hcpB (W1.setCells N i [p]).drew (fun _ => rfl) (fun _ => rfl) 3 (G - (i + 1)) (n - i)) ?_)
  go_wp2
  go_ret
  exact ⟨_, rfl, by rw [← drew_setCells]; exact HO2.out, by rw [← drew_setCells]; exact ⟨⟨HG2.out.grown.os, HG2.out.grown.tape, HG2.out.grown.output, HG2.out.grown.size, HG2.out.grown.block⟩, HG2.out.spot⟩⟩

/-- one limb is put in at a place -/
theorem insert_own (base : Nat) (v : Value) (n i : Nat) (xs : List Value) (vb : Nat) (p : Value) (w : World) (hown : w.ownsRow base 60 1 v n xs) (hi : i ≤ n) (hn : n ≤ 1000) (hbase : base ≤ w.heap.size) (hne : some vb ≠ v.ownBlock)
    (hvb : w.heap[vb]? = some (.cells #[p] 60 (0, 0))) (h1 : p.oneCell' = true) (h1x : ∀ u ∈ xs, u.oneCell' = true) :
    Calls Try.prog 66 #[v, .int .i64 (i : Int), .slice (some ⟨vb, 0, none⟩) 1 1] w (InsPost base w v n i xs p) := by
  rcases Nat.lt_or_eq_of_le hi with hlt | rfl
  · have hsp : ∃ g cap, v = .slice (some ⟨g, 0, none⟩) n cap ∧ n ≤ cap := by
      rcases hown.2 with ⟨_, h⟩ | ⟨g, cap, cur, h, _, _, h3, _⟩
      · omega
      · exact ⟨g, cap, h, h3⟩
    obtain ⟨g, cap, rfl, hnc⟩ := hsp
    by_cases hroom : n + 1 ≤ cap
    · exact insert_room base g n cap i xs vb p w hown hlt hn hroom (fun e => hne (by rw [e]; rfl)) hvb h1 h1x
    · obtain rfl : cap = n := by omega
      exact insert_grow base g cap i xs vb p w hown hlt hn hbase hvb h1 h1x
  · exact insert_end base v i xs vb p w hown hn hbase hvb h1

end Go.Proofs.Ytoofpgehkihbcaa
