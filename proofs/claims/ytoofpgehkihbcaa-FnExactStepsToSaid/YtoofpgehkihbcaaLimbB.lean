import Derived.Test.YtoofpgehkihbcaaLimbA
import Derived.Deep.QuietTactic
import Derived.BigQuiet
import Derived.Deep.RegionHeld3
import Derived.StillTailTactics
import Derived.Test.YtoofpgehkihbcaaGrew
import Derived.Test.YtoofpgehkihbcaaBrRow
import Derived.Test.YtoofpgehkihbcaaOf
import Derived.Test.YtoofpgehkihbcaaSet
import Derived.Deep.DeepCutAuto

/-
  The program's count of equal letters at the beginning of two texts.
-/
namespace Go.Proofs.Ytoofpgehkihbcaa
open Go.RowKit
set_option linter.unusedVariables false

theorem lcp_len {p q : Txt} {k : Nat} (hp : k ≤ p.length) (h : p.take k = q.take k) (hs : ∀ u, p[k]? = some u → q[k]? ≠ some u) : (lcp p q).length = k := by
  have h1 : p.take k <+: lcp p q := pre_lcp (List.take_prefix _ _) (h ▸ List.take_prefix _ _)
  have h2 := h1.length_le
  rw [List.length_take, Nat.min_eq_left hp] at h2
  rcases Nat.lt_or_eq_of_le h2 with hlt | e
  · exfalso
    obtain ⟨u, hu⟩ : ∃ u, (lcp p q)[k]? = some u := ⟨_, List.getElem?_eq_getElem hlt⟩
    have e1 : p[k]? = some u := by
      obtain ⟨r, hr⟩ := lcp_l p q
      rw [← hr, List.getElem?_append_left hlt]; exact hu
    have e2 : q[k]? = some u := by
      obtain ⟨r, hr⟩ := lcp_r p q
      rw [← hr, List.getElem?_append_left hlt]; exact hu
    exact hs u e1 e2
  · exact e.symm

theorem take_more {p q : Txt} {k : Nat} {u : UInt8} (h : p.take k = q.take k) (hp : p[k]? = some u) (hq : q[k]? = some u) : p.take (k + 1) = q.take (k + 1) := by
  obtain ⟨a1, a2⟩ := List.getElem?_eq_some_iff.1 hp
  obtain ⟨b1, b2⟩ := List.getElem?_eq_some_iff.1 hq
  rw [List.take_succ_eq_append_getElem a1, List.take_succ_eq_append_getElem b1, h, a2, b2]

/-- what a reading gives: not empty -/
theorem Bts.some {w : World} {v : Value} {x : Txt} (h : Bts w v x) (hne : x ≠ []) : ∃ b o c, v = .slice (some ⟨b, o, none⟩) x.length c ∧ b < w.heap.size ∧ x.length ≤ c ∧ c ≤ 9223372036854775807 ∧ ∀ (i : Nat) (u : UInt8), x[i]? = some u → w.cell? ⟨b, o + i, none⟩ = some (.int .u8 (u.toNat : Int)) := by
  rcases h with ⟨_, h⟩ | ⟨b, o, c, cs, m, h1, h2, h3, h4, h5⟩
  · exact absurd h hne
  · exact ⟨b, o, c, h1, (Array.getElem?_eq_some_iff.1 h2).1, h3, h4, fun i u hu => by simp [World.cell?, h2, h5 i u hu]⟩

set_option maxRecDepth 1000000 in
set_option maxHeartbeats 1000000 in
theorem countShared_any (va vb : Value) (p q : Txt) (w : World) (ha : Bts w va p) (hb : Bts w vb q) (hp : p ≠ []) (hq : q ≠ []) (hpl : p.length ≤ 1000000) (hql : q.length ≤ 1000000) :
    Calls Try.prog 67 #[va, vb] w fun e w' => e = .returned (.int .i64 ((lcp p q).length : Int)) ∧ Below w.heap.size w w' := by
  obtain ⟨b1, o1, c1, rfl, hb1, hc1, hm1, hat1⟩ := ha.some hp
  obtain ⟨b2, o2, c2, rfl, hb2, hc2, hm2, hat2⟩ := hb.some hq
  have H1 := Lib.hid hat1
  have H2 := Lib.hid hat2
  obtain ⟨n1, hn1⟩ : ∃ n, p.length = n := ⟨_, rfl⟩
  obtain ⟨n2, hn2⟩ : ∃ n, q.length = n := ⟨_, rfl⟩
  rw [hn1] at hc1 hpl ⊢
  rw [hn2] at hc2 hql ⊢
  have HN1 := Lib.hid hn1
  have HN2 := Lib.hid hn2
  clear hat1 hat2 ha hb hp hq hn1 hn2
  go_enter Try.func67, Try.ntmps67
  go_wp2
  go_loopw [5] (fun s wr => ∃ k : Nat, k ≤ n1 ∧ k ≤ n2 ∧ s = .int .i64 k ∧ Hid (p.take k = q.take k) ∧ Hid (Below w.heap.size w wr)) (fun s _ => n1 - (intOf s).toNat)
  case atStart => exact ⟨0, by omega, by omega, rfl, Lib.hid rfl, Lib.hid (Below.refl _ _)⟩
  case round =>
    obtain ⟨k, hk1, hk2, rfl, HT, HB⟩ := hrel
    by_cases hlt : k < n1 ∧ k < n2
    · obtain ⟨l1, l2⟩ := hlt
      obtain ⟨u, hu⟩ : ∃ u, p[k]? = some u := ⟨_, List.getElem?_eq_getElem (by rw [HN1.out]; exact l1)⟩
      obtain ⟨v, hv⟩ : ∃ v, q[k]? = some v := ⟨_, List.getElem?_eq_getElem (by rw [HN2.out]; exact l2)⟩
      have hcu := (HB.out.cell (p := ⟨b1, o1 + k, none⟩) hb1).trans (H1.out k u hu)
      have hcv := (HB.out.cell (p := ⟨b2, o2 + k, none⟩) hb2).trans (H2.out k v hv)
      have HU := Lib.hid hu
      have HV := Lib.hid hv
      have hd : decide ((k : Int) < min (n1 : Int) (n2 : Int)) = true := decide_eq_true (by omega)
      clear hu hv
      by_cases huv : u = v
      · subst huv
        have HM := Lib.hid (take_more HT.out HU.out HV.out)
        obtain ⟨ui, hui⟩ : ∃ ui : Int, (u.toNat : Int) = ui := ⟨_, rfl⟩
        rw [hui] at hcu hcv
        have hq : (ui == ui) = true := by simp
        clear hui
        go_wp2_with fail
        go_quiet (fail)
        go_wp2
        go_roundw
        case rel => exact ⟨k + 1, by omega, by omega, by go_num, HM, Lib.hid (below_drewN HB.out _)⟩
        case measure => simp [intOf]; omega
      · have hne : u.toNat ≠ v.toNat := fun e => huv (UInt8.toNat_inj.1 e)
        have HL : Hid ((lcp p q).length = k) := Lib.hid (lcp_len (by rw [HN1.out]; omega) HT.out (fun x hx hx2 => by
          rw [HU.out] at hx
          rw [HV.out] at hx2
          exact huv ((Option.some.inj hx).trans (Option.some.inj hx2).symm)))
        obtain ⟨ui, hui⟩ : ∃ ui : Int, (u.toNat : Int) = ui := ⟨_, rfl⟩
        obtain ⟨vi, hvi⟩ : ∃ vi : Int, (v.toNat : Int) = vi := ⟨_, rfl⟩
        rw [hui] at hcu
        rw [hvi] at hcv
        have hq : (ui == vi) = false := by simp; omega
        clear hui hvi hne huv
        go_wp2_with fail
        go_quiet (fail)
        go_wp2
        go_ret
        exact ⟨ret_num (by rw [HL.out]), below_drewN HB.out _⟩
    · have hd : decide ((k : Int) < min (n1 : Int) (n2 : Int)) = false := decide_eq_false (by omega)
      have HL : Hid ((lcp p q).length = k) := Lib.hid (lcp_len (by rw [HN1.out]; omega) HT.out (fun x hx hx2 => by
        have := (List.getElem?_eq_some_iff.1 hx).1
        have := (List.getElem?_eq_some_iff.1 hx2).1
        rw [HN1.out] at *
        rw [HN2.out] at *
        omega))
      clear hlt
      go_wp2_with fail
      go_quiet (fail)
      go_wp2
      go_ret
      exact ⟨ret_num (by rw [HL.out]), below_drewN HB.out _⟩

end Go.Proofs.Ytoofpgehkihbcaa

/-
  The program's search below a limb, and its split of a limb.
-/
namespace Go.Proofs.Ytoofpgehkihbcaa
open Go.RowKit
set_option linter.unusedVariables false

/-- the letter that leads from x to y -/
def ltr (x y : Txt) : UInt8 := (y.drop x.length).headD 0

theorem ltr_pre {x y : Txt} (h : x <+: y) (n : x ≠ y) : x ++ [ltr x y] <+: y := by
  obtain ⟨r, rfl⟩ := h
  cases r with
  | nil => exact absurd (by simp) n
  | cons f r => exact ⟨r, by simp [ltr]⟩

theorem ltr_of {x y : Txt} {c : UInt8} (h : x ++ [c] <+: y) : ltr x y = c := by
  obtain ⟨r, rfl⟩ := h
  simp [ltr]

theorem ltr_at {x y : Txt} (h : x <+: y) (n : x ≠ y) : (y.drop x.length)[0]? = some (ltr x y) := by
  obtain ⟨r, rfl⟩ := h
  cases r with
  | nil => exact absurd (by simp) n
  | cons f r => simp [ltr]

theorem bef_ltr {x y z : Txt} {c f : UInt8} (hy : x ++ [c] <+: y) (hz : x ++ [f] <+: z) (h : c.toNat < f.toNat) : bef y z = true := by
  obtain ⟨r, rfl⟩ := hy
  obtain ⟨q, rfl⟩ := hz
  have hne : ¬ c = f := by rintro rfl; omega
  rw [List.append_assoc, List.append_assoc, bef_app]
  simp [bef, hne, UInt8.lt_iff_toNat_lt, h]

theorem ltr_bef {x y z : Txt} {c f : UInt8} (hy : x ++ [c] <+: y) (hz : x ++ [f] <+: z) (h : bef y z = true) : c.toNat ≤ f.toNat := by
  rcases Nat.lt_or_ge f.toNat c.toNat with k | k
  · have := bef_ltr hz hy k
    rw [bef_asymm this] at h
    cases h
  · exact k

/-- where a letter stands among the kids -/
structure KidSpot (qs : List Txt) (x : Txt) (c : UInt8) (k : Nat) : Prop where
  le : k ≤ (kidsL qs x).length
  low : ∀ q y, q < k → (kidsL qs x)[q]? = some y → (ltr x y).toNat < c.toNat
  high : ∀ q y, k ≤ q → (kidsL qs x)[q]? = some y → c.toNat ≤ (ltr x y).toNat

def FindPost (qs : List Txt) (x : Txt) (c : UInt8) (w : World) (e : Ending) (w' : World) : Prop :=
  ∃ (k : Nat) (r : Bool), KidSpot qs x c k ∧ (r = true ↔ ∃ y, (kidsL qs x)[k]? = some y ∧ ltr x y = c) ∧ e = .returned (.tuple #[.int .i64 (k : Int), .bool r]) ∧ w = w'

set_option maxRecDepth 1000000 in
set_option maxHeartbeats 1000000 in
theorem find_any {base : Nat} {w : World} {qs : List Txt} {en : Txt → Bool} {A : Txt → Nat} {V : Txt → Value} (h : Limbs base w qs en A V) (hq : qs.length ≤ 1000) {x : Txt} (hx : x ∈ qs) (c : UInt8) :
    Calls Try.prog 65 #[.pointer (some ⟨A x, 0, none⟩), .int .u8 (c.toNat : Int)] w (FindPost qs x c w) := by
  obtain ⟨l, hLB, _⟩ := h.spot x hx
  have hc2 := hLB.c2
  have hrow := h.row x hx
  have hkl := h.kl x
  obtain ⟨ks, hks⟩ : ∃ ks, kidsL qs x = ks := ⟨_, rfl⟩
  rw [hks] at hrow hkl
  have hn : ks.length ≤ 1000 := by
    have : ks.length ≤ qs.length := by rw [← hks]; unfold kidsL; exact List.length_filter_le _ _
    omega
  have hup : ∀ p q, p < q → q < ks.length → (ltr x (ks.getD p [])).toNat < (ltr x (ks.getD q [])).toNat := fun p q hpq hql => by
    have e1 : ks[p]? = some (ks.getD p []) := by rw [List.getD_eq_getElem?_getD, List.getElem?_eq_getElem (by omega)]; rfl
    have e2 : ks[q]? = some (ks.getD q []) := by rw [List.getD_eq_getElem?_getD, List.getElem?_eq_getElem hql]; rfl
    have k1 := (hkl.2 _).1 (at_mem e1)
    have k2 := (hkl.2 _).1 (at_mem e2)
    have b := asc_lt hkl.1 e1 e2 hpq
    have p1 := ltr_pre k1.2.2.1 k1.2.2.2.1
    have p2 := ltr_pre k2.2.2.1 k2.2.2.2.1
    have hle := ltr_bef p1 p2 b
    rcases Nat.lt_or_eq_of_le hle with hlt | e
    · exact hlt
    · exfalso
      have e' := UInt8.toNat_inj.1 e
      rw [e'] at p1
      have := kd_same h.closed k1 k2 p1 p2
      rw [this, bef_irrefl] at b
      cases b
  have hV : ∃ a cp, V x = .slice a ks.length cp ∧ ks.length ≤ cp ∧ cp ≤ 9223372036854775807 ∧ ∃ g, (0 < ks.length → a = some ⟨g, 0, none⟩) ∧ Firsts w g ks.length (fun j => ltr x (ks.getD j [])) := by
    rcases hrow.2 with ⟨e, h0⟩ | ⟨g, cap, cur, e, hb, hg, hnc, hcm, hcs, htake⟩
    · refine ⟨none, 0, ?_, by omega, by omega, 0, fun hh => by omega, fun j hj => by omega⟩
      rw [h0]; exact e
    · refine ⟨some ⟨g, 0, none⟩, cap, e, hnc, by unfold maxLen at hcm; exact hcm, g, fun _ => rfl, fun j hj => ?_⟩
      have e1 : ks[j]? = some (ks.getD j []) := by rw [List.getD_eq_getElem?_getD, List.getElem?_eq_getElem hj]; rfl
      have k1 := (hkl.2 _).1 (at_mem e1)
      obtain ⟨l', hL', hB'⟩ := h.spot _ k1.2.1
      have hrow' := hrow
      rw [e] at hrow'
      refine ⟨A (ks.getD j []), l', _, _, _, ?_, hL', hB', ?_⟩
      · rw [hrow'.cellAt j (by omega), ptrs, List.getElem?_map, e1]
        rfl
      · rw [kd_up h.root k1]
        exact ltr_at k1.2.2.1 k1.2.2.2.1
  obtain ⟨a, cp, hVx, hcp, h63, g, ha, hF⟩ := hV
  rw [hVx] at hc2
  obtain ⟨n, hnn⟩ : ∃ n, ks.length = n := ⟨_, rfl⟩
  have cS := search_any a g n cp (fun j => ltr x (ks.getD j [])) c w (by rw [← hnn]; exact ha) (by omega) (by omega) h63 (by rw [← hnn]; exact hF) (fun p q hpq hql => hup p q hpq (by omega))
  have HP : Hid (∀ k, Spot n (fun j => ltr x (ks.getD j [])) c k → ∃ r : Bool, decide (k < n ∧ ltr x (ks.getD k []) = c) = r ∧ KidSpot qs x c k ∧ (r = true ↔ ∃ y, (kidsL qs x)[k]? = some y ∧ ltr x y = c)) := Lib.hid (fun k hk => by
    have hval : ∀ q y, ks[q]? = some y → ks.getD q [] = y ∧ q < n := fun q y hy => by
      rw [List.getD_eq_getElem?_getD, hy]
      exact ⟨rfl, by have := (List.getElem?_eq_some_iff.1 hy).1; omega⟩
    refine ⟨_, rfl, ⟨by rw [hks, hnn]; exact hk.1, fun q y hqk hy => ?_, fun q y hkq hy => ?_⟩, ?_⟩
    · rw [hks] at hy
      have := hk.2.1 q hqk
      simp only [(hval q y hy).1] at this
      exact this
    · rw [hks] at hy
      have := hk.2.2 q hkq (hval q y hy).2
      simp only [(hval q y hy).1] at this
      exact this
    · rw [hks, decide_eq_true_eq]
      constructor
      · rintro ⟨h1, h2⟩
        exact ⟨ks.getD k [], by rw [List.getD_eq_getElem?_getD, List.getElem?_eq_getElem (by omega)]; rfl, h2⟩
      · rintro ⟨y, hy, h2⟩
        obtain ⟨e1, e2⟩ := hval k y hy
        exact ⟨e2, by rw [e1]; exact h2⟩)
  rw [hnn] at hc2
  have CS := Lib.hid cS
  obtain ⟨ci, hci⟩ : ∃ ci : Int, (c.toNat : Int) = ci := ⟨_, rfl⟩
  rw [hci] at CS ⊢
  clear cS hks hn hup hVx hcp h63 ha hF hnn hrow hkl hLB h hq hx hci
  go_enter Try.func65, Try.ntmps65
  go_wp2_with (go_at_call 84; refine CS.out.mono ?_; rintro e2 w' ⟨k, hk, rfl, rfl⟩; obtain ⟨r, hr, hS, hR⟩ := HP.out k hk; rw [hr]; have HS := Lib.hid hS; have HR := Lib.hid hR; clear hk hr hS hR)
  go_ret2
  exact ⟨k, r, HS.out, HR.out, rfl, rfl⟩

end Go.Proofs.Ytoofpgehkihbcaa

/-
  The program's split of a limb in two.
-/
namespace Go.Proofs.Ytoofpgehkihbcaa
open Go.RowKit
set_option linter.unusedVariables false

/-- what the split of the limb in block a leaves -/
structure SplitW (w : World) (a : Nat) (e0 : Bool) (v0 : Value) (y : Txt) (along : Nat) (w2 : World) (nb rb : Nat) (lv1 lv2 vr : Value) : Prop where
  hnb : w.heap.size ≤ nb
  hrb : w.heap.size ≤ rb
  own : vr.ownBlock = some rb
  size : w.heap.size ≤ w2.heap.size
  old : ∀ j, j < w.heap.size → j ≠ a → w2.heap[j]? = w.heap[j]?
  os : w2.os = w.os ∧ w2.tape = w.tape ∧ w2.output = w.output
  l1 : LB w2 a lv1 false vr
  l2 : LB w2 nb lv2 e0 v0
  row : ∀ base, base ≤ w.heap.size → w2.ownsRow base 60 1 vr 1 [.pointer (some ⟨nb, 0, none⟩)]
  b1 : Bts w2 lv1 (y.take along)
  b2 : Bts w2 lv2 (y.drop along)

def SplitPost (w : World) (a : Nat) (e0 : Bool) (v0 : Value) (y : Txt) (along : Nat) (e : Ending) (w2 : World) : Prop := e = .returned (.tuple #[]) ∧ ∃ nb rb lv1 lv2 vr, SplitW w a e0 v0 y along w2 nb rb lv1 lv2 vr

theorem split_world (w : World) (a : Nat) (e0 : Bool) (a0 : Option Addr) (n0 k0 : Nat) (y : Txt) (along b o n c : Nat) (cs : Array Value) (m : Nat × Nat) (l0 : Value) (hL : LB w a l0 e0 (.slice a0 n0 k0)) (hb : w.heap[b]? = some (.cells cs 5 m)) (hn : y.length = n) (hc : n ≤ c) (hm : c ≤ 9223372036854775807)
    (hat : ∀ (i : Nat) (u : UInt8), y[i]? = some u → cs[o + i]? = some (.int .u8 (u.toNat : Int))) (h1 : along < n) :
    SplitW w a e0 (.slice a0 n0 k0) y along (((((w.setCell ⟨a, 0, none⟩ (.slice (some ⟨b, o, none⟩) along along)).setCell ⟨a, 1, none⟩ (.bool false)).setCell ⟨a, 2, none⟩ (.slice (some ⟨w.heap.size + 1, 0, none⟩) 1 1)).alloc (.cells #[.slice (some ⟨b, o + along, none⟩) (n - along) (c - along), .bool e0, .slice a0 n0 k0] 89)).alloc (.cells #[.pointer (some ⟨w.heap.size, 0, none⟩)] 60)).drew
      w.heap.size (w.heap.size + 1) (.slice (some ⟨b, o, none⟩) along along) (.slice (some ⟨b, o + along, none⟩) (n - along) (c - along)) (.slice (some ⟨w.heap.size + 1, 0, none⟩) 1 1) := by
  obtain ⟨W3, hW3⟩ : ∃ W3, ((w.setCell ⟨a, 0, none⟩ (.slice (some ⟨b, o, none⟩) along along)).setCell ⟨a, 1, none⟩ (.bool false)).setCell ⟨a, 2, none⟩ (.slice (some ⟨w.heap.size + 1, 0, none⟩) 1 1) = W3 := ⟨_, rfl⟩
  have hL3 : LB W3 a (.slice (some ⟨b, o, none⟩) along along) false (.slice (some ⟨w.heap.size + 1, 0, none⟩) 1 1) := by rw [← hW3]; exact ((hL.set0 _).set1 false).set2 _
  have hs3 : W3.heap.size = w.heap.size := by rw [← hW3]; simp
  have ho3 : ∀ j, j ≠ a → W3.heap[j]? = w.heap[j]? := fun j hj => by
    rw [← hW3, Deep.blk_setCell_other _ _ _ _ hj, Deep.blk_setCell_other _ _ _ _ hj, Deep.blk_setCell_other _ _ _ _ hj]
  have hx3 : W3.os = w.os ∧ W3.tape = w.tape ∧ W3.output = w.output := by rw [← hW3]; exact ⟨rfl, rfl, rfl⟩
  rw [hW3]
  clear hW3
  obtain ⟨W4, hW4⟩ : ∃ W4, W3.alloc (.cells #[.slice (some ⟨b, o + along, none⟩) (n - along) (c - along), .bool e0, .slice a0 n0 k0] 89) = W4 := ⟨_, rfl⟩
  have hs4 : W4.heap.size = w.heap.size + 1 := by rw [← hW4]; simp [hs3]
  have hN4 : LB W4 w.heap.size (.slice (some ⟨b, o + along, none⟩) (n - along) (c - along)) e0 (.slice a0 n0 k0) := by rw [← hW4, ← hs3]; exact LB.new W3 _ _ _
  have ho4 : ∀ j, j < w.heap.size → W4.heap[j]? = W3.heap[j]? := fun j hj => by rw [← hW4]; exact Deep.blk_alloc_lt _ _ _ (by omega)
  have hx4 : W4.os = w.os ∧ W4.tape = w.tape ∧ W4.output = w.output := by rw [← hW4]; exact hx3
  rw [hW4]
  clear hW4
  obtain ⟨W5, hW5⟩ : ∃ W5, W4.alloc (.cells #[.pointer (some ⟨w.heap.size, 0, none⟩)] 60) = W5 := ⟨_, rfl⟩
  have hs5 : W5.heap.size = w.heap.size + 2 := by rw [← hW5]; simp [hs4]
  have ho5 : ∀ j, j < w.heap.size + 1 → W5.heap[j]? = W4.heap[j]? := fun j hj => by rw [← hW5]; exact Deep.blk_alloc_lt _ _ _ (by omega)
  have hx5 : W5.os = w.os ∧ W5.tape = w.tape ∧ W5.output = w.output := by rw [← hW5]; exact hx4
  have hr5 : ∀ base, base ≤ w.heap.size → W5.ownsRow base 60 1 (.slice (some ⟨w.heap.size + 1, 0, none⟩) 1 1) 1 [.pointer (some ⟨w.heap.size, 0, none⟩)] := fun base hbs => by
    have := World.ownsRow_lit (base := base) (e := 60) (size := 1) W4 #[.pointer (some ⟨w.heap.size, 0, none⟩)] 1 (by omega) (by unfold maxLen; omega) rfl
    rw [hs4, hW5] at this
    exact this
  rw [hW5]
  clear hW5
  have hal := hL.lt
  have hbl := (Array.getElem?_eq_some_iff.1 hb).1
  have hba : b ≠ a := by
    rintro rfl
    rw [show w.heap[b]? = _ from hL] at hb
    have := Option.some.inj hb
    simp at this
  have hb5 : W5.heap[b]? = some (.cells cs 5 m) := by rw [ho5 b (by omega), ho4 b hbl, ho3 b hba]; exact hb
  refine ⟨Nat.le_refl _, Nat.le_succ _, rfl, ?_, fun j hj hja => ?_, hx5, ?_, ?_, hr5, .inr ⟨b, o, along, cs, m, ?_, hb5, ?_, by omega, fun i u hu => ?_⟩, .inr ⟨b, o + along, c - along, cs, m, ?_, hb5, ?_, by omega, fun i u hu => ?_⟩⟩
  · show w.heap.size ≤ W5.heap.size
    omega
  · show W5.heap[j]? = _
    rw [ho5 j (by omega), ho4 j hj, ho3 j hja]
  · show W5.heap[a]? = _
    rw [ho5 a (by omega), ho4 a hal]; exact hL3
  · show W5.heap[w.heap.size]? = _
    rw [ho5 _ (by omega)]; exact hN4
  · rw [List.length_take, hn, Nat.min_eq_left (by omega)]
  · rw [List.length_take]; omega
  · rw [List.getElem?_take] at hu
    split at hu
    · exact hat i u hu
    · cases hu
  · rw [List.length_drop, hn]
  · rw [List.length_drop]; omega
  · rw [List.getElem?_drop] at hu
    rw [Nat.add_assoc]
    exact hat _ u hu

set_option maxRecDepth 1000000 in
set_option maxHeartbeats 1000000 in
theorem split_any (w : World) (a : Nat) (l0 : Value) (e0 : Bool) (a0 : Option Addr) (n0 k0 : Nat) (y : Txt) (along : Nat) (hL : LB w a l0 e0 (.slice a0 n0 k0)) (hB : Bts w l0 y) (h0 : 0 < along) (h1 : along < y.length) (hy : y.length ≤ 1000000) :
    Calls Try.prog 68 #[.pointer (some ⟨a, 0, none⟩), .int .i64 (along : Int)] w (SplitPost w a e0 (.slice a0 n0 k0) y along) := by
  rcases hB with ⟨_, rfl⟩ | ⟨b, o, c, cs, m, rfl, hb, hc, hm, hat⟩
  · simp at h1
  · have hc0 := hL.c0
    have hc1 := hL.c1
    have hc2 := hL.c2
    have hf0 := hL.free 0
    have hf1 := hL.free 1
    have hf2 := hL.free 2
    have hal := hL.lt
    obtain ⟨n, hn⟩ : ∃ n, y.length = n := ⟨_, rfl⟩
    rw [hn] at h1 hc hc0 hy
    have HN := Lib.hid hn
    have hca : ¬ (c = along) := by omega
    have hln : along ≤ n := by omega
    have HL := Lib.hid hL
    have HB := Lib.hid hb
    have HAt := Lib.hid hat
    rw [hn] at HL
    clear hn hL hb hat
    have HW := Lib.hid (split_world w a e0 a0 n0 k0 y along b o n c cs m _ HL.out HB.out HN.out hc hm HAt.out h1)
    go_enter Try.func68, Try.ntmps68
    go_wp2_with fail
    have mixed : Try.prog.follows Departure.mixedOrders = true := by kernel_rfl
    go_region_law_o (fail)
    go_wp2
    all_goals exact bodyPost_ret (results_none rfl _ _ _) rfl ⟨rfl, w.heap.size, w.heap.size + 1, _, _, _, HW.out⟩

end Go.Proofs.Ytoofpgehkihbcaa

/-
  The program's way of putting a word in below a limb.
-/
namespace Go.Proofs.Ytoofpgehkihbcaa
open Go.RowKit
set_option linter.unusedVariables false

/-- what a call leaves that puts a word in -/
def PutLPost (base : Nat) (w : World) (qs : List Txt) (en : Txt → Bool) (A : Txt → Nat) (word : Txt) (e : Ending) (w' : World) : Prop :=
  e = .returned (.tuple #[]) ∧ ∃ qs' A' V', Limbs base w' qs' (fun z => decide (z = word) || en z) A' V' ∧ Grn qs word qs' ∧ qs'.length ≤ qs.length + 2 ∧ A' [] = A [] ∧ Below base w w' ∧ KeptB w w'

theorem lcp_app : ∀ (x a b : Txt), lcp (x ++ a) (x ++ b) = x ++ lcp a b
  | [], a, b => rfl
  | c :: x, a, b => by simp only [List.cons_append, lcp, if_true]; rw [lcp_app x]

theorem drop_of_pre {x y : Txt} (h : x <+: y) : x ++ y.drop x.length = y := by
  obtain ⟨r, rfl⟩ := h
  simp

section
variable {base : Nat} {w : World} {qs : List Txt} {en : Txt → Bool} {A : Txt → Nat} {V : Txt → Value} {word : Txt}

set_option maxRecDepth 1000000 in
set_option maxHeartbeats 1000000 in
theorem putL_end (h : Limbs base w qs en A V) (hw : word ∈ qs) (rv : Value) (hb : Bts w rv []) :
    Calls Try.prog 41 #[.pointer (some ⟨A word, 0, none⟩), rv] w (PutLPost base w qs en A word) := by
  obtain ⟨l, hLB, _⟩ := h.spot word hw
  have hf1 := hLB.free 1
  have hc1 := hLB.c1
  have HM := Lib.hid (h.mark hw true)
  have HG := Lib.hid (grn_here h.asc h.closed hw)
  have HBl : Hid (Below base w (w.setCell ⟨A word, 1, none⟩ (.bool true))) := Lib.hid ((Below.refl _ _).setCell (h.low word hw) _)
  have HK := Lib.hid (KeptB.setLimb hLB 1 (.bool true))
  have hv : ∃ a c, rv = .slice a 0 c := by
    rcases hb with ⟨e, _⟩ | ⟨b, o, c, cs, m, e, _⟩
    · exact ⟨none, 0, e⟩
    · exact ⟨_, c, e⟩
  obtain ⟨ra, rc, rfl⟩ := hv
  clear hLB h hw hb
  go_enter Try.func41, Try.ntmps41
  go_wp2
  refine bodyPost_ret (results_none rfl _ _ _) rfl ⟨rfl, qs, A, V, HM.out.enEq (fun z _ => ?_), HG.out, by omega, rfl, HBl.out, HK.out⟩
  by_cases e : z = word
  · simp [e]
  · simp [e]

set_option maxRecDepth 1000000 in
set_option maxHeartbeats 1000000 in
theorem putL_new (h : Limbs base w qs en A V) (hbase : base ≤ w.heap.size) (hq : qs.length ≤ 1000) {x : Txt} {c : UInt8} (hx : x ∈ qs) (hcw : x ++ [c] <+: word) (hno : ∀ y, Kd qs x y → ¬ x ++ [c] <+: y) (rv : Value) (hb : Bts w rv (word.drop x.length)) :
    Calls Try.prog 41 #[.pointer (some ⟨A x, 0, none⟩), rv] w (PutLPost base w qs en A word) := by
  have hdr : (word.drop x.length)[0]? = some c := by
    obtain ⟨r, rfl⟩ := hcw
    simp
  have hne : word.drop x.length ≠ [] := by intro e; rw [e] at hdr; cases hdr
  obtain ⟨rb, ro, rc, rfl, hrb, hrc, hrm, hrat⟩ := hb.some hne
  obtain ⟨rn, hrn⟩ : ∃ n, (word.drop x.length).length = n := ⟨_, rfl⟩
  have hrn0 : 0 < rn := by rw [← hrn]; exact List.length_pos_iff.2 hne
  have hc0 := hrat 0 c hdr
  rw [Nat.add_zero] at hc0
  rw [hrn] at hb hrc ⊢
  obtain ⟨l, hLB, _⟩ := h.spot x hx
  have hAl := hLB.lt
  have hfx2 := hLB.free 2
  have hcx2 := hLB.c2
  have hrow := h.row x hx
  have hkn : (kidsL qs x).length ≤ 1000 := by have : (kidsL qs x).length ≤ qs.length := List.length_filter_le _ _; omega
  have hVl : ∀ k, (V x).ownBlock = some k → k < w.heap.size := fun k hk => (hrow.lt k hk).2
  -- the search
  have cF := Lib.hid (find_any h hq hx c)
  have HFnd : Hid (∀ k (r : Bool), KidSpot qs x c k → (r = true ↔ ∃ y, (kidsL qs x)[k]? = some y ∧ ltr x y = c) → r = false ∧ k ≤ (kidsL qs x).length ∧ (∀ q y, q < k → (kidsL qs x)[q]? = some y → bef y word = true) ∧ (∀ q y, k ≤ q → (kidsL qs x)[q]? = some y → bef word y = true)) := Lib.hid (fun k r hS hR => by
    have hkd : ∀ q y, (kidsL qs x)[q]? = some y → Kd qs x y ∧ x ++ [ltr x y] <+: y ∧ ltr x y ≠ c := fun q y hy => by
      have ky := ((h.kl x).2 y).1 (at_mem hy)
      have hp := ltr_pre ky.2.2.1 ky.2.2.2.1
      exact ⟨ky, hp, fun e => hno y ky (e ▸ hp)⟩
    refine ⟨?_, hS.le, fun q y hqk hy => ?_, fun q y hkq hy => ?_⟩
    · cases r with
      | false => rfl
      | true =>
        obtain ⟨y, hy, e⟩ := hR.1 rfl
        exact absurd e (hkd k y hy).2.2
    · obtain ⟨ky, hp, hn⟩ := hkd q y hy
      exact bef_ltr hp hcw (hS.low q y hqk hy)
    · obtain ⟨ky, hp, hn⟩ := hkd q y hy
      have hle := hS.high q y hkq hy
      have : (ltr x y).toNat ≠ c.toNat := fun e => hn (UInt8.toNat_inj.1 e)
      exact bef_ltr hcw hp (by omega))
  -- the blocks that are laid
  obtain ⟨W1, hW1⟩ : ∃ W1, w.alloc (.cells #[.slice (some ⟨rb, ro, none⟩) rn rc, .bool true, .slice none 0 0] 89) = W1 := ⟨_, rfl⟩
  have hs1 : W1.heap.size = w.heap.size + 1 := by rw [← hW1]; simp
  have hL1 : LB W1 w.heap.size (.slice (some ⟨rb, ro, none⟩) rn rc) true (.slice none 0 0) := by rw [← hW1]; exact LB.new w _ _ _
  have hB1 : Below w.heap.size w W1 := by rw [← hW1]; exact (Below.refl _ _).alloc (Nat.le_refl _) _
  obtain ⟨W2, hW2⟩ : ∃ W2, W1.alloc (.cells #[.pointer (some ⟨w.heap.size, 0, none⟩)] 60) = W2 := ⟨_, rfl⟩
  have hs2 : W2.heap.size = w.heap.size + 2 := by rw [← hW2]; simp [hs1]
  have hL2 : LB W2 w.heap.size (.slice (some ⟨rb, ro, none⟩) rn rc) true (.slice none 0 0) := hL1.keep (by rw [← hW2]; exact Deep.blk_alloc_lt _ _ _ (by omega))
  have hB2 : Below w.heap.size w W2 := by rw [← hW2]; exact hB1.alloc (by omega) _
  have hvb : W2.heap[w.heap.size + 1]? = some (.cells #[.pointer (some ⟨w.heap.size, 0, none⟩)] 60 (0, 0)) := by rw [← hW2, ← hs1]; exact Deep.blk_alloc_new W1 _
  have hrow2 : W2.ownsRow base 60 1 (V x) (kidsL qs x).length (ptrs A (kidsL qs x)) := ((h.below hB2).row x hx)
  have hbts2 : Bts W2 (.slice (some ⟨rb, ro, none⟩) rn rc) (word.drop x.length) := (KeptB.below hB2).bts hb
  have hins := fun k (hk : k ≤ (kidsL qs x).length) => insert_own base (V x) (kidsL qs x).length k (ptrs A (kidsL qs x)) (w.heap.size + 1) (.pointer (some ⟨w.heap.size, 0, none⟩)) W2 hrow2 hk hkn (by omega) (fun e => by have := hVl _ e.symm; omega) hvb rfl (ptrs_one _ _)
  have HIns := Lib.hid hins
  have hgrow := fun (k : Nat) (h1 : ∀ q y, q < k → (kidsL qs x)[q]? = some y → bef y word = true) (h2 : ∀ q y, k ≤ q → (kidsL qs x)[q]? = some y → bef word y = true) (w3 : World) (v' : Value) (hr : w3.ownsRow base 60 1 v' ((kidsL qs x).length + 1) ((ptrs A (kidsL qs x)).take k ++ .pointer (some ⟨w.heap.size, 0, none⟩) :: (ptrs A (kidsL qs x)).drop k)) (hg : Grew W2 w3 (V x) v') =>
    h.grow hbase hx hcw hno hB2 (Nat.le_refl _) hL2 hbts2 h1 h2 hr hg
  have HGrow := Lib.hid hgrow
  have HG := Lib.hid (grn_new h.asc h.closed hx hcw hno)
  have HRoot : Hid ([] ≠ word ∧ (put qs word).length ≤ qs.length + 2) := Lib.hid ⟨by rintro rfl; have := hcw.length_le; simp at this, by have := put_len qs word; omega⟩
  have HBl : Hid (∀ w3 v', Grew W2 w3 (V x) v' → Below base w (w3.setCell ⟨A x, 2, none⟩ v') ∧ w3.cell? ⟨A x, 2, none⟩ = some (V x) ∧ w3.frozen? ⟨A x, 2, none⟩ = false) := Lib.hid (fun w3 v' hg => by
    have hb3 := (hB2.mono hbase).trans (hg.to hrow2 (by omega))
    have hAx : w3.heap[A x]? = w.heap[A x]? := (hg.grown.block _ (by omega) (h.apart hx hx)).trans (hB2.block _ hAl)
    have hL3 := hLB.keep hAx
    exact ⟨hb3.setCell (h.low x hx) _, hL3.c2, hL3.free 2⟩)
  obtain ⟨n, hnn⟩ : ∃ n, (kidsL qs x).length = n := ⟨_, rfl⟩
  obtain ⟨va, vc, hV⟩ : ∃ va vc, V x = .slice va n vc := by rw [← hnn]; exact own_slice hrow
  rw [hV] at HIns HGrow HBl hcx2
  rw [hnn] at HIns HGrow HFnd
  obtain ⟨ci, hci⟩ : ∃ ci : Int, (c.toNat : Int) = ci := ⟨_, rfl⟩
  rw [hci] at cF hc0
  clear h hx hcw hno hdr hrat hrn hLB hrow hkn hVl hL1 hB1 hL2 hB2 hvb hrow2 hbts2 hins hgrow hnn hV hb hci hs2 hs1 hne
  subst hW2
  subst hW1
  go_enter Try.func41, Try.ntmps41
  go_wp2_with (go_at_call 65; refine cF.out.mono ?_; rintro e2 w' ⟨k, r, hS, hR, rfl, rfl⟩; obtain ⟨rfl, hkn, h1, h2⟩ := HFnd.out k r hS hR; have H1 := Lib.hid h1; have H2 := Lib.hid h2; clear hS hR h1 h2)
  go_wp2_with (go_at_call 66; refine (HIns.out k hkn).mono ?_; rintro e3 w3 ⟨v3, rfl, hO3, hG3⟩; obtain ⟨a3, c3, rfl⟩ := own_slice hO3; obtain ⟨hb3, hc3, hf3⟩ := HBl.out w3 _ hG3; have HB3 := Lib.hid hb3; have HR3 := Lib.hid (HGrow.out k H1.out H2.out w3 _ hO3 hG3); clear hO3 hG3 hb3)
  refine bodyPost_ret (results_none rfl _ _ _) rfl ⟨rfl, _, _, _, HR3.out.1, HG.out, HRoot.out.2, if_neg HRoot.out.1, HB3.out, HR3.out.2⟩

end

end Go.Proofs.Ytoofpgehkihbcaa

/-
  The program's way of putting a word in below a limb, on its way down; and all of it.
-/
namespace Go.Proofs.Ytoofpgehkihbcaa
open Go.RowKit
set_option linter.unusedVariables false

theorem bts_from {w : World} {rb ro rn rc along : Nat} {q : Txt} (h : Bts w (.slice (some ⟨rb, ro, none⟩) rn rc) q) (hq : q.length = rn) (hr : rn ≤ rc) (ha : along ≤ rn) :
    Bts w (.slice (some ⟨rb, ro + along, none⟩) (rn - along) (rc - along)) (q.drop along) ∧ (rc = along → Bts w (.slice (some ⟨rb, ro, none⟩) 0 0) (q.drop along)) := by
  rcases h with ⟨e, _⟩ | ⟨b, o, c, cs, m, e, hb, hc, hm, hat⟩
  · cases e
  · simp only [Value.slice.injEq, Option.some.injEq, Addr.mk.injEq, and_true] at e
    obtain ⟨⟨rfl, rfl⟩, _, rfl⟩ := e
    refine ⟨.inr ⟨rb, ro + along, rc - along, cs, m, by rw [List.length_drop, hq], hb, by rw [List.length_drop, hq]; omega, by omega, fun i u hu => ?_⟩, fun e2 => .inr ⟨rb, ro, 0, cs, m, ?_, hb, ?_, by omega, fun i u hu => ?_⟩⟩
    · rw [List.getElem?_drop] at hu
      rw [Nat.add_assoc]
      exact hat _ u hu
    · rw [List.length_drop, hq, show rn - along = 0 by omega]
    · rw [List.length_drop, hq]; omega
    · have := (List.getElem?_eq_some_iff.1 hu).1
      rw [List.length_drop, hq] at this
      omega

/-- the search finds the kid -/
theorem kid_found {qs : List Txt} (hc : Closed qs) (ha : Asc qs) (hr : [] ∈ qs) {x y : Txt} {c : UInt8} (hk : Kd qs x y) (hcy : x ++ [c] <+: y) {k : Nat} {r : Bool} (hS : KidSpot qs x c k) (hR : r = true ↔ ∃ z, (kidsL qs x)[k]? = some z ∧ ltr x z = c) : r = true ∧ (kidsL qs x)[k]? = some y := by
  have hkl := kidsL_kl ha hr x
  obtain ⟨j, hj⟩ := mem_at ((hkl.2 y).2 hk)
  have hly := ltr_of hcy
  have hjk : ¬ j < k := fun hlt => by have := hS.low j y hlt hj; rw [hly] at this; omega
  have hjl := (List.getElem?_eq_some_iff.1 hj).1
  have hkj : k = j := by
    rcases Nat.lt_or_eq_of_le (Nat.le_of_not_lt hjk) with hlt | e
    · exfalso
      have hz : (kidsL qs x)[k]? = some (kidsL qs x)[k] := List.getElem?_eq_getElem (by omega)
      obtain ⟨z, ez⟩ : ∃ z, (kidsL qs x)[k] = z := ⟨_, rfl⟩
      rw [ez] at hz
      have kz := (hkl.2 z).1 (at_mem hz)
      have pz := ltr_pre kz.2.2.1 kz.2.2.2.1
      have b := asc_lt hkl.1 hz hj hlt
      have h1 := ltr_bef pz hcy b
      have h2 := hS.high k z (Nat.le_refl _) hz
      have e : ltr x z = c := UInt8.toNat_inj.1 (by omega)
      rw [e] at pz
      have := kd_same hc kz hk pz hcy
      rw [this, bef_irrefl] at b
      cases b
    · exact e
  subst hkj
  exact ⟨hR.2 ⟨y, hj, hly⟩, hj⟩

section
variable {base : Nat} {w : World} {qs : List Txt} {en : Txt → Bool} {A : Txt → Nat} {V : Txt → Value} {word : Txt}

/-- what is known of the calls below -/
def PutIh (base : Nat) (en : Txt → Bool) (word : Txt) (x : Txt) (n : Nat) : Prop :=
  ∀ (W : World) (qs : List Txt) (A : Txt → Nat) (V : Txt → Value) (x2 : Txt) (rv : Value), Limbs base W qs en A V → base ≤ W.heap.size → qs.length ≤ n → x2 ∈ qs → x2 <+: word → x.length < x2.length → (∀ z, z ∉ qs → en z = false) → (∀ z, z ∈ qs → z.length ≤ 1000) → Bts W rv (word.drop x2.length) →
    Calls Try.prog 41 #[.pointer (some ⟨A x2, 0, none⟩), rv] W (PutLPost base W qs en A word)

set_option maxRecDepth 1000000 in
set_option maxHeartbeats 2000000 in
theorem putL_on (h : Limbs base w qs en A V) (hbase : base ≤ w.heap.size) (hq : qs.length ≤ 900) (hlw : word.length ≤ 1000) {x y : Txt} {c : UInt8} (hk : Kd qs x y) (hcy : x ++ [c] <+: y) (hcw : x ++ [c] <+: word) (hlen : ∀ z, z ∈ qs → z.length ≤ 1000) (hen : ∀ z, z ∉ qs → en z = false) (rv : Value) (hb : Bts w rv (word.drop x.length))
    (ih : PutIh base en word x (qs.length + 1)) :
    Calls Try.prog 41 #[.pointer (some ⟨A x, 0, none⟩), rv] w (PutLPost base w qs en A word) := by
  have hx := hk.1
  have hly := hlen y hk.2.1
  have hxw : x <+: word := (List.prefix_append _ _).trans hcw
  obtain ⟨p, hp⟩ : ∃ p, y.drop x.length = p := ⟨_, rfl⟩
  obtain ⟨q, hqq⟩ : ∃ q, word.drop x.length = q := ⟨_, rfl⟩
  have hyp : x ++ p = y := by rw [← hp]; exact drop_of_pre hk.2.2.1
  have hwq : x ++ q = word := by rw [← hqq]; exact drop_of_pre hxw
  rw [hqq] at hb
  have hp0 : p[0]? = some c := by
    obtain ⟨r, hr⟩ := hcy
    rw [← hp, ← hr]; simp
  have hq0 : q[0]? = some c := by
    obtain ⟨r, hr⟩ := hcw
    rw [← hqq, ← hr]; simp
  have hpne : p ≠ [] := by rintro rfl; cases hp0
  have hqne : q ≠ [] := by rintro rfl; cases hq0
  have hpl : p.length ≤ 1000 := by have := congrArg List.length hyp; simp at this; omega
  have hql : q.length ≤ 1000 := by have := congrArg List.length hwq; simp at this; omega
  -- the rest
  obtain ⟨rb, ro, rc, rfl, hrb, hrc, hrm, hrat⟩ := hb.some hqne
  obtain ⟨rn, hrn⟩ : ∃ n, q.length = n := ⟨_, rfl⟩
  have hrn0 : 0 < rn := by rw [← hrn]; exact List.length_pos_iff.2 hqne
  have hc0 := hrat 0 c hq0
  rw [Nat.add_zero] at hc0
  rw [hrn] at hb hrc ⊢
  -- the common letters
  obtain ⟨al, hal⟩ : ∃ n, (lcp p q).length = n := ⟨_, rfl⟩
  have hal0 : 0 < al := by
    rw [← hal]
    have : [c] <+: lcp p q := pre_lcp (by
      obtain ⟨r, hr⟩ := hcy
      rw [← hp, ← hr]; simp) (by
      obtain ⟨r, hr⟩ := hcw
      rw [← hqq, ← hr]; simp)
    have := this.length_le
    simp only [List.length_singleton] at this
    omega
  have halp : al ≤ p.length := by rw [← hal]; exact (lcp_l p q).length_le
  have halq : al ≤ rn := by rw [← hal, ← hrn]; exact (lcp_r p q).length_le
  have htk : p.take al = lcp p q := by rw [← hal]; exact (List.prefix_iff_eq_take.1 (lcp_l p q)).symm
  -- the limb above and the one below
  obtain ⟨lx, hLx, _⟩ := h.spot x hx
  have hcx2 := hLx.c2
  obtain ⟨ly, hLy, hBy⟩ := h.spot y hk.2.1
  rw [kd_up h.root hk, hp] at hBy
  have hcy0 := hLy.c0
  have hAy := hLy.lt
  obtain ⟨yb, yo, yc, rfl, hyb, hyc, hym, hyat⟩ := hBy.some hpne
  have hrow := h.row x hx
  have hrowy := h.row y hk.2.1
  obtain ⟨ya, ycp, hVy⟩ := own_slice hrowy
  -- the search
  have cF := Lib.hid (find_any h (by omega) hx c)
  have HFnd : Hid (∀ k (r : Bool), KidSpot qs x c k → (r = true ↔ ∃ z, (kidsL qs x)[k]? = some z ∧ ltr x z = c) → r = true ∧ ∃ g n cp, V x = .slice (some ⟨g, 0, none⟩) n cp ∧ k < n ∧ w.cell? ⟨g, k, none⟩ = some (.pointer (some ⟨A y, 0, none⟩))) := Lib.hid (fun k r hS hR => by
    obtain ⟨e, hky⟩ := kid_found h.closed h.asc h.root hk hcy hS hR
    have hkl := (List.getElem?_eq_some_iff.1 hky).1
    refine ⟨e, ?_⟩
    rcases hrow.2 with ⟨_, h0⟩ | ⟨g, cap, cur, e2, hbg, hg, hnc, hcm, hcs, htake⟩
    · omega
    · refine ⟨g, _, cap, e2, hkl, ?_⟩
      have hr2 := hrow
      rw [e2] at hr2
      rw [hr2.cellAt k (by omega), ptrs, List.getElem?_map, hky]
      rfl)
  have cC := Lib.hid (countShared_any _ _ p q w hBy hb hpne hqne (by omega) (by omega))
  rw [hal] at cC
  -- a split
  have HSp : Hid (∀ W, Below w.heap.size w W → al < p.length → Calls Try.prog 68 #[.pointer (some ⟨A y, 0, none⟩), .int .i64 (al : Int)] W fun e w' => e = .returned (.tuple #[]) ∧ Calls Try.prog 41 #[.pointer (some ⟨A y, 0, none⟩), .slice (some ⟨rb, ro + al, none⟩) (rn - al) (rc - al)] w' (PutLPost base w qs en A word) ∧ (rc = al → Calls Try.prog 41 #[.pointer (some ⟨A y, 0, none⟩), .slice (some ⟨rb, ro, none⟩) 0 0] w' (PutLPost base w qs en A word))) := Lib.hid (fun W hW hlt => by
    have hLW := h.below hW
    obtain ⟨lz, hLz, hBz⟩ := hLW.spot y hk.2.1
    rw [kd_up h.root hk, hp] at hBz
    rw [hVy] at hLz
    refine (split_any W (A y) lz (en y) ya _ ycp p al hLz hBz hal0 hlt (by omega)).mono ?_
    rintro e w2 ⟨rfl, nb, rb2, lv1, lv2, vr, hS⟩
    refine ⟨rfl, ?_⟩
    have hmy : x ++ lcp p q <+: y := by rw [← hyp]; exact (List.prefix_append_right_inj x).2 (lcp_l p q)
    have hmw : x ++ lcp p q <+: word := by rw [← hwq]; exact (List.prefix_append_right_inj x).2 (lcp_r p q)
    have hml : (x ++ lcp p q).length = x.length + al := by rw [List.length_append, hal]
    have hmx : x ≠ x ++ lcp p q := fun e => by have := congrArg List.length e; rw [hml] at this; omega
    have hmny : x ++ lcp p q ≠ y := fun e => by
      have := congrArg List.length e
      rw [hml, ← hyp, List.length_append] at this
      omega
    have hmq : x ++ lcp p q ∉ qs := fun hm => hmx (pre_anti (List.prefix_append _ _) (hk.2.2.2.2 _ hm hmy hmny))
    have hd1 : (x ++ lcp p q).drop x.length = p.take al := by rw [htk]; simp
    have hd2 : y.drop (x ++ lcp p q).length = p.drop al := by rw [hml, ← hyp]; simp
    have hd3 : word.drop (x ++ lcp p q).length = q.drop al := by rw [hml, ← hwq]; simp
    have hVy' : V y = .slice ya (kidsL qs y).length ycp := hVy
    obtain ⟨hL2, hK2⟩ := hLW.split (Nat.le_trans hbase hW.size) hk (List.prefix_append _ _) hmx hmy hmny (hen _ hmq) hS.hnb hS.hrb hS.own hS.size hS.old hS.l1 (by rw [hVy']; exact hS.l2) (hS.row base (Nat.le_trans hbase hW.size)) (by rw [hd1]; exact hS.b1) (by rw [hd2]; exact hS.b2)
    have hbs := (KeptB.below hW).bts hb
    obtain ⟨hb1, hb2⟩ := bts_from (hK2.bts hbs) hrn hrc halq
    have hBel : Below base w w2 := (hW.mono hbase).trans ⟨hS.os.1, hS.os.2.1, hS.os.2.2, hS.size, fun j hj => hS.old j (Nat.lt_of_lt_of_le hj (Nat.le_trans hbase hW.size)) (by have := h.low y hk.2.1; omega)⟩
    have hA2 : (fun z => if z = x ++ lcp p q then A y else if z = y then nb else A z) (x ++ lcp p q) = A y := if_pos rfl
    have hnil : (fun z => if z = x ++ lcp p q then A y else if z = y then nb else A z) [] = A [] := by
      have e1 : ¬ ([] : Txt) = x ++ lcp p q := fun e => by have := congrArg List.length e; rw [hml] at this; simp at this; omega
      have e2 : ¬ ([] : Txt) = y := fun e => kd_not_nil hk e.symm
      simp only [if_neg e1, if_neg e2]
    have hm : x ++ lcp p q = lcp word y := by rw [lcp_comm, ← hyp, ← hwq, lcp_app]
    have fin : ∀ rv2, Bts w2 rv2 (word.drop (x ++ lcp p q).length) → Calls Try.prog 41 #[.pointer (some ⟨A y, 0, none⟩), rv2] w2 (PutLPost base w qs en A word) := fun rv2 hrv => by
      have c0 := ih w2 _ _ _ (x ++ lcp p q) rv2 hL2 (Nat.le_trans (Nat.le_trans hbase hW.size) hS.size) (put_len _ _) ((mem_put _ _ _).2 (.inr rfl)) hmw (by rw [hml]; omega) (fun z hz => hen z (fun hh => hz ((mem_put _ _ _).2 (.inl hh)))) (fun z hz => by
        rcases (mem_put _ _ _).1 hz with h1 | h1
        · exact hlen z h1
        · rw [h1]; have := hmy.length_le; omega) hrv
      simp only at c0
      refine c0.mono ?_
      rintro e w3 ⟨rfl, qs', A', V', g1, g2, g3, g4, g5, g6⟩
      exact ⟨rfl, qs', A', V', g1, grn_split hk.2.1 hm g2, by
        have hm2 := put_len qs (x ++ lcp p q)
        have : qs'.length ≤ qs.length + 2 := by
          have hg := grn_split hk.2.1 hm g2
          have e1 : qs' = put (put qs (lng word qs)) word := asc_ext hg.1 (asc_put _ (asc_put _ h.asc)) (fun z => by rw [hg.2, (grn_put h.asc h.closed h.root word).2])
          rw [e1]
          have := put_len qs (lng word qs)
          have := put_len (put qs (lng word qs)) word
          omega
        exact this, g4.trans hnil, hBel.trans g5, ((KeptB.below hW).trans hK2).trans g6⟩
    exact ⟨fin _ (by rw [hd3]; exact hb1), fun e => fin _ (by rw [hd3]; exact hb2 e)⟩)
  -- no split
  have HNo : Hid (∀ W, Below w.heap.size w W → al = p.length → Calls Try.prog 41 #[.pointer (some ⟨A y, 0, none⟩), .slice (some ⟨rb, ro + al, none⟩) (rn - al) (rc - al)] W (PutLPost base w qs en A word) ∧ (rc = al → Calls Try.prog 41 #[.pointer (some ⟨A y, 0, none⟩), .slice (some ⟨rb, ro, none⟩) 0 0] W (PutLPost base w qs en A word))) := Lib.hid (fun W hW he => by
    have hLW := h.below hW
    have hpq : p <+: q := by
      have : lcp p q = p := (lcp_l p q).eq_of_length (by rw [hal, he])
      rw [← this]; exact lcp_r p q
    have hyw : y <+: word := by rw [← hyp, ← hwq]; exact (List.prefix_append_right_inj x).2 hpq
    have hyl : y.length = x.length + al := by rw [← hyp, List.length_append, he]
    have hd3 : word.drop y.length = q.drop al := by rw [hyl, ← hwq]; simp
    have hbs := (KeptB.below hW).bts hb
    obtain ⟨hb1, hb2⟩ := bts_from hbs hrn hrc halq
    have fin : ∀ rv2, Bts W rv2 (word.drop y.length) → Calls Try.prog 41 #[.pointer (some ⟨A y, 0, none⟩), rv2] W (PutLPost base w qs en A word) := fun rv2 hrv => by
      have c0 := ih W _ _ _ y rv2 hLW (Nat.le_trans hbase hW.size) (by omega) hk.2.1 hyw (by rw [hyl]; omega) hen hlen hrv
      refine c0.mono ?_
      rintro e w3 ⟨rfl, qs', A', V', g1, g2, g3, g4, g5, g6⟩
      exact ⟨rfl, qs', A', V', g1, g2, g3, g4, (hW.mono hbase).trans g5, (KeptB.below hW).trans g6⟩
    exact ⟨fin _ (by rw [hd3]; exact hb1), fun e => fin _ (by rw [hd3]; exact hb2 e)⟩)
  obtain ⟨pn, hpn⟩ : ∃ n, p.length = n := ⟨_, rfl⟩
  rw [hpn] at hcy0 halp HSp HNo hpl hyc cC
  obtain ⟨ci, hci⟩ : ∃ ci : Int, (c.toNat : Int) = ci := ⟨_, rfl⟩
  rw [hci] at cF hc0
  have CC := Lib.hid cC
  have hyb2 := hyb
  clear h hx hxw hp hqq hyp hwq hp0 hq0 hpne hqne hrat hrn hal htk hLx hLy hBy hyat hrow hrowy hVy cC hpn hci hb ih hen hk hcy hcw hly hlen hlw hq hyb
  have hrl : al ≤ rn := halq
  have hall := halp
  by_cases hra : rc = al
  · have HRA := Lib.hid hra
    by_cases hsp : al < pn
    · subst hra
      go_enter Try.func41, Try.ntmps41
      go_wp2_with (go_at_call 65; refine cF.out.mono ?_; rintro e2 w' ⟨k, r, hS, hR, rfl, rfl⟩; obtain ⟨rfl, g, n, cp, hVx, hkn, hgc⟩ := HFnd.out k r hS hR; rw [hVx] at hcx2; clear hS hR hVx)
      go_wp2_with (first
        | (go_at_call 67; refine CC.out.mono ?_; rintro e3 w3 ⟨rfl, hb3⟩; have hcy3 := (hb3.cell (p := ⟨A y, 0, none⟩) hAy).trans hcy0; have HB3 := Lib.hid hb3; clear hb3)
        | (go_at_call 68; refine (HSp.out w3 HB3.out hsp).mono ?_; rintro e4 w4 ⟨rfl, hp1, hp2⟩; have HP1 := Lib.hid hp1; have HP2 := Lib.hid hp2; clear hp1 hp2)
        | (go_at_call 41; refine (HP2.out HRA.out).mono ?_; rintro e5 w5 ⟨rfl, hres⟩; have HRes := Lib.hid hres; clear hres))
      exact bodyPost_ret (results_none rfl _ _ _) rfl ⟨rfl, HRes.out⟩
    · have HEq : Hid (al = pn) := Lib.hid (by omega)
      subst hra
      go_enter Try.func41, Try.ntmps41
      go_wp2_with (go_at_call 65; refine cF.out.mono ?_; rintro e2 w' ⟨k, r, hS, hR, rfl, rfl⟩; obtain ⟨rfl, g, n, cp, hVx, hkn, hgc⟩ := HFnd.out k r hS hR; rw [hVx] at hcx2; clear hS hR hVx)
      go_wp2_with (first
        | (go_at_call 67; refine CC.out.mono ?_; rintro e3 w3 ⟨rfl, hb3⟩; have hcy3 := (hb3.cell (p := ⟨A y, 0, none⟩) hAy).trans hcy0; have HB3 := Lib.hid hb3; clear hb3; obtain ⟨hp1, hp2⟩ := HNo.out w3 HB3.out HEq.out; have HP1 := Lib.hid hp1; have HP2 := Lib.hid hp2; clear hp1 hp2)
        | (go_at_call 41; refine (HP2.out HRA.out).mono ?_; rintro e5 w5 ⟨rfl, hres⟩; have HRes := Lib.hid hres; clear hres))
      exact bodyPost_ret (results_none rfl _ _ _) rfl ⟨rfl, HRes.out⟩
  · by_cases hsp : al < pn
    · have hz := hsp
      go_enter Try.func41, Try.ntmps41
      go_wp2_with (go_at_call 65; refine cF.out.mono ?_; rintro e2 w' ⟨k, r, hS, hR, rfl, rfl⟩; obtain ⟨rfl, g, n, cp, hVx, hkn, hgc⟩ := HFnd.out k r hS hR; rw [hVx] at hcx2; clear hS hR hVx)
      go_wp2_with (first
        | (go_at_call 67; refine CC.out.mono ?_; rintro e3 w3 ⟨rfl, hb3⟩; have hcy3 := (hb3.cell (p := ⟨A y, 0, none⟩) hAy).trans hcy0; have HB3 := Lib.hid hb3; clear hb3)
        | (go_at_call 68; refine (HSp.out w3 HB3.out hsp).mono ?_; rintro e4 w4 ⟨rfl, hp1, hp2⟩; have HP1 := Lib.hid hp1; have HP2 := Lib.hid hp2; clear hp1 hp2)
        | (go_at_call 41; refine HP1.out.mono ?_; rintro e5 w5 ⟨rfl, hres⟩; have HRes := Lib.hid hres; clear hres))
      exact bodyPost_ret (results_none rfl _ _ _) rfl ⟨rfl, HRes.out⟩
    · have HEq : Hid (al = pn) := Lib.hid (by omega)
      go_enter Try.func41, Try.ntmps41
      go_wp2_with (go_at_call 65; refine cF.out.mono ?_; rintro e2 w' ⟨k, r, hS, hR, rfl, rfl⟩; obtain ⟨rfl, g, n, cp, hVx, hkn, hgc⟩ := HFnd.out k r hS hR; rw [hVx] at hcx2; clear hS hR hVx)
      go_wp2_with (first
        | (go_at_call 67; refine CC.out.mono ?_; rintro e3 w3 ⟨rfl, hb3⟩; have hcy3 := (hb3.cell (p := ⟨A y, 0, none⟩) hAy).trans hcy0; have HB3 := Lib.hid hb3; clear hb3; obtain ⟨hp1, hp2⟩ := HNo.out w3 HB3.out HEq.out; have HP1 := Lib.hid hp1; have HP2 := Lib.hid hp2; clear hp1 hp2)
        | (go_at_call 41; refine HP1.out.mono ?_; rintro e5 w5 ⟨rfl, hres⟩; have HRes := Lib.hid hres; clear hres))
      exact bodyPost_ret (results_none rfl _ _ _) rfl ⟨rfl, HRes.out⟩

/-- a word is put in below a limb -/
theorem putLimb_any (base : Nat) (en : Txt → Bool) (word : Txt) (hlw : word.length ≤ 1000) : ∀ (f : Nat) (w : World) (qs : List Txt) (A : Txt → Nat) (V : Txt → Value) (x : Txt) (rv : Value), word.length ≤ x.length + f → Limbs base w qs en A V → base ≤ w.heap.size → qs.length + f ≤ 900 → x ∈ qs → x <+: word → (∀ z, z ∉ qs → en z = false) → (∀ z, z ∈ qs → z.length ≤ 1000) → Bts w rv (word.drop x.length) →
    Calls Try.prog 41 #[.pointer (some ⟨A x, 0, none⟩), rv] w (PutLPost base w qs en A word)
  | f, w, qs, A, V, x, rv, hf, h, hbase, hq, hx, hxw, hen, hlen, hb => by
    by_cases e : x = word
    · subst e
      rw [List.drop_eq_nil_of_le (Nat.le_refl _)] at hb
      exact putL_end h hx rv hb
    · obtain ⟨c, hcw⟩ := pre_next hxw e
      by_cases hk : ∃ y, Kd qs x y ∧ x ++ [c] <+: y
      · obtain ⟨y, hky, hcy⟩ := hk
        have hxl : x.length < word.length := by
          have := hcw.length_le
          simp only [List.length_append, List.length_singleton] at this
          omega
        cases f with
        | zero => omega
        | succ f =>
          refine putL_on h hbase (by omega) hlw hky hcy hcw hlen hen rv hb ?_
          intro W qs2 A2 V2 x2 rv2 h2 hb2 hq2 hx2 hp2 hl2 hen2 hlen2 hbt2
          exact putLimb_any base en word hlw f W qs2 A2 V2 x2 rv2 (by omega) h2 hb2 (by omega) hx2 hp2 hen2 hlen2 hbt2
      · exact putL_new h hbase (by omega) hx hcw (fun y hy hc => hk ⟨y, hy, hc⟩) rv hb

end

end Go.Proofs.Ytoofpgehkihbcaa

/-
  An append to a row that a call owns, at an operation of a region that draws its order.
-/
namespace Go.Proofs.Ytoofpgehkihbcaa
open Go.RowKit
set_option linter.unusedVariables false

theorem step_append_row {P : Program} {w : World} {ops : Array Oper} {o : Oper} {ac : Act} {K : Act → World → Prop} {Q : Exit → Act → World → Prop} {E : Prop} (hgd : o.guard = none) (s x : Operand) (t : TypeId)
    (ho : o.op = .call { callee := .builtin .append, args := #[s, x], argTypes := #[t, t] })
    (base : Nat) (e : TypeId) (i : TypeInfo) (z : Value) (size bytes : Nat) (ht : P.underlying t = some (.slice e)) (hi : P.info? e = some i) (hz : i.zero = some z)
    (hsize : i.size = size) (hby : i.bytes = bytes) (hzs : z.cells.size = size) (hsz : 0 < size)
    (v : Value) (n : Nat) (xs : List Value) (hs : ac.eval s = v) (hown : w.ownsRow base e size v n xs)
    (ad : Addr) (m c : Nat) (news : List Value) (hx : ac.eval x = .slice (some ad) m c) (hl : news.length = m * size) (hnews : ∀ j u, news[j]? = some u → w.cell? (ad.add j) = some u) (h1 : ∀ u ∈ news, u.oneCell' = true)
    (h63 : n + m ≤ maxLen) (hbytes : (n + m) * bytes ≤ 140737488355328) (hbase : base ≤ w.heap.size)
    (h : ∀ v' w', w'.ownsRow base e size v' (n + m) (xs ++ news) → w.grownBy w' v.ownBlock → (v'.ownBlock = v.ownBlock ∨ v'.ownBlock = some w.heap.size) → K (ac.put o.dst v') w') :
    if Region.wanted o (yielded ops ac.tmps) = true then Oper.wp P o ac w K Q else E := by
  have hw : Region.wanted o (yielded ops ac.tmps) = true := by simp [Region.wanted, hgd]
  rw [if_pos hw]
  obtain ⟨v', w', hr, h2, h3, _, h5⟩ := run_append_own_at (P := P) w base t o.type e i z size bytes ht hi hz hsize hby hzs hsz v n xs hown ad m c news hl hnews h1 h63 hbytes hbase
  unfold Oper.wp execOp
  simp only [ho, resolve, invoke, builtin, Sem.run_bind, Sem.run_pure, Result.andThen_ok, List.map_toArray, List.map_cons, List.map_nil, hs, hx, hr]
  exact h v' w' h2 h3 h5

end Go.Proofs.Ytoofpgehkihbcaa

/-
  The program's numbering of the limbs: the branches are appended in the order of their texts.
-/
namespace Go.Proofs.Ytoofpgehkihbcaa
open Go.RowKit
set_option linter.unusedVariables false

def NumLPost (bT : Nat) (w : World) (v : Value) (T : List Br) (qs : List Txt) (i : Nat) (e : Ending) (w' : World) : Prop :=
  ∃ b v', e = .returned v' ∧ Blk qs i b ∧ w'.ownsRow bT 52 3 v' b (brc (T.take b)) ∧ Grew w w' v v'

set_option maxRecDepth 1000000 in
set_option maxHeartbeats 2000000 in
theorem numberL_any (base bT : Nat) (qs : List Txt) (en : Txt → Bool) (A : Txt → Nat) (V : Txt → Value) (hn : qs.length ≤ 1000) (hA : ∀ x ∈ qs, A x < bT) (hV : ∀ x ∈ qs, ∀ k, (V x).ownBlock = some k → k < bT) :
    ∀ (f i : Nat) (x : Txt) (d : Br) (v : Value) (w : World), qs.length ≤ i + f → qs[i]? = some x → (brs qs en)[i]? = some d → bT ≤ w.heap.size → w.ownsRow bT 52 3 v i (brc ((brs qs en).take i)) → Limbs base w qs en A V →
    Calls Try.prog 69 #[.pointer (some ⟨A x, 0, none⟩), v, .int .i64 d.p] w (NumLPost bT w v (brs qs en) qs i)
  | 0, i, x, d, v, w, hf, hx, hd, _, _, _ => by
    have := (List.getElem?_eq_some_iff.1 hx).1
    omega
  | f + 1, i, x, d, v, w, hf, hx, hd, hbT, hown, hL => by
    have ih := Lib.hid (numberL_any base bT qs en A V hn hA hV f)
    have hi := (List.getElem?_eq_some_iff.1 hx).1
    have hi1 : i < 1000 := by omega
    have hxm := at_mem hx
    have HX := Lib.hid hx
    have HB := Lib.hid hbT
    have HLm := Lib.hid hL
    have HAb := Lib.hid hA
    have HVb := Lib.hid hV
    have HF := Lib.hid hf
    obtain ⟨lx, hLB, hBts⟩ := hL.spot x hxm
    have hd2 : d = brOf qs en x := by
      rw [brs_at hx] at hd
      exact (Option.some.inj hd).symm
    have hdl : d.l = x.drop (up qs x).length := by rw [hd2]; rfl
    have hde : d.e = en x := by rw [hd2]; rfl
    have hconv := conv_bts hBts
    rw [← hdl] at hconv
    have hc0 := hLB.c0
    have hc1 := hLB.c1
    have hc2 := hLB.c2
    rw [← hde] at hc1
    have hltA : A x < w.heap.size := hLB.lt
    obtain ⟨a, c, rfl⟩ := own_slice hown
    have HO := Lib.hid hown
    have HRow : Hid (brc ((brs qs en).take i) ++ [.string (bx d.l), .int .i64 d.p, .bool d.e] = brc ((brs qs en).take (i + 1))) := Lib.hid (by rw [take_br hd, brc_app]; rfl)
    obtain ⟨i0, hii, hz0, hz1, hz2⟩ := info_parts infoBr
    have hneA : some (A x) ≠ Value.ownBlock (.slice a i c) := fun he => by
      have h1 := (hown.lt _ he.symm).1
      have h2 := hA x hxm
      omega
    have HS0 : Hid (∀ W, KeptB w W → (convert 63 9 lx).run Try.prog W = .ok (.string (bx d.l)) W) := Lib.hid (fun W hW => by rw [hdl]; exact conv_bts (hW.bts hBts))
    -- the row of kids
    have hrow := hL.row x hxm
    have HKL := Lib.hid (hL.kl x)
    have HAsc := Lib.hid hL.asc
    have HCl := Lib.hid hL.closed
    have HRt := Lib.hid hL.root
    obtain ⟨kn, hkn⟩ : ∃ n, (kidsL qs x).length = n := ⟨_, rfl⟩
    have hkn1 : kn ≤ 1000 := by have h1 : (kidsL qs x).length ≤ qs.length := List.length_filter_le _ _; omega
    obtain ⟨ka, kc, hVx⟩ := own_slice hrow
    rw [hkn] at hVx
    rw [hVx] at hc2
    have HKN := Lib.hid hkn
    have HVx := Lib.hid hVx
    have HP : Hid (∀ (m : Nat) (y : Txt), Kd qs x y → qs[m]? = some y → ∃ d2, (brs qs en)[m]? = some d2 ∧ d2.p = (i : Int)) := Lib.hid (fun m y hk hm => ⟨_, brs_at hm, by rw [brOf_kid hL.asc hL.root hx hk]⟩)
    have HBt := Lib.hid hBts
    have hkb0 := KeptB.refl w
    have hcv0 := HS0.out w hkb0
    clear hbT hown hL hA hV hn hf hi hdl hde hd2 hd hLB hBts hrow hkn hVx hx hconv hkb0
    obtain ⟨sv, hsv⟩ : ∃ sv, bx d.l = sv := ⟨_, rfl⟩
    rw [hsv] at hcv0 HS0 HRow
    clear hsv
    have HSD : Hid (w.drew.cell? ⟨A x, 0, none⟩ = some lx ∧ w.drew.cell? ⟨A x, 1, none⟩ = some (.bool d.e) ∧ (convert 63 9 lx).run Try.prog w.drew = .ok (.string sv) w.drew) := Lib.hid ⟨hc0, hc1, HS0.out _ (fun b cs m h => h)⟩
    have HSA : Hid (∀ o, (w.alloc o).drew.cell? ⟨A x, 0, none⟩ = some lx ∧ (w.alloc o).drew.cell? ⟨A x, 1, none⟩ = some (.bool d.e) ∧ (convert 63 9 lx).run Try.prog (w.alloc o).drew = .ok (.string sv) (w.alloc o).drew) := Lib.hid (fun o => ⟨(World.cell?_alloc_lt w o ⟨A x, 0, none⟩ hltA).trans hc0, (World.cell?_alloc_lt w o ⟨A x, 1, none⟩ hltA).trans hc1, HS0.out _ (fun b cs m h => KeptB.below ((Below.refl _ _).alloc (Nat.le_refl _) o) b cs m h)⟩)
    clear hcv0
    go_enter Try.func69, Try.ntmps69
    go_wp2
    go_region_held3 (fun w' => w'.cell? ⟨A x, 0, none⟩ = some lx ∧ w'.cell? ⟨A x, 1, none⟩ = some (.bool d.e) ∧ (convert 63 9 lx).run Try.prog w' = .ok (.string sv) w')
      (first
        | exact ⟨(hGr.cell ⟨A x, 0, none⟩ hltA hneA).trans hc0, (hGr.cell ⟨A x, 1, none⟩ hltA hneA).trans hc1, HS0.out _ (KeptB.rowT (by decide) HO.out hGr.grown)⟩
        | exact HSA.out _
        | exact HSD.out)
      (first
        | (refine step_append_row (by rfl) _ _ 28 (by rfl) bT 52 i0 (.agg #[.string ByteArray.empty, .int .i64 0, .bool false]) 3 32 Try.underlying28 hii hz0 hz1 hz2 (by rfl) (by decide) _ _ _ (by rfl) (by exact HO.out.alloc _) ⟨_, 0, none⟩ 1 1 [.string sv, .int .i64 d.p, .bool d.e] (by rfl) (by rfl) (by exact news_at (cs := #[.string sv, .int .i64 d.p, .bool d.e]) (by rfl)) (by simp [Value.oneCell']) (by unfold maxLen; omega) (by omega) (by have := HB.out; simp; omega) ?_; intro v2 w2 hO2 hG2 hat2; have hGr : Grew w w2 (.slice a i c) v2 := Grew.app (o := .cells #[.string sv, .int .i64 d.p, .bool d.e] 52) ⟨hG2.os, hG2.tape, hG2.output, hG2.size, hG2.block⟩ hat2; clear hG2 hat2))
    have HO2 : Hid (w2.ownsRow bT 52 3 v2 (i + 1) (brc ((brs qs en).take (i + 1)))) := Lib.hid (by rw [← HRow.out]; exact hO2)
    have HG2 := Lib.hid hGr
    have hc2' := (hGr.cell ⟨A x, 2, none⟩ hltA hneA).trans hc2
    have HL2 : Hid (Limbs base w2 qs en A V) := Lib.hid (HLm.out.grew HAb.out HVb.out HB.out HO.out hGr)
    have HB2 : Hid (bT ≤ w2.heap.size) := Lib.hid (Nat.le_trans HB.out hGr.grown.size)
    clear hO2 hGr hc0 hc1 hc2
    go_wp2
    go_loopw [1, 31] (fun s1 s31 wr => ∃ (j k : Nat) (v' : Value), s31 = .int .i64 j ∧ j ≤ kn ∧ v' = s1 ∧ Hid (KJ qs i x (kidsL qs x) j k) ∧ Hid (wr.ownsRow bT 52 3 v' k (brc ((brs qs en).take k))) ∧ Hid (Grew w wr (.slice a i c) v') ∧ Hid (Limbs base wr qs en A V) ∧ Hid (bT ≤ wr.heap.size)) (fun _ s31 _ => kn - (intOf s31).toNat)
    case atStart => exact ⟨0, i + 1, v2, rfl, by omega, rfl, Lib.hid (KJ.start HAsc.out HX.out), HO2, HG2, HL2, HB2⟩
    case round =>
      obtain ⟨j, k, v', rfl, hjk, rfl, HKJ, HOk, HGr, HLk, HBk⟩ := hrel
      by_cases hlt : j < kn
      · obtain ⟨y, hy⟩ : ∃ y, (kidsL qs x)[j]? = some y := ⟨_, List.getElem?_eq_getElem (by rw [HKN.out]; exact hlt)⟩
        have hky := (HKL.out.2 y).1 (at_mem hy)
        have hqk := HKJ.out.kid HAsc.out HCl.out HX.out HKL.out hy
        obtain ⟨d2, hd2, hp2⟩ := HP.out k y hky hqk
        have hik := HKJ.out.lt
        have cN := ih.out k y d2 v' wr (by have := HF.out; omega) hqk hd2 HBk.out HOk.out HLk.out
        rw [hp2] at cN
        have HCN := Lib.hid cN
        have hrow := HLk.out.row x (at_mem HX.out)
        rw [HVx.out] at hrow
        obtain ⟨g, hka, hgc⟩ : ∃ g, ka = some ⟨g, 0, none⟩ ∧ wr.cell? ⟨g, j, none⟩ = some (.pointer (some ⟨A y, 0, none⟩)) := by
          rcases hrow.2 with ⟨_, h0⟩ | ⟨g, cap, cur, e2, hbg, hg, hnc, hcm, hcs, htake⟩
          · rw [HKN.out] at h0; omega
          · simp only [Value.slice.injEq] at e2
            refine ⟨g, e2.1, ?_⟩
            have hr2 := hrow
            rw [e2.1, ← HKN.out] at hr2
            rw [hr2.cellAt j (by rw [HKN.out]; omega), ptrs, List.getElem?_map, hy]
            rfl
        have HKj := Lib.hid (fun b (hb : Blk qs k b) => HKJ.out.next HAsc.out HCl.out HX.out HKL.out hy hb)
        subst hka
        clear hky hqk hd2 hp2 cN hrow hy
        go_wp2_with (go_at_call 69; refine HCN.out.mono ?_; rintro en3 w3 ⟨b, v3, rfl, hb3, hO3, hG3⟩; have HB3 := Lib.hid hb3; have HO3 := Lib.hid hO3; have HG3 := Lib.hid hG3; clear hb3 hO3 hG3)
        go_roundw
        case rel => exact ⟨j + 1, b, v3, by go_num, by omega, rfl, Lib.hid (HKj.out b HB3.out), HO3, Lib.hid (HGr.out.trans HG3.out), Lib.hid (HLk.out.grew HAb.out HVb.out HBk.out HOk.out HG3.out), Lib.hid (Nat.le_trans HBk.out HG3.out.grown.size)⟩
        case measure => simp [intOf]; omega
      · obtain rfl : j = kn := by omega
        have HBh : Hid (Blk qs i k) := Lib.hid (by
          have h1 := HKJ.out
          rw [← HKN.out] at h1
          exact h1.stop HX.out HKL.out)
        go_wp2
        go_ret
        exact ⟨k, _, rfl, HBh.out, HOk.out, HGr.out⟩

end Go.Proofs.Ytoofpgehkihbcaa

/-
  The program's pressed tree of some words.
-/
namespace Go.Proofs.Ytoofpgehkihbcaa
open Go.RowKit
set_option linter.unusedVariables false

/-- a pressed tree that the call owns -/
def PresPost (w : World) (p : List Br) (e : Ending) (w' : World) : Prop :=
  ∃ v, e = .returned (.agg #[v]) ∧ w'.ownsRow w.heap.size 52 3 v p.length (brc p) ∧ Below w.heap.size w w'

set_option maxRecDepth 1000000 in
set_option maxHeartbeats 1000000 in
theorem press_any (base : Nat) (w : World) (qs : List Txt) (en : Txt → Bool) (A : Txt → Nat) (V : Txt → Value) (h : Limbs base w qs en A V) (hz : qs[0]? = some []) (hn : qs.length ≤ 1000) :
    Calls Try.prog 42 #[.pointer (some ⟨A [], 0, none⟩)] w (PresPost w (brs qs en)) := by
  have hb1 := (Below.refl w.heap.size w).alloc (Nat.le_refl _) (.cells #[.slice none 0 0] 30)
  have hL1 := h.below hb1
  have hs1 : (w.alloc (.cells #[.slice none 0 0] 30)).heap.size = w.heap.size + 1 := by simp
  have hd : (brs qs en)[0]? = some (brOf qs en []) := brs_at hz
  have cN := numberL_any base (w.heap.size + 1) qs en A V hn (fun x hx => by have := h.lt hx; omega) (fun x hx k hk => by have := ((h.row x hx).lt k hk).2; omega) qs.length 0 [] (brOf qs en []) (.slice none 0 0) _ (by omega) hz hd (Nat.le_of_eq hs1.symm) (by simpa [brc] using World.ownsRow_nil _ _ _ _) hL1
  have ep : (brOf qs en []).p = -1 := by rw [brOf_root]
  rw [ep] at cN
  have HCN := Lib.hid cN
  have HZ := Lib.hid hz
  have HB1 := Lib.hid hb1
  have HBx := Lib.hid (Boxed.new w 30 (.slice none 0 0))
  have HLn := Lib.hid (brs_len qs en)
  clear cN ep hd hL1 h hz hn hs1 hb1
  go_enter Try.func42, Try.ntmps42
  go_upto_region 1 with fail
  obtain ⟨W1, hW1⟩ : ∃ W1, w.alloc (.cells #[.slice none 0 0] 30) = W1 := ⟨_, rfl⟩
  rw [hW1] at HCN HB1 HBx ⊢
  have hz1 : W1.heap.size = w.heap.size + 1 := by rw [← hW1]; simp
  have HZ1 := Lib.hid hz1
  clear hW1 hz1
  go_wp2_with (go_at_call 69; refine HCN.out.mono ?_; rintro en w2 ⟨b2, v2, rfl, hbh, hO2, hG2⟩; obtain rfl := blk_root HZ.out hbh; rw [← HLn.out, List.take_length] at hO2; have hb2 := hG2.to (World.ownsRow_nil W1 (w.heap.size + 1) 52 3) (Nat.le_of_eq HZ1.out.symm); obtain ⟨a2, c2, rfl⟩ := own_slice hO2; have HO2 := Lib.hid hO2; have HB2 := Lib.hid hb2; clear hbh hG2 hb2 hO2; have hrc := (box_under HBx.out HB2.out (by omega)).cell; have hrf := (box_under HBx.out HB2.out (by omega)).frozen)
  refine bodyPost_ret (v := .agg #[.slice a2 (brs qs en).length c2]) (by simp [results, Try.results42, go_sem, hrc]) rfl ⟨_, rfl, ?_, (HB1.out.trans (HB2.out.mono (by omega))).setCell (Nat.le_refl _) _⟩
  exact (own_down HO2.out (by omega)).kept (grownBy_setCell' w2 w.heap.size _) (.inr ((box_under HBx.out HB2.out (by omega)).not_row (by decide) HO2.out).symm)

/-- a text's bytes in a block of their own -/
theorem bts_new (w : World) (s : ByteArray) (cap : Nat) (C : Array Value) (hC : bytesRow s cap = C) (h1 : s.size ≤ cap) (h2 : cap ≤ 9223372036854775807) :
    Bts ((w.alloc (.cells C 5 (C.size, C.size + 1))).drew) (.slice (some ⟨w.heap.size, 0, none⟩) s.size cap) (tx s) ∧ Below w.heap.size w ((w.alloc (.cells C 5 (C.size, C.size + 1))).drew) := by
  subst hC
  refine ⟨.inr ⟨w.heap.size, 0, cap, bytesRow s cap, ((bytesRow s cap).size, (bytesRow s cap).size + 1), by rw [tx_len], ?_, by rw [tx_len]; exact h1, h2, fun i u hu => ?_⟩, below_drewN ((Below.refl _ _).alloc (Nat.le_refl _) _) 1⟩
  · show (w.heap.push _)[w.heap.size]? = _
    simp
  · obtain ⟨hi, e⟩ := List.getElem?_eq_some_iff.1 hu
    rw [tx_len] at hi
    have hi' : i < s.data.size := hi
    unfold bytesRow
    rw [Nat.zero_add, Array.getElem?_append_left (by simpa using hi'), Array.getElem?_map, Array.getElem?_eq_getElem hi', ← e]
    rfl

set_option maxRecDepth 1000000 in
set_option maxHeartbeats 2000000 in
theorem pressWords_any (B : Nat) (a : Option Addr) (n c : Nat) (xs : List Txt) (w : World) (hB : B ≤ w.heap.size) (h : Wds B w a n c xs) (hn : n ≤ 100) (hw : ∀ x ∈ xs, IsW x) :
    Calls Try.prog 79 #[.slice a n c] w (PresPost w (prw xs)) := by
  have L := Lib.hid h.len
  have C := h.sl.cap
  have T := h.sl.top
  have H := Lib.hid h
  have HB := Lib.hid hB
  have HW := Lib.hid hw
  clear h hB hw
  have HBx0 := Lib.hid (Boxed.new w 30 (.slice none 0 0))
  have HB0 : Hid (Below w.heap.size w (w.alloc (.cells #[.slice none 0 0] 30))) := Lib.hid ((Below.refl _ _).alloc (Nat.le_refl _) _)
  have HZ0 : Hid ((w.alloc (.cells #[.slice none 0 0] 30)).heap.size = w.heap.size + 1) := Lib.hid (by simp)
  go_enter Try.func79, Try.ntmps79
  go_upto_region 1 with fail
  obtain ⟨W1, hW1⟩ : ∃ W1, w.alloc (.cells #[.slice none 0 0] 30) = W1 := ⟨_, rfl⟩
  rw [hW1] at HBx0 HB0 HZ0 ⊢
  clear hW1
  have HL0 : Hid (Limbs (w.heap.size + 1) (W1.alloc (.cells #[.slice none 0 0, .bool false, .slice none 0 0] 89)) [[]] (fun z => decide (z ∈ xs.take 0)) (fun _ => W1.heap.size) (fun _ => .slice none 0 0)) := Lib.hid (by
    have hk : kidsL [([] : Txt)] [] = [] := by simp [kidsL]
    refine ⟨by simp, by simp, fun x hx y hy => ?_, fun x hx => by have := HZ0.out; omega, fun x hx y hy _ => ?_, fun x hx y hy k hk => by simp [Value.ownBlock] at hk, fun x hx => ?_, fun x hx => ?_⟩
    · rw [List.mem_singleton] at *
      rw [hx, hy]; rfl
    · rw [List.mem_singleton] at *
      rw [hx, hy]
    · rw [List.mem_singleton] at hx
      subst hx
      exact ⟨_, LB.new W1 _ _ _, .inl ⟨rfl, by simp⟩⟩
    · rw [List.mem_singleton] at hx
      subst hx
      rw [hk]
      exact World.ownsRow_nil _ _ _ _)
  have HB1 : Hid (Below (w.heap.size + 1) W1 (W1.alloc (.cells #[.slice none 0 0, .bool false, .slice none 0 0] 89))) := Lib.hid ((Below.refl _ _).alloc (by have := HZ0.out; omega) _)
  go_wp2
  go_loopw [10] (fun s wr => ∃ (k : Nat) (qs : List Txt) (A : Txt → Nat) (V : Txt → Value), k ≤ n ∧ s = .int .i64 k ∧ Hid (Limbs (w.heap.size + 1) wr qs (fun z => decide (z ∈ xs.take k)) A V) ∧ Hid (Sta (xs.take k) qs) ∧ Hid (A [] = W1.heap.size) ∧ Hid (Below (w.heap.size + 1) W1 wr)) (fun s _ => n - (intOf s).toNat)
  case atStart => exact ⟨0, [[]], _, _, Nat.zero_le _, rfl, HL0, Lib.hid (by simpa [stl] using stl_sta []), Lib.hid rfl, HB1⟩
  case round =>
    obtain ⟨k, qs, A, V, hk, rfl, HL, HS, HRt, HBw⟩ := hrel
    have HBox := Lib.hid (box_under HBx0.out HBw.out (by omega))
    have HBwr : Hid (Below w.heap.size w wr) := Lib.hid (HB0.out.trans (HBw.out.mono (by omega)))
    have hzr : w.heap.size + 1 ≤ wr.heap.size := by have := HBw.out.size; have := HZ0.out; omega
    by_cases hlt : k < n
    · obtain ⟨b, o, t, rfl, hbB, ht, htz, hcell⟩ := Wds.elem (xs := xs) (H.out.keep (HBwr.out.mono HB.out)) k hlt
      have hiw : IsW (tx t) := HW.out _ (at_mem ht)
      have htl : t.size ≤ 12 := by have := hiw.1; rwa [tx_len] at this
      have HTk : Hid (xs.take (k + 1) = xs.take k ++ [tx t]) := Lib.hid (by
        obtain ⟨hkl, e⟩ := List.getElem?_eq_some_iff.1 ht
        rw [List.take_succ_eq_append_getElem hkl, e])
      have hfew := HS.out.few
      have htkl : (xs.take k).length ≤ 100 := by rw [List.length_take]; omega
      have hlen : ∀ z, z ∈ qs → z.length ≤ 1000 := fun z hz => by
        have := (stl_isW (fun x hx => HW.out x (List.mem_of_mem_take hx)) z (by rw [← HS.out.uniq (stl_sta _)]; exact hz)).1
        omega
      obtain ⟨cap, hcap⟩ : ∃ cap, grownCap wr t.size 0 5 = cap := ⟨_, rfl⟩
      have hconv := run_bytes_of_string (P := Try.prog) wr 9 63 5 t Try.underlying9 Try.underlying63 Try.underlying5
      rw [hcap] at hconv
      have hcap1 : t.size ≤ cap := by rw [← hcap]; exact grownCap_ge _ _ _ _
      have hcap2 : cap ≤ 9223372036854775807 := by
        have := grownCap_le_maxLen wr t.size 0 5 (by unfold maxLen; omega)
        rw [hcap] at this
        unfold maxLen at this
        exact this
      obtain ⟨C2, hC⟩ : ∃ C, bytesRow t cap = C := ⟨_, rfl⟩
      rw [hC] at hconv
      obtain ⟨hbt, hbl⟩ := bts_new wr t cap C2 hC hcap1 hcap2
      have cP := putLimb_any (w.heap.size + 1) (fun z => decide (z ∈ xs.take k)) (tx t) (by rw [tx_len]; omega) 12 _ qs A V [] _ (by simp; omega) (HL.out.below hbl) (Nat.le_trans hzr hbl.size) (by omega) HL.out.root List.nil_prefix (fun z hz => decide_eq_false (fun hm => hz (HS.out.words hm))) hlen hbt
      rw [HRt.out] at cP
      have HCP := Lib.hid cP
      have HBl := Lib.hid hbl
      clear hC hcap hfew htkl hlen cP hbt hbl hiw ht hcap1 hcap2
      go_wp2_with (go_at_call 41; refine HCP.out.mono ?_; rintro en3 w3 ⟨rfl, qs3, A3, V3, g1, g2, g3, g4, g5, g6⟩; have G1 := Lib.hid g1; have G2 := Lib.hid g2; have G4 := Lib.hid g4; have G5 := Lib.hid g5; clear g1 g2 g3 g4 g5 g6)
      go_roundw
      case rel =>
        refine ⟨k + 1, qs3, A3, V3, by omega, by go_num, Lib.hid (G1.out.enEq (fun z _ => ?_)), Lib.hid (HS.out.more G2.out (fun x => ?_)), Lib.hid (G4.out.trans HRt.out), Lib.hid (HBw.out.trans ((HBl.out.mono hzr).trans G5.out))⟩
        · rw [HTk.out, Bool.eq_iff_iff]
          simp only [Bool.or_eq_true, decide_eq_true_eq, List.mem_append, List.mem_singleton]
          exact ⟨fun h => h.elim .inr .inl, fun h => h.elim .inr .inl⟩
        · rw [HTk.out, List.mem_append, List.mem_singleton]
          exact ⟨fun h => h.elim .inr .inl, fun h => h.elim .inr .inl⟩
      case measure => simp [intOf]; omega
    · obtain rfl : k = n := by omega
      have hx : xs.take k = xs := List.take_of_length_le (by have := L.out; omega)
      rw [hx] at HL HS
      have hfew := HS.out.few
      have cP := press_any (w.heap.size + 1) wr qs _ A V HL.out HS.out.zero (by have := L.out; omega)
      rw [HRt.out, prw_of HS.out] at cP
      have HCP := Lib.hid cP
      clear cP hx hfew
      go_wp2_with (go_at_call 42; refine HCP.out.mono ?_; rintro en3 w3 ⟨v3, rfl, hO3, hb3⟩; obtain ⟨a3, c3, rfl⟩ := own_slice hO3; have HO3 := Lib.hid hO3; have HB3 := Lib.hid hb3; clear hO3 hb3; have hrc := (box_stay HBox.out HB3.out).cell; have hrf := (box_stay HBox.out HB3.out).frozen)
      refine bodyPost_ret (v := .agg #[.slice a3 (prw xs).length c3]) (by simp [results, Try.results79, go_sem, hrc]) rfl ⟨_, rfl, ?_, (HBwr.out.trans (HB3.out.mono (by omega))).setCell (Nat.le_refl _) _⟩
      exact (own_down HO3.out (by omega)).kept (grownBy_setCell' w3 w.heap.size _) (.inr ((box_stay HBox.out HB3.out).not_row (by decide) HO3.out).symm)

end Go.Proofs.Ytoofpgehkihbcaa
