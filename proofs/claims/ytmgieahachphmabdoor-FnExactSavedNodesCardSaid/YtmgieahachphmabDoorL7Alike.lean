/-
  The reference compares two nodes by their ends and by labels of their kids.
-/
import Derived.Test.YtmgieahachphmabDoorRR
import Derived.Test.YtmgieahachphmabDoorNds
import Derived.Test.YtmgieahachphmabDoorGvT
import Derived.Deep.QuietTactic
import Derived.BigQuiet
namespace Go.Proofs.YtmgieahachphmabDoor
open Go.RowKit
set_option linter.unusedVariables false

/-- labels as cells -/
def lrow (L : Nat → Nat) (n : Nat) : List Value := (List.range n).map fun k => Value.int .i64 ((L k : Nat) : Int)
theorem lrow_at (L : Nat → Nat) {n k : Nat} (h : k < n) : (lrow L n)[k]? = some (.int .i64 ((L k : Nat) : Int)) := by
  unfold lrow
  rw [List.getElem?_map, List.getElem?_range h]
  rfl
theorem lrow_len (L : Nat → Nat) (n : Nat) : (lrow L n).length = n := by simp [lrow]
theorem lrow_set (L : Nat → Nat) (n i v : Nat) (h : i < n) : (lrow L n).set i (.int .i64 ((v : Nat) : Int)) = lrow (setL L i v) n := by
  apply List.ext_getElem?
  intro j
  by_cases e : i = j
  · subst e
    rw [List.getElem?_set_self (by rw [lrow_len]; exact h), lrow_at _ h, setL_same]
  · rw [List.getElem?_set_ne e]
    by_cases hj : j < n
    · rw [lrow_at _ hj, lrow_at _ hj, setL_other _ _ (fun h => e h.symm)]
    · rw [List.getElem?_eq_none (by rw [lrow_len]; omega), List.getElem?_eq_none (by rw [lrow_len]; omega)]

theorem sg_ways' {t : List Nd} {L : Nat → Nat} {i k : Nat} {ki kk : List Nat} (hi : kidsTo t i t.length = ki) (hk : kidsTo t k t.length = kk) : sg t L i = sg t L k ↔ (ndA t i).e = (ndA t k).e ∧ ki.length = kk.length ∧ ∀ (j a b : Nat), ki[j]? = some a → kk[j]? = some b → (ndA t a).l = (ndA t b).l ∧ L a = L b := by
  unfold sg
  rw [hi, hk]
  constructor
  · intro h
    have h1 := congrArg Prod.fst h
    have h2 := congrArg Prod.snd h
    refine ⟨h1, by simpa using congrArg List.length h2, fun j a b ha hb => ?_⟩
    have h3 := congrArg (fun l => l[j]?) h2
    simp only [List.getElem?_map, ha, hb, Option.map_some, Option.some.injEq, Prod.mk.injEq] at h3
    exact h3
  · rintro ⟨h1, h2, h3⟩
    refine Prod.ext h1 ?_
    apply List.ext_getElem?
    intro j
    simp only [List.getElem?_map]
    by_cases hj : j < ki.length
    · obtain ⟨a, ha⟩ : ∃ a, ki[j]? = some a := ⟨_, List.getElem?_eq_getElem hj⟩
      obtain ⟨b, hb⟩ : ∃ b, kk[j]? = some b := ⟨_, List.getElem?_eq_getElem (by omega)⟩
      have h4 := h3 j a b ha hb
      rw [ha, hb]
      simp [h4.1, h4.2]
    · rw [List.getElem?_eq_none (by omega), List.getElem?_eq_none (by omega)]

theorem at_memN {l : List Nat} {j x : Nat} (h : l[j]? = some x) : x ∈ l := by
  obtain ⟨hj, e⟩ := List.getElem?_eq_some_iff.1 h
  rw [← e]
  exact List.getElem_mem _

theorem neq_int {a b : Int} (h : a ≠ b) : (a != b) = true := by simp [h]
theorem neq_same (a : Int) : (a != a) = false := by simp

set_option maxRecDepth 1000000 in
set_option maxHeartbeats 4000000 in
theorem l7Alike_any (B base gk ge : Nat) (a : Option Addr) (n c : Nat) (t : List Nd) (vs : List Value) (L : Nat → Nat) (i k : Nat) (w : World) (hB : B ≤ w.heap.size) (h : Nds B w a n c t) (hn : n ≤ 1000) (hR : RR base w gk n vs (fun i => kidsTo t i n)) (hE : Sl w.heap.size w (some ⟨ge, 0, none⟩) n n (lrow L n)) (hL : ∀ j, j < n → L j ≤ 1000) (hi : i < n) (hk : k < n) :
    Calls Tryd.prog 79 #[.agg #[.slice a n c], .slice (some ⟨gk, 0, none⟩) n n, .slice (some ⟨ge, 0, none⟩) n n, .int .i64 (i : Int), .int .i64 (k : Int)] w fun e w' => e = .returned (.bool (decide (sg t L i = sg t L k))) ∧ Below w.heap.size w w' := by
  have C := h.cap
  have T := h.top
  have HLn : Hid (t.length = n) := Lib.hid h.len
  have hb1 : Below w.heap.size w (w.alloc (.cells #[.slice a n c] 33)) := (Below.refl _ _).alloc (Nat.le_refl _) _
  have hbx : (w.alloc (.cells #[.slice a n c] 33)).cell? ⟨w.heap.size, 0, none⟩ = some (.slice a n c) := by simp
  have HB1 := Lib.hid hb1
  have HR1 := Lib.hid (hR.on hb1)
  have HE1 := Lib.hid ((hE.keep hb1).mono hb1.size)
  have HN1 := Lib.hid (h.keep (hb1.mono hB))
  have HZ1 : Hid (B ≤ (w.alloc (.cells #[.slice a n c] 33)).heap.size) := Lib.hid (Nat.le_trans hB hb1.size)
  have hsz1 : w.heap.size < (w.alloc (.cells #[.slice a n c] 33)).heap.size := by simp
  have HLb := Lib.hid hL
  obtain ⟨ki, hki⟩ : ∃ l, kidsTo t i t.length = l := ⟨_, rfl⟩
  obtain ⟨kk, hkk⟩ : ∃ l, kidsTo t k t.length = l := ⟨_, rfl⟩
  have HW := Lib.hid (sg_ways' (L := L) hki hkk)
  have HKi : Hid (∀ x ∈ ki, x < n) := Lib.hid (fun x hx => by rw [← hki] at hx; have := (mem_kidsTo.1 hx).1; have := HLn.out; omega)
  have HKk : Hid (∀ x ∈ kk, x < n) := Lib.hid (fun x hx => by rw [← hkk] at hx; have := (mem_kidsTo.1 hx).1; have := HLn.out; omega)
  obtain ⟨r, hr⟩ : ∃ r, decide (sg t L i = sg t L k) = r := ⟨_, rfl⟩
  have HR0 : Hid (r = true ↔ (ndA t i).e = (ndA t k).e ∧ ki.length = kk.length ∧ ∀ (j a b : Nat), ki[j]? = some a → kk[j]? = some b → (ndA t a).l = (ndA t b).l ∧ L a = L b) := Lib.hid (by rw [← hr, decide_eq_true_eq]; exact HW.out)
  rw [hr]
  obtain ⟨vi, hvi, hvi2⟩ := hR.row i hi
  obtain ⟨vk, hvk, hvk2⟩ := hR.row k hk
  have hki' : kidsTo t i n = ki := by rw [← HLn.out]; exact hki
  have hkk' : kidsTo t k n = kk := by rw [← HLn.out]; exact hkk
  rw [hki'] at hvi2
  rw [hkk'] at hvk2
  obtain ⟨ai, ci, rfl⟩ := own_slice hvi2
  obtain ⟨ak, ck, rfl⟩ := own_slice hvk2
  have hlv : vs.length = n := by simpa using hR.out.1
  have hci := (HR1.out.out.cellAt i (by omega)).trans hvi
  have hck := (HR1.out.out.cellAt k (by omega)).trans hvk
  have HSi := Lib.hid (((Sl.of_own hvi2).keep hb1).mono hb1.size)
  have HSk := Lib.hid (((Sl.of_own hvk2).keep hb1).mono hb1.size)
  have hbnd : ki.length ≤ 1000 ∧ kk.length ≤ 1000 := by
    have h1 := kidsTo_le (t := t) (i := i) n
    have h2 := kidsTo_le (t := t) (i := k) n
    rw [hki'] at h1
    rw [hkk'] at h2
    omega
  obtain ⟨b, o, l1, p1, e1, rfl, hbB, hd1, _, _, hx1, hx2, hx3⟩ := HN1.out.elem i hi
  obtain ⟨b', o', l2, p2, e2, e', _, hd2, _, _, hy1, hy2, hy3⟩ := HN1.out.elem k hk
  injection e' with e'; injection e' with e' e''; subst e'; subst e''
  have HE12 : Hid ((ndA t i).e = e1 ∧ (ndA t k).e = e2) := Lib.hid ⟨by rw [ndA_at hd1], by rw [ndA_at hd2]⟩
  obtain ⟨mi, hmi⟩ : ∃ m, ki.length = m := ⟨_, rfl⟩
  obtain ⟨mk, hmk⟩ : ∃ m, kk.length = m := ⟨_, rfl⟩
  have HMi := Lib.hid hmi
  have HMk := Lib.hid hmk
  rw [hmi] at hci HSi hbnd
  rw [hmk] at hck HSk hbnd
  have hi0 : (0 : Int) ≤ (i : Int) := by omega
  have hi1 : (i : Int) < (n : Int) := by omega
  have hk0 : (0 : Int) ≤ (k : Int) := by omega
  have hk1 : (k : Int) < (n : Int) := by omega
  clear h hR hE hB hL hki hkk hr HW hvi hvi2 hvk hvk2 hki' hkk' hlv hd1 hd2 hx1 hx2 hy1 hy2 hmi hmk hb1
  by_cases he : e1 = e2
  · subst he
    have hee : (e1 != e1) = false := by cases e1 <;> rfl
    by_cases hm : mi = mk
    · subst hm
      have hmm : ((mi : Int) != (mi : Int)) = false := neq_same _
      go_enter Tryd.func79, Tryd.ntmps79
      go_wp2_with fail
      go_quiet (fail)
      obtain ⟨W1, hW1⟩ : ∃ W1, w.alloc (.cells #[.slice (some ⟨b, o, none⟩) n c] 33) = W1 := ⟨_, rfl⟩
      rw [hW1] at HB1 HR1 HE1 HN1 HZ1 hsz1 hbx hci hck HSi HSk ⊢
      clear hW1 hx3 hy3
      have HQ : Hid (Below W1.heap.size W1 (W1.drewN nq)) := Lib.hid (below_drewN (Below.refl _ _) nq)
      obtain ⟨w2, hw2⟩ : ∃ w2, W1.drewN nq = w2 := ⟨_, rfl⟩
      rw [hw2] at HQ ⊢
      clear hw2
      have HC := Lib.hid (And.intro hbx (And.intro hci hck))
      have HS := HR1.out.spot
      clear hbx hci hck
      go_wp2_with fail
      go_loopw [11, 12, 13] (fun p u1 u2 wr => ∃ j : Nat, j ≤ mi ∧ p = .int .i64 j ∧ (∃ z : Value, u1 = z) ∧ (∃ z : Value, u2 = z) ∧ Hid (∀ (q a b : Nat), q < j → ki[q]? = some a → kk[q]? = some b → (ndA t a).l = (ndA t b).l ∧ L a = L b) ∧ Hid (Below W1.heap.size W1 wr)) (fun p _ _ _ => mi - (intOf p).toNat)
      case atStart => exact ⟨0, Nat.zero_le _, rfl, ⟨_, rfl⟩, ⟨_, rfl⟩, Lib.hid (fun q a b h => absurd h (by omega)), HQ⟩
      case round =>
        clear HQ
        obtain ⟨j, hj, rfl, ⟨u1, rfl⟩, ⟨u2, rfl⟩, HA, HBw⟩ := hrel
        have hci := (HBw.out.cell (p := ⟨gk, i, none⟩) HS.2).trans HC.out.2.1
        have hck := (HBw.out.cell (p := ⟨gk, k, none⟩) HS.2).trans HC.out.2.2
        have hbx := (HBw.out.cell (p := ⟨w.heap.size, 0, none⟩) hsz1).trans HC.out.1
        by_cases hlt : j < mi
        · obtain ⟨x, hx⟩ : ∃ x, ki[j]? = some x := ⟨_, List.getElem?_eq_getElem (by rw [HMi.out]; exact hlt)⟩
          obtain ⟨y, hy⟩ : ∃ y, kk[j]? = some y := ⟨_, List.getElem?_eq_getElem (by rw [HMk.out]; exact hlt)⟩
          have hxn := HKi.out x (at_memN hx)
          have hyn := HKk.out y (at_memN hy)
          obtain ⟨b1, o1, e1', hb1, hcx⟩ := (HSi.out.keep HBw.out).spot j _ (nums_at hx)
          obtain ⟨b2, o2, e2', hb2, hcy⟩ := (HSk.out.keep HBw.out).spot j _ (nums_at hy)
          subst e1'
          subst e2'
          obtain ⟨b3, o3, lx, px, ex, e3, _, hdx, _, _, hlx, _, _⟩ := (HN1.out.keep (HBw.out.mono HZ1.out)).elem x hxn
          obtain ⟨b4, o4, ly, py, ey, e4, _, hdy, _, _, hly, _, _⟩ := (HN1.out.keep (HBw.out.mono HZ1.out)).elem y hyn
          injection e3 with e3; injection e3 with e3 e3'; subst e3; subst e3'
          injection e4 with e4; injection e4 with e4 e4'; subst e4; subst e4'
          obtain ⟨b5, o5, e5, _, hLx⟩ := (HE1.out.keep HBw.out).spot x _ (lrow_at L hxn)
          obtain ⟨b6, o6, e6, _, hLy⟩ := (HE1.out.keep HBw.out).spot y _ (lrow_at L hyn)
          injection e5 with e5; injection e5 with e5 e5'; subst e5; subst e5'
          injection e6 with e6; injection e6 with e6 e6'; subst e6; subst e6'
          rw [Nat.zero_add] at hLx hLy
          have HXY : Hid ((ndA t x).l = lx ∧ (ndA t y).l = ly) := Lib.hid ⟨by rw [ndA_at hdx], by rw [ndA_at hdy]⟩
          obtain ⟨Lx, hLx2⟩ : ∃ z, L x = z := ⟨_, rfl⟩
          obtain ⟨Ly, hLy2⟩ : ∃ z, L y = z := ⟨_, rfl⟩
          have HLX := Lib.hid hLx2
          have HLY := Lib.hid hLy2
          rw [hLx2] at hLx
          rw [hLy2] at hLy
          have HXj := Lib.hid hx
          have HYj := Lib.hid hy
          have hj0 : (0 : Int) ≤ (j : Int) := by omega
          have hj1 : (j : Int) < (mi : Int) := by omega
          have hx0 : (0 : Int) ≤ (x : Int) := by omega
          have hx1 : (x : Int) < (n : Int) := by omega
          have hy0 : (0 : Int) ≤ (y : Int) := by omega
          have hy1 : (y : Int) < (n : Int) := by omega
          clear hx hy hdx hdy hLx2 hLy2
          by_cases hl : lx = ly
          · subst hl
            have hll : (lx != lx) = false := neq_same _
            by_cases hLL : Lx = Ly
            · subst hLL
              have hLLe : ((Lx : Int) != (Lx : Int)) = false := neq_same _
              have HA2 : Hid (∀ (q a b : Nat), q < j + 1 → ki[q]? = some a → kk[q]? = some b → (ndA t a).l = (ndA t b).l ∧ L a = L b) := Lib.hid (fun q a b h ha hb => by
                by_cases e : q = j
                · subst e
                  rw [HXj.out] at ha
                  rw [HYj.out] at hb
                  obtain rfl := Option.some.inj ha
                  obtain rfl := Option.some.inj hb
                  exact ⟨by rw [HXY.out.1, HXY.out.2], by rw [HLX.out, HLY.out]⟩
                · exact HA.out q a b (by omega) ha hb)
              go_wp2_with fail
              go_quiet (fail)
              have HB3 : Hid (Below W1.heap.size W1 (wr.drewN nq)) := Lib.hid (below_drewN HBw.out nq)
              have hwc : ∀ p : Addr, (wr.drewN nq).cell? p = wr.cell? p := fun _ => rfl
              rw [← hwc] at hlx hly hLx hLy hci hck hcx hcy hbx
              obtain ⟨w3, hw3⟩ : ∃ w3, wr.drewN nq = w3 := ⟨_, rfl⟩
              rw [hw3] at HB3 hlx hly hLx hLy hci hck hcx hcy hbx ⊢
              clear hw3 hwc
              go_wp2_with fail
              go_quiet (fail)
              go_wp2_with fail
              go_roundw
              · exact ⟨j + 1, hlt, rfl, ⟨_, rfl⟩, ⟨_, rfl⟩, HA2, Lib.hid (below_drewN HB3.out _)⟩
              all_goals (first | (simp [intOf]; omega) | (simp only [intOf]; omega))
            · have hLLe : ((Lx : Int) != (Ly : Int)) = true := neq_int (by omega)
              have hll : (lx != lx) = false := neq_same _
              have hr1 : r = false := by
                cases r with
                | false => rfl
                | true => exact absurd ((HR0.out.1 rfl).2.2 j x y HXj.out HYj.out).2 (by rw [HLX.out, HLY.out]; exact hLL)
              subst hr1
              go_wp2_with fail
              go_quiet (fail)
              have HB3 : Hid (Below W1.heap.size W1 (wr.drewN nq)) := Lib.hid (below_drewN HBw.out nq)
              have hwc : ∀ p : Addr, (wr.drewN nq).cell? p = wr.cell? p := fun _ => rfl
              rw [← hwc] at hlx hly hLx hLy hci hck hcx hcy hbx
              obtain ⟨w3, hw3⟩ : ∃ w3, wr.drewN nq = w3 := ⟨_, rfl⟩
              rw [hw3] at HB3 hlx hly hLx hLy hci hck hcx hcy hbx ⊢
              clear hw3 hwc
              go_wp2_with fail
              go_quiet (fail)
              go_wp2_with fail
              go_ret
              exact ⟨rfl, HB1.out.trans ((below_drewN HB3.out _).mono HB1.out.size)⟩
          · have hll : (lx != ly) = true := neq_int hl
            have hr1 : r = false := by
              cases r with
              | false => rfl
              | true => exact absurd ((HR0.out.1 rfl).2.2 j x y HXj.out HYj.out).1 (by rw [HXY.out.1, HXY.out.2]; exact hl)
            subst hr1
            go_wp2_with fail
            go_quiet (fail)
            have HB3 : Hid (Below W1.heap.size W1 (wr.drewN nq)) := Lib.hid (below_drewN HBw.out nq)
            have hwc : ∀ p : Addr, (wr.drewN nq).cell? p = wr.cell? p := fun _ => rfl
            rw [← hwc] at hlx hly hLx hLy hci hck hcx hcy hbx
            obtain ⟨w3, hw3⟩ : ∃ w3, wr.drewN nq = w3 := ⟨_, rfl⟩
            rw [hw3] at HB3 hlx hly hLx hLy hci hck hcx hcy hbx ⊢
            clear hw3 hwc
            go_wp2_with fail
            go_quiet (fail)
            go_wp2_with fail
            go_ret
            exact ⟨rfl, HB1.out.trans ((below_drewN HB3.out _).mono HB1.out.size)⟩
        · have hr1 : r = true := HR0.out.2 ⟨by rw [HE12.out.1, HE12.out.2], by rw [HMi.out, HMk.out], fun q a b ha hb => HA.out q a b (by have := (List.getElem?_eq_some_iff.1 ha).1; have := HMi.out; omega) ha hb⟩
          subst hr1
          go_wp2
          go_ret
          exact ⟨rfl, HB1.out.trans (HBw.out.mono HB1.out.size)⟩
    · have hmm : ((mi : Int) != (mk : Int)) = true := neq_int (by omega)
      have hr1 : r = false := by
        cases r with
        | false => rfl
        | true => exact absurd (HR0.out.1 rfl).2.1 (by rw [HMi.out, HMk.out]; exact hm)
      subst hr1
      go_enter Tryd.func79, Tryd.ntmps79
      go_wp2_with fail
      go_quiet (fail)
      go_wp2_with fail
      go_ret
      exact ⟨rfl, below_drewN HB1.out _⟩
  · have hee : (e1 != e2) = true := by cases e1 <;> cases e2 <;> simp_all
    have hr1 : r = false := by
      cases r with
      | false => rfl
      | true => exact absurd (HR0.out.1 rfl).1 (by rw [HE12.out.1, HE12.out.2]; exact he)
    subst hr1
    go_enter Tryd.func79, Tryd.ntmps79
    go_wp2_with fail
    go_quiet (fail)
    go_wp2_with fail
    go_ret
    exact ⟨rfl, below_drewN HB1.out _⟩

end Go.Proofs.YtmgieahachphmabDoor
