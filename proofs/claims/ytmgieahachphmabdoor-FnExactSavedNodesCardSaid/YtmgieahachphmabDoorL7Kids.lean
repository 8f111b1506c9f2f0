/-
  The reference's kids of all nodes of a trie.
-/
import Derived.Test.YtmgieahachphmabDoorRR
import Derived.Test.YtmgieahachphmabDoorNds
import Derived.Test.YtmgieahachphmabDoorGvT
namespace Go.Proofs.YtmgieahachphmabDoor
open Go.RowKit
set_option linter.unusedVariables false

theorem kidsTo_one {t : List Nd} (i : Nat) {e : Bool} (h : t[0]? = some ⟨-1, -1, e⟩) : kidsTo t i 1 = [] := by
  rw [kidsTo_miss (k := 0) h (by omega)]
  rfl

set_option maxRecDepth 1000000 in
set_option maxHeartbeats 2000000 in
theorem l7Kids_any (B : Nat) (a : Option Addr) (n c : Nat) (t : List Nd) (ps : List Txt) (hv : Valid t ps) (w : World) (hB : B ≤ w.heap.size) (h : Nds B w a n c t) :
    Calls Tryd.prog 65 #[.agg #[.slice a n c]] w fun e w' => ∃ g vs, e = .returned (.slice (some ⟨g, 0, none⟩) n n) ∧ RR w.heap.size w' g n vs (fun i => kidsTo t i n) ∧ Below w.heap.size w w' := by
  have L := Lib.hid h.len
  have C := h.cap
  have T := h.top
  have H := Lib.hid h
  have HB := Lib.hid hB
  have HV := Lib.hid hv
  have hn481 : n ≤ 481 := by have := hv.size; have := h.len; omega
  have hn1 : 1 ≤ n := by have := hv.tells.pos; have := h.len; omega
  obtain ⟨i0, hii, hz0, hz1, hz2⟩ := info_parts infoII
  obtain ⟨j0, hji, hy0, hy1, hy2⟩ := info_parts infoI
  have hbx : (w.alloc (.cells #[.slice a n c] 33)).cell? ⟨w.heap.size, 0, none⟩ = some (.slice a n c) := by simp
  have hR1 : Hid (Below w.heap.size w (w.alloc (.cells #[.slice a n c] 33))) := Lib.hid ((Below.refl _ _).alloc (Nat.le_refl _) _)
  have hsz1 : (w.alloc (.cells #[.slice a n c] 33)).heap.size = w.heap.size + 1 := by simp
  clear h hB hv
  go_enter Tryd.func65, Tryd.ntmps65
  go_wp2_with (first
    | (at_make; refine wpList_make_full _ rfl _ _ 89 rfl (w.heap.size + 1) 55 i0 (.slice none 0 0) 1 Tryd.underlying89 hii hz0 hz1 .i64 .i64 _ _ n rfl rfl rfl rfl (by rw [hz2]; omega) (by unfold maxLen; omega) (by simp) ?_; intro w1 hown hgrow; have hown1 := made_rep rfl hown; rw [World.size_alloc] at hown1; have HO1 := Lib.hid hown1; have HB1 : Hid (Below (w.heap.size + 1) (w.alloc (.cells #[.slice a n c] 33)) w1) := Lib.hid ((Below.refl _ _).grown hgrow (by simp) (fun k e => by cases e)); have hbx1 := (HB1.out.cell (p := ⟨w.heap.size, 0, none⟩) (by simp)).trans hbx; clear hown hown1 hgrow))
  have hR0 : RR (w.heap.size + 1) w1 (w.heap.size + 1) n (List.replicate n (.slice none 0 0)) (fun i => kidsTo t i 1) := by
    obtain ⟨e0, he0⟩ := HV.out.tells.root
    refine ⟨HO1.out, fun i hi => ⟨.slice none 0 0, by rw [List.getElem?_replicate, if_pos hi], ?_⟩, fun i j v v' _ hv1 _ => .inl ?_⟩
    · rw [kidsTo_one i he0]
      exact World.ownsRow_nil _ _ _ _
    · rw [List.getElem?_replicate] at hv1
      split at hv1
      · rw [← Option.some.inj hv1]; rfl
      · cases hv1
  have HR0 := Lib.hid hR0
  have HBx1 := Lib.hid (And.intro hbx1 (show w.heap.size < w1.heap.size by have := HB1.out.size; omega))
  have HBw1 : Hid (Below w.heap.size w w1) := Lib.hid (hR1.out.trans (HB1.out.mono (by omega)))
  clear hR0 hbx hbx1 HO1 HB1 hR1 hsz1
  go_loopw [4, 5] (fun o q wr => ∃ (k : Nat) (vs : List Value), 1 ≤ k ∧ k ≤ n ∧ o = .int .i64 k ∧ (∃ u : Value, q = u) ∧ Hid (RR (w.heap.size + 1) wr (w.heap.size + 1) n vs (fun i => kidsTo t i k)) ∧ Hid (Below w.heap.size w wr) ∧ wr.cell? ⟨w.heap.size, 0, none⟩ = some (.slice a n c) ∧ w.heap.size < wr.heap.size) (fun o _ _ => n - (intOf o).toNat)
  case atStart => exact ⟨1, _, by omega, hn1, rfl, ⟨_, rfl⟩, HR0, HBw1, HBx1.out.1, HBx1.out.2⟩
  case round =>
    clear HR0 HBw1 HBx1
    obtain ⟨k, vs, hk1, hkn, rfl, ⟨u, rfl⟩, HR, HBw, hbox, hsz⟩ := hrel
    by_cases hlt : k < n
    · obtain ⟨b, o, l, p, e, rfl, hbB, hd, hl, hp, hc1, hc2, hc3⟩ := (H.out.keep (HBw.out.mono HB.out)).elem k hlt
      obtain ⟨q, x, cc, hq1, hq2, _, _, _, _, _⟩ := HV.out.tells.step k _ hk1 (by rw [L.out]; exact hlt) hd
      have hpq : p = (q : Int) := hq1
      subst hpq
      have hqn : q < n := by omega
      obtain ⟨v, hvq, hvO⟩ := HR.out.row q hqn
      obtain ⟨av, cv, rfl⟩ := own_slice hvO
      have hcv := (HR.out.out.cellAt q (by have := HR.out.out.1; omega)).trans hvq
      have HHit : Hid (kidsTo t q (k + 1) = kidsTo t q k ++ [k]) := Lib.hid (kidsTo_hit hd hq2 rfl)
      have HMiss : Hid (∀ i, i ≠ q → kidsTo t i (k + 1) = kidsTo t i k) := Lib.hid (fun i hi => kidsTo_miss hd (fun h => hi (by have := h.2; simp at this; omega)))
      have hml : (kidsTo t q k).length ≤ k := kidsTo_le k
      obtain ⟨m, hm⟩ : ∃ m, (kidsTo t q k).length = m := ⟨_, rfl⟩
      rw [hm] at hml
      have HM := Lib.hid hm
      have HvO : Hid (wr.ownsRow (w.heap.size + 1) 3 1 (.slice av m cv) m (nums (kidsTo t q k))) := Lib.hid (by rw [← hm]; exact hvO)
      have HVq : Hid (vs[q]? = some (.slice av m cv)) := Lib.hid (by rw [← hm]; exact hvq)
      have hcv2 : wr.cell? ⟨w.heap.size + 1, q, none⟩ = some (.slice av m cv) := by rw [← hm]; exact hcv
      have hk0 : (0 : Int) ≤ (k : Int) := by omega
      have hk2 : (k : Int) < (n : Int) := by omega
      have hq0 : (0 : Int) ≤ (q : Int) := by omega
      have hq3 : (q : Int) < (n : Int) := by omega
      clear hd hm hvO hvq hcv hq1
      go_wp2_with (first
        | (at_builtin; refine wpList_append_own_at _ rfl _ _ 55 rfl (w.heap.size + 1) 3 j0 (.int .i64 0) 1 8 Tryd.underlying55 hji hy0 hy1 hy2 rfl (by decide) _ _ _ rfl (HvO.out.alloc _) ⟨wr.heap.size, 0, none⟩ 1 1 [.int .i64 (k : Int)] rfl rfl (cell_one_new _ _ _) (by simp [Value.oneCell']) (by unfold maxLen; omega) (by omega) (by simp; omega) ?_; intro v2 w2 hO2 hG2 _ hat; obtain ⟨g2, cap2, rfl⟩ := own_succ hO2; have HPut := Lib.hid (HR.out.put hqn HVq.out HM.out HvO.out (by omega) hO2 hG2 hat); have hcg := HPut.out.1; have hfg := HPut.out.2.1; clear hO2 hG2 hat))
      have hbx2 := (HPut.out.2.2.2.cell (p := ⟨w.heap.size, 0, none⟩) (by show w.heap.size < w.heap.size + 1; omega)).trans hbox
      go_roundw
      case rel => exact ⟨k + 1, _, by omega, by omega, by go_num, ⟨_, rfl⟩, Lib.hid (HPut.out.2.2.1.cong (fun i hi => by
        by_cases e : i = q
        · subst e; rw [if_pos rfl]; exact HHit.out.symm
        · rw [if_neg e]; exact (HMiss.out i e).symm)), Lib.hid (HBw.out.trans (HPut.out.2.2.2.mono (by omega))), hbx2, by have := HPut.out.2.2.2.size; omega⟩
      case measure => simp [intOf]; omega
    · obtain rfl : k = n := by omega
      go_wp2
      go_ret
      exact ⟨_, _, rfl, HR.out.down (by omega), HBw.out⟩

end Go.Proofs.YtmgieahachphmabDoor
