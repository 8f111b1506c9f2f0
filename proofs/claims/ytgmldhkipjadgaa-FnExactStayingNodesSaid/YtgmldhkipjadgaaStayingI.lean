/-
  The program's list of the nodes that stay; it and the reference answer the same, and count the same.
-/
import Derived.Test.YtgmldhkipjadgaaStaying
namespace Go.Proofs.Ytgmldhkipjadgaa
open Go.RowKit
set_option linter.unusedVariables false

theorem sl_at {w : World} {B : Nat} (h : w.heap.size = B) (t : TypeId) (v : Value) : Sl (B + 1) (w.alloc (.cells #[v] t)) (some ⟨B, 0, none⟩) 1 1 [v] := by subst h; exact sl_new w t v

set_option maxRecDepth 1000000 in
set_option maxHeartbeats 2000000 in
theorem implStaying_yes (a : Option Addr) (n c : Nat) (t : List Nd) (ps : List Txt) (W : World) (h : Nds W.heap.size W a n c t) (hv : Valid t ps) :
    Calls Try.prog 26 #[.agg #[.slice a n c]] W (ownI.OwnNums W (stP t ps) true) := by
  have L := h.len
  have hn : n ≤ 481 := by rw [← L]; exact hv.size
  have hlen1 : 1 ≤ n := by rw [← L]; exact hv.tells.pos
  have C := h.cap
  have T := h.top
  have HV := Lib.hid hv
  have HL := Lib.hid L
  have HQ : Hid (trieB t = true) := Lib.hid (trieB_iff.2 ⟨ps, hv⟩)
  have cT := Lib.hid (fun w (G : Gv W w a n c t) => isTrie_any W.heap.size a n c t w G.bel.size G.nds)
  rw [HQ.out] at cT
  have G1 := Lib.hid (Gv.start h)
  have hbx := G1.out.box
  clear h hv L
  obtain ⟨i0, hii, hz0, hz1, hz2⟩ := info_parts infoI
  go_enter Try.func26, Try.ntmps26
  go_wp2_with (go_at_call 42; refine (cT.out _ G1.out).mono ?_; rintro e w2 ⟨rfl, hb2⟩; have G2 := Lib.hid (G1.out.on hb2); have hbx2 := G2.out.box; have hlt2 := G2.out.lt; clear hb2)
  have HO0 := Lib.hid (World.ownsRow_lit (base := W.heap.size + 1) (e := 3) (size := 1) w2 #[] 0 (by omega) (by unfold maxLen; omega) rfl)
  have G3 := Lib.hid (G2.out.on ((Below.refl _ _).alloc (Nat.le_refl _) (.cells #[] 3)))
  clear hbx hbx2
  go_loopw [4, 14] (fun o q wr => ∃ (k m : Nat) (v : Value), k ≤ n ∧ m ≤ 481 ∧ q = .int .i64 k ∧ v = o ∧ Hid (PlTo ps (stl (wds t ps)) k m) ∧ Hid (m ≤ (stP t ps).length) ∧ Hid (wr.ownsRow (W.heap.size + 1) 3 1 v m (nums ((stP t ps).take m))) ∧ Hid (Gv W wr a n c t)) (fun _ q _ => n - (intOf q).toNat)
  case atStart => exact ⟨0, 0, _, by omega, by omega, rfl, rfl, Lib.hid PlTo.start, Lib.hid (Nat.zero_le _), Lib.hid (by simpa [nums] using HO0.out), G3⟩
  case round =>
    clear HO0 hlt2
    obtain ⟨k, m, v, hkn, hm, rfl, rfl, HP, HM, HO, G⟩ := hrel
    by_cases hlt : k < n
    · have hbx := G.out.box
      have hsz := G.out.lt
      have hN := G.out.nds
      obtain ⟨_, x, _, hx⟩ := HV.out.tells.at (show k < t.length by rw [HL.out]; exact hlt)
      have HSt := Lib.hid (stP_step HV.out HP.out hx)
      have HF := Lib.hid (stP_few HV.out)
      obtain ⟨b, o, l, p, e, rfl, hbB, hd, hl, hp, hc1, hc2, hc3⟩ := hN.elem k hlt
      have HNode := Lib.hid (G.out.on ((Below.refl _ _).alloc (Nat.le_refl _) (.cells #[.int .i64 l, .int .i64 p, .bool e] 79)))
      obtain ⟨r, hr⟩ : ∃ r, stB t ps x = r := ⟨_, rfl⟩
      rw [hr] at HSt
      -- what the test says
      by_cases hk0 : k = 0
      · have hx0 : x = [] := by
          rw [hk0, HV.out.tells.nil] at hx
          exact (Option.some.inj hx).symm
        rw [hx0, stB_root] at hr
        obtain rfl : r = true := hr.symm
        obtain ⟨h1, h2, h3⟩ := HSt.out.1 rfl
        have H1 := Lib.hid h1
        have H2 := Lib.hid h2
        have H3 := Lib.hid h3
        have hm81 : m < 81 := by have := HF.out; omega
        have hb0 : ((k : Int) == 0) = true := by simp [hk0]
        clear h1 h2 h3 hx hx0 hd hN hr hk0
        go_wp2_with (at_builtin; refine wpList_append_sl rfl _ _ 49 rfl (W.heap.size + 1) 3 i0 (.int .i64 0) 8 Try.underlying49 hii hz0 hz1 hz2 rfl _ _ _ rfl ((HO.out.alloc _).alloc _) rfl (sl_at (by simp) _ _) (by simp [Value.oneCell']) (by unfold maxLen; omega) (by omega) (by simp; omega) ?_; intro v2 w2 hO2 hG2; have HO2 := Lib.hid hO2; have HB2 : Hid (Below (W.heap.size + 1) wr w2) := Lib.hid ((((Below.refl _ wr).alloc (by omega) _).alloc (by simp; omega) _).trans (below_grown ((HO.out.alloc _).alloc _) (by omega) (by simp; omega) hG2)); clear hO2 hG2)
        go_roundw
        case rel => exact ⟨k + 1, m + 1, v2, by omega, by omega, by go_num, rfl, H2, Lib.hid H3.out, Lib.hid (by rw [H1.out]; simpa [nums] using HO2.out), Lib.hid (G.out.on2 HB2.out)⟩
        case measure => simp [intOf]; omega
      · have hb0 : ((k : Int) == 0) = false := by simp [hk0]
        cases e with
        | true =>
          rw [stB_end HV.out (by omega) hd hx rfl] at hr
          obtain rfl : r = true := hr.symm
          obtain ⟨h1, h2, h3⟩ := HSt.out.1 rfl
          have H1 := Lib.hid h1
          have H2 := Lib.hid h2
          have H3 := Lib.hid h3
          have hm81 : m < 81 := by have := HF.out; omega
          clear h1 h2 h3 hx hd hN hr hk0
          go_wp2_with (at_builtin; refine wpList_append_sl rfl _ _ 49 rfl (W.heap.size + 1) 3 i0 (.int .i64 0) 8 Try.underlying49 hii hz0 hz1 hz2 rfl _ _ _ rfl ((HO.out.alloc _).alloc _) rfl (sl_at (by simp) _ _) (by simp [Value.oneCell']) (by unfold maxLen; omega) (by omega) (by simp; omega) ?_; intro v2 w2 hO2 hG2; have HO2 := Lib.hid hO2; have HB2 : Hid (Below (W.heap.size + 1) wr w2) := Lib.hid ((((Below.refl _ wr).alloc (by omega) _).alloc (by simp; omega) _).trans (below_grown ((HO.out.alloc _).alloc _) (by omega) (by simp; omega) hG2)); clear hO2 hG2)
          go_roundw
          case rel => exact ⟨k + 1, m + 1, v2, by omega, by omega, by go_num, rfl, H2, Lib.hid H3.out, Lib.hid (by rw [H1.out]; simpa [nums] using HO2.out), Lib.hid (G.out.on2 HB2.out)⟩
          case measure => simp [intOf]; omega
        | false =>
          have hkd := stB_kids HV.out (by omega) hd hx rfl
          rw [HL.out, hr] at hkd
          have cK := Lib.hid (fun w (Gx : Gv W w (some ⟨b, o, none⟩) n c t) => kidsAt_any W.heap.size (some ⟨b, o, none⟩) n c k t ps w Gx.bel.size Gx.nds (by omega) HV.out.tells hlt)
          obtain ⟨kn, hkn2⟩ : ∃ q, (kidsTo t k n).length = q := ⟨_, rfl⟩
          rw [hkn2] at hkd cK
          cases r with
          | true =>
            obtain ⟨h1, h2, h3⟩ := HSt.out.1 rfl
            have H1 := Lib.hid h1
            have H2 := Lib.hid h2
            have H3 := Lib.hid h3
            have hm81 : m < 81 := by have := HF.out; omega
            clear h1 h2 h3 hx hd hN hr hk0 hkn2
            go_wp2_with (first
              | (go_at_call 54; refine (cK.out _ HNode.out).mono ?_; rintro e2 w4 ⟨v4, rfl, hO4, hb4⟩; obtain ⟨a4, c4, rfl⟩ := own_slice hO4; have HB4 : Hid (Below wr.heap.size wr w4) := Lib.hid (((Below.refl _ wr).alloc (Nat.le_refl _) _).trans (hb4.mono (by simp))); clear hO4 hb4)
              | (at_builtin; refine wpList_append_sl rfl _ _ 49 rfl (W.heap.size + 1) 3 i0 (.int .i64 0) 8 Try.underlying49 hii hz0 hz1 hz2 rfl _ _ _ rfl ((own_stay HO.out HB4.out).alloc _) rfl (sl_new _ _ _) (by simp [Value.oneCell']) (by unfold maxLen; omega) (by omega) (by have := HB4.out.size; simp; omega) ?_; intro v2 w2 hO2 hG2; have HO2 := Lib.hid hO2; have HB2 : Hid (Below (W.heap.size + 1) wr w2) := Lib.hid ((HB4.out.mono (by omega)).trans (((Below.refl _ w4).alloc (by have := HB4.out.size; omega) _).trans (below_grown ((own_stay HO.out HB4.out).alloc _) (by omega) (by have := HB4.out.size; simp; omega) hG2))); clear hO2 hG2))
            go_roundw
            case rel => exact ⟨k + 1, m + 1, v2, by omega, by omega, by go_num, rfl, H2, Lib.hid H3.out, Lib.hid (by rw [H1.out]; simpa [nums] using HO2.out), Lib.hid (G.out.on2 HB2.out)⟩
            case measure => simp [intOf]; omega
          | false =>
            have H2 := Lib.hid (HSt.out.2 rfl)
            clear hx hd hN hr hk0 hkn2
            go_wp2_with (go_at_call 54; refine (cK.out _ HNode.out).mono ?_; rintro e2 w4 ⟨v4, rfl, hO4, hb4⟩; obtain ⟨a4, c4, rfl⟩ := own_slice hO4; have HB4 : Hid (Below wr.heap.size wr w4) := Lib.hid (((Below.refl _ wr).alloc (Nat.le_refl _) _).trans (hb4.mono (by simp))); clear hO4 hb4)
            go_roundw
            case rel => exact ⟨k + 1, m, v, by omega, by omega, by go_num, rfl, H2, HM, Lib.hid (own_stay HO.out HB4.out), Lib.hid (G.out.on HB4.out)⟩
            case measure => simp [intOf]; omega
    · obtain rfl : k = n := by omega
      have HA := Lib.hid (stP_all HV.out (by rw [HL.out]; exact HP.out))
      go_wp2
      go_ret2
      exact ⟨_, rfl, by rw [← HA.out.1]; have := HO.out; rw [HA.out.2] at this; exact own_down this (by omega), G.out.bel⟩

end Go.Proofs.Ytgmldhkipjadgaa
