/-
  The reference's pressed tree of a trie.
-/
import Derived.Test.YtoofpgehkihbcaaL4PressM
import Derived.Test.YtoofpgehkihbcaaLimbB
import Derived.Deep.QuietTactic
import Derived.BigQuiet
import Derived.Deep.RegionHeld3
import Derived.RangeFuncBox
namespace Go.Proofs.Ytoofpgehkihbcaa
open Go.RowKit
set_option linter.unusedVariables false

theorem tx_cut (s : ByteArray) (i j : Nat) : tx (s.extract i j) = ((tx s).drop i).take (j - i) := by
  show (s.extract i j).data.toList = _
  rw [ByteArray.data_extract]
  rw [Array.toList_extract, List.extract_eq_take_drop]

set_option maxRecDepth 1000000 in
set_option maxHeartbeats 4000000 in
theorem l4Press_any (a : Option Addr) (n c : Nat) (t : List Nd) (ps : List Txt) (W : World) (h : Nds W.heap.size W a n c t) (hv : Valid t ps) :
    Calls Try.prog 39 #[.agg #[.slice a n c]] W (PresPost W (prw (wds t ps))) := by
  have hn : n ≤ 481 := by rw [← h.len]; exact hv.size
  have HL := Lib.hid h.len
  have C := h.cap
  have T := h.top
  have HV := Lib.hid hv
  have HS := Lib.hid (stl_sta (wds t ps))
  have HF := Lib.hid (stP_few hv)
  have G1 := Lib.hid (Gv.start h)
  have hbx := G1.out.box
  obtain ⟨m, hm⟩ : ∃ m, (stP t ps).length = m := ⟨_, rfl⟩
  have HM := Lib.hid hm
  have hm81 : m ≤ 81 := by rw [← hm]; exact HF.out
  have HPl : Hid ((prw (wds t ps)).length = m) := Lib.hid (by rw [prw_len, ← stP_len t ps]; exact hm)
  obtain ⟨i0, hii, hz0, hz1, hz2⟩ := info_parts infoBr
  have HR1 := Lib.hid (Boxed.new (W.alloc (.cells #[.slice a n c] 44)) 30 (.slice none 0 0))
  have G3 := Lib.hid ((G1.out.on ((Below.refl _ _).alloc (Nat.le_refl _) (.cells #[.slice none 0 0] 30))).on ((Below.refl _ _).alloc (Nat.le_refl _) (.cells #[] 52)))
  have HR3 := Lib.hid (HR1.out.alloc (.cells #[] 52))
  have HRow3 := Lib.hid (World.ownsRow_lit (base := W.heap.size + 2) (e := 52) (size := 3) ((W.alloc (.cells #[.slice a n c] 44)).alloc (.cells #[.slice none 0 0] 30)) #[] 0 (by simp) (by unfold maxLen; omega) rfl)
  simp only [World.size_alloc] at HR3 HRow3
  clear h hv hm
  go_enter Try.func39, Try.ntmps39
  go_wp2_with (go_at_call 62; refine (l4Staying_any W.heap.size a n c t ps _ G3.out.bel.size G3.out.nds HV.out).mono ?_; rintro e w4 ⟨v4, rfl, hO4, hb4⟩; have HB4 := Lib.hid hb4; have HO4 := Lib.hid hO4; clear hO4 hb4)
  have hsz4 : W.heap.size + 3 ≤ w4.heap.size := by have := HB4.out.size; simp at this; omega
  have HP4 : Hid (PrW W a n c t ps v4 w4.heap.size (.slice (some ⟨W.heap.size + 1 + 1, 0, none⟩) 0 0) 0 (w4.alloc (.cells #[.slice (some ⟨W.heap.size + 1 + 1, 0, none⟩) 0 0] 30))) := Lib.hid (by
    have hb := (Below.refl w4.heap.size w4).alloc (Nat.le_refl _) (.cells #[.slice (some ⟨W.heap.size + 1 + 1, 0, none⟩) 0 0] 30)
    refine ⟨(G3.out.on HB4.out).on hb, own_stay (own_down HO4.out (by first | (simp; done) | (simp; omega))) hb, box_stay (box_stay HR3.out HB4.out) hb, Boxed.new _ _ _, by omega, own_stay (own_stay ?_ HB4.out) hb⟩
    simpa [brc] using HRow3.out)
  obtain ⟨va, vc, rfl⟩ : ∃ va vc, v4 = .slice va m vc := by
    have := own_slice HO4.out
    rw [HM.out] at this
    exact this
  clear hbx
  go_loopw [5] (fun s wr => ∃ (j : Nat) (vO : Value), j ≤ m ∧ s = .int .i64 j ∧ Hid (PrW W a n c t ps (.slice va m vc) w4.heap.size vO j wr)) (fun s _ => m - (intOf s).toNat)
  case atStart => exact ⟨0, _, Nat.zero_le _, rfl, HP4⟩
  case round =>
    clear HP4 HR1 HR3 HRow3 HB4 HO4 G3 G1
    obtain ⟨j, vO, hjm, rfl, HP⟩ := hrel
    by_cases hlt : j < m
    · obtain ⟨i, hi⟩ : ∃ i, (stP t ps)[j]? = some i := ⟨_, List.getElem?_eq_getElem (by rw [HM.out]; exact hlt)⟩
      obtain ⟨hil, y, hqy, hpy⟩ := stP_lt HV.out j i hi
      have hin : i < n := by rw [← HL.out]; exact hil
      have hbx := HP.out.gv.box
      obtain ⟨b, o, l, p, e, rfl, hbB, hd, hl, hp, hc1, hc2, hc3⟩ := HP.out.gv.nds.elem i hin
      obtain ⟨g, cp, hva, hnum⟩ := num_at HP.out.nm hi
      rw [HM.out] at hva
      simp only [Value.slice.injEq, true_and] at hva
      obtain ⟨rfl, rfl⟩ := hva
      have hend := wds_end HV.out hd hpy
      have HPj := Lib.hid (brs_at (en := fun x => decide (x ∈ wds t ps)) hqy)
      have HD := Lib.hid hd
      have HQy := Lib.hid hqy
      have HPy := Lib.hid hpy
      have HEnd := Lib.hid hend
      have HI := Lib.hid hi
      have hB3c := HP.out.out.cell
      have hB3f := HP.out.out.frozen
      have hsz := HP.out.gv.lt
      clear hd hqy hpy hend hi
      have hbw : b < wr.heap.size := by omega
      have hgw : g < wr.heap.size := (HP.out.nm.lt g rfl).2
      have HSD : Hid (wr.drew.cell? ⟨W.heap.size, 0, none⟩ = some (.slice (some ⟨b, o, none⟩) n c) ∧ wr.drew.cell? ⟨g, j, none⟩ = some (.int .i64 (i : Int)) ∧ wr.drew.cell? ⟨b, o + i * 3 + 2, none⟩ = some (.bool e)) := Lib.hid ⟨hbx, hnum, hc3⟩
      have HSA : Hid (∀ ob, (wr.alloc ob).drew.cell? ⟨W.heap.size, 0, none⟩ = some (.slice (some ⟨b, o, none⟩) n c) ∧ (wr.alloc ob).drew.cell? ⟨g, j, none⟩ = some (.int .i64 (i : Int)) ∧ (wr.alloc ob).drew.cell? ⟨b, o + i * 3 + 2, none⟩ = some (.bool e)) := Lib.hid (fun ob => ⟨(World.cell?_alloc_lt wr ob ⟨W.heap.size, 0, none⟩ hsz).trans hbx, (World.cell?_alloc_lt wr ob ⟨g, j, none⟩ hgw).trans hnum, (World.cell?_alloc_lt wr ob ⟨b, o + i * 3 + 2, none⟩ hbw).trans hc3⟩)
      have hnum0 := Lib.hid hnum
      have mixed : Try.prog.follows Departure.mixedOrders = true := by kernel_rfl
      by_cases hj0 : j = 0
      · have hg0 : ¬ (0 < (j : Int)) := by omega
        have HB0 : Hid ((prw (wds t ps))[j]? = some ⟨[], -1, e⟩) := Lib.hid (by
          have e1 := HPj.out
          have e2 : y = [] := by
            have := HQy.out
            rw [hj0, HS.out.zero] at this
            exact (Option.some.inj this).symm
          rw [e2, brOf_root] at e1
          have e3 := HEnd.out
          rw [e2] at e3
          rw [show prw (wds t ps) = brs (stl (wds t ps)) (fun x => decide (x ∈ wds t ps)) from rfl, e1]
          rw [← e3])
        clear hj0
        go_wp2_with fail
        go_region_held3 (fun w' => w'.cell? ⟨W.heap.size, 0, none⟩ = some (.slice (some ⟨b, o, none⟩) n c) ∧ w'.cell? ⟨g, j, none⟩ = some (.int .i64 (i : Int)) ∧ w'.cell? ⟨b, o + i * 3 + 2, none⟩ = some (.bool e))
          (first
            | exact HSA.out _
            | exact HSD.out)
          (fail)
        obtain ⟨W5, hW5⟩ : ∃ W5, (wr.alloc (.cells #[.string ⟨#[]⟩, .int .i64 (-1), .bool e] 52)).drew = W5 := ⟨_, rfl⟩
        have HBl : Hid (Below wr.heap.size wr W5) := Lib.hid (by rw [← hW5]; exact ((Below.refl _ _).alloc (Nat.le_refl _) _).drew)
        have HBB : Hid (BB W5 wr.heap.size ⟨#[]⟩ (-1) e) := Lib.hid (by rw [← hW5]; exact BB.new wr ⟨#[]⟩ (-1) e)
        rw [hW5]
        clear hW5 hc1 hc2 hc3 hnum hbx HSA HSD hB3c hB3f
        obtain ⟨aO, cO, rfl⟩ := own_slice HP.out.row
        have HP5 := Lib.hid (HP.out.below HBl.out)
        have hs5 := HBl.out.size
        have hB3c := HP5.out.out.cell
        have hB3f := HP5.out.out.frozen
        have hb0 := HBB.out.c0
        have hb1 := HBB.out.c1
        have hb2 := HBB.out.c2
        have hbl5 := HBB.out.lt
        have hW5s : W.heap.size + 2 ≤ W5.heap.size := by have := HP5.out.out.lt; have := HP5.out.hB3; omega
        go_wp2_with (at_builtin; refine wpList_append_own_at _ rfl _ _ 28 rfl (W.heap.size + 2) 52 i0 (.agg #[.string ByteArray.empty, .int .i64 0, .bool false]) 3 32 Try.underlying28 hii hz0 hz1 hz2 rfl (by decide) _ _ _ rfl (HP5.out.row.alloc _) ⟨_, 0, none⟩ 1 1 [.string ⟨#[]⟩, .int .i64 (-1), .bool e] rfl rfl (news_at (cs := #[.string ⟨#[]⟩, .int .i64 (-1), .bool e]) (by first | rfl | (simp; done))) (by simp [Value.oneCell']) (by unfold maxLen; omega) (by omega) (by first | omega | (simp; omega)) ?_; intro v' w1 hown' hgrow _ hat; obtain ⟨a9, c9, rfl⟩ := own_slice hown'; obtain ⟨hv1, hP1⟩ := HP5.out.more HB0.out hown' hgrow; have hc1' := hv1.cell; have hf1' := hv1.frozen; have HP1 := Lib.hid hP1; clear hown' hgrow hat hv1 hP1)
        go_roundw
        case rel => exact ⟨j + 1, _, by omega, by go_num, HP1⟩
        case measure => simp [intOf]; omega
      · have hg0 : 0 < (j : Int) := by omega
        have hgn : decide (0 < j) = true := decide_eq_true (by omega)
        have hi1 : 1 ≤ i := by
          rcases Nat.lt_or_ge 0 i with h1 | h1
          · exact h1
          · exfalso
            obtain rfl : i = 0 := by omega
            have h2 := HPy.out
            rw [HV.out.tells.nil] at h2
            have h3 := HQy.out
            rw [← Option.some.inj h2] at h3
            exact hj0 (asc_inj HS.out.asc h3 HS.out.zero)
        obtain ⟨z, u, hpz, hzi, hAbv⟩ := Abv.start (qs := stl (wds t ps)) HV.out hi1 HD.out HPy.out
        have hpz' : p = (z : Int) := hpz
        subst hpz'
        have HAb := Lib.hid hAbv
        clear hj0 hpz hAbv
        go_wp2_with fail
        go_region_held3 (fun w' => w'.cell? ⟨W.heap.size, 0, none⟩ = some (.slice (some ⟨b, o, none⟩) n c) ∧ w'.cell? ⟨g, j, none⟩ = some (.int .i64 (i : Int)) ∧ w'.cell? ⟨b, o + i * 3 + 2, none⟩ = some (.bool e))
          (first
            | exact HSA.out _
            | exact HSD.out)
          (fail)
        obtain ⟨W5, hW5⟩ : ∃ W5, (wr.alloc (.cells #[.string ⟨#[]⟩, .int .i64 (-1), .bool e] 52)).drew = W5 := ⟨_, rfl⟩
        have HBl : Hid (Below wr.heap.size wr W5) := Lib.hid (by rw [← hW5]; exact ((Below.refl _ _).alloc (Nat.le_refl _) _).drew)
        have HBB : Hid (BB W5 wr.heap.size ⟨#[]⟩ (-1) e) := Lib.hid (by rw [← hW5]; exact BB.new wr ⟨#[]⟩ (-1) e)
        rw [hW5]
        obtain ⟨aO, cO, rfl⟩ := own_slice HP.out.row
        have hbx5 := (HBl.out.cell (p := ⟨W.heap.size, 0, none⟩) hsz).trans hbx
        have hnum5 := (HBl.out.cell (p := ⟨g, j, none⟩) hgw).trans hnum
        have hp5 := (HBl.out.cell (p := ⟨b, o + i * 3 + 1, none⟩) hbw).trans hc2
        clear hW5 hc1 hc2 hc3 hnum hbx HSA HSD hB3c hB3f
        go_wp2_with fail
        go_quiet (fail)
        obtain ⟨W6, hW6⟩ : ∃ W6, W5.drewN nq = W6 := ⟨_, rfl⟩
        have hb56 : Below W5.heap.size W5 W6 := by rw [← hW6]; exact below_drewN (Below.refl _ _) nq
        rw [hW6]
        have HB6 : Hid (Below wr.heap.size wr W6) := Lib.hid (HBl.out.trans (hb56.mono HBl.out.size))
        have HBB6 : Hid (BB W6 wr.heap.size ⟨#[]⟩ (-1) e) := Lib.hid (HBB.out.keep (hb56.block _ HBB.out.lt))
        clear hW6 hbx5 hnum5 hp5 hb56 HBl HBB
        go_wp2_with fail
        go_loopw [7] (fun s wx => ∃ (z : Nat) (u : Txt), s = .int .i64 z ∧ z < n ∧ Hid (Abv ps (stl (wds t ps)) y z u) ∧ Hid (Below wr.heap.size wr wx) ∧ Hid (BB wx wr.heap.size ⟨#[]⟩ (-1) e)) (fun s _ => (intOf s).toNat)
        case atStart => exact ⟨z, u, rfl, by omega, HAb, HB6, HBB6⟩
        case round =>
          clear HB6 HBB6 HAb hzi
          obtain ⟨z, u, rfl, hzn, HAb, HBx, HBBx⟩ := hrel
          rename World => wx
          have HPx := Lib.hid (HP.out.below HBx.out)
          have hbxx := HPx.out.gv.box
          have cS := Lib.hid (l4Stays_any W.heap.size (some ⟨b, o, none⟩) n c z t ps u wx HPx.out.gv.bel.size HPx.out.gv.nds HV.out HAb.out.at')
          obtain ⟨r, hr⟩ : ∃ r, stB t ps u = r := ⟨_, rfl⟩
          rw [hr] at cS
          have HR : Hid (stB t ps u = r) := Lib.hid hr
          clear hr
          cases r with
          | false =>
            have hz1 : 1 ≤ z := by
              rcases Nat.lt_or_ge 0 z with h1 | h1
              · exact h1
              · exfalso
                obtain rfl : z = 0 := by omega
                have h2 := HAb.out.at'
                rw [HV.out.tells.nil] at h2
                have h3 := HR.out
                rw [← Option.some.inj h2, stB_root] at h3
                cases h3
            have hu : u ∉ stl (wds t ps) := fun hm => by
              have h3 := HR.out
              unfold stB at h3
              rw [decide_eq_false_iff_not] at h3
              exact h3 hm
            obtain ⟨_, _, l2, p2, e2, h22, hb22, hd2, hl2, hp2, hd1', hd2', hd3'⟩ := HPx.out.gv.nds.elem z hzn
            cases h22
            obtain ⟨z2, u2, hpz2, hz2z, hAb2⟩ := HAb.out.step HV.out hz1 hd2 hu
            have hpz2' : p2 = (z2 : Int) := hpz2
            subst hpz2'
            have HAb2 := Lib.hid hAb2
            have hbwx : b < wx.heap.size := by have := HBx.out.size; omega
            have hszx : W.heap.size < wx.heap.size := HPx.out.gv.lt
            clear hu hd2 hpz2 hAb2 hd1' hd3'
            go_wp2_with (go_at_call 63; refine cS.out.mono ?_; rintro en w7 ⟨rfl, hb7⟩; have hbx7 := (hb7.cell (p := ⟨W.heap.size, 0, none⟩) hszx).trans hbxx; have hp7 := (hb7.cell (p := ⟨b, o + z * 3 + 1, none⟩) hbwx).trans hd2'; have HB7 := Lib.hid hb7; clear hb7)
            go_roundw
            case rel =>
              exact ⟨z2, u2, rfl, by omega, HAb2, Lib.hid (HBx.out.trans (HB7.out.mono HBx.out.size)), Lib.hid (HBBx.out.keep (HB7.out.block _ HBBx.out.lt))⟩
            case measure => simp [intOf]; omega
          | true =>
            have hu : u ∈ stl (wds t ps) := by
              have h3 := HR.out
              unfold stB at h3
              rwa [decide_eq_true_eq] at h3
            obtain ⟨hkd, hup⟩ := HAb.out.done HS.out.root (at_mem HQy.out) hu
            -- the two texts
            obtain ⟨sy, hsy⟩ : ∃ s, bx y = s := ⟨_, rfl⟩
            obtain ⟨su, hsu⟩ : ∃ s, bx u = s := ⟨_, rfl⟩
            have hty : tx sy = y := by rw [← hsy]; rfl
            have htu : tx su = u := by rw [← hsu]; rfl
            have hle : su.size ≤ sy.size := by rw [← tx_len, ← tx_len, hty, htu]; exact hkd.2.2.1.length_le
            have hy12 : sy.size ≤ 12 := by rw [← tx_len, hty]; exact (HV.out.isW y (at_mem HPy.out)).1
            obtain ⟨idx, hidx⟩ : ∃ k, (stl (wds t ps)).idxOf u = k := ⟨_, rfl⟩
            have hij : idx < j := by rw [← hidx]; exact asc_pos HS.out.asc (idx_at hu) HQy.out (bef_pre hkd.2.2.1 hkd.2.2.2.1)
            have HFin : Hid ((prw (wds t ps))[j]? = some ⟨tx (sy.extract su.size sy.size), (idx : Int), e⟩) := Lib.hid (by
              rw [show prw (wds t ps) = brs (stl (wds t ps)) (fun x => decide (x ∈ wds t ps)) from rfl, HPj.out, brOf_kid HS.out.asc HS.out.root (idx_at hu) hkd, hidx, ← HEnd.out, tx_cut, hty]
              rw [List.take_of_length_le (by rw [List.length_drop, ← hty, tx_len]; exact Nat.le_refl _), ← htu, tx_len])
            have HNum : Hid (∀ (k i' : Nat), (stP t ps)[k]? = some i' → (((i' : Int) == (z : Int)) = decide (k = idx))) := Lib.hid (fun k i' hk => by
              have h1 := stP_at (k := k) HV.out HAb.out.at' hu
              rw [hidx] at h1
              rw [Bool.eq_iff_iff, decide_eq_true_eq, beq_iff_eq, ← h1, hk]
              constructor
              · intro h2
                congr 1
                omega
              · intro h2
                have := Option.some.inj h2
                omega)
            have cA : Hid (∀ w', Below wx.heap.size wx w' → Calls Try.prog 64 #[.agg #[.slice (some ⟨b, o, none⟩) n c], .int .i64 (i : Int)] w' fun e w'' => e = .returned (.string sy) ∧ Below w'.heap.size w' w'') := Lib.hid (fun w' hb => by
              have hG := HPx.out.gv.on hb
              refine (l2Prefix_any W.heap.size _ n c i t w' hG.bel.size hG.nds hin).mono ?_
              rintro e w'' ⟨s, rfl, _, hs, hb2⟩
              refine ⟨?_, hb2⟩
              have := hs ps HV.out.tells (fun x hx => (HV.out.isW x hx).1) y HPy.out
              rw [tx_inj (this.trans hty.symm)])
            have cB : Hid (∀ w', Below wx.heap.size wx w' → Calls Try.prog 64 #[.agg #[.slice (some ⟨b, o, none⟩) n c], .int .i64 (z : Int)] w' fun e w'' => e = .returned (.string su) ∧ Below w'.heap.size w' w'') := Lib.hid (fun w' hb => by
              have hG := HPx.out.gv.on hb
              refine (l2Prefix_any W.heap.size _ n c z t w' hG.bel.size hG.nds hzn).mono ?_
              rintro e w'' ⟨s, rfl, _, hs, hb2⟩
              refine ⟨?_, hb2⟩
              have := hs ps HV.out.tells (fun x hx => (HV.out.isW x hx).1) u HAb.out.at'
              rw [tx_inj (this.trans htu.symm)])
            clear hkd hup hsy hsu hty htu hu hidx
            have hszx : W.heap.size < wx.heap.size := HPx.out.gv.lt
            have hgx : g < wx.heap.size := by have := HBx.out.size; omega
            have hBbx : wr.heap.size < wx.heap.size := HBBx.out.lt
            have hnumx := (HBx.out.cell (p := ⟨g, j, none⟩) hgw).trans hnum0.out
            have HSx : Hid (∀ w', Below wx.heap.size wx w' → w'.cell? ⟨W.heap.size, 0, none⟩ = some (.slice (some ⟨b, o, none⟩) n c) ∧ w'.cell? ⟨g, j, none⟩ = some (.int .i64 (i : Int)) ∧ w'.cell? ⟨wr.heap.size, 0, none⟩ = some (.string ⟨#[]⟩) ∧ w'.frozen? ⟨wr.heap.size, 0, none⟩ = false) := Lib.hid (fun w' hb => ⟨(hb.cell (p := ⟨W.heap.size, 0, none⟩) hszx).trans hbxx, (hb.cell (p := ⟨g, j, none⟩) hgx).trans hnumx, (hb.cell (p := ⟨wr.heap.size, 0, none⟩) hBbx).trans HBBx.out.c0, (hb.frozen (p := ⟨wr.heap.size, 0, none⟩) hBbx).trans (HBBx.out.free 0)⟩)
            go_wp2_with (go_at_call 63; refine cS.out.mono ?_; rintro en w7 ⟨rfl, hb7⟩; have HB7 := Lib.hid hb7; clear hb7)
            have HQd : Hid (Below wx.heap.size wx w7.drew) := Lib.hid HB7.out.drew
            have HSy : Hid (∀ w', Below wx.heap.size wx w' → w'.cell? ⟨W.heap.size, 0, none⟩ = some (.slice (some ⟨b, o, none⟩) n c) ∧ w'.cell? ⟨g, j, none⟩ = some (.int .i64 (i : Int))) := Lib.hid (fun w' hb => ⟨(HSx.out w' hb).1, (HSx.out w' hb).2.1⟩)
            have HSt : Hid (∀ w' v, Below wx.heap.size wx w' → (w'.setCell ⟨wr.heap.size, 0, none⟩ v).cell? ⟨W.heap.size, 0, none⟩ = some (.slice (some ⟨b, o, none⟩) n c) ∧ (w'.setCell ⟨wr.heap.size, 0, none⟩ v).cell? ⟨g, j, none⟩ = some (.int .i64 (i : Int))) := Lib.hid (fun w' v hb => ⟨(World.cell?_of_block (Deep.blk_setCell_other _ _ _ _ (by show W.heap.size ≠ wr.heap.size; omega))).trans (HSx.out w' hb).1, (World.cell?_of_block (Deep.blk_setCell_other _ _ _ _ (by show g ≠ wr.heap.size; omega))).trans (HSx.out w' hb).2.1⟩)
            go_region_held3 (fun w' => w'.cell? ⟨W.heap.size, 0, none⟩ = some (.slice (some ⟨b, o, none⟩) n c) ∧ w'.cell? ⟨g, j, none⟩ = some (.int .i64 (i : Int)))
              (first
                | exact HSt.out _ _ hq10
                | exact HSy.out _ hq10
                | exact HSy.out _ hq9
                | exact HSy.out _ HQd.out)
              (first
                | (have hgate := hq9; clear hgate; go_at_call 64; (first | (with_reducible refine (cA.out _ hq9).mono ?_) | (with_reducible refine (cB.out _ hq9).mono ?_)); rintro e10 w10 ⟨rfl, hb10⟩; have hq10 := hq9.trans (hb10.mono hq9.size); have hst1 := (HSx.out _ hq10).2.2.1; have hst2 := (HSx.out _ hq10).2.2.2; clear hb10)
                | (go_at_call 64; (first | (with_reducible refine (cA.out _ HQd.out).mono ?_) | (with_reducible refine (cB.out _ HQd.out).mono ?_)); rintro e9 w9 ⟨rfl, hb9⟩; have hq9 := HQd.out.trans (hb9.mono HQd.out.size); clear hb9))
            obtain ⟨sl, hsl⟩ : ∃ sl, sy.extract su.size sy.size = sl := ⟨_, rfl⟩
            rw [hsl] at HFin ⊢
            obtain ⟨W8, hW8⟩ : ∃ W8, w10.setCell ⟨wr.heap.size, 0, none⟩ (.string sl) = W8 := ⟨_, rfl⟩
            have HB8 : Hid (Below wr.heap.size wr W8) := Lib.hid (by rw [← hW8]; exact (HBx.out.trans (hq10.mono HBx.out.size)).setCell (Nat.le_refl _) _)
            have HBB8 : Hid (BB W8 wr.heap.size sl (-1) e) := Lib.hid (by rw [← hW8]; exact (HBBx.out.keep (hq10.block _ HBBx.out.lt)).set0 sl)
            rw [hW8]
            clear hW8 hsl hq9 hq10 hst1 hst2 hnumx HSx HSy HSt HQd HB7 cA cB cS hbxx
            go_wp2
            go_loopw [8] (fun s wy => ∃ (k : Nat) (P : Int), k ≤ j ∧ s = .int .i64 k ∧ Hid (P = if idx < k then (idx : Int) else -1) ∧ Hid (Below wr.heap.size wr wy) ∧ Hid (BB wy wr.heap.size sl P e)) (fun s _ => j - (intOf s).toNat)
            case atStart => exact ⟨0, -1, by omega, rfl, Lib.hid (by rw [if_neg (by omega)]), HB8, HBB8⟩
            case round =>
              clear HB8 HBB8
              obtain ⟨k, P, hkj, rfl, HPk, HBy, HBBy⟩ := hrel
              rename World => wy
              have HPy8 := Lib.hid (HP.out.below HBy.out)
              by_cases hlk : k < j
              · obtain ⟨ik, hik⟩ : ∃ ik, (stP t ps)[k]? = some ik := ⟨_, List.getElem?_eq_getElem (by rw [HM.out]; omega)⟩
                obtain ⟨g2, cp2, hva2, hnum2⟩ := num_at HPy8.out.nm hik
                simp only [Value.slice.injEq, Option.some.injEq, Addr.mk.injEq, and_true] at hva2
                obtain ⟨rfl, _, _⟩ := hva2
                have hcmp := HNum.out k ik hik
                by_cases hki : k = idx
                · have hcmp2 : (((ik : Nat) : Int) == (z : Int)) = true := by rw [hcmp]; exact decide_eq_true hki
                  have hcP := HBBy.out.c1
                  have hfP := HBBy.out.free 1
                  have HBB9 := Lib.hid (HBBy.out.set1 (k : Int))
                  have HPn : Hid ((k : Int) = if idx < k + 1 then (idx : Int) else -1) := Lib.hid (by rw [if_pos (by omega)]; omega)
                  have HB9 := Lib.hid (HBy.out.setCell (p := ⟨wr.heap.size, 1, none⟩) (Nat.le_refl _) (.int .i64 (k : Int)))
                  clear hcmp hki hik
                  go_wp2
                  go_roundw
                  case rel => exact ⟨k + 1, _, by omega, by go_num, HPn, HB9, HBB9⟩
                  case measure => simp [intOf]; omega
                · have hcmp2 : (((ik : Nat) : Int) == (z : Int)) = false := by rw [hcmp]; exact decide_eq_false hki
                  have HPn : Hid (P = if idx < k + 1 then (idx : Int) else -1) := Lib.hid (by
                    rw [HPk.out]
                    by_cases h1 : idx < k
                    · rw [if_pos h1, if_pos (by omega)]
                    · rw [if_neg h1, if_neg (by omega)])
                  clear hcmp hki hik
                  go_wp2
                  go_roundw
                  case rel => exact ⟨k + 1, P, by omega, by go_num, HPn, HBy, HBBy⟩
                  case measure => simp [intOf]; omega
              · obtain rfl : k = j := by omega
                have hPi : P = (idx : Int) := by rw [HPk.out, if_pos hij]
                subst hPi
                have hB3c := HPy8.out.out.cell
                have hB3f := HPy8.out.out.frozen
                have hb0 := HBBy.out.c0
                have hb1 := HBBy.out.c1
                have hb2 := HBBy.out.c2
                have hbl5 := HBBy.out.lt
                have hW5s : W.heap.size + 2 ≤ wy.heap.size := by have := HPy8.out.out.lt; have := HPy8.out.hB3; omega
                go_wp2_with (at_builtin; refine wpList_append_own_at _ rfl _ _ 28 rfl (W.heap.size + 2) 52 i0 (.agg #[.string ByteArray.empty, .int .i64 0, .bool false]) 3 32 Try.underlying28 hii hz0 hz1 hz2 rfl (by decide) _ _ _ rfl (HPy8.out.row.alloc _) ⟨_, 0, none⟩ 1 1 [.string sl, .int .i64 (idx : Int), .bool e] rfl rfl (news_at (cs := #[.string sl, .int .i64 (idx : Int), .bool e]) (by first | rfl | (simp; done))) (by simp [Value.oneCell']) (by unfold maxLen; omega) (by omega) (by first | omega | (simp; omega)) ?_; intro v' w1 hown' hgrow _ hat; obtain ⟨a9, c9, rfl⟩ := own_slice hown'; obtain ⟨hv1, hP1⟩ := HPy8.out.more HFin.out hown' hgrow; have hc1' := hv1.cell; have hf1' := hv1.frozen; have HP1 := Lib.hid hP1; clear hown' hgrow hat hv1 hP1)
                go_roundw
                case rel => exact ⟨k + 1, _, by omega, by go_num, HP1⟩
                case measure => simp [intOf]; omega
    · obtain rfl : j = m := by omega
      have HT : Hid ((prw (wds t ps)).take j = prw (wds t ps)) := Lib.hid (List.take_of_length_le (by rw [HPl.out]; exact Nat.le_refl _))
      obtain ⟨aO, cO, rfl⟩ := own_slice HP.out.row
      have hB3c := HP.out.out.cell
      have hrc := HP.out.res.cell
      have hrf := HP.out.res.frozen
      go_wp2
      refine bodyPost_ret (v := .agg #[.slice aO j cO]) (by simp [results, Try.results39, go_sem, hrc]) rfl ⟨_, rfl, ?_, HP.out.gv.bel.setCell (by simp) _⟩
      have h1 := HP.out.row
      rw [HT.out] at h1
      rw [HPl.out]
      exact (own_down h1 (by omega)).kept (grownBy_setCell' wr (W.heap.size + 1) _) (.inr (HP.out.res.not_row (by decide) h1).symm)

end Go.Proofs.Ytoofpgehkihbcaa
