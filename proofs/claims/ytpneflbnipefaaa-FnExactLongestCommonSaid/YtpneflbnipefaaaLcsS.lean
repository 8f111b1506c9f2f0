/-
  The most letters in common of two words: the reference's function, for two words.
-/
import Derived.Test.YtpneflbnipefaaaLcs
import Derived.Test.YtpneflbnipefaaaMost1
namespace Go.Proofs.Ytpneflbnipefaaa
open Go.RowKit
set_option linter.unusedVariables false

set_option maxRecDepth 1000000 in
set_option maxHeartbeats 4000000 in
theorem specLcs_yes (a b : ByteArray) (w : World) (hwa : okW a = true) (hwb : okW b = true) :
    Calls Try.prog 19 #[.string a, .string b] w fun e w' => e = .returned (.tuple #[.int .i64 (lcs a.data.toList b.data.toList a.size b.size : Nat), .bool true]) ∧ Below w.heap.size w w' := by
  have ha := okW_size hwa
  have hb := okW_size hwb
  have c10 := l2Word_any a w (by omega)
  have c20 := l2Word_any b w (by omega)
  rw [hwa] at c10
  rw [hwb] at c20
  have c1 := Lib.hid c10
  have c2 := Lib.hid c20
  obtain ⟨i0, hii, hz0, hz1, hz2⟩ := info_parts infoI
  obtain ⟨nn, hnn⟩ : ∃ nn, b.size + 1 = nn := ⟨_, rfl⟩
  have HNN := Lib.hid hnn
  have hsn : ((b.size : Nat) : Int) + 1 = (nn : Int) := by omega
  have HSN := Lib.hid hsn
  have hn13 : nn ≤ 13 := by omega
  have hC := lcs_is a b
  obtain ⟨L, hL⟩ : ∃ L, lcs a.data.toList b.data.toList = L := ⟨_, rfl⟩
  rw [hL] at hC ⊢
  have HC := Lib.hid hC
  obtain ⟨v, hv⟩ : ∃ v, L a.size b.size = v := ⟨_, rfl⟩
  have HV := Lib.hid hv
  rw [hv]
  clear hnn hwa hwb hL hC hv hsn c10 c20
  go_enter Try.func19, Try.ntmps19
  go_wp2_with fail
  refine c1.out.mono ?_
  rintro e w0 ⟨rfl, rfl⟩
  go_wp2_with fail
  refine c2.out.mono ?_
  rintro e w0 ⟨rfl, rfl⟩
  go_wp2_with (first
    | (at_make; refine wpList_make_full _ rfl _ _ 33 rfl w.heap.size 3 i0 (.int .i64 0) 1 Try.underlying33 hii hz0 hz1 .i64 .i64 _ _ nn rfl rfl HSN.out HSN.out (by rw [hz2]; omega) (by unfold maxLen; omega) (Nat.le_refl _) ?_; intro w1 hown hgrow; have hown1 := made_rep rfl hown; have HO1 := Lib.hid hown1; have HB1 : Hid (Below w.heap.size w w1) := Lib.hid ((Below.refl _ _).grown hgrow (Nat.le_refl _) (fun k e => by cases e)); clear hown hown1 hgrow))
  have HS1 : Hid (Sl w1.heap.size w1 (some ⟨w.heap.size, 0, none⟩) nn nn (irow (L 0) nn)) := Lib.hid (by have := Sl.of_own HO1.out; rwa [rep_irow (f := L 0) HC.out.o] at this)
  obtain ⟨g0, hg0⟩ : ∃ g0, w.heap.size = g0 := ⟨_, rfl⟩
  rw [hg0] at HS1 ⊢
  have HG0 := Lib.hid hg0
  clear hg0 HO1 c1 c2
  go_loopw [6, 7] (fun r l wr => ∃ (q g : Nat), q ≤ a.size ∧ r = .slice (some ⟨g, 0, none⟩) nn nn ∧ l = .int .i64 (q : Int) ∧ Hid (Sl wr.heap.size wr (some ⟨g, 0, none⟩) nn nn (irow (L q) nn)) ∧ Hid (Below w.heap.size w wr)) (fun _ l _ => a.size - (intOf l).toNat)
  case atStart => exact ⟨0, g0, Nat.zero_le _, rfl, rfl, HS1, HB1⟩
  case round =>
    clear HS1 HB1
    obtain ⟨q, g, hq, rfl, rfl, HS, HBw⟩ := hrel
    by_cases hqa : q < a.size
    · have HLet := Lib.hid (And.intro (fun k (hk : k < b.size) => HC.out.yes q k hqa hk) (fun k (hk : k < b.size) => HC.out.no q k hqa hk))
      obtain ⟨W1, hW1⟩ : ∃ W1 : World, W1 = wr := ⟨_, rfl⟩
      have HW1 := Lib.hid hW1
      have HS1 : Hid (Sl W1.heap.size W1 (some ⟨g, 0, none⟩) nn nn (irow (L q) nn)) := Lib.hid (by rw [hW1]; exact HS.out)
      have HBo : Hid (Below w.heap.size w W1) := Lib.hid (by rw [hW1]; exact HBw.out)
      rw [← hW1]
      clear hW1
      go_wp2_with (first
        | (at_make; refine wpList_make_full _ rfl _ _ 33 rfl W1.heap.size 3 i0 (.int .i64 0) 1 Try.underlying33 hii hz0 hz1 .i64 .i64 _ _ nn rfl rfl HSN.out HSN.out (by rw [hz2]; omega) (by unfold maxLen; omega) (Nat.le_refl _) ?_; intro w2 hown hgrow; have hown1 := made_rep rfl hown; have HO2 := Lib.hid hown1; have HBm : Hid (Below W1.heap.size W1 w2) := Lib.hid ((Below.refl _ _).grown hgrow (Nat.le_refl _) (fun k e => by cases e)); clear hown hown1 hgrow))
      have HO3 : Hid (w2.ownsRow W1.heap.size 3 1 (.slice (some ⟨W1.heap.size, 0, none⟩) nn nn) nn (fil (iv (L (q + 1))) (.int .i64 0) 1 nn)) := Lib.hid (by have := HO2.out; rwa [fil_one (f := iv (L (q + 1))) (by show Value.int .i64 ((L (q + 1) 0 : Nat) : Int) = _; rw [HC.out.z]; rfl)] at this)
      obtain ⟨G, hG⟩ : ∃ G, W1.heap.size = G := ⟨_, rfl⟩
      have HG := Lib.hid hG
      rw [hG] at HO3 HBm ⊢
      clear HO2 hG
      have hgl : g < G := by
        obtain ⟨b9, o9, e9, h9, _⟩ := HS1.out.spot 0 _ (irow_at (L q) (show 0 < nn by have := HNN.out; omega))
        have e10 : g = b9 := by injection e9 with e9; injection e9
        have := HG.out
        omega
      have hgG : g ≠ G := by omega
      go_loopw [9] (fun l wr => ∃ j : Nat, j ≤ b.size ∧ l = .int .i64 (j : Int) ∧ Hid (wr.ownsRow G 3 1 (.slice (some ⟨G, 0, none⟩) nn nn) nn (fil (iv (L (q + 1))) (.int .i64 0) (j + 1) nn)) ∧ Hid (Below G W1 wr)) (fun l _ => b.size - (intOf l).toNat)
      case atStart => exact ⟨0, Nat.zero_le _, rfl, HO3, HBm⟩
      case round =>
        clear HO3 HBm
        obtain ⟨j, hj, rfl, HO, HBn⟩ := hrel
        by_cases hjb : j < b.size
        · have hS := HS1.out
          rw [HG.out] at hS
          have hS3 := hS.keep HBn.out
          obtain ⟨b1, o1, e1, _, hcA⟩ := hS3.spot j _ (irow_at (L q) (show j < nn by have := HNN.out; omega))
          obtain ⟨b2, o2, e2, _, hcB⟩ := hS3.spot (j + 1) _ (irow_at (L q) (show j + 1 < nn by have := HNN.out; omega))
          injection e1 with e1; injection e1 with e1 e1'; subst e1; subst e1'
          injection e2 with e2; injection e2 with e2 e2'; subst e2; subst e2'
          rw [Nat.zero_add] at hcA hcB
          have hcC0 := (HO.out.cellAt j (by have := HNN.out; omega)).trans (fil_old (iv (L (q + 1))) (.int .i64 0) (show j < nn by have := HNN.out; omega) (by omega))
          have hcD := (HO.out.cellAt (j + 1) (by have := HNN.out; omega)).trans (fil_new (iv (L (q + 1))) (.int .i64 0) (show j + 1 < nn by have := HNN.out; omega) (Nat.le_refl _))
          have hfz := HO.out.frozenAt (j + 1)
          have hcC : wr.cell? ⟨G, j, none⟩ = some (.int .i64 ((L (q + 1) j : Nat) : Int)) := hcC0
          clear hcC0 hS hS3
          have hb1 := HC.out.le q j
          have hb2 := HC.out.le q (j + 1)
          have hb3 := HC.out.le (q + 1) j
          have HY := Lib.hid (HLet.out.1 j hjb)
          have HN := Lib.hid (HLet.out.2 j hjb)
          have HStep : Hid (∀ (W4 : World) (M : Nat) (xs : List Value), W4.ownsRow G 3 1 (.slice (some ⟨G, 0, none⟩) nn nn) nn xs → Below G W1 W4 →
              (W4.setCell ⟨G, j + 1, none⟩ (.int .i64 (M : Int))).ownsRow G 3 1 (.slice (some ⟨G, 0, none⟩) nn nn) nn (xs.set (j + 1) (.int .i64 (M : Int))) ∧ Below G W1 (W4.setCell ⟨G, j + 1, none⟩ (.int .i64 (M : Int)))) := Lib.hid (fun W4 M xs hO4 hB4 => by
            have h1 := hO4.stored (j + 1) (.int .i64 (M : Int))
            exact ⟨h1.1, hB4.grown h1.2 (by have := hB4.size; have := HG.out; omega) (fun q e => by injection e with e; omega)⟩)
          obtain ⟨R, hR⟩ : ∃ R, L (q + 1) (j + 1) = R := ⟨_, rfl⟩
          have HR : Hid (iv (L (q + 1)) (j + 1) = .int .i64 (R : Int)) := Lib.hid (by show Value.int .i64 ((L (q + 1) (j + 1) : Nat) : Int) = _; rw [hR])
          obtain ⟨x0, hx0⟩ : ∃ x0, L q j = x0 := ⟨_, rfl⟩
          obtain ⟨y0, hy0⟩ : ∃ y0, L q (j + 1) = y0 := ⟨_, rfl⟩
          obtain ⟨z0, hz0'⟩ : ∃ z0, L (q + 1) j = z0 := ⟨_, rfl⟩
          rw [hR, hx0] at HY
          rw [hR, hz0', hy0] at HN
          rw [hx0] at hb1 hcA
          rw [hy0] at hb2 hcB
          rw [hz0'] at hb3 hcC
          clear hR hx0 hy0 hz0'
          have hk1 : IntKind.i64.wrap ((j : Int) + 1) = (j : Int) + 1 := i64_of _ (by omega)
          have hk2 : (0 : Int) ≤ (j : Int) + 1 := by omega
          have hk3 : (j : Int) + 1 < (nn : Int) := by have := HNN.out; omega
          have hk4 : ((j : Int) + 1).toNat = j + 1 := by omega
          have hk5 : (0 : Int) ≤ (j : Int) := by omega
          have hk6 : (j : Int) < (nn : Int) := by have := HNN.out; omega
          have cX0 := fun W' => l1Most_is (y0 : Int) (z0 : Int) W'
          obtain ⟨M, hM⟩ : ∃ M, max y0 z0 = M := ⟨_, rfl⟩
          have hMe : (if (z0 : Int) < (y0 : Int) then (y0 : Int) else (z0 : Int)) = (M : Int) := by split <;> omega
          rw [hMe] at cX0
          have cX := Lib.hid cX0
          have HM := Lib.hid hM
          clear cX0 hMe hM
          have HX := Lib.hid (HStep.out wr M _ HO.out HBn.out)
          by_cases he : a[q].toNat = b[j].toNat
          · have HR2 := Lib.hid (HY.out he)
            have hne := eq_yes he
            clear he HY HN
            have hwX : IntKind.i64.wrap ((x0 : Int) + 1) = (R : Int) := by rw [i64_of _ (by omega)]; have := HR2.out; omega
            have hwX2 : (x0 : Int) + 1 = (R : Int) := by have := HR2.out; omega
            have HY2 : Hid (((wr.setCell ⟨G, j + 1, none⟩ (.int .i64 (M : Int))).setCell ⟨G, j + 1, none⟩ (.int .i64 (R : Int))).ownsRow G 3 1 (.slice (some ⟨G, 0, none⟩) nn nn) nn (fil (iv (L (q + 1))) (.int .i64 0) (j + 1 + 1) nn) ∧ Below G W1 ((wr.setCell ⟨G, j + 1, none⟩ (.int .i64 (M : Int))).setCell ⟨G, j + 1, none⟩ (.int .i64 (R : Int)))) := Lib.hid (by
              have h2 := HStep.out _ R _ HX.out.1 HX.out.2
              refine ⟨?_, h2.2⟩
              have h3 := h2.1
              rw [List.set_set, ← HR.out, fil_set] at h3
              rw [← HR.out]
              exact h3)
            go_wp2_with fail
            refine wp_region_still_tail 14 (by kernel_rfl) (by kernel_rfl) ?_
            simp only [List.take_succ_cons, List.take_zero, List.drop_succ_cons, List.drop_zero]
            repeat still_step
            still_call (cX.out _)
            repeat still_step
            try refine wpStill_nil ?_
            go_wp2_with fail
            go_quiet (fail)
            go_wp2_with fail
            go_roundw
            case rel => exact ⟨j + 1, by omega, by go_num, Lib.hid HY2.out.1, Lib.hid ⟨HY2.out.2.os, HY2.out.2.tape, HY2.out.2.output, HY2.out.2.size, HY2.out.2.block⟩⟩
            case measure => simp [intOf]; omega
          · have HR2 := Lib.hid (HN.out he)
            have hne := eq_not he
            clear he HY HN
            have HXf : Hid ((wr.setCell ⟨G, j + 1, none⟩ (.int .i64 (M : Int))).ownsRow G 3 1 (.slice (some ⟨G, 0, none⟩) nn nn) nn (fil (iv (L (q + 1))) (.int .i64 0) (j + 1 + 1) nn)) := Lib.hid (by
              have h2 := HX.out.1
              have hRM : R = M := by rw [HR2.out, HM.out]
              have h3 := HR.out
              rw [hRM] at h3
              rw [← h3, fil_set] at h2
              rw [← h3]
              exact h2)
            go_wp2_with fail
            refine wp_region_still_tail 14 (by kernel_rfl) (by kernel_rfl) ?_
            simp only [List.take_succ_cons, List.take_zero, List.drop_succ_cons, List.drop_zero]
            repeat still_step
            still_call (cX.out _)
            repeat still_step
            try refine wpStill_nil ?_
            go_wp2_with fail
            go_quiet (fail)
            go_wp2_with fail
            go_roundw
            case rel => exact ⟨j + 1, by omega, by go_num, Lib.hid HXf.out, Lib.hid ⟨HX.out.2.os, HX.out.2.tape, HX.out.2.output, HX.out.2.size, HX.out.2.block⟩⟩
            case measure => simp [intOf]; omega
        · have e : j + 1 = nn := by have := HNN.out; omega
          have HSn : Hid (Sl wr.heap.size wr (some ⟨G, 0, none⟩) nn nn (irow (L (q + 1)) nn)) := Lib.hid (by have := HO.out; rw [e, fil_all] at this; exact Sl.of_own this)
          have HBw4 : Hid (Below w.heap.size w wr) := Lib.hid (HBo.out.trans (HBn.out.mono (by have := HBo.out.size; have := HG.out; omega)))
          clear e HO HBn
          go_wp2
          go_roundw
          case rel => exact ⟨q + 1, _, by omega, rfl, by go_num, HSn, HBw4⟩
          case measure => simp [intOf]; omega
    · obtain rfl : q = a.size := by omega
      have hnb : b.size < nn := by have := HNN.out; omega
      obtain ⟨b1, o1, e1, _, hcA⟩ := HS.out.spot b.size _ (irow_at (L a.size) hnb)
      injection e1 with e1; injection e1 with e1 e1'; subst e1; subst e1'
      have hi0 : (0 : Int) ≤ (b.size : Int) := by omega
      have hi1 : (b.size : Int) < (nn : Int) := by omega
      rw [Nat.zero_add, HV.out] at hcA
      go_wp2
      go_ret2
      exact ⟨rfl, HBw.out⟩

end Go.Proofs.Ytpneflbnipefaaa
