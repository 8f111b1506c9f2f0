/-
  Whether a pattern fits a word: the reference's rows.
-/
import Derived.Test.YtpneflbnipefaabBits
namespace Go.Proofs.Ytpneflbnipefaab
open Go.RowKit
set_option linter.unusedVariables false

set_option maxRecDepth 1000000 in
set_option maxHeartbeats 4000000 in
theorem l6Fits_any (a b : ByteArray) (w : World) (ha : a.size ≤ 14) (hb : b.size ≤ 12) :
    Calls Try.prog 48 #[.string a, .string b] w fun e w' => e = .returned (.bool (fit a.data.toList b.data.toList a.size b.size)) ∧ Below w.heap.size w w' := by
  obtain ⟨i0, hii, hz0, hz1, hz2⟩ := info_parts infoBl
  obtain ⟨nn, hnn⟩ : ∃ nn, b.size + 1 = nn := ⟨_, rfl⟩
  have HNN := Lib.hid hnn
  have hsn : ((b.size : Nat) : Int) + 1 = (nn : Int) := by omega
  have HSN := Lib.hid hsn
  have hn13 : nn ≤ 13 := by omega
  have hn0 : 0 < nn := by omega
  have hC := fit_is a b
  obtain ⟨L, hL⟩ : ∃ L, fit a.data.toList b.data.toList = L := ⟨_, rfl⟩
  rw [hL] at hC ⊢
  have HC := Lib.hid hC
  obtain ⟨v, hv⟩ : ∃ v, L a.size b.size = v := ⟨_, rfl⟩
  have HV := Lib.hid hv
  rw [hv]
  clear hnn hL hC hv hsn
  go_enter Try.func48, Try.ntmps48
  go_wp2_with (first
    | (at_make; refine wpList_make_full _ rfl _ _ 89 rfl w.heap.size 4 i0 (.bool false) 1 Try.underlying89 hii hz0 hz1 .i64 .i64 _ _ nn rfl rfl HSN.out HSN.out (by rw [hz2]; omega) (by unfold maxLen; omega) (Nat.le_refl _) ?_; intro w1 hown hgrow; have hown1 := made_rep rfl hown; have HO1 := Lib.hid hown1; have HB1 : Hid (Below w.heap.size w w1) := Lib.hid ((Below.refl _ _).grown hgrow (Nat.le_refl _) (fun k e => by cases e)); have hfz := hown1.frozenAt 0; have hcz := (hown1.cellAt 0 (by omega)).trans ((congrArg (·[0]?) (fil_zero (bv (L 0)) (.bool false) nn)).trans (fil_new _ _ (by omega) (Nat.le_refl _))); clear hown hown1 hgrow))
  have HST0 := Lib.hid (HO1.out.stored 0 (.bool true))
  have HS1 : Hid (Sl (w1.setCell ⟨w.heap.size, 0, none⟩ (.bool true)).heap.size (w1.setCell ⟨w.heap.size, 0, none⟩ (.bool true)) (some ⟨w.heap.size, 0, none⟩) nn nn (brow (L 0) nn)) := Lib.hid (by
    have := Sl.of_own HST0.out.1
    rwa [first_brow HC.out.o] at this)
  have HB2 : Hid (Below w.heap.size w (w1.setCell ⟨w.heap.size, 0, none⟩ (.bool true))) := Lib.hid (HB1.out.grown HST0.out.2 (by have := HB1.out.size; omega) (fun k e => by injection e with e; omega))
  clear hfz hcz HST0 HO1 HB1
  obtain ⟨W2, hW2⟩ : ∃ W2, w1.setCell ⟨w.heap.size, 0, none⟩ (.bool true) = W2 := ⟨_, rfl⟩
  rw [hW2] at HS1 HB2 ⊢
  clear hW2
  obtain ⟨g0, hg0⟩ : ∃ g0, w.heap.size = g0 := ⟨_, rfl⟩
  rw [hg0] at HS1 ⊢
  have HG0 := Lib.hid hg0
  clear hg0
  go_loopw [5, 6] (fun r l wr => ∃ (q g : Nat), q ≤ a.size ∧ r = .slice (some ⟨g, 0, none⟩) nn nn ∧ l = .int .i64 (q : Int) ∧ Hid (Sl wr.heap.size wr (some ⟨g, 0, none⟩) nn nn (brow (L q) nn)) ∧ Hid (Below w.heap.size w wr)) (fun _ l _ => a.size - (intOf l).toNat)
  case atStart => exact ⟨0, g0, Nat.zero_le _, rfl, rfl, HS1, HB2⟩
  case round =>
    clear HS1 HB2
    obtain ⟨q, g, hq, rfl, rfl, HS, HBw⟩ := hrel
    by_cases hqa : q < a.size
    · have HLet := Lib.hid (And.intro (HC.out.sz q hqa) (And.intro (HC.out.oz q hqa) (And.intro (fun k => HC.out.ss q k hqa) (fun k (hk : k < b.size) => HC.out.os q k hqa hk))))
      obtain ⟨W1, hW1⟩ : ∃ W1 : World, W1 = wr := ⟨_, rfl⟩
      have HS1 : Hid (Sl W1.heap.size W1 (some ⟨g, 0, none⟩) nn nn (brow (L q) nn)) := Lib.hid (by rw [hW1]; exact HS.out)
      have HBo : Hid (Below w.heap.size w W1) := Lib.hid (by rw [hW1]; exact HBw.out)
      rw [← hW1]
      clear hW1
      go_wp2_with (first
        | (at_make; refine wpList_make_full _ rfl _ _ 89 rfl W1.heap.size 4 i0 (.bool false) 1 Try.underlying89 hii hz0 hz1 .i64 .i64 _ _ nn rfl rfl HSN.out HSN.out (by rw [hz2]; omega) (by unfold maxLen; omega) (Nat.le_refl _) ?_; intro w2 hown hgrow; have hown1 := made_rep rfl hown; have HO2 := Lib.hid hown1; have HBm : Hid (Below W1.heap.size W1 w2) := Lib.hid ((Below.refl _ _).grown hgrow (Nat.le_refl _) (fun k e => by cases e)); clear hown hown1 hgrow))
      have HO3 : Hid (w2.ownsRow W1.heap.size 4 1 (.slice (some ⟨W1.heap.size, 0, none⟩) nn nn) nn (fil (bv (L (q + 1))) (.bool false) 0 nn)) := Lib.hid (by rw [← fil_zero]; exact HO2.out)
      obtain ⟨G, hG⟩ : ∃ G, W1.heap.size = G := ⟨_, rfl⟩
      have HG := Lib.hid hG
      rw [hG] at HO3 HBm ⊢
      clear HO2 hG
      have hgl : g < G := by
        obtain ⟨b9, o9, e9, h9, _⟩ := HS1.out.spot 0 _ (brow_at (L q) (show 0 < nn by have := HNN.out; omega))
        have e10 : g = b9 := by injection e9 with e9; injection e9
        have := HG.out
        omega
      have hgG : g ≠ G := by omega
      obtain ⟨c, hc⟩ : ∃ c, a[q].toNat = c := ⟨_, rfl⟩
      have HCc := Lib.hid hc
      rw [hc] at HLet
      clear hc
      go_loopw [8] (fun l wr => ∃ k : Nat, k ≤ nn ∧ l = .int .i64 (k : Int) ∧ Hid (wr.ownsRow G 4 1 (.slice (some ⟨G, 0, none⟩) nn nn) nn (fil (bv (L (q + 1))) (.bool false) k nn)) ∧ Hid (Below G W1 wr)) (fun l _ => nn - (intOf l).toNat)
      case atStart => exact ⟨0, Nat.zero_le _, rfl, HO3, HBm⟩
      case round =>
        clear HO3 HBm
        obtain ⟨k, hk, rfl, HO, HBn⟩ := hrel
        by_cases hkn : k < nn
        · have hkb : k ≤ b.size := by have := HNN.out; omega
          have hS := HS1.out
          rw [HG.out] at hS
          have hS3 := hS.keep HBn.out
          obtain ⟨b1, o1, e1, _, hcA⟩ := hS3.spot k _ (brow_at (L q) hkn)
          injection e1 with e1; injection e1 with e1 e1'; subst e1; subst e1'
          rw [Nat.zero_add] at hcA
          have hcD := (HO.out.cellAt k (by omega)).trans (fil_new (bv (L (q + 1))) (.bool false) hkn (Nat.le_refl _))
          have hfz := HO.out.frozenAt k
          have HSt : Hid (∀ x : Bool, L (q + 1) k = x → (wr.setCell ⟨G, k, none⟩ (.bool x)).ownsRow G 4 1 (.slice (some ⟨G, 0, none⟩) nn nn) nn (fil (bv (L (q + 1))) (.bool false) (k + 1) nn) ∧ Below G W1 (wr.setCell ⟨G, k, none⟩ (.bool x))) := Lib.hid (fun x hx => by
            have h1 := HO.out.stored k (.bool x)
            refine ⟨?_, HBn.out.grown h1.2 (by have := HBn.out.size; have := HG.out; omega) (fun q e => by injection e with e; omega)⟩
            have h2 := h1.1
            have h3 : bv (L (q + 1)) k = .bool x := by show Value.bool (L (q + 1) k) = _; rw [hx]
            rw [← h3, fil_set] at h2
            rw [← h3]
            exact h2)
          have HSk : Hid (L (q + 1) k = false → wr.ownsRow G 4 1 (.slice (some ⟨G, 0, none⟩) nn nn) nn (fil (bv (L (q + 1))) (.bool false) (k + 1) nn)) := Lib.hid (fun hx => by
            rw [← fil_skip (f := bv (L (q + 1))) (j := k) (by show Value.bool (L (q + 1) k) = _; rw [hx])]
            exact HO.out)
          have hk5 : (0 : Int) ≤ (k : Int) := by omega
          have hk6 : (k : Int) < (nn : Int) := by omega
          by_cases hst : c = 42
          · have HSt42 := Lib.hid (And.intro (HLet.out.1 hst) (fun k => HLet.out.2.2.1 k hst))
            have hq42 : ((a[q].toNat : Int) == 42) = true := by rw [HCc.out, hst]; rfl
            clear hst
            obtain ⟨x, hx⟩ : ∃ x, L q k = x := ⟨_, rfl⟩
            rw [hx] at hcA
            have HXx := Lib.hid hx
            clear hx
            cases k with
            | zero =>
              have HR : Hid (L (q + 1) 0 = x) := Lib.hid (by rw [HSt42.out.1, HXx.out])
              cases x
              · have h00 : ¬ (0 : Int) < ((0 : Nat) : Int) := by omega
                have HX := Lib.hid (HSt.out false (HR.out))
                go_wp2
                go_roundw
                case rel => exact ⟨0 + 1, by omega, by go_num, Lib.hid HX.out.1, Lib.hid HX.out.2⟩
                case measure => simp [intOf]; omega
              · have h00 : ¬ (0 : Int) < ((0 : Nat) : Int) := by omega
                have HX := Lib.hid (HSt.out true (HR.out))
                go_wp2
                go_roundw
                case rel => exact ⟨0 + 1, by omega, by go_num, Lib.hid HX.out.1, Lib.hid HX.out.2⟩
                case measure => simp [intOf]; omega
            | succ j =>
              have hcC0 := (HO.out.cellAt j (by omega)).trans (fil_old (bv (L (q + 1))) (.bool false) (show j < nn by omega) (by omega))
              have hcC : wr.cell? ⟨G, j, none⟩ = some (.bool (L (q + 1) j)) := hcC0
              clear hcC0
              obtain ⟨z, hz⟩ : ∃ z, L (q + 1) j = z := ⟨_, rfl⟩
              rw [hz] at hcC
              have HR : Hid (L (q + 1) (j + 1) = (x || z)) := Lib.hid (by rw [HSt42.out.2, HXx.out, hz])
              have hj0 : (0 : Int) < ((j + 1 : Nat) : Int) := by omega
              have hj1 : IntKind.i64.wrap (((j + 1 : Nat) : Int) - 1) = (j : Int) := by rw [i64_of _ (by omega)]; omega
              have hj2 : (0 : Int) < (j : Int) + 1 := by omega
              have hj3 : (j : Int) < (nn : Int) := by omega
              have hj4 : (0 : Int) ≤ (j : Int) := by omega
              clear hz
              cases x
              · have h9 := hj4
                have HX := Lib.hid (HSt.out z (by rw [HR.out]; rfl))
                go_wp2
                go_roundw
                case rel => exact ⟨j + 1 + 1, by omega, by go_num, Lib.hid HX.out.1, Lib.hid HX.out.2⟩
                case measure => simp [intOf]; omega
              · have h9 := hj4
                have HX := Lib.hid (HSt.out true (by rw [HR.out]; rfl))
                go_wp2
                go_roundw
                case rel => exact ⟨j + 1 + 1, by omega, by go_num, Lib.hid HX.out.1, Lib.hid HX.out.2⟩
                case measure => simp [intOf]; omega
          · have HO42 := Lib.hid (And.intro (HLet.out.2.1 hst) (fun k hk => HLet.out.2.2.2 k hk hst))
            have hq42 : ((a[q].toNat : Int) == 42) = false := by rw [HCc.out]; simp; omega
            clear hst
            cases k with
            | zero =>
              have HR := Lib.hid (HSk.out HO42.out.1)
              have h00 : ¬ (0 : Int) < ((0 : Nat) : Int) := by omega
              go_wp2
              go_roundw
              case rel => exact ⟨0 + 1, by omega, by go_num, HR, HBn⟩
              case measure => simp [intOf]; omega
            | succ j =>
              obtain ⟨b2, o2, e2, _, hcB⟩ := hS3.spot j _ (brow_at (L q) (show j < nn by omega))
              injection e2 with e2; injection e2 with e2 e2'; subst e2; subst e2'
              rw [Nat.zero_add] at hcB
              have hjb : j < b.size := by omega
              obtain ⟨x, hx⟩ : ∃ x, L q j = x := ⟨_, rfl⟩
              rw [hx] at hcB
              have HR := Lib.hid (HO42.out.2 j hjb)
              rw [hx] at HR
              have hj0 : (0 : Int) < ((j + 1 : Nat) : Int) := by omega
              have hj1 : IntKind.i64.wrap (((j + 1 : Nat) : Int) - 1) = (j : Int) := by rw [i64_of _ (by omega)]; omega
              have hj2 : (0 : Int) < (j : Int) + 1 := by omega
              have hj3 : (j : Int) < (nn : Int) := by omega
              have hj4 : (0 : Int) ≤ (j : Int) := by omega
              have hj5 : IntKind.i64.wrap ((j : Int) + 1 - 1) = (j : Int) := by rw [i64_of _ (by omega)]; omega
              have hj6 : IntKind.i64.wrap (j : Int) = (j : Int) := i64_of _ (by omega)
              have hj7 : (0 : Int) ≤ (j : Int) + 1 := by omega
              have hj8 : (j : Int) + 1 < (nn : Int) := by omega
              have hj9 : ((j : Int) + 1).toNat = j + 1 := by omega
              clear hx
              cases x
              · have h9 := hj4
                have HX := Lib.hid (HSt.out false (by rw [HR.out]; rfl))
                go_wp2
                refine wp_region_still_tail 24 (by kernel_rfl) (by kernel_rfl) (WS.out ?_)
                simp only [List.take_succ_cons, List.take_zero, List.drop_succ_cons, List.drop_zero]
                repeat (refine ws_step ?_; intro K hK; go_simp; refine hK _ ?_; clear hK K)
                refine ws_nil ?_
                go_wp2
                go_roundw
                case rel => exact ⟨j + 1 + 1, by omega, by go_num, Lib.hid HX.out.1.drew, Lib.hid (HX.out.2.trans (Below.refl _ _).drew)⟩
                case measure => simp [intOf]; omega
              · by_cases h63 : c = 63
                · have hq63 : ((a[q].toNat : Int) == 63) = true := by rw [HCc.out, h63]; rfl
                  have hR2 : L (q + 1) (j + 1) = true := by rw [HR.out, decide_eq_true h63]; rfl
                  have HX := Lib.hid (HSt.out true (hR2))
                  go_wp2
                  refine wp_region_still_tail 24 (by kernel_rfl) (by kernel_rfl) (WS.out ?_)
                  simp only [List.take_succ_cons, List.take_zero, List.drop_succ_cons, List.drop_zero]
                  repeat (refine ws_step ?_; intro K hK; go_simp; refine hK _ ?_; clear hK K)
                  refine ws_nil ?_
                  go_wp2
                  go_roundw
                  case rel => exact ⟨j + 1 + 1, by omega, by go_num, Lib.hid HX.out.1.drew, Lib.hid (HX.out.2.trans (Below.refl _ _).drew)⟩
                  case measure => simp [intOf]; omega
                · have hq63 : ((a[q].toNat : Int) == 63) = false := by rw [HCc.out]; simp; omega
                  by_cases he : c = b[j].toNat
                  · have hne : ((a[q].toNat : Int) == (b[j].toNat : Int)) = true := eq_yes (by rw [HCc.out, he])
                    have hR2 : L (q + 1) (j + 1) = true := by rw [HR.out, decide_eq_true he]; simp
                    clear he
                    have HX := Lib.hid (HSt.out true (hR2))
                    go_wp2
                    refine wp_region_still_tail 24 (by kernel_rfl) (by kernel_rfl) (WS.out ?_)
                    simp only [List.take_succ_cons, List.take_zero, List.drop_succ_cons, List.drop_zero]
                    repeat (refine ws_step ?_; intro K hK; go_simp; refine hK _ ?_; clear hK K)
                    refine ws_nil ?_
                    go_wp2
                    go_roundw
                    case rel => exact ⟨j + 1 + 1, by omega, by go_num, Lib.hid HX.out.1.drew, Lib.hid (HX.out.2.trans (Below.refl _ _).drew)⟩
                    case measure => simp [intOf]; omega
                  · have hne : ((a[q].toNat : Int) == (b[j].toNat : Int)) = false := eq_not (by rw [HCc.out]; exact he)
                    have hR2 : L (q + 1) (j + 1) = false := by rw [HR.out, decide_eq_false he, decide_eq_false h63]; rfl
                    clear he
                    have HX := Lib.hid (HSt.out false (hR2))
                    go_wp2
                    refine wp_region_still_tail 24 (by kernel_rfl) (by kernel_rfl) (WS.out ?_)
                    simp only [List.take_succ_cons, List.take_zero, List.drop_succ_cons, List.drop_zero]
                    repeat (refine ws_step ?_; intro K hK; go_simp; refine hK _ ?_; clear hK K)
                    refine ws_nil ?_
                    go_wp2
                    go_roundw
                    case rel => exact ⟨j + 1 + 1, by omega, by go_num, Lib.hid HX.out.1.drew, Lib.hid (HX.out.2.trans (Below.refl _ _).drew)⟩
                    case measure => simp [intOf]; omega
        · have e : k = nn := by omega
          subst e
          have hle : ¬ k ≤ b.size := by have := HNN.out; omega
          have HSn : Hid (Sl wr.heap.size wr (some ⟨G, 0, none⟩) k k (brow (L (q + 1)) k)) := Lib.hid (by have := HO.out; rw [fil_all] at this; exact Sl.of_own this)
          have HBw4 : Hid (Below w.heap.size w wr) := Lib.hid (HBo.out.trans (HBn.out.mono (by have := HBo.out.size; have := HG.out; omega)))
          clear HO HBn
          go_wp2
          go_roundw
          case rel => exact ⟨q + 1, _, by omega, rfl, by go_num, HSn, HBw4⟩
          case measure => simp [intOf]; omega
    · obtain rfl : q = a.size := by omega
      have hnb : b.size < nn := by have := HNN.out; omega
      obtain ⟨b1, o1, e1, _, hcA⟩ := HS.out.spot b.size _ (brow_at (L a.size) hnb)
      injection e1 with e1; injection e1 with e1 e1'; subst e1; subst e1'
      have hi0 : (0 : Int) ≤ (b.size : Int) := by omega
      have hi1 : (b.size : Int) < (nn : Int) := by omega
      rw [Nat.zero_add, HV.out] at hcA
      go_wp2
      go_ret
      exact ⟨rfl, HBw.out⟩

end Go.Proofs.Ytpneflbnipefaab
