/-
  Whether a pattern fits a word: the program's rows.
-/
import Derived.Test.YtpneflbnipefaabBits
namespace Go.Proofs.Ytpneflbnipefaab
open Go.RowKit
set_option linter.unusedVariables false

set_option maxRecDepth 1000000 in
set_option maxHeartbeats 8000000 in
theorem fits_any (a b : ByteArray) (w : World) (ha : a.size ≤ 14) (hb : b.size ≤ 12) (hla : ∀ k (h : k < a.size), (a[k]'h).toNat < 128) (hlb : ∀ k (h : k < b.size), (b[k]'h).toNat < 128 ∧ (b[k]'h).toNat ≠ 63) :
    Calls Try.prog 51 #[.string a, .string b] w fun e w' => e = .returned (.bool (fit a.data.toList b.data.toList a.size b.size)) ∧ Below w.heap.size w w' := by
  have HLa := Lib.hid hla
  have HLb := Lib.hid hlb
  obtain ⟨i0, hii, hz0, hz1, hz2⟩ := info_parts infoBl
  obtain ⟨nn, hnn⟩ : ∃ nn, b.size + 1 = nn := ⟨_, rfl⟩
  have HNN := Lib.hid hnn
  have hsn : ((b.size : Nat) : Int) + 1 = (nn : Int) := by omega
  have HSN := Lib.hid hsn
  have hn13 : nn ≤ 13 := by omega
  have hn0 : 0 < nn := by omega
  have hC := fit_is a b
  obtain ⟨L, hL⟩ : ∃ L, fit a.data.toList b.data.toList = L := ⟨_, rfl⟩
  rw [hL] at hC ⊢
  have HC := Lib.hid hC
  obtain ⟨v, hv⟩ : ∃ v, L a.size b.size = v := ⟨_, rfl⟩
  have HV := Lib.hid hv
  rw [hv]
  clear hnn hL hC hv hsn hla hlb
  go_enter Try.func51, Try.ntmps51
  go_wp2_with (first
    | (at_make; refine wpList_make_full _ rfl _ _ 89 rfl w.heap.size 4 i0 (.bool false) 1 Try.underlying89 hii hz0 hz1 .i64 .i64 _ _ nn rfl rfl HSN.out HSN.out (by rw [hz2]; omega) (by unfold maxLen; omega) (Nat.le_refl _) ?_; intro w1 hown hgrow; have hown1 := made_rep rfl hown; have HO1 := Lib.hid hown1; have HB1 : Hid (Below w.heap.size w w1) := Lib.hid ((Below.refl _ _).grown hgrow (Nat.le_refl _) (fun k e => by cases e)); have hfz := hown1.frozenAt 0; have hcz := (hown1.cellAt 0 (by omega)).trans ((congrArg (·[0]?) (fil_zero (bv (L 0)) (.bool false) nn)).trans (fil_new _ _ (by omega) (Nat.le_refl _))); clear hown hown1 hgrow))
  have HST0 := Lib.hid (HO1.out.stored 0 (.bool true))
  have HS1 : Hid (Sl (w1.setCell ⟨w.heap.size, 0, none⟩ (.bool true)).heap.size (w1.setCell ⟨w.heap.size, 0, none⟩ (.bool true)) (some ⟨w.heap.size, 0, none⟩) nn nn (brow (L 0) nn)) := Lib.hid (by
    have := Sl.of_own HST0.out.1
    rwa [first_brow HC.out.o] at this)
  have HB2 : Hid (Below w.heap.size w (w1.setCell ⟨w.heap.size, 0, none⟩ (.bool true))) := Lib.hid (HB1.out.grown HST0.out.2 (by have := HB1.out.size; omega) (fun k e => by injection e with e; omega))
  have hsz2 : (w1.setCell ⟨w.heap.size, 0, none⟩ (.bool true)).heap.size = w1.heap.size := by simp
  have HSz2 := Lib.hid hsz2
  clear hfz hcz HST0 HO1 HB1 hsz2
  obtain ⟨W2, hW2⟩ : ∃ W2, w1.setCell ⟨w.heap.size, 0, none⟩ (.bool true) = W2 := ⟨_, rfl⟩
  rw [hW2] at HS1 HB2 HSz2 ⊢
  clear hW2
  obtain ⟨g0, hg0⟩ : ∃ g0, w.heap.size = g0 := ⟨_, rfl⟩
  rw [hg0] at HS1 ⊢
  have HG0 := Lib.hid hg0
  clear hg0
  obtain ⟨I1, hI1⟩ : ∃ I1, w1.heap.size = I1 := ⟨_, rfl⟩
  have HI1 : Hid (W2.heap.size = I1) := Lib.hid (by rw [HSz2.out, hI1])
  rw [hI1]
  clear hI1 HSz2
  go_loopw [5, 7] (fun r l wr => ∃ (q g : Nat), q ≤ a.size ∧ r = .slice (some ⟨g, 0, none⟩) nn nn ∧ (∃ v : Value, l = v) ∧ Hid (Sl wr.heap.size wr (some ⟨g, 0, none⟩) nn nn (brow (L q) nn)) ∧ Hid (wr.heap[I1]? = some (.stringIter a q)) ∧ Hid (Below w.heap.size w wr)) (fun _ _ wr => a.size - wr.iterPos I1)
  case atStart => exact ⟨0, g0, Nat.zero_le _, rfl, ⟨_, rfl⟩, Lib.hid ((HS1.out.keep (B := W2.heap.size) ((Below.refl _ _).alloc (Nat.le_refl _) _)).mono (by show W2.heap.size ≤ (W2.alloc _).heap.size; simp)), Lib.hid (by have := World.iter_heap W2 a 0; rwa [HI1.out] at this), Lib.hid (HB2.out.alloc HB2.out.size _)⟩
  case round =>
    clear HS1
    obtain ⟨q, g, hq, rfl, ⟨v1, rfl⟩, HS, HIt, HBw⟩ := hrel
    have hpos0 : wr.iterPos I1 = q := by simp [World.iterPos, HIt.out]
    have HP0 := Lib.hid hpos0
    clear hpos0
    have hwI : w.heap.size ≤ I1 := by have := HI1.out; have := HB2.out.size; omega
    by_cases hqa : q < a.size
    · have hnx := fun ty => Lib.run_next_ascii_at (P := Try.prog) wr I1 a q ty HIt.out hqa (HLa.out q hqa)
      obtain ⟨W1, hW1⟩ : ∃ W1, wr.iterAt I1 a (q + 1) = W1 := ⟨_, rfl⟩
      have HIt1 : Hid (W1.heap[I1]? = some (.stringIter a (q + 1))) := Lib.hid (by rw [← hW1]; exact Lib.iterAt_heap wr _ a q (q + 1) HIt.out)
      have HBo : Hid (Below w.heap.size w W1) := Lib.hid (by rw [← hW1]; exact Lib.below_iterAt HBw.out hwI a (q + 1))
      have HS1 : Hid (Sl W1.heap.size W1 (some ⟨g, 0, none⟩) nn nn (brow (L q) nn)) := Lib.hid (by rw [← hW1]; exact (HS.out.iterAt HIt.out (q + 1)).mono (by rw [Lib.iterAt_size]; exact Nat.le_refl _))
      simp only [hW1] at hnx
      clear hW1
      have hsz := (Array.getElem?_eq_some_iff.1 HIt1.out).1
      have HLet := Lib.hid (And.intro (HC.out.sz q hqa) (And.intro (HC.out.oz q hqa) (And.intro (fun k => HC.out.ss q k hqa) (fun k (hk : k < b.size) => HC.out.os q k hqa hk))))
      obtain ⟨c, hc⟩ : ∃ c, a[q].toNat = c := ⟨_, rfl⟩
      rw [hc] at HLet
      simp only [hc] at hnx
      clear hc HS HIt
      obtain ⟨x9, hx9⟩ : ∃ x9, L q 0 = x9 := ⟨_, rfl⟩
      have HX9 := Lib.hid hx9
      obtain ⟨b1, o1, e1, _, hcA0⟩ := HS1.out.spot 0 _ (brow_at (L q) hn0)
      injection e1 with e1; injection e1 with e1 e1'; subst e1; subst e1'
      rw [Nat.zero_add, hx9] at hcA0
      clear hx9
      have hcmp : ((c : Int) == 42) = decide (c = 42) := by
        by_cases h : c = 42
        · subst h; rfl
        · rw [decide_eq_false h]; simp; omega
      obtain ⟨st, hst⟩ : ∃ st, decide (c = 42) = st := ⟨_, rfl⟩
      have HST := Lib.hid hst
      rw [hst] at hcmp
      clear hst
      have HG1 : Hid (L (q + 1) 0 = (x9 && st)) := Lib.hid (by
        cases st with
        | true => rw [HLet.out.1 (of_decide_eq_true HST.out), HX9.out, Bool.and_true]
        | false => rw [HLet.out.2.1 (of_decide_eq_false HST.out), Bool.and_false])
      obtain ⟨y9, hy9⟩ : ∃ y9, L (q + 1) 0 = y9 := ⟨_, rfl⟩
      have HY9 := Lib.hid hy9
      rw [hy9] at HG1
      clear hy9
      cases x9
      · obtain rfl : y9 = false := by have := HG1.out; simpa using this
        go_wp2_with (first
          | (at_make; refine wpList_make_full _ rfl _ _ 89 rfl W1.heap.size 4 i0 (.bool false) 1 Try.underlying89 hii hz0 hz1 .i64 .i64 _ _ nn rfl rfl rfl rfl (by rw [hz2]; omega) (by unfold maxLen; omega) (Nat.le_refl _) ?_; intro w2 hown hgrow; have hown1 := made_rep rfl hown; have HO2 := Lib.hid hown1; have HBm : Hid (Below W1.heap.size W1 w2) := Lib.hid ((Below.refl _ _).grown hgrow (Nat.le_refl _) (fun k e => by cases e)); have hfz := hown1.frozenAt 0; have hcz := (hown1.cellAt 0 (by omega)).trans ((congrArg (·[0]?) (fil_zero (bv (L (q + 1))) (.bool false) nn)).trans (fil_new _ _ (by omega) (Nat.le_refl _))); have hcA := (HBm.out.cell (p := ⟨g, 0, none⟩) (World.block_lt_of_cell? _ _ hcA0)).trans hcA0; clear hown hown1 hgrow))
        have hgl : g < W1.heap.size := World.block_lt_of_cell? _ _ hcA0
        have HST2 := Lib.hid (HO2.out.stored 0 (.bool false))
        have HO3 : Hid ((w2.setCell ⟨W1.heap.size, 0, none⟩ (.bool false)).ownsRow W1.heap.size 4 1 (.slice (some ⟨W1.heap.size, 0, none⟩) nn nn) nn (fil (bv (L (q + 1))) (.bool false) 1 nn)) := Lib.hid (by
          have h2 := HST2.out.1
          have h3 : bv (L (q + 1)) 0 = .bool false := by show Value.bool (L (q + 1) 0) = _; rw [HY9.out]
          rw [fil_zero (bv (L (q + 1))), ← h3, fil_set] at h2
          rw [← h3]
          exact h2)
        have HBm3 : Hid (Below W1.heap.size W1 (w2.setCell ⟨W1.heap.size, 0, none⟩ (.bool false))) := Lib.hid (HBm.out.grown HST2.out.2 (by have := HBm.out.size; omega) (fun q e => by injection e with e; omega))
        have hsz3 : (w2.setCell ⟨W1.heap.size, 0, none⟩ (.bool false)).heap.size = w2.heap.size := by simp
        have HSz3 := Lib.hid hsz3
        have hg2 : W1.heap.size < w2.heap.size := own_lt HO2.out
        clear HO2 HBm HST2 hfz hcz hcA hcA0 hsz3
        obtain ⟨W3, hW3⟩ : ∃ W3, w2.setCell ⟨W1.heap.size, 0, none⟩ (.bool false) = W3 := ⟨_, rfl⟩
        rw [hW3] at HO3 HBm3 HSz3 ⊢
        clear hW3
        obtain ⟨G, hG⟩ : ∃ G, W1.heap.size = G := ⟨_, rfl⟩
        have HG := Lib.hid hG
        rw [hG] at HO3 HBm3 hsz hgl hg2 ⊢
        clear hG
        obtain ⟨I2, hI2⟩ : ∃ I2, w2.heap.size = I2 := ⟨_, rfl⟩
        have HI2 : Hid (W3.heap.size = I2) := Lib.hid (by rw [HSz3.out, hI2])
        rw [hI2] at hg2 ⊢
        clear hI2 HSz3
        have hgG : g ≠ G := by omega
        go_loopw [9, 10] (fun i1 i2 wr => ∃ k : Nat, k ≤ b.size ∧ (∃ v : Value, i1 = v) ∧ (∃ v : Value, i2 = v) ∧ Hid (wr.ownsRow G 4 1 (.slice (some ⟨G, 0, none⟩) nn nn) nn (fil (bv (L (q + 1))) (.bool false) (k + 1) nn)) ∧ Hid (wr.heap[I2]? = some (.stringIter b k)) ∧ Hid (Below G W1 wr)) (fun _ _ wr => b.size - wr.iterPos I2)
        case atStart => exact ⟨0, Nat.zero_le _, ⟨_, rfl⟩, ⟨_, rfl⟩, Lib.hid (HO3.out.alloc _), Lib.hid (by have := World.iter_heap W3 b 0; rwa [HI2.out] at this), Lib.hid (HBm3.out.alloc (by have := HBm3.out.size; have := HG.out; omega) _)⟩
        case round =>
          clear HO3 HBm3
          obtain ⟨k, hk, ⟨v2, rfl⟩, ⟨v3, rfl⟩, HO, HJt, HBn⟩ := hrel
          have hpos1 : wr.iterPos I2 = k := by simp [World.iterPos, HJt.out]
          have HP1 := Lib.hid hpos1
          clear hpos1
          by_cases hkb : k < b.size
          · have hny := fun ty => Lib.run_next_ascii_at (P := Try.prog) wr I2 b k ty HJt.out hkb (HLb.out k hkb).1
            have hp63 := (HLb.out k hkb).2
            obtain ⟨W4, hW4⟩ : ∃ W4, wr.iterAt I2 b (k + 1) = W4 := ⟨_, rfl⟩
            have HJ4 : Hid (W4.heap[I2]? = some (.stringIter b (k + 1))) := Lib.hid (by rw [← hW4]; exact Lib.iterAt_heap wr _ b k (k + 1) HJt.out)
            have HB4 : Hid (Below G W1 W4) := Lib.hid (by rw [← hW4]; exact Lib.below_iterAt HBn.out (by omega) b (k + 1))
            have HO4 : Hid (W4.ownsRow G 4 1 (.slice (some ⟨G, 0, none⟩) nn nn) nn (fil (bv (L (q + 1))) (.bool false) (k + 1) nn)) := Lib.hid (by rw [← hW4]; exact own_iterAt HO.out HJt.out)
            simp only [hW4] at hny
            clear hW4
            have hS := HS1.out
            rw [HG.out] at hS
            have hS3 := hS.keep HB4.out
            obtain ⟨b1, o1, e1, _, hcA⟩ := hS3.spot k _ (brow_at (L q) (show k < nn by have := HNN.out; omega))
            obtain ⟨b2, o2, e2, _, hcB⟩ := hS3.spot (k + 1) _ (brow_at (L q) (show k + 1 < nn by have := HNN.out; omega))
            injection e1 with e1; injection e1 with e1 e1'; subst e1; subst e1'
            injection e2 with e2; injection e2 with e2 e2'; subst e2; subst e2'
            rw [Nat.zero_add] at hcA hcB
            have hcC0 := (HO4.out.cellAt k (by have := HNN.out; omega)).trans (fil_old (bv (L (q + 1))) (.bool false) (show k < nn by have := HNN.out; omega) (by omega))
            have hcC : W4.cell? ⟨G, k, none⟩ = some (.bool (L (q + 1) k)) := hcC0
            have hcD := (HO4.out.cellAt (k + 1) (by have := HNN.out; omega)).trans (fil_new (bv (L (q + 1))) (.bool false) (show k + 1 < nn by have := HNN.out; omega) (Nat.le_refl _))
            have hfz := HO4.out.frozenAt (k + 1)
            clear hcC0 hS hS3
            have HSt : Hid (∀ x : Bool, L (q + 1) (k + 1) = x → (W4.setCell ⟨G, k + 1, none⟩ (.bool x)).ownsRow G 4 1 (.slice (some ⟨G, 0, none⟩) nn nn) nn (fil (bv (L (q + 1))) (.bool false) (k + 1 + 1) nn) ∧ (W4.setCell ⟨G, k + 1, none⟩ (.bool x)).heap[I2]? = some (.stringIter b (k + 1)) ∧ Below G W1 (W4.setCell ⟨G, k + 1, none⟩ (.bool x))) := Lib.hid (fun x hx => by
              have h1 := HO4.out.stored (k + 1) (.bool x)
              refine ⟨?_, (h1.2.block I2 (Array.getElem?_eq_some_iff.1 HJ4.out).1 (fun e => by injection e with e; omega)).trans HJ4.out, HB4.out.grown h1.2 (by have := HB4.out.size; have := HG.out; omega) (fun q e => by injection e with e; omega)⟩
              have h2 := h1.1
              have h3 : bv (L (q + 1)) (k + 1) = .bool x := by show Value.bool (L (q + 1) (k + 1)) = _; rw [hx]
              rw [← h3, fil_set] at h2
              rw [← h3]
              exact h2)
            have hk1 : IntKind.i64.wrap ((k : Int) + 1) = (k : Int) + 1 := i64_of _ (by omega)
            have hk2 : (0 : Int) ≤ (k : Int) + 1 := by omega
            have hk3 : (k : Int) + 1 < (nn : Int) := by have := HNN.out; omega
            have hk4 : ((k : Int) + 1).toNat = k + 1 := by omega
            have hk5 : (0 : Int) ≤ (k : Int) := by omega
            have hk6 : (k : Int) < (nn : Int) := by have := HNN.out; omega
            obtain ⟨p, hp⟩ : ∃ p, b[k].toNat = p := ⟨_, rfl⟩
            have HPp := Lib.hid hp
            simp only [hp] at hny
            rw [hp] at hp63
            clear hp
            by_cases h42 : c = 42
            · have t1 : ((c : Int) == 42) = true := by rw [h42]; rfl
              obtain ⟨x1, hx1⟩ : ∃ x1, L q (k + 1) = x1 := ⟨_, rfl⟩
              obtain ⟨z1, hz1'⟩ : ∃ z1, L (q + 1) k = z1 := ⟨_, rfl⟩
              have HR : Hid (L (q + 1) (k + 1) = (x1 || z1)) := Lib.hid (by rw [HLet.out.2.2.1 k h42, hx1, hz1'])
              rw [hx1] at hcB
              rw [hz1'] at hcC
              clear hx1 hz1' h42 hcmp
              cases x1
              · have HX := Lib.hid (HSt.out z1 (by rw [HR.out]; rfl))
                go_wp2
                go_roundw
                case rel => exact ⟨k + 1, by omega, ⟨_, rfl⟩, ⟨_, rfl⟩, Lib.hid HX.out.1, Lib.hid HX.out.2.1, Lib.hid HX.out.2.2⟩
                case measure =>
                  have e9 := HX.out.2.1
                  rw [HP1.out]
                  refine Nat.lt_of_le_of_lt (m := b.size - (k + 1)) (Nat.le_of_eq ?_) (by omega)
                  simp [World.iterPos, e9]
              · have HX := Lib.hid (HSt.out true (by rw [HR.out]; rfl))
                go_wp2
                go_roundw
                case rel => exact ⟨k + 1, by omega, ⟨_, rfl⟩, ⟨_, rfl⟩, Lib.hid HX.out.1, Lib.hid HX.out.2.1, Lib.hid HX.out.2.2⟩
                case measure =>
                  have e9 := HX.out.2.1
                  rw [HP1.out]
                  refine Nat.lt_of_le_of_lt (m := b.size - (k + 1)) (Nat.le_of_eq ?_) (by omega)
                  simp [World.iterPos, e9]
            · have t1 : ((c : Int) == 42) = false := by simp; omega
              obtain ⟨x1, hx1⟩ : ∃ x1, L q k = x1 := ⟨_, rfl⟩
              have HR0 := HLet.out.2.2.2 k hkb h42
              rw [HPp.out, hx1] at HR0
              have HR := Lib.hid HR0
              rw [hx1] at hcA
              clear hx1 h42 hcmp HR0
              by_cases h63 : c = 63
              · have t2 : ((c : Int) == 63) = true := by rw [h63]; rfl
                have HX := Lib.hid (HSt.out x1 (by rw [HR.out, decide_eq_true h63]; simp))
                clear h63
                go_wp2
                go_roundw
                case rel => exact ⟨k + 1, by omega, ⟨_, rfl⟩, ⟨_, rfl⟩, Lib.hid HX.out.1, Lib.hid HX.out.2.1, Lib.hid HX.out.2.2⟩
                case measure =>
                  have e9 := HX.out.2.1
                  rw [HP1.out]
                  refine Nat.lt_of_le_of_lt (m := b.size - (k + 1)) (Nat.le_of_eq ?_) (by omega)
                  simp [World.iterPos, e9]
              · have t2 : ((c : Int) == 63) = false := by simp; omega
                by_cases he : c = p
                · have t3 := eq_yes he
                  have HX := Lib.hid (HSt.out x1 (by rw [HR.out, decide_eq_true he]; simp))
                  clear h63 he
                  go_wp2
                  go_roundw
                  case rel => exact ⟨k + 1, by omega, ⟨_, rfl⟩, ⟨_, rfl⟩, Lib.hid HX.out.1, Lib.hid HX.out.2.1, Lib.hid HX.out.2.2⟩
                  case measure =>
                    have e9 := HX.out.2.1
                    rw [HP1.out]
                    refine Nat.lt_of_le_of_lt (m := b.size - (k + 1)) (Nat.le_of_eq ?_) (by omega)
                    simp [World.iterPos, e9]
                · have t3 := eq_not he
                  have HK : Hid (W4.ownsRow G 4 1 (.slice (some ⟨G, 0, none⟩) nn nn) nn (fil (bv (L (q + 1))) (.bool false) (k + 1 + 1) nn)) := Lib.hid (by
                    rw [← fil_skip (f := bv (L (q + 1))) (j := k + 1) (by show Value.bool (L (q + 1) (k + 1)) = _; rw [HR.out, decide_eq_false h63, decide_eq_false he]; simp)]
                    exact HO4.out)
                  clear h63 he
                  go_wp2
                  go_roundw
                  case rel => exact ⟨k + 1, by omega, ⟨_, rfl⟩, ⟨_, rfl⟩, HK, HJ4, HB4⟩
                  case measure =>
                    have e9 := HJ4.out
                    rw [HP1.out]
                    refine Nat.lt_of_le_of_lt (m := b.size - (k + 1)) (Nat.le_of_eq ?_) (by omega)
                    simp [World.iterPos, e9]
          · have hny := fun ty => Lib.run_next_end_at (P := Try.prog) wr I2 b k ty HJt.out hkb
            have e : k + 1 = nn := by have := HNN.out; omega
            have HSn : Hid (Sl wr.heap.size wr (some ⟨G, 0, none⟩) nn nn (brow (L (q + 1)) nn)) := Lib.hid (by have := HO.out; rw [e, fil_all] at this; exact Sl.of_own this)
            have HIt4 : Hid (wr.heap[I1]? = some (.stringIter a (q + 1))) := Lib.hid ((HBn.out.block I1 hsz).trans HIt1.out)
            have HBw4 : Hid (Below w.heap.size w wr) := Lib.hid (HBo.out.trans (HBn.out.mono (by have := HBo.out.size; have := HG.out; omega)))
            clear e HO HJt HBn
            go_wp2
            go_roundw
            case rel => exact ⟨q + 1, _, by omega, rfl, ⟨_, rfl⟩, HSn, HIt4, HBw4⟩
            case measure =>
              have e1 : wr.iterPos I1 = q + 1 := by simp [World.iterPos, HIt4.out]
              rw [HP0.out, e1]
              omega
      · obtain rfl : st = y9 := by have := HG1.out; simpa using this.symm
        go_wp2_with (first
          | (at_make; refine wpList_make_full _ rfl _ _ 89 rfl W1.heap.size 4 i0 (.bool false) 1 Try.underlying89 hii hz0 hz1 .i64 .i64 _ _ nn rfl rfl rfl rfl (by rw [hz2]; omega) (by unfold maxLen; omega) (Nat.le_refl _) ?_; intro w2 hown hgrow; have hown1 := made_rep rfl hown; have HO2 := Lib.hid hown1; have HBm : Hid (Below W1.heap.size W1 w2) := Lib.hid ((Below.refl _ _).grown hgrow (Nat.le_refl _) (fun k e => by cases e)); have hfz := hown1.frozenAt 0; have hcz := (hown1.cellAt 0 (by omega)).trans ((congrArg (·[0]?) (fil_zero (bv (L (q + 1))) (.bool false) nn)).trans (fil_new _ _ (by omega) (Nat.le_refl _))); have hcA := (HBm.out.cell (p := ⟨g, 0, none⟩) (World.block_lt_of_cell? _ _ hcA0)).trans hcA0; clear hown hown1 hgrow))
        have hgl : g < W1.heap.size := World.block_lt_of_cell? _ _ hcA0
        have HST2 := Lib.hid (HO2.out.stored 0 (.bool st))
        have HO3 : Hid ((w2.setCell ⟨W1.heap.size, 0, none⟩ (.bool st)).ownsRow W1.heap.size 4 1 (.slice (some ⟨W1.heap.size, 0, none⟩) nn nn) nn (fil (bv (L (q + 1))) (.bool false) 1 nn)) := Lib.hid (by
          have h2 := HST2.out.1
          have h3 : bv (L (q + 1)) 0 = .bool st := by show Value.bool (L (q + 1) 0) = _; rw [HY9.out]
          rw [fil_zero (bv (L (q + 1))), ← h3, fil_set] at h2
          rw [← h3]
          exact h2)
        have HBm3 : Hid (Below W1.heap.size W1 (w2.setCell ⟨W1.heap.size, 0, none⟩ (.bool st))) := Lib.hid (HBm.out.grown HST2.out.2 (by have := HBm.out.size; omega) (fun q e => by injection e with e; omega))
        have hsz3 : (w2.setCell ⟨W1.heap.size, 0, none⟩ (.bool st)).heap.size = w2.heap.size := by simp
        have HSz3 := Lib.hid hsz3
        have hg2 : W1.heap.size < w2.heap.size := own_lt HO2.out
        clear HO2 HBm HST2 hfz hcz hcA hcA0 hsz3
        obtain ⟨W3, hW3⟩ : ∃ W3, w2.setCell ⟨W1.heap.size, 0, none⟩ (.bool st) = W3 := ⟨_, rfl⟩
        rw [hW3] at HO3 HBm3 HSz3 ⊢
        clear hW3
        obtain ⟨G, hG⟩ : ∃ G, W1.heap.size = G := ⟨_, rfl⟩
        have HG := Lib.hid hG
        rw [hG] at HO3 HBm3 hsz hgl hg2 ⊢
        clear hG
        obtain ⟨I2, hI2⟩ : ∃ I2, w2.heap.size = I2 := ⟨_, rfl⟩
        have HI2 : Hid (W3.heap.size = I2) := Lib.hid (by rw [HSz3.out, hI2])
        rw [hI2] at hg2 ⊢
        clear hI2 HSz3
        have hgG : g ≠ G := by omega
        go_loopw [9, 10] (fun i1 i2 wr => ∃ k : Nat, k ≤ b.size ∧ (∃ v : Value, i1 = v) ∧ (∃ v : Value, i2 = v) ∧ Hid (wr.ownsRow G 4 1 (.slice (some ⟨G, 0, none⟩) nn nn) nn (fil (bv (L (q + 1))) (.bool false) (k + 1) nn)) ∧ Hid (wr.heap[I2]? = some (.stringIter b k)) ∧ Hid (Below G W1 wr)) (fun _ _ wr => b.size - wr.iterPos I2)
        case atStart => exact ⟨0, Nat.zero_le _, ⟨_, rfl⟩, ⟨_, rfl⟩, Lib.hid (HO3.out.alloc _), Lib.hid (by have := World.iter_heap W3 b 0; rwa [HI2.out] at this), Lib.hid (HBm3.out.alloc (by have := HBm3.out.size; have := HG.out; omega) _)⟩
        case round =>
          clear HO3 HBm3
          obtain ⟨k, hk, ⟨v2, rfl⟩, ⟨v3, rfl⟩, HO, HJt, HBn⟩ := hrel
          have hpos1 : wr.iterPos I2 = k := by simp [World.iterPos, HJt.out]
          have HP1 := Lib.hid hpos1
          clear hpos1
          by_cases hkb : k < b.size
          · have hny := fun ty => Lib.run_next_ascii_at (P := Try.prog) wr I2 b k ty HJt.out hkb (HLb.out k hkb).1
            have hp63 := (HLb.out k hkb).2
            obtain ⟨W4, hW4⟩ : ∃ W4, wr.iterAt I2 b (k + 1) = W4 := ⟨_, rfl⟩
            have HJ4 : Hid (W4.heap[I2]? = some (.stringIter b (k + 1))) := Lib.hid (by rw [← hW4]; exact Lib.iterAt_heap wr _ b k (k + 1) HJt.out)
            have HB4 : Hid (Below G W1 W4) := Lib.hid (by rw [← hW4]; exact Lib.below_iterAt HBn.out (by omega) b (k + 1))
            have HO4 : Hid (W4.ownsRow G 4 1 (.slice (some ⟨G, 0, none⟩) nn nn) nn (fil (bv (L (q + 1))) (.bool false) (k + 1) nn)) := Lib.hid (by rw [← hW4]; exact own_iterAt HO.out HJt.out)
            simp only [hW4] at hny
            clear hW4
            have hS := HS1.out
            rw [HG.out] at hS
            have hS3 := hS.keep HB4.out
            obtain ⟨b1, o1, e1, _, hcA⟩ := hS3.spot k _ (brow_at (L q) (show k < nn by have := HNN.out; omega))
            obtain ⟨b2, o2, e2, _, hcB⟩ := hS3.spot (k + 1) _ (brow_at (L q) (show k + 1 < nn by have := HNN.out; omega))
            injection e1 with e1; injection e1 with e1 e1'; subst e1; subst e1'
            injection e2 with e2; injection e2 with e2 e2'; subst e2; subst e2'
            rw [Nat.zero_add] at hcA hcB
            have hcC0 := (HO4.out.cellAt k (by have := HNN.out; omega)).trans (fil_old (bv (L (q + 1))) (.bool false) (show k < nn by have := HNN.out; omega) (by omega))
            have hcC : W4.cell? ⟨G, k, none⟩ = some (.bool (L (q + 1) k)) := hcC0
            have hcD := (HO4.out.cellAt (k + 1) (by have := HNN.out; omega)).trans (fil_new (bv (L (q + 1))) (.bool false) (show k + 1 < nn by have := HNN.out; omega) (Nat.le_refl _))
            have hfz := HO4.out.frozenAt (k + 1)
            clear hcC0 hS hS3
            have HSt : Hid (∀ x : Bool, L (q + 1) (k + 1) = x → (W4.setCell ⟨G, k + 1, none⟩ (.bool x)).ownsRow G 4 1 (.slice (some ⟨G, 0, none⟩) nn nn) nn (fil (bv (L (q + 1))) (.bool false) (k + 1 + 1) nn) ∧ (W4.setCell ⟨G, k + 1, none⟩ (.bool x)).heap[I2]? = some (.stringIter b (k + 1)) ∧ Below G W1 (W4.setCell ⟨G, k + 1, none⟩ (.bool x))) := Lib.hid (fun x hx => by
              have h1 := HO4.out.stored (k + 1) (.bool x)
              refine ⟨?_, (h1.2.block I2 (Array.getElem?_eq_some_iff.1 HJ4.out).1 (fun e => by injection e with e; omega)).trans HJ4.out, HB4.out.grown h1.2 (by have := HB4.out.size; have := HG.out; omega) (fun q e => by injection e with e; omega)⟩
              have h2 := h1.1
              have h3 : bv (L (q + 1)) (k + 1) = .bool x := by show Value.bool (L (q + 1) (k + 1)) = _; rw [hx]
              rw [← h3, fil_set] at h2
              rw [← h3]
              exact h2)
            have hk1 : IntKind.i64.wrap ((k : Int) + 1) = (k : Int) + 1 := i64_of _ (by omega)
            have hk2 : (0 : Int) ≤ (k : Int) + 1 := by omega
            have hk3 : (k : Int) + 1 < (nn : Int) := by have := HNN.out; omega
            have hk4 : ((k : Int) + 1).toNat = k + 1 := by omega
            have hk5 : (0 : Int) ≤ (k : Int) := by omega
            have hk6 : (k : Int) < (nn : Int) := by have := HNN.out; omega
            obtain ⟨p, hp⟩ : ∃ p, b[k].toNat = p := ⟨_, rfl⟩
            have HPp := Lib.hid hp
            simp only [hp] at hny
            rw [hp] at hp63
            clear hp
            by_cases h42 : c = 42
            · have t1 : ((c : Int) == 42) = true := by rw [h42]; rfl
              obtain ⟨x1, hx1⟩ : ∃ x1, L q (k + 1) = x1 := ⟨_, rfl⟩
              obtain ⟨z1, hz1'⟩ : ∃ z1, L (q + 1) k = z1 := ⟨_, rfl⟩
              have HR : Hid (L (q + 1) (k + 1) = (x1 || z1)) := Lib.hid (by rw [HLet.out.2.2.1 k h42, hx1, hz1'])
              rw [hx1] at hcB
              rw [hz1'] at hcC
              clear hx1 hz1' h42 hcmp
              cases x1
              · have HX := Lib.hid (HSt.out z1 (by rw [HR.out]; rfl))
                go_wp2
                go_roundw
                case rel => exact ⟨k + 1, by omega, ⟨_, rfl⟩, ⟨_, rfl⟩, Lib.hid HX.out.1, Lib.hid HX.out.2.1, Lib.hid HX.out.2.2⟩
                case measure =>
                  have e9 := HX.out.2.1
                  rw [HP1.out]
                  refine Nat.lt_of_le_of_lt (m := b.size - (k + 1)) (Nat.le_of_eq ?_) (by omega)
                  simp [World.iterPos, e9]
              · have HX := Lib.hid (HSt.out true (by rw [HR.out]; rfl))
                go_wp2
                go_roundw
                case rel => exact ⟨k + 1, by omega, ⟨_, rfl⟩, ⟨_, rfl⟩, Lib.hid HX.out.1, Lib.hid HX.out.2.1, Lib.hid HX.out.2.2⟩
                case measure =>
                  have e9 := HX.out.2.1
                  rw [HP1.out]
                  refine Nat.lt_of_le_of_lt (m := b.size - (k + 1)) (Nat.le_of_eq ?_) (by omega)
                  simp [World.iterPos, e9]
            · have t1 : ((c : Int) == 42) = false := by simp; omega
              obtain ⟨x1, hx1⟩ : ∃ x1, L q k = x1 := ⟨_, rfl⟩
              have HR0 := HLet.out.2.2.2 k hkb h42
              rw [HPp.out, hx1] at HR0
              have HR := Lib.hid HR0
              rw [hx1] at hcA
              clear hx1 h42 hcmp HR0
              by_cases h63 : c = 63
              · have t2 : ((c : Int) == 63) = true := by rw [h63]; rfl
                have HX := Lib.hid (HSt.out x1 (by rw [HR.out, decide_eq_true h63]; simp))
                clear h63
                go_wp2
                go_roundw
                case rel => exact ⟨k + 1, by omega, ⟨_, rfl⟩, ⟨_, rfl⟩, Lib.hid HX.out.1, Lib.hid HX.out.2.1, Lib.hid HX.out.2.2⟩
                case measure =>
                  have e9 := HX.out.2.1
                  rw [HP1.out]
                  refine Nat.lt_of_le_of_lt (m := b.size - (k + 1)) (Nat.le_of_eq ?_) (by omega)
                  simp [World.iterPos, e9]
              · have t2 : ((c : Int) == 63) = false := by simp; omega
                by_cases he : c = p
                · have t3 := eq_yes he
                  have HX := Lib.hid (HSt.out x1 (by rw [HR.out, decide_eq_true he]; simp))
                  clear h63 he
                  go_wp2
                  go_roundw
                  case rel => exact ⟨k + 1, by omega, ⟨_, rfl⟩, ⟨_, rfl⟩, Lib.hid HX.out.1, Lib.hid HX.out.2.1, Lib.hid HX.out.2.2⟩
                  case measure =>
                    have e9 := HX.out.2.1
                    rw [HP1.out]
                    refine Nat.lt_of_le_of_lt (m := b.size - (k + 1)) (Nat.le_of_eq ?_) (by omega)
                    simp [World.iterPos, e9]
                · have t3 := eq_not he
                  have HK : Hid (W4.ownsRow G 4 1 (.slice (some ⟨G, 0, none⟩) nn nn) nn (fil (bv (L (q + 1))) (.bool false) (k + 1 + 1) nn)) := Lib.hid (by
                    rw [← fil_skip (f := bv (L (q + 1))) (j := k + 1) (by show Value.bool (L (q + 1) (k + 1)) = _; rw [HR.out, decide_eq_false h63, decide_eq_false he]; simp)]
                    exact HO4.out)
                  clear h63 he
                  go_wp2
                  go_roundw
                  case rel => exact ⟨k + 1, by omega, ⟨_, rfl⟩, ⟨_, rfl⟩, HK, HJ4, HB4⟩
                  case measure =>
                    have e9 := HJ4.out
                    rw [HP1.out]
                    refine Nat.lt_of_le_of_lt (m := b.size - (k + 1)) (Nat.le_of_eq ?_) (by omega)
                    simp [World.iterPos, e9]
          · have hny := fun ty => Lib.run_next_end_at (P := Try.prog) wr I2 b k ty HJt.out hkb
            have e : k + 1 = nn := by have := HNN.out; omega
            have HSn : Hid (Sl wr.heap.size wr (some ⟨G, 0, none⟩) nn nn (brow (L (q + 1)) nn)) := Lib.hid (by have := HO.out; rw [e, fil_all] at this; exact Sl.of_own this)
            have HIt4 : Hid (wr.heap[I1]? = some (.stringIter a (q + 1))) := Lib.hid ((HBn.out.block I1 hsz).trans HIt1.out)
            have HBw4 : Hid (Below w.heap.size w wr) := Lib.hid (HBo.out.trans (HBn.out.mono (by have := HBo.out.size; have := HG.out; omega)))
            clear e HO HJt HBn
            go_wp2
            go_roundw
            case rel => exact ⟨q + 1, _, by omega, rfl, ⟨_, rfl⟩, HSn, HIt4, HBw4⟩
            case measure =>
              have e1 : wr.iterPos I1 = q + 1 := by simp [World.iterPos, HIt4.out]
              rw [HP0.out, e1]
              omega
    · have hnx := fun ty => Lib.run_next_end_at (P := Try.prog) wr I1 a q ty HIt.out hqa
      obtain rfl : q = a.size := by omega
      have hnb : b.size < nn := by have := HNN.out; omega
      obtain ⟨b1, o1, e1, _, hcA⟩ := HS.out.spot b.size _ (brow_at (L a.size) hnb)
      injection e1 with e1; injection e1 with e1 e1'; subst e1; subst e1'
      have hi0 : (0 : Int) ≤ (b.size : Int) := by omega
      have hi1 : (b.size : Int) < (nn : Int) := by omega
      rw [Nat.zero_add, HV.out] at hcA
      go_wp2
      go_ret
      exact ⟨rfl, HBw.out⟩

end Go.Proofs.Ytpneflbnipefaab
