/-
  The most letters in common of two words: the program's function, for two words.
-/
import Derived.Test.YtpneflbnipefaaaLcs
namespace Go.Proofs.Ytpneflbnipefaaa
open Go.RowKit
set_option linter.unusedVariables false

/-- moving on an iterator that is beyond a slice -/
theorem Sl.iterAt {B I : Nat} {w : World} {a : Option Addr} {n c : Nat} {xs : List Value} {s : ByteArray} {k : Nat} (h : Sl B w a n c xs) (hI : w.heap[I]? = some (.stringIter s k)) (q : Nat) : Sl B (w.iterAt I s q) a n c xs :=
  ⟨h.len, h.cap, h.top, fun i u hu => by
    obtain ⟨b9, o9, e9, h9, hc9⟩ := h.spot i u hu
    refine ⟨b9, o9, e9, h9, ?_⟩
    refine (World.cell?_of_block (a := ⟨b9, o9 + i, none⟩) (Lib.iterAt_other w I b9 s q ?_)).trans hc9
    rintro rfl
    simp [World.cell?, hI] at hc9⟩

set_option maxRecDepth 1000000 in
set_option maxHeartbeats 4000000 in
theorem implLcs_yes (a b : ByteArray) (w : World) (hwa : okW a = true) (hwb : okW b = true) :
    Calls Try.prog 20 #[.string a, .string b] w fun e w' => e = .returned (.tuple #[.int .i64 (lcs a.data.toList b.data.toList a.size b.size : Nat), .bool true]) ∧ Below w.heap.size w w' := by
  have ha := okW_size hwa
  have hb := okW_size hwb
  have HLa : Hid (∀ k (h : k < a.size), (a[k]'h).toNat < 128) := Lib.hid (fun k h => by have := okW_low_at hwa h; omega)
  have HLb : Hid (∀ k (h : k < b.size), (b[k]'h).toNat < 128) := Lib.hid (fun k h => by have := okW_low_at hwb h; omega)
  have cA0 := areWords_any a b w (by omega) (by omega)
  rw [hwa, hwb, Bool.true_and] at cA0
  have cA := Lib.hid cA0
  obtain ⟨i0, hii, hz0, hz1, hz2⟩ := info_parts infoI
  obtain ⟨nn, hnn⟩ : ∃ nn, a.size + 1 = nn := ⟨_, rfl⟩
  have HNN := Lib.hid hnn
  have hsn : ((a.size : Nat) : Int) + 1 = (nn : Int) := by omega
  have HSN := Lib.hid hsn
  have hn13 : nn ≤ 13 := by omega
  have hC := lcs_is a b
  obtain ⟨L, hL⟩ : ∃ L, lcs a.data.toList b.data.toList = L := ⟨_, rfl⟩
  rw [hL] at hC ⊢
  have HC := Lib.hid hC
  obtain ⟨v, hv⟩ : ∃ v, L a.size b.size = v := ⟨_, rfl⟩
  have HV := Lib.hid hv
  rw [hv]
  clear hnn hwa hwb hL hC hv hsn cA0
  go_enter Try.func20, Try.ntmps20
  go_wp2_with fail
  refine cA.out.mono ?_
  rintro e w0 ⟨rfl, hb0⟩
  have HB0 := Lib.hid hb0
  clear hb0 cA
  go_wp2_with (first
    | (at_make; refine wpList_make_full _ rfl _ _ 33 rfl w0.heap.size 3 i0 (.int .i64 0) 1 Try.underlying33 hii hz0 hz1 .i64 .i64 _ _ nn rfl rfl HSN.out HSN.out (by rw [hz2]; omega) (by unfold maxLen; omega) (Nat.le_refl _) ?_; intro w1 hown hgrow; have hown1 := made_rep rfl hown; have HO1 := Lib.hid hown1; have HB1 : Hid (Below w.heap.size w w1) := Lib.hid (HB0.out.trans ((Below.refl _ _).grown hgrow HB0.out.size (fun k e => by cases e))); clear hown hown1 hgrow))
  have HS1 : Hid (Sl w1.heap.size w1 (some ⟨w0.heap.size, 0, none⟩) nn nn (irow (fun i => L i 0) nn)) := Lib.hid (by have := Sl.of_own HO1.out; rwa [rep_irow (f := fun i => L i 0) HC.out.z] at this)
  obtain ⟨g0, hg0⟩ : ∃ g0, w0.heap.size = g0 := ⟨_, rfl⟩
  rw [hg0] at HS1 ⊢
  clear hg0 HO1 HB0
  obtain ⟨I1, hI1⟩ : ∃ I1, w1.heap.size = I1 := ⟨_, rfl⟩
  have HI1 := Lib.hid hI1
  rw [hI1] at HS1 ⊢
  clear hI1
  go_loopw [6, 8] (fun r l wr => ∃ (k g : Nat), k ≤ b.size ∧ r = .slice (some ⟨g, 0, none⟩) nn nn ∧ (∃ v : Value, l = v) ∧ Hid (Sl wr.heap.size wr (some ⟨g, 0, none⟩) nn nn (irow (fun i => L i k) nn)) ∧ Hid (wr.heap[I1]? = some (.stringIter b k)) ∧ Hid (Below w.heap.size w wr)) (fun _ _ wr => b.size - wr.iterPos I1)
  case atStart => exact ⟨0, g0, Nat.zero_le _, rfl, ⟨_, rfl⟩, Lib.hid ((HS1.out.keep (B := I1) ((Below.refl _ _).alloc (by have := HI1.out; omega) _)).mono (by have := HI1.out; show I1 ≤ (w1.alloc _).heap.size; simp; omega)), Lib.hid (by have := World.iter_heap w1 b 0; rwa [HI1.out] at this), Lib.hid (HB1.out.alloc HB1.out.size _)⟩
  case round =>
    clear HS1
    obtain ⟨k, g, hk, rfl, ⟨v1, rfl⟩, HS, HIt, HBw⟩ := hrel
    have hpos0 : wr.iterPos I1 = k := by simp [World.iterPos, HIt.out]
    have HP0 := Lib.hid hpos0
    clear hpos0
    have hwI : w.heap.size ≤ I1 := by have := HI1.out; have := HB1.out.size; omega
    by_cases hlt : k < b.size
    · have hnx := fun ty => Lib.run_next_ascii_at (P := Try.prog) wr I1 b k ty HIt.out hlt (HLb.out k hlt)
      obtain ⟨W1, hW1⟩ : ∃ W1, wr.iterAt I1 b (k + 1) = W1 := ⟨_, rfl⟩
      have HIt1 : Hid (W1.heap[I1]? = some (.stringIter b (k + 1))) := Lib.hid (by rw [← hW1]; exact Lib.iterAt_heap wr _ b k (k + 1) HIt.out)
      have HB2 : Hid (Below w.heap.size w W1) := Lib.hid (by rw [← hW1]; exact Lib.below_iterAt HBw.out hwI b (k + 1))
      have HS1 : Hid (Sl W1.heap.size W1 (some ⟨g, 0, none⟩) nn nn (irow (fun i => L i k) nn)) := Lib.hid (by rw [← hW1]; exact (HS.out.iterAt HIt.out (k + 1)).mono (by rw [Lib.iterAt_size]; exact Nat.le_refl _))
      simp only [hW1] at hnx
      clear hW1
      have hsz := (Array.getElem?_eq_some_iff.1 HIt1.out).1
      have HLet := Lib.hid (And.intro (fun i (hi : i < a.size) => HC.out.yes i k hi hlt) (fun i (hi : i < a.size) => HC.out.no i k hi hlt))
      obtain ⟨q, hq⟩ : ∃ q, b[k].toNat = q := ⟨_, rfl⟩
      simp only [hq] at hnx HLet
      clear hq
      go_wp2_with (first
        | (at_make; refine wpList_make_full _ rfl _ _ 33 rfl W1.heap.size 3 i0 (.int .i64 0) 1 Try.underlying33 hii hz0 hz1 .i64 .i64 _ _ nn rfl rfl rfl rfl (by rw [hz2]; omega) (by unfold maxLen; omega) (Nat.le_refl _) ?_; intro w2 hown hgrow; have hown1 := made_rep rfl hown; have HO2 := Lib.hid hown1; have HBm : Hid (Below W1.heap.size W1 w2) := Lib.hid ((Below.refl _ _).grown hgrow (Nat.le_refl _) (fun k e => by cases e)); clear hown hown1 hgrow))
      have HO3 : Hid (w2.ownsRow W1.heap.size 3 1 (.slice (some ⟨W1.heap.size, 0, none⟩) nn nn) nn (fil (iv fun i => L i (k + 1)) (.int .i64 0) 1 nn)) := Lib.hid (by have := HO2.out; rwa [fil_one (f := iv fun i => L i (k + 1)) (by show Value.int .i64 ((L 0 (k + 1) : Nat) : Int) = _; rw [HC.out.o]; rfl)] at this)
      obtain ⟨G, hG⟩ : ∃ G, W1.heap.size = G := ⟨_, rfl⟩
      have HG := Lib.hid hG
      rw [hG] at HO3 HBm hsz ⊢
      clear HO2 hG
      obtain ⟨I2, hI2⟩ : ∃ I2, w2.heap.size = I2 := ⟨_, rfl⟩
      have HI2 := Lib.hid hI2
      rw [hI2]
      have hGI : G < I2 := by have := own_lt HO3.out; omega
      clear hI2
      go_loopw [10, 11] (fun i1 i2 wr => ∃ j : Nat, j ≤ a.size ∧ (∃ v : Value, i1 = v) ∧ (∃ v : Value, i2 = v) ∧ Hid (wr.ownsRow G 3 1 (.slice (some ⟨G, 0, none⟩) nn nn) nn (fil (iv fun i => L i (k + 1)) (.int .i64 0) (j + 1) nn)) ∧ Hid (wr.heap[I2]? = some (.stringIter a j)) ∧ Hid (Below G W1 wr)) (fun _ _ wr => a.size - wr.iterPos I2)
      case atStart => exact ⟨0, Nat.zero_le _, ⟨_, rfl⟩, ⟨_, rfl⟩, Lib.hid (HO3.out.alloc _), Lib.hid (by have := World.iter_heap w2 a 0; rwa [HI2.out] at this), Lib.hid (HBm.out.alloc (by have := HBm.out.size; have := HG.out; omega) _)⟩
      case round =>
        clear HO3 HBm
        obtain ⟨j, hj, ⟨v2, rfl⟩, ⟨v3, rfl⟩, HO, HJt, HBn⟩ := hrel
        have hpos1 : wr.iterPos I2 = j := by simp [World.iterPos, HJt.out]
        have HP1 := Lib.hid hpos1
        clear hpos1
        by_cases hja : j < a.size
        · have hny := fun ty => Lib.run_next_ascii_at (P := Try.prog) wr I2 a j ty HJt.out hja (HLa.out j hja)
          obtain ⟨W3, hW3⟩ : ∃ W3, wr.iterAt I2 a (j + 1) = W3 := ⟨_, rfl⟩
          have HJt3 : Hid (W3.heap[I2]? = some (.stringIter a (j + 1))) := Lib.hid (by rw [← hW3]; exact Lib.iterAt_heap wr _ a j (j + 1) HJt.out)
          have HB3 : Hid (Below G W1 W3) := Lib.hid (by rw [← hW3]; exact Lib.below_iterAt HBn.out (by omega) a (j + 1))
          have HO3 : Hid (W3.ownsRow G 3 1 (.slice (some ⟨G, 0, none⟩) nn nn) nn (fil (iv fun i => L i (k + 1)) (.int .i64 0) (j + 1) nn)) := Lib.hid (by rw [← hW3]; exact own_iterAt HO.out HJt.out)
          simp only [hW3] at hny
          clear hW3
          have hS := HS1.out
          rw [HG.out] at hS
          have hS3 := hS.keep HB3.out
          obtain ⟨b1, o1, e1, _, hcA⟩ := hS3.spot j _ (irow_at (fun i => L i k) (show j < nn by have := HNN.out; omega))
          obtain ⟨b2, o2, e2, _, hcB⟩ := hS3.spot (j + 1) _ (irow_at (fun i => L i k) (show j + 1 < nn by have := HNN.out; omega))
          injection e1 with e1; injection e1 with e1 e1'; subst e1; subst e1'
          injection e2 with e2; injection e2 with e2 e2'; subst e2; subst e2'
          rw [Nat.zero_add] at hcA hcB
          have hcC0 := (HO3.out.cellAt j (by have := HNN.out; omega)).trans (fil_old (iv fun i => L i (k + 1)) (.int .i64 0) (show j < nn by have := HNN.out; omega) (by omega))
          have hcD := (HO3.out.cellAt (j + 1) (by have := HNN.out; omega)).trans (fil_new (iv fun i => L i (k + 1)) (.int .i64 0) (show j + 1 < nn by have := HNN.out; omega) (Nat.le_refl _))
          have hfz := HO3.out.frozenAt (j + 1)
          have hcC : W3.cell? ⟨G, j, none⟩ = some (.int .i64 ((L j (k + 1) : Nat) : Int)) := hcC0
          clear hcC0
          have hb1 := HC.out.le j k
          have hb2 := HC.out.le (j + 1) k
          have hb3 := HC.out.le j (k + 1)
          have HY := Lib.hid (HLet.out.1 j hja)
          have HN := Lib.hid (HLet.out.2 j hja)
          have HStep : Hid (∀ (W4 : World) (M : Nat), W4.ownsRow G 3 1 (.slice (some ⟨G, 0, none⟩) nn nn) nn (fil (iv fun i => L i (k + 1)) (.int .i64 0) (j + 1) nn) → W4.heap[I2]? = some (.stringIter a (j + 1)) → Below G W1 W4 →
              (W4.setCell ⟨G, j + 1, none⟩ (.int .i64 (M : Int))).ownsRow G 3 1 (.slice (some ⟨G, 0, none⟩) nn nn) nn ((fil (iv fun i => L i (k + 1)) (.int .i64 0) (j + 1) nn).set (j + 1) (.int .i64 (M : Int))) ∧ (W4.setCell ⟨G, j + 1, none⟩ (.int .i64 (M : Int))).heap[I2]? = some (.stringIter a (j + 1)) ∧ Below G W1 (W4.setCell ⟨G, j + 1, none⟩ (.int .i64 (M : Int)))) := Lib.hid (fun W4 M hO4 hJ4 hB4 => by
            have h1 := hO4.stored (j + 1) (.int .i64 (M : Int))
            exact ⟨h1.1, (h1.2.block I2 (Array.getElem?_eq_some_iff.1 hJ4).1 (fun e => by injection e with e; omega)).trans hJ4, hB4.grown h1.2 (by have := hB4.size; have := HG.out; omega) (fun q e => by injection e with e; omega)⟩)
          have HStep2 : Hid (∀ (W4 : World) (M R : Nat), L (j + 1) (k + 1) = R → W4.ownsRow G 3 1 (.slice (some ⟨G, 0, none⟩) nn nn) nn ((fil (iv fun i => L i (k + 1)) (.int .i64 0) (j + 1) nn).set (j + 1) (.int .i64 (M : Int))) → W4.heap[I2]? = some (.stringIter a (j + 1)) → Below G W1 W4 →
              (W4.setCell ⟨G, j + 1, none⟩ (.int .i64 (R : Int))).ownsRow G 3 1 (.slice (some ⟨G, 0, none⟩) nn nn) nn (fil (iv fun i => L i (k + 1)) (.int .i64 0) (j + 1 + 1) nn) ∧ (W4.setCell ⟨G, j + 1, none⟩ (.int .i64 (R : Int))).heap[I2]? = some (.stringIter a (j + 1)) ∧ Below G W1 (W4.setCell ⟨G, j + 1, none⟩ (.int .i64 (R : Int)))) := Lib.hid (fun W4 M R hR hO4 hJ4 hB4 => by
            have h1 := hO4.stored (j + 1) (.int .i64 (R : Int))
            have h2 := h1.1
            rw [List.set_set] at h2
            have h3 : iv (fun i => L i (k + 1)) (j + 1) = .int .i64 (R : Int) := by show Value.int .i64 ((L (j + 1) (k + 1) : Nat) : Int) = _; rw [hR]
            rw [← h3, fil_set] at h2
            refine ⟨by rw [← h3]; exact h2, (h1.2.block I2 (Array.getElem?_eq_some_iff.1 hJ4).1 (fun e => by injection e with e; omega)).trans hJ4, hB4.grown h1.2 (by have := hB4.size; have := HG.out; omega) (fun q e => by injection e with e; omega)⟩)
          clear hS hS3
          obtain ⟨R, hR⟩ : ∃ R, L (j + 1) (k + 1) = R := ⟨_, rfl⟩
          have HR := Lib.hid hR
          obtain ⟨x0, hx0⟩ : ∃ x0, L j k = x0 := ⟨_, rfl⟩
          obtain ⟨y0, hy0⟩ : ∃ y0, L (j + 1) k = y0 := ⟨_, rfl⟩
          obtain ⟨z0, hz0'⟩ : ∃ z0, L j (k + 1) = z0 := ⟨_, rfl⟩
          rw [hR, hx0] at HY
          rw [hR, hz0', hy0] at HN
          rw [hx0] at hb1 hcA
          rw [hy0] at hb2 hcB
          rw [hz0'] at hb3 hcC
          clear hR hx0 hy0 hz0'
          have hk1 : IntKind.i64.wrap ((j : Int) + 1) = (j : Int) + 1 := i64_of _ (by omega)
          have hk2 : (0 : Int) ≤ (j : Int) + 1 := by omega
          have hk3 : (j : Int) + 1 < (nn : Int) := by have := HNN.out; omega
          have hk4 : ((j : Int) + 1).toNat = j + 1 := by omega
          have hk5 : (0 : Int) ≤ (j : Int) := by omega
          have hk6 : (j : Int) < (nn : Int) := by have := HNN.out; omega
          obtain ⟨p, hp⟩ : ∃ p, a[j].toNat = p := ⟨_, rfl⟩
          simp only [hp] at hny
          rw [hp] at HY HN
          clear hp
          have hgl : g < G := by
            obtain ⟨b9, o9, e9, h9, _⟩ := HS1.out.spot 0 _ (irow_at (fun i => L i k) (show 0 < nn by have := HNN.out; omega))
            have e10 : g = b9 := by injection e9 with e9; injection e9
            have := HG.out
            omega
          have hgG : g ≠ G := by omega
          obtain ⟨M, hM, hcase⟩ : ∃ M, max y0 z0 = M ∧ ((y0 < z0 ∧ M = z0) ∨ (¬ y0 < z0 ∧ M = y0)) := ⟨_, rfl, by omega⟩
          have HM := Lib.hid hM
          clear hM
          rcases hcase with ⟨hyz, rfl⟩ | ⟨hyz, rfl⟩
          all_goals
            by_cases he : p = q
            · have HR2 := Lib.hid (HY.out he)
              have hne := eq_yes he
              clear he HY HN
              obtain ⟨X, hX⟩ : ∃ X, x0 + 1 = X := ⟨_, rfl⟩
              have HRX : Hid (L (j + 1) (k + 1) = X) := Lib.hid (by rw [HR.out, HR2.out, hX])
              have hwX : IntKind.i64.wrap ((x0 : Int) + 1) = (X : Int) := by rw [i64_of _ (by omega)]; omega
              have hwX2 : (x0 : Int) + 1 = (X : Int) := by omega
              clear hX
              have HX := Lib.hid (HStep.out W3 M HO3.out HJt3.out HB3.out)
              have HY2 := Lib.hid (HStep2.out (W3.setCell ⟨G, j + 1, none⟩ (.int .i64 (M : Int))) M X HRX.out HX.out.1 HX.out.2.1 HX.out.2.2)
              go_wp2
              go_still_tail 14, (by kernel_rfl)
              go_wp2
              go_roundw
              case rel => exact ⟨j + 1, by omega, ⟨_, rfl⟩, ⟨_, rfl⟩, Lib.hid HY2.out.1.drew, Lib.hid HY2.out.2.1, Lib.hid (HY2.out.2.2.trans (Below.refl _ _).drew)⟩
              case measure =>
                have e9 := HY2.out.2.1
                rw [HP1.out]
                refine Nat.lt_of_le_of_lt (m := a.size - (j + 1)) (Nat.le_of_eq ?_) (by omega)
                simp [World.iterPos, World.drew, e9]
            · have HR2 := Lib.hid (HN.out he)
              have hne := eq_not he
              clear he HY HN
              have HRX : Hid (L (j + 1) (k + 1) = M) := Lib.hid (by rw [HR.out, HR2.out]; have := HM.out; omega)
              have HX := Lib.hid (HStep.out W3 M HO3.out HJt3.out HB3.out)
              have HXf : Hid ((W3.setCell ⟨G, j + 1, none⟩ (.int .i64 (M : Int))).ownsRow G 3 1 (.slice (some ⟨G, 0, none⟩) nn nn) nn (fil (iv fun i => L i (k + 1)) (.int .i64 0) (j + 1 + 1) nn)) := Lib.hid (by
                have h2 := HX.out.1
                have h3 : iv (fun i => L i (k + 1)) (j + 1) = .int .i64 (M : Int) := by show Value.int .i64 ((L (j + 1) (k + 1) : Nat) : Int) = _; rw [HRX.out]
                rw [← h3, fil_set] at h2
                rw [← h3]
                exact h2)
              go_wp2
              go_still_tail 14, (by kernel_rfl)
              go_wp2
              go_roundw
              case rel => exact ⟨j + 1, by omega, ⟨_, rfl⟩, ⟨_, rfl⟩, Lib.hid HXf.out.drew, Lib.hid HX.out.2.1, Lib.hid (HX.out.2.2.trans (Below.refl _ _).drew)⟩
              case measure =>
                have e9 := HX.out.2.1
                rw [HP1.out]
                refine Nat.lt_of_le_of_lt (m := a.size - (j + 1)) (Nat.le_of_eq ?_) (by omega)
                simp [World.iterPos, World.drew, e9]
        · have hny := fun ty => Lib.run_next_end_at (P := Try.prog) wr I2 a j ty HJt.out hja
          have e : j + 1 = nn := by have := HNN.out; omega
          have HSn : Hid (Sl wr.heap.size wr (some ⟨G, 0, none⟩) nn nn (irow (fun i => L i (k + 1)) nn)) := Lib.hid (by have := HO.out; rw [e, fil_all] at this; exact Sl.of_own this)
          have HIt4 : Hid (wr.heap[I1]? = some (.stringIter b (k + 1))) := Lib.hid ((HBn.out.block I1 hsz).trans HIt1.out)
          have HBw4 : Hid (Below w.heap.size w wr) := Lib.hid (HB2.out.trans (HBn.out.mono (by have := HB2.out.size; have := HG.out; omega)))
          clear e HO HJt HBn
          go_wp2
          go_roundw
          case rel => exact ⟨k + 1, _, by omega, rfl, ⟨_, rfl⟩, HSn, HIt4, HBw4⟩
          case measure =>
            have e1 : wr.iterPos I1 = k + 1 := by simp [World.iterPos, HIt4.out]
            rw [HP0.out, e1]
            omega
    · have hnx := fun ty => Lib.run_next_end_at (P := Try.prog) wr I1 b k ty HIt.out hlt
      have e : k = b.size := by omega
      subst e
      have hna : a.size < nn := by have := HNN.out; omega
      obtain ⟨b1, o1, e1, _, hcA⟩ := HS.out.spot a.size _ (irow_at _ hna)
      injection e1 with e1; injection e1 with e1 e1'; subst e1; subst e1'
      have hi0 : (0 : Int) ≤ (a.size : Int) := by omega
      have hi1 : (a.size : Int) < (nn : Int) := by omega
      have hcA2 : wr.cell? ⟨g, a.size, none⟩ = some (.int .i64 (v : Int)) := by have := hcA; rw [Nat.zero_add] at this; rw [HV.out] at this; exact this
      clear hcA
      go_wp2
      go_ret2
      exact ⟨rfl, HBw.out⟩

end Go.Proofs.Ytpneflbnipefaaa
