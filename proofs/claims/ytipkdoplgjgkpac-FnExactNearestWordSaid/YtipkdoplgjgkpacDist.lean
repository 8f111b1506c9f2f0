/-
  The distance of two words: the reference's rows, and the program's.
-/
import Derived.Test.YtipkdoplgjgkpacDp
import Derived.Test.YtipkdoplgjgkpacBas
import Derived.Test.YtipkdoplgjgkpacIter
import Derived.Deep.QuietTactic
import Derived.BigQuiet
import Derived.Test.YtipkdoplgjgkpacInfoI
import Derived.IntWalk
import Derived.StillTailTactics
import Derived.WalkLawsBesides
namespace Go.Proofs.Ytipkdoplgjgkpac
open Go.RowKit
set_option linter.unusedVariables false

/-- a number told by a place -/
def iv (f : Nat → Nat) (k : Nat) : Value := .int .i64 ((f k : Nat) : Int)
/-- n numbers as cells -/
def irow (f : Nat → Nat) (n : Nat) : List Value := (List.range n).map (iv f)
theorem irow_at (f : Nat → Nat) {n k : Nat} (h : k < n) : (irow f n)[k]? = some (.int .i64 ((f k : Nat) : Int)) := row_at _ h
theorem irow_one (f : Nat → Nat) (n : Nat) : ∀ u ∈ irow f n, u.oneCell' = true := by
  intro u hu
  unfold irow at hu
  obtain ⟨j, _, rfl⟩ := List.mem_map.1 hu
  rfl

theorem i64_of (z : Int) (h : -1000 ≤ z ∧ z ≤ 1000) : IntKind.i64.wrap z = z := IntWalk.i64_in _ (by omega)

theorem l1Least_is (x y z : Int) (hz : z = if x < y then x else y) (W : World) :
    Calls Try.prog 83 #[.int .i64 x, .int .i64 y] W fun e w' => e = .returned (.int .i64 z) ∧ w' = W := by
  by_cases h : x < y
  · rw [if_pos h] at hz
    subst hz
    go_enter Try.func83, Try.ntmps83
    go_wp2
    go_ret
    exact ⟨rfl, rfl⟩
  · rw [if_neg h] at hz
    subst hz
    go_enter Try.func83, Try.ntmps83
    go_wp2
    go_ret
    exact ⟨rfl, rfl⟩

set_option maxRecDepth 1000000 in
set_option maxHeartbeats 1000000 in
theorem firstRow_any (s : ByteArray) (nn : Nat) (w : World) (hnn : s.size + 1 = nn) (hs : s.size ≤ 12) :
    Calls Try.prog 91 #[.string s] w fun e w' => e = .returned (.slice (some ⟨w.heap.size, 0, none⟩) nn nn) ∧ w'.ownsRow w.heap.size 3 1 (.slice (some ⟨w.heap.size, 0, none⟩) nn nn) nn (irow (fun k => k) nn) ∧ Below w.heap.size w w' := by
  obtain ⟨i0, hii, hz0, hz1, hz2⟩ := info_parts infoI
  have hsn : ((s.size : Nat) : Int) + 1 = (nn : Int) := by omega
  have HSN := Lib.hid hsn
  have hn13 : nn ≤ 13 := by omega
  clear hsn
  go_enter Try.func91, Try.ntmps91
  go_wp2_with (first
    | (at_make; refine wpList_make_full _ rfl _ _ 78 rfl w.heap.size 3 i0 (.int .i64 0) 1 Try.underlying78 hii hz0 hz1 .i64 .i64 _ _ nn rfl rfl HSN.out HSN.out (by rw [hz2]; omega) (by unfold maxLen; omega) (Nat.le_refl _) ?_; intro w1 hown hgrow; have hown1 := made_rep rfl hown; have HO1 := Lib.hid hown1; have HB1 : Hid (Below w.heap.size w w1) := Lib.hid ((Below.refl _ _).grown hgrow (Nat.le_refl _) (fun k e => by cases e)); clear hown hown1 hgrow))
  go_loopw [4, 11] (fun v p wr => ∃ k : Nat, k ≤ nn ∧ p = .int .i64 k ∧ (∃ x : Value, v = x) ∧ Hid (wr.ownsRow w.heap.size 3 1 (.slice (some ⟨w.heap.size, 0, none⟩) nn nn) nn (fil (iv fun k => k) (.int .i64 0) k nn)) ∧ Hid (Below w.heap.size w wr)) (fun _ p _ => nn - (intOf p).toNat)
  case atStart => exact ⟨0, Nat.zero_le _, rfl, ⟨_, rfl⟩, Lib.hid (by rw [← fil_zero]; exact HO1.out), HB1⟩
  case round =>
    clear HO1 HB1
    obtain ⟨k, hk, rfl, ⟨x, rfl⟩, HO, HB⟩ := hrel
    by_cases hlt : k < nn
    · have hc := (HO.out.cellAt k (by omega)).trans (fil_new _ _ hlt (Nat.le_refl _))
      have hf := HO.out.frozenAt k
      have HST := Lib.hid (HO.out.stored k (.int .i64 (k : Int)))
      have HS2 : Hid ((wr.setCell ⟨w.heap.size, k, none⟩ (.int .i64 (k : Int))).ownsRow w.heap.size 3 1 (.slice (some ⟨w.heap.size, 0, none⟩) nn nn) nn (fil (iv fun k => k) (.int .i64 0) (k + 1) nn)) := Lib.hid (by have := HST.out.1; rw [← fil_set]; exact this)
      have HB2 : Hid (Below w.heap.size w (wr.setCell ⟨w.heap.size, k, none⟩ (.int .i64 (k : Int)))) := Lib.hid (HB.out.grown HST.out.2 (by have := HB.out.size; omega) (fun k e => by injection e with e; omega))
      have hi0 : (0 : Int) ≤ (k : Int) := by omega
      have hi1 : (k : Int) < (nn : Int) := by omega
      go_wp2
      go_roundw
      case rel => exact ⟨k + 1, by omega, by go_num, ⟨_, rfl⟩, HS2, HB2⟩
      case measure => simp [intOf]; omega
    · have e : k = nn := by omega
      subst e
      have HF : Hid (wr.ownsRow w.heap.size 3 1 (.slice (some ⟨w.heap.size, 0, none⟩) k k) k (irow (fun k => k) k)) := Lib.hid (by have := HO.out; rw [fil_all] at this; exact this)
      go_wp2
      go_ret
      exact ⟨rfl, HF.out, HB.out⟩

theorem min3_ways {x y z r : Nat} (h : r = min (min x y) z) : ((y : Int) < (x : Int) ∧ (z : Int) < (y : Int) ∧ r = z) ∨ ((y : Int) < (x : Int) ∧ ¬ (z : Int) < (y : Int) ∧ r = y) ∨ (¬ (y : Int) < (x : Int) ∧ (z : Int) < (x : Int) ∧ r = z) ∨ (¬ (y : Int) < (x : Int) ∧ ¬ (z : Int) < (x : Int) ∧ r = x) := by omega

set_option maxRecDepth 1000000 in
set_option maxHeartbeats 2000000 in
theorem nextRow_any (B : Nat) (a : Option Addr) (c nn : Nat) (f g : Nat → Nat) (s : ByteArray) (z : Nat) (w : World) (hB : B ≤ w.heap.size) (hnn : s.size + 1 = nn) (hs : s.size ≤ 12) (hl : ∀ k (h : k < s.size), (s[k]'h).toNat < 128) (h : Sl B w a nn c (irow f nn))
    (hf : ∀ k, k < nn → f k ≤ 100) (hgb : ∀ k, k < nn → g k ≤ 100) (h0 : g 0 = f 0 + 1) (hg : ∀ k (h : k < s.size), g (k + 1) = min (min (f k + (if (s[k]'h).toNat = z then 0 else 1)) (f (k + 1) + 1)) (g k + 1)) :
    Calls Try.prog 90 #[.slice a nn c, .string s, .int .i32 (z : Int)] w fun e w' => e = .returned (.slice (some ⟨w.heap.size, 0, none⟩) nn nn) ∧ w'.ownsRow w.heap.size 3 1 (.slice (some ⟨w.heap.size, 0, none⟩) nn nn) nn (irow g nn) ∧ Below w.heap.size w w' := by
  obtain ⟨i0, hii, hz0, hz1, hz2⟩ := info_parts infoI
  have hn13 : nn ≤ 13 := by omega
  have HL := Lib.hid hl
  have HF := Lib.hid hf
  have HGb := Lib.hid hgb
  have HG := Lib.hid hg
  have H := Lib.hid h
  have HB := Lib.hid hB
  have C := h.cap
  have T := h.top
  obtain ⟨b, o, rfl, hbB, hc0⟩ := h.spot 0 _ (irow_at f (show 0 < nn by omega))
  obtain ⟨x0, hx0⟩ : ∃ x0, f 0 = x0 := ⟨_, rfl⟩
  have hx1 : x0 ≤ 100 := by rw [← hx0]; exact hf 0 (by omega)
  rw [hx0] at hc0
  have HG0 : Hid (iv g 0 = .int .i64 ((x0 : Int) + 1)) := Lib.hid (by unfold iv; rw [h0, hx0]; rfl)
  have HNN := Lib.hid hnn
  clear hl hf hgb hg h hB h0 hx0
  go_enter Try.func90, Try.ntmps90
  go_wp2_with (first
    | (at_make; refine wpList_make_full _ rfl _ _ 78 rfl w.heap.size 3 i0 (.int .i64 0) 1 Try.underlying78 hii hz0 hz1 .i64 .i64 _ _ nn rfl rfl rfl rfl (by rw [hz2]; omega) (by unfold maxLen; omega) (Nat.le_refl _) ?_; intro w1 hown hgrow; have hown1 := made_rep rfl hown; have HO1 := Lib.hid hown1; have HB1 : Hid (Below w.heap.size w w1) := Lib.hid ((Below.refl _ _).grown hgrow (Nat.le_refl _) (fun k e => by cases e)); have hfz := hown1.frozenAt 0; have hcz := (hown1.cellAt 0 (by omega)).trans ((congrArg (·[0]?) (fil_zero (iv g) (.int .i64 0) nn)).trans (fil_new _ _ (by omega) (Nat.le_refl _))); have hcr := (HB1.out.cell (p := ⟨b, o + 0, none⟩) (Nat.lt_of_lt_of_le hbB HB.out)).trans hc0; have hcr2 : w1.cell? ⟨b, o, none⟩ = some (.int .i64 (x0 : Int)) := hcr; clear hown hown1 hgrow))
  have HST0 := Lib.hid (HO1.out.stored 0 (.int .i64 ((x0 : Int) + 1)))
  have HO2 : Hid ((w1.setCell ⟨w.heap.size, 0, none⟩ (.int .i64 ((x0 : Int) + 1))).ownsRow w.heap.size 3 1 (.slice (some ⟨w.heap.size, 0, none⟩) nn nn) nn (fil (iv g) (.int .i64 0) 1 nn)) := Lib.hid (by
    have := HST0.out.1
    rw [fil_zero (iv g), ← HG0.out, fil_set] at this
    rw [← HG0.out]
    exact this)
  have HB2 : Hid (Below w.heap.size w (w1.setCell ⟨w.heap.size, 0, none⟩ (.int .i64 ((x0 : Int) + 1)))) := Lib.hid (HB1.out.grown HST0.out.2 (by have := HB1.out.size; omega) (fun k e => by injection e with e; omega))
  have hsz2 : (w1.setCell ⟨w.heap.size, 0, none⟩ (.int .i64 ((x0 : Int) + 1))).heap.size = w1.heap.size := by simp
  have HSz2 := Lib.hid hsz2
  have hlt1 : w.heap.size < w1.heap.size := own_lt HO1.out
  clear hfz hcz hcr hcr2 HST0 HO1 HB1 hsz2
  obtain ⟨W2, hW2⟩ : ∃ W2, w1.setCell ⟨w.heap.size, 0, none⟩ (.int .i64 ((x0 : Int) + 1)) = W2 := ⟨_, rfl⟩
  rw [hW2] at HO2 HB2 HSz2 ⊢
  clear hW2
  obtain ⟨I, hI⟩ : ∃ I, w1.heap.size = I := ⟨_, rfl⟩
  rw [hI] at HSz2 hlt1 ⊢
  clear hI
  go_loopw [8, 9, 10] (fun i1 i2 i3 wr => ∃ k : Nat, k ≤ s.size ∧ (∃ v : Value, i1 = v) ∧ (∃ v : Value, i2 = v) ∧ (∃ v : Value, i3 = v) ∧ Hid (wr.ownsRow w.heap.size 3 1 (.slice (some ⟨w.heap.size, 0, none⟩) nn nn) nn (fil (iv g) (.int .i64 0) (k + 1) nn)) ∧ Hid (wr.heap[I]? = some (.stringIter s k)) ∧ Hid (Below w.heap.size w wr)) (fun _ _ _ wr => s.size - wr.iterPos I)
  case atStart => exact ⟨0, Nat.zero_le _, ⟨_, rfl⟩, ⟨_, rfl⟩, ⟨_, rfl⟩, Lib.hid (HO2.out.alloc _), Lib.hid (by have := World.iter_heap W2 s 0; rwa [HSz2.out] at this), Lib.hid (HB2.out.alloc (by have := HB2.out.size; omega) _)⟩
  case round =>
    clear HO2 HB2 HSz2
    obtain ⟨k, hk, ⟨v1, rfl⟩, ⟨v2, rfl⟩, ⟨v3, rfl⟩, HO, HIt, HBw⟩ := hrel
    have hpos0 : wr.iterPos I = k := by simp [World.iterPos, HIt.out]
    have HP0 := Lib.hid hpos0
    clear hpos0
    by_cases hlt : k < s.size
    · have hnx := fun ty => Lib.run_next_ascii_at (P := Try.prog) wr I s k ty HIt.out hlt (HL.out k hlt)
      obtain ⟨W1, hW1⟩ : ∃ W1, wr.iterAt I s (k + 1) = W1 := ⟨_, rfl⟩
      have HI1 : Hid (W1.heap[I]? = some (.stringIter s (k + 1))) := Lib.hid (by rw [← hW1]; exact Lib.iterAt_heap wr _ s k (k + 1) HIt.out)
      have HB1 : Hid (Below w.heap.size w W1) := Lib.hid (by rw [← hW1]; exact Lib.below_iterAt HBw.out (by omega) s (k + 1))
      have HO1 : Hid (W1.ownsRow w.heap.size 3 1 (.slice (some ⟨w.heap.size, 0, none⟩) nn nn) nn (fil (iv g) (.int .i64 0) (k + 1) nn)) := Lib.hid (by rw [← hW1]; exact own_iterAt HO.out HIt.out)
      simp only [hW1] at hnx
      clear hW1
      have hS := H.out.keep (HB1.out.mono HB.out)
      obtain ⟨b1, o1, e1, _, hcA⟩ := hS.spot k _ (irow_at f (show k < nn by have := HNN.out; omega))
      obtain ⟨b2, o2, e2, _, hcB⟩ := hS.spot (k + 1) _ (irow_at f (show k + 1 < nn by have := HNN.out; omega))
      injection e1 with e1; injection e1 with e1 e1'; subst e1; subst e1'
      injection e2 with e2; injection e2 with e2 e2'; subst e2; subst e2'
      have hcC := (HO1.out.cellAt k (by omega)).trans (fil_old (iv g) (.int .i64 0) (show k < nn by have := HNN.out; omega) (by omega))
      have hcD := (HO1.out.cellAt (k + 1) (by omega)).trans (fil_new (iv g) (.int .i64 0) (show k + 1 < nn by have := HNN.out; omega) (Nat.le_refl _))
      have hfz := HO1.out.frozenAt (k + 1)
      have HR := Lib.hid (HG.out k hlt)
      have hb1 := HF.out k (by have := HNN.out; omega)
      have hb2 := HF.out (k + 1) (by have := HNN.out; omega)
      have hb3 := HGb.out k (by have := HNN.out; omega)
      have HSt : Hid (∀ R : Nat, g (k + 1) = R → (W1.setCell ⟨w.heap.size, k + 1, none⟩ (.int .i64 (R : Int))).ownsRow w.heap.size 3 1 (.slice (some ⟨w.heap.size, 0, none⟩) nn nn) nn (fil (iv g) (.int .i64 0) (k + 1 + 1) nn) ∧ (W1.setCell ⟨w.heap.size, k + 1, none⟩ (.int .i64 (R : Int))).heap[I]? = some (.stringIter s (k + 1)) ∧ Below w.heap.size w (W1.setCell ⟨w.heap.size, k + 1, none⟩ (.int .i64 (R : Int)))) := Lib.hid (fun R hR => by
        have h1 := HO1.out.stored (k + 1) (.int .i64 (R : Int))
        refine ⟨?_, ?_, ?_⟩
        · have h2 := h1.1
          have h3 : iv g (k + 1) = .int .i64 (R : Int) := by unfold iv; rw [hR]
          rw [← h3, fil_set] at h2
          rw [← h3]
          exact h2
        · exact (h1.2.block I (Array.getElem?_eq_some_iff.1 HI1.out).1 (fun e => by injection e with e; omega)).trans HI1.out
        · exact HB1.out.grown h1.2 (by have := HB1.out.size; omega) (fun q e => by injection e with e; omega))
      unfold iv at hcC
      clear hS
      obtain ⟨gk, hgk⟩ : ∃ gk, g (k + 1) = gk := ⟨_, rfl⟩
      rw [hgk] at HR
      have HGk := Lib.hid hgk
      obtain ⟨y0, hy0⟩ : ∃ y0, f (k + 1) = y0 := ⟨_, rfl⟩
      obtain ⟨f0, hf0⟩ : ∃ f0, f k = f0 := ⟨_, rfl⟩
      obtain ⟨g0, hg0⟩ : ∃ g0, g k = g0 := ⟨_, rfl⟩
      rw [hy0] at HR hb2 hcB
      rw [hf0] at HR hb1 hcA
      rw [hg0] at HR hb3 hcC
      clear hgk hy0 hf0 hg0
      obtain ⟨Y, hY⟩ : ∃ Y, y0 + 1 = Y := ⟨_, rfl⟩
      obtain ⟨Z, hZ⟩ : ∃ Z, g0 + 1 = Z := ⟨_, rfl⟩
      rw [hY, hZ] at HR
      have hYb : Y ≤ 101 := by omega
      have hZb : Z ≤ 101 := by omega
      have hwY : IntKind.i64.wrap ((y0 : Int) + 1) = (Y : Int) := by rw [i64_of _ (by omega)]; omega
      have hwZ : IntKind.i64.wrap ((g0 : Int) + 1) = (Z : Int) := by rw [i64_of _ (by omega)]; omega
      have hk1 : IntKind.i64.wrap ((k : Int) + 1) = (k : Int) + 1 := i64_of _ (by omega)
      have hk2 : (0 : Int) ≤ (k : Int) + 1 := by omega
      have hk3 : (k : Int) + 1 < (nn : Int) := by have := HNN.out; omega
      have hk4 : ((k : Int) + 1).toNat = k + 1 := by omega
      have hk5 : (0 : Int) ≤ (k : Int) := by omega
      have hk6 : (k : Int) < (nn : Int) := by omega
      clear hY hZ
      obtain ⟨q, hq⟩ : ∃ q, s[k].toNat = q := ⟨_, rfl⟩
      simp only [hq] at hnx
      rw [hq] at HR
      clear hq
      by_cases he : q = z
      · rw [if_pos he, Nat.add_zero] at HR
        have hne := ne_no he
        clear he
        rcases min3_ways HR.out with ⟨h1, h2, rfl⟩ | ⟨h1, h2, rfl⟩ | ⟨h1, h2, rfl⟩ | ⟨h1, h2, rfl⟩
        all_goals
          clear HR
          have HX := Lib.hid (HSt.out _ HGk.out)
          go_wp2
          go_still_tail 17, (by kernel_rfl)
          go_wp2
          go_roundw
          case rel => exact ⟨k + 1, by omega, ⟨_, rfl⟩, ⟨_, rfl⟩, ⟨_, rfl⟩, Lib.hid HX.out.1.drew, Lib.hid HX.out.2.1, Lib.hid (HX.out.2.2.trans (Below.refl _ _).drew)⟩
          case measure =>
            have e9 := HX.out.2.1
            rw [HP0.out]
            refine Nat.lt_of_le_of_lt (m := s.size - (k + 1)) (Nat.le_of_eq ?_) (by omega)
            simp [World.iterPos, World.drew, e9]
      · rw [if_neg he] at HR
        have hne := ne_yes he
        clear he
        obtain ⟨X, hX⟩ : ∃ X, f0 + 1 = X := ⟨_, rfl⟩
        rw [hX] at HR
        have hXb : X ≤ 101 := by omega
        have hwX : IntKind.i64.wrap ((f0 : Int) + 1) = (X : Int) := by rw [i64_of _ (by omega)]; omega
        have hwX2 : (f0 : Int) + 1 = (X : Int) := by omega
        clear hX
        rcases min3_ways HR.out with ⟨h1, h2, rfl⟩ | ⟨h1, h2, rfl⟩ | ⟨h1, h2, rfl⟩ | ⟨h1, h2, rfl⟩
        all_goals
          clear HR
          have HX := Lib.hid (HSt.out _ HGk.out)
          go_wp2
          go_still_tail 17, (by kernel_rfl)
          go_wp2
          go_roundw
          case rel => exact ⟨k + 1, by omega, ⟨_, rfl⟩, ⟨_, rfl⟩, ⟨_, rfl⟩, Lib.hid HX.out.1.drew, Lib.hid HX.out.2.1, Lib.hid (HX.out.2.2.trans (Below.refl _ _).drew)⟩
          case measure =>
            have e9 := HX.out.2.1
            rw [HP0.out]
            refine Nat.lt_of_le_of_lt (m := s.size - (k + 1)) (Nat.le_of_eq ?_) (by omega)
            simp [World.iterPos, World.drew, e9]
    · have hnx := fun ty => Lib.run_next_end_at (P := Try.prog) wr I s k ty HIt.out hlt
      have e : k + 1 = nn := by have := HNN.out; omega
      have HE : Hid (wr.ownsRow w.heap.size 3 1 (.slice (some ⟨w.heap.size, 0, none⟩) nn nn) nn (irow g nn)) := Lib.hid (by have := HO.out; rw [e, fil_all] at this; exact this)
      clear e
      go_wp2
      go_ret
      exact ⟨rfl, HE.out, HBw.out⟩

end Go.Proofs.Ytipkdoplgjgkpac
