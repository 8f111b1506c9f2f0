/-
  The laws' marks on a pressed tree: asking whether they are held.
-/
import Derived.Test.YtgmldhkipjadgaaMarkB
import Derived.Test.YtgmldhkipjadgaaOwnTrie
namespace Go.Proofs.Ytgmldhkipjadgaa
open Go.RowKit
set_option linter.unusedVariables false

set_option maxRecDepth 1000000 in
theorem markPressedRow_own (base n c k0 : Nat) (a : Option Addr) (t : List Br) (w : World) (h : w.ownsRow base 76 3 (.slice a n c) n (brc t)) (hbase : base ≤ w.heap.size) (hn : n ≤ 1048576) (hk : k0 ≤ 10) :
    Calls Try.prog 20 #[.agg #[.slice a n c], .int .i64 (k0 : Int)] w fun e w' => e = .returned (.int .i64 ((k0 + 3 * n : Nat) : Int)) ∧ w.grownBy w' (Value.ownBlock (.slice a n c)) ∧ w'.ownsRow base 76 3 (.slice a n c) n (brc (marksB k0 n)) := by
  rcases h.2 with ⟨e, e0⟩ | ⟨g, cap, cur, e, _⟩
  · injection e with e1 e2 e3
    subst e1 e2 e3
    have HO := Lib.hid h
    clear h
    have cN : Hid (∀ W, Calls Try.prog 47 #[.slice none 0 0, .int .i64 (k0 : Int)] W fun e w' => e = .returned (.int .i64 (k0 : Int)) ∧ W = w') := Lib.hid (fun W => by
      go_enter Try.func47, Try.ntmps47
      go_wp2
      go_loop [1, 5] (fun q i => q = .int .i64 k0 ∧ i = .int .i64 0) (fun _ _ => 0)
      case atStart => exact ⟨rfl, rfl⟩
      case round =>
        obtain ⟨rfl, rfl⟩ := hrel
        go_wp2
        go_ret
        exact ⟨rfl, rfl⟩)
    go_enter Try.func20, Try.ntmps20
    go_wp2_with fail
    refine (cN.out _).mono ?_
    rintro e w2 ⟨rfl, rfl⟩
    go_wp2_with fail
    go_ret
    exact ⟨rfl, World.grownBy_alloc w _ _, World.ownsRow_nil _ _ _ _⟩
  · injection e with e1 _ e3
    subst e1 e3
    have cN := Lib.hid (markBranches_own base g n c k0 t (w.alloc (.cells #[.slice (some ⟨g, 0, none⟩) n c] 29)) (h.alloc _) (by simp; omega) hn hk)
    clear h
    go_enter Try.func20, Try.ntmps20
    go_wp2_with fail
    refine cN.out.mono ?_
    rintro e w2 ⟨rfl, hb2, hO2⟩
    go_wp2_with fail
    go_ret
    exact ⟨rfl, (World.grownBy_alloc w _ _).trans hb2, hO2⟩

set_option maxRecDepth 1000000 in
set_option maxHeartbeats 1000000 in
theorem heldBranches_any (B k n c : Nat) (a : Option Addr) (w : World) (hB0 : B ≤ w.heap.size) (h : Brs B w a n c (marksB k n)) (hn : n ≤ 1048576) (hk : k ≤ 10) :
    Calls Try.prog 48 #[.slice a n c, .int .i64 (k : Int)] w fun e w' => e = .returned (.int .i64 ((k + 3 * n : Nat) : Int)) ∧ Below w.heap.size w w' := by
  have C := h.cap
  have T := h.top
  have H := Lib.hid h
  have HB := Lib.hid hB0
  clear h hB0
  go_enter Try.func48, Try.ntmps48
  go_wp2
  go_loopw [1, 5] (fun q i wr => ∃ (j m : Nat), j ≤ n ∧ i = .int .i64 j ∧ q = .int .i64 m ∧ Hid (m = k + 3 * j) ∧ m ≤ 10 + 3 * j ∧ Hid (Below w.heap.size w wr)) (fun _ i _ => n - (intOf i).toNat)
  case atStart => exact ⟨0, k, Nat.zero_le _, rfl, rfl, Lib.hid (by omega), by omega, Lib.hid (Below.refl _ _)⟩
  case round =>
    obtain ⟨j, m, hj, rfl, rfl, HM, hm, HBw⟩ := hrel
    by_cases hlt : j < n
    · obtain ⟨b, o, l, p, e, rfl, hbB, hd, hl, hp, hc1, hc2, hc3⟩ := (H.out.keep (HBw.out.mono HB.out)).elem j hlt
      rw [marksB_at hlt, ← HM.out] at hd
      have hd2 := Option.some.inj hd
      unfold mkb at hd2
      injection hd2 with e1 e2 e3
      have e1' : mt m = l := tx_inj e1
      subst e1' e2
      have cM := Lib.hid (fun W => markText_any m W (by omega))
      obtain ⟨sm, hsm⟩ : ∃ sm, mt m = sm := ⟨_, rfl⟩
      rw [hsm] at cM hc1
      obtain ⟨bb, hbb⟩ : ∃ bb, (((m : Int) + 1 + 1) % 3 == 0) = bb := ⟨_, rfl⟩
      rw [hbb] at e3
      subst e3
      have hq1 : (sm.toList != sm.toList) = false := by simp
      have hq2 : (((m : Int) + 1) != ((m : Int) + 1)) = false := by simp
      have hq3 : (bb != bb) = false := by cases bb <;> rfl
      have hbw : b < wr.heap.size := by have := HB.out; have := HBw.out.size; omega
      clear hd hsm hl hp e1
      have hi0 : (0 : Int) ≤ (j : Int) := by omega
      have hi1 : (j : Int) < (n : Int) := by omega
      have HSx : Hid (∀ W, Below wr.heap.size wr W → W.cell? ⟨b, o + j * 3, none⟩ = some (.string sm) ∧ W.cell? ⟨b, o + j * 3 + 1, none⟩ = some (.int .i64 ((m : Int) + 1)) ∧ W.cell? ⟨b, o + j * 3 + 2, none⟩ = some (.bool bb)) := Lib.hid (fun W hW => ⟨(hW.cell (p := ⟨b, o + j * 3, none⟩) hbw).trans hc1, (hW.cell (p := ⟨b, o + j * 3 + 1, none⟩) hbw).trans hc2, (hW.cell (p := ⟨b, o + j * 3 + 2, none⟩) hbw).trans hc3⟩)
      have HQd : Hid (Below wr.heap.size wr wr.drew) := Lib.hid (Below.refl _ _).drew
      clear hc1 hc2 hc3
      go_wp2_with fail
      go_region_held3 (fun w' => w'.cell? ⟨b, o + j * 3, none⟩ = some (.string sm))
        (first
          | exact (HSx.out _ hq9).1
          | exact (HSx.out _ HQd.out).1)
        (first
          | (go_at_call 78; with_reducible refine (cM.out wr.drew).mono ?_; rintro e9 w9 ⟨rfl, hb9⟩; have hq9 := HQd.out.trans (hb9.mono HQd.out.size); clear hb9))
      have hd2 := (HSx.out _ hq9).2.1
      have hd3 := (HSx.out _ hq9).2.2
      have HB9 := Lib.hid (HBw.out.trans (hq9.mono HBw.out.size))
      clear hq9
      go_wp2
      go_roundw
      case rel => exact ⟨j + 1, m + 3, by omega, by go_num, by first | rfl | (congr 1; omega), Lib.hid (by rw [HM.out]; omega), by omega, HB9⟩
      case measure => simp [intOf]; omega
    · have HF : Hid (m = k + 3 * n) := Lib.hid (by rw [HM.out]; omega)
      go_wp2
      go_ret
      exact ⟨ret_num (by rw [HF.out]), HBw.out⟩

set_option maxRecDepth 1000000 in
theorem heldPressed_any (B k n c : Nat) (a : Option Addr) (w : World) (hB : B ≤ w.heap.size) (h : Brs B w a n c (marksB k n)) (hn : n ≤ 1048576) (hk : k ≤ 10) :
    Calls Try.prog 21 #[.agg #[.slice a n c], .int .i64 (k : Int)] w fun e w' => e = .returned (.int .i64 ((k + 3 * n : Nat) : Int)) ∧ Below w.heap.size w w' := by
  have cN := Lib.hid (heldBranches_any B k n c a (w.alloc (.cells #[.slice a n c] 29)) (by simp; omega) (h.keep ((Below.refl _ _).alloc hB _)) hn hk)
  have HB1 : Hid (Below w.heap.size w (w.alloc (.cells #[.slice a n c] 29))) := Lib.hid ((Below.refl _ _).alloc (Nat.le_refl _) _)
  have hq0 : ¬ (((k + 3 * n : Nat) : Int) < 0) := by omega
  clear h
  go_enter Try.func21, Try.ntmps21
  go_wp2_with fail
  refine cN.out.mono ?_
  rintro e w2 ⟨rfl, hb2⟩
  go_wp2_with fail
  go_ret
  exact ⟨ret_num (by omega), HB1.out.trans (hb2.mono HB1.out.size)⟩

end Go.Proofs.Ytgmldhkipjadgaa
