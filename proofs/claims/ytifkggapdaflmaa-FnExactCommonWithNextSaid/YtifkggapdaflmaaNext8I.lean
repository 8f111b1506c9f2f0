/-
  CommonWithNext: the program's function; both answer the same.
-/
import Derived.Test.YtifkggapdaflmaaNext8
namespace Go.Proofs.Ytifkggapdaflmaa
open Go.RowKit
set_option linter.unusedVariables false

set_option maxRecDepth 1000000 in
set_option maxHeartbeats 4000000 in
theorem implNext_any (s : ByteArray) (hs : s.size ≤ 1048576) (w : World) :
    Calls Try.prog 29 #[.string s] w (ownI.OwnNums w (if okT s = true then nxt (tx s) else []) (okT s)) := by
  have cT := Lib.hid (fun W => implIsText_any s W (by omega))
  unfold ownI.OwnNums
  cases ht : okT s with
  | true =>
    have h16 := okT_size ht
    rw [ht] at cT
    rw [if_pos rfl]
    have cE := Lib.hid (fun W => endsByPlace_any s W ht)
    have HLn : Hid ((endsO (tx s)).length = s.size) := Lib.hid (by rw [endsO_len, tx_len])
    have HSrt := Lib.hid (sorted_ends (tx s))
    obtain ⟨i0, hii, hz0', hz1, hz2⟩ := info_parts infoI
    obtain ⟨n, hn⟩ : ∃ n, s.size = n := ⟨_, rfl⟩
    have HNN := Lib.hid hn
    rw [hn] at cE HLn
    have hn16 : n ≤ 16 := by omega
    have HXl : Hid (∀ x ∈ endsO (tx s), x.length ≤ 16) := Lib.hid (fun x hx => by
      have := (endsO_drop hx).2.2
      rw [tx_len] at this
      omega)
    clear ht hn h16
    go_enter Try.func29, Try.ntmps29
    go_wp2_with fail
    refine (cT.out _).mono ?_
    rintro e w1 ⟨rfl, hb1⟩
    have HB1 := Lib.hid hb1
    clear hb1
    go_wp2_with fail
    refine (cE.out _).mono ?_
    rintro e w2 ⟨rfl, hO2, hb2⟩
    have HE2 := Lib.hid hO2
    have HB2 := Lib.hid (HB1.out.trans (hb2.mono HB1.out.size))
    clear hO2 hb2 HB1
    go_wp2_with fail
    refine (orderedEnds_any _ _ _ _ _ w2 HE2.out (by omega)).mono ?_
    rintro e w4 ⟨rfl, hO4, hb4⟩
    rw [HSrt.out] at hO4
    have h02 := HB2.out.size
    have h24 : w2.heap.size < w4.heap.size := own_lt hO4
    have HO4 := Lib.hid (hO4.alloc (.cells #[] 3))
    have HB4' := Lib.hid (HB2.out.trans (hb4.mono HB2.out.size))
    have HL4 : Hid ((w4.alloc (.cells #[] 3)).ownsRow w.heap.size 3 1 (.slice (some ⟨w4.heap.size, 0, none⟩) 0 0) 0 []) := Lib.hid (World.ownsRow_lit w4 #[] 0 (by omega) (by unfold maxLen; omega) rfl)
    have HB4 : Hid (Below w.heap.size w (w4.alloc (.cells #[] 3))) := Lib.hid (HB4'.out.alloc (by omega) _)
    have hz5 : Hid ((w4.alloc (.cells #[] 3)).heap.size = w4.heap.size + 1) := Lib.hid (by simp)
    clear hO4 hb4 HE2 HB2 HB4'
    go_wp2_with fail
    obtain ⟨w5, hw5⟩ : ∃ w5, w4.alloc (.cells #[] 3) = w5 := ⟨_, rfl⟩
    rw [hw5] at HO4 HL4 HB4 hz5 ⊢
    clear hw5
    have hzz5 : w4.heap.size < w5.heap.size := by rw [hz5.out]; omega
    go_loopw [5, 6] (fun o i wr => ∃ (j g c2 : Nat), (j = 0 ∨ j + 1 ≤ n) ∧ i = .int .i64 ((j + 1 : Nat) : Int) ∧ o = .slice (some ⟨g, 0, none⟩) j c2 ∧ (w4.heap.size ≤ g) ∧ Hid (wr.ownsRow w.heap.size 3 1 (.slice (some ⟨g, 0, none⟩) j c2) j (nums (adj (endsO (tx s)) j))) ∧ Hid (wr.ownsRow w2.heap.size 9 1 (.slice (some ⟨w2.heap.size, 0, none⟩) n n) n (txs (endsO (tx s)))) ∧ w5.heap.size ≤ wr.heap.size ∧ Hid (Below w.heap.size w wr)) (fun _ i _ => n + 1 - (intOf i).toNat)
    case atStart => exact ⟨0, w4.heap.size, 0, .inl rfl, rfl, rfl, Nat.le_refl _, HL4, HO4, Nat.le_refl _, HB4⟩
    case round =>
      clear HL4 HO4 HB4
      obtain ⟨j, g, c2, hj, rfl, rfl, hg, HO, HE, hzr, HB⟩ := hrel
      by_cases hlt : j + 1 < n
      · have hlt1 : j < (endsO (tx s)).length := by rw [HLn.out]; omega
        have hlt2 : j + 1 < (endsO (tx s)).length := by rw [HLn.out]; omega
        obtain ⟨x, hx⟩ : ∃ x, (endsO (tx s))[j]? = some x := ⟨_, List.getElem?_eq_getElem hlt1⟩
        obtain ⟨y, hy⟩ : ∃ y, (endsO (tx s))[j + 1]? = some y := ⟨_, List.getElem?_eq_getElem hlt2⟩
        have hcx := (HE.out.cellAt j (by omega)).trans (txs_at hx)
        have hcy := (HE.out.cellAt (j + 1) (by omega)).trans (txs_at hy)
        have HAdj : Hid (adj (endsO (tx s)) (j + 1) = adj (endsO (tx s)) j ++ [com x y]) := Lib.hid (by
          rw [adj_succ, List.getD, List.getD, hx, hy]; rfl)
        have hxl := HXl.out x (List.mem_of_getElem? hx)
        have hyl := HXl.out y (List.mem_of_getElem? hy)
        have cC : Hid (∀ W, Calls Try.prog 43 #[.string (bx x), .string (bx y)] W fun e w' => e = .returned (.int .i64 (com x y : Int)) ∧ Below W.heap.size W w') := Lib.hid (fun W => by
          have := countSharedS_any (bx x) (bx y) W (by rw [bx_size]; omega) (by rw [bx_size]; omega)
          rwa [tx_bx, tx_bx] at this)
        obtain ⟨p1, hp1⟩ : ∃ p1, bx x = p1 := ⟨_, rfl⟩
        obtain ⟨p2, hp2⟩ : ∃ p2, bx y = p2 := ⟨_, rfl⟩
        rw [hp1] at hcx
        rw [hp2] at hcy
        rw [hp1, hp2] at cC
        have hj0 : (0 : Int) ≤ (j : Int) := by omega
        have hj1 : (j : Int) < (n : Int) := by omega
        have hw1 : IntKind.i64.wrap (((j + 1 : Nat) : Int) - 1) = (j : Int) := by rw [IntWalk.i64_in _ (by omega)]; omega
        have hw2 : IntKind.i64.wrap ((j : Int) + 1 - 1) = (j : Int) := by rw [IntWalk.i64_in _ (by omega)]; omega
        have hw3 : IntKind.i64.wrap (j : Int) = (j : Int) := IntWalk.i64_in _ (by omega)
        have hj2 : (0 : Int) ≤ ((j + 1 : Nat) : Int) := by omega
        have hj3 : ((j + 1 : Nat) : Int) < (n : Int) := by omega
        have hj5 : (0 : Int) ≤ (j : Int) + 1 := by omega
        have hj6 : (j : Int) + 1 < (n : Int) := by omega
        have hj4 : ((j : Int) + 1).toNat = j + 1 := by omega
        obtain ⟨m, hm⟩ : ∃ m, com x y = m := ⟨_, rfl⟩
        rw [hm] at cC HAdj
        have HBd : Hid (Below wr.heap.size wr wr.drew) := Lib.hid (Below.refl _ _).drew
        have hgr : w2.heap.size < wr.heap.size := by omega
        have HS3 : Hid (∀ W, Below wr.heap.size wr W → W.cell? ⟨w2.heap.size, j, none⟩ = some (.string p1) ∧ W.cell? ⟨w2.heap.size, j + 1, none⟩ = some (.string p2)) := Lib.hid (fun W hb => ⟨(hb.cell (p := ⟨w2.heap.size, j, none⟩) (by show w2.heap.size < _; omega)).trans hcx, (hb.cell (p := ⟨w2.heap.size, j + 1, none⟩) (by show w2.heap.size < _; omega)).trans hcy⟩)
        have hbase : w.heap.size ≤ wr.heap.size := by omega
        have hjm : j + 1 ≤ maxLen := by unfold maxLen; omega
        have hjb : (j + 1) * 8 ≤ 140737488355328 := by omega
        clear hx hy hxl hyl hp1 hp2 hm
        go_wp2_with fail
        go_region_held3 (fun w' => w'.cell? ⟨w2.heap.size, j, none⟩ = some (.string p1) ∧ w'.cell? ⟨w2.heap.size, j + 1, none⟩ = some (.string p2))
          (first
            | exact HS3.out _ HBd.out
            | exact HS3.out _ (HBd.out.trans hb5)
            | exact HS3.out _ ((HBd.out.trans hb5).alloc (HBd.out.trans hb5).size _)
            | exact ⟨(hG6.cell_far ⟨w2.heap.size, j, none⟩ (by simp; omega) (by simp only [Value.ownBlock]; intro e; injection e with e; simp only at e; omega)).trans ((World.cell?_alloc_lt _ _ _ (by show w2.heap.size < _; omega)).trans (HS3.out _ (HBd.out.trans hb5)).1), (hG6.cell_far ⟨w2.heap.size, j + 1, none⟩ (by simp; omega) (by simp only [Value.ownBlock]; intro e; injection e with e; simp only at e; omega)).trans ((World.cell?_alloc_lt _ _ _ (by show w2.heap.size < _; omega)).trans (HS3.out _ (HBd.out.trans hb5)).2)⟩)
          (first
            | (go_at_call 43; refine (cC.out _).mono ?_; rintro e w7 ⟨rfl, hb5'⟩; have hb5 : Below wr.heap.size wr.drew w7 := hb5'; have hz7 : wr.heap.size ≤ w7.heap.size := hb5.size)
            | (refine step_append_row rfl _ _ 30 rfl w.heap.size 3 i0 (.int .i64 0) 1 8 Try.underlying30 hii hz0' hz1 hz2 rfl (by decide) _ _ _ rfl ((own_stay HO.out (HBd.out.trans hb5)).alloc _) ⟨w7.heap.size, 0, none⟩ 1 1 [.int .i64 (m : Int)] rfl rfl (cell_one_new _ _ _) (by simp [Value.oneCell']) hjm hjb (by simp; omega) ?_; intro v6 w6 hO6 hG6 hat6))
        obtain ⟨g', cap', rfl⟩ := own_succ hO6
        have HO6 := Lib.hid hO6
        have HG6 : Hid ((w7.alloc (.cells #[.int .i64 (m : Int)] 3)).grownBy w6 (some g)) := Lib.hid hG6
        have HAt : Hid ((some g' : Option Nat) = some g ∨ some g' = some (w7.alloc (.cells #[.int .i64 (m : Int)] 3)).heap.size) := Lib.hid hat6
        have HB5 := Lib.hid (HBd.out.trans hb5)
        clear hO6 hG6 hat6
        have hag : w4.heap.size ≤ g' := by
          rcases HAt.out with h | h
          · injection h with h; omega
          · injection h with h; rw [World.size_alloc] at h; omega
        have hz6 := HG6.out.size
        rw [World.size_alloc] at hz6
        have HB6 : Hid (Below w.heap.size w w6) := Lib.hid (((HB.out.trans (HB5.out.mono hbase)).alloc (by omega) _).trans (below_grown ((own_stay HO.out HB5.out).alloc _) (Nat.le_refl _) (by simp; omega) HG6.out))
        have HE6 := Lib.hid (((own_stay HE.out HB5.out).alloc (.cells #[.int .i64 (m : Int)] 3)).kept HG6.out (.inr (by simp only [Value.ownBlock]; intro e; injection e with e; omega)))
        have hz6' : w5.heap.size ≤ w6.heap.size := by omega
        clear hz6 hcx hcy hw1 hw2 hw3 hj4 hb5 hb5'
        go_wp2
        go_roundw
        case rel => exact ⟨j + 1, g', cap', .inr (by omega), by go_num, rfl, hag, Lib.hid (by rw [HAdj.out, nums_app]; exact HO6.out), HE6, hz6', HB6⟩
        case measure => simp [intOf]; omega
      · have HF : Hid (adj (endsO (tx s)) j = nxt (tx s)) := Lib.hid (by unfold nxt; rw [HLn.out, show n - 1 = j by omega])
        have HL2 : Hid ((nxt (tx s)).length = j) := Lib.hid (by rw [← HF.out, adj_len])
        go_wp2
        go_ret2
        exact ⟨_, rfl, by rw [HL2.out, ← HF.out]; exact HO.out, HB.out⟩
  | false =>
    rw [ht] at cT
    rw [if_neg (by simp)]
    clear ht
    go_enter Try.func29, Try.ntmps29
    go_wp2_with fail
    refine (cT.out _).mono ?_
    rintro e w1 ⟨rfl, hb1⟩
    have HB1 := Lib.hid hb1
    clear hb1
    go_wp2
    go_ret2
    exact ⟨_, rfl, ⟨rfl, .inl ⟨rfl, rfl⟩⟩, HB1.out⟩

theorem agreeCommonWithNext (s : ByteArray) (hs : s.size ≤ 1048576) : ∃ (ws : List Nat) (ok : Bool), ws.length ≤ 1000 ∧
    (∀ W : World, Calls Try.prog 28 #[.string s] W (ownI.OwnNums W ws ok)) ∧
    (∀ W : World, Calls Try.prog 29 #[.string s] W (ownI.OwnNums W ws ok)) := by
  refine ⟨_, _, ?_, specNext_any s hs, implNext_any s hs⟩
  split
  · next h => have := okT_size h; rw [nxt_len, tx_len]; omega
  · simp

end Go.Proofs.Ytifkggapdaflmaa
