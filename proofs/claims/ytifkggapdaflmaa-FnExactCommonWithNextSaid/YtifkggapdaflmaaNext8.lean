/-
  CommonWithNext: both functions answer the same.
-/
import Derived.Test.YtifkggapdaflmaaEnds8
import Derived.Test.YtifkggapdaflmaaOrdered8
import Derived.Test.YtifkggapdaflmaaCom8
import Derived.Test.YtifkggapdaflmaaStepA
import Derived.Test.YtifkggapdaflmaaMarkOwnI
import Derived.Deep.RegionHeld3
import Derived.IntWalk
namespace Go.Proofs.Ytifkggapdaflmaa
open Go.RowKit
set_option linter.unusedVariables false

def nxt (x : Txt) : List Nat := adj (endsO x) ((endsO x).length - 1)
theorem nxt_len (x : Txt) : (nxt x).length = x.length - 1 := by unfold nxt; rw [adj_len, endsO_len]

theorem own_some {base : Nat} {w : World} {e : TypeId} {n c : Nat} {a : Option Addr} {xs : List Value} (h : w.ownsRow base e 1 (.slice a n c) n xs) (hn : 0 < n) : ∃ g, a = some ⟨g, 0, none⟩ := by
  rcases h.2 with ⟨_, h0⟩ | ⟨g, cap, cur, h', _⟩
  · omega
  · injection h' with h1
    exact ⟨g, h1⟩

theorem plo_at {n : Nat} {E : List Txt} {j : Nat} {x : Txt} (h : E[j]? = some x) : (plo n E)[j]? = some (n - x.length) := by simp [plo, h]

theorem end_bx {s : ByteArray} {x : Txt} (h : x ∈ endsO (tx s)) : s.extract (s.size - x.length) s.size = bx x := by
  rw [sub_bx]
  have := (endsO_drop h).1
  rw [tx_len] at this
  rw [this]

set_option maxRecDepth 1000000 in
set_option maxHeartbeats 4000000 in
theorem specNext_any (s : ByteArray) (hs : s.size ≤ 1048576) (w : World) :
    Calls Try.prog 28 #[.string s] w (ownI.OwnNums w (if okT s = true then nxt (tx s) else []) (okT s)) := by
  have cT := Lib.hid (fun W => l8Text_any s W (by omega))
  have HL0 : Hid ((w.alloc (.cells #[] 3)).ownsRow w.heap.size 3 1 (.slice (some ⟨w.heap.size, 0, none⟩) 0 0) 0 []) := Lib.hid (World.ownsRow_lit w #[] 0 (Nat.le_refl _) (by unfold maxLen; omega) rfl)
  have HB0 : Hid (Below w.heap.size w (w.alloc (.cells #[] 3))) := Lib.hid ((Below.refl _ _).alloc (Nat.le_refl _) _)
  have hz0 : Hid ((w.alloc (.cells #[] 3)).heap.size = w.heap.size + 1) := Lib.hid (by simp)
  unfold ownI.OwnNums
  cases ht : okT s with
  | true =>
    have h16 := okT_size ht
    rw [ht] at cT
    rw [if_pos rfl]
    have cP := Lib.hid (fun W => l8Ends_any s W h16)
    have HLn : Hid ((endsO (tx s)).length = s.size) := Lib.hid (by rw [endsO_len, tx_len])
    have HPl : Hid ((plo s.size (endsO (tx s))).length = s.size) := Lib.hid (by rw [plo_len, HLn.out])
    obtain ⟨i0, hii, hz0', hz1, hz2⟩ := info_parts infoI
    obtain ⟨n, hn⟩ : ∃ n, (plo s.size (endsO (tx s))).length = n := ⟨_, rfl⟩
    have hns : n = s.size := by rw [← hn]; exact HPl.out
    have HNS := Lib.hid hns
    rw [hn] at cP
    have hn16 : n ≤ 16 := by omega
    clear ht hn hns
    go_enter Try.func28, Try.ntmps28
    go_wp2_with fail
    refine (cT.out _).mono ?_
    rintro e w1 ⟨rfl, rfl⟩
    obtain ⟨w1, hw1⟩ : ∃ w1, w.alloc (.cells #[] 3) = w1 := ⟨_, rfl⟩
    rw [hw1] at HL0 HB0 hz0 ⊢
    clear hw1
    go_wp2_with fail
    refine (cP.out _).mono ?_
    rintro e w2 ⟨v, rfl, hO, hb2⟩
    obtain ⟨a, c, rfl⟩ := own_slice hO
    have HE2 := Lib.hid hO
    have HB2 := Lib.hid (HB0.out.trans (hb2.mono HB0.out.size))
    have HL2 := Lib.hid (own_stay HL0.out hb2)
    have h12 := hb2.size
    have h01 : w1.heap.size = w.heap.size + 1 := hz0.out
    clear hO hb2 HL0 HB0 hz0
    have HZ01 := Lib.hid h01
    clear h01
    have hz01 : w.heap.size < w1.heap.size := by rw [HZ01.out]; omega
    have hfar0 : ∀ x : Nat, (Value.slice a n c).ownBlock = some x → w1.heap.size ≤ x ∧ x < w2.heap.size := fun x hx => own_ge HE2.out hx
    have HFar := Lib.hid hfar0
    clear hfar0
    go_wp2_with fail
    go_loopw [4, 6] (fun o i wr => ∃ (j g c2 : Nat), (j = 0 ∨ j + 1 ≤ n) ∧ i = .int .i64 j ∧ o = .slice (some ⟨g, 0, none⟩) j c2 ∧ (g = w.heap.size ∨ w2.heap.size ≤ g) ∧ Hid (wr.ownsRow w.heap.size 3 1 (.slice (some ⟨g, 0, none⟩) j c2) j (nums (adj (endsO (tx s)) j))) ∧ Hid (wr.ownsRow w1.heap.size 3 1 (.slice a n c) n (nums (plo s.size (endsO (tx s))))) ∧ w2.heap.size ≤ wr.heap.size ∧ Hid (Below w.heap.size w wr)) (fun _ i _ => n - (intOf i).toNat)
    case atStart => exact ⟨0, w.heap.size, 0, .inl rfl, rfl, rfl, .inl rfl, HL2, HE2, Nat.le_refl _, HB2⟩
    case round =>
      clear HL2 HE2 HB2
      obtain ⟨j, g, c2, hj, rfl, rfl, hg, HO, HE, hzr, HB⟩ := hrel
      by_cases hlt : j + 1 < n
      · have hlt1 : j < (endsO (tx s)).length := by rw [HLn.out, ← HNS.out]; omega
        have hlt2 : j + 1 < (endsO (tx s)).length := by rw [HLn.out, ← HNS.out]; omega
        obtain ⟨x, hx⟩ : ∃ x, (endsO (tx s))[j]? = some x := ⟨_, List.getElem?_eq_getElem hlt1⟩
        obtain ⟨y, hy⟩ : ∃ y, (endsO (tx s))[j + 1]? = some y := ⟨_, List.getElem?_eq_getElem hlt2⟩
        have HBx := Lib.hid (end_bx (List.mem_of_getElem? hx))
        have HBy := Lib.hid (end_bx (List.mem_of_getElem? hy))
        obtain ⟨ge, rfl⟩ := own_some HE.out (by omega)
        have hgr := HFar.out ge rfl
        have hcx := (HE.out.cellAt j (by omega)).trans (nums_at (plo_at hx))
        have hcy := (HE.out.cellAt (j + 1) (by omega)).trans (nums_at (plo_at hy))
        have HAdj : Hid (adj (endsO (tx s)) (j + 1) = adj (endsO (tx s)) j ++ [com x y]) := Lib.hid (by
          rw [adj_succ, List.getD, List.getD, hx, hy]; rfl)
        have hxl := (endsO_drop (List.mem_of_getElem? hx)).2
        have hyl := (endsO_drop (List.mem_of_getElem? hy)).2
        rw [tx_len] at hxl hyl
        obtain ⟨p1, hp1⟩ : ∃ p1, s.size - x.length = p1 := ⟨_, rfl⟩
        obtain ⟨p2, hp2⟩ : ∃ p2, s.size - y.length = p2 := ⟨_, rfl⟩
        rw [hp1] at hcx HBx
        rw [hp2] at hcy HBy
        have cC : Hid (∀ W, Calls Try.prog 42 #[.string (s.extract p1 s.size), .string (s.extract p2 s.size)] W fun e w' => e = .returned (.int .i64 (com x y : Int)) ∧ Below W.heap.size W w') := Lib.hid (fun W => by
          rw [HBx.out, HBy.out]
          have := l8Common_any (bx x) (bx y) W (by rw [bx_size]; omega) (by rw [bx_size]; omega)
          rwa [tx_bx, tx_bx] at this)
        have hq1 : (0 : Int) ≤ (p1 : Int) := by omega
        have hq2 : (p1 : Int) ≤ (s.size : Int) := by omega
        have hq3 : (0 : Int) ≤ (p2 : Int) := by omega
        have hq4 : (p2 : Int) ≤ (s.size : Int) := by omega
        have hj0 : (0 : Int) ≤ (j : Int) := by omega
        have hj1 : (j : Int) < (n : Int) := by omega
        have hw1 : IntKind.i64.wrap ((j : Int) + 1) = (j : Int) + 1 := IntWalk.i64_in _ (by omega)
        have hj2 : (0 : Int) ≤ (j : Int) + 1 := by omega
        have hj3 : (j : Int) + 1 < (n : Int) := by omega
        have hj4 : ((j : Int) + 1).toNat = j + 1 := by omega
        obtain ⟨m, hm⟩ : ∃ m, com x y = m := ⟨_, rfl⟩
        rw [hm] at cC HAdj
        have HBd : Hid (Below wr.heap.size wr wr.drew) := Lib.hid (Below.refl _ _).drew
        have HS3 : Hid (∀ W, Below wr.heap.size wr W → W.cell? ⟨ge, j, none⟩ = some (.int .i64 (p1 : Int)) ∧ W.cell? ⟨ge, j + 1, none⟩ = some (.int .i64 (p2 : Int))) := Lib.hid (fun W hb => ⟨(hb.cell (p := ⟨ge, j, none⟩) (by show ge < _; omega)).trans hcx, (hb.cell (p := ⟨ge, j + 1, none⟩) (by show ge < _; omega)).trans hcy⟩)
        have hbase : w.heap.size ≤ wr.heap.size := by omega
        have hjm : j + 1 ≤ maxLen := by unfold maxLen; omega
        have hjb : (j + 1) * 8 ≤ 140737488355328 := by omega
        clear hx hy hxl hyl hp1 hp2 hm
        go_wp2_with fail
        go_region_held3 (fun w' => w'.cell? ⟨ge, j, none⟩ = some (.int .i64 (p1 : Int)) ∧ w'.cell? ⟨ge, j + 1, none⟩ = some (.int .i64 (p2 : Int)))
          (first
            | exact HS3.out _ HBd.out
            | exact HS3.out _ (HBd.out.trans hb5)
            | exact HS3.out _ ((HBd.out.trans hb5).alloc (HBd.out.trans hb5).size _)
            | exact ⟨(hG6.cell_far ⟨ge, j, none⟩ (by simp; omega) (by simp only [Value.ownBlock]; intro e; injection e with e; simp only at e; omega)).trans ((World.cell?_alloc_lt _ _ _ (by show ge < _; omega)).trans (HS3.out _ (HBd.out.trans hb5)).1), (hG6.cell_far ⟨ge, j + 1, none⟩ (by simp; omega) (by simp only [Value.ownBlock]; intro e; injection e with e; simp only at e; omega)).trans ((World.cell?_alloc_lt _ _ _ (by show ge < _; omega)).trans (HS3.out _ (HBd.out.trans hb5)).2)⟩)
          (first
            | (go_at_call 42; refine (cC.out _).mono ?_; rintro e w5 ⟨rfl, hb5'⟩; have hb5 : Below wr.heap.size wr.drew w5 := hb5'; have hz5 : wr.heap.size ≤ w5.heap.size := hb5.size)
            | (refine step_append_row rfl _ _ 30 rfl w.heap.size 3 i0 (.int .i64 0) 1 8 Try.underlying30 hii hz0' hz1 hz2 rfl (by decide) _ _ _ rfl ((own_stay HO.out (HBd.out.trans hb5)).alloc _) ⟨w5.heap.size, 0, none⟩ 1 1 [.int .i64 (m : Int)] rfl rfl (cell_one_new _ _ _) (by simp [Value.oneCell']) hjm hjb (by simp; omega) ?_; intro v6 w6 hO6 hG6 hat6))
        obtain ⟨g', cap', rfl⟩ := own_succ hO6
        have HO6 := Lib.hid hO6
        have HG6 : Hid ((w5.alloc (.cells #[.int .i64 (m : Int)] 3)).grownBy w6 (some g)) := Lib.hid hG6
        have HAt : Hid ((some g' : Option Nat) = some g ∨ some g' = some (w5.alloc (.cells #[.int .i64 (m : Int)] 3)).heap.size) := Lib.hid hat6
        have HB5 := Lib.hid (HBd.out.trans hb5)
        clear hO6 hG6 hat6
        have hag : g' = w.heap.size ∨ w2.heap.size ≤ g' := by
          rcases HAt.out with h | h
          · injection h with h; omega
          · injection h with h; rw [World.size_alloc] at h; exact .inr (by omega)
        have hz6 := HG6.out.size
        rw [World.size_alloc] at hz6
        have HB6 : Hid (Below w.heap.size w w6) := Lib.hid (((HB.out.trans (HB5.out.mono hbase)).alloc (by omega) _).trans (below_grown ((own_stay HO.out HB5.out).alloc _) (Nat.le_refl _) (by simp; omega) HG6.out))
        have HE6 := Lib.hid (((own_stay HE.out HB5.out).alloc (.cells #[.int .i64 (m : Int)] 3)).kept HG6.out (.inr (by simp only [Value.ownBlock]; intro e; injection e with e; omega)))
        have hz6' : w2.heap.size ≤ w6.heap.size := by omega
        clear hz6 hcx hcy hw1 hj4 hb5 hb5'
        go_wp2
        go_roundw
        case rel => exact ⟨j + 1, g', cap', .inr (by omega), by go_num, rfl, hag, Lib.hid (by rw [HAdj.out, nums_app]; exact HO6.out), HE6, hz6', HB6⟩
        case measure => simp [intOf]; omega
      · have HF : Hid (adj (endsO (tx s)) j = nxt (tx s)) := Lib.hid (by unfold nxt; rw [HLn.out, ← HNS.out, show n - 1 = j by omega])
        have HL2 : Hid ((nxt (tx s)).length = j) := Lib.hid (by rw [← HF.out, adj_len])
        go_wp2
        go_ret2
        exact ⟨_, rfl, by rw [HL2.out, ← HF.out]; exact HO.out, HB.out⟩
  | false =>
    rw [ht] at cT
    rw [if_neg (by simp)]
    clear ht
    go_enter Try.func28, Try.ntmps28
    go_wp2_with fail
    refine (cT.out _).mono ?_
    rintro e w1 ⟨rfl, rfl⟩
    go_wp2
    go_ret2
    exact ⟨_, rfl, HL0.out, HB0.out⟩

end Go.Proofs.Ytifkggapdaflmaa
