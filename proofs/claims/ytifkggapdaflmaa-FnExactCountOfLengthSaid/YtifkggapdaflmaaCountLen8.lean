/-
  CountOfLength: both functions answer the same.
-/
import Derived.Test.YtifkggapdaflmaaSubs8
import Derived.Test.YtifkggapdaflmaaBes2
import Derived.Test.YtifkggapdaflmaaMarkOwnI
import Derived.Deep.RegionHeld3
import Derived.IntWalk
namespace Go.Proofs.Ytifkggapdaflmaa
open Go.RowKit
set_option linter.unusedVariables false

/-- what both loops carry -/
structure CL (w : World) (G nn N B : Nat) (a : Option Addr) (n c : Nat) (ps : List Txt) (k : Nat) (wr : World) : Prop where
  own : wr.ownsRow w.heap.size 3 1 (.slice (some ⟨G, 0, none⟩) nn nn) nn (nums (cnts N (ps.take k)))
  bes : Bes B wr a n c ps G
  le : B ≤ wr.heap.size
  bel : Below w.heap.size w wr

theorem CL.step {w : World} {G nn N B : Nat} {a : Option Addr} {n c : Nat} {ps : List Txt} {k : Nat} {wr : World} (h : CL w G nn N B a n c ps k wr) {x : Txt} (hx : ps[k]? = some x) (hl : x.length ≤ N) :
    CL w G nn N B a n c ps (k + 1) (wr.setCell ⟨G, x.length, none⟩ (.int .i64 ((cnt (ps.take k) x.length + 1 : Nat) : Int))) := by
  have hst := h.own.stored x.length (.int .i64 ((cnt (ps.take k) x.length + 1 : Nat) : Int))
  obtain ⟨hk, e⟩ := List.getElem?_eq_some_iff.1 hx
  have e1 : ps.take (k + 1) = ps.take k ++ [x] := by rw [List.take_succ_eq_append_getElem hk, e]
  have hg := own_base h.own
  refine ⟨?_, h.bes.grown h.le hst.2, ?_, h.bel.grown hst.2 h.bel.size (fun j e => by injection e with e; omega)⟩
  · rw [e1, cnts_snoc _ _ _ hl, ← nums_set]
    exact hst.1
  · have := h.le; simpa using this

theorem CL.at {w : World} {G nn N B : Nat} {a : Option Addr} {n c : Nat} {ps : List Txt} {k : Nat} {wr : World} (h : CL w G nn N B a n c ps k wr) (hn : nn = N + 1) {j : Nat} (hj : j ≤ N) :
    wr.cell? ⟨G, j, none⟩ = some (.int .i64 (cnt (ps.take k) j : Int)) ∧ wr.frozen? ⟨G, j, none⟩ = false :=
  ⟨(h.own.cellAt j (by omega)).trans (nums_at (cnts_get N _ j hj)), h.own.frozenAt j⟩

/-- the row behind its first store -/
theorem CL.start {w wx : World} {G nn N B : Nat} {a : Option Addr} {n c : Nat} {ps : List Txt} (hBl : B ≤ wx.heap.size) (hn : nn = N + 1) (hO : wx.ownsRow w.heap.size 3 1 (.slice (some ⟨G, 0, none⟩) nn nn) nn (List.replicate nn (.int .i64 0))) (hS : Bes B wx a n c ps G) (hB : Below w.heap.size w wx) :
    CL w G nn N B a n c ps 0 (wx.setCell ⟨G, 0, none⟩ (.int .i64 1)) := by
  have hst := hO.stored 0 (.int .i64 ((1 : Nat) : Int))
  have hg := own_base hO
  refine ⟨?_, hS.grown hBl hst.2, by simpa using hBl, hB.grown hst.2 hB.size (fun j e => by injection e with e; omega)⟩
  have h9 := hst.1
  rw [List.take_zero, cnts_nil]
  have e : (List.replicate nn (Value.int .i64 0)).set 0 (.int .i64 ((1 : Nat) : Int)) = nums (1 :: List.replicate N 0) := by rw [hn]; simp [nums, List.replicate_succ]
  rw [e] at h9
  exact h9

theorem CL.all {w : World} {G nn N B : Nat} {a : Option Addr} {n c : Nat} {ps : List Txt} {k : Nat} {wr : World} (h : CL w G nn N B a n c ps k wr) (hn : nn = N + 1) (hk : ps.length ≤ k) : wr.ownsRow w.heap.size 3 1 (.slice (some ⟨G, 0, none⟩) nn nn) (cnts N ps).length (nums (cnts N ps)) := by
  have := h.own
  rw [List.take_of_length_le hk] at this
  rwa [cnts_len, ← hn]

set_option maxRecDepth 1000000 in
set_option maxHeartbeats 4000000 in
theorem specCountLen_any (s : ByteArray) (hs : s.size ≤ 1048576) (w : World) :
    Calls Try.prog 19 #[.string s] w (ownI.OwnNums w (if okT s = true then cnts s.size (prt (tx s)) else []) (okT s)) := by
  have cT := Lib.hid (fun W => l8Text_any s W (by omega))
  unfold ownI.OwnNums
  cases ht : okT s with
  | true =>
    have h16 := okT_size ht
    rw [ht] at cT
    rw [if_pos rfl]
    have cP := Lib.hid (fun W => l8Parts_any s W h16)
    have HWd := Lib.hid (prt_wide h16)
    have hp256 := prt_small h16
    have HPs : Hid (∀ x ∈ prt (tx s), x.length ≤ s.size) := Lib.hid (fun x hx => by have := prt_short hx; rwa [tx_len] at this)
    obtain ⟨ps, hps⟩ : ∃ ps, prt (tx s) = ps := ⟨_, rfl⟩
    rw [hps] at cP HWd hp256 HPs ⊢
    obtain ⟨nn, hnn⟩ : ∃ nn, s.size + 1 = nn := ⟨_, rfl⟩
    have HNN := Lib.hid hnn.symm
    have hsn : IntKind.i64.wrap ((s.size : Int) + 1) = (nn : Int) := by rw [IntWalk.i64_in _ (by omega)]; omega
    obtain ⟨cz, hcz1, hcz2, hmk⟩ := make_run (P := Try.prog) 30 3 (.int .i64 0) 8 Try.underlying30 infoI rfl nn (by omega) (by omega)
    have HCZ := Lib.hid hcz2
    have HCZ1 := Lib.hid hcz1
    have hnn17 : nn ≤ 17 := by omega
    have hnnp : 0 < nn := by omega
    clear ht hps hcz1 hcz2 hnn
    go_enter Try.func19, Try.ntmps19
    go_wp2_with fail
    refine (cT.out _).mono ?_
    rintro e w1 ⟨rfl, rfl⟩
    go_wp2_with fail
    go_region_held3 (fun w' => True) (trivial)
      (first
        | (go_at_call 33; refine (cP.out _).mono ?_; rintro e w3 ⟨a, n, c, rfl, hW3, hb3⟩))
    all_goals
      first
        | (have HSx := Lib.hid (Bes.later (hW3.keep ((Below.refl _ _).alloc (Nat.le_refl _) (.cells cz 3))) (Nat.le_refl w3.heap.size))
           have HBx : Hid (Below w.heap.size w (w3.alloc (.cells cz 3))) := Lib.hid (((Below.refl _ w).drew.trans hb3).alloc hb3.size _)
           have HOx : Hid ((w3.alloc (.cells cz 3)).ownsRow w.heap.size 3 1 (.slice (some ⟨w3.heap.size, 0, none⟩) nn nn) nn (List.replicate nn (.int .i64 0))) := Lib.hid (by
             have h9 := World.ownsRow_lit (base := w.heap.size) (e := 3) (size := 1) w3 cz nn hb3.size (by unfold maxLen; omega) (by have := HCZ1.out; omega)
             rwa [HCZ.out] at h9)
           have hBl : w3.heap.size ≤ (w3.alloc (.cells cz 3)).heap.size := by simp
           obtain ⟨wx, hwx⟩ : ∃ wx, w3.alloc (.cells cz 3) = wx := ⟨_, rfl⟩
           have hnl := hW3.len
           have HNl := Lib.hid hnl
           clear hW3 hb3 hnl
           rw [hwx] at HSx HBx HOx hBl ⊢
           clear hwx
           obtain ⟨G, hG⟩ : ∃ G, w3.heap.size = G := ⟨_, rfl⟩
           obtain ⟨B, hBB⟩ : ∃ B, G = B := ⟨_, rfl⟩
           rw [hG] at HSx HOx hBl ⊢
           clear hG
           have HSy : Hid (Bes B wx a n c ps G) := Lib.hid (by rw [← hBB]; exact HSx.out)
           have hBy : B ≤ wx.heap.size := by omega
           clear hBB HSx hBl)
        | (have hbk : w3.heap[w.heap.size]? = some (.cells cz 3 (0, 0)) := (hb3.block w.heap.size (by simp)).trans (heap_alloc_new w (.cells cz 3))
           have HSx := Lib.hid (Bes.ints hW3 hbk HCZ.out)
           have HBx : Hid (Below w.heap.size w w3) := Lib.hid ((((Below.refl _ w).alloc (Nat.le_refl _) (.cells cz 3)).drew).trans (hb3.mono (by simp)))
           have HOx : Hid (w3.ownsRow w.heap.size 3 1 (.slice (some ⟨w.heap.size, 0, none⟩) nn nn) nn (List.replicate nn (.int .i64 0))) := Lib.hid (by
             have h9 := own_stay ((World.ownsRow_lit (base := w.heap.size) (e := 3) (size := 1) w cz nn (Nat.le_refl _) (by unfold maxLen; omega) (by have := HCZ1.out; omega)).drew) hb3
             rwa [HCZ.out] at h9)
           have hnl := hW3.len
           have HNl := Lib.hid hnl
           clear hW3 hb3 hbk hnl
           obtain ⟨wx, hwx⟩ : ∃ wx, w3 = wx := ⟨_, rfl⟩
           rw [hwx] at HSx HBx HOx ⊢
           clear hwx
           obtain ⟨G, hG⟩ : ∃ G, w.heap.size = G := ⟨_, rfl⟩
           obtain ⟨B, hBB⟩ : ∃ B, wx.heap.size = B := ⟨_, rfl⟩
           have HSy : Hid (Bes B wx a n c ps G) := Lib.hid (by rw [← hBB, ← hG]; exact HSx.out)
           have hBy : B ≤ wx.heap.size := by omega
           have HOy : Hid (wx.ownsRow w.heap.size 3 1 (.slice (some ⟨G, 0, none⟩) nn nn) nn (List.replicate nn (.int .i64 0))) := Lib.hid (by rw [← hG]; rw [← hG] at *; exact HOx.out)
           clear HOx
           have HOx := Lib.hid HOy.out
           simp only [hG]
           clear hBB hG HSx HOy)
      clear hmk HCZ HCZ1 hsn
      have CL0 := Lib.hid (CL.start (N := s.size) hBy HNN.out HOx.out HSy.out HBx.out)
      have hfz := HOx.out.frozenAt 0
      have hcz := (HOx.out.cellAt 0 (by omega)).trans (show (List.replicate nn (Value.int .i64 0))[0]? = some (.int .i64 0) by rw [List.getElem?_replicate, if_pos (by omega)])
      have hnn0 : (0 : Int) < (nn : Int) := by omega
      clear HSy HOx HBx hBy
      go_wp2_with fail
      clear hfz hcz
      go_loopw [6] (fun i wr => ∃ (k : Nat), k ≤ n ∧ i = .int .i64 k ∧ Hid (CL w G nn s.size B a n c ps k wr)) (fun i _ => n - (intOf i).toNat)
      case atStart => exact ⟨0, Nat.zero_le _, rfl, CL0⟩
      case round =>
        clear CL0
        obtain ⟨k, hk, rfl, HC⟩ := hrel
        by_cases hlt : k < n
        · obtain ⟨b, o, x, rfl, hbB, hx, hxz, hc⟩ := Wds.elem HC.out.bes.wds k hlt
          have hxl := HPs.out (tx x) (List.mem_of_getElem? hx)
          have HSt := Lib.hid (HC.out.step hx hxl)
          obtain ⟨hcy, hfy⟩ := HC.out.at HNN.out hxl
          rw [tx_len] at hcy hfy hxl HSt
          have hcb := cnt_le (ps.take k) x.size
          have hcb2 : (ps.take k).length ≤ ps.length := by rw [List.length_take]; exact Nat.min_le_right _ _
          have hNl := HNl.out
          obtain ⟨m, hm⟩ : ∃ m, cnt (ps.take k) x.size = m := ⟨_, rfl⟩
          rw [hm] at hcy hcb HSt
          have hx0 : (0 : Int) ≤ (x.size : Int) := by omega
          have hx1 : (x.size : Int) < (nn : Int) := by have := HNN.out; omega
          have hk0 : (0 : Int) ≤ (k : Int) := by omega
          have hk1 : (k : Int) < (n : Int) := by omega
          have hm1 : m ≤ 1000 := by omega
          have hn256 : n ≤ 256 := by omega
          clear hx hm hcb hcb2 hNl
          go_wp2_with fail
          go_roundw
          case rel => exact ⟨k + 1, by omega, by go_num, HSt⟩
          case measure => simp [intOf]; omega
        · have HA := Lib.hid (HC.out.all HNN.out (by have := HNl.out; omega))
          have HB := Lib.hid HC.out.bel
          go_wp2
          go_ret2
          exact ⟨_, rfl, HA.out, HB.out⟩
  | false =>
    rw [ht] at cT
    rw [if_neg (by simp)]
    clear ht
    go_enter Try.func19, Try.ntmps19
    go_wp2_with fail
    refine (cT.out _).mono ?_
    rintro e w1 ⟨rfl, rfl⟩
    go_wp2
    go_ret2
    exact ⟨_, rfl, ownI.own_lit0 (Nat.le_refl _), (Below.refl _ _).alloc (Nat.le_refl _) _⟩

set_option maxRecDepth 1000000 in
set_option maxHeartbeats 4000000 in
theorem implCountLen_any (s : ByteArray) (hs : s.size ≤ 1048576) (w : World) :
    Calls Try.prog 20 #[.string s] w (ownI.OwnNums w (if okT s = true then cnts s.size (prt (tx s)) else []) (okT s)) := by
  have cT := Lib.hid (fun W => implIsText_any s W (by omega))
  unfold ownI.OwnNums
  cases ht : okT s with
  | true =>
    have h16 := okT_size ht
    rw [ht] at cT
    rw [if_pos rfl]
    have cP := Lib.hid (fun W => partsOfText_any s W ht)
    have HWd : Hid (∀ x ∈ prt (tx s), x.length ≤ 9223372036854775807) := Lib.hid (fun x hx => by have := prt_wide h16 x hx; omega)
    have hp256 := prt_small h16
    have HPs : Hid (∀ x ∈ prt (tx s), x.length ≤ s.size) := Lib.hid (fun x hx => by have := prt_short hx; rwa [tx_len] at this)
    obtain ⟨ps, hps⟩ : ∃ ps, prt (tx s) = ps := ⟨_, rfl⟩
    rw [hps] at cP HWd hp256 HPs ⊢
    obtain ⟨n, hnl⟩ : ∃ n, ps.length = n := ⟨_, rfl⟩
    have HNl := Lib.hid hnl
    rw [hnl] at cP hp256
    obtain ⟨nn, hnn⟩ : ∃ nn, s.size + 1 = nn := ⟨_, rfl⟩
    have HNN := Lib.hid hnn.symm
    have HSN : Hid (((s.size : Nat) : Int) + 1 = (nn : Int)) := Lib.hid (by omega)
    obtain ⟨i0, hii, hz0, hz1, hz2⟩ := info_parts infoI
    have hnn17 : nn ≤ 17 := by omega
    have hnnp : 0 < nn := by omega
    clear ht hps hnn hnl
    go_enter Try.func20, Try.ntmps20
    go_wp2_with fail
    refine (cT.out _).mono ?_
    rintro e w1 ⟨rfl, hb1⟩
    have HB1 := Lib.hid hb1
    have h01 := hb1.size
    clear hb1
    go_wp2_with (first
      | (at_make; refine wpList_make_full _ rfl _ _ 30 rfl w1.heap.size 3 i0 (.int .i64 0) 1 Try.underlying30 hii hz0 hz1 .i64 .i64 _ _ nn rfl rfl HSN.out HSN.out (by rw [hz2]; omega) (by unfold maxLen; omega) (Nat.le_refl _) ?_; intro w2 hown hgrow; have hown1 := made_rep rfl hown; have HO2 : Hid (w2.ownsRow w.heap.size 3 1 (.slice (some ⟨w1.heap.size, 0, none⟩) nn nn) nn (List.replicate nn (.int .i64 0))) := Lib.hid (own_down hown1 h01); have HB2 : Hid (Below w.heap.size w w2) := Lib.hid (HB1.out.trans ((Below.refl _ _).grown hgrow h01 (fun k e => by cases e))); have hs2 : w1.heap.size < w2.heap.size := own_lt hown1; have hfz := hown1.frozenAt 0; have hcz := (hown1.cellAt 0 (by omega)).trans (show (List.replicate nn (Value.int .i64 0))[0]? = some (.int .i64 0) by rw [List.getElem?_replicate, if_pos (by omega)]); clear hown hown1 hgrow))
    have CL0 := Lib.hid (CL.start (B := 0) (a := none) (n := 0) (c := 0) (ps := []) (N := s.size) (Nat.zero_le _) HNN.out HO2.out ⟨wds_nil _ _ 0 _, fun x hx => by cases hx⟩ HB2.out)
    have hz3 : (w2.setCell ⟨w1.heap.size, 0, none⟩ (.int .i64 1)).heap.size = w2.heap.size := by simp
    obtain ⟨w3, hw3⟩ : ∃ w3, w2.setCell ⟨w1.heap.size, 0, none⟩ (.int .i64 1) = w3 := ⟨_, rfl⟩
    rw [hw3] at CL0 hz3 ⊢
    have hs3 : w1.heap.size < w3.heap.size := by omega
    clear hw3 hz3 hfz hcz hs2 HO2 HB2
    refine (cP.out _).mono ?_
    rintro e w4 ⟨v, rfl, hO4, hb4⟩
    obtain ⟨a, c, rfl, hW4⟩ := own_wds hO4 HWd.out
    have HS4 : Hid (Bes w4.heap.size w4 a n c ps w1.heap.size) := Lib.hid ⟨hW4, fun x hx hn => by
      have := own_ge hO4 (g := x.block) (by rw [hx]; rfl)
      omega⟩
    have CL4 : Hid (CL w w1.heap.size nn s.size w4.heap.size a n c ps 0 w4) := Lib.hid ⟨by rw [List.take_zero]; exact own_stay CL0.out.own hb4, HS4.out, Nat.le_refl _, CL0.out.bel.trans (hb4.mono CL0.out.bel.size)⟩
    clear hO4 hb4 hW4 HS4 CL0
    go_wp2_with fail
    go_loopw [19] (fun i wr => ∃ (k : Nat), k ≤ n ∧ i = .int .i64 k ∧ Hid (CL w w1.heap.size nn s.size w4.heap.size a n c ps k wr)) (fun i _ => n - (intOf i).toNat)
    case atStart => exact ⟨0, Nat.zero_le _, rfl, CL4⟩
    case round =>
      clear CL4
      obtain ⟨k, hk, rfl, HC⟩ := hrel
      by_cases hlt : k < n
      · obtain ⟨b, o, x, rfl, hbB, hx, hxz, hc⟩ := Wds.elem HC.out.bes.wds k hlt
        have hxl := HPs.out (tx x) (List.mem_of_getElem? hx)
        have HSt := Lib.hid (HC.out.step hx hxl)
        obtain ⟨hcy, hfy⟩ := HC.out.at HNN.out hxl
        rw [tx_len] at hcy hfy hxl HSt
        have hcb := cnt_le (ps.take k) x.size
        have hcb2 : (ps.take k).length ≤ ps.length := by rw [List.length_take]; exact Nat.min_le_right _ _
        have hNl := HNl.out
        obtain ⟨m, hm⟩ : ∃ m, cnt (ps.take k) x.size = m := ⟨_, rfl⟩
        rw [hm] at hcy hcb HSt
        have hx0 : (0 : Int) ≤ (x.size : Int) := by omega
        have hx1 : (x.size : Int) < (nn : Int) := by have := HNN.out; omega
        have hk0 : (0 : Int) ≤ (k : Int) := by omega
        have hk1 : (k : Int) < (n : Int) := by omega
        have hm1 : m ≤ 1000 := by omega
        clear hx hm hcb hcb2 hNl
        go_wp2_with fail
        go_roundw
        case rel => exact ⟨k + 1, by omega, by go_num, HSt⟩
        case measure => simp [intOf]; omega
      · have HA := Lib.hid (HC.out.all HNN.out (by have := HNl.out; omega))
        have HB := Lib.hid HC.out.bel
        go_wp2
        go_ret2
        exact ⟨_, rfl, HA.out, HB.out⟩
  | false =>
    rw [ht] at cT
    rw [if_neg (by simp)]
    clear ht
    go_enter Try.func20, Try.ntmps20
    go_wp2_with fail
    refine (cT.out _).mono ?_
    rintro e w1 ⟨rfl, hb1⟩
    have HB1 := Lib.hid hb1
    clear hb1
    go_wp2
    go_ret2
    exact ⟨_, rfl, ⟨rfl, .inl ⟨rfl, rfl⟩⟩, HB1.out⟩

theorem agreeCountOfLength (s : ByteArray) (hs : s.size ≤ 1048576) : ∃ (ws : List Nat) (ok : Bool), ws.length ≤ 1000 ∧
    (∀ W : World, Calls Try.prog 19 #[.string s] W (ownI.OwnNums W ws ok)) ∧
    (∀ W : World, Calls Try.prog 20 #[.string s] W (ownI.OwnNums W ws ok)) := by
  refine ⟨_, _, ?_, specCountLen_any s hs, implCountLen_any s hs⟩
  split
  · next h => have := okT_size h; rw [cnts_len]; omega
  · simp

end Go.Proofs.Ytifkggapdaflmaa
