/-
  The branch on which the way of a word ends: both functions.
-/
import Derived.Test.YtoofpgehkihbcaaPG
import Derived.Test.YtoofpgehkihbcaaBrA
import Derived.Test.YtoofpgehkihbcaaBelB
namespace Go.Proofs.Ytoofpgehkihbcaa
open Go.RowKit
set_option linter.unusedVariables false

theorem least_of {P : Nat → Prop} (h : ∃ i, P i) : ∃ i, P i ∧ ∀ j, j < i → ¬ P j := by
  obtain ⟨n, hn⟩ := h
  induction n using Nat.strongRecOn with
  | ind n ih =>
    by_cases k : ∃ j, j < n ∧ P j
    · obtain ⟨j, hj, hp⟩ := k
      exact ih j hj hp
    · exact ⟨n, hn, fun j hj hp => k ⟨j, hj, hp⟩⟩

/-- i is the first place whose text begins with w -/
structure FstB (qs : List Txt) (w : Txt) (i : Nat) (x : Txt) : Prop where
  at' : qs[i]? = some x
  pre : w <+: x
  none : ∀ (j : Nat) (y : Txt), j < i → qs[j]? = some y → ¬ w <+: y

theorem fstB_of {qs : List Txt} {w : Txt} (h : ∃ x, x ∈ qs ∧ w <+: x) : ∃ i x, FstB qs w i x := by
  obtain ⟨x, hx, hp⟩ := h
  obtain ⟨i, hi⟩ := mem_at hx
  obtain ⟨k, ⟨y, h1, h2⟩, h3⟩ := least_of (P := fun i => ∃ x, qs[i]? = some x ∧ w <+: x) ⟨i, x, hi, hp⟩
  exact ⟨k, y, h1, h2, fun j z hj hz hq => h3 j hj ⟨z, hz, hq⟩⟩

theorem stl_pres {ws : List Txt} {w : Txt} : (∃ x, x ∈ stl ws ∧ w <+: x) ↔ w ∈ pres ws := by
  rw [(pres_pre ws).mem]
  constructor
  · rintro ⟨x, hx, hp⟩
    rcases ((stl_sta ws).mem x).1 hx with rfl | ⟨u, hu, v, hv, rfl⟩
    · exact .inl (List.prefix_nil.1 hp)
    · exact .inr ⟨u, hu, hp.trans (lcp_l u v)⟩
  · rintro (rfl | ⟨u, hu, hp⟩)
    · exact ⟨[], (stl_sta ws).root, List.prefix_refl _⟩
    · exact ⟨u, (stl_sta ws).words hu, hp⟩

/-- what BranchOf answers -/
structure BrAns (p : List Br) (s : ByteArray) (v v2 : Int) (ok : Bool) : Prop where
  yes : ok = true → ∃ (ws : List Txt) (i : Nat) (x : Txt) (d : Br), IsPW p ws ∧ okW s = true ∧ FstB (stl ws) (tx s) i x ∧ p[i]? = some d ∧ v = (i : Int) ∧ v2 = (d.l.length : Int) - ((x.length : Int) - (s.size : Int))
  no : ok = false → v = 0 ∧ v2 = 0 ∧ ∀ ws, IsPW p ws → okW s = true → tx s ∉ pres ws

theorem FstB.uniq {qs : List Txt} {w : Txt} {i j : Nat} {x y : Txt} (h : FstB qs w i x) (g : FstB qs w j y) : i = j ∧ x = y := by
  have e : i = j := by
    rcases Nat.lt_trichotomy i j with l | l | l
    · exact absurd h.pre (g.none i x l h.at')
    · exact l
    · exact absurd g.pre (h.none j y l g.at')
  subst e
  exact ⟨rfl, Option.some.inj (h.at'.symm.trans g.at')⟩

theorem BrAns.uniq {p : List Br} {s : ByteArray} {v v2 v' v2' : Int} {ok ok' : Bool} (h : BrAns p s v v2 ok) (g : BrAns p s v' v2' ok') : v = v' ∧ v2 = v2' ∧ ok = ok' := by
  have far : ∀ {v v2 v' v2' : Int}, BrAns p s v v2 true → BrAns p s v' v2' false → False := fun h g => by
    obtain ⟨ws, i, x, d, h1, h2, h3, _⟩ := h.yes rfl
    exact (g.no rfl).2.2 ws h1 h2 (stl_pres.1 ⟨x, at_mem h3.at', h3.pre⟩)
  cases ok <;> cases ok'
  · obtain ⟨h1, h2, _⟩ := h.no rfl
    obtain ⟨g1, g2, _⟩ := g.no rfl
    exact ⟨h1.trans g1.symm, h2.trans g2.symm, rfl⟩
  · exact (far g h).elim
  · exact (far h g).elim
  · obtain ⟨ws, i, x, d, h1, h2, h3, h4, h5, h6⟩ := h.yes rfl
    obtain ⟨us, j, y, e, g1, g2, g3, g4, g5, g6⟩ := g.yes rfl
    have := h1.uniq g1
    subst this
    obtain ⟨rfl, rfl⟩ := h3.uniq g3
    have := Option.some.inj (h4.symm.trans g4)
    subst this
    exact ⟨h5.trans g5.symm, h6.trans g6.symm, rfl⟩

theorem brAns_ex (p : List Br) (s : ByteArray) : ∃ (v v2 : Int) (ok : Bool), BrAns p s v v2 ok := by
  by_cases h : ∃ ws, IsPW p ws ∧ okW s = true ∧ tx s ∈ pres ws
  · obtain ⟨ws, h1, h2, h3⟩ := h
    obtain ⟨i, x, hF⟩ := fstB_of (stl_pres.2 h3)
    have hin : i < p.length := by rw [← h1.tells.1.len]; exact (List.getElem?_eq_some_iff.1 hF.at').1
    exact ⟨_, _, true, ⟨fun _ => ⟨ws, i, x, p[i], h1, h2, hF, List.getElem?_eq_getElem hin, rfl, rfl⟩, fun h => (by cases h)⟩⟩
  · exact ⟨0, 0, false, ⟨fun h => (by cases h), fun _ => ⟨rfl, rfl, fun ws h1 h2 h3 => h ⟨ws, h1, h2, h3⟩⟩⟩⟩

set_option maxRecDepth 1000000 in
set_option maxHeartbeats 4000000 in
theorem implBranchOf_any (a : Option Addr) (n c : Nat) (p : List Br) (s : ByteArray) (W : World) (hN : Brs W.heap.size W a n c p) (hn : n ≤ 1048576) (hs : s.size ≤ 9223372036854775807) :
    ∃ (v v2 : Int) (ok : Bool), BrAns p s v v2 ok ∧ Calls Try.prog 12 #[.agg #[.slice a n c], .string s] W fun e w' => e = .returned (.tuple #[.int .i64 v, .int .i64 v2, .bool ok]) ∧ Below W.heap.size W w' := by
  have cI := Lib.hid (fun (w : World) (G : GvP W w a n c p) => isPressed_g G hn)
  have cW := Lib.hid (fun w => implIsWord_any s w hs)
  obtain ⟨q, hq⟩ : ∃ q, pOk p = q := ⟨_, rfl⟩
  obtain ⟨q2, hq2⟩ : ∃ q2, okW s = q2 := ⟨_, rfl⟩
  have HQ := Lib.hid hq
  have HQ2 := Lib.hid hq2
  rw [hq] at cI
  rw [hq2] at cW
  clear hq hq2
  have G1 := Lib.hid (GvP.start hN)
  have hbx := G1.out.box
  have hl := hN.len
  have C := hN.cap
  have T := hN.top
  clear hN
  cases q with
  | false =>
    refine ⟨0, 0, false, ⟨fun h => (by cases h), fun _ => ⟨rfl, rfl, fun ws h _ => absurd h.ok (by rw [HQ.out]; simp)⟩⟩, ?_⟩
    clear hl
    go_enter Try.func12, Try.ntmps12
    go_wp2_with (go_at_call 33; refine (cI.out _ G1.out).mono ?_; rintro e w2 ⟨rfl, hb2⟩; have G2 := Lib.hid (G1.out.on hb2); clear hb2)
    refine bodyPost_ret (v := .tuple #[.int .i64 0, .int .i64 0, .bool false]) (by simp [results, Try.results12, go_sem]) rfl ⟨rfl, G2.out.bel⟩
  | true =>
    cases q2 with
    | false =>
      refine ⟨0, 0, false, ⟨fun h => (by cases h), fun _ => ⟨rfl, rfl, fun ws _ h => absurd h (by rw [HQ2.out]; simp)⟩⟩, ?_⟩
      clear hl
      go_enter Try.func12, Try.ntmps12
      go_wp2_with (first
        | (go_at_call 33; refine (cI.out _ G1.out).mono ?_; rintro e w2 ⟨rfl, hb2⟩; have G2 := Lib.hid (G1.out.on hb2); clear hb2)
        | (go_at_call 34; refine (cW.out _).mono ?_; rintro e w3 ⟨rfl, hb3⟩; have G3 := Lib.hid (G2.out.on hb3); clear hb3))
      refine bodyPost_ret (v := .tuple #[.int .i64 0, .int .i64 0, .bool false]) (by simp [results, Try.results12, go_sem]) rfl ⟨rfl, G3.out.bel⟩
    | true =>
      have hP := pWds_is HQ.out
      have HT := Lib.hid hP.tells
      have hs12 : s.size ≤ 12 := by have := (okW_iff.1 HQ2.out).1; rwa [tx_len] at this
      have hqn : (stl (pWds p)).length = n := by rw [hP.tells.1.len, hl]
      have HL := Lib.hid hl
      by_cases hex : ∃ x, x ∈ stl (pWds p) ∧ tx s <+: x
      · obtain ⟨i, x, hF⟩ := fstB_of hex
        have hin : i < n := by rw [← hqn]; exact (List.getElem?_eq_some_iff.1 hF.at').1
        obtain ⟨d, hd⟩ : ∃ d, p[i]? = some d := ⟨_, List.getElem?_eq_getElem (by omega)⟩
        refine ⟨(i : Int), (d.l.length : Int) - ((x.length : Int) - (s.size : Int)), true, ⟨fun _ => ⟨_, i, x, d, hP, HQ2.out, hF, hd, rfl, rfl⟩, fun h => (by cases h)⟩, ?_⟩
        have HF := Lib.hid hF
        have HD := Lib.hid hd
        have hx12 : x.length ≤ 12 := hP.tells.2.2 x (at_mem hF.at')
        have hsx : s.size ≤ x.length := by rw [← tx_len]; exact hF.pre.length_le
        obtain ⟨qs, hqs⟩ : ∃ qs, stl (pWds p) = qs := ⟨_, rfl⟩
        rw [hqs] at HF HT hqn
        have HQn := Lib.hid hqn
        clear hex hF hd hP hqs hl hqn
        go_enter Try.func12, Try.ntmps12
        go_wp2_with (first
          | (go_at_call 33; refine (cI.out _ G1.out).mono ?_; rintro e w2 ⟨rfl, hb2⟩; have G2 := Lib.hid (G1.out.on hb2); clear hb2)
          | (go_at_call 34; refine (cW.out _).mono ?_; rintro e w3 ⟨rfl, hb3⟩; have G3 := Lib.hid (G2.out.on hb3); clear hb3; have hbx := G3.out.box))
        clear hbx
        go_loopw [22] (fun q wr => ∃ k : Nat, k ≤ i ∧ q = .int .i64 k ∧ Hid (GvP W wr a n c p)) (fun q _ => n - (intOf q).toNat)
        case atStart => exact ⟨0, Nat.zero_le _, rfl, G3⟩
        case round =>
          obtain ⟨k, hk, rfl, HG⟩ := hrel
          have hlt : k < n := by omega
          obtain ⟨b, o, l1, q1, e1, rfl, hb1, hd1, hl1, hq1, hc1, hc1', hc1''⟩ := HG.out.brs.elem k hlt
          have HGa : Hid (GvP W (wr.alloc (.cells #[.string l1, .int .i64 q1, .bool e1] 52)) (some ⟨b, o, none⟩) n c p) := Lib.hid (HG.out.on ((Below.refl _ _).alloc (Nat.le_refl _) _))
          have hbx := HGa.out.box
          obtain ⟨y, hy⟩ : ∃ y, qs[k]? = some y := ⟨_, List.getElem?_eq_getElem (by rw [HQn.out]; exact hlt)⟩
          have hy12 : y.length ≤ 12 := HT.out.2.2 y (at_mem hy)
          have cB := Lib.hid (branchPrefixAt_any W.heap.size (some ⟨b, o, none⟩) n c k p qs (bx y) _ HGa.out.size HGa.out.brs hn hlt HT.out (by rw [tx_bx]; exact hy))
          have hi0 : (0 : Int) ≤ (k : Int) := by omega
          have hi1 : (k : Int) < (n : Int) := by omega
          have hyz : (bx y).size ≤ 100 := by rw [bx_size]; omega
          have HY := Lib.hid hy
          by_cases hki : k = i
          · have hyx : y = x := by
              have h1 := HF.out.at'
              rw [← hki, hy] at h1
              exact Option.some.inj h1
            have hll : (l1.size : Nat) = d.l.length := by
              have h1 := HD.out
              rw [← hki, hd1] at h1
              rw [← Option.some.inj h1]
              exact (tx_len l1).symm
            have cC := Lib.hid (fun w => cutPrefix_any (bx y) s true (by rw [tx_bx, hyx]; exact ⟨fun _ => HF.out.pre, fun _ => rfl⟩) w hyz (by omega))
            obtain ⟨z, hz⟩ : ∃ z, (bx y).extract s.size (bx y).size = z := ⟨_, rfl⟩
            have hzs : z.size = x.length - s.size := by rw [← hz, ByteArray.size_extract, bx_size, hyx]; omega
            have e3 : (if (true = true) then (bx y).extract s.size (bx y).size else bx y) = z := hz
            rw [e3] at cC
            have HE : Hid (((k : Nat) : Int) = (i : Int) ∧ (l1.size : Int) - (z.size : Int) = (d.l.length : Int) - ((x.length : Int) - (s.size : Int))) := Lib.hid ⟨by rw [hki], by omega⟩
            have hz12 : z.size ≤ 12 := by omega
            have hw1 : IntKind.i64.wrap ((l1.size : Int) - (z.size : Int)) = (l1.size : Int) - (z.size : Int) := IntWalk.i64_in _ (by omega)
            have HW1 := Lib.hid hw1
            clear hd1 hy hz e3 hki hyx hll hzs hq1 hw1
            go_wp2_with (first
              | (go_at_call 36; refine cB.out.mono ?_; rintro e w4 ⟨rfl, hb4⟩; have HG4 := Lib.hid (HGa.out.on hb4); have hc9 := (hb4.cell (p := ⟨wr.heap.size, 0, none⟩) (by simp)).trans (show (wr.alloc (.cells #[.string l1, .int .i64 q1, .bool e1] 52)).cell? ⟨wr.heap.size, 0, none⟩ = some (.string l1) by simp); clear hb4)
              | (go_at_call 35; refine (cC.out _).mono ?_; rintro e w5 ⟨rfl, rfl⟩; have hw1 := HW1.out))
            go_quiet (fail)
            go_wp2
            refine bodyPost_ret (v := .tuple #[.int .i64 (k : Int), .int .i64 ((l1.size : Int) - (z.size : Int)), .bool true]) (by simp [results, Try.results12, go_sem]) rfl ⟨ret_iib HE.out.1 HE.out.2 rfl, below_drewN HG4.out.bel _⟩
          · have hlt2 : k < i := by omega
            have cC := Lib.hid (fun w => cutPrefix_any (bx y) s false (by rw [tx_bx]; exact ⟨fun h => (by cases h), fun h => absurd h (HF.out.none k y hlt2 HY.out)⟩) w hyz (by omega))
            have e3 : (if (false = true) then (bx y).extract s.size (bx y).size else bx y) = bx y := rfl
            rw [e3] at cC
            clear hd1 hy e3 hki hq1
            go_wp2_with (first
              | (go_at_call 36; refine cB.out.mono ?_; rintro e w4 ⟨rfl, hb4⟩; have HG4 := Lib.hid (HGa.out.on hb4); clear hb4)
              | (go_at_call 35; refine (cC.out _).mono ?_; rintro e w5 ⟨rfl, rfl⟩))
            go_roundw
            case rel => exact ⟨k + 1, by omega, by go_num, HG4⟩
            case measure => simp [intOf]; omega
      · refine ⟨0, 0, false, ⟨fun h => (by cases h), fun _ => ⟨rfl, rfl, fun ws h _ hm => hex (stl_pres.2 (by rw [h.wds]; exact hm))⟩⟩, ?_⟩
        obtain ⟨qs, hqs⟩ : ∃ qs, stl (pWds p) = qs := ⟨_, rfl⟩
        rw [hqs] at HT hqn hex
        have HQn := Lib.hid hqn
        have HX := Lib.hid hex
        clear hex hP hqs hl hqn
        go_enter Try.func12, Try.ntmps12
        go_wp2_with (first
          | (go_at_call 33; refine (cI.out _ G1.out).mono ?_; rintro e w2 ⟨rfl, hb2⟩; have G2 := Lib.hid (G1.out.on hb2); clear hb2)
          | (go_at_call 34; refine (cW.out _).mono ?_; rintro e w3 ⟨rfl, hb3⟩; have G3 := Lib.hid (G2.out.on hb3); clear hb3; have hbx := G3.out.box))
        clear hbx
        go_loopw [22] (fun q wr => ∃ k : Nat, k ≤ n ∧ q = .int .i64 k ∧ Hid (GvP W wr a n c p)) (fun q _ => n - (intOf q).toNat)
        case atStart => exact ⟨0, Nat.zero_le _, rfl, G3⟩
        case round =>
          obtain ⟨k, hk, rfl, HG⟩ := hrel
          by_cases hlt : k < n
          · obtain ⟨b, o, l1, q1, e1, rfl, hb1, hd1, hl1, hq1, hc1, hc1', hc1''⟩ := HG.out.brs.elem k hlt
            have HGa : Hid (GvP W (wr.alloc (.cells #[.string l1, .int .i64 q1, .bool e1] 52)) (some ⟨b, o, none⟩) n c p) := Lib.hid (HG.out.on ((Below.refl _ _).alloc (Nat.le_refl _) _))
            have hbx := HGa.out.box
            obtain ⟨y, hy⟩ : ∃ y, qs[k]? = some y := ⟨_, List.getElem?_eq_getElem (by rw [HQn.out]; exact hlt)⟩
            have hy12 : y.length ≤ 12 := HT.out.2.2 y (at_mem hy)
            have cB := Lib.hid (branchPrefixAt_any W.heap.size (some ⟨b, o, none⟩) n c k p qs (bx y) _ HGa.out.size HGa.out.brs hn hlt HT.out (by rw [tx_bx]; exact hy))
            have hi0 : (0 : Int) ≤ (k : Int) := by omega
            have hi1 : (k : Int) < (n : Int) := by omega
            have hyz : (bx y).size ≤ 100 := by rw [bx_size]; omega
            have HY := Lib.hid hy
            have cC := Lib.hid (fun w => cutPrefix_any (bx y) s false (by rw [tx_bx]; exact ⟨fun h => (by cases h), fun h => absurd ⟨y, at_mem HY.out, h⟩ HX.out⟩) w hyz (by omega))
            have e3 : (if (false = true) then (bx y).extract s.size (bx y).size else bx y) = bx y := rfl
            rw [e3] at cC
            clear hd1 hy e3 hq1
            go_wp2_with (first
              | (go_at_call 36; refine cB.out.mono ?_; rintro e w4 ⟨rfl, hb4⟩; have HG4 := Lib.hid (HGa.out.on hb4); clear hb4)
              | (go_at_call 35; refine (cC.out _).mono ?_; rintro e w5 ⟨rfl, rfl⟩))
            go_roundw
            case rel => exact ⟨k + 1, by omega, by go_num, HG4⟩
            case measure => simp [intOf]; omega
          · go_wp2
            refine bodyPost_ret (v := .tuple #[.int .i64 0, .int .i64 0, .bool false]) (by simp [results, Try.results12, go_sem]) rfl ⟨rfl, HG.out.bel⟩

theorem implBranchOf_ans (a : Option Addr) (n c : Nat) (p : List Br) (s : ByteArray) (W : World) (hN : Brs W.heap.size W a n c p) (hn : n ≤ 1048576) (hs : s.size ≤ 9223372036854775807) {v v2 : Int} {ok : Bool} (h : BrAns p s v v2 ok) :
    Calls Try.prog 12 #[.agg #[.slice a n c], .string s] W fun e w' => e = .returned (.tuple #[.int .i64 v, .int .i64 v2, .bool ok]) ∧ Below W.heap.size W w' := by
  obtain ⟨u, u2, k, g, hc⟩ := implBranchOf_any a n c p s W hN hn hs
  obtain ⟨rfl, rfl, rfl⟩ := h.uniq g
  exact hc

set_option maxRecDepth 1000000 in
set_option maxHeartbeats 4000000 in
theorem specBranchOf_any (a : Option Addr) (n c : Nat) (p : List Br) (s : ByteArray) (W : World) (hN : Brs W.heap.size W a n c p) (hn : n ≤ 1048576) (hs : s.size ≤ 9223372036854775807) {v v2 : Int} {ok : Bool} (hA : BrAns p s v v2 ok) :
    Calls Try.prog 10 #[.agg #[.slice a n c], .string s] W fun e w' => e = .returned (.tuple #[.int .i64 v, .int .i64 v2, .bool ok]) ∧ Below W.heap.size W w' := by
  have cO := Lib.hid (fun (w : World) (G : GvP W w a n c p) => l4Open_g G hn)
  have cW := Lib.hid (fun w => l2Word_any s w hs)
  obtain ⟨q, hq⟩ : ∃ q, pOk p = q := ⟨_, rfl⟩
  obtain ⟨q2, hq2⟩ : ∃ q2, okW s = q2 := ⟨_, rfl⟩
  obtain ⟨m, hm⟩ : ∃ m, (pT p).length = m := ⟨_, rfl⟩
  have HQ := Lib.hid hq
  have HQ2 := Lib.hid hq2
  rw [hq, hm] at cO
  rw [hq2] at cW
  clear hq hq2 hm
  have G1 := Lib.hid (GvP.start hN)
  have hbx := G1.out.box
  have hl := hN.len
  have C := hN.cap
  have T := hN.top
  have HA := Lib.hid hA
  clear hN hA
  cases q with
  | false =>
    obtain rfl : ok = false := by
      cases ok with
      | false => rfl
      | true => obtain ⟨ws, _, _, _, h1, _⟩ := HA.out.yes rfl; rw [h1.ok] at HQ; exact absurd HQ.out (by simp)
    obtain ⟨rfl, rfl, _⟩ := HA.out.no rfl
    clear hl
    go_enter Try.func10, Try.ntmps10
    go_wp2_with fail
    refine (cO.out _ G1.out).mono ?_
    rintro e w2 ⟨a2, c2, rfl, _, hb2⟩
    have G2 := Lib.hid ((G1.out.on hb2).on ((Below.refl _ _).alloc (Nat.le_refl _) (.cells #[.slice a2 m c2] 44)))
    clear hbx hb2
    go_wp2_with fail
    refine bodyPost_ret (v := .tuple #[.int .i64 0, .int .i64 0, .bool false]) (by simp [results, Try.results10, go_sem]) rfl ⟨rfl, G2.out.bel⟩
  | true =>
    cases q2 with
    | false =>
      obtain rfl : ok = false := by
        cases ok with
        | false => rfl
        | true => obtain ⟨ws, _, _, _, _, h1, _⟩ := HA.out.yes rfl; exact absurd h1 (by rw [HQ2.out]; simp)
      obtain ⟨rfl, rfl, _⟩ := HA.out.no rfl
      clear hl
      go_enter Try.func10, Try.ntmps10
      go_wp2_with fail
      refine (cO.out _ G1.out).mono ?_
      rintro e w2 ⟨a2, c2, rfl, _, hb2⟩
      have G2 := Lib.hid ((G1.out.on hb2).on ((Below.refl _ _).alloc (Nat.le_refl _) (.cells #[.slice a2 m c2] 44)))
      clear hbx hb2
      go_wp2_with (go_at_call 28; refine (cW.out _).mono ?_; rintro e w3 ⟨rfl, rfl⟩)
      refine bodyPost_ret (v := .tuple #[.int .i64 0, .int .i64 0, .bool false]) (by simp [results, Try.results10, go_sem]) rfl ⟨rfl, G2.out.bel⟩
    | true =>
      have hP := pWds_is HQ.out
      have hs12 : s.size ≤ 12 := by have := (okW_iff.1 HQ2.out).1; rwa [tx_len] at this
      have hp81 := hP.len.2
      rw [hl] at hp81
      have hV := made_valid hP.asc hP.isW hP.few
      rw [← pT_yes HQ.out] at hV
      have cN : Hid (∀ (w : World) (a2 : Option Addr) (c2 : Nat), Nds w.heap.size w a2 m c2 (pT p) → Calls Try.prog 29 #[.agg #[.slice a2 m c2], .string s] w (nod.NodeNum (pres (pWds p)) (tx s) w)) := Lib.hid (fun w a2 c2 h => nod.l2Node_any w.heap.size a2 m c2 (pT p) (pres (pWds p)) s w (Nat.le_refl _) h hV HQ2.out)
      have HT := Lib.hid hP.tells
      have HP := Lib.hid hP
      have HL := Lib.hid hl
      have hqn : (stl (pWds p)).length = n := by rw [hP.tells.1.len, hl]
      clear hP hV hl
      cases ok with
      | false =>
        obtain ⟨rfl, rfl, hno⟩ := HA.out.no rfl
        have HNo := Lib.hid (hno _ HP.out HQ2.out)
        clear hno hqn
        go_enter Try.func10, Try.ntmps10
        go_wp2_with fail
        refine (cO.out _ G1.out).mono ?_
        rintro e w2 ⟨a2, c2, rfl, hN2, hb2⟩
        have G2 := Lib.hid ((G1.out.on hb2).on ((Below.refl _ _).alloc (Nat.le_refl _) (.cells #[.slice a2 m c2] 44)))
        have cN2 := Lib.hid (cN.out (w2.alloc (.cells #[.slice a2 m c2] 44)) a2 c2 ((hN2.keep ((Below.refl _ _).alloc (Nat.le_refl _) _)).mono (by simp)))
        clear hbx hb2 hN2
        go_wp2_with (first
          | (go_at_call 28; refine (cW.out _).mono ?_; rintro e w3 ⟨rfl, rfl⟩)
          | (go_at_call 29; refine cN2.out.mono ?_; rintro e w3 ⟨r, rfl, hr, hb3⟩; have hrm : r = -1 := (hr.elim (fun h => h.1) (fun ⟨j, _, h⟩ => absurd (at_mem h) HNo.out)); subst hrm; have G3 := Lib.hid (G2.out.on hb3); clear hr hb3))
        refine bodyPost_ret (v := .tuple #[.int .i64 0, .int .i64 0, .bool false]) (by simp [results, Try.results10, go_sem]) rfl ⟨rfl, G3.out.bel⟩
      | true =>
        obtain ⟨ws, i, x, d, h1, _, hF, hd, hv, hv2⟩ := HA.out.yes rfl
        obtain rfl : pWds p = ws := h1.wds
        have hin : i < n := by rw [← hqn]; exact (List.getElem?_eq_some_iff.1 hF.at').1
        have HMem : Hid (tx s ∈ pres (pWds p)) := Lib.hid (stl_pres.1 ⟨x, at_mem hF.at', hF.pre⟩)
        have HF := Lib.hid hF
        have HD := Lib.hid hd
        have HVV := Lib.hid (And.intro hv hv2)
        have hx12 : x.length ≤ 12 := HT.out.2.2 x (at_mem hF.at')
        have hsx : s.size ≤ x.length := by rw [← tx_len]; exact hF.pre.length_le
        have hdl : d.l.length ≤ 12 := by
          by_cases h0 : i = 0
          · rw [h0] at hd
            have h2 : p = prw (pWds p) := h1.eq
            rw [h2] at hd
            have h3 : (prw (pWds p))[0]? = some (brOf (stl (pWds p)) (fun x => decide (x ∈ pWds p)) []) := brs_at (stl_sta (pWds p)).zero
            rw [h3] at hd
            rw [← Option.some.inj hd, brOf_root]
            simp
          · exact (HT.out.1.step i d (by omega) (by rw [HL.out]; exact hin) hd).1.1
        obtain ⟨qs, hqs⟩ : ∃ qs, stl (pWds p) = qs := ⟨_, rfl⟩
        rw [hqs] at HF HT hqn
        have HQn := Lib.hid hqn
        clear hF hd hqs hqn hv hv2 h1
        go_enter Try.func10, Try.ntmps10
        go_wp2_with fail
        refine (cO.out _ G1.out).mono ?_
        rintro e w2 ⟨a2, c2, rfl, hN2, hb2⟩
        have G2 := Lib.hid ((G1.out.on hb2).on ((Below.refl _ _).alloc (Nat.le_refl _) (.cells #[.slice a2 m c2] 44)))
        have cN2 := Lib.hid (cN.out (w2.alloc (.cells #[.slice a2 m c2] 44)) a2 c2 ((hN2.keep ((Below.refl _ _).alloc (Nat.le_refl _) _)).mono (by simp)))
        clear hbx hb2 hN2
        go_wp2_with (first
          | (go_at_call 28; refine (cW.out _).mono ?_; rintro e w3 ⟨rfl, rfl⟩)
          | (go_at_call 29; refine cN2.out.mono ?_; rintro e w3 ⟨r, rfl, hr, hb3⟩; obtain ⟨j, rfl, _⟩ := (hr.resolve_left (fun h => h.2 HMem.out)); have hj0 : ¬ ((j : Int) < 0) := (by omega); have G3 := Lib.hid (G2.out.on hb3); clear hr hb3))
        go_loopw [9] (fun q wr => ∃ k : Nat, k ≤ i ∧ q = .int .i64 k ∧ Hid (GvP W wr a n c p)) (fun q _ => n - (intOf q).toNat)
        case atStart => exact ⟨0, Nat.zero_le _, rfl, G3⟩
        case round =>
          obtain ⟨k, hk, rfl, HG⟩ := hrel
          have hlt : k < n := by omega
          have hbx := HG.out.box
          have cP := Lib.hid (l4Prefix_any W.heap.size a n c k p wr HG.out.size HG.out.brs hn hlt)
          obtain ⟨y, hy⟩ : ∃ y, qs[k]? = some y := ⟨_, List.getElem?_eq_getElem (by rw [HQn.out]; exact hlt)⟩
          have hy12 : y.length ≤ 12 := HT.out.2.2 y (at_mem hy)
          have HY := Lib.hid hy
          have hi0 : (0 : Int) ≤ (k : Int) := by omega
          have hi1 : (k : Int) < (n : Int) := by omega
          by_cases hki : k = i
          · have hyx : y = x := by
              have h1 := HF.out.at'
              rw [← hki, hy] at h1
              exact Option.some.inj h1
            have cC := Lib.hid (fun (z : ByteArray) (hz : tx z = y) w => l2Begins_any z s true (by rw [hz, hyx]; exact ⟨fun _ => HF.out.pre, fun _ => rfl⟩) w (by rw [← tx_len, hz]; omega) (by omega))
            have HYX := Lib.hid hyx
            have HKI := Lib.hid hki
            have hW0 : ∀ w', Below wr.heap.size wr w' → ∃ b o l1, a = some ⟨b, o, none⟩ ∧ w'.cell? ⟨b, o + k * 3, none⟩ = some (.string l1) ∧ l1.size = d.l.length := fun w' hb => by
              obtain ⟨b, o, l1, q1, e1, h1, h2, h3, h4, h5, h6, _⟩ := (HG.out.on hb).brs.elem k hlt
              refine ⟨b, o, l1, h1, h6, ?_⟩
              have h7 := HD.out
              rw [← hki, h3] at h7
              rw [← Option.some.inj h7]
              exact (tx_len l1).symm
            have HW0 := Lib.hid hW0
            clear hy hki hyx hW0
            go_wp2_with (first
              | (go_at_call 30; refine cP.out.mono ?_; rintro e w4 ⟨z, rfl, hz24, hpr, hb4⟩; have hzy : tx z = y := (hpr qs HT.out _ HY.out); have HG4 := Lib.hid (HG.out.on hb4); have hzs : z.size = x.length := (by rw [← tx_len, hzy, HYX.out]); have HZ := Lib.hid hzy; obtain ⟨b, o, l1, rfl, hc9, hl1⟩ := HW0.out _ hb4; have hbx := HG4.out.box; clear hpr hb4 hzy)
              | (go_at_call 31; refine (cC.out z HZ.out _).mono ?_; rintro e w5 ⟨rfl, rfl⟩))
            have HE : Hid (((k : Nat) : Int) = v ∧ (l1.size : Int) - (z.size : Int) + (s.size : Int) = v2) := Lib.hid ⟨by rw [HKI.out]; exact HVV.out.1.symm, by rw [HVV.out.2, hzs, hl1]; omega⟩
            have hw1 : IntKind.i64.wrap ((l1.size : Int) - (z.size : Int)) = (l1.size : Int) - (z.size : Int) := IntWalk.i64_in _ (by omega)
            have hw2 : IntKind.i64.wrap ((l1.size : Int) - (z.size : Int) + (s.size : Int)) = (l1.size : Int) - (z.size : Int) + (s.size : Int) := IntWalk.i64_in _ (by omega)
            clear hzs hl1
            go_quiet (fail)
            go_wp2
            refine bodyPost_ret (v := .tuple #[.int .i64 (k : Int), .int .i64 ((l1.size : Int) - (z.size : Int) + (s.size : Int)), .bool true]) (by simp [results, Try.results10, go_sem]) rfl ⟨ret_iib HE.out.1 HE.out.2 rfl, below_drewN HG4.out.bel _⟩
          · have hlt2 : k < i := by omega
            have cC := Lib.hid (fun (z : ByteArray) (hz : tx z = y) w => l2Begins_any z s false (by rw [hz]; exact ⟨fun h => (by cases h), fun h => absurd h (HF.out.none k y hlt2 HY.out)⟩) w (by rw [← tx_len, hz]; omega) (by omega))
            clear hy hki
            go_wp2_with (first
              | (go_at_call 30; refine cP.out.mono ?_; rintro e w4 ⟨z, rfl, hz24, hpr, hb4⟩; have hzy : tx z = y := (hpr qs HT.out _ HY.out); have HG4 := Lib.hid (HG.out.on hb4); have HZ := Lib.hid hzy; clear hpr hb4 hzy)
              | (go_at_call 31; refine (cC.out z HZ.out _).mono ?_; rintro e w5 ⟨rfl, rfl⟩))
            go_roundw
            case rel => exact ⟨k + 1, by omega, by go_num, HG4⟩
            case measure => simp [intOf]; omega

theorem agreeBranchOf (t : List Br) (n : Nat) (x0 : ByteArray) (hn : n ≤ 1048576) (hx0 : x0.size ≤ 9223372036854775807) : ∃ (v v2 : Int) (ok : Bool),
    (∀ (W : World) (a : Option Addr), Brs W.heap.size W a n n t → Calls Try.prog 10 #[.agg #[.slice a n n], .string x0] W fun e w' => e = .returned (.tuple #[.int .i64 v, .int .i64 v2, .bool ok]) ∧ Below W.heap.size W w') ∧
    (∀ (W : World) (a : Option Addr), Brs W.heap.size W a n n t → Calls Try.prog 12 #[.agg #[.slice a n n], .string x0] W fun e w' => e = .returned (.tuple #[.int .i64 v, .int .i64 v2, .bool ok]) ∧ Below W.heap.size W w') := by
  obtain ⟨v, v2, ok, hA⟩ := brAns_ex t x0
  exact ⟨v, v2, ok, fun W a hN => specBranchOf_any a n n t x0 W hN hn hx0 hA, fun W a hN => implBranchOf_ans a n n t x0 W hN hn hx0 hA⟩

end Go.Proofs.Ytoofpgehkihbcaa
