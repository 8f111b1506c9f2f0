/-
  The lengths of a code and the cost of lengths: the reference's and the program's functions.
-/
import Derived.Test.YthjafoacnfgjhaaCode10
import Derived.Maps.AppendAt
import Derived.Laws.OwnMore
namespace Go.Proofs.Ythjafoacnfgjhaa
open Go.RowKit
set_option linter.unusedVariables false

theorem ints_of_own {w : World} {base n : Nat} {v : Value} {l : List Int} (h : w.ownsRow base 3 1 v n (ints l)) (he : ∀ z ∈ l, -9223372036854775808 ≤ z ∧ z ≤ 9223372036854775807) : ∃ a c, v = .slice a n c ∧ Ints w.heap.size w a n c l := by
  obtain ⟨a, c, rfl⟩ := own_slice h
  exact ⟨a, c, rfl, Sl.of_own h, he⟩
theorem lens_at {ss : List ByteArray} {k : Nat} {s : ByteArray} (h : ss[k]? = some s) : (lensZ (txl ss))[k]? = some (s.size : Int) := by
  simp [lensZ, txl, h]
theorem lens_len (ss : List ByteArray) : (lensZ (txl ss)).length = ss.length := by rw [lensZ_len, txl_len]
theorem lens_each {ss : List ByteArray} (h : ∀ s ∈ ss, s.size ≤ 9223372036854775807) : ∀ z ∈ lensZ (txl ss), -9223372036854775808 ≤ z ∧ z ≤ 9223372036854775807 := by
  intro z hz
  unfold lensZ txl at hz
  obtain ⟨x, hx, rfl⟩ := List.mem_map.1 hz
  obtain ⟨s, hs, rfl⟩ := List.mem_map.1 hx
  have := h s hs
  rw [tx_len]
  omega

set_option maxRecDepth 1000000 in
set_option maxHeartbeats 2000000 in
theorem l10Lengths_any (B : Nat) (a : Option Addr) (n c : Nat) (ss : List ByteArray) (w : World) (hB : B ≤ w.heap.size) (h : Strs B w a n c ss) (hn : n ≤ 1000) :
    Calls Try.prog 35 #[.slice a n c] w fun e w' => ∃ v, e = .returned v ∧ w'.ownsRow w.heap.size 3 1 v n (ints (lensZ (txl ss))) ∧ Below w.heap.size w w' := by
  have L := Lib.hid h.len
  have C := h.sl.cap
  have T := h.sl.top
  have H := Lib.hid h
  clear h
  obtain ⟨i0, hii, hz0, hz1, hz2⟩ := info_parts infoI
  have HO0 : Hid ((w.alloc (.cells #[] 3)).ownsRow w.heap.size 3 1 (.slice (some ⟨w.heap.size, 0, none⟩) 0 0) 0 []) := Lib.hid (World.ownsRow_lit w #[] 0 (Nat.le_refl _) (by unfold maxLen; omega) rfl)
  have HB0 : Hid (Below w.heap.size w (w.alloc (.cells #[] 3))) := Lib.hid ((Below.refl _ _).alloc (Nat.le_refl _) _)
  go_enter Try.func35, Try.ntmps35
  go_wp2
  go_loopw [3, 4] (fun o i wr => ∃ (k g d : Nat), k ≤ n ∧ i = .int .i64 k ∧ o = .slice (some ⟨g, 0, none⟩) k d ∧ Hid (wr.ownsRow w.heap.size 3 1 (.slice (some ⟨g, 0, none⟩) k d) k (ints ((lensZ (txl ss)).take k))) ∧ Hid (Below w.heap.size w wr)) (fun _ i _ => n - (intOf i).toNat)
  case atStart => exact ⟨0, w.heap.size, 0, Nat.zero_le _, rfl, rfl, HO0, HB0⟩
  case round =>
    clear HO0 HB0
    obtain ⟨k, g, d, hk, rfl, rfl, HO, HB⟩ := hrel
    have hzr := HB.out.size
    by_cases hlt : k < n
    · obtain ⟨b, o, s, rfl, hbB, hs, hsz, hc⟩ := (H.out.keep (HB.out.mono hB)).elem k hlt
      have hk0 : (0 : Int) ≤ (k : Int) := by omega
      have hk1 : (k : Int) < (n : Int) := by omega
      have HN : Hid (ints ((lensZ (txl ss)).take (k + 1)) = ints ((lensZ (txl ss)).take k) ++ [.int .i64 (s.size : Int)]) := Lib.hid (by
        rw [take_snoc_at (lens_at hs), ints_app]; rfl)
      clear hs
      go_wp2_with (at_builtin; refine wpList_append_own_at _ rfl _ _ 27 rfl w.heap.size 3 i0 (.int .i64 0) 1 8 Try.underlying27 hii hz0 hz1 hz2 rfl (by decide) _ _ _ rfl (HO.out.alloc _) ⟨wr.heap.size, 0, none⟩ 1 1 [.int .i64 (s.size : Int)] rfl rfl (cell_one_new _ _ _) (by simp [Value.oneCell']) (by unfold maxLen; omega) (by omega) (by simp; omega) ?_; intro v3 w3 hO3 hG3 _ _; obtain ⟨g', cap', rfl⟩ := own_succ hO3; have HO3 := Lib.hid hO3; have HB3 : Hid (Below w.heap.size w w3) := Lib.hid ((HB.out.alloc (by omega) _).trans (below_grown (HO.out.alloc _) (by omega) (by simp; omega) hG3)); clear hO3 hG3)
      go_roundw
      case rel => exact ⟨k + 1, g', cap', by omega, by go_num, rfl, Lib.hid (by rw [HN.out]; exact HO3.out), HB3⟩
      case measure => simp [intOf]; omega
    · have e : k = n := by omega
      subst e
      have HE : Hid ((lensZ (txl ss)).take k = lensZ (txl ss)) := Lib.hid (List.take_of_length_le (by rw [lens_len, L.out]; omega))
      go_wp2
      go_ret
      exact ⟨_, rfl, by rw [← HE.out]; exact HO.out, HB.out⟩

set_option maxRecDepth 1000000 in
set_option maxHeartbeats 2000000 in
theorem lengthsOf_any (B : Nat) (a : Option Addr) (n c : Nat) (ss : List ByteArray) (w : World) (hB : B ≤ w.heap.size) (h : Strs B w a n c ss) (hn : n ≤ 1000) :
    Calls Try.prog 36 #[.slice a n c] w fun e w' => ∃ v, e = .returned v ∧ w'.ownsRow w.heap.size 3 1 v n (ints (lensZ (txl ss))) ∧ Below w.heap.size w w' := by
  have L := Lib.hid h.len
  have LL : Hid ((lensZ (txl ss)).length = n) := Lib.hid (by rw [lens_len]; exact h.len)
  have C := h.sl.cap
  have T := h.sl.top
  have H := Lib.hid h
  clear h
  obtain ⟨i0, hi, hz0, hz1, hz2⟩ := info_parts infoI
  go_enter Try.func36, Try.ntmps36
  go_wp2_with (first | (at_make; refine wpList_make_full _ rfl _ _ 27 rfl w.heap.size 3 i0 (.int .i64 0) 1 Try.underlying27 hi hz0 hz1 .i64 .i64 _ _ n rfl rfl rfl rfl (by rw [hz2]; omega) (by unfold maxLen; omega) (Nat.le_refl _) ?_; intro w1 hown hgrow))
  have hown0 : Hid (w1.ownsRow w.heap.size 3 1 (.slice (some ⟨w.heap.size, 0, none⟩) n n) n (icopied (lensZ (txl ss)) n 0)) := Lib.hid (by
    rw [icopied_zero]
    have e := toList_madeCells_one (.int .i64 0) n
    rw [Nat.mul_one] at hown
    exact e ▸ hown)
  have hb1 : Hid (Below w.heap.size w w1) := Lib.hid ((Below.refl _ _).grown hgrow (Nat.le_refl _) (fun k e => by cases e))
  clear hown hgrow
  go_loopw [11] (fun i wr => ∃ k : Nat, k ≤ n ∧ i = .int .i64 k ∧ Hid (wr.ownsRow w.heap.size 3 1 (.slice (some ⟨w.heap.size, 0, none⟩) n n) n (icopied (lensZ (txl ss)) n k)) ∧ Hid (Below w.heap.size w wr)) (fun i _ => n - (intOf i).toNat)
  case atStart => exact ⟨0, Nat.zero_le _, rfl, hown0, hb1⟩
  case round =>
    clear hown0 hb1
    obtain ⟨k, hk, rfl, HO, HB⟩ := hrel
    by_cases hlt : k < n
    · obtain ⟨b, o, s, rfl, hbB, hs, hsz, hc⟩ := (H.out.keep (HB.out.mono hB)).elem k hlt
      have hk0 : (0 : Int) ≤ (k : Int) := by omega
      have hk1 : (k : Int) < (n : Int) := by omega
      have hf := HO.out.frozenAt k
      have hd := HO.out.cellAt k (by omega)
      rw [icopied_at LL.out hlt] at hd
      have hst := (HO.out.stored k (.int .i64 (s.size : Int))).1
      rw [icopied_succ LL.out (lens_at hs)] at hst
      have HST := Lib.hid hst
      clear hst hs
      go_wp2
      go_roundw
      case rel => exact ⟨k + 1, by omega, by go_num, HST, Lib.hid (HB.out.setCell (p := ⟨w.heap.size, k, none⟩) (Nat.le_refl _) _)⟩
      case measure => simp [intOf]; omega
    · have e : k = n := by omega
      subst e
      go_wp2
      go_ret
      exact ⟨_, rfl, by rw [← icopied_all LL.out]; exact HO.out, HB.out⟩

theorem cost_room {l m : List Int} (hl : nOk l 14 = true) (hm : nOk m 999 = true) (k : Nat) : 0 ≤ costZ (l.take k) (m.take k) ∧ costZ (l.take k) (m.take k) ≤ 1000000 := by
  have h1 := costZ_bd (A := 14) (B := 999) (by omega) (by omega) (l.take k) (m.take k)
    (fun x hx => by have := (nOk_iff.1 hl).2.2 x (List.mem_of_mem_take hx); omega)
    (fun x hx => by have := (nOk_iff.1 hm).2.2 x (List.mem_of_mem_take hx); omega)
  have h2 := (nOk_len hl).2
  have h3 : (l.take k).length ≤ l.length := by rw [List.length_take]; omega
  omega

set_option maxRecDepth 1000000 in
set_option maxHeartbeats 2000000 in
theorem l10Cost_any (B : Nat) (a a' : Option Addr) (n c c' : Nat) (l m : List Int) (w : World) (hB : B ≤ w.heap.size) (h : Ints B w a n c l) (h' : Ints B w a' n c' m) (hl : nOk l 14 = true) (hm : nOk m 999 = true) :
    Calls Try.prog 37 #[.slice a n c, .slice a' n c'] w fun e w' => e = .returned (.int .i64 (costZ l m)) ∧ Below w.heap.size w w' := by
  have L := Lib.hid h.len
  have L' := Lib.hid h'.len
  have C := h.sl.cap
  have T := h.sl.top
  have C' := h'.sl.cap
  have T' := h'.sl.top
  have H := Lib.hid h
  have H' := Lib.hid h'
  have HK := Lib.hid hl
  have HK' := Lib.hid hm
  clear h h' hl hm
  go_enter Try.func37, Try.ntmps37
  go_wp2
  go_loopw [5, 6] (fun s i wr => ∃ (k : Nat) (q : Int), k ≤ n ∧ i = .int .i64 k ∧ s = .int .i64 q ∧ 0 ≤ q ∧ q ≤ 1000000 ∧ Hid (costZ (l.take k) (m.take k) = q) ∧ Hid (Below w.heap.size w wr)) (fun _ i _ => n - (intOf i).toNat)
  case atStart => exact ⟨0, 0, Nat.zero_le _, rfl, rfl, by omega, by omega, Lib.hid rfl, Lib.hid (Below.refl _ _)⟩
  case round =>
    obtain ⟨k, q, hk, rfl, rfl, hq0, hq1, HQ, HB⟩ := hrel
    by_cases hlt : k < n
    · obtain ⟨b, o, x, rfl, _, hs, _, hc⟩ := (H.out.keep (HB.out.mono hB)).elem k hlt
      obtain ⟨b', o', y, rfl, _, hs', _, hc'⟩ := (H'.out.keep (HB.out.mono hB)).elem k hlt
      have hx := nOk_at HK.out hs
      have hy := nOk_at HK'.out hs'
      have hbd := cost_room HK.out HK'.out (k + 1)
      rw [costZ_succ hs hs', HQ.out] at hbd
      obtain ⟨p, hp⟩ : ∃ p, x * y = p := ⟨_, rfl⟩
      have HN : Hid (costZ (l.take (k + 1)) (m.take (k + 1)) = q + p) := Lib.hid (by rw [costZ_succ hs hs', HQ.out, hp])
      have hp0 : 0 ≤ p := by rw [← hp]; exact Int.mul_nonneg (by omega) (by omega)
      have hwp : IntKind.i64.wrap (x * y) = p := by rw [hp]; exact IntWalk.i64_in _ (by omega)
      rw [hp] at hbd
      have hwq : IntKind.i64.wrap (q + p) = q + p := IntWalk.i64_in _ (by omega)
      have hk0 : (0 : Int) ≤ (k : Int) := by omega
      have hk1 : (k : Int) < (n : Int) := by omega
      clear hs hs' hp
      go_wp2
      go_quiet (fail)
      go_wp2
      clear hwp hwq
      go_roundw
      case rel => exact ⟨k + 1, q + p, by omega, by go_num, rfl, by omega, by omega, HN, Lib.hid (below_drewN HB.out _)⟩
      case measure => simp [intOf]; omega
    · have HE : Hid (q = costZ l m) := Lib.hid (by rw [← HQ.out, List.take_of_length_le (by have := L.out; omega), List.take_of_length_le (by have := L'.out; omega)])
      go_wp2
      go_ret
      exact ⟨ret_num HE.out, HB.out⟩

set_option maxRecDepth 1000000 in
set_option maxHeartbeats 2000000 in
theorem costOfLengths_any (B : Nat) (a a' : Option Addr) (n c c' : Nat) (l m : List Int) (w : World) (hB : B ≤ w.heap.size) (h : Ints B w a n c l) (h' : Ints B w a' n c' m) (hl : nOk l 14 = true) (hm : nOk m 999 = true) :
    Calls Try.prog 39 #[.slice a n c, .slice a' n c'] w fun e w' => e = .returned (.int .i64 (costZ l m)) ∧ Below w.heap.size w w' := by
  have L := Lib.hid h.len
  have L' := Lib.hid h'.len
  have C := h.sl.cap
  have T := h.sl.top
  have C' := h'.sl.cap
  have T' := h'.sl.top
  have H := Lib.hid h
  have H' := Lib.hid h'
  have HK := Lib.hid hl
  have HK' := Lib.hid hm
  clear h h' hl hm
  go_enter Try.func39, Try.ntmps39
  go_wp2
  go_loopw [5, 10] (fun s i wr => ∃ (k : Nat) (q : Int), k ≤ n ∧ i = .int .i64 k ∧ s = .int .i64 q ∧ 0 ≤ q ∧ q ≤ 1000000 ∧ Hid (costZ (l.take k) (m.take k) = q) ∧ Hid (Below w.heap.size w wr)) (fun _ i _ => n - (intOf i).toNat)
  case atStart => exact ⟨0, 0, Nat.zero_le _, rfl, rfl, by omega, by omega, Lib.hid rfl, Lib.hid (Below.refl _ _)⟩
  case round =>
    obtain ⟨k, q, hk, rfl, rfl, hq0, hq1, HQ, HB⟩ := hrel
    by_cases hlt : k < n
    · obtain ⟨b, o, x, rfl, _, hs, _, hc⟩ := (H.out.keep (HB.out.mono hB)).elem k hlt
      obtain ⟨b', o', y, rfl, _, hs', _, hc'⟩ := (H'.out.keep (HB.out.mono hB)).elem k hlt
      have hx := nOk_at HK.out hs
      have hy := nOk_at HK'.out hs'
      have hbd := cost_room HK.out HK'.out (k + 1)
      rw [costZ_succ hs hs', HQ.out] at hbd
      obtain ⟨p, hp⟩ : ∃ p, x * y = p := ⟨_, rfl⟩
      have HN : Hid (costZ (l.take (k + 1)) (m.take (k + 1)) = q + p) := Lib.hid (by rw [costZ_succ hs hs', HQ.out, hp])
      have hp0 : 0 ≤ p := by rw [← hp]; exact Int.mul_nonneg (by omega) (by omega)
      rw [hp] at hbd
      have hp2 : y * x = p := by rw [Int.mul_comm]; exact hp
      have hw : wrap64 (y * x) = p := by rw [hp2]; exact IntWalk.wrap64_in _ (by omega)
      have hk0 : (0 : Int) ≤ (k : Int) := by omega
      have hk1 : (k : Int) < (n : Int) := by omega
      have HP2 := Lib.hid hp2
      clear hs hs' hp hp2
      go_wp2
      first | done | (go_roundw
                      case rel => exact ⟨k + 1, q + p, by omega, by go_num, by first | rfl | (rw [HP2.out]; done) | (simp [HP2.out]; done), by omega, by omega, HN, HB⟩
                      case measure => simp [intOf]; omega)
    · have HE : Hid (q = costZ l m) := Lib.hid (by rw [← HQ.out, List.take_of_length_le (by have := L.out; omega), List.take_of_length_le (by have := L'.out; omega)])
      go_wp2
      go_ret
      exact ⟨ret_num HE.out, HB.out⟩

end Go.Proofs.Ythjafoacnfgjhaa
