/-
  The plain code of lengths.
-/
import Derived.Test.YthjafoacnfgjhabPlainM10
namespace Go.Proofs.Ythjafoacnfgjhab
open Go.RowKit
set_option linter.unusedVariables false

set_option maxRecDepth 1000000 in
set_option maxHeartbeats 4000000 in
theorem l10Plain_any (B : Nat) (a : Option Addr) (n c : Nat) (l : List Int) (w : World) (hB : B ≤ w.heap.size) (h : Ints B w a n c l) (hn : n ≤ 12) :
    Calls Try.prog 34 #[.slice a n c] w fun e w' => ∃ v, e = .returned v ∧ w'.ownsRow w.heap.size 9 1 v n (tcs (outp l 14).2) ∧ Below w.heap.size w w' := by
  have L := Lib.hid h.len
  have C := h.sl.cap
  have T := h.sl.top
  have H := Lib.hid h
  clear h
  obtain ⟨i0, hi, hz0, hz1, hz2⟩ := info_parts infoS
  go_enter Try.func34, Try.ntmps34
  go_wp2_with (first | (at_make; refine wpList_make_full _ rfl _ _ 22 rfl w.heap.size 9 i0 (.string ByteArray.empty) 1 Try.underlying22 hi hz0 hz1 .i64 .i64 _ _ n rfl rfl rfl rfl (by rw [hz2]; omega) (by unfold maxLen; omega) (Nat.le_refl _) ?_; intro w1 hown hgrow))
  have hown0 : Hid (w1.ownsRow w.heap.size 9 1 (.slice (some ⟨w.heap.size, 0, none⟩) n n) n (tcs (outp l 0).2)) := Lib.hid (by
    show w1.ownsRow w.heap.size 9 1 (.slice (some ⟨w.heap.size, 0, none⟩) n n) n (tcs (List.replicate l.length []))
    rw [L.out, tcs_nil]
    have e := toList_madeCells_one (.string ByteArray.empty) n
    rw [Nat.mul_one] at hown
    exact e ▸ hown)
  have hb1 : Hid (Below w.heap.size w w1) := Lib.hid ((Below.refl _ _).grown hgrow (Nat.le_refl _) (fun k e => by cases e))
  clear hown hgrow
  go_loopw [4, 5] (fun at' le wr => ∃ (K v : Nat), 1 ≤ K ∧ K ≤ 15 ∧ le = .int .i64 K ∧ at' = .int .i64 (v : Int) ∧ Hid ((outp l (K - 1)).1 = v) ∧ Hid (wr.ownsRow w.heap.size 9 1 (.slice (some ⟨w.heap.size, 0, none⟩) n n) n (tcs (outp l (K - 1)).2)) ∧ Hid (Below w.heap.size w wr)) (fun _ le _ => 15 - (intOf le).toNat)
  case atStart => exact ⟨1, 0, by omega, by omega, rfl, rfl, Lib.hid rfl, hown0, hb1⟩
  case round =>
    clear hown0 hb1
    obtain ⟨K, v, hK1, hK15, rfl, rfl, HV, HO, HB⟩ := hrel
    by_cases hK : K ≤ 14
    · have hKi : (K : Int) ≤ 14 := by omega
      rename World => wo
      go_wp2
      go_loopw [4, 6] (fun at' i wr => ∃ (k v : Nat), k ≤ n ∧ i = .int .i64 k ∧ at' = .int .i64 (v : Int) ∧ Hid ((inn l K k (outp l (K - 1))).1 = v) ∧ Hid (wr.ownsRow w.heap.size 9 1 (.slice (some ⟨w.heap.size, 0, none⟩) n n) n (tcs (inn l K k (outp l (K - 1))).2)) ∧ Hid (Below w.heap.size w wr)) (fun _ i _ => n - (intOf i).toNat)
      case atStart => exact ⟨0, v, Nat.zero_le _, rfl, rfl, Lib.hid HV.out, Lib.hid HO.out, HB⟩
      case round =>
        clear HV HO HB
        obtain ⟨k, v, hk, rfl, rfl, HV, HO, HB⟩ := hrel
        by_cases hlt : k < n
        · obtain ⟨b, o, z, rfl, _, hs, _, hc⟩ := (H.out.keep (HB.out.mono hB)).elem k hlt
          have HS := Lib.hid hs
          clear hs
          have hk0 : (0 : Int) ≤ (k : Int) := by omega
          have hk1 : (k : Int) < (n : Int) := by omega
          by_cases hz : z = (K : Int)
          · subst hz
            have hvb : v ≤ 1500000 := by rw [← HV.out]; exact at_ok (by rw [L.out]; omega) hK1 hK (by rw [L.out]; omega)
            have hst := stp_yes (st := inn l K k (outp l (K - 1))) HS.out
            rw [← inn_succ, HV.out] at hst
            have HV2 : Hid ((inn l K (k + 1) (outp l (K - 1))).1 = v + 2 ^ (14 - K)) := Lib.hid (by rw [hst])
            have HR2 : Hid ((inn l K (k + 1) (outp l (K - 1))).2 = (inn l K k (outp l (K - 1))).2.set k (dgT v K)) := Lib.hid (by rw [hst])
            have hp13 := pow_le13 hK1
            have hln : k < ((inn l K k (outp l (K - 1))).2).length := by rw [(inn_ok l hK1 _ k).2, (outp_ok l _).2, L.out]; exact hlt
            have hf := HO.out.frozenAt k
            have hd := HO.out.cellAt k (by omega)
            obtain ⟨u9, hu9⟩ : ∃ u9, (tcs (inn l K k (outp l (K - 1))).2)[k]? = some (.string u9) := ⟨_, tcs_at hln⟩
            rw [hu9] at hd
            have hstr := (HO.out.stored k (.string (bx (dgT v K)))).1
            rw [tcs_set, ← HR2.out] at hstr
            have HST := Lib.hid hstr
            clear hst hln hstr hu9
            obtain ⟨p, hp⟩ : ∃ p, 2 ^ (14 - K) = p := ⟨_, rfl⟩
            rw [hp] at HV2 hp13
            obtain ⟨y, hy⟩ : ∃ y, v / 2 ^ (14 - K) = y := ⟨_, rfl⟩
            have hyb := div_bd hy hvb
            have cD0 := fun W => l10Digits_any y (Nat.le_trans hyb (by decide)) K hK W
            rw [← hy, dlo_dgT v K hK, hy] at cD0
            have cD := Lib.hid cD0
            have HP := Lib.hid hp
            have HY := Lib.hid hy
            clear hp hy cD0
            obtain ⟨hq2, hsh3⟩ := plain_ar HP.out HY.out
            have hp0 : (0 : Int) ≤ (p : Int) ∧ (p : Int) ≤ 8192 := ⟨Int.natCast_nonneg _, Int.ofNat_le.2 hp13⟩
            have hvp : (0 : Int) ≤ (v : Int) + (p : Int) ∧ (v : Int) + (p : Int) ≤ 2000000 := ⟨Int.add_nonneg (Int.natCast_nonneg _) (Int.natCast_nonneg _), by rw [← Int.natCast_add]; exact Int.ofNat_le.2 (Nat.le_trans (Nat.add_le_add hvb hp13) (by decide))⟩
            go_wp2_with (go_at_call 61; refine (cD.out _).mono ?_; rintro e w3 ⟨rfl, rfl⟩)
            clear hq2 hsh3 hp0 hvp hp13 hvb hyb
            go_roundw
            case rel => exact ⟨k + 1, v + p, by omega, by go_num, by go_num, HV2, HST, Lib.hid (HB.out.setCell (p := ⟨w.heap.size, k, none⟩) (Nat.le_refl _) _)⟩
            case measure => simp [intOf]; omega
          · have hne : (z == (K : Int)) = false := by simp [hz]
            have HN : Hid (inn l K (k + 1) (outp l (K - 1)) = inn l K k (outp l (K - 1))) := Lib.hid (by rw [inn_succ]; exact stp_no HS.out hz)
            clear hz
            go_wp2
            go_roundw
            case rel => exact ⟨k + 1, v, by omega, by go_num, rfl, Lib.hid (by rw [HN.out]; exact HV.out), Lib.hid (by rw [HN.out]; exact HO.out), HB⟩
            case measure => simp [intOf]; omega
        · have HN : Hid (outp l (K + 1 - 1) = inn l K k (outp l (K - 1))) := Lib.hid (by
            obtain ⟨J, rfl⟩ : ∃ J, K = J + 1 := ⟨K - 1, by omega⟩
            show inn l (J + 1) l.length (outp l J) = inn l (J + 1) k (outp l J)
            rw [show k = l.length by rw [L.out]; omega])
          go_wp2
          go_roundw
          case rel => exact ⟨K + 1, v, by omega, by omega, by go_num, rfl, Lib.hid (by rw [HN.out]; exact HV.out), Lib.hid (by rw [HN.out]; exact HO.out), HB⟩
          case measure => simp [intOf]; omega
    · have hKi : ¬ (K : Int) ≤ 14 := by omega
      have e : K - 1 = 14 := by omega
      rw [e] at HO
      go_wp2
      go_ret
      exact ⟨_, rfl, HO.out, HB.out⟩

end Go.Proofs.Ythjafoacnfgjhab
