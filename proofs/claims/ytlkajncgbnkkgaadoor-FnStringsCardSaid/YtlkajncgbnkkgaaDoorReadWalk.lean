/-
  The contracts of ParseInt, the model's.
-/
import Derived.Test.YtlkajncgbnkkgaaDoorRead
import Derived.Test.YtlkajncgbnkkgaaDoorFmt
import Derived.Test.YtlkajncgbnkkgaaDoorTextEq
namespace Go.Proofs.YtlkajncgbnkkgaaDoor
open Go.RowKit
set_option linter.unusedVariables false

theorem ret_par_no {s : ByteArray} (h : ¬ ∃ n, IsNum s n) : Ending.returned (.tuple #[.int .i64 0, .bool false]) = .returned (.tuple #[.int .i64 (parN s), .bool (parB s)]) := by
  rw [parN_no h, parB_no h]
theorem ret_par_yes {s : ByteArray} {n : Int} (h : IsNum s n) : Ending.returned (.tuple #[.int .i64 n, .bool true]) = .returned (.tuple #[.int .i64 (parN s), .bool (parB s)]) := by
  rw [parN_yes h, parB_yes h]

theorem mem_byte {t : ByteArray} {k : Nat} (h : k < t.size) : t[k] ∈ t.data.toList := by
  have : t.data.toList[k]'(by rw [← Lib.size_eq]; exact h) = t[k] := rfl
  rw [← this]
  exact List.getElem_mem _

theorem take_byte {t : ByteArray} {k : Nat} (h : k < t.size) : t.data.toList.take (k + 1) = t.data.toList.take k ++ [t[k]] := by
  rw [List.take_succ_eq_append_getElem (by rw [← Lib.size_eq]; exact h)]; rfl

theorem dig_take {t : ByteArray} {k : Nat} (h : k < t.size) (h0 : ∀ c ∈ t.data.toList.take k, Dig c) (hc : Dig t[k]) : ∀ c ∈ t.data.toList.take (k + 1), Dig c := by
  intro c hm
  rw [take_byte h] at hm
  rcases List.mem_append.1 hm with h1 | h1
  · exact h0 c h1
  · simp only [List.mem_singleton] at h1
    subst h1
    exact hc

theorem dv_take {t : ByteArray} {k : Nat} (h : k < t.size) : dv (t.data.toList.take (k + 1)) = 10 * dv (t.data.toList.take k) + (t[k].toNat - 48) := by
  rw [take_byte h, dv_snoc]

theorem head_neg {s : ByteArray} (h : 1 < s.size) (h0 : s[0] = 45) : s.data.toList = 45 :: (s.extract 1 s.size).data.toList := by
  rw [Lib.extract_to_end]
  have hl : 0 < s.data.toList.length := by rw [← Lib.size_eq]; omega
  have e : s.data.toList[0] = 45 := h0
  rw [← e, List.getElem_cons_drop hl]
  rfl

set_option maxHeartbeats 2000000 in
theorem read_walk_neg (s : ByteArray) (w : World) (hs : s.size ≤ 1048576) (h1 : 1 < s.size) (h0 : s[0] = 45) :
    Calls Tryd.prog 26 #[.string s] w fun e w' => e = .returned (.tuple #[.int .i64 (parN s), .bool (parB s)]) ∧ ∃ q, w' = w.drewN q := by
    have hs0 := head_neg h1 h0
    have p1 : decide ((1 : Int) < (s.size : Int)) = true := by simp; omega
    have p2 : ((s[0].toNat : Int) == 45) = true := by rw [h0]; rfl
    obtain ⟨t, ht⟩ : ∃ t, s.extract 1 s.size = t := ⟨_, rfl⟩
    have htz : t.size + 1 = s.size := by rw [← ht, ByteArray.size_extract]; omega
    have htl : t.size < s.size := by omega
    have hts : t.size ≤ 1048576 := by omega
    rw [ht] at hs0
    have HS := Lib.hid hs0
    clear hs0 h0 htz
    by_cases ho : t.size < 1 ∨ 6 < t.size
    · have HN := Lib.hid (ret_par_no (s := s) (fun ⟨n, h⟩ => by have := (read_neg h HS.out); omega))
      have HO := Lib.hid (show ((t.size : Nat) : Int) < 1 ∨ 6 < ((t.size : Nat) : Int) by omega)
      clear ho
      go_enter Tryd.func26, Tryd.ntmps26
      go_wp2_with (go_at_call 21; refine (l1In_no _ _ _ _ HO.out).mono ?_; rintro e w' ⟨rfl, rfl⟩)
      go_ret2
      exact ⟨HN.out, 0, rfl⟩
    · have o1 : 1 ≤ t.size := by omega
      have o2 : t.size ≤ 6 := by omega
      clear ho
      go_enter Tryd.func26, Tryd.ntmps26
      go_wp2_with (go_at_call 21; refine (l1In_yes _ _ _ _ (by omega) (by omega)).mono ?_; rintro e w' ⟨rfl, rfl⟩)
      go_loop [5, 6] (fun q i => ∃ (k v : Nat), k ≤ t.size ∧ i = .int .i64 k ∧ q = .int .i64 v ∧ v ≤ 999999 ∧ Hid (v = dv (t.data.toList.take k)) ∧ Hid (∀ c ∈ t.data.toList.take k, Dig c)) (fun _ i => t.size - (intOf i).toNat)
      case atStart => exact ⟨0, 0, Nat.zero_le _, rfl, rfl, by omega, Lib.hid rfl, Lib.hid (fun c hc => by simp at hc)⟩
      case round =>
        obtain ⟨k, v, hk, rfl, rfl, hv, HV, HD⟩ := hrel
        by_cases hlt : k < t.size
        · have hb := t[k].toNat_lt
          by_cases hd : Dig t[k]
          · have HD' := Lib.hid (dig_take hlt HD.out hd)
            have HV' := Lib.hid (dv_take hlt)
            have hle := dv_le6 HD'.out (by rw [List.length_take]; omega)
            rw [HV'.out, ← HV.out] at hle
            unfold Dig at hd
            obtain ⟨d1, d2⟩ := hd
            have q1 : decide (((t[k].toNat : Nat) : Int) < 48) = false := by simp; omega
            have q2 : decide ((57 : Int) < ((t[k].toNat : Nat) : Int)) = false := by simp; omega
            go_wp2
            go_round
            case rel => exact ⟨k + 1, 10 * v + (t[k].toNat - 48), by omega, by go_num, by go_num, hle, Lib.hid (by rw [HV'.out, ← HV.out]), HD'⟩
            case measure => simp [intOf]; omega
          · have HN := Lib.hid (ret_par_no (s := s) (fun ⟨n, h⟩ => hd ((read_neg h HS.out).2.2.1 _ (mem_byte hlt))))
            unfold Dig at hd
            by_cases hlo : t[k].toNat < 48
            · have q1 : decide (((t[k].toNat : Nat) : Int) < 48) = true := by simp; omega
              clear hd
              go_wp2
              go_ret2
              exact ⟨HN.out, 0, rfl⟩
            · have hhi : 57 < t[k].toNat := by omega
              have q1 : decide (((t[k].toNat : Nat) : Int) < 48) = false := by simp; omega
              have q2 : decide ((57 : Int) < ((t[k].toNat : Nat) : Int)) = true := by simp; omega
              clear hd
              go_wp2
              go_ret2
              exact ⟨HN.out, 0, rfl⟩
        · have e : k = t.size := by omega
          have HVV : Hid (v = dv t.data.toList) := Lib.hid (by rw [HV.out, e, List.take_of_length_le (by rw [← Lib.size_eq]; exact Nat.le_refl _)])
          subst e
          obtain ⟨N, hN⟩ : ∃ N, numI (-(v : Int)) = N := ⟨_, rfl⟩
          have HNN := Lib.hid hN
          have cN := Lib.hid (fun w => num_any (-(v : Int)) w (by omega) (by omega))
          rw [hN] at cN
          clear hN
          by_cases he : N = s
          · have HY := Lib.hid (ret_par_yes (s := s) (n := -(v : Int)) ⟨by omega, by omega, by rw [HNN.out]; exact he⟩)
            have hq := text_same N s he
            clear he
            go_wp2_with (go_at_call 22; refine (cN.out _).mono ?_; rintro e w1 ⟨rfl, q, rfl⟩)
            go_ret2
            exact ⟨HY.out, _, rfl⟩
          · have HX := Lib.hid (ret_par_no (s := s) (fun ⟨n, h⟩ => he (by
              have h5 := (read_neg h HS.out).2.2.2
              rw [← HVV.out] at h5
              rw [← HNN.out, h5]
              exact h.2.2)))
            have hq := text_ne N s he
            clear he
            go_wp2_with (go_at_call 22; refine (cN.out _).mono ?_; rintro e w1 ⟨rfl, q, rfl⟩)
            go_ret2
            exact ⟨HX.out, _, rfl⟩

set_option maxHeartbeats 2000000 in
theorem read_walk_pos (s : ByteArray) (w : World) (hs : s.size ≤ 1048576) (hno : ¬ ∃ h : 1 < s.size, s[0] = 45) :
    Calls Tryd.prog 26 #[.string s] w fun e w' => e = .returned (.tuple #[.int .i64 (parN s), .bool (parB s)]) ∧ ∃ q, w' = w.drewN q := by
  have HS : Hid (∀ r, s.data.toList = 45 :: r → r = []) := Lib.hid (fun r hr => by
    refine Decidable.byContradiction fun hne => hno ?_
    have hl : s.size = r.length + 1 := by rw [Lib.size_eq, hr]; rfl
    have hr0 : 0 < r.length := List.length_pos_iff.2 hne
    refine ⟨by omega, ?_⟩
    have e : s.data.toList[0]'(by rw [← Lib.size_eq]; omega) = 45 := by simp [hr]
    exact e)
  by_cases h1 : 1 < s.size
  · have h0 : s[0] ≠ 45 := fun e => hno ⟨h1, e⟩
    have p1 : decide ((1 : Int) < (s.size : Int)) = true := by simp; omega
    have p2 : ((s[0].toNat : Int) == 45) = false := by
      rw [beq_eq_false_iff_ne]
      intro e
      exact h0 (UInt8.toNat.inj (by have e3 : (45 : UInt8).toNat = 45 := rfl; omega))
    clear h0 hno
    by_cases ho : s.size < 1 ∨ 6 < s.size
    · have HN := Lib.hid (ret_par_no (s := s) (fun ⟨n, h⟩ => by have := (read_pos h HS.out); omega))
      have HO := Lib.hid (show ((s.size : Nat) : Int) < 1 ∨ 6 < ((s.size : Nat) : Int) by omega)
      clear ho
      go_enter Tryd.func26, Tryd.ntmps26
      go_wp2_with (go_at_call 21; refine (l1In_no _ _ _ _ HO.out).mono ?_; rintro e w' ⟨rfl, rfl⟩)
      go_ret2
      exact ⟨HN.out, 0, rfl⟩
    · have o1 : 1 ≤ s.size := by omega
      have o2 : s.size ≤ 6 := by omega
      clear ho
      go_enter Tryd.func26, Tryd.ntmps26
      go_wp2_with (go_at_call 21; refine (l1In_yes _ _ _ _ (by omega) (by omega)).mono ?_; rintro e w' ⟨rfl, rfl⟩)
      go_loop [5, 6] (fun q i => ∃ (k v : Nat), k ≤ s.size ∧ i = .int .i64 k ∧ q = .int .i64 v ∧ v ≤ 999999 ∧ Hid (v = dv (s.data.toList.take k)) ∧ Hid (∀ c ∈ s.data.toList.take k, Dig c)) (fun _ i => s.size - (intOf i).toNat)
      case atStart => exact ⟨0, 0, Nat.zero_le _, rfl, rfl, by omega, Lib.hid rfl, Lib.hid (fun c hc => by simp at hc)⟩
      case round =>
        obtain ⟨k, v, hk, rfl, rfl, hv, HV, HD⟩ := hrel
        by_cases hlt : k < s.size
        · have hb := s[k].toNat_lt
          by_cases hd : Dig s[k]
          · have HD' := Lib.hid (dig_take hlt HD.out hd)
            have HV' := Lib.hid (dv_take hlt)
            have hle := dv_le6 HD'.out (by rw [List.length_take]; omega)
            rw [HV'.out, ← HV.out] at hle
            unfold Dig at hd
            obtain ⟨d1, d2⟩ := hd
            have q1 : decide (((s[k].toNat : Nat) : Int) < 48) = false := by simp; omega
            have q2 : decide ((57 : Int) < ((s[k].toNat : Nat) : Int)) = false := by simp; omega
            go_wp2
            go_round
            case rel => exact ⟨k + 1, 10 * v + (s[k].toNat - 48), by omega, by go_num, by go_num, hle, Lib.hid (by rw [HV'.out, ← HV.out]), HD'⟩
            case measure => simp [intOf]; omega
          · have HN := Lib.hid (ret_par_no (s := s) (fun ⟨n, h⟩ => hd ((read_pos h HS.out).2.2.1 _ (mem_byte hlt))))
            unfold Dig at hd
            by_cases hlo : s[k].toNat < 48
            · have q1 : decide (((s[k].toNat : Nat) : Int) < 48) = true := by simp; omega
              clear hd
              go_wp2
              go_ret2
              exact ⟨HN.out, 0, rfl⟩
            · have hhi : 57 < s[k].toNat := by omega
              have q1 : decide (((s[k].toNat : Nat) : Int) < 48) = false := by simp; omega
              have q2 : decide ((57 : Int) < ((s[k].toNat : Nat) : Int)) = true := by simp; omega
              clear hd
              go_wp2
              go_ret2
              exact ⟨HN.out, 0, rfl⟩
        · have e : k = s.size := by omega
          have HVV : Hid (v = dv s.data.toList) := Lib.hid (by rw [HV.out, e, List.take_of_length_le (by rw [← Lib.size_eq]; exact Nat.le_refl _)])
          subst e
          obtain ⟨N, hN⟩ : ∃ N, numI ((v : Int)) = N := ⟨_, rfl⟩
          have HNN := Lib.hid hN
          have cN := Lib.hid (fun w => num_any ((v : Int)) w (by omega) (by omega))
          rw [hN] at cN
          clear hN
          by_cases he : N = s
          · have HY := Lib.hid (ret_par_yes (s := s) (n := (v : Int)) ⟨by omega, by omega, by rw [HNN.out]; exact he⟩)
            have hq := text_same N s he
            clear he
            go_wp2_with (go_at_call 22; refine (cN.out _).mono ?_; rintro e w1 ⟨rfl, q, rfl⟩)
            go_ret2
            exact ⟨HY.out, _, rfl⟩
          · have HX := Lib.hid (ret_par_no (s := s) (fun ⟨n, h⟩ => he (by
              have h5 := (read_pos h HS.out).2.2.2
              rw [← HVV.out] at h5
              rw [← HNN.out, h5]
              exact h.2.2)))
            have hq := text_ne N s he
            clear he
            go_wp2_with (go_at_call 22; refine (cN.out _).mono ?_; rintro e w1 ⟨rfl, q, rfl⟩)
            go_ret2
            exact ⟨HX.out, _, rfl⟩
  · have p1 : decide ((1 : Int) < (s.size : Int)) = false := by simp; omega
    clear hno
    by_cases ho : s.size < 1 ∨ 6 < s.size
    · have HN := Lib.hid (ret_par_no (s := s) (fun ⟨n, h⟩ => by have := (read_pos h HS.out); omega))
      have HO := Lib.hid (show ((s.size : Nat) : Int) < 1 ∨ 6 < ((s.size : Nat) : Int) by omega)
      clear ho
      go_enter Tryd.func26, Tryd.ntmps26
      go_wp2_with (go_at_call 21; refine (l1In_no _ _ _ _ HO.out).mono ?_; rintro e w' ⟨rfl, rfl⟩)
      go_ret2
      exact ⟨HN.out, 0, rfl⟩
    · have o1 : 1 ≤ s.size := by omega
      have o2 : s.size ≤ 6 := by omega
      clear ho
      go_enter Tryd.func26, Tryd.ntmps26
      go_wp2_with (go_at_call 21; refine (l1In_yes _ _ _ _ (by omega) (by omega)).mono ?_; rintro e w' ⟨rfl, rfl⟩)
      go_loop [5, 6] (fun q i => ∃ (k v : Nat), k ≤ s.size ∧ i = .int .i64 k ∧ q = .int .i64 v ∧ v ≤ 999999 ∧ Hid (v = dv (s.data.toList.take k)) ∧ Hid (∀ c ∈ s.data.toList.take k, Dig c)) (fun _ i => s.size - (intOf i).toNat)
      case atStart => exact ⟨0, 0, Nat.zero_le _, rfl, rfl, by omega, Lib.hid rfl, Lib.hid (fun c hc => by simp at hc)⟩
      case round =>
        obtain ⟨k, v, hk, rfl, rfl, hv, HV, HD⟩ := hrel
        by_cases hlt : k < s.size
        · have hb := s[k].toNat_lt
          by_cases hd : Dig s[k]
          · have HD' := Lib.hid (dig_take hlt HD.out hd)
            have HV' := Lib.hid (dv_take hlt)
            have hle := dv_le6 HD'.out (by rw [List.length_take]; omega)
            rw [HV'.out, ← HV.out] at hle
            unfold Dig at hd
            obtain ⟨d1, d2⟩ := hd
            have q1 : decide (((s[k].toNat : Nat) : Int) < 48) = false := by simp; omega
            have q2 : decide ((57 : Int) < ((s[k].toNat : Nat) : Int)) = false := by simp; omega
            go_wp2
            go_round
            case rel => exact ⟨k + 1, 10 * v + (s[k].toNat - 48), by omega, by go_num, by go_num, hle, Lib.hid (by rw [HV'.out, ← HV.out]), HD'⟩
            case measure => simp [intOf]; omega
          · have HN := Lib.hid (ret_par_no (s := s) (fun ⟨n, h⟩ => hd ((read_pos h HS.out).2.2.1 _ (mem_byte hlt))))
            unfold Dig at hd
            by_cases hlo : s[k].toNat < 48
            · have q1 : decide (((s[k].toNat : Nat) : Int) < 48) = true := by simp; omega
              clear hd
              go_wp2
              go_ret2
              exact ⟨HN.out, 0, rfl⟩
            · have hhi : 57 < s[k].toNat := by omega
              have q1 : decide (((s[k].toNat : Nat) : Int) < 48) = false := by simp; omega
              have q2 : decide ((57 : Int) < ((s[k].toNat : Nat) : Int)) = true := by simp; omega
              clear hd
              go_wp2
              go_ret2
              exact ⟨HN.out, 0, rfl⟩
        · have e : k = s.size := by omega
          have HVV : Hid (v = dv s.data.toList) := Lib.hid (by rw [HV.out, e, List.take_of_length_le (by rw [← Lib.size_eq]; exact Nat.le_refl _)])
          subst e
          obtain ⟨N, hN⟩ : ∃ N, numI ((v : Int)) = N := ⟨_, rfl⟩
          have HNN := Lib.hid hN
          have cN := Lib.hid (fun w => num_any ((v : Int)) w (by omega) (by omega))
          rw [hN] at cN
          clear hN
          by_cases he : N = s
          · have HY := Lib.hid (ret_par_yes (s := s) (n := (v : Int)) ⟨by omega, by omega, by rw [HNN.out]; exact he⟩)
            have hq := text_same N s he
            clear he
            go_wp2_with (go_at_call 22; refine (cN.out _).mono ?_; rintro e w1 ⟨rfl, q, rfl⟩)
            go_ret2
            exact ⟨HY.out, _, rfl⟩
          · have HX := Lib.hid (ret_par_no (s := s) (fun ⟨n, h⟩ => he (by
              have h5 := (read_pos h HS.out).2.2.2
              rw [← HVV.out] at h5
              rw [← HNN.out, h5]
              exact h.2.2)))
            have hq := text_ne N s he
            clear he
            go_wp2_with (go_at_call 22; refine (cN.out _).mono ?_; rintro e w1 ⟨rfl, q, rfl⟩)
            go_ret2
            exact ⟨HX.out, _, rfl⟩

theorem specPar_any (s : ByteArray) (w : World) (hs : s.size ≤ 1048576) :
    Calls Tryd.prog 12 #[.string s] w fun e w' => e = .returned (.tuple #[.int .i64 (parN s), .bool (parB s)]) ∧ ∃ q, w' = w.drewN q := by
  have cR : Calls Tryd.prog 26 #[.string s] w fun e w' => e = .returned (.tuple #[.int .i64 (parN s), .bool (parB s)]) ∧ ∃ q, w' = w.drewN q := by
    by_cases h : ∃ h : 1 < s.size, s[0] = 45
    · obtain ⟨h1, h0⟩ := h
      exact read_walk_neg s w hs h1 h0
    · exact read_walk_pos s w hs h
  obtain ⟨J, hJ⟩ : ∃ J, parN s = J := ⟨_, rfl⟩
  obtain ⟨F, hF⟩ : ∃ F, parB s = F := ⟨_, rfl⟩
  rw [hJ, hF] at cR ⊢
  have CR := Lib.hid cR
  clear cR hJ hF
  go_enter Tryd.func12, Tryd.ntmps12
  go_wp2_with (go_at_call 26; refine CR.out.mono ?_; rintro e w1 ⟨rfl, q, rfl⟩)
  go_ret2
  exact ⟨rfl, _, rfl⟩

end Go.Proofs.YtlkajncgbnkkgaaDoor
