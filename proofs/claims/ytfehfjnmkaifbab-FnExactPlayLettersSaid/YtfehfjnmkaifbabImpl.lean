/-
  The program's test of a trie: each node may be the next one, leaves end words, words are few.
-/
import Derived.Test.YtfehfjnmkaifbabTrie
import Derived.Test.YtfehfjnmkaifbabClimb
namespace Go.Proofs.Ytfehfjnmkaifbab
open Go.RowKit
set_option linter.unusedVariables false

set_option maxRecDepth 1000000 in
set_option maxHeartbeats 1000000 in
theorem isNext_any (B : Nat) (a : Option Addr) (n c k : Nat) (t : List Nd) (ps : List Txt) (z : Txt) (d : Nd) (w : World) (hB : B ≤ w.heap.size) (h : Nds B w a n c t) (ht : Tells t k ps) (hk : k < n) (hz : ps[k - 1]? = some z) (hd : t[k]? = some d) (r : Bool) (hr : r = true ↔ NextOk ps k z d) :
    Calls Try.prog 108 #[.slice a n c, .int .i64 (k : Int)] w fun e w' => e = .returned (.bool r) ∧ Below w.heap.size w w' := by
  have hk1 := ht.pos
  have HT := Lib.hid ht
  have HZ := Lib.hid hz
  have HR := Lib.hid hr
  obtain ⟨b, o, l, p, e, rfl, hbB, hd', hl, hp, hc1, hc2, hc3⟩ := h.elem k hk
  rw [hd] at hd'
  obtain rfl := Option.some.inj hd'
  have C := h.cap
  have T := h.top
  have H := Lib.hid h
  have HB := Lib.hid hB
  have hbw : b < w.heap.size := by omega
  have HB1 : Hid (Below w.heap.size w (w.alloc (.cells #[.int .i64 l, .int .i64 p, .bool e] 66))) := Lib.hid ((Below.refl _ _).alloc (Nat.le_refl _) _)
  clear h hB ht hz hr hd
  go_enter Try.func108, Try.ntmps108
  go_wp2
  clear hc1 hc2 hc3
  go_loop [6, 7] (fun q i => ∃ (j : Nat) (br : Int) (y : Txt), j < k ∧ i = .int .i64 j ∧ q = .int .i64 br ∧ (-1 ≤ br ∧ br ≤ 300) ∧ Hid (ps[j]? = some y) ∧ Hid (y <+: z) ∧ Hid (BrOk z y br) ∧ Hid (Clim ps z p y)) (fun _ i => (intOf i).toNat)
  case atStart => exact ⟨k - 1, -1, z, by omega, by first | rfl | (congr 1; omega), rfl, by omega, HZ, Lib.hid (List.prefix_refl _), Lib.hid (.inl ⟨rfl, rfl⟩), Lib.hid (clim_start _ _ _)⟩
  case round =>
    obtain ⟨j, br, y, hjk, rfl, rfl, hbr, HY, HYZ, HBr, HCl⟩ := hrel
    by_cases hjp : p = (j : Int)
    · have hne : ((j : Int) != p) = false := by simp [hjp]
      have HX := Lib.hid (climb_exit (l := l) (e := e) HY.out hjp hjk HBr.out)
      have hp0 : 0 ≤ p := by omega
      clear hjp
      by_cases h1 : br < l
      · have hd1 : decide (br < l) = true := by simpa using h1
        go_wp2
        go_ret
        exact ⟨ret_bool (by
          rw [Bool.eq_iff_iff, HR.out, HX.out]
          simp
          exact fun _ => h1), HB1.out⟩
      · have hd1 : decide (br < l) = false := by simpa using h1
        go_wp2
        go_ret
        exact ⟨ret_bool (by
          rw [Bool.eq_iff_iff, HR.out, HX.out]
          simp
          omega), HB1.out⟩
    · have hne : ((j : Int) != p) = true := by simp; omega
      by_cases hj0 : j = 0
      · subst hj0
        have HX : Hid (r = false) := Lib.hid (by
          have hy : y = [] := by have := HY.out; rw [HT.out.nil] at this; exact (Option.some.inj this).symm
          have hcl := HCl.out
          rw [hy] at hcl
          cases r with
          | false => rfl
          | true => exact absurd (HR.out.1 rfl) (climb_root HT.out HZ.out (by omega) hcl))
        clear hjp
        go_wp2
        go_ret
        exact ⟨ret_bool HX.out.symm, HB1.out⟩
      · have hj1 : ((j : Int) == 0) = false := by simp [hj0]
        have hjn : j < n := by omega
        obtain ⟨b2, o2, lj, pj, ej, e2, hbB2, hdj, hlj, hpj, hc1, hc2, hc3⟩ := (H.out.keep (HB1.out.mono HB.out)).elem j hjn
        simp only [Option.some.injEq, Addr.mk.injEq, and_true] at e2
        obtain ⟨rfl, rfl⟩ := e2
        have hst : ∃ (q : Nat) (v : Txt) (c : UInt8), pj = (q : Int) ∧ q < j ∧ lj = (c.toNat : Int) - 97 ∧ 97 ≤ c.toNat ∧ c.toNat ≤ 122 ∧ ps[q]? = some v ∧ y = v ++ [c] := by
          obtain ⟨q, v, c, f1, f2, f3, f4, f5, f6, f7⟩ := HT.out.step j _ (by omega) hjk hdj
          rw [HY.out] at f7
          exact ⟨q, v, c, f1, f2, f3, f4, f5, f6, Option.some.inj f7⟩
        obtain ⟨q, v, c', rfl, hqj, hlc, c0, c1, hv, hyv⟩ := hst
        have HV := Lib.hid hv
        have HYZ2 : Hid (v <+: z) := Lib.hid ((List.prefix_append v [c']).trans (by have := HYZ.out; rwa [hyv] at this))
        have HBr2 : Hid (BrOk z v lj) := Lib.hid (.inr ⟨c', by have := HYZ.out; rwa [hyv] at this, hlc, c0, c1⟩)
        have HCl2 : Hid (Clim ps z p v) := Lib.hid (clim_step HT.out (by have := HY.out; rwa [hyv] at this) hjp (by have := HCl.out; rwa [hyv] at this))
        have hlb : -1 ≤ lj ∧ lj ≤ 300 := by omega
        clear hjp hdj hv hyv hlc
        go_wp2
        go_round
        case rel => exact ⟨q, lj, v, by omega, rfl, rfl, hlb, HV, HYZ2, HBr2, HCl2⟩
        case measure => simp [intOf]; omega

set_option maxRecDepth 1000000 in
set_option maxHeartbeats 1000000 in
theorem lettersTo_any (B : Nat) (a : Option Addr) (n c i k : Nat) (t : List Nd) (ps : List Txt) (x : Txt) (w : World) (hB : B ≤ w.heap.size) (h : Nds B w a n c t) (ht : Tells t k ps) (hx : ps[i]? = some x) :
    Calls Try.prog 77 #[.slice a n c, .int .i64 (i : Int)] w fun e w' => e = .returned (.int .i64 (x.length : Int)) ∧ w = w' := by
  have L := Lib.hid h.len
  have C := h.cap
  have T := h.top
  have hxi := tells_len ht i x hx
  have hik : i < k := by have := ht.len; have := (List.getElem?_eq_some_iff.1 hx).1; omega
  have hkn : k ≤ n := by have := ht.le; have := h.len; omega
  have H := Lib.hid h
  have HT := Lib.hid ht
  have HX := Lib.hid hx
  obtain ⟨m0, hm0⟩ : ∃ m0, x.length = m0 := ⟨_, rfl⟩
  have HM0 := Lib.hid hm0
  rw [hm0] at hxi ⊢
  clear h ht hx hB hm0
  go_enter Try.func77, Try.ntmps77
  go_wp2
  go_loop [1, 5] (fun p q => ∃ (j m : Nat) (y : Txt), j ≤ i ∧ p = .int .i64 j ∧ q = .int .i64 m ∧ m ≤ m0 ∧ Hid (ps[j]? = some y) ∧ Hid (m + y.length = m0)) (fun p _ => (intOf p).toNat)
  case atStart => exact ⟨i, 0, x, Nat.le_refl _, rfl, rfl, by omega, HX, Lib.hid (by rw [Nat.zero_add]; exact HM0.out)⟩
  case round =>
    obtain ⟨j, m, y, hji, rfl, rfl, hm, HY, HM⟩ := hrel
    by_cases hj0 : j = 0
    · subst hj0
      have hz : m = m0 := by
        have := HY.out
        rw [HT.out.nil] at this
        have h2 := HM.out
        rw [← Option.some.inj this] at h2
        simpa using h2
      subst hz
      go_wp2
      go_ret
      exact ⟨rfl, rfl⟩
    · have hne : ((j : Int) != 0) = true := by simp [hj0]
      have hjn : j < n := by omega
      obtain ⟨b2, o2, lj, pj, ej, rfl, hbB2, hdj, hlj, hpj, hc1, hc2, hc3⟩ := H.out.elem j hjn
      obtain ⟨q, v, c', f1, f2, f3, f4, f5, f6, f7⟩ := HT.out.step j _ (by omega) (by omega) hdj
      simp only at f1
      subst f1
      rw [HY.out] at f7
      have HV := Lib.hid f6
      have hmm : m + 1 ≤ m0 ∧ m + 1 + v.length = m0 := by
        have := HM.out
        rw [Option.some.inj f7] at this
        simp at this
        omega
      have HMM := Lib.hid hmm.2
      have hm1 := hmm.1
      clear hmm f3 f6 f7 hdj
      go_wp2
      go_round
      case rel => exact ⟨q, m + 1, v, by omega, rfl, by go_num, hm1, HV, HMM⟩
      case measure => simp [intOf]; omega

set_option maxRecDepth 1000000 in
set_option maxHeartbeats 1000000 in
theorem countEnds_any (B : Nat) (a : Option Addr) (n c : Nat) (t : List Nd) (w : World) (hB : B ≤ w.heap.size) (h : Nds B w a n c t) (hn : n ≤ 10000000) :
    Calls Try.prog 110 #[.slice a n c] w fun e w' => e = .returned (.int .i64 (ends t : Int)) ∧ Below w.heap.size w w' := by
  have L := Lib.hid h.len
  have C := h.cap
  have T := h.top
  have H := Lib.hid h
  have HB := Lib.hid hB
  clear h hB
  go_enter Try.func110, Try.ntmps110
  go_wp2
  go_loopw [3, 8] (fun q i wr => ∃ (k m : Nat), k ≤ n ∧ i = .int .i64 k ∧ q = .int .i64 m ∧ m ≤ k ∧ Hid (ends (t.take k) = m) ∧ Hid (Below w.heap.size w wr)) (fun _ i _ => n - (intOf i).toNat)
  case atStart => exact ⟨0, 0, Nat.zero_le _, rfl, rfl, Nat.le_refl _, Lib.hid rfl, Lib.hid (Below.refl _ _)⟩
  case round =>
    obtain ⟨k, m, hk, rfl, rfl, hm, HE, HBw⟩ := hrel
    by_cases hlt : k < n
    · obtain ⟨b2, o2, l, p, e, rfl, hbB2, hd, hl, hp, hc1, hc2, hc3⟩ := (H.out.keep (HBw.out.mono HB.out)).elem k hlt
      have HS := Lib.hid (ends_succ hd)
      clear hd
      have HBs := HBw.out.size
      cases e with
      | true =>
        go_wp2
        go_roundw
        case rel => exact ⟨k + 1, m + 1, by omega, by go_num, by go_num, by omega, Lib.hid (by rw [HS.out, HE.out]; rfl), Lib.hid (HBw.out.alloc HBs _)⟩
        case measure => simp [intOf]; omega
      | false =>
        go_wp2
        go_roundw
        case rel => exact ⟨k + 1, m, by omega, by go_num, rfl, by omega, Lib.hid (by rw [HS.out, HE.out]; rfl), Lib.hid (HBw.out.alloc HBs _)⟩
        case measure => simp [intOf]; omega
    · have HF : Hid (ends t = m) := Lib.hid (by rw [← HE.out, List.take_of_length_le (by have := L.out; omega)])
      go_wp2
      go_ret
      exact ⟨ret_num (by rw [HF.out]), HBw.out⟩

set_option maxRecDepth 1000000 in
set_option maxHeartbeats 1000000 in
theorem areLeavesWords_any (B : Nat) (a : Option Addr) (n c : Nat) (t : List Nd) (w : World) (h : Nds B w a n c t) (hn : n ≤ 10000000) (r : Bool) (hr : r = true ↔ ∀ (i : Nat) (d : Nd), 1 ≤ i → t[i]? = some d → Leaf t i → d.e = true) :
    Calls Try.prog 109 #[.slice a n c] w fun e w' => e = .returned (.bool r) ∧ w = w' := by
  have L := Lib.hid h.len
  have C := h.cap
  have T := h.top
  have H := Lib.hid h
  have HR := Lib.hid hr
  clear h hr
  go_enter Try.func109, Try.ntmps109
  go_wp2
  go_loop [3] (fun i => ∃ (k : Nat), 1 ≤ k ∧ k ≤ n + 1 ∧ i = .int .i64 k ∧ Hid (∀ (i : Nat) (d : Nd), 1 ≤ i → i < k → t[i]? = some d → Leaf t i → d.e = true)) (fun i => n + 1 - (intOf i).toNat)
  case atStart => exact ⟨1, Nat.le_refl _, by omega, rfl, Lib.hid (fun i d h1 h2 => by omega)⟩
  case round =>
    obtain ⟨k, hk1, hk, rfl, HA⟩ := hrel
    by_cases hlt : k < n
    · obtain ⟨b, o, l, p, e, rfl, hbB, hd, hl, hp, hc1, hc2, hc3⟩ := H.out.elem k hlt
      have HD := Lib.hid hd
      clear hd
      have hno : Hid (Leaf t k → e = false → r = false) := Lib.hid (fun hlf he => by
        cases r with
        | false => rfl
        | true =>
          have := HR.out.1 rfl k _ hk1 HD.out hlf
          simp only at this
          rw [he] at this; cases this)
      have hyes : Hid ((Leaf t k → e = true) → ∀ (i : Nat) (d : Nd), 1 ≤ i → i < k + 1 → t[i]? = some d → Leaf t i → d.e = true) := Lib.hid (fun hh i d h1 h2 h3 h4 => by
        by_cases hik : i = k
        · subst hik
          have := HD.out
          rw [h3] at this
          rw [Option.some.inj this]
          exact hh h4
        · exact HA.out i d h1 (by omega) h3 h4)
      by_cases hlast : k + 1 = n
      · have HLf : Hid (Leaf t k) := Lib.hid (.inl (by rw [L.out]; exact hlast))
        have hb : ((k : Int) + 1 == (n : Int)) = true := by simp; omega
        cases e with
        | true =>
          have HA2 := Lib.hid (hyes.out (fun _ => rfl))
          clear hlast
          go_wp2
          go_round
          case rel => exact ⟨k + 1, by omega, by omega, by go_num, HA2⟩
          case measure => simp [intOf]; omega
        | false =>
          have HX := Lib.hid (hno.out HLf.out rfl)
          clear hlast
          go_wp2
          go_ret
          exact ⟨ret_bool HX.out.symm, rfl⟩
      · have hb : ((k : Int) + 1 == (n : Int)) = false := by simp; omega
        have hk1n : (k : Int) + 1 < (n : Int) := by omega
        obtain ⟨b', o', l', p', e', e2, hbB', hd', hl', hp', hc1', hc2', hc3'⟩ := H.out.elem (k + 1) (by omega)
        simp only [Option.some.injEq, Addr.mk.injEq, and_true] at e2
        obtain ⟨rfl, rfl⟩ := e2
        have HD' := Lib.hid hd'
        clear hd'
        by_cases hpk : p' = (k : Int)
        · have hb2 : (p' != (k : Int)) = false := by simp [hpk]
          have HNL : Hid (¬ Leaf t k) := Lib.hid (by
            rintro (h | ⟨d, h1, h2⟩)
            · have := L.out; omega
            · rw [HD'.out] at h1
              rw [← Option.some.inj h1] at h2
              exact h2 hpk)
          have HA2 := Lib.hid (hyes.out (fun h => absurd h HNL.out))
          clear hpk hlast
          go_wp2
          go_round
          case rel => exact ⟨k + 1, by omega, by omega, by go_num, HA2⟩
          case measure => simp [intOf]; omega
        · have hb2 : (p' != (k : Int)) = true := by simp [hpk]
          have HLf : Hid (Leaf t k) := Lib.hid (.inr ⟨_, HD'.out, hpk⟩)
          cases e with
          | true =>
            have HA2 := Lib.hid (hyes.out (fun _ => rfl))
            clear hpk hlast
            go_wp2
            go_round
            case rel => exact ⟨k + 1, by omega, by omega, by go_num, HA2⟩
            case measure => simp [intOf]; omega
          | false =>
            have HX := Lib.hid (hno.out HLf.out rfl)
            clear hpk hlast
            go_wp2
            go_ret
            exact ⟨ret_bool HX.out.symm, rfl⟩
    · have HX : Hid (r = true) := Lib.hid (HR.out.2 (fun i d h1 h2 h3 => HA.out i d h1 (by have := (List.getElem?_eq_some_iff.1 h2).1; have := L.out; omega) h2 h3))
      go_wp2
      go_ret
      exact ⟨ret_bool HX.out.symm, rfl⟩

end Go.Proofs.Ytfehfjnmkaifbab
