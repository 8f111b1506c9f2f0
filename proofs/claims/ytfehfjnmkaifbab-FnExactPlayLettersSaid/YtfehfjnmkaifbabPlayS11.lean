/-
  Letters played in turns: the reference's walk.
-/
import Derived.Test.YtfehfjnmkaifbabPlayM11
import Derived.Test.YtfehfjnmkaifbabGood11
import Derived.Test.YtfehfjnmkaifbabL2Kids
import Derived.Test.YtfehfjnmkaifbabClsQ
import Derived.Test.YtfehfjnmkaifbabWordS
namespace Go.Proofs.Ytfehfjnmkaifbab
open Go.RowKit
set_option linter.unusedVariables false

/-- the arguments are those of a play -/
noncomputable def plB (t : List Nd) (n : Nat) (m : Int) (s : ByteArray) : Bool := gamB t n 0 m && okW s
noncomputable def plE (t : List Nd) (n : Nat) (m : Int) (s : ByteArray) : Nat × Nat := if plB t n m s = true then plyF t (psOf t) m.toNat 0 0 (tx s) else (0, 0)
noncomputable def plZ (t : List Nd) (n : Nat) (m : Int) (s : ByteArray) : Int := if plB t n m s = true then lsrZ t (psOf t) m.toNat (plE t n m s).1 (plE t n m s).2 else 0

/-- what a play's call answers -/
def PlayIs (t : List Nd) (n : Nat) (m : Int) (s : ByteArray) (W : World) (e : Ending) (w' : World) : Prop :=
  e = .returned (.tuple #[.int .i64 ((plE t n m s).1 : Int), .int .i64 ((plE t n m s).2 : Int), .int .i64 (plZ t n m s), .bool (plB t n m s)]) ∧ Below W.heap.size W w'

theorem ret_play {a b c : Int} {a' b' c' : Int} {p q : Bool} (h1 : a = a') (h2 : b = b') (h3 : c = c') (h4 : p = q) : Ending.returned (.tuple #[.int .i64 a, .int .i64 b, .int .i64 c, .bool p]) = .returned (.tuple #[.int .i64 a', .int .i64 b', .int .i64 c', .bool q]) := by rw [h1, h2, h3, h4]

set_option maxRecDepth 1000000 in
set_option maxHeartbeats 4000000 in
theorem specPlayLetters_any (t : List Nd) (n c : Nat) (m : Int) (s : ByteArray) (hn : n ≤ 1048576) (hs : s.size ≤ 1048576) (W : World) (a : Option Addr) (hN : Nds W.heap.size W a n c t) :
    Calls Try.prog 22 #[.agg #[.slice a n c], .int .i64 m, .string s] W (PlayIs t n m s W) := by
  have G1 := Lib.hid (Gv.start hN)
  have hbx := G1.out.box
  have L := Lib.hid hN.len
  have cX := Lib.hid (l11Good_any t n c 0 m hn _ a (G1.out.nds.mono G1.out.bel.size))
  have cW := Lib.hid (fun V => l2Word_any s V (by omega))
  have HPB : Hid (plB t n m s = (gamB t n 0 m && okW s)) := Lib.hid rfl
  have HPE : Hid (plE t n m s = if plB t n m s = true then plyF t (psOf t) m.toNat 0 0 (tx s) else (0, 0)) := Lib.hid rfl
  have HPZ : Hid (plZ t n m s = if plB t n m s = true then lsrZ t (psOf t) m.toNat (plE t n m s).1 (plE t n m s).2 else 0) := Lib.hid rfl
  unfold PlayIs
  obtain ⟨q, hq⟩ : ∃ q, gamB t n 0 m = q := ⟨_, rfl⟩
  obtain ⟨r, hr⟩ : ∃ r, okW s = r := ⟨_, rfl⟩
  rw [hq] at cX HPB
  rw [hr] at cW HPB
  clear hN
  cases q with
  | false =>
    have e1 : plB t n m s = false := by rw [HPB.out]; rfl
    rw [HPZ.out, HPE.out, e1, if_neg (by simp), if_neg (by simp)]
    clear hq hr e1 HPB HPE HPZ
    go_enter Try.func22, Try.ntmps22
    go_wp2_with fail
    refine cX.out.mono ?_
    rintro e w2 ⟨rfl, hb2⟩
    go_wp2_with fail
    ((try simp only [Exit.inBlock, Exit.then]); refine bodyPost_ret (results_tmp4 rfl _ _ _) rfl ?_)
    exact ⟨rfl, G1.out.bel.trans (hb2.mono G1.out.bel.size)⟩
  | true =>
    cases r with
    | false =>
      have e1 : plB t n m s = false := by rw [HPB.out]; rfl
      rw [HPZ.out, HPE.out, e1, if_neg (by simp), if_neg (by simp)]
      clear hq hr e1 HPB HPE HPZ
      go_enter Try.func22, Try.ntmps22
      go_wp2_with fail
      refine cX.out.mono ?_
      rintro e w2 ⟨rfl, hb2⟩
      have G2 := Lib.hid (G1.out.on hb2)
      go_wp2_with fail
      refine (cW.out _).mono ?_
      rintro e w3 ⟨rfl, rfl⟩
      go_wp2_with fail
      ((try simp only [Exit.inBlock, Exit.then]); refine bodyPost_ret (results_tmp4 rfl _ _ _) rfl ?_)
      exact ⟨rfl, G2.out.bel⟩
    | true =>
      have e1 : plB t n m s = true := by rw [HPB.out]; rfl
      have hpe := HPE.out
      have hpz := HPZ.out
      rw [e1, if_pos rfl] at hpe hpz
      rw [e1]
      obtain ⟨EM, hEM⟩ : ∃ EM, plE t n m s = EM := ⟨_, rfl⟩
      rw [hEM] at hpe hpz ⊢
      obtain ⟨E, M⟩ := EM
      rw [hpz]
      obtain ⟨ps, i9, k0, hv, hps, hi0, hi, rfl, h1, h6⟩ := gam_yes hq
      have hpos : 0 < n := by omega
      have ek : ((k0 : Nat) : Int).toNat = k0 := by omega
      rw [hps, ek] at hpe ⊢
      have hW := okW_iff.1 hr
      have h12 : s.size ≤ 12 := by have := hW.1; rwa [tx_len] at this
      have HLow : Hid (∀ (k : Nat) (h : k < s.size), 97 ≤ (s[k]'h).toNat ∧ (s[k]'h).toNat ≤ 122) := Lib.hid (fun k h => hW.2 _ (by
        have : s[k]'h = (tx s)[k]'(by rw [tx_len]; exact h) := rfl
        rw [this]; exact List.getElem_mem _))
      have h481 := hv.size
      have cF0 : Hid (∀ k, k < n → ∀ V : World, Gv W V a n c t → Calls Try.prog 38 #[.agg #[.slice a n c], .int .i64 (k : Int), .int .i64 (k0 : Int)] V fun e w' => e = .returned (.bool (fatB t ps k0 k)) ∧ Below V.heap.size V w') := Lib.hid (fun k h2 V hG => l11Fatal_any W.heap.size a n c k k0 t ps V (Nat.le_of_lt hG.lt) hG.nds hv h2 h6)
      have cK0 : Hid (∀ k, k < n → ∀ V : World, Gv W V a n c t → Calls Try.prog 46 #[.agg #[.slice a n c], .int .i64 (k : Int)] V fun e w' => ∃ v, e = .returned v ∧ w'.ownsRow V.heap.size 3 1 v (kidsTo t k n).length (nums (kidsTo t k n)) ∧ Below V.heap.size V w') := Lib.hid (fun k h2 V hG => l2Kids_any W.heap.size a n c k t V (Nat.le_of_lt hG.lt) hG.nds (by have := L.out; omega) h2)
      have cN0 : Hid (∀ (k : Nat) (l : Int), k < n → ∀ V : World, Gv W V a n c t → Calls Try.prog 50 #[.agg #[.slice a n c], .int .i64 (k : Int), .int .i64 l] V (KidNum t k l V)) := Lib.hid (fun k l h2 V hG => l2Kid_any W.heap.size a n c k t l V (Nat.le_of_lt hG.lt) hG.nds (by have := L.out; omega) h2)
      have HKL : Hid (∀ (i : Nat) (cc : UInt8), i < n → (kidL ps i cc = none ∧ (∀ j, ¬ IsKid t i ((cc.toNat : Int) - 97) j)) ∨ ∃ j, kidL ps i cc = some j ∧ j < n ∧ ∀ j', IsKid t i ((cc.toNat : Int) - 97) j' → j' = j) := Lib.hid (fun i cc hi => by
        cases hk : kidL ps i cc with
        | none => exact .inl ⟨rfl, fun j hj => by rw [(kidL_iff hv.tells (by have := L.out; omega) cc j).2 hj] at hk; cases hk⟩
        | some j =>
          refine .inr ⟨j, rfl, ?_, fun j' hj' => ?_⟩
          · have := kids_gt (isKid_mem ((kidL_iff hv.tells (by have := L.out; omega) cc j).1 hk))
            have := L.out
            omega
          · rw [(kidL_iff hv.tells (by have := L.out; omega) cc j').2 hj'] at hk
            exact Option.some.inj hk)
      have HKX : Hid (∀ (i : Nat) (cc : UInt8) (j : Nat), i < n → kidL ps i cc = some j → IsKid t i ((cc.toNat : Int) - 97) j) := Lib.hid (fun i cc j hi hk => (kidL_iff hv.tells (by have := L.out; omega) cc j).1 hk)
      have HKN : Hid (∀ (i : Nat) (cc : UInt8), i < n → kidsTo t i n = [] → kidL ps i cc = none) := Lib.hid (fun i cc hi hnil => by
        cases hk : kidL ps i cc with
        | none => rfl
        | some j =>
          have := isKid_mem ((kidL_iff hv.tells (by have := L.out; omega) cc j).1 hk)
          rw [L.out, hnil] at this
          cases this)
      have HLs : Hid (∀ (E M : Nat), (fatB t ps k0 E = true → lsrZ t ps k0 E M = (((M - 1) % 2 : Nat) : Int)) ∧ (fatB t ps k0 E = false → kidsTo t E n = [] → lsrZ t ps k0 E M = ((M % 2 : Nat) : Int)) ∧ (fatB t ps k0 E = false → kidsTo t E n ≠ [] → lsrZ t ps k0 E M = -1)) := Lib.hid (fun E M => by
        rw [← L.out]
        exact ⟨lsr_fat, lsr_end, lsr_none⟩)
      have HF0 : Hid (fatB t ps k0 0 = false) := Lib.hid (fatB_root hv.tells h1)
      have HR0 : Hid (plyF t ps k0 0 0 ((tx s).drop 0) = (E, M)) := Lib.hid (by rw [List.drop_zero]; exact hpe.symm)
      obtain ⟨Z, hZ⟩ : ∃ Z, lsrZ t ps k0 E M = Z := ⟨_, rfl⟩
      simp only
      rw [hZ]
      have HZ := Lib.hid hZ
      clear hZ hq hr hv hps hi0 hi ek hpe hpz hEM e1 HPB HPE HPZ hW
      go_enter Try.func22, Try.ntmps22
      go_wp2_with fail
      refine cX.out.mono ?_
      rintro e w2 ⟨rfl, hb2⟩
      have G2 := Lib.hid (G1.out.on hb2)
      clear hb2 hbx
      go_wp2_with fail
      refine (cW.out _).mono ?_
      rintro e w3 ⟨rfl, rfl⟩
      go_wp2_with fail
      go_loopw [10, 11] (fun p q wr => ∃ (i k : Nat), p = .int .i64 (i : Int) ∧ q = .int .i64 (k : Int) ∧ i < n ∧ k ≤ s.size ∧ Hid (fatB t ps k0 i = false) ∧ Hid (plyF t ps k0 i k ((tx s).drop k) = (E, M)) ∧ Hid (Gv W wr a n c t)) (fun _ q _ => s.size - (intOf q).toNat)
      case atStart => exact ⟨0, 0, rfl, rfl, hpos, Nat.zero_le _, HF0, HR0, G2⟩
      case round =>
        obtain ⟨i, k, rfl, rfl, hin, hks, HFi, HR, GW⟩ := hrel
        have hbx := GW.out.box
        have cK := Lib.hid (cK0.out i hin _ GW.out)
        by_cases hlt : k < s.size
        · have HTd := Lib.hid (tx_drop hlt)
          have hlow := HLow.out k hlt
          have hkl := HKL.out i s[k] hin
          have hkn := HKN.out i s[k] hin
          have hls := HLs.out i k
          obtain ⟨KL, hKL⟩ : ∃ KL, kidsTo t i n = KL := ⟨_, rfl⟩
          rw [hKL] at cK hkn hls
          clear hKL
          cases KL with
          | nil =>
            have HE9 : Hid ((i, k) = (E, M)) := Lib.hid (by rw [← HR.out, HTd.out, plyF_stop HFi.out (hkn rfl)])
            have HZ9 : Hid (((k % 2 : Nat) : Int) = Z) := Lib.hid (by
              have h := HE9.out
              injection h with h3 h4
              rw [← HZ.out, ← h3, ← h4, hls.2.1 HFi.out rfl])
            clear hkl hkn hls hlow
            go_wp2_with fail
            refine cK.out.mono ?_
            rintro e w4 ⟨v, rfl, hO, hb4⟩
            obtain ⟨a9, c9, rfl, hS⟩ := own_nums hO
            have G4 := Lib.hid (GW.out.on hb4)
            have z : ((([] : List Nat).length : Int) == 0) = true := rfl
            clear hO hb4 hS hbx
            go_wp2_with fail
            ((try simp only [Exit.inBlock, Exit.then]); refine bodyPost_ret (results_tmp4 rfl _ _ _) rfl ?_)
            have h := HE9.out
            injection h with h3 h4
            exact ⟨ret_play (by rw [h3]) (by rw [h4]) (by rw [← HZ9.out]; exact tmod_two k) rfl, G4.out.bel⟩
          | cons k1 kr =>
            have hls3 := hls.2.2 HFi.out (by simp)
            obtain ⟨len, hle⟩ : ∃ len, (k1 :: kr).length = len := ⟨_, rfl⟩
            have hl0 : 0 < len := by rw [← hle]; simp
            rw [hle] at cK
            clear hle hkn hls
            have z : (((len : Nat) : Int) == 0) = false := by simp; omega
            go_wp2_with fail
            refine cK.out.mono ?_
            rintro e w4 ⟨v, rfl, hO, hb4⟩
            obtain ⟨a9, c9, rfl⟩ := own_slice hO
            have G4 := Lib.hid (GW.out.on hb4)
            clear hO hb4 hbx
            have hS0 : Below w4.heap.size w4 w4.drew := (Below.refl _ _).drew
            have hnc : Nonempty (Cls (Below w4.heap.size w4)) := ⟨⟨_, hS0⟩⟩
            have hm1 : ∀ q : Cls (Below w4.heap.size w4), q.w.cell? ⟨W.heap.size, 0, none⟩ = some (.slice a n c) := fun q => (G4.out.on q.h).box
            have hi0 : (0 : Int) ≤ (k : Int) := by omega
            have hi1 : (k : Int) < (s.size : Int) := by omega
            rcases hkl with ⟨hk9, hno⟩ | ⟨j, hk9, hjn, huni⟩
            · have HE9 : Hid ((i, k) = (E, M)) := Lib.hid (by rw [← HR.out, HTd.out, plyF_stop HFi.out hk9])
              have HZ9 : Hid ((-1 : Int) = Z) := Lib.hid (by
                have h := HE9.out
                injection h with h3 h4
                rw [← HZ.out, ← h3, ← h4, hls3])
              have cN : Hid (∀ q : Cls (Below w4.heap.size w4), Calls Try.prog 50 #[.agg #[.slice a n c], .int .i64 (i : Int), .int .i64 ((s[k].toNat : Int) - 97)] q.w fun e w' => e = .returned (.int .i64 (-1)) ∧ Below w4.heap.size w4 w') := Lib.hid (fun q => (cN0.out i _ hin q.w (G4.out.on q.h)).mono fun e w' h => by
                obtain ⟨r, h1, h2, h3⟩ := h
                rcases h2 with ⟨rfl, _⟩ | ⟨j, _, hj⟩
                · exact ⟨h1, q.h.trans (h3.mono q.h.size)⟩
                · exact absurd hj (hno j))
              clear hk9 hno hls3
              go_wp2_with fail
              refine wp_region_cls (Below w4.heap.size w4) (by kernel_rfl) (by kernel_rfl) hS0 ?_
              repeat (go_big_quiet_step ((first
                | (go_at_call 50; exact cls_of (cN.out _)))))
              refine wpQuiet_nil ?_
              intro _ hw'
              obtain ⟨wq, rfl⟩ := hw'
              have hq := wq.h
              have G5 := Lib.hid (G4.out.on hq)
              clear hm1
              go_wp2_with fail
              ((try simp only [Exit.inBlock, Exit.then]); refine bodyPost_ret (results_tmp4 rfl _ _ _) rfl ?_)
              have h := HE9.out
              injection h with h3 h4
              exact ⟨ret_play (by rw [h3]) (by rw [h4]) (by rw [← HZ9.out]) rfl, G5.out.bel⟩
            · have HRn : Hid (plyF t ps k0 j (k + 1) ((tx s).drop (k + 1)) = (E, M)) := Lib.hid (by rw [← HR.out, HTd.out, plyF_on HFi.out hk9])
              have cN : Hid (∀ q : Cls (Below w4.heap.size w4), Calls Try.prog 50 #[.agg #[.slice a n c], .int .i64 (i : Int), .int .i64 ((s[k].toNat : Int) - 97)] q.w fun e w' => e = .returned (.int .i64 (j : Int)) ∧ Below w4.heap.size w4 w') := Lib.hid (fun q => (cN0.out i _ hin q.w (G4.out.on q.h)).mono fun e w' h => by
                obtain ⟨r, h1, h2, h3⟩ := h
                rcases h2 with ⟨rfl, hno⟩ | ⟨j', rfl, hj⟩
                · have := huni
                  exfalso
                  have hx := HKX.out i s[k] j hin hk9
                  exact hno j hx
                · rw [huni j' hj] at h1
                  exact ⟨h1, q.h.trans (h3.mono q.h.size)⟩)
              have cF := Lib.hid (cF0.out j hjn)
              have hlsj := HLs.out j (k + 1)
              obtain ⟨f1, hf1⟩ : ∃ f1, fatB t ps k0 j = f1 := ⟨_, rfl⟩
              rw [hf1] at cF hlsj
              have HF1 := Lib.hid hf1
              clear hk9 huni hls3 hf1
              go_wp2_with fail
              refine wp_region_cls (Below w4.heap.size w4) (by kernel_rfl) (by kernel_rfl) hS0 ?_
              repeat (go_big_quiet_step ((first
                | (go_at_call 50; exact cls_of (cN.out _)))))
              refine wpQuiet_nil ?_
              intro _ hw'
              obtain ⟨wq, rfl⟩ := hw'
              have hq := wq.h
              have G5 := Lib.hid (G4.out.on hq)
              have hx5 := hm1 wq
              clear hm1
              cases f1 with
              | true =>
                have HE9 : Hid ((j, k + 1) = (E, M)) := Lib.hid (by rw [← HRn.out, plyF_fat HF1.out])
                have HZ9 : Hid (((k % 2 : Nat) : Int) = Z) := Lib.hid (by
                  have h := HE9.out
                  injection h with h3 h4
                  rw [← HZ.out, ← h3, ← h4, hlsj.1 rfl]
                  simp)
                clear hlsj
                go_wp2_with fail
                refine (cF.out _ G5.out).mono ?_
                rintro e w6 ⟨rfl, hb6⟩
                have G6 := Lib.hid (G5.out.on hb6)
                go_wp2_with fail
                ((try simp only [Exit.inBlock, Exit.then]); refine bodyPost_ret (results_tmp4 rfl _ _ _) rfl ?_)
                have h := HE9.out
                injection h with h3 h4
                exact ⟨ret_play (by rw [h3]) (by rw [← h4]; simp) (by rw [← HZ9.out]; exact tmod_two k) rfl, G6.out.bel⟩
              | false =>
                clear hlsj
                go_wp2_with fail
                refine (cF.out _ G5.out).mono ?_
                rintro e w6 ⟨rfl, hb6⟩
                have G6 := Lib.hid (G5.out.on hb6)
                clear hb6 hx5
                go_wp2_with fail
                go_roundw
                case rel => exact ⟨j, k + 1, rfl, by go_num, hjn, by omega, HF1, HRn, G6⟩
                case measure => simp [intOf]; omega
        · have e : k = s.size := by omega
          have HE9 : Hid ((i, k) = (E, M)) := Lib.hid (by
            rw [← HR.out, tx_end (by omega)]
            rfl)
          have hls := HLs.out i k
          obtain ⟨KL, hKL⟩ : ∃ KL, kidsTo t i n = KL := ⟨_, rfl⟩
          rw [hKL] at cK hls
          clear hKL
          subst e
          cases KL with
          | nil =>
            have HZ9 : Hid (((s.size % 2 : Nat) : Int) = Z) := Lib.hid (by
              have h := HE9.out
              injection h with h3 h4
              rw [← HZ.out, ← h3, ← h4, hls.2.1 HFi.out rfl])
            clear hls
            go_wp2_with fail
            refine cK.out.mono ?_
            rintro e w4 ⟨v, rfl, hO, hb4⟩
            obtain ⟨a9, c9, rfl, hS⟩ := own_nums hO
            have G4 := Lib.hid (GW.out.on hb4)
            have z : ((([] : List Nat).length : Int) == 0) = true := rfl
            clear hO hb4 hS hbx
            go_wp2_with fail
            ((try simp only [Exit.inBlock, Exit.then]); refine bodyPost_ret (results_tmp4 rfl _ _ _) rfl ?_)
            have h := HE9.out
            injection h with h3 h4
            exact ⟨ret_play (by rw [h3]) (by rw [h4]) (by rw [← HZ9.out]; exact tmod_two _) rfl, G4.out.bel⟩
          | cons k1 kr =>
            have HZ9 : Hid ((-1 : Int) = Z) := Lib.hid (by
              have h := HE9.out
              injection h with h3 h4
              rw [← HZ.out, ← h3, ← h4, hls.2.2 HFi.out (by simp)])
            obtain ⟨len, hle⟩ : ∃ len, (k1 :: kr).length = len := ⟨_, rfl⟩
            have hl0 : 0 < len := by rw [← hle]; simp
            rw [hle] at cK
            clear hle hls
            have z : (((len : Nat) : Int) == 0) = false := by simp; omega
            go_wp2_with fail
            refine cK.out.mono ?_
            rintro e w4 ⟨v, rfl, hO, hb4⟩
            obtain ⟨a9, c9, rfl⟩ := own_slice hO
            have G4 := Lib.hid (GW.out.on hb4)
            clear hO hb4 hbx
            go_wp2_with fail
            ((try simp only [Exit.inBlock, Exit.then]); refine bodyPost_ret (results_tmp4 rfl _ _ _) rfl ?_)
            have h := HE9.out
            injection h with h3 h4
            exact ⟨ret_play (by rw [h3]) (by rw [h4]) (by rw [← HZ9.out]) rfl, G4.out.bel⟩

end Go.Proofs.Ytfehfjnmkaifbab
