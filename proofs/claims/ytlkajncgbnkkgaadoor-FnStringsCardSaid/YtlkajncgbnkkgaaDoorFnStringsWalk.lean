/-
  The walk of the law FnStrings: writing and reading a number, sealing and opening a text agree with the model; one changed byte is noticed.
-/
import Derived.Test.YtlkajncgbnkkgaaDoorFmt
import Derived.Test.YtlkajncgbnkkgaaDoorReadWalk
import Derived.Test.YtlkajncgbnkkgaaDoorParImpl
import Derived.Test.YtlkajncgbnkkgaaDoorVer
import Derived.Test.YtlkajncgbnkkgaaDoorDetect
import Derived.Test.YtlkajncgbnkkgaaDoorDrawNums
import Derived.Test.YtlkajncgbnkkgaaDoorVAt
import Derived.Test.YtlkajncgbnkkgaaDoorFlip
import Derived.Laws.IdiomStrings
import Derived.Deep.RegionWith
namespace Go.Proofs.YtlkajncgbnkkgaaDoor.fnStrings
open Go.RowKit
set_option linter.unusedVariables false

/-- What stays while the law runs. -/
structure Gv (m : Int) (a : Option Addr) (n c : Nat) (l : List UInt8) (W : World) : Prop where
  tab : Lib.TabIs Tryd.prog W "internal/strconv.uint64pow10" .u64 Lib.pow10Tab
  err : Errs W
  len : W.cell? ⟨2, 0, none⟩ = some (.int .i64 m)
  code : Bytes W.heap.size W a n c l

theorem Gv.keep {m : Int} {a : Option Addr} {n c : Nat} {l : List UInt8} {W W' : World} (h : Gv m a n c l W) (hb : Below W.heap.size W W') : Gv m a n c l W' :=
  ⟨pow10_stays h.tab hb, h.err.keep hb, (hb.cell (p := ⟨2, 0, none⟩) (World.block_lt_of_cell? W _ h.len)).trans h.len, (h.code.keep hb).mono hb.size⟩

theorem sFmt (n : Int) (w : World) : Calls Tryd.prog 9 #[.int .i64 n] w fun e w' => e = .returned (.tuple #[.string (fmtS n), .bool (fmtB n)]) ∧ Below w.heap.size w w' :=
  (specFmt_any n w).mono fun e w' ⟨he, q, hq⟩ => ⟨he, hq ▸ below_drewN (Below.refl _ _) q⟩
theorem sPar (s : ByteArray) (w : World) (hs : s.size ≤ 1048576) : Calls Tryd.prog 12 #[.string s] w fun e w' => e = .returned (.tuple #[.int .i64 (parN s), .bool (parB s)]) ∧ Below w.heap.size w w' :=
  (specPar_any s w hs).mono fun e w' ⟨he, q, hq⟩ => ⟨he, hq ▸ below_drewN (Below.refl _ _) q⟩
theorem sApp (s : ByteArray) (w : World) (hs : s.size ≤ 1048576) : Calls Tryd.prog 15 #[.string s] w fun e w' => e = .returned (.tuple #[.string (appS s), .bool (appB s)]) ∧ Below w.heap.size w w' :=
  (specApp_any s w hs).mono fun e w' ⟨he, q, hq⟩ => ⟨he, hq ▸ below_drewN (Below.refl _ _) q⟩

/-- what is written is read again -/
theorem back (x : Int) : (fmtS x).size ≤ 1048576 ∧ (fmtB x = false ∨ (fmtB x = true ∧ parB (fmtS x) = true ∧ parN (fmtS x) = x)) := by
  by_cases h : -999999 ≤ x ∧ x ≤ 999999
  · have e1 : fmtS x = numI x := if_pos h
    have e2 : fmtB x = true := decide_eq_true h
    have h3 : IsNum (numI x) x := ⟨h.1, h.2, rfl⟩
    have h4 := numI_le x
    rw [e1, e2]
    exact ⟨by omega, .inr ⟨rfl, parB_yes h3, parN_yes h3⟩⟩
  · have e1 : fmtS x = ⟨#[]⟩ := if_neg h
    have e2 : fmtB x = false := decide_eq_false h
    rw [e1, e2]
    exact ⟨by decide, .inl rfl⟩

/-- a sealed text is opened again, and is none with one byte changed -/
theorem shut (x : ByteArray) : (appB x = false ∧ appS x = ⟨#[]⟩) ∨ (appB x = true ∧ 1 ≤ (appS x).size ∧ (appS x).size ≤ 4000 ∧ verS (appS x) = x ∧ verB (appS x) = true ∧
    ∀ (y : ByteArray) (k : Nat), (∀ j, j ≠ k → y.data.toList[j]? = (appS x).data.toList[j]?) → y.data.toList[k]? ≠ (appS x).data.toList[k]? → verB y = false) := by
  by_cases h : x.size ≤ 4000 ∧ (35 : UInt8) ∉ x.data.toList ∧ (sealS x).size ≤ 4000
  · refine .inr ?_
    rw [appS_yes h, appB_yes h]
    have h2 := sealS_size x
    have h3 := ver_seal h.2.1 h.2.2
    exact ⟨rfl, by omega, h.2.2, h3.1, h3.2, fun y k h4 h5 => detect x y k h.2.1 h4 h5⟩
  · exact .inl ⟨appB_no h, appS_no h⟩

set_option maxHeartbeats 2000000 in
set_option maxRecDepth 1000000 in
theorem walk (a0 : Option Addr) (n c : Nat) (z0 : List Int) (w : World) (w0 : IsBytes w a0 n c z0) (hL : laidMetH Tryd.prog Rows.fnStringsRow.laid w) (hsh : w.ShapedOpen Tryd.prog) :
    Calls Tryd.prog 3 #[.slice a0 n c] w fun e w' => e = .returned (.bool true) ∧ Below w.heap.size w w' := by
  obtain ⟨l, hl⟩ : ∃ l, l = (z0.take n).map fun z => UInt8.ofNat z.toNat := ⟨_, rfl⟩
  obtain ⟨m, hm⟩ : ∃ m, w.cell? ⟨2, 0, none⟩ = some (.int .i64 m) := Tryd.laysM145.s1_3 w hsh
  have hE := errs_of (laidMet_tail (laidMet_tail (laidMet_tail (show laidMet Tryd.prog Rows.fnStringsRow.laid w from hL))))
  have G0 := Lib.hid (show Gv m a0 n c l w from ⟨pow10_of (laidMet_tail (laidMet_tail (show laidMet Tryd.prog Rows.fnStringsRow.laid w from hL))), ⟨hE.1, hE.2⟩, hm, hl ▸ w0.bytes⟩)
  clear hl w0 hm hE hL hsh
  by_cases hb : 65536 < n
  · have cV := Lib.hid (vBig_any a0 n c true (by simp; omega) w)
    go_enter Tryd.func3, Tryd.ntmps3
    go_wp2_with (go_at_call 6; refine cV.out.mono ?_; rintro e w' ⟨rfl, rfl⟩)
    go_ret
    exact ⟨rfl, Below.refl _ _⟩
  · have cV := Lib.hid (vBig_any a0 n c false (by simp; omega) w)
    have hn : n ≤ 1000000 := by omega
    go_enter Tryd.func3, Tryd.ntmps3
    go_wp2_with (go_at_call 6; refine cV.out.mono ?_; rintro e w' ⟨rfl, rfl⟩)
    refine (drawFmt_any a0 n c l w G0.out.code hn).mono ?_
    rintro e w1 ⟨⟨x, rfl⟩, hb1⟩
    have G1 := Lib.hid (G0.out.keep hb1)
    obtain ⟨J, hJ⟩ : ∃ J, fmtS x = J := ⟨_, rfl⟩
    obtain ⟨F, hF⟩ : ∃ F, fmtB x = F := ⟨_, rfl⟩
    have c1 := Lib.hid (implFmt_any x w1 G1.out.tab)
    have c2 := Lib.hid (fun w => sFmt x w)
    have HR0 := back x
    rw [hJ, hF] at c1 c2 HR0
    clear hJ hF
    obtain ⟨hJs, HR1⟩ := HR0
    obtain ⟨PN, hPN⟩ : ∃ PN, parN J = PN := ⟨_, rfl⟩
    obtain ⟨PB, hPB⟩ : ∃ PB, parB J = PB := ⟨_, rfl⟩
    have c8 := Lib.hid (fun w h h' => implPar_any J w hJs h h')
    rw [hPN, hPB] at c8 HR1
    clear hPN hPB
    have HR := Lib.hid HR1
    clear HR1
    have q1 : (J.toList != J.toList) = false := by simp
    have q2 : (F != F) = false := by cases F <;> rfl
    go_wp2_with fail
    refine c1.out.mono ?_
    rintro e w2 ⟨rfl, hb2⟩
    have G2 := Lib.hid (G1.out.keep hb2)
    have hbw2 := hb1.trans (hb2.mono hb1.size)
    go_wp2_with fail
    refine (c2.out w2).mono ?_
    rintro e w3 ⟨rfl, hb3⟩
    have G3 := Lib.hid (G2.out.keep hb3)
    have hbw3 := hbw2.trans (hb3.mono hbw2.size)
    clear c1 c2 hb1 hb2 hb3
    go_wp2_with fail
    refine (drawPar_any a0 n c l w3 G3.out.code hn).mono ?_
    rintro e w4 ⟨⟨t, rfl, ht⟩, hb4⟩
    have G4 := Lib.hid (G3.out.keep hb4)
    have hbw4 := hbw3.trans (hb4.mono hbw3.size)
    obtain ⟨TN, hTN⟩ : ∃ TN, parN t = TN := ⟨_, rfl⟩
    obtain ⟨TB, hTB⟩ : ∃ TB, parB t = TB := ⟨_, rfl⟩
    have c1 := Lib.hid (implPar_any t w4 (by omega) G4.out.tab G4.out.err)
    have c2 := Lib.hid (fun w => sPar t w (by omega))
    rw [hTN, hTB] at c1 c2
    clear hTN hTB
    have q3 : ((TN : Int) != TN) = false := by simp
    have q4 : (TB != TB) = false := by cases TB <;> rfl
    go_wp2_with fail
    refine c1.out.mono ?_
    rintro e w5 ⟨rfl, hb5⟩
    have G5 := Lib.hid (G4.out.keep hb5)
    have hbw5 := hbw4.trans (hb5.mono hbw4.size)
    go_wp2_with fail
    refine (c2.out w5).mono ?_
    rintro e w6 ⟨rfl, hb6⟩
    have G6 := Lib.hid (G5.out.keep hb6)
    have hbw6 := hbw5.trans (hb6.mono hbw5.size)
    clear c1 c2 hb4 hb5 hb6
    go_wp2_with fail
    refine (drawApp_any a0 n c l w6 G6.out.code hn).mono ?_
    rintro e w7 ⟨⟨X, rfl, hX⟩, hb7⟩
    have G7 := Lib.hid (G6.out.keep hb7)
    have hbw7 := hbw6.trans (hb7.mono hbw6.size)
    obtain ⟨Y, hY⟩ : ∃ Y, appS X = Y := ⟨_, rfl⟩
    obtain ⟨S, hS⟩ : ∃ S, appB X = S := ⟨_, rfl⟩
    have c1 := Lib.hid (implApp_any X w7 (by omega) G7.out.tab)
    have c2 := Lib.hid (fun w => sApp X w (by omega))
    have HS0 := shut X
    rw [hY, hS] at c1 c2 HS0
    clear hY hS
    have HS := Lib.hid HS0
    clear HS0
    have q5 : (Y.toList != Y.toList) = false := by simp
    have q6 : (S != S) = false := by cases S <;> rfl
    go_wp2_with fail
    refine c1.out.mono ?_
    rintro e w8 ⟨rfl, hb8⟩
    have G8 := Lib.hid (G7.out.keep hb8)
    have hbw8 := hbw7.trans (hb8.mono hbw7.size)
    go_wp2_with fail
    refine (c2.out w8).mono ?_
    rintro e w9 ⟨rfl, hb9⟩
    have G9 := Lib.hid (G8.out.keep hb9)
    have hbw9 := hbw8.trans (hb9.mono hbw8.size)
    clear c1 c2 hb7 hb8 hb9
    go_wp2_with fail
    refine (c8.out w9 G9.out.tab G9.out.err).mono ?_
    rintro e w10 ⟨rfl, hb10⟩
    have G10 := Lib.hid (G9.out.keep hb10)
    have hbw10 := hbw9.trans (hb10.mono hbw9.size)
    have hq7 : F = false ∨ (F = true ∧ PB = true ∧ (PN != x) = false) := by
      rcases HR.out with h | ⟨h1, h2, h3⟩
      · exact .inl h
      · exact .inr ⟨h1, h2, by subst h3; simp⟩
    clear HR hb10
    rcases HS.out with ⟨rfl, rfl⟩ | ⟨rfl, hY1, hY2, hvS, hvB, hdet⟩
    · rcases hq7 with rfl | ⟨rfl, rfl, q7⟩
      · go_wp2_with fail
        go_ret
        exact ⟨rfl, hbw10⟩
      · go_wp2_with fail
        go_ret
        exact ⟨rfl, hbw10⟩
    · have cv := fun (w : World) (h : Below w10.heap.size w10 w) => implVer_any Y m w (by omega) (G10.out.keep h).tab (G10.out.keep h).len
      rw [hvS, hvB] at cv
      have CV := Lib.hid cv
      have HD := Lib.hid hdet
      have q8 : (X.toList == X.toList) = true := by simp
      clear cv hvS hvB hdet HS
      rcases hq7 with rfl | ⟨rfl, rfl, q7⟩
      · go_wp2_with fail
        refine (CV.out w10 (Below.refl _ _)).mono ?_
        rintro e w11 ⟨rfl, hb11⟩
        have G11 := Lib.hid (G10.out.keep hb11)
        have hbw11 := hbw10.trans (hb11.mono hbw10.size)
        obtain ⟨cap, hcap⟩ : ∃ cap, grownCap w11 Y.size 0 5 = cap := ⟨_, rfl⟩
        have hconv := run_bytes_of_string (P := Tryd.prog) w11 9 22 5 Y Tryd.underlying9 Tryd.underlying22 Tryd.underlying5
        rw [hcap] at hconv
        obtain ⟨C, hC⟩ : ∃ C, bytesRow Y cap = C := ⟨_, rfl⟩
        rw [hC] at hconv
        have HC := Lib.hid hC
        clear hC hcap
        go_wp2_with fail
        obtain ⟨W0, hW0⟩ : ∃ W0, (w11.alloc (.cells C 5 (C.size, C.size + 1))).drew = W0 := ⟨_, rfl⟩
        have NB := new_bytes w11 W0 C Y cap HC.out hW0
        rw [hW0]
        clear hconv hW0
        obtain ⟨hB0, hcell, hfroz, hsz⟩ := NB
        have G12 := Lib.hid (G11.out.keep hB0)
        have hg : w11.heap.size < W0.heap.size := by omega
        have HB0 := Lib.hid hB0
        have HCL := Lib.hid hcell
        have HFZ := Lib.hid hfroz
        clear hcell hfroz hB0 hb11
        refine (vAt_any a0 n c l W0 G12.out.code hn 9 (by omega)).mono ?_
        rintro e w13 ⟨⟨r, rfl, hr⟩, hb13⟩
        have G13 := Lib.hid (G12.out.keep hb13)
        have HB13 := Lib.hid (HB0.out.trans (hb13.mono (show w11.heap.size ≤ W0.heap.size by omega)))
        have hg13 : w11.heap.size < w13.heap.size := by have := hb13.size; omega
        obtain ⟨k, hk⟩ : ∃ k, r % Y.size = k := ⟨_, rfl⟩
        have hkY : k < Y.size := by rw [← hk]; exact Nat.mod_lt _ (by omega)
        have hk2 : (r : Int) % (Y.size : Int) = (k : Int) := by omega
        have hk0 : (0 : Int) ≤ (k : Int) := by omega
        have hk1 : (k : Int) < (Y.size : Int) := by omega
        have hY0 : ¬ (Y.size : Int) = 0 := by omega
        have HC13 : Hid (∀ j (h : j < Y.size), w13.cell? ⟨w11.heap.size, j, none⟩ = some (.int .u8 (Y[j].toNat : Int))) := Lib.hid (fun j h => by
          rw [hb13.cell (p := ⟨w11.heap.size, j, none⟩) hg]; exact HCL.out j h)
        obtain ⟨v, hv⟩ : ∃ v, Y[k] = v := ⟨_, rfl⟩
        have hc13 : w13.cell? ⟨w11.heap.size, k, none⟩ = some (.int .u8 (v.toNat : Int)) := by
          rw [HC13.out k hkY, hv]
        have HV := Lib.hid hv
        clear hk hv
        obtain ⟨r2, hr2, hvat⟩ := vAt_fix a0 n c l w13 G13.out.code hn 10 (by omega)
        have CA := Lib.hid hvat
        obtain ⟨d, hd⟩ : ∃ d, r2 % 255 = d := ⟨_, rfl⟩
        have hd1 : d < 255 := by omega
        have hd2 : (r2 : Int) % 255 = (d : Int) := by omega
        obtain ⟨V, hV, hVne⟩ := other v r2 d hd1 hd2
        have HOT := Lib.hid hV
        have HTC := Lib.hid (turn_conv w13 w11.heap.size k cap Y V hg13 hkY HC13.out)
        have HTB := Lib.hid (HB13.out.trans (turn_below w11.heap.size w13 w11.heap.size k (.int .u8 (V.toNat : Int)) (Nat.le_refl _) hg13))
        obtain ⟨Z, hZ⟩ : ∃ Z, turn Y k V = Z := ⟨_, rfl⟩
        have hno : verB Z = false := by
          rw [← hZ]
          exact HD.out _ k (turn_other Y k V) (turn_there Y k V hkY (by rw [HV.out]; exact hVne))
        have hZs : Z.size ≤ 1048576 := by rw [← hZ, turn_size]; omega
        have cz := fun w h h' => implVer_any Z m w hZs h h'
        rw [hno] at cz
        have CZ := Lib.hid cz
        rw [hZ] at HTC
        have hfz13 : w13.frozen? ⟨w11.heap.size, k, none⟩ = false := (hb13.frozen (p := ⟨w11.heap.size, k, none⟩) hg).trans (HFZ.out k hkY)
        have hv255 : v.toNat ≤ 255 := by have := v.toNat_lt; omega
        clear hvat hd hd2 hV hVne hZ hno cz HD hb13
        go_wp2_with fail
        go_region_with (go_at_call 17; refine (CA.out _).mono ?_; rintro e w' ⟨rfl, rfl⟩)
        all_goals (
          rw [HOT.out]
          have hcv := HTC.out
          have hbl := HTB.out
          obtain ⟨W2, hW2⟩ : ∃ W2, (w13.drewN 1).setCell ⟨w11.heap.size, k, none⟩ (.int .u8 (V.toNat : Int)) = W2 := ⟨_, rfl⟩
          rw [hW2] at hcv hbl ⊢
          have G14 := Lib.hid (G11.out.keep hbl)
          have hbw14 := hbw11.trans (hbl.mono hbw11.size)
          clear hc13 hfz13 HTC HTB hW2 hbl
          go_wp2_with fail
          refine (CZ.out W2 G14.out.tab G14.out.len).mono ?_
          rintro e w15 ⟨rfl, hb15⟩
          have hbw15 := hbw14.trans (hb15.mono hbw14.size)
          go_wp2_with fail
          go_ret
          exact ⟨rfl, hbw15⟩)
      · go_wp2_with fail
        refine (CV.out w10 (Below.refl _ _)).mono ?_
        rintro e w11 ⟨rfl, hb11⟩
        have G11 := Lib.hid (G10.out.keep hb11)
        have hbw11 := hbw10.trans (hb11.mono hbw10.size)
        obtain ⟨cap, hcap⟩ : ∃ cap, grownCap w11 Y.size 0 5 = cap := ⟨_, rfl⟩
        have hconv := run_bytes_of_string (P := Tryd.prog) w11 9 22 5 Y Tryd.underlying9 Tryd.underlying22 Tryd.underlying5
        rw [hcap] at hconv
        obtain ⟨C, hC⟩ : ∃ C, bytesRow Y cap = C := ⟨_, rfl⟩
        rw [hC] at hconv
        have HC := Lib.hid hC
        clear hC hcap
        go_wp2_with fail
        obtain ⟨W0, hW0⟩ : ∃ W0, (w11.alloc (.cells C 5 (C.size, C.size + 1))).drew = W0 := ⟨_, rfl⟩
        have NB := new_bytes w11 W0 C Y cap HC.out hW0
        rw [hW0]
        clear hconv hW0
        obtain ⟨hB0, hcell, hfroz, hsz⟩ := NB
        have G12 := Lib.hid (G11.out.keep hB0)
        have hg : w11.heap.size < W0.heap.size := by omega
        have HB0 := Lib.hid hB0
        have HCL := Lib.hid hcell
        have HFZ := Lib.hid hfroz
        clear hcell hfroz hB0 hb11
        refine (vAt_any a0 n c l W0 G12.out.code hn 9 (by omega)).mono ?_
        rintro e w13 ⟨⟨r, rfl, hr⟩, hb13⟩
        have G13 := Lib.hid (G12.out.keep hb13)
        have HB13 := Lib.hid (HB0.out.trans (hb13.mono (show w11.heap.size ≤ W0.heap.size by omega)))
        have hg13 : w11.heap.size < w13.heap.size := by have := hb13.size; omega
        obtain ⟨k, hk⟩ : ∃ k, r % Y.size = k := ⟨_, rfl⟩
        have hkY : k < Y.size := by rw [← hk]; exact Nat.mod_lt _ (by omega)
        have hk2 : (r : Int) % (Y.size : Int) = (k : Int) := by omega
        have hk0 : (0 : Int) ≤ (k : Int) := by omega
        have hk1 : (k : Int) < (Y.size : Int) := by omega
        have hY0 : ¬ (Y.size : Int) = 0 := by omega
        have HC13 : Hid (∀ j (h : j < Y.size), w13.cell? ⟨w11.heap.size, j, none⟩ = some (.int .u8 (Y[j].toNat : Int))) := Lib.hid (fun j h => by
          rw [hb13.cell (p := ⟨w11.heap.size, j, none⟩) hg]; exact HCL.out j h)
        obtain ⟨v, hv⟩ : ∃ v, Y[k] = v := ⟨_, rfl⟩
        have hc13 : w13.cell? ⟨w11.heap.size, k, none⟩ = some (.int .u8 (v.toNat : Int)) := by
          rw [HC13.out k hkY, hv]
        have HV := Lib.hid hv
        clear hk hv
        obtain ⟨r2, hr2, hvat⟩ := vAt_fix a0 n c l w13 G13.out.code hn 10 (by omega)
        have CA := Lib.hid hvat
        obtain ⟨d, hd⟩ : ∃ d, r2 % 255 = d := ⟨_, rfl⟩
        have hd1 : d < 255 := by omega
        have hd2 : (r2 : Int) % 255 = (d : Int) := by omega
        obtain ⟨V, hV, hVne⟩ := other v r2 d hd1 hd2
        have HOT := Lib.hid hV
        have HTC := Lib.hid (turn_conv w13 w11.heap.size k cap Y V hg13 hkY HC13.out)
        have HTB := Lib.hid (HB13.out.trans (turn_below w11.heap.size w13 w11.heap.size k (.int .u8 (V.toNat : Int)) (Nat.le_refl _) hg13))
        obtain ⟨Z, hZ⟩ : ∃ Z, turn Y k V = Z := ⟨_, rfl⟩
        have hno : verB Z = false := by
          rw [← hZ]
          exact HD.out _ k (turn_other Y k V) (turn_there Y k V hkY (by rw [HV.out]; exact hVne))
        have hZs : Z.size ≤ 1048576 := by rw [← hZ, turn_size]; omega
        have cz := fun w h h' => implVer_any Z m w hZs h h'
        rw [hno] at cz
        have CZ := Lib.hid cz
        rw [hZ] at HTC
        have hfz13 : w13.frozen? ⟨w11.heap.size, k, none⟩ = false := (hb13.frozen (p := ⟨w11.heap.size, k, none⟩) hg).trans (HFZ.out k hkY)
        have hv255 : v.toNat ≤ 255 := by have := v.toNat_lt; omega
        clear hvat hd hd2 hV hVne hZ hno cz HD hb13
        go_wp2_with fail
        go_region_with (go_at_call 17; refine (CA.out _).mono ?_; rintro e w' ⟨rfl, rfl⟩)
        all_goals (
          rw [HOT.out]
          have hcv := HTC.out
          have hbl := HTB.out
          obtain ⟨W2, hW2⟩ : ∃ W2, (w13.drewN 1).setCell ⟨w11.heap.size, k, none⟩ (.int .u8 (V.toNat : Int)) = W2 := ⟨_, rfl⟩
          rw [hW2] at hcv hbl ⊢
          have G14 := Lib.hid (G11.out.keep hbl)
          have hbw14 := hbw11.trans (hbl.mono hbw11.size)
          clear hc13 hfz13 HTC HTB hW2 hbl
          go_wp2_with fail
          refine (CZ.out W2 G14.out.tab G14.out.len).mono ?_
          rintro e w15 ⟨rfl, hb15⟩
          have hbw15 := hbw14.trans (hb15.mono hbw14.size)
          go_wp2_with fail
          go_ret
          exact ⟨rfl, hbw15⟩)

end Go.Proofs.YtlkajncgbnkkgaaDoor.fnStrings
