/-
  FatalWords: the reference and the program answer the same.
-/
import Derived.Test.YtfehfjnmkaifbabGood11
import Derived.Test.YtfehfjnmkaifbabPrefixAt
import Derived.Test.YtfehfjnmkaifbabMarkOwnS
import Derived.Test.YtfehfjnmkaifbabGrew
import Derived.Test.YtfehfjnmkaifbabClsQ
import Derived.Maps.AppendAt
namespace Go.Proofs.Ytfehfjnmkaifbab
open Go.RowKit
set_option linter.unusedVariables false

/-- the node is fatal and comes up in games -/
def fwB (t : List Nd) (ps : List Txt) (m k : Nat) : Bool := fatB t ps m k && opn t ps m (parN t k)

/-- the fatal words among the first k nodes -/
def fwl (t : List Nd) (ps : List Txt) (m : Nat) : Nat → List Txt
  | 0 => []
  | k + 1 => fwl t ps m k ++ if fwB t ps m k = true then [ps.getD k []] else []

theorem fwl_len (t : List Nd) (ps : List Txt) (m : Nat) : ∀ k, (fwl t ps m k).length ≤ k
  | 0 => Nat.le_refl _
  | k + 1 => by
    have := fwl_len t ps m k
    unfold fwl
    rw [List.length_append]
    split <;> simp <;> omega

theorem getD_short {ps : List Txt} (h : ∀ x ∈ ps, x.length ≤ 12) (k : Nat) : (ps.getD k []).length ≤ 12 := by
  cases hx : ps[k]? with
  | none => simp [List.getD, hx]
  | some x => simp [List.getD, hx]; exact h x (List.mem_of_getElem? hx)

theorem fwl_short {t : List Nd} {ps : List Txt} {m : Nat} (h : ∀ x ∈ ps, x.length ≤ 12) : ∀ k, ∀ x ∈ fwl t ps m k, x.length ≤ 12
  | 0, x, hx => by cases hx
  | k + 1, x, hx => by
    unfold fwl at hx
    rcases List.mem_append.1 hx with h1 | h1
    · exact fwl_short h k x h1
    · split at h1
      · rw [List.mem_singleton] at h1
        rw [h1]
        exact getD_short h k
      · cases h1

theorem infoSt : (Try.prog.info? 9).map (fun i => (i.zero, i.size, i.bytes)) = some (some (.string ByteArray.empty), 1, 16) := by kernel_rfl

/-- texts as cells -/
def txc (xs : List Txt) : List Value := xs.map fun x => Value.string (bx x)

noncomputable def fwV (t : List Nd) (n : Nat) (m : Int) : List Txt := if gamB t n 0 m = true then fwl t (psOf t) m.toNat t.length else []

set_option maxRecDepth 1000000 in
set_option maxHeartbeats 4000000 in
theorem specFatalWords_any (t : List Nd) (n c : Nat) (m : Int) (hn : n ≤ 1048576) (W : World) (a : Option Addr) (hN : Nds W.heap.size W a n c t) :
    Calls Try.prog 14 #[.agg #[.slice a n c], .int .i64 m] W (ownS.OwnTexts W (fwV t n m) (gamB t n 0 m)) := by
  obtain ⟨i0, hii, hz0, hz1, hz2⟩ := info_parts infoSt
  have G1 := Lib.hid (Gv.start hN)
  have L := Lib.hid hN.len
  have TT := hN.top
  have CC := hN.cap
  have hbA := (Below.refl (W.heap.size + 1) (W.alloc (.cells #[.slice a n c] 30))).alloc (by simp) (.cells #[] 9)
  have G2 := Lib.hid (G1.out.on2 hbA)
  have HO2 : Hid (((W.alloc (.cells #[.slice a n c] 30)).alloc (.cells #[] 9)).ownsRow (W.heap.size + 1) 9 1 (.slice (some ⟨W.heap.size + 1, 0, none⟩) 0 0) 0 []) := Lib.hid (by
    have := World.ownsRow_lit (base := W.heap.size + 1) (e := 9) (size := 1) (W.alloc (.cells #[.slice a n c] 30)) #[] 0 (by simp) (by unfold maxLen; omega) rfl
    simpa using this)
  have hbx := G2.out.box
  have cX := Lib.hid (l11Good_any t n c 0 m hn _ a (G2.out.nds.mono G2.out.bel.size))
  have HV : Hid (fwV t n m = if gamB t n 0 m = true then fwl t (psOf t) m.toNat t.length else []) := Lib.hid rfl
  obtain ⟨q, hq⟩ : ∃ q, gamB t n 0 m = q := ⟨_, rfl⟩
  rw [hq] at cX HV
  rw [HV.out, hq]
  have hszA : ((W.alloc (.cells #[.slice a n c] 30)).alloc (.cells #[] 9)).heap.size = W.heap.size + 2 := by simp
  have HSz := Lib.hid hszA
  clear hN HV hbA hszA
  cases q with
  | false =>
    rw [if_neg (by simp)]
    clear hq
    unfold ownS.OwnTexts
    go_enter Try.func14, Try.ntmps14
    go_wp2_with fail
    refine cX.out.mono ?_
    rintro e w3 ⟨rfl, hb3⟩
    have G3 := Lib.hid (G2.out.on hb3)
    have HO3 := Lib.hid (own_stay HO2.out hb3)
    clear hb3
    go_wp2_with fail
    go_ret2
    exact ⟨_, rfl, own_down HO3.out (Nat.le_succ _), G3.out.bel⟩
  | true =>
    rw [if_pos rfl]
    obtain ⟨ps, i9, k0, hv, hps, hi0, hi, rfl, h1, h6⟩ := gam_yes hq
    have hpos : 1 ≤ n := by omega
    have ek : ((k0 : Nat) : Int).toNat = k0 := by omega
    rw [hps, ek, L.out]
    have h481 := hv.size
    have HV2 := Lib.hid hv
    have cF0 : Hid (∀ k, k < n → ∀ V : World, Gv W V a n c t → Calls Try.prog 38 #[.agg #[.slice a n c], .int .i64 (k : Int), .int .i64 (k0 : Int)] V fun e w' => e = .returned (.bool (fatB t ps k0 k)) ∧ Below V.heap.size V w') := Lib.hid (fun k h2 V hG => l11Fatal_any W.heap.size a n c k k0 t ps V (Nat.le_of_lt hG.lt) hG.nds hv h2 h6)
    have cO0 : Hid (∀ k, k < n → ∀ V : World, Gv W V a n c t → Calls Try.prog 31 #[.agg #[.slice a n c], .int .i64 (k : Int), .int .i64 (k0 : Int)] V fun e w' => e = .returned (.bool (opn t ps k0 k)) ∧ Below V.heap.size V w') := Lib.hid (fun k h2 V hG => l11Open_any W.heap.size a n c k k0 t ps V (Nat.le_of_lt hG.lt) hG.nds hv h2 h1 h6)
    have cP0 : Hid (∀ k, k < n → ∀ V : World, Gv W V a n c t → Calls Try.prog 39 #[.agg #[.slice a n c], .int .i64 (k : Int)] V fun e w' => e = .returned (.string (bx (ps.getD k []))) ∧ Below V.heap.size V w') := Lib.hid (fun k h2 V hG => (l2Prefix_any W.heap.size a n c k t V (Nat.le_of_lt hG.lt) hG.nds h2).mono fun e w' h => by
      obtain ⟨s, e1, _, hP, hb⟩ := h
      obtain ⟨_, x, _, hx⟩ := hv.tells.at (show k < t.length by have := L.out; omega)
      refine ⟨?_, hb⟩
      rw [e1]
      have : s = bx (ps.getD k []) := tx_inj (by rw [tx_bx, hP ps hv.tells hv.short x hx]; simp [List.getD, hx])
      rw [this])
    have hl1 : fwl t ps k0 1 = [] := by
      have : fatB t ps k0 0 = false := fatB_root hv.tells h1
      simp [fwl, fwB, this]
    have HL1 := Lib.hid hl1
    obtain ⟨X, hX⟩ : ∃ X, fwl t ps k0 n = X := ⟨_, rfl⟩
    rw [hX]
    have HX := Lib.hid hX
    have HSh : Hid (∀ k, (ps.getD k []).length ≤ 12) := Lib.hid (fun k => getD_short hv.short k)
    have HPar : Hid (∀ (k : Nat) (d : Nd), 1 ≤ k → t[k]? = some d → d.p = ((parN t k : Nat) : Int) ∧ parN t k < k) := Lib.hid (fun k d h1 hd => by
      have hkl := (List.getElem?_eq_some_iff.1 hd).1
      obtain ⟨j, x, c, hp, hj, _⟩ := hv.tells.step k d h1 hkl hd
      rw [parN_at hd, hp]
      exact ⟨by omega, by omega⟩)
    have HFl := Lib.hid (fun k => fwl_len t ps k0 k)
    clear hX hq hps hi0 hi ek hl1 hv
    unfold ownS.OwnTexts
    go_enter Try.func14, Try.ntmps14
    go_wp2_with fail
    refine cX.out.mono ?_
    rintro e w3 ⟨rfl, hb3⟩
    have G3 := Lib.hid (G2.out.on hb3)
    have HO3 : Hid (w3.ownsRow (W.heap.size + 1) 9 1 (.slice (some ⟨W.heap.size + 1, 0, none⟩) 0 0) (fwl t ps k0 1).length (txc (fwl t ps k0 1))) := Lib.hid (by rw [HL1.out]; exact own_stay HO2.out hb3)
    clear hb3 hbx
    go_wp2_with fail
    go_loopw [6, 7] (fun v q wr => ∃ (k : Nat) (v1 : Value), v1 = v ∧ q = .int .i64 (k : Int) ∧ 1 ≤ k ∧ k ≤ n ∧ Hid (wr.ownsRow (W.heap.size + 1) 9 1 v1 (fwl t ps k0 k).length (txc (fwl t ps k0 k))) ∧ Hid (Gv W wr a n c t)) (fun _ q _ => n - (intOf q).toNat)
    case atStart => exact ⟨1, _, rfl, rfl, Nat.le_refl _, hpos, HO3, G3⟩
    case round =>
      clear HO3
      obtain ⟨k, v1, rfl, rfl, hk1, hkn, HO, GW⟩ := hrel
      have hbx := GW.out.box
      by_cases hlt : k < n
      · obtain ⟨b, o, l, p, e, ea, hbB, hd, hl, hp, hc1, hc2, hc3⟩ := GW.out.nds.elem k hlt
        have hpar := HPar.out k _ hk1 hd
        simp only at hpar
        obtain ⟨pn, hpn⟩ : ∃ pn, parN t k = pn := ⟨_, rfl⟩
        rw [hpn] at hpar
        obtain ⟨hpe, hpk⟩ := hpar
        subst hpe
        have hR : Hid (∀ V, Below wr.heap.size wr V → V.cell? ⟨W.heap.size, 0, none⟩ = some (.slice a n c) ∧ V.cell? ⟨b, o + k * 3 + 1, none⟩ = some (.int .i64 (pn : Int))) := Lib.hid (fun V hV => ⟨(GW.out.on hV).box, (hV.cell (p := ⟨b, o + k * 3 + 1, none⟩) (by have := GW.out.lt; simp; omega)).trans hc2⟩)
        have cFk : Hid (∀ q : Cls (Below wr.heap.size wr), Calls Try.prog 38 #[.agg #[.slice a n c], .int .i64 (k : Int), .int .i64 (k0 : Int)] q.w fun e w' => e = .returned (.bool (fatB t ps k0 k)) ∧ Below wr.heap.size wr w') := Lib.hid (fun q => (cF0.out k hlt q.w (GW.out.on q.h)).mono fun e w' h => ⟨h.1, q.h.trans (h.2.mono q.h.size)⟩)
        have cOk : Hid (∀ q : Cls (Below wr.heap.size wr), Calls Try.prog 31 #[.agg #[.slice a n c], .int .i64 (pn : Int), .int .i64 (k0 : Int)] q.w fun e w' => e = .returned (.bool (opn t ps k0 pn)) ∧ Below wr.heap.size wr w') := Lib.hid (fun q => (cO0.out pn (by omega) q.w (GW.out.on q.h)).mono fun e w' h => ⟨h.1, q.h.trans (h.2.mono q.h.size)⟩)
        have HB : Hid (fwB t ps k0 k = (fatB t ps k0 k && opn t ps k0 pn)) := Lib.hid (by rw [← hpn]; rfl)
        have HST : Hid (fwl t ps k0 (k + 1) = fwl t ps k0 k ++ if fwB t ps k0 k = true then [ps.getD k []] else []) := Lib.hid rfl
        obtain ⟨f1, hf1⟩ : ∃ f1, fatB t ps k0 k = f1 := ⟨_, rfl⟩
        obtain ⟨f2, hf2⟩ : ∃ f2, opn t ps k0 pn = f2 := ⟨_, rfl⟩
        rw [hf1] at cFk HB
        rw [hf2] at cOk HB
        subst ea
        clear hf1 hf2 hd hc1 hc2 hc3 hbx hpn
        have hS0 : Below wr.heap.size wr wr.drew := (Below.refl _ _).drew
        have hnc : Nonempty (Cls (Below wr.heap.size wr)) := ⟨⟨_, hS0⟩⟩
        have hm1 : ∀ q : Cls (Below wr.heap.size wr), q.w.cell? ⟨W.heap.size, 0, none⟩ = some (.slice (some ⟨b, o, none⟩) n c) := fun q => (hR.out q.w q.h).1
        have hm2 : ∀ q : Cls (Below wr.heap.size wr), q.w.cell? ⟨b, o + k * 3 + 1, none⟩ = some (.int .i64 (pn : Int)) := fun q => (hR.out q.w q.h).2
        have hx0 := (hR.out _ (Below.refl _ _)).1
        have hi0 : (0 : Int) ≤ (k : Int) := by omega
        have hi1 : (k : Int) < (n : Int) := by omega
        rcases (show (f1 = false ∨ f2 = false) ∨ (f1 = true ∧ f2 = true) by cases f1 <;> cases f2 <;> simp) with hno | ⟨rfl, rfl⟩
        · have HN : Hid (fwl t ps k0 (k + 1) = fwl t ps k0 k) := Lib.hid (by
            rw [HST.out, HB.out]
            rcases hno with h | h <;> rw [h] <;> simp)
          rcases (show f1 = false ∨ (f1 = true ∧ f2 = false) by cases f1 with | false => exact .inl rfl | true => exact .inr ⟨rfl, by rcases hno with h | h; cases h; exact h⟩) with rfl | ⟨rfl, rfl⟩
          all_goals
            clear hno
            go_wp2_with fail
            refine wp_region_cls (Below wr.heap.size wr) (by kernel_rfl) (by kernel_rfl) hS0 ?_
            repeat (go_big_quiet_step ((first
              | (go_at_call 38; exact cls_of (cFk.out _))
              | (go_at_call 31; exact cls_of (cOk.out _)))))
            refine wpQuiet_nil ?_
            intro _ hw'
            obtain ⟨wq, rfl⟩ := hw'
            have hq := wq.h
            have HO4 := Lib.hid (own_stay HO.out hq)
            have G4 := Lib.hid (GW.out.on hq)
            clear hm1 hm2
            go_wp2_with fail
            go_roundw
            case rel => exact ⟨k + 1, _, rfl, by go_num, by omega, by omega, by rw [HN.out]; exact HO4, G4⟩
            case measure => simp [intOf]; omega
        · have HN : Hid (fwl t ps k0 (k + 1) = fwl t ps k0 k ++ [ps.getD k []]) := Lib.hid (by rw [HST.out, HB.out]; rfl)
          have hfl := HFl.out k
          have hsh := HSh.out k
          obtain ⟨y, hy⟩ : ∃ y, ps.getD k [] = y := ⟨_, rfl⟩
          have cP := Lib.hid (cP0.out k hlt)
          rw [hy] at HN hsh cP
          obtain ⟨xs, hxs⟩ : ∃ xs, fwl t ps k0 k = xs := ⟨_, rfl⟩
          rw [hxs] at HN HO hfl
          have HXs := Lib.hid hxs
          obtain ⟨mm, hmm⟩ : ∃ mm, xs.length = mm := ⟨_, rfl⟩
          have HMm := Lib.hid hmm
          rw [hmm] at HO hfl
          clear hy hxs hmm HST
          go_wp2_with fail
          refine wp_region_cls (Below wr.heap.size wr) (by kernel_rfl) (by kernel_rfl) hS0 ?_
          repeat (go_big_quiet_step ((first
            | (go_at_call 38; exact cls_of (cFk.out _))
            | (go_at_call 31; exact cls_of (cOk.out _)))))
          refine wpQuiet_nil ?_
          intro _ hw'
          obtain ⟨wq, rfl⟩ := hw'
          have hq := wq.h
          have HO4 := Lib.hid (own_stay HO.out hq)
          have G4 := Lib.hid (GW.out.on hq)
          have hx4 := hm1 wq
          clear hm1 hm2
          go_wp2_with fail
          refine (cP.out _ G4.out).mono ?_
          rintro e w5 ⟨rfl, hb5⟩
          have HO5 := Lib.hid (own_stay HO4.out hb5)
          have G5 := Lib.hid (G4.out.on hb5)
          have hz5 := G5.out.lt
          clear hb5 hx4
          go_wp2_with (at_builtin; refine wpList_append_own_at _ rfl _ _ 34 rfl (W.heap.size + 1) 9 i0 (.string ByteArray.empty) 1 16 Try.underlying34 hii hz0 hz1 hz2 rfl (by decide) _ _ _ rfl (HO5.out.alloc _) ⟨_, 0, none⟩ 1 1 [.string (bx y)] rfl rfl (cell_one_new _ _ _) (by simp [Value.oneCell']) (by unfold maxLen; omega) (by omega) (by simp; omega) ?_; intro v' w9 hown' hgrow _ hat; have HO9 := Lib.hid hown'; have hb9 := ((Below.refl (W.heap.size + 1) w5).alloc (by omega) (.cells #[.string (bx y)] 9)).trans (below_grown (HO5.out.alloc _) (Nat.le_refl _) (by simp; omega) hgrow); have G9 := Lib.hid (G5.out.on2 hb9); clear hown' hgrow hat hb9)
          go_roundw
          case rel => exact ⟨k + 1, v', rfl, by go_num, by omega, by omega, Lib.hid (by rw [HN.out, List.length_append, HMm.out]; unfold txc; rw [List.map_append]; exact HO9.out), G9⟩
          case measure => simp [intOf]; omega
      · have e : k = n := by omega
        subst e
        go_wp2_with fail
        go_ret2
        exact ⟨_, rfl, by rw [← HX.out]; exact own_down HO.out (Nat.le_succ _), GW.out.bel⟩

end Go.Proofs.Ytfehfjnmkaifbab
