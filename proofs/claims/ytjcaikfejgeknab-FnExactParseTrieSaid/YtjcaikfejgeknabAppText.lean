/-
  The program's text of a node, appended to a row of bytes.
-/
import Derived.Test.YtjcaikfejgeknabText
import Derived.Test.YtjcaikfejgeknabGrew
import Derived.Deep.DeepCutAuto
namespace Go.Proofs.Ytjcaikfejgeknab
open Go.RowKit
set_option linter.unusedVariables false

/-- what the call leaves -/
def AppPost (bT : Nat) (w : World) (v : Value) (m : Nat) (xs ys : Txt) (e : Ending) (w' : World) : Prop :=
  ∃ v', e = .returned v' ∧ Apx bT w v m xs w' v' ys

set_option maxRecDepth 1000000 in
set_option maxHeartbeats 2000000 in
theorem appendText_any (B bT : Nat) (a : Option Addr) (n c : Nat) (t : List Nd) (ps : List Txt) (hv : Valid t ps) (hBT : B ≤ bT) : ∀ (f i m : Nat) (v : Value) (xs : Txt) (w : World), n ≤ i + f → i < n → bT ≤ w.heap.size → m + (txtOf t f i).length ≤ 4000 →
    w.ownsRow bT 5 1 v m (u8s xs) → Nds B w a n c t →
    Calls Try.prog 87 #[v, .agg #[.slice a n c], .int .i64 (i : Int)] w (AppPost bT w v m xs (txtOf t f i))
  | 0, i, m, v, xs, w, hf, hi, _, _, _, _ => by omega
  | f + 1, i, m, v, xs, w, hf, hi, hT, hm, hown, h => by
    have ih := Lib.hid (appendText_any B bT a n c t ps hv hBT f)
    have HL : Hid (t.length = n) := Lib.hid h.len
    have hn : n ≤ 481 := by have := hv.size; have := h.len; omega
    have H := Lib.hid h
    have HV := Lib.hid hv
    have HT := Lib.hid hT
    have HM4 := Lib.hid hm
    have HOw := Lib.hid hown
    have HBT := Lib.hid hBT
    have CC := h.cap
    have TT := h.top
    clear h hT hv hm hBT
    obtain ⟨d, x, hd, hx⟩ := HV.out.tells.at (show i < t.length by rw [HL.out]; exact hi)
    have HD := Lib.hid hd
    have hlow : 1 ≤ i → 0 ≤ d.l ∧ d.l ≤ 25 := fun h1 => by
      obtain ⟨q, y, c, _, _, hl, c0, c1, _, _⟩ := HV.out.tells.step i d h1 (by rw [HL.out]; exact hi) hd
      omega
    have HLow := Lib.hid hlow
    clear hd hx hlow
    obtain ⟨b, o, l, p, e, rfl, hbB, hd', hl, hp, hc1, hc2, hc3⟩ := H.out.elem i hi
    have hde := Option.some.inj (HD.out.symm.trans hd')
    subst hde
    clear hd' hc1 hc2 hc3
    -- the world behind the box
    have HB1 : Hid (Below w.heap.size w (w.alloc (.cells #[.slice (some ⟨b, o, none⟩) n c] 30))) := Lib.hid ((Below.refl _ _).alloc (Nat.le_refl _) _)
    have HX1 : Hid ((w.alloc (.cells #[.slice (some ⟨b, o, none⟩) n c] 30)).cell? ⟨w.heap.size, 0, none⟩ = some (.slice (some ⟨b, o, none⟩) n c)) := Lib.hid (by simp)
    have HZ1 : Hid (w.heap.size < (w.alloc (.cells #[.slice (some ⟨b, o, none⟩) n c] 30)).heap.size) := Lib.hid (by simp)
    have HO1 : Hid ((w.alloc (.cells #[.slice (some ⟨b, o, none⟩) n c] 30)).ownsRow bT 5 1 v m (u8s xs)) := Lib.hid (hown.alloc _)
    have HF1 : Hid (some w.heap.size ≠ v.ownBlock) := Lib.hid (fun he => by have := (hown.lt _ he.symm).2; omega)
    clear hown
    -- the first two pieces
    obtain ⟨h1, hh1⟩ : ∃ h1 : Txt, (if i = 0 then [] else [UInt8.ofNat (97 + l).toNat]) = h1 := ⟨_, rfl⟩
    obtain ⟨h2, hh2⟩ : ∃ h2 : Txt, h1 ++ (if e then [46] else []) = h2 := ⟨_, rfl⟩
    have H1 := Lib.hid hh1
    have H2 := Lib.hid hh2
    have hl1 : h1.length ≤ 1 := by rw [← hh1]; split <;> simp
    have hl2 : h2.length ≤ 2 := by rw [← hh2, List.length_append]; have : ((if e then [46] else [] : Txt)).length ≤ 1 := by { split <;> simp }; omega
    have HHead : Hid (headOf ⟨l, p, e⟩ i = h2) := Lib.hid (by unfold headOf; rw [hh1, hh2])
    have hm4 : m ≤ 4000 := by have := HM4.out; omega
    clear hh1 hh2
    obtain ⟨i0, hii, hz0, hz1, hz2⟩ := info_parts infoU8
    go_enter Try.func87, Try.ntmps87
    go_upto_if 11 with fail
    obtain ⟨W1, hW1⟩ : ∃ W1, w.alloc (.cells #[.slice (some ⟨b, o, none⟩) n c] 30) = W1 := ⟨_, rfl⟩
    rw [hW1] at HB1 HX1 HZ1 HO1 ⊢
    clear hW1
    have HWB : Hid (bT ≤ W1.heap.size) := Lib.hid (Nat.le_trans HT.out HB1.out.size)
    have HNd1 : Hid (Nds B W1 (some ⟨b, o, none⟩) n c t) := Lib.hid (H.out.keep (HB1.out.mono (Nat.le_trans HBT.out HT.out)))
    -- what stays, whatever has been appended since
    have HStay : Hid (∀ (wx : World) (v1 : Value) (ys : Txt), Apx bT W1 v m xs wx v1 ys → wx.cell? ⟨w.heap.size, 0, none⟩ = some (.slice (some ⟨b, o, none⟩) n c) ∧ Nds B wx (some ⟨b, o, none⟩) n c t ∧ some w.heap.size ≠ v1.ownBlock ∧ w.heap.size < wx.heap.size ∧ bT ≤ wx.heap.size ∧ (∀ k, v1.ownBlock = some k → k < wx.heap.size)) := Lib.hid (fun wx v1 ys hA =>
      ⟨(hA.grew.cell ⟨w.heap.size, 0, none⟩ HZ1.out HF1.out).trans HX1.out, HNd1.out.keep ((hA.grew.to HO1.out HWB.out).mono HBT.out), hA.grew.free HZ1.out HF1.out, Nat.lt_of_lt_of_le HZ1.out hA.grew.grown.size, Nat.le_trans HWB.out hA.grew.grown.size, fun k hk => (hA.own.lt k hk).2⟩)
    go_cut [0] (fun s0 wx => ∃ v1, v1 = s0 ∧ Hid (Apx bT W1 v m xs wx v1 h1))
    case first =>
      have hx := HX1.out
      obtain ⟨_, _, _, _, _, e9, _, hd9, _, _, hc1, hc2, hc3⟩ := HNd1.out.elem i hi
      cases e9
      have h9 := Option.some.inj (HD.out.symm.trans hd9)
      cases h9
      clear hd9
      by_cases hi0 : i = 0
      · have hb : ((i : Int) != 0) = false := by simp [hi0]
        have HA : Hid (Apx bT W1 v m xs W1 v h1) := Lib.hid ((Apx.start HO1.out).cast (by rw [← H1.out, if_pos hi0]))
        clear hi0
        go_wp2
        go_meet
        exact ⟨_, rfl, HA⟩
      · have hb : ((i : Int) != 0) = true := by simp [hi0]
        obtain ⟨hl0, hl25⟩ : 0 ≤ l ∧ l ≤ 25 := HLow.out (by omega)
        have HA := Lib.hid (Apx.start HO1.out)
        have HE : Hid ([UInt8.ofNat (97 + l).toNat] = h1) := Lib.hid (by rw [← H1.out, if_neg hi0])
        have HQ : Hid (97 + l = ((UInt8.ofNat (97 + l).toNat).toNat : Int)) := Lib.hid (by
          have e8 : (UInt8.ofNat (97 + l).toNat).toNat = (97 + l).toNat := by
            rw [UInt8.toNat_ofNat']
            exact Nat.mod_eq_of_lt (by omega)
          rw [e8]
          omega)
        clear hi0
        go_wp2_with (at_builtin; go_loud (refine wpList_append_own_at _ rfl _ _ 48 rfl bT 5 i0 (.int .u8 0) 1 1 Try.underlying48 hii hz0 hz1 hz2 rfl (by decide) _ _ _ rfl (HO1.out.alloc _) ⟨_, 0, none⟩ 1 1 [.int .u8 (97 + l)] rfl rfl (cell_one_new _ _ _) (by simp [Value.oneCell']) (by unfold maxLen; omega) (by omega) (by have := HWB.out; simp; omega) ?_; intro v' w1 hown' hgrow _ hat; have HA2 := Lib.hid ((HA.out.app HQ.out (by simpa using hown') hgrow hat).cast HE.out); clear hown' hgrow hat))
        go_meet
        exact ⟨_, rfl, HA2⟩
    case rest =>
      obtain ⟨v1, rfl, HA1⟩ := hcut
      rename World => w3
      obtain ⟨hx, hnd, hfr, hz, hbt, hlt1⟩ := HStay.out _ _ _ HA1.out
      have HND := Lib.hid hnd
      obtain ⟨_, _, _, _, _, e9, _, hd9, _, _, hc1, hc2, hc3⟩ := hnd.elem i hi
      cases e9
      have h9 := Option.some.inj (HD.out.symm.trans hd9)
      cases h9
      clear hd9 hfr hlt1 hnd
      go_upto_if 28 with fail
      go_cut [0] (fun s0 wx => ∃ v2, v2 = s0 ∧ Hid (Apx bT W1 v m xs wx v2 h2))
      case first =>
        cases e with
        | false =>
          have HA : Hid (Apx bT W1 v m xs w3 v1 h2) := Lib.hid (HA1.out.cast (by rw [← H2.out]; simp))
          go_wp2
          go_meet
          exact ⟨_, rfl, HA⟩
        | true =>
          have HE : Hid (h1 ++ [46] = h2) := Lib.hid (by rw [← H2.out]; rfl)
          go_wp2_with (at_builtin; refine wpList_append_own_at _ rfl _ _ 48 rfl bT 5 i0 (.int .u8 0) 1 1 Try.underlying48 hii hz0 hz1 hz2 rfl (by decide) _ _ _ rfl (HA1.out.own.alloc _) ⟨_, 0, none⟩ 1 1 [.int .u8 46] rfl rfl (cell_one_new _ _ _) (by simp [Value.oneCell']) (by unfold maxLen; omega) (by omega) (by simp; omega) ?_; intro v' w4 hown' hgrow _ hat; have HA2 := Lib.hid ((HA1.out.app (c := 46) rfl hown' hgrow hat).cast HE.out); clear hown' hgrow hat)
          go_meet
          exact ⟨_, rfl, HA2⟩
      case rest =>
        clear hc1 hc2 hc3 hx hz hbt
        obtain ⟨v2, rfl, HA2⟩ := hcut
        rename World => w5
        obtain ⟨hx, hnd, hfr, hz, hbt, hlt1⟩ := HStay.out _ _ _ HA2.out
        have cK := Lib.hid (kidsAt_any B (some ⟨b, o, none⟩) n c i t ps w5 (Nat.le_trans HBT.out hbt) hnd (by omega) HV.out.tells hi)
        obtain ⟨ks, hks⟩ : ∃ ks, kidsTo t i n = ks := ⟨_, rfl⟩
        have HKs : Hid (kidsTo t i t.length = ks) := Lib.hid (by rw [HL.out]; exact hks)
        have HMem : Hid (∀ j, j ∈ ks → i < j ∧ j < n) := Lib.hid (fun j hj => by
          rw [← hks] at hj
          have := mem_kidsTo.1 hj
          exact ⟨this.2.1, this.1⟩)
        rw [hks] at cK
        obtain ⟨q, hq⟩ : ∃ q, ks.length = q := ⟨_, rfl⟩
        have HQ := Lib.hid hq
        have hqn : q ≤ n := by rw [← hq, ← hks]; exact kidsTo_le n
        rw [hq] at cK
        clear hks hq hnd
        have HLt := Lib.hid hlt1
        have HFr := Lib.hid hfr
        clear hlt1 hfr
        by_cases hq0 : q = 0
        · have HE : Hid (h2 = txtOf t (f + 1) i) := Lib.hid (by rw [txtOf_leaf HD.out (by rw [HKs.out]; exact List.eq_nil_of_length_eq_zero (by rw [HQ.out]; exact hq0)), HHead.out])
          have hb1 : ((q : Int) == 0) = true := by simp [hq0]
          clear hq0
          go_wp2_with (go_at_call 107; refine cK.out.mono ?_; rintro en w6 ⟨v6, rfl, hO6, hb6⟩; obtain ⟨a6, c6, rfl, hS6⟩ := own_nums hO6; have HB6 := Lib.hid hb6; clear hO6 hb6 hS6)
          go_ret
          exact ⟨_, rfl, ((HA2.out.below HB6.out).cast HE.out).ahead HB1.out⟩
        · have HNe : Hid (kidsTo t i t.length ≠ []) := Lib.hid (fun h => hq0 (by rw [← HQ.out, ← HKs.out, h]; rfl))
          have hb1 : ((q : Int) == 0) = false := by simp [hq0]
          have HU0 : Hid (h2 ++ [40] = upTo t f i ⟨l, p, e⟩ 0) := Lib.hid (by
            unfold upTo
            rw [List.take_zero, List.flatMap_nil, List.append_nil, HHead.out])
          clear hq0
          go_wp2_with (first
            | (go_at_call 107; refine cK.out.mono ?_; rintro en w6 ⟨v6, rfl, hO6, hb6⟩; obtain ⟨a6, c6, rfl, hS6⟩ := own_nums hO6; have HO6 := Lib.hid hO6; have HB6 := Lib.hid hb6; have HS6 := Lib.hid hS6; have HA3 := Lib.hid (HA2.out.below hb6); have hz6 := hb6.size; clear hO6 hb6 hS6)
            | (at_builtin; refine wpList_append_own_at _ rfl _ _ 48 rfl bT 5 i0 (.int .u8 0) 1 1 Try.underlying48 hii hz0 hz1 hz2 rfl (by decide) _ _ _ rfl (HA3.out.own.alloc _) ⟨_, 0, none⟩ 1 1 [.int .u8 40] rfl rfl (cell_one_new _ _ _) (by simp [Value.oneCell']) (by unfold maxLen; omega) (by omega) (by simp; omega) ?_; intro v7 w7 hown' hgrow _ hat; have HG7 := Lib.hid (Grew.app hgrow hat); have HA7 := Lib.hid ((HA3.out.app (c := 40) rfl hown' hgrow hat).cast HU0.out); clear hown' hgrow hat))
          have HFK : Hid (∀ x, a6 = some x → some x.block ≠ v2.ownBlock) := Lib.hid (fun x hx he => by
            have h1 := (own_ge HO6.out (g := x.block) (by rw [hx]; rfl)).1
            have h2 := HLt.out _ he.symm
            omega)
          clear hbt
          go_loopw [0, 44] (fun s0 i' wr => ∃ (k : Nat) (v' : Value), k ≤ q ∧ i' = .int .i64 k ∧ v' = s0 ∧ Hid (Apx bT W1 v m xs wr v' (upTo t f i ⟨l, p, e⟩ k)) ∧ Hid (Grew w6 wr v2 v')) (fun _ i' _ => q - (intOf i').toNat)
          case atStart => exact ⟨0, _, Nat.zero_le _, rfl, rfl, HA7, HG7⟩
          case round =>
            clear hx
            obtain ⟨k, v', hk, rfl, rfl, HA, HG⟩ := hrel
            obtain ⟨hx, hnd, hfr, hz9, hbt, hlt1⟩ := HStay.out _ _ _ HA.out
            have HND2 := Lib.hid hnd
            have HBt := Lib.hid hbt
            clear hfr hlt1 hnd hbt
            have hul : (upTo t f i ⟨l, p, e⟩ k).length + 1 + m ≤ 4000 := by
              have h1 := upTo_len (f := f) (k := k) HD.out HNe.out
              have h2 := HM4.out
              omega
            by_cases hlk : k < q
            · obtain ⟨j, hj⟩ : ∃ j, ks[k]? = some j := ⟨_, List.getElem?_eq_getElem (by rw [HQ.out]; exact hlk)⟩
              obtain ⟨b3, o3, e3, hb3, hcj⟩ := (HS6.out.far HG.out.grown HFK.out).spot k _ (nums_at hj)
              subst e3
              have hjm := HMem.out j (List.mem_iff_getElem?.2 ⟨k, hj⟩)
              have HUs := Lib.hid (upTo_succ (t := t) (f := f) (i := i) (d := ⟨l, p, e⟩) (k := k) (j := j) (by rw [HKs.out]; exact hj))
              have cI := Lib.hid (ih.out j (m + (upTo t f i ⟨l, p, e⟩ k).length) v' (xs ++ upTo t f i ⟨l, p, e⟩ k) wr (by omega) hjm.2 HBt.out (by
                have h1 := upTo_len (f := f) (k := k + 1) HD.out HNe.out
                rw [HUs.out, List.length_append] at h1
                have h2 := HM4.out
                omega) HA.out.own HND2.out)
              have hk0 : (0 : Int) ≤ (k : Int) := by omega
              have hk1 : (k : Int) < (q : Int) := by omega
              clear hj hjm
              go_wp2_with (go_at_call 87; refine cI.out.mono ?_; rintro en w8 ⟨v8, rfl, hA8⟩; have HA8 := Lib.hid (HA.out.then hA8); have HG8 := Lib.hid (HG.out.trans hA8.grew); clear hA8)
              go_roundw
              case rel => exact ⟨k + 1, v8, by omega, by go_num, rfl, Lib.hid (HA8.out.cast HUs.out.symm), HG8⟩
              case measure => simp [intOf]; omega
            · have HE : Hid (upTo t f i ⟨l, p, e⟩ k ++ [41] = txtOf t (f + 1) i) := Lib.hid (upTo_all HD.out HNe.out (by rw [HKs.out, HQ.out]; omega))
              go_wp2_with (at_builtin; refine wpList_append_own_at _ rfl _ _ 48 rfl bT 5 i0 (.int .u8 0) 1 1 Try.underlying48 hii hz0 hz1 hz2 rfl (by decide) _ _ _ rfl (HA.out.own.alloc _) ⟨_, 0, none⟩ 1 1 [.int .u8 41] rfl rfl (cell_one_new _ _ _) (by simp [Value.oneCell']) (by unfold maxLen; omega) (by omega) (by have := HBt.out; simp; omega) ?_; intro v9 w9 hown' hgrow _ hat; have HA9 := Lib.hid ((HA.out.app (c := 41) rfl hown' hgrow hat).cast HE.out); clear hown' hgrow hat)
              go_ret
              exact ⟨_, rfl, HA9.out.ahead HB1.out⟩

end Go.Proofs.Ytjcaikfejgeknab
