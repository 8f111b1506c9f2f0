/-
  The best game: the program's walk; both functions answer the same.
-/
import Derived.Test.YtfehfjnmkaifbabBestS11
import Derived.Test.YtfehfjnmkaifbabLookL
import Derived.Test.YtfehfjnmkaifbabLetW11
namespace Go.Proofs.Ytfehfjnmkaifbab
open Go.RowKit Go.MapKept
set_option linter.unusedVariables false

/-- what is left of a way that ends at 0 -/
def mz (n p : Nat) : Nat := if p = 0 then 0 else n - p
theorem mz_lt {n p r : Nat} (hp : ¬ p = 0) (hn : p < n) (h : r = 0 ∨ p < r) : mz n r < mz n p := by
  unfold mz
  rw [if_neg hp]
  split <;> omega

set_option maxRecDepth 1000000 in
set_option maxHeartbeats 4000000 in
theorem implBestGame_any (t : List Nd) (n c : Nat) (m : Int) (hn : n ≤ 1048576) (W : World) (a : Option Addr) (hN : Nds W.heap.size W a n c t) :
    Calls Try.prog 21 #[.agg #[.slice a n c], .int .i64 m] W fun e w' => e = .returned (.tuple #[.string (bx (bgV t n m)), .bool (gamB t n 0 m)]) ∧ Below W.heap.size W w' := by
  obtain ⟨i0, hii, hz0, hz1, hz2⟩ := info_parts infoU8
  have G1 := Lib.hid (Gv.start hN)
  have hbx := G1.out.box
  have L := Lib.hid hN.len
  have cX := Lib.hid (isGame_any t n c 0 m hn _ a (G1.out.nds.mono G1.out.bel.size))
  have HV : Hid (bgV t n m = if gamB t n 0 m = true then (psOf t).getD (bst t (psOf t) m.toNat 0) [] else []) := Lib.hid rfl
  obtain ⟨q, hq⟩ : ∃ q, gamB t n 0 m = q := ⟨_, rfl⟩
  rw [hq] at cX HV
  rw [HV.out, hq]
  clear hN HV
  cases q with
  | false =>
    rw [if_neg (by simp)]
    clear hq
    go_enter Try.func21, Try.ntmps21
    go_wp2_with fail
    refine cX.out.mono ?_
    rintro e w2 ⟨rfl, hb2⟩
    go_wp2_with fail
    go_ret2
    exact ⟨rfl, G1.out.bel.trans (hb2.mono G1.out.bel.size)⟩
  | true =>
    rw [if_pos rfl]
    obtain ⟨ps, i9, k0, hv, hps, hi0, hi, rfl, h1, h6⟩ := gam_yes hq
    have hpos : 0 < n := by omega
    have ek : ((k0 : Nat) : Int).toNat = k0 := by omega
    rw [hps, ek]
    have h481 := hv.size
    have cL := Lib.hid (fun V => los.losingOn_any a n c k0 (pro t ps k0 false) V)
    have cA : Hid (∀ (b k : Nat) (V : World) (K : Nat → Bool), W.heap.size ≤ b → k < n → Nds W.heap.size V a n c t → KnowIs V b n (pro t ps k0 false) K → Calls Try.prog 36 #[.agg #[.slice a n c, .iface 80 (.agg #[.slice a n c, .int .i64 (k0 : Int)]), .map (some b)], .int .i64 (k : Int)] V fun e V' => e = .returned (proV (pro t ps k0 false k)) ∧ (∃ K', KnowIs V' b n (pro t ps k0 false) K') ∧ V.grownBy V' (some b)) := Lib.hid (fun b k V K hb hk hN hK => (los.at_any W.heap.size a n c k0 b t ps hv L.out h6 hb n k (by omega) hk V K hN hK).mono fun e V' h => by
      obtain ⟨h1, K', h2, _, h3⟩ := h
      exact ⟨h1, ⟨K', h2⟩, h3⟩)
    have cT : Hid (∀ (k : Nat) (V : World), 1 ≤ k → k < n → W.heap.size ≤ V.heap.size → Nds W.heap.size V a n c t → Calls Try.prog 48 #[.agg #[.slice a n c], .int .i64 (k : Int)] V fun e w' => e = .returned (.int .u8 ((letU t k).toNat : Int)) ∧ Below V.heap.size V w') := Lib.hid (fun k V h0 h2 hs hN => letterAt_any W.heap.size a n c k t ps V hs hN hv.tells h0 h2)
    have HPN : Hid (∀ k, (pro t ps k0 false k).next = nxt t ps k0 k) := Lib.hid (fun k => pro_next k)
    have HKid : Hid (∀ i k, nxt t ps k0 i = k → k ≠ 0 → i < k ∧ k < n ∧ ps.getD k [] = ps.getD i [] ++ [letU t k] ∧ bst t ps k0 i = bst t ps k0 k) := Lib.hid (fun i k hk hne => by
      subst hk
      have h1 := (nxt_gt hne).1
      have h2 := kids_gt h1
      exact ⟨h2.1, by rw [← L.out]; exact h2.2, kid_let hv.tells h1, bst_step hne⟩)
    have HEnd : Hid (∀ i, nxt t ps k0 i = 0 → bst t ps k0 i = i) := Lib.hid (fun i h => bst_end h)
    have HSh : Hid (∀ i, (ps.getD i []).length ≤ 12) := Lib.hid (fun i => by
      cases hx : ps[i]? with
      | none => simp [List.getD, hx]
      | some x => simp [List.getD, hx]; exact hv.short x (List.mem_of_getElem? hx))
    have HP0 : Hid (ps.getD 0 [] = []) := Lib.hid (by simp [List.getD, hv.tells.nil])
    obtain ⟨E, hE⟩ : ∃ E, bst t ps k0 0 = E := ⟨_, rfl⟩
    rw [hE]
    have HE := Lib.hid hE
    clear hE hq hv hps hi0 hi ek h481
    go_enter Try.func21, Try.ntmps21
    go_wp2_with fail
    refine cX.out.mono ?_
    rintro e w2 ⟨rfl, hb2⟩
    have G2 := Lib.hid (G1.out.on hb2)
    have hbx2 := G2.out.box
    clear hbx hb2
    go_wp2_with fail
    refine (cL.out _).mono ?_
    rintro e w4 ⟨b, rfl, hk4, hbb, hb4⟩
    have G4 := Lib.hid (G2.out.on hb4)
    have HS4 : Hid (W.heap.size < b ∧ b < w4.heap.size) := Lib.hid ⟨by have := G2.out.lt; omega, hk4.lt⟩
    have hb5 := (Below.refl w4.heap.size w4).alloc (Nat.le_refl _) (los.obj a n c k0 b)
    have hsz5 : (w4.alloc (los.obj a n c k0 b)).heap.size = w4.heap.size + 1 := by simp
    have hb6 := hb5.alloc (by rw [hsz5]; omega) (.cells #[] 5)
    have hsz6 : ((w4.alloc (los.obj a n c k0 b)).alloc (.cells #[] 5)).heap.size = w4.heap.size + 2 := by simp
    have G6 := Lib.hid (G4.out.on hb6)
    have HK6 : Hid (KnowIs ((w4.alloc (los.obj a n c k0 b)).alloc (.cells #[] 5)) b n (pro t ps k0 false) (fun _ => false)) := Lib.hid (hk4.below hb6 hk4.lt)
    have HE6 : Hid (((w4.alloc (los.obj a n c k0 b)).alloc (.cells #[] 5)).heap[w4.heap.size]? = some (los.obj a n c k0 b)) := Lib.hid ((Below.heap_alloc _ _ _ (by rw [hsz5]; omega)).trans (heap_alloc_new w4 (los.obj a n c k0 b)))
    have HO6 : Hid (((w4.alloc (los.obj a n c k0 b)).alloc (.cells #[] 5)).ownsRow (W.heap.size + 1) 5 1 (.slice (some ⟨w4.heap.size + 1, 0, none⟩) 0 0) 0 []) := Lib.hid (by
      have := World.ownsRow_lit (base := W.heap.size + 1) (e := 5) (size := 1) (w4.alloc (los.obj a n c k0 b)) #[] 0 (by have := G4.out.lt; rw [hsz5]; omega) (by unfold maxLen; omega) rfl
      rw [hsz5] at this
      simpa using this)
    have HS6 := Lib.hid hsz6
    have hbx4 := G4.out.box
    clear hk4 hbb hb4 hb5 hb6 hsz5 hsz6 hbx2
    unfold los.olv
    have hce : (w4.alloc (los.obj a n c k0 b)).heap[w4.heap.size]? = some (los.obj a n c k0 b) := heap_alloc_new _ _
    have hcf := HE6.out
    unfold los.obj at hce hcf
    obtain ⟨⟨hd0, hd1, hd2⟩, _⟩ := los.blk3 hcf
    have cA0 := Lib.hid (cA.out b 0 ((w4.alloc (los.obj a n c k0 b)).alloc (.cells #[] 5)) _ (Nat.le_of_lt HS4.out.1) hpos G6.out.nds HK6.out)
    obtain ⟨p, hp⟩ : ∃ p, pro t ps k0 false 0 = p := ⟨_, rfl⟩
    have HN0 := Lib.hid (HPN.out 0)
    rw [hp] at cA0 HN0
    obtain ⟨p1, p2, p3, p4⟩ := p
    unfold proV los.obj at cA0
    have hfd : ∀ (V : World), (Instr.field 56 (.agg #[.bool p1, .int .i64 (p2 : Int), .int .i64 (p3 : Int), .int .i64 (p4 : Int)]) 3).run Try.prog V = .ok (.int .i64 (p4 : Int)) V := fun V => by kernel_rfl
    simp only at HN0
    clear hp hce hcf
    go_wp2_with fail
    refine cA0.out.mono ?_
    rintro e w7 ⟨rfl, ⟨K7, hK7⟩, hg7⟩
    obtain ⟨w6, hw6⟩ : ∃ w6, (w4.alloc (los.obj a n c k0 b)).alloc (.cells #[] 5) = w6 := ⟨_, rfl⟩
    rw [hw6] at G6 HK6 HE6 HO6 HS6
    unfold los.obj at hw6
    rw [hw6] at hg7
    obtain ⟨e9, he9⟩ : ∃ e9, w4.heap.size = e9 := ⟨_, rfl⟩
    rw [he9] at HE6 HO6 HS6 HS4 ⊢
    have HL6 : Hid (WL W w6 W.heap.size w6.heap.size b (e9 + 1) n (pro t ps k0 false) w7 (.slice (some ⟨e9 + 1, 0, none⟩) 0 0) K7 []) := Lib.hid (WL.look (K := fun _ => false) ⟨fun _ _ _ _ => rfl, HK6.out, HO6.out, fun q hq => .inl (by injection hq with hq; exact hq.symm), Nat.le_refl _, G6.out.bel, by have := HS4.out; have := HS6.out; omega⟩ hg7 hK7)
    clear hw6 he9 hbx4 G4 hd0 hd1 hd2 hK7 hg7 cA0
    go_wp2_with fail
    clear hfd
    go_loopw [7, 8] (fun v q wr => ∃ (cur pn : Nat) (y : Txt) (K : Nat → Bool) (v1 : Value), v1 = v ∧ q = .int .i64 (pn : Int) ∧ cur < n ∧ pn < n ∧ Hid (nxt t ps k0 cur = pn) ∧ Hid (bst t ps k0 cur = E) ∧ Hid (y = ps.getD cur []) ∧ y.length ≤ 12 ∧ Hid (WL W w6 W.heap.size w6.heap.size b (e9 + 1) n (pro t ps k0 false) wr v1 K y)) (fun _ q _ => mz n (intOf q).toNat)
    case atStart => exact ⟨0, p4, [], K7, _, rfl, rfl, hpos, by
      by_cases hz : p4 = 0
      · omega
      · exact (HKid.out 0 p4 HN0.out.symm hz).2.1, Lib.hid HN0.out.symm, HE, Lib.hid HP0.out.symm, by simp, HL6⟩
    case round =>
      clear HL6 HN0
      obtain ⟨cur, pn, y, K, v1, rfl, rfl, hcn, hpn, HN, HB, HY, hy12, HWL⟩ := hrel
      have hordA := HWL.out.ord
      have hszw := HWL.out.sz
      have hs4 := HS4.out
      have hs6 := HS6.out
      by_cases hp0 : pn = 0
      · subst hp0
        have HEc : Hid (cur = E) := Lib.hid (by rw [← HB.out, HEnd.out cur HN.out])
        have hcv := conv_u8s HWL.out.own
        have HYE : Hid (y = ps.getD E []) := Lib.hid (by rw [HY.out, HEc.out])
        clear hs4 hs6 hordA
        go_wp2_with fail
        go_ret2
        exact ⟨(by rw [HYE.out]; rfl), HWL.out.bel⟩
      · have hne : ((pn : Int) != 0) = true := by simp [hp0]
        obtain ⟨hk1, _, hk3, hk4⟩ := HKid.out cur pn HN.out hp0
        have HNd : Hid (∀ (V : World) (v : Value) (K : Nat → Bool) (y : Txt), WL W w6 W.heap.size w6.heap.size b (e9 + 1) n (pro t ps k0 false) V v K y → Nds W.heap.size V a n c t ∧ V.cell? ⟨W.heap.size, 0, none⟩ = some (.slice a n c) ∧ V.heap[e9]? = some (los.obj a n c k0 b)) := Lib.hid (fun V v K y h => ⟨⟨G6.out.nds.len, G6.out.nds.cap, G6.out.nds.top, fun q d hd => by
            obtain ⟨bb, oo, ha, hB, h1, h2, h3⟩ := G6.out.nds.spot q d hd
            have ho := h.ord
            have hbl : V.heap[bb]? = w6.heap[bb]? := h.fr bb (by omega) (by omega) (by omega)
            exact ⟨bb, oo, ha, hB, (World.cell?_of_block (a := ⟨bb, oo + q * 3, none⟩) hbl).trans h1, (World.cell?_of_block (a := ⟨bb, oo + q * 3 + 1, none⟩) hbl).trans h2, (World.cell?_of_block (a := ⟨bb, oo + q * 3 + 2, none⟩) hbl).trans h3⟩, G6.out.nds.rng⟩, (World.cell?_of_block (a := ⟨W.heap.size, 0, none⟩) (h.fr W.heap.size (by have := h.ord; omega) (by have := h.ord; omega) (by have := h.ord; omega))).trans G6.out.box, (h.fr e9 (by omega) (by omega) (by omega)).trans HE6.out⟩)
        have HYN : Hid (y ++ [letU t pn] = ps.getD pn []) := Lib.hid (by rw [hk3, HY.out])
        have HBN : Hid (bst t ps k0 pn = E) := Lib.hid (by rw [← hk4]; exact HB.out)
        have hx0 := (HNd.out _ _ _ _ HWL.out).2.1
        have cT7 := Lib.hid (cT.out pn wr (by omega) hpn (by omega) (HNd.out _ _ _ _ HWL.out).1)
        have HPq := Lib.hid (HPN.out pn)
        have HY13 := HSh.out pn
        clear hk3 hk4
        go_wp2_with fail
        refine cT7.out.mono ?_
        rintro e w8 ⟨rfl, hb8⟩
        have HW8 := Lib.hid (HWL.out.below hb8)
        have HO8 := Lib.hid HW8.out.own
        have hsz8 := HW8.out.sz
        clear hb8 hx0
        obtain ⟨cl, hcl⟩ : ∃ cl, letU t pn = cl := ⟨_, rfl⟩
        rw [hcl] at HYN ⊢
        clear hcl
        have cA9 : Hid (∀ (V : World) (v : Value) (K : Nat → Bool) (y : Txt), WL W w6 W.heap.size w6.heap.size b (e9 + 1) n (pro t ps k0 false) V v K y → Calls Try.prog 36 #[.agg #[.slice a n c, .iface 80 (.agg #[.slice a n c, .int .i64 (k0 : Int)]), .map (some b)], .int .i64 (pn : Int)] V fun e V' => e = .returned (proV (pro t ps k0 false pn)) ∧ (∃ K', KnowIs V' b n (pro t ps k0 false) K') ∧ V.grownBy V' (some b)) := Lib.hid (fun V v K y h => cA.out b pn V K (by omega) hpn (HNd.out _ _ _ _ h).1 h.kn)
        obtain ⟨p, hp⟩ : ∃ p, pro t ps k0 false pn = p := ⟨_, rfl⟩
        rw [hp] at cA9 HPq
        obtain ⟨r1, r2, r3, r4⟩ := p
        unfold proV at cA9
        have hfd : ∀ (V : World), (Instr.field 56 (.agg #[.bool r1, .int .i64 (r2 : Int), .int .i64 (r3 : Int), .int .i64 (r4 : Int)]) 3).run Try.prog V = .ok (.int .i64 (r4 : Int)) V := fun V => by kernel_rfl
        simp only at HPq
        have hordB := hordA.1
        clear hp hs4 hs6 hordA
        go_wp2_with (at_builtin; refine wpList_append_own_at _ rfl _ _ 76 rfl (W.heap.size + 1) 5 i0 (.int .u8 0) 1 1 Try.underlying76 hii hz0 hz1 hz2 rfl (by decide) _ _ _ rfl (HO8.out.alloc _) ⟨_, 0, none⟩ 1 1 [.int .u8 (cl.toNat : Int)] rfl rfl (cell_one_new _ _ _) (by simp [Value.oneCell']) (by unfold maxLen; omega) (by omega) (by simp; omega) ?_; intro v' w9 hown' hgrow _ hat; have HW9 := Lib.hid (HW8.out.app hown' hgrow hat); have he9 := (HNd.out _ _ _ _ HW9.out).2.2; unfold los.obj at he9; obtain ⟨⟨hc0, hc1, hc2⟩, _⟩ := los.blk3 he9; clear hown' hgrow hat he9)
        refine (cA9.out _ _ _ _ HW9.out).mono ?_
        rintro e w10 ⟨rfl, ⟨K10, hK10⟩, hg10⟩
        have HW10 := Lib.hid (HW9.out.look hg10 hK10)
        clear hK10 hg10 hc0 hc1 hc2
        have hr4 : r4 < n := by
          by_cases hz : r4 = 0
          · omega
          · exact (HKid.out pn r4 HPq.out.symm hz).2.1
        have hr5 : r4 = 0 ∨ pn < r4 := by
          by_cases hz : r4 = 0
          · exact .inl hz
          · exact .inr (HKid.out pn r4 HPq.out.symm hz).1
        go_wp2_with fail
        go_roundw
        case rel => exact ⟨pn, r4, y ++ [cl], K10, v', rfl, rfl, hpn, hr4, Lib.hid HPq.out.symm, HBN, HYN, by rw [HYN.out]; exact HY13, HW10⟩
        case measure =>
          have e1 : (intOf (Value.int .i64 (r4 : Int))).toNat = r4 := by simp [intOf]
          have e2 : (intOf (Value.int .i64 (pn : Int))).toNat = pn := by simp [intOf]
          rw [e1, e2]
          exact mz_lt hp0 hpn hr5

theorem agreeBestGame (t : List Nd) (n : Nat) (x0 : Int) (hn : n ≤ 1048576) (hx0 : -9223372036854775808 ≤ x0 ∧ x0 ≤ 9223372036854775807) : ∃ (v : ByteArray) (ok : Bool),
    (∀ (W : World) (a : Option Addr), Nds W.heap.size W a n n t → Calls Try.prog 20 #[.agg #[.slice a n n], .int .i64 x0] W fun e w' => e = .returned (.tuple #[.string v, .bool ok]) ∧ Below W.heap.size W w') ∧
    (∀ (W : World) (a : Option Addr), Nds W.heap.size W a n n t → Calls Try.prog 21 #[.agg #[.slice a n n], .int .i64 x0] W fun e w' => e = .returned (.tuple #[.string v, .bool ok]) ∧ Below W.heap.size W w') :=
  ⟨_, _, fun W a hN => specBestGame_any t n n x0 hn W a hN, fun W a hN => implBestGame_any t n n x0 hn W a hN⟩

end Go.Proofs.Ytfehfjnmkaifbab
