/-
  The letters that win: the program's text; both functions answer the same.
-/
import Derived.Test.YtfehfjnmkaifbaaLetS11
import Derived.Test.YtfehfjnmkaifbaaLookL
import Derived.Test.YtfehfjnmkaifbaaGrew
import Derived.Maps.AppendAt
namespace Go.Proofs.Ytfehfjnmkaifbaa
open Go.RowKit Go.MapKept
set_option linter.unusedVariables false

theorem conv_u8s {base : Nat} {w : World} {v : Value} {tt : List UInt8} (h : w.ownsRow base 5 1 v tt.length (u8s tt)) : (convert 63 9 v).run Try.prog w = .ok (.string (bx tt)) w := by
  obtain ⟨a, c, rfl⟩ := own_slice h
  rcases h.2 with ⟨e, h0⟩ | ⟨g, cap, cur, e, h2⟩
  · have e2 : tt = [] := by
      injection e with _ e3 _
      exact List.eq_nil_of_length_eq_zero e3
    subst e2
    rw [e]
    exact run_convert_bytes_nil w 63 5 Try.underlying63 Try.underlying5 0 0 _ Try.underlying9
  · have h' := h
    rw [e] at h' ⊢
    exact run_convert_bytes_back w 63 9 5 ⟨g, 0, none⟩ cap tt Try.underlying63 Try.underlying5 Try.underlying9 (fun j hj => by
      have hadd : (Addr.add ⟨g, 0, none⟩ j) = ⟨g, j, none⟩ := by cases j <;> simp [Addr.add]
      rw [hadd, h'.cellAt j (by omega)]
      simp [u8s, hj])

/-- while letters are gathered: w6 is the world ahead of the loop, z its size, r0 the first row's block -/
structure WL (W w6 : World) (s z b r0 n : Nat) (f : Nat → Pro) (w : World) (v : Value) (K : Nat → Bool) (y : Txt) : Prop where
  fr : ∀ i, i < z → i ≠ b → i ≠ r0 → w.heap[i]? = w6.heap[i]?
  kn : KnowIs w b n f K
  own : w.ownsRow (s + 1) 5 1 v y.length (u8s y)
  free : ∀ q, v.ownBlock = some q → q = r0 ∨ z ≤ q
  sz : z ≤ w.heap.size
  bel : Below s W w
  ord : s < r0 ∧ r0 < b ∧ b < z

theorem WL.look {W w6 : World} {s z b r0 n : Nat} {f : Nat → Pro} {w w' : World} {v : Value} {K K' : Nat → Bool} {y : Txt} (h : WL W w6 s z b r0 n f w v K y) (hg : w.grownBy w' (some b)) (hk : KnowIs w' b n f K') : WL W w6 s z b r0 n f w' v K' y := by
  obtain ⟨h1, h2, h3⟩ := h.ord
  have hz := h.sz
  refine ⟨fun i hi hb hr => (hg.block i (by omega) (by simpa using hb)).trans (h.fr i hi hb hr), hk, h.own.kept hg ?_, h.free, Nat.le_trans hz hg.size, h.bel.grown hg (by omega) (fun q e => by injection e with e; omega), h.ord⟩
  cases hv : v.ownBlock with
  | none => simp
  | some q =>
    have := h.free q hv
    simp
    omega

theorem WL.below {W w6 : World} {s z b r0 n : Nat} {f : Nat → Pro} {w w' : World} {v : Value} {K : Nat → Bool} {y : Txt} (h : WL W w6 s z b r0 n f w v K y) (hb : Below w.heap.size w w') : WL W w6 s z b r0 n f w' v K y :=
  h.look (grown_bel (grown_self _ _) hb) (h.kn.kept (hb.block _ h.kn.lt))

theorem WL.app {W w6 : World} {s z b r0 n : Nat} {f : Nat → Pro} {w w2 : World} {v v2 : Value} {K : Nat → Bool} {y : Txt} {o : Obj} {c : UInt8} (h : WL W w6 s z b r0 n f w v K y) (hown : w2.ownsRow (s + 1) 5 1 v2 (y.length + 1) (u8s y ++ [.int .u8 (c.toNat : Int)])) (hg : (w.alloc o).grownBy w2 v.ownBlock) (hat : v2.ownBlock = v.ownBlock ∨ v2.ownBlock = some (w.alloc o).heap.size) : WL W w6 s z b r0 n f w2 v2 K (y ++ [c]) := by
  obtain ⟨h1, h2, h3⟩ := h.ord
  have hz := h.sz
  have hz2 := hg.size
  rw [World.size_alloc] at hz2
  have hnb : some b ≠ v.ownBlock := fun e => by have := h.free b e.symm; omega
  refine ⟨fun i hi hb hr => (hg.block i (by rw [World.size_alloc]; omega) (fun e => by have := h.free i e.symm; omega)).trans ((Below.heap_alloc _ _ _ (by omega)).trans (h.fr i hi hb hr)), h.kn.kept ((hg.block b (by rw [World.size_alloc]; omega) hnb).trans (Below.heap_alloc _ _ _ (by omega))), ?_, fun q hq => ?_, by omega, ?_, h.ord⟩
  · rw [u8s_app, List.length_append]
    exact hown
  · rcases hat with e | e
    · rw [e] at hq; exact h.free q hq
    · rw [e] at hq
      have := Option.some.inj hq
      rw [World.size_alloc] at this
      omega
  · exact (h.bel.alloc (by omega) o).grown hg (by rw [World.size_alloc]; omega) (fun q e => by have := (own_ge h.own e).1; omega)

set_option maxRecDepth 1000000 in
set_option maxHeartbeats 4000000 in
theorem implWinningLetters_any (t : List Nd) (n c : Nat) (x m : Int) (hn : n ≤ 1048576) (W : World) (a : Option Addr) (hN : Nds W.heap.size W a n c t) :
    Calls Try.prog 19 #[.agg #[.slice a n c], .int .i64 x, .int .i64 m] W fun e w' => e = .returned (.tuple #[.string (bx (wltV t n x m)), .bool (opoB t n x m)]) ∧ Below W.heap.size W w' := by
  obtain ⟨i0, hii, hz0, hz1, hz2⟩ := info_parts infoU8
  have G1 := Lib.hid (Gv.start hN)
  have hbx := G1.out.box
  have L := Lib.hid hN.len
  have cX := Lib.hid (isOpenOf_any t n c x m hn _ a (G1.out.nds.mono G1.out.bel.size))
  have HV : Hid (wltV t n x m = if opoB t n x m = true then wlt t (psOf t) m.toNat (kidsTo t x.toNat n) else []) := Lib.hid rfl
  obtain ⟨q, hq⟩ : ∃ q, opoB t n x m = q := ⟨_, rfl⟩
  have HQ := Lib.hid hq
  rw [hq] at cX HV
  rw [HV.out, hq]
  clear hN hq HV
  cases q with
  | false =>
    rw [if_neg (by simp)]
    go_enter Try.func19, Try.ntmps19
    go_wp2_with fail
    refine cX.out.mono ?_
    rintro e w2 ⟨rfl, hb2⟩
    go_wp2_with fail
    go_ret2
    exact ⟨rfl, G1.out.bel.trans (hb2.mono G1.out.bel.size)⟩
  | true =>
    rw [if_pos rfl]
    have hq := HQ.out
    unfold opoB at hq
    rw [Bool.and_eq_true] at hq
    obtain ⟨ps, i, k0, hv, hps, rfl, hi, rfl, h1, h6⟩ := gam_yes hq.1
    rw [hps]
    have ek : ((k0 : Nat) : Int).toNat = k0 := by omega
    have ei : ((i : Nat) : Int).toNat = i := by omega
    rw [ek, ei]
    have h481 := hv.size
    have cL := Lib.hid (fun V => los.losingOn_any a n c k0 (pro t ps k0 false) V)
    have cK := Lib.hid (fun V (hG : Gv W V a n c t) => kidsAt_any W.heap.size a n c i t ps V (Nat.le_of_lt hG.lt) hG.nds (by have := L.out; omega) hv.tells hi)
    have cA : Hid (∀ (b k : Nat) (V : World) (K : Nat → Bool), W.heap.size ≤ b → k < n → Nds W.heap.size V a n c t → KnowIs V b n (pro t ps k0 false) K → Calls Try.prog 34 #[.agg #[.slice a n c, .iface 74 (.agg #[.slice a n c, .int .i64 (k0 : Int)]), .map (some b)], .int .i64 (k : Int)] V fun e V' => e = .returned (proV (pro t ps k0 false k)) ∧ (∃ K', KnowIs V' b n (pro t ps k0 false) K') ∧ V.grownBy V' (some b)) := Lib.hid (fun b k V K hb hk hN hK => (los.at_any W.heap.size a n c k0 b t ps hv L.out h6 hb n k (by omega) hk V K hN hK).mono fun e V' h => by
      obtain ⟨h1, K', h2, _, h3⟩ := h
      exact ⟨h1, ⟨K', h2⟩, h3⟩)
    have cT : Hid (∀ (k : Nat) (V : World), 1 ≤ k → k < n → W.heap.size ≤ V.heap.size → Nds W.heap.size V a n c t → Calls Try.prog 40 #[.agg #[.slice a n c], .int .i64 (k : Int)] V fun e w' => e = .returned (.int .u8 ((letU t k).toNat : Int)) ∧ Below V.heap.size V w') := Lib.hid (fun k V h0 h2 hs hN => letterAt_any W.heap.size a n c k t ps V hs hN hv.tells h0 h2)
    have HPG : Hid (∀ k, (!(pro t ps k0 false k).wins) = goodB t ps k0 k) := Lib.hid (fun k => pro_good k)
    have HGT : Hid (∀ k, k ∈ kidsTo t i n → i < k ∧ k < n) := Lib.hid (fun k hk => by rw [← L.out] at hk ⊢; exact kids_gt hk)
    obtain ⟨ks, hks⟩ : ∃ ks, kidsTo t i n = ks := ⟨_, rfl⟩
    rw [hks] at cK HGT ⊢
    have hlen : ks.length ≤ 1000 := by have := kidsTo_le (t := t) (i := i) n; rw [hks] at this; have := L.out; omega
    obtain ⟨X, hX⟩ : ∃ X, wlt t ps k0 ks = X := ⟨_, rfl⟩
    rw [hX]
    have HX := Lib.hid hX
    obtain ⟨len, hle⟩ : ∃ len, ks.length = len := ⟨_, rfl⟩
    have HLE := Lib.hid hle
    rw [hle] at cK hlen
    clear hX hle hks ek ei hps hv hq HQ
    go_enter Try.func19, Try.ntmps19
    go_wp2_with fail
    refine cX.out.mono ?_
    rintro e w2 ⟨rfl, hb2⟩
    have G2 := Lib.hid (G1.out.on hb2)
    have hbx2 := (Below.refl w2.heap.size w2).alloc (Nat.le_refl _) (.cells #[] 5)
    have G3 := Lib.hid (G2.out.on hbx2)
    have hbx3 := G3.out.box
    have HO3 : Hid ((w2.alloc (.cells #[] 5)).ownsRow (W.heap.size + 1) 5 1 (.slice (some ⟨w2.heap.size, 0, none⟩) 0 0) 0 []) := Lib.hid (by
      have := World.ownsRow_lit (base := W.heap.size + 1) (e := 5) (size := 1) w2 #[] 0 (by have := G2.out.lt; omega) (by unfold maxLen; omega) rfl
      simpa using this)
    clear hbx hbx2 hb2
    go_wp2_with fail
    have hs3 : (w2.alloc (.cells #[] 5)).heap.size = w2.heap.size + 1 := by simp
    obtain ⟨w3, hw3⟩ : ∃ w3, w2.alloc (.cells #[] 5) = w3 := ⟨_, rfl⟩
    rw [hw3] at G3 HO3 hs3 hbx3 ⊢
    have hs2 := G2.out.lt
    obtain ⟨r0, hr0⟩ : ∃ r0, w2.heap.size = r0 := ⟨_, rfl⟩
    rw [hr0] at HO3 hs3 hs2 ⊢
    have HS3 := Lib.hid hs3
    clear hw3 hr0 G2 G1 cX hs3
    refine (cL.out _).mono ?_
    rintro e w4 ⟨b, rfl, hk4, hbb, hb4⟩
    have G4 := Lib.hid (G3.out.on hb4)
    have HO4 := Lib.hid (own_stay HO3.out hb4)
    have HS4 : Hid (r0 < b ∧ b < w4.heap.size) := Lib.hid ⟨by have := HS3.out; omega, hk4.lt⟩
    have HK4 := Lib.hid hk4
    have hb5 := (Below.refl w4.heap.size w4).alloc (Nat.le_refl _) (los.obj a n c k0 b)
    have G5 := Lib.hid (G4.out.on hb5)
    have HO5 := Lib.hid (own_stay HO4.out hb5)
    have HK5 : Hid (KnowIs (w4.alloc (los.obj a n c k0 b)) b n (pro t ps k0 false) (fun _ => false)) := Lib.hid (hk4.kept (Below.heap_alloc _ _ _ hk4.lt))
    have HE5 := Lib.hid (heap_alloc_new w4 (los.obj a n c k0 b))
    have HS5 : Hid ((w4.alloc (los.obj a n c k0 b)).heap.size = w4.heap.size + 1) := Lib.hid (by simp)
    have hbx5 := G5.out.box
    have hbx4 := G4.out.box
    clear hk4 hbb hb4 hb5 hbx3
    unfold los.olv
    unfold los.obj at hbx5
    go_wp2_with fail
    obtain ⟨w5, hw5⟩ : ∃ w5, w4.alloc (los.obj a n c k0 b) = w5 := ⟨_, rfl⟩
    rw [hw5] at G5 HO5 HK5 HE5 HS5
    unfold los.obj at hw5
    rw [hw5] at hbx5 ⊢
    obtain ⟨e9, he9⟩ : ∃ e9, w4.heap.size = e9 := ⟨_, rfl⟩
    rw [he9] at HE5 HS5 HS4 ⊢
    clear hw5 he9 hbx4 G4 G3 HO4 HO3 HK4 HS3
    refine (cK.out _ G5.out).mono ?_
    rintro e w6 ⟨v6, rfl, hO6, hb6⟩
    obtain ⟨a9, c9, rfl, hS6⟩ := own_nums hO6
    have hge : ∀ g, (Value.slice a9 len c9).ownBlock = some g → e9 < g := fun g hg => by have := (own_ge hO6 hg).1; have := HS5.out; omega
    have HGe := Lib.hid hge
    have HS6 := Lib.hid hS6
    have G6 := Lib.hid (G5.out.on hb6)
    have HE6 : Hid (w6.heap[e9]? = some (los.obj a n c k0 b)) := Lib.hid ((hb6.block e9 (by have := HS5.out; omega)).trans HE5.out)
    have HZ6 : Hid (e9 < w6.heap.size) := Lib.hid (by have := HS5.out; have := hb6.size; omega)
    have HL6 : Hid (WL W w6 W.heap.size w6.heap.size b r0 n (pro t ps k0 false) w6 (.slice (some ⟨r0, 0, none⟩) 0 0) (fun _ => false) []) := Lib.hid ⟨fun _ _ _ _ => rfl, HK5.out.kept (hb6.block b HK5.out.lt), own_stay HO5.out hb6, fun q hq => .inl (by injection hq with hq; exact hq.symm), Nat.le_refl _, G6.out.bel, by have := HS4.out; have := HZ6.out; omega⟩
    have C9 := hS6.cap
    have T9 := hS6.top
    clear hO6 hb6 hS6 hge hbx5
    go_wp2_with fail
    go_loopw [8, 25] (fun v q wr => ∃ (j : Nat) (y : Txt) (K : Nat → Bool) (v1 : Value), v1 = v ∧ q = .int .i64 (j : Int) ∧ j ≤ len ∧ Hid (y = wlt t ps k0 (ks.take j)) ∧ y.length ≤ j ∧ Hid (WL W w6 W.heap.size w6.heap.size b r0 n (pro t ps k0 false) wr v1 K y)) (fun _ q _ => len - (intOf q).toNat)
    case atStart => exact ⟨0, [], _, _, rfl, rfl, Nat.zero_le _, Lib.hid rfl, Nat.zero_le _, HL6⟩
    case round =>
      clear HL6
      obtain ⟨j, y, K, v1, rfl, rfl, hj, HA, hys, HWL⟩ := hrel
      have hordA := HWL.out.ord
      have hszw := HWL.out.sz
      by_cases hjl : j < len
      · obtain ⟨k, hk⟩ : ∃ k, ks[j]? = some k := ⟨_, List.getElem?_eq_getElem (by rw [HLE.out]; exact hjl)⟩
        have hik := HGT.out k (List.mem_of_getElem? hk)
        have hi0 : (0 : Int) ≤ (j : Int) := by omega
        have hi1 : (j : Int) < (len : Int) := by omega
        obtain ⟨b9, o9, ea9, hb9, hr9⟩ := HS6.out.spot j _ (nums_at hk)
        subst ea9
        have hg9 := HGe.out b9 rfl
        have hr : wr.cell? ⟨b9, o9 + j, none⟩ = some (.int .i64 (k : Int)) := (World.cell?_of_block (a := ⟨b9, o9 + j, none⟩) (HWL.out.fr b9 hb9 (by have := HS4.out; omega) (by have := HS4.out; omega))).trans hr9
        have he9 : wr.heap[e9]? = some (los.obj a n c k0 b) := (HWL.out.fr e9 HZ6.out (by have := HS4.out; omega) (by have := HS4.out; omega)).trans HE6.out
        unfold los.obj at he9
        obtain ⟨⟨hc0, hc1, hc2⟩, _⟩ := los.blk3 he9
        have HNd : Hid (∀ (V : World) (v : Value) (K : Nat → Bool) (y : Txt), WL W w6 W.heap.size w6.heap.size b r0 n (pro t ps k0 false) V v K y → Nds W.heap.size V a n c t ∧ V.cell? ⟨W.heap.size, 0, none⟩ = some (.slice a n c)) := Lib.hid (fun V v K y h => ⟨⟨G6.out.nds.len, G6.out.nds.cap, G6.out.nds.top, fun q d hd => by
            obtain ⟨bb, oo, ha, hB, h1, h2, h3⟩ := G6.out.nds.spot q d hd
            have ho := h.ord
            have hbl : V.heap[bb]? = w6.heap[bb]? := h.fr bb (by omega) (by omega) (by omega)
            exact ⟨bb, oo, ha, hB, (World.cell?_of_block (a := ⟨bb, oo + q * 3, none⟩) hbl).trans h1, (World.cell?_of_block (a := ⟨bb, oo + q * 3 + 1, none⟩) hbl).trans h2, (World.cell?_of_block (a := ⟨bb, oo + q * 3 + 2, none⟩) hbl).trans h3⟩, G6.out.nds.rng⟩, (World.cell?_of_block (a := ⟨W.heap.size, 0, none⟩) (h.fr W.heap.size (by have := h.ord; omega) (by have := h.ord; omega) (by have := h.ord; omega))).trans G6.out.box⟩)
        have cA1 := Lib.hid (cA.out b k wr K (by omega) hik.2 (HNd.out _ _ _ _ HWL.out).1 HWL.out.kn)
        have HG1 := Lib.hid (HPG.out k)
        have HST := Lib.hid (wlt_step (t := t) (ps := ps) (m := k0) hk)
        obtain ⟨gd, hgd⟩ : ∃ gd, goodB t ps k0 k = gd := ⟨_, rfl⟩
        obtain ⟨p, hp⟩ : ∃ p, pro t ps k0 false k = p := ⟨_, rfl⟩
        rw [hgd] at HG1 HST
        rw [hp] at HG1 cA1
        obtain ⟨p1, p2, p3, p4⟩ := p
        unfold proV at cA1
        have hfd : ∀ V : World, (Instr.field 49 (.agg #[.bool p1, .int .i64 (p2 : Int), .int .i64 (p3 : Int), .int .i64 (p4 : Int)]) 0).run Try.prog V = .ok (.bool p1) V := fun V => by kernel_rfl
        simp only at HG1
        clear hgd hp hk hr9 he9
        cases p1 with
        | true =>
          have HR : Hid (y = wlt t ps k0 (ks.take (j + 1))) := Lib.hid (by rw [HST.out, ← HG1.out, HA.out]; simp)
          go_wp2_with fail
          refine cA1.out.mono ?_
          rintro e w7 ⟨rfl, ⟨K7, hK7⟩, hg7⟩
          have HW7 := Lib.hid (HWL.out.look hg7 hK7)
          clear hK7 hg7
          go_wp2_with fail
          go_roundw
          case rel => exact ⟨j + 1, y, K7, _, rfl, by go_num, by omega, HR, by omega, HW7⟩
          case measure => simp [intOf]; omega
        | false =>
          have HR : Hid (y ++ [letU t k] = wlt t ps k0 (ks.take (j + 1))) := Lib.hid (by rw [HST.out, ← HG1.out, HA.out]; simp)
          go_wp2_with fail
          refine cA1.out.mono ?_
          rintro e w7 ⟨rfl, ⟨K7, hK7⟩, hg7⟩
          have HW7 := Lib.hid (HWL.out.look hg7 hK7)
          have hx7 := (HNd.out _ _ _ _ HW7.out).2
          have hsz7 := HW7.out.sz
          have cT7 := Lib.hid (cT.out k w7 (by omega) hik.2 (by omega) (HNd.out _ _ _ _ HW7.out).1)
          clear hK7 hg7
          go_wp2_with fail
          refine cT7.out.mono ?_
          rintro e w8 ⟨rfl, hb8⟩
          have HW8 := Lib.hid (HW7.out.below hb8)
          have HO8 := Lib.hid HW8.out.own
          have hsz8 := HW8.out.sz
          clear hb8 hx7
          obtain ⟨cl, hcl⟩ : ∃ cl, letU t k = cl := ⟨_, rfl⟩
          rw [hcl] at HR ⊢
          clear hcl
          go_wp2_with (at_builtin; refine wpList_append_own_at _ rfl _ _ 63 rfl (W.heap.size + 1) 5 i0 (.int .u8 0) 1 1 Try.underlying63 hii hz0 hz1 hz2 rfl (by decide) _ _ _ rfl (HO8.out.alloc _) ⟨_, 0, none⟩ 1 1 [.int .u8 (cl.toNat : Int)] rfl rfl (cell_one_new _ _ _) (by simp [Value.oneCell']) (by unfold maxLen; omega) (by omega) (by simp; omega) ?_; intro v' w9 hown' hgrow _ hat; have HW9 := Lib.hid (HW8.out.app hown' hgrow hat); clear hown' hgrow hat)
          go_roundw
          case rel => exact ⟨j + 1, y ++ [cl], K7, v', rfl, by go_num, by omega, HR, by simp; omega, HW9⟩
          case measure => simp [intOf]; omega
      · have e : j = len := by omega
        subst e
        have HE : Hid (y = X) := Lib.hid (by rw [HA.out, ← HX.out, List.take_of_length_le (by rw [HLE.out]; exact Nat.le_refl _)])
        have hcv := conv_u8s HWL.out.own
        rw [HE.out] at hcv
        go_wp2_with fail
        go_ret2
        exact ⟨rfl, HWL.out.bel⟩

theorem agreeWinningLetters (t : List Nd) (n : Nat) (x0 x1 : Int) (hn : n ≤ 1048576) (hx0 : -9223372036854775808 ≤ x0 ∧ x0 ≤ 9223372036854775807) (hx1 : -9223372036854775808 ≤ x1 ∧ x1 ≤ 9223372036854775807) : ∃ (v : ByteArray) (ok : Bool),
    (∀ (W : World) (a : Option Addr), Nds W.heap.size W a n n t → Calls Try.prog 18 #[.agg #[.slice a n n], .int .i64 x0, .int .i64 x1] W fun e w' => e = .returned (.tuple #[.string v, .bool ok]) ∧ Below W.heap.size W w') ∧
    (∀ (W : World) (a : Option Addr), Nds W.heap.size W a n n t → Calls Try.prog 19 #[.agg #[.slice a n n], .int .i64 x0, .int .i64 x1] W fun e w' => e = .returned (.tuple #[.string v, .bool ok]) ∧ Below W.heap.size W w') :=
  ⟨_, _, fun W a hN => specWinningLetters_any t n n x0 x1 hn W a hN, fun W a hN => implWinningLetters_any t n n x0 x1 hn W a hN⟩

end Go.Proofs.Ytfehfjnmkaifbaa
