/-
  The products of the words of two tries: the reference.
-/
import Derived.Test.YtipkdoplgjgkpacTimesM
import Derived.Test.YtipkdoplgjgkpacStepA
import Derived.Laws.BytesArg
import Derived.Deep.RegionLaw
import Derived.Maps.AppendAt
import Derived.Deep.DeepCutAuto
import Derived.Deep.RegionHeld3
import Derived.Deep.QuietTactic
import Derived.BigQuiet
namespace Go.Proofs.Ytipkdoplgjgkpac
open Go.RowKit
set_option linter.unusedVariables false

theorem bx_cat (x y : Txt) : bx (x ++ y) = bx x ++ bx y := by
  apply tx_inj
  rw [tx_bx]
  simp [tx, bx]

noncomputable def timesL (t u : List Nd) : List Txt := prods (wordsOf t) (wordsOf u)

/-- what is known at the loops' head -/
def AtT (W w : World) (a : Option Addr) (n c : Nat) (t : List Nd) (b : Option Addr) (k d : Nat) (u : List Nd) (m1 : Nat) (ws : List Txt) (m2 : Nat) (us : List Txt) (s6 s7 s8 : Value) : Prop :=
  ∃ g6 a3 c3 a4 c4, s6 = .slice (some ⟨g6, 0, none⟩) 0 0 ∧ s7 = .slice a3 m1 c3 ∧ s8 = .slice a4 m2 c4 ∧ TL W w a n c t b k d u (.slice (some ⟨g6, 0, none⟩) 0 0) 0 [] a3 m1 c3 ws a4 m2 c4 us

section
variable {W w2 w3 w4 : World} {a b a3 a4 : Option Addr} {n c k d m1 c3 m2 c4 : Nat} {t u : List Nd} {ws us : List Txt}

theorem wds_of {base : Nat} {w : World} {n : Nat} {a : Option Addr} {c : Nat} {xs : List Txt} (h : w.ownsRow base 9 1 (.slice a n c) n (xs.map (fun x => Value.string (bx x)))) (hx : ∀ x ∈ xs, x.length ≤ 12) : Wds w.heap.size w a n c xs := by
  obtain ⟨a', c', e, hW⟩ := own_wds h (fun x h => by have := hx x h; omega)
  cases e
  exact hW

theorem lit0 (w : World) : (w.alloc (.cells #[] 9)).ownsRow w.heap.size 9 1 (.slice (some ⟨w.heap.size, 0, none⟩) 0 0) 0 [] := World.ownsRow_lit (base := w.heap.size) (e := 9) (size := 1) w #[] 0 (Nat.le_refl _) (by unfold maxLen; omega) rfl

theorem atT1 (hs1 : ∀ x ∈ ws, x.length ≤ 12) (hs2 : ∀ x ∈ us, x.length ≤ 12) (G : Gv2R W w4 a n c t b k d u) (hres : W.heap.size + 1 + 1 < w2.heap.size) (hb3 : Below (w2.alloc (.cells #[] 9)).drew.heap.size (w2.alloc (.cells #[] 9)).drew w3) (hO3 : w3.ownsRow (w2.alloc (.cells #[] 9)).drew.heap.size 9 1 (.slice a3 m1 c3) m1 (ws.map fun x => Value.string (bx x))) (hb4 : Below w3.heap.size w3 w4) (hO4 : w4.ownsRow w3.heap.size 9 1 (.slice a4 m2 c4) m2 (us.map fun x => Value.string (bx x))) : AtT W w4 a n c t b k d u m1 ws m2 us (.slice (some ⟨w2.heap.size, 0, none⟩) 0 0) (.slice a3 m1 c3) (.slice a4 m2 c4) := by
  have hz : (w2.alloc (.cells #[] 9)).drew.heap.size = w2.heap.size + 1 := by simp [World.drew]
  have h3 := hb3.size
  exact ⟨_, _, _, _, _, rfl, rfl, rfl, TL.mk1 (B1 := 0) G w2.heap.size hres (own_stay (own_stay (lit0 w2).drew hb3) hb4) (((wds_of hO3 hs1).keep hb4).mono hb4.size) (wds_of hO4 hs2) (farA_own hO3 (by omega)) (farA_own hO4 (by omega))⟩

theorem atT2 (hs1 : ∀ x ∈ ws, x.length ≤ 12) (hs2 : ∀ x ∈ us, x.length ≤ 12) (G : Gv2R W w4 a n c t b k d u) (hres : W.heap.size + 1 + 1 < w2.heap.size) (hb3 : Below w2.drew.heap.size w2.drew w3) (hO3 : w3.ownsRow w2.drew.heap.size 9 1 (.slice a3 m1 c3) m1 (ws.map fun x => Value.string (bx x))) (hb4 : Below (w3.alloc (.cells #[] 9)).heap.size (w3.alloc (.cells #[] 9)) w4) (hO4 : w4.ownsRow (w3.alloc (.cells #[] 9)).heap.size 9 1 (.slice a4 m2 c4) m2 (us.map fun x => Value.string (bx x))) : AtT W w4 a n c t b k d u m1 ws m2 us (.slice (some ⟨w3.heap.size, 0, none⟩) 0 0) (.slice a3 m1 c3) (.slice a4 m2 c4) := by
  have hz : (w3.alloc (.cells #[] 9)).heap.size = w3.heap.size + 1 := by simp
  have hz2 : w2.drew.heap.size = w2.heap.size := rfl
  have h3 := hb3.size
  have h4 := hb4.size
  exact ⟨_, _, _, _, _, rfl, rfl, rfl, TL.mk1 (B1 := 0) G w3.heap.size (by omega) (own_stay (lit0 w3) hb4) ((((wds_of hO3 hs1).keep ((Below.refl _ _).alloc (Nat.le_refl _) _)).keep (hb4.mono (by omega))).mono (by omega)) (wds_of hO4 hs2) (farA_lt (wds_of hO3 hs1) (Nat.le_refl _)) (farA_own hO4 (by omega))⟩

theorem atT3 (hs1 : ∀ x ∈ ws, x.length ≤ 12) (hs2 : ∀ x ∈ us, x.length ≤ 12) (G : Gv2R W w4 a n c t b k d u) (hres : W.heap.size + 1 + 1 < w2.heap.size) (hb3 : Below w2.drew.heap.size w2.drew w3) (hO3 : w3.ownsRow w2.drew.heap.size 9 1 (.slice a3 m1 c3) m1 (ws.map fun x => Value.string (bx x))) (hb4 : Below w3.heap.size w3 w4) (hO4 : w4.ownsRow w3.heap.size 9 1 (.slice a4 m2 c4) m2 (us.map fun x => Value.string (bx x))) : AtT W (w4.alloc (.cells #[] 9)) a n c t b k d u m1 ws m2 us (.slice (some ⟨w4.heap.size, 0, none⟩) 0 0) (.slice a3 m1 c3) (.slice a4 m2 c4) := by
  have hz : (w4.alloc (.cells #[] 9)).heap.size = w4.heap.size + 1 := by simp
  have hz2 : w2.drew.heap.size = w2.heap.size := rfl
  have h3 := hb3.size
  have h4 := hb4.size
  have hba : Below w4.heap.size w4 (w4.alloc (.cells #[] 9)) := (Below.refl _ _).alloc (Nat.le_refl _) _
  exact ⟨_, _, _, _, _, rfl, rfl, rfl, TL.mk1 (B1 := 0) (G.on hba) w4.heap.size (by omega) (lit0 w4) (((((wds_of hO3 hs1).keep hb4).mono hb4.size).keep hba).mono hba.size) (((wds_of hO4 hs2).keep hba).mono hba.size) (farA_lt (wds_of hO3 hs1) h4) (farA_lt (wds_of hO4 hs2) (Nat.le_refl _))⟩
end

set_option maxRecDepth 1000000 in
set_option maxHeartbeats 4000000 in
theorem specTimesTrie_any (a : Option Addr) (n c : Nat) (t : List Nd) (b : Option Addr) (k d : Nat) (u : List Nd) (W : World) (hN : Nds W.heap.size W a n c t) (hM : Nds W.heap.size W b k d u) (hn : n ≤ 1048576) (hk : k ≤ 1048576) :
    Calls Try.prog 17 #[.agg #[.slice a n c], .agg #[.slice b k d]] W (ReadRes W (resT (trieB t && trieB u) (timesL t u)) (resK (trieB t && trieB u) (timesL t u))) := by
  have G1 := Lib.hid (Gv2R.start hN hM)
  have cT := Lib.hid (fun (W' : World) (G : Gv2R W W' a n c t b k d u) => l5Two_any W.heap.size a n c t b k d u W' G.size G.gv.nds G.gv.mds hn hk)
  have cA := Lib.hid (fun (W' : World) (G : Gv2R W W' a n c t b k d u) (ht : IsT t) => l2Words_ownW W.heap.size a n c t W' G.size G.gv.nds hn ht)
  have cB := Lib.hid (fun (W' : World) (G : Gv2R W W' a n c t b k d u) (ht : IsT u) => l2Words_ownW W.heap.size b k d u W' G.size G.gv.mds hk ht)
  have h40 := wordsOf_size t
  have h41 := wordsOf_size u
  obtain ⟨r, hr⟩ : ∃ r, (trieB t && trieB u) = r := ⟨_, rfl⟩
  have HR := Lib.hid hr
  rw [hr] at cT ⊢
  have HSh1 : Hid (∀ x ∈ wordsOf t, x.length ≤ 12) := Lib.hid (wordsOf_short t)
  have HSh2 : Hid (∀ x ∈ wordsOf u, x.length ≤ 12) := Lib.hid (wordsOf_short u)
  have HDef : Hid (prods (wordsOf t) (wordsOf u) = timesL t u) := Lib.hid rfl
  obtain ⟨ws, hws⟩ : ∃ ws, wordsOf t = ws := ⟨_, rfl⟩
  obtain ⟨us, hus⟩ : ∃ us, wordsOf u = us := ⟨_, rfl⟩
  obtain ⟨xs, hxs⟩ : ∃ xs, timesL t u = xs := ⟨_, rfl⟩
  rw [hws] at cA h40 HDef HSh1
  rw [hus] at cB h41 HDef HSh2
  rw [hxs] at HDef ⊢
  have HSh3 : Hid (∀ x ∈ xs, x.length ≤ 24) := Lib.hid (by rw [← HDef.out]; exact prods_short HSh1.out HSh2.out)
  obtain ⟨m1, hm1⟩ : ∃ m, ws.length = m := ⟨_, rfl⟩
  obtain ⟨m2, hm2⟩ : ∃ m, us.length = m := ⟨_, rfl⟩
  rw [hm1] at cA h40
  rw [hm2] at cB h41
  obtain ⟨tt, htt⟩ : ∃ tt, resT r xs = tt := ⟨_, rfl⟩
  obtain ⟨ok, hok⟩ : ∃ ok, resK r xs = ok := ⟨_, rfl⟩
  rw [htt, hok]
  have HTT := Lib.hid htt
  have HOK := Lib.hid hok
  have HL1 := Lib.hid hm1
  have HL2 := Lib.hid hm2
  clear hN hM hr hws hus hxs htt hok hm1 hm2
  obtain ⟨hbx, hby⟩ := G1.out.see
  obtain ⟨i0, hii, hz0, hz1, hz2⟩ := info_parts infoS
  go_enter Try.func17, Try.ntmps17
  go_wp2_with fail
  refine (cT.out _ G1.out).mono ?_
  rintro e w2 ⟨rfl, hb2⟩
  have G2 := Lib.hid (G1.out.on hb2)
  clear hbx hby hb2
  obtain ⟨hbx, hby⟩ := G2.out.see
  cases r with
  | false =>
    obtain rfl : tt = [] := HTT.out.symm
    obtain rfl : ok = false := HOK.out.symm
    have hrc := G2.out.res.cell
    have hrf := G2.out.res.frozen
    go_wp2_with fail
    exact bodyPost_ret (v := .tuple #[.agg #[.slice none 0 0], .bool false]) (by simp [results, Try.results17, go_sem, hrc]) rfl G2.out.readNo
  | true =>
    have HIt : Hid (IsT t ∧ IsT u) := Lib.hid (by
      have := HR.out
      rw [Bool.and_eq_true] at this
      exact ⟨trieB_iff.1 this.1, trieB_iff.1 this.2⟩)
    have cM : Hid (∀ (W' : World) (a5 : Option Addr) (c5 : Nat), Wds W'.heap.size W' a5 xs.length c5 xs → xs.length ≤ 1048576 → Calls Try.prog 42 #[.slice a5 xs.length c5] W' (ReadRes W' tt ok)) := Lib.hid (fun W' a5 c5 h5 hx => by
      rw [← HTT.out, ← HOK.out, (resT_yes xs).1, (resT_yes xs).2]
      exact l5Made_any W'.heap.size a5 _ c5 xs W' (Nat.le_refl _) h5 hx)
    have HGd : Hid (Gv2R W w2.drew a n c t b k d u) := Lib.hid (G2.out.on (Below.refl _ _).drew)
    have HGl : Hid (Gv2R W (w2.drew.alloc (.cells #[] 9)) a n c t b k d u) := Lib.hid (HGd.out.on ((Below.refl _ _).alloc (Nat.le_refl _) _))
    have HGl2 : Hid (Gv2R W (w2.alloc (.cells #[] 9)).drew a n c t b k d u) := Lib.hid (G2.out.on (((Below.refl _ _).alloc (Nat.le_refl _) _).drew))
    have hres : W.heap.size + 1 + 1 < w2.heap.size := G2.out.res.lt
    go_upto_region 3 with fail
    go_cut [6, 7, 8] (fun s6 s7 s8 wx => Hid (AtT W wx a n c t b k d u m1 ws m2 us s6 s7 s8))
    case first =>
      go_region_held3 (fun w' => w'.cell? ⟨W.heap.size, 0, none⟩ = some (.slice a n c) ∧ w'.cell? ⟨W.heap.size + 1, 0, none⟩ = some (.slice b k d))
        (first
          | with_reducible exact hG4.see
          | with_reducible exact hG3.see
          | with_reducible exact (hG4.on ((Below.refl _ _).alloc (Nat.le_refl _) _)).see
          | with_reducible exact (hG3.on ((Below.refl _ _).alloc (Nat.le_refl _) _)).see
          | with_reducible exact HGd.out.see
          | with_reducible exact HGl.out.see
          | with_reducible exact HGl2.out.see)
        (first
          | (have hg := hG3; clear hg; go_at_call 35; refine (cB.out _ (by first | with_reducible exact hG3 | with_reducible exact hG3.on ((Below.refl _ _).alloc (Nat.le_refl _) _)) HIt.out.2).mono ?_; rintro e w4 ⟨v4, rfl, hO4, hb4⟩; have hG4 : Gv2R W w4 a n c t b k d u := (by first | with_reducible exact hG3.on hb4 | with_reducible exact (hG3.on ((Below.refl _ _).alloc (Nat.le_refl _) _)).on hb4); obtain ⟨a4, c4, rfl⟩ := own_slice hO4)
          | (go_at_call 35; refine (cA.out _ (by first | with_reducible exact HGd.out | with_reducible exact HGl.out | with_reducible exact HGl2.out) HIt.out.1).mono ?_; rintro e w3 ⟨v3, rfl, hO3, hb3⟩; have hG3 : Gv2R W w3 a n c t b k d u := (by first | with_reducible exact HGd.out.on hb3 | with_reducible exact HGl.out.on hb3 | with_reducible exact HGl2.out.on hb3); obtain ⟨a3, c3, rfl⟩ := own_slice hO3))
      all_goals
        go_wp2
        go_meet
        first
          | exact Lib.hid (atT1 HSh1.out HSh2.out hG4 hres hb3 hO3 hb4 hO4)
          | exact Lib.hid (atT2 HSh1.out HSh2.out hG4 hres hb3 hO3 hb4 hO4)
          | exact Lib.hid (atT3 HSh1.out HSh2.out hG4 hres hb3 hO3 hb4 hO4)
    case rest =>
      obtain ⟨g6, a3, c3, a4, c4, rfl, rfl, rfl, R0⟩ := hcut.out
      rename World => w5
      have HR0 := Lib.hid R0
      have C1 := R0.r1.sl.cap
      have T1 := R0.r1.sl.top
      have C2 := R0.r2.sl.cap
      have T2 := R0.r2.sl.top
      clear R0 hcut HGd HGl HGl2 G2 hbx hby
      go_wp2_with fail
      go_loopw [6, 9, 10] (fun o p q wr => ∃ (i m : Nat) (v : Value) (rs : List Txt), i ≤ m1 ∧ v = o ∧ p = .int .i64 i ∧ (∃ z : Value, q = z) ∧ m ≤ 40 * i ∧ Hid (rs = prods (ws.take i) us) ∧ Hid (TL W wr a n c t b k d u v m rs a3 m1 c3 ws a4 m2 c4 us)) (fun _ p _ _ => m1 - (intOf p).toNat)
      case atStart => exact ⟨0, 0, _, [], Nat.zero_le _, rfl, rfl, ⟨_, rfl⟩, by omega, Lib.hid rfl, HR0⟩
      case round =>
        clear HR0
        obtain ⟨i, m, v, rs, hi, rfl, rfl, ⟨z, rfl⟩, hm, HRs, R⟩ := hrel
        by_cases hlt : i < m1
        · obtain ⟨x, hx⟩ : ∃ x, ws[i]? = some x := ⟨_, List.getElem?_eq_getElem (by rw [HL1.out]; exact hlt)⟩
          have HX := Lib.hid hx
          have HX12 := HSh1.out x (at_mem hx)
          have HRs0 : Hid (rs = prods (ws.take i) us ++ (us.take 0).map (fun z => x ++ z)) := Lib.hid (by rw [HRs.out]; simp)
          clear hx HRs
          go_wp2_with fail
          go_loopw [6, 10] (fun o q wr => ∃ (j m' : Nat) (v : Value) (rs : List Txt), j ≤ m2 ∧ v = o ∧ q = .int .i64 j ∧ m' ≤ 40 * i + j ∧ Hid (rs = prods (ws.take i) us ++ (us.take j).map (fun z => x ++ z)) ∧ Hid (TL W wr a n c t b k d u v m' rs a3 m1 c3 ws a4 m2 c4 us)) (fun _ q _ => m2 - (intOf q).toNat)
          case atStart => exact ⟨0, m, _, rs, Nat.zero_le _, rfl, rfl, by omega, HRs0, R⟩
          case round =>
            clear R HRs0
            obtain ⟨j, m', v, rs, hj, rfl, rfl, hm', HRs, R⟩ := hrel
            by_cases hlt2 : j < m2
            · obtain ⟨y, hy⟩ : ∃ y, us[j]? = some y := ⟨_, List.getElem?_eq_getElem (by rw [HL2.out]; exact hlt2)⟩
              have HY12 := HSh2.out y (at_mem hy)
              have HRs2 : Hid (rs ++ [x ++ y] = prods (ws.take i) us ++ (us.take (j + 1)).map (fun z => x ++ z)) := Lib.hid (by rw [HRs.out, row_succ hy, List.append_assoc])
              obtain ⟨b9, o9, e9, _, hcx⟩ := R.out.r1.sl.spot i (.string (bx x)) (by rw [List.map_map, List.getElem?_map, HX.out]; rfl)
              obtain ⟨b8, o8, e8, _, hcy⟩ := R.out.r2.sl.spot j (.string (bx y)) (by rw [List.map_map, List.getElem?_map, hy]; rfl)
              subst e9
              subst e8
              have hbw : W.heap.size + 1 + 1 + 1 ≤ wr.heap.size := R.out.G.res.lt
              have hi0 : (0 : Int) ≤ (i : Int) := by omega
              have hi1 : (i : Int) < (m1 : Int) := by omega
              have hj0 : (0 : Int) ≤ (j : Int) := by omega
              have hj1 : (j : Int) < (m2 : Int) := by omega
              obtain ⟨sx, hsx⟩ : ∃ sx, bx x = sx := ⟨_, rfl⟩
              obtain ⟨sy, hsy⟩ : ∃ sy, bx y = sy := ⟨_, rfl⟩
              rw [hsx] at hcx
              rw [hsy] at hcy
              have hl1 : sx.size ≤ 12 := by rw [← hsx, bx_size]; exact HX12
              have hl2 : sy.size ≤ 12 := by rw [← hsy, bx_size]; exact HY12
              have HXY : Hid (sx ++ sy = bx (x ++ y)) := Lib.hid (by rw [bx_cat, hsx, hsy])
              have hcat : sx.size + sy.size ≤ 4000 := by omega
              have hcat2 : ((sx.size : Int) + (sy.size : Int)) ≤ 4000 := by omega
              have hcat3 : ∀ W, (Op.stringOp .add sx sy).run Try.prog W = .ok (.string (sx ++ sy)) W := fun W => run_string_add_sum W sx sy (by omega)
              have hcat4 : ¬ (9223372036854775807 < sx.size + sy.size) := by omega
              have hmb : m' ≤ 1600 := by omega
              have HRd := Lib.hid R.out.drew
              clear hy hsx hsy
              go_wp2_with fail
              go_region_law
                (first
                  | (refine step_append_row (by rfl) _ _ 39 (by rfl) (W.heap.size + 1 + 1 + 1) 9 i0 (.string ByteArray.empty) 1 16 Try.underlying39 hii hz0 hz1 hz2 (by rfl) (by decide) v m' (rs.map fun x => Value.string (bx x)) (by rfl) (by first | with_reducible exact HRd.out.own.alloc _ | with_reducible exact R.out.own.alloc _ | with_reducible exact (R.out.own.alloc _).drew) ⟨_, 0, none⟩ 1 1 [.string (sx ++ sy)] (by rfl) (by rfl) (by exact cell_one_new _ _ _) (by simp [Value.oneCell']) (by unfold maxLen; omega) (by omega) (by simp; omega) ?_; intro v3 w3 hO3 hG3 hat3; have hT3 := HRd.out.app (x := x ++ y) (by rw [HXY.out] at hO3; exact hO3) hG3 hat3))
              all_goals
                have HT3 := Lib.hid hT3
                clear hO3 hG3 hat3 hT3
                go_wp2
                go_roundw
                case rel => exact ⟨j + 1, m' + 1, _, rs ++ [x ++ y], by omega, rfl, by go_num, by omega, HRs2, HT3⟩
                case measure => simp [intOf]; omega
            · have e : j = m2 := by omega
              have HRs3 : Hid (rs = prods (ws.take (i + 1)) us) := Lib.hid (by rw [prods_succ HX.out, HRs.out, List.take_of_length_le (l := us) (i := j) (by rw [HL2.out]; omega)])
              go_wp2
              go_roundw
              case rel => exact ⟨i + 1, m', _, rs, by omega, rfl, by go_num, ⟨_, rfl⟩, by omega, HRs3, R⟩
              case measure => simp [intOf]; omega
        · have HRs3 : Hid (rs = xs) := Lib.hid (by rw [HRs.out, List.take_of_length_le (by rw [HL1.out]; omega)]; exact HDef.out)
          have hml : m = xs.length := by have h9 := R.out.own.1; rw [HRs3.out] at h9; simpa using h9.symm
          have HR9 : Hid (TL W wr a n c t b k d u v xs.length xs a3 m1 c3 ws a4 m2 c4 us) := Lib.hid (by have h9 := R.out; rw [HRs3.out, hml] at h9; exact h9)
          have hxl : xs.length ≤ 1048576 := by omega
          obtain ⟨a5, c5, rfl⟩ := own_slice HR9.out.own
          have HW5 : Hid (Wds wr.heap.size wr a5 xs.length c5 xs) := Lib.hid (by
            obtain ⟨a', c', e, hW⟩ := own_wds HR9.out.own (fun x hx => by have := HSh3.out x hx; omega)
            cases e
            exact hW)
          clear hm R HRs HRs3 hml
          go_wp2_with fail
          refine (cM.out _ _ _ HW5.out hxl).mono ?_
          rintro e w6 ⟨a6, c6, rfl, hN6, hb6⟩
          have hG6 := HR9.out.G.on hb6
          have hrc := hG6.res.cell
          have hrf := hG6.res.frozen
          go_wp2
          exact bodyPost_ret (v := .tuple #[.agg #[.slice a6 tt.length c6], .bool ok]) (by simp [results, Try.results17, go_sem, hrc]) rfl (hG6.read hN6)

end Go.Proofs.Ytipkdoplgjgkpac
