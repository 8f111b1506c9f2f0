/-
  The first nearest word of a trie: the program, and both together.
-/
import Derived.Test.YtipkdoplgjgkpacNearestS
import Derived.Test.YtipkdoplgjgkpacNearS2
import Derived.Test.YtipkdoplgjgkpacPrefixAt
import Derived.RangeFuncBox
import Derived.RangeFuncNested
import Derived.Deep.RegionHeld3
namespace Go.Proofs.Ytipkdoplgjgkpac.cap
open Go.RowKit
set_option linter.unusedVariables false

/-- the nearest word so far and its distance, in two variables -/
def JN (P1 P2 : Nat) (st : Nat × Nat × Int) (W : World) : Prop := Boxed W P1 3 (.int .i64 (st.1 : Int)) ∧ Boxed W P2 3 (.int .i64 (st.2.1 : Int))
def EN (P1 P2 : Nat) (_ : World) (b : Nat) : Prop := b = P1 ∨ b = P2

theorem opsN {P1 P2 q4 : Nat} (h1 : P1 ≠ q4) (h2 : P2 ≠ q4) : Ops q4 (JN P1 P2) (EN P1 P2) where
  lt := by
    rintro st W b ⟨h, h'⟩ (rfl | rfl)
    · exact h.lt
    · exact h'.lt
  below := fun st W W' h hb => ⟨⟨box_stay h.1 hb, box_stay h.2 hb⟩, fun b hb => hb⟩
  far := fun st W v h => ⟨⟨h.1.other h1 _, h.2.other h2 _⟩, fun b hb => hb⟩

def updN (_ : Nat × Nat × Int) (i d : Nat) : Nat × Nat × Int := (i, d, (d : Int) - 1)

set_option maxRecDepth 1000000 in
set_option maxHeartbeats 2000000 in
theorem nearestClo_any (B0 P1 P2 q4 : Nat) (st : Nat × Nat × Int) (i d : Nat) (W : World) (hd : d ≤ 100) (h1 : P1 ≠ q4) (h2 : P2 ≠ q4) (h12 : P1 ≠ P2) (hP1 : B0 ≤ P1) (hP2 : B0 ≤ P2) (hJ : JN P1 P2 st W) :
    Calls Try.prog 59 #[.int .i64 (i : Int), .int .i64 (d : Int), .pointer (some ⟨P1, 0, none⟩), .pointer (some ⟨P2, 0, none⟩)] W fun e W' => e = .returned (.int .i64 ((d : Int) - 1)) ∧ JN P1 P2 (updN st i d) W' ∧ KX B0 q4 (EN P1 P2) W W' ∧ W'.heap[q4]? = W.heap[q4]? := by
  obtain ⟨hb1, hb2⟩ := hJ
  have hc1 := hb1.cell
  have hf1 := hb1.frozen
  have hc2 := hb2.cell
  have hf2 := hb2.frozen
  have HB : Hid (JN P1 P2 (updN st i d) ((W.setCell ⟨P1, 0, none⟩ (.int .i64 (i : Int))).setCell ⟨P2, 0, none⟩ (.int .i64 (d : Int)))) := Lib.hid ⟨(hb1.set _).other h12 _, (hb2.other h12.symm _).set _⟩
  have keep : ∀ b, b ≠ P1 → b ≠ P2 → ((W.setCell ⟨P1, 0, none⟩ (.int .i64 (i : Int))).setCell ⟨P2, 0, none⟩ (.int .i64 (d : Int))).heap[b]? = W.heap[b]? := fun b g1 g2 => by rw [Below.heap_setCell _ _ _ _ g2, Below.heap_setCell _ _ _ _ g1]
  have HK : Hid (KX B0 q4 (EN P1 P2) W ((W.setCell ⟨P1, 0, none⟩ (.int .i64 (i : Int))).setCell ⟨P2, 0, none⟩ (.int .i64 (d : Int)))) := Lib.hid ⟨((Below.refl B0 W).setCell (p := ⟨P1, 0, none⟩) hP1 _).setCell (p := ⟨P2, 0, none⟩) hP2 _, by rw [World.size_setCell, World.size_setCell]; exact Nat.le_refl _, fun b hb _ hE => keep b (fun e => hE (.inl e)) (fun e => hE (.inr e)), fun b h => .inl h⟩
  have HQ := Lib.hid (keep q4 h1.symm h2.symm)
  clear hb1 hb2 keep
  go_enter Try.func59, Try.ntmps59
  go_wp2
  go_ret
  exact ⟨rfl, HB.out, HK.out, HQ.out⟩

/-- what the search has told, and the reference's best word -/
def Agr (ps : List Txt) (st : Nat × Nat × Int) (p : Txt × Int) (k : Nat) : Prop := (st = (0, 0, 12) ∧ p = ([], -1)) ∨ (0 ≤ p.2 ∧ p.2 = (st.2.1 : Int) ∧ st.2.2 = (st.2.1 : Int) - 1 ∧ ps[st.1]? = some p.1 ∧ st.1 < k)

theorem near_best (t : List Nd) (ps : List Txt) (hl : ps.length = t.length) (hx : ∀ x ∈ ps, x.length ≤ 12) (s : Txt) (hs : s.length ≤ 12) : ∀ k, k ≤ t.length → Agr ps (vfold t (nearestWord.dst s ps) updN (fun st => st.2.2) (0, 0, 12) 0 k) (nst s (mid t ps 0 k)) k ∧ ((nst s (mid t ps 0 k)).2 < 0 ↔ mid t ps 0 k = [])
  | 0, _ => by
    rw [vfold_same, mid_same]
    exact ⟨.inl ⟨rfl, rfl⟩, by simp [nst]⟩
  | k + 1, h => by
    obtain ⟨x, hxk⟩ : ∃ x, ps[k]? = some x := ⟨_, List.getElem?_eq_getElem (by omega)⟩
    obtain ⟨ih, ih2⟩ := near_best t ps hl hx s hs k (by omega)
    have hx12 := hx x (at_mem hxk)
    have hd : nearestWord.dst s ps k = lev x s x.length s.length := by
      unfold nearestWord.dst
      rw [preA_at hxk, lev_swap s]
    have hd12 : lev x s x.length s.length ≤ 12 := by have := lev_max x s x.length s.length; omega
    rw [← vfold_app t _ _ _ (0, 0, 12) (Nat.zero_le k) (Nat.le_succ k), vfold_one, mid_succ (Nat.zero_le k) hxk]
    obtain ⟨st, hst⟩ : ∃ st, vfold t (nearestWord.dst s ps) updN (fun st => st.2.2) (0, 0, 12) 0 k = st := ⟨_, rfl⟩
    obtain ⟨p, hp⟩ : ∃ p, nst s (mid t ps 0 k) = p := ⟨_, rfl⟩
    rw [hst, hp] at ih
    rw [hp] at ih2
    rw [hst]
    unfold vis
    rw [hd]
    by_cases he : (ndA t k).e = true
    · rw [if_pos he]
      have hn : nst s (mid t ps 0 k ++ [x]) = nstep s p x := by rw [← hp]; unfold nst; rw [List.foldl_append]; rfl
      rw [hn]
      unfold nstep
      obtain ⟨d, hdd⟩ : ∃ d, lev x s x.length s.length = d := ⟨_, rfl⟩
      rw [hdd] at hd12 ⊢
      rcases ih with ⟨h1, h2⟩ | ⟨h0, h1, h2, h3, h4⟩
      · rw [h1, h2, if_pos ⟨he, by show (d : Int) ≤ 12; omega⟩, if_pos (.inl (by show (-1 : Int) < 0; omega))]
        exact ⟨.inr ⟨by show (0 : Int) ≤ (d : Int); omega, rfl, rfl, hxk, by show k < k + 1; omega⟩, by first | (simp; done) | (simp; omega)⟩
      · by_cases hlt : (d : Int) < p.2
        · rw [if_pos ⟨he, by show (d : Int) ≤ st.2.2; omega⟩, if_pos (.inr hlt)]
          exact ⟨.inr ⟨by show (0 : Int) ≤ (d : Int); omega, rfl, rfl, hxk, by show k < k + 1; omega⟩, by first | (simp; done) | (simp; omega)⟩
        · rw [if_neg (fun h => by have : (d : Int) ≤ st.2.2 := h.2; omega), if_neg (fun h => h.elim (fun h => by omega) hlt)]
          exact ⟨.inr ⟨h0, h1, h2, h3, by omega⟩, by simp; omega⟩
    · rw [if_neg he, if_neg (fun h => he h.1), List.append_nil, hp]
      refine ⟨?_, ih2⟩
      rcases ih with h | ⟨h0, h1, h2, h3, h4⟩
      · exact .inl h
      · exact .inr ⟨h0, h1, h2, h3, by omega⟩

set_option maxRecDepth 1000000 in
set_option maxHeartbeats 4000000 in
theorem implNst (t : List Nd) (n c : Nat) (s : ByteArray) (hs : s.size ≤ 1048576) (v : ByteArray) (v2 : Int) (ok : Bool) (hno : (trieB t && okW s) = false → v = ByteArray.empty ∧ v2 = 0 ∧ ok = false) (hy : (trieB t && okW s) = true → v = bx (nst s.data.toList (wordsOf t)).1 ∧ v2 = (if (nst s.data.toList (wordsOf t)).2 < 0 then 0 else (nst s.data.toList (wordsOf t)).2) ∧ ok = decide (0 ≤ (nst s.data.toList (wordsOf t)).2)) (W : World) (a : Option Addr) (hN : Nds W.heap.size W a n c t) :
    Calls Try.prog 27 #[.agg #[.slice a n c], .string s] W fun e w' => e = .returned (.tuple #[.string v, .int .i64 v2, .bool ok]) ∧ Below W.heap.size W w' := by
  have G1 := Lib.hid (Gv.start hN)
  have cT := Lib.hid (fun (w : World) (G : Gv W w a n c t) => isTrie_any W.heap.size a n c t w G.bel.size G.nds)
  have cP := Lib.hid (fun w => implIsWord_any s w (by omega))
  have HY := Lib.hid hy
  have HNo := Lib.hid hno
  obtain ⟨q1, hq1⟩ : ∃ q1, trieB t = q1 := ⟨_, rfl⟩
  obtain ⟨q2, hq2⟩ : ∃ q2, okW s = q2 := ⟨_, rfl⟩
  have HQ1 := Lib.hid hq1
  have HQ2 := Lib.hid hq2
  rw [hq1] at cT HY HNo
  rw [hq2] at cP HY HNo
  clear hN hq1 hq2 hy hno
  have hbx := G1.out.box
  cases q1 with
  | false =>
    obtain ⟨rfl, rfl, rfl⟩ := HNo.out rfl
    go_enter Try.func27, Try.ntmps27
    go_wp2_with fail
    refine (cT.out _ G1.out).mono ?_
    rintro e w2 ⟨rfl, hb2⟩
    have G2 := Lib.hid (G1.out.on hb2)
    clear hb2 hbx
    go_wp2_with fail
    exact bodyPost_ret (v := .tuple #[.string ByteArray.empty, .int .i64 0, .bool false]) (by simp [results, Try.results27, go_sem]; rfl) rfl ⟨rfl, G2.out.bel⟩
  | true =>
    obtain ⟨ps, hv⟩ := trieB_iff.1 HQ1.out
    have HV := Lib.hid hv
    clear hv
    cases q2 with
    | false =>
      obtain ⟨rfl, rfl, rfl⟩ := HNo.out rfl
      go_enter Try.func27, Try.ntmps27
      go_wp2_with fail
      refine (cT.out _ G1.out).mono ?_
      rintro e w2 ⟨rfl, hb2⟩
      have G2 := Lib.hid (G1.out.on hb2)
      clear hb2 hbx
      go_wp2_with fail
      refine (cP.out _).mono ?_
      rintro e w3 ⟨rfl, hb3⟩
      have G3 := Lib.hid (G2.out.on hb3)
      clear hb3
      go_wp2_with fail
      exact bodyPost_ret (v := .tuple #[.string ByteArray.empty, .int .i64 0, .bool false]) (by simp [results, Try.results27, go_sem]; rfl) rfl ⟨rfl, G3.out.bel⟩
    | true =>
      have HYY := Lib.hid (HY.out rfl)
      have hs12 := okW_size HQ2.out
      have hlow : ∀ k (h : k < s.size), (s[k]'h).toNat < 128 := fun k h => by have := okW_low_at HQ2.out h; omega
      have HLow := Lib.hid hlow
      have hsl : s.data.toList.length = s.size := by simp
      have HBest := Lib.hid (near_best t ps HV.out.lenEq HV.out.short s.data.toList (by omega) t.length (Nat.le_refl _))
      rw [mid_all HV.out, ← wordsOf_eq HV.out] at HBest
      have HE0 : Hid (ends t = 0 ↔ wordsOf t = []) := Lib.hid (by rw [wordsOf_eq HV.out, ← HV.out.wordsLen, List.length_eq_zero_iff])
      have cE := Lib.hid (fun (w : World) (G : Gv W w a n c t) => countEnds_any W.heap.size a n c t w G.bel.size G.nds (by have := HV.out.size; have := G.nds.len; omega))
      obtain ⟨ee, hee⟩ : ∃ ee, ends t = ee := ⟨_, rfl⟩
      rw [hee] at cE HE0
      have hee40 : ee ≤ 40 := by rw [← hee]; exact HV.out.few
      clear HY HNo hlow hsl hee
      go_enter Try.func27, Try.ntmps27
      go_wp2_with fail
      refine (cT.out _ G1.out).mono ?_
      rintro e w2 ⟨rfl, hb2⟩
      have G2 := Lib.hid (G1.out.on hb2)
      clear hb2 hbx
      go_wp2_with fail
      refine (cP.out _).mono ?_
      rintro e w3 ⟨rfl, hb3⟩
      have G3 := Lib.hid (G2.out.on hb3)
      have hbx3 := G3.out.box
      clear hb3
      go_wp2_with fail
      refine (cE.out _ G3.out).mono ?_
      rintro e w4 ⟨rfl, hb4⟩
      have G4 := Lib.hid (G3.out.on hb4)
      clear hb4 hbx3
      by_cases h0 : ee = 0
      · have hq0 : ((ee : Int) == 0) = true := by simp; omega
        have hR : v = ByteArray.empty ∧ v2 = 0 ∧ ok = false := by
          have h1 := HE0.out.1 h0
          have h2 := HYY.out
          rw [h1] at h2
          have h3 : v = ⟨#[]⟩ ∧ v2 = 0 ∧ ok = false := by simpa [nst, bx] using h2
          exact h3
        obtain ⟨rfl, rfl, rfl⟩ := hR
        go_wp2_with fail
        exact bodyPost_ret (v := .tuple #[.string ByteArray.empty, .int .i64 0, .bool false]) (by simp [results, Try.results27, go_sem]; rfl) rfl ⟨rfl, G4.out.bel⟩
      · have hq0 : ((ee : Int) == 0) = false := by simp; omega
        have hAgr : ∃ st, vfold t (nearestWord.dst s.data.toList ps) updN (fun st => st.2.2) (0, 0, 12) 0 t.length = st ∧ v = bx (preA ps st.1) ∧ v2 = (st.2.1 : Int) ∧ ok = true ∧ st.1 < t.length ∧ ps[st.1]? = some (preA ps st.1) := by
          obtain ⟨h1, h2⟩ := HBest.out
          have h3 : ¬ (nst s.data.toList (wordsOf t)).2 < 0 := fun h => h0 (HE0.out.2 (h2.1 h))
          obtain ⟨e1, e2, e3⟩ := HYY.out
          refine ⟨_, rfl, ?_⟩
          rcases h1 with ⟨_, h⟩ | ⟨g0, g1, g2, g3, g4⟩
          · rw [h] at h3; exact absurd (by show (-1 : Int) < 0; omega) h3
          · rw [preA_at g3]
            exact ⟨e1, by rw [e2, if_neg h3, g1], by rw [e3, decide_eq_true g0], g4, g3⟩
        obtain ⟨st, hst, hR1, hR2, hR3, hil, hpi⟩ := hAgr
        have HSt := Lib.hid hst
        obtain rfl := hR3
        have hx12 := HV.out.short _ (at_mem hpi)
        obtain ⟨x, hx⟩ : ∃ x, preA ps st.1 = x := ⟨_, rfl⟩
        rw [hx] at hR1 hpi hx12
        obtain ⟨i9, hi9⟩ : ∃ i, st.1 = i := ⟨_, rfl⟩
        obtain ⟨d9, hd9⟩ : ∃ d, st.2.1 = d := ⟨_, rfl⟩
        rw [hi9] at hil hpi
        rw [hd9] at hR2
        obtain rfl := hR1
        obtain rfl := hR2
        have HPi := Lib.hid hpi
        have HI9 := Lib.hid hi9
        have HD9 := Lib.hid hd9
        have hb6 := (Boxed.new w4 3 (.int .i64 0)).alloc (.cells #[.int .i64 0] 3)
        have hb7 := Boxed.new (w4.alloc (.cells #[.int .i64 0] 3)) 3 (.int .i64 0)
        rw [World.size_alloc] at hb7
        have G5 := G4.out.on (((Below.refl _ w4).alloc (Nat.le_refl _) (.cells #[.int .i64 0] 3)).alloc (by simp) (.cells #[.int .i64 0] 3))
        have hsz5 : ((w4.alloc (.cells #[.int .i64 0] 3)).alloc (.cells #[.int .i64 0] 3)).heap.size = w4.heap.size + 2 := by simp
        have hW4s : W.heap.size < w4.heap.size := G4.out.lt
        have hbx5 := G5.box
        have HG5 := Lib.hid G5
        have HB5 := Lib.hid (And.intro hb6 hb7)
        clear hst hx hi9 hd9 hpi G5 hb6 hb7
        go_wp2_with fail
        clear hbx5
        obtain ⟨w5, hw5⟩ : ∃ w5, (w4.alloc (.cells #[.int .i64 0] 3)).alloc (.cells #[.int .i64 0] 3) = w5 := ⟨_, rfl⟩
        rw [hw5] at HG5 HB5 hsz5 ⊢
        clear hw5
        have cS := nearestWord.searchNear_any t ps HV.out s hs12 HLow.out updN (fun st => st.2.2) (JN w4.heap.size (w4.heap.size + 1)) (EN w4.heap.size (w4.heap.size + 1)) W.heap.size (.pointer (some ⟨w4.heap.size, 0, none⟩)) (.pointer (some ⟨w4.heap.size + 1, 0, none⟩)) a n c w5 HG5.out.bel.size HG5.out.nds (opsN (by omega) (by omega)) (fun _ _ => True) (fun _ _ _ _ => trivial) (fun _ _ _ _ _ => trivial)
          (fun st i d x W' _ hJ hSB hx he hd hdz hde => nearestClo_any W.heap.size w4.heap.size (w4.heap.size + 1) (w5.heap.size + 1 + 1) st i d W' hd (by omega) (by omega) (by omega) (by omega) (by omega) hJ)
          (0, 0, 12) ⟨HB5.out.1, HB5.out.2⟩ trivial 12 rfl
        rw [HSt.out] at cS
        have CS := Lib.hid cS
        have HSz5 := Lib.hid hsz5
        clear cS hsz5
        refine CS.out.mono ?_
        rintro e w6 ⟨rfl, ⟨hb1, hb2⟩, hK6⟩
        rw [HI9.out] at hb1
        rw [HD9.out] at hb2
        have hc1 := hb1.cell
        have hc2 := hb2.cell
        have hbx6 : w6.cell? ⟨W.heap.size, 0, none⟩ = some (.slice a n c) := (World.cell?_of_block (a := ⟨W.heap.size, 0, none⟩) (hK6.same W.heap.size (by have := HSz5.out; omega) (by have := HSz5.out; omega) (fun e => by rcases e with e | e <;> omega))).trans HG5.out.box
        have HN6 := Lib.hid (HG5.out.nds.keep hK6.bel)
        have HB6 := Lib.hid (HG5.out.bel.trans hK6.bel)
        have hs6 : W.heap.size ≤ w6.heap.size := HB6.out.size
        have cX := Lib.hid (prefixAt_any W.heap.size a n c i9 t.length t ps x w6.drew hs6 (HN6.out.keep (Below.refl _ _).drew) HV.out.tells HPi.out hx12)
        have HS6 : Hid (w6.drew.cell? ⟨W.heap.size, 0, none⟩ = some (.slice a n c) ∧ w6.drew.cell? ⟨w4.heap.size, 0, none⟩ = some (.int .i64 (i9 : Int)) ∧ w6.drew.cell? ⟨w4.heap.size + 1, 0, none⟩ = some (.int .i64 (d9 : Int))) := Lib.hid ⟨hbx6, hc1, hc2⟩
        have HLt := Lib.hid (And.intro hb1.lt hb2.lt)
        clear hb1 hb2 hK6
        go_wp2_with fail
        go_region_held3 (fun w' => w'.cell? ⟨W.heap.size, 0, none⟩ = some (.slice a n c) ∧ w'.cell? ⟨w4.heap.size, 0, none⟩ = some (.int .i64 (i9 : Int)) ∧ w'.cell? ⟨w4.heap.size + 1, 0, none⟩ = some (.int .i64 (d9 : Int)))
          (first
            | with_reducible exact HS6.out
            | with_reducible exact hS7)
          (first
            | (go_at_call 53; refine cX.out.mono ?_; rintro e w7 ⟨rfl, hb7⟩; have hS7 : w7.cell? ⟨W.heap.size, 0, none⟩ = some (.slice a n c) ∧ w7.cell? ⟨w4.heap.size, 0, none⟩ = some (.int .i64 (i9 : Int)) ∧ w7.cell? ⟨w4.heap.size + 1, 0, none⟩ = some (.int .i64 (d9 : Int)) := ⟨(hb7.cell (p := ⟨W.heap.size, 0, none⟩) (World.block_lt_of_cell? _ _ HS6.out.1)).trans HS6.out.1, (hb7.cell (p := ⟨w4.heap.size, 0, none⟩) HLt.out.1).trans HS6.out.2.1, (hb7.cell (p := ⟨w4.heap.size + 1, 0, none⟩) HLt.out.2).trans HS6.out.2.2⟩))
        have HB7 : Hid (Below W.heap.size W w7) := Lib.hid (HB6.out.trans ((Below.refl _ _).drew.trans (hb7.mono hs6)))
        go_wp2
        exact bodyPost_ret (v := .tuple #[.string (bx x), .int .i64 (d9 : Int), .bool true]) (by simp [results, Try.results27, go_sem]) rfl ⟨rfl, HB7.out⟩

theorem agreeNearestWord (t : List Nd) (s : ByteArray) {n : Nat} (hn : n ≤ 1048576) (hs : s.size ≤ 1048576) : ∃ (v : ByteArray) (v2 : Int) (ok : Bool),
    (∀ (W : World) (a : Option Addr), Nds W.heap.size W a n n t → Calls Try.prog 26 #[.agg #[.slice a n n], .string s] W fun e w' => e = .returned (.tuple #[.string v, .int .i64 v2, .bool ok]) ∧ Below W.heap.size W w') ∧
    (∀ (W : World) (a : Option Addr), Nds W.heap.size W a n n t → Calls Try.prog 27 #[.agg #[.slice a n n], .string s] W fun e w' => e = .returned (.tuple #[.string v, .int .i64 v2, .bool ok]) ∧ Below W.heap.size W w') := by
  have key : ∃ (v : ByteArray) (v2 : Int) (ok : Bool), ((trieB t && okW s) = false → v = ByteArray.empty ∧ v2 = 0 ∧ ok = false) ∧ ((trieB t && okW s) = true → v = bx (nst s.data.toList (wordsOf t)).1 ∧ v2 = (if (nst s.data.toList (wordsOf t)).2 < 0 then 0 else (nst s.data.toList (wordsOf t)).2) ∧ ok = decide (0 ≤ (nst s.data.toList (wordsOf t)).2)) := by
    cases (trieB t && okW s) with
    | false => exact ⟨_, _, _, fun _ => ⟨rfl, rfl, rfl⟩, fun h => by cases h⟩
    | true => exact ⟨_, _, _, (fun h => by cases h), fun _ => ⟨rfl, rfl, rfl⟩⟩
  obtain ⟨v, v2, ok, h1, h2⟩ := key
  exact ⟨v, v2, ok, fun W a hN => specNst t n n s hn hs v v2 ok h1 h2 W a hN, fun W a hN => implNst t n n s hs v v2 ok h1 h2 W a hN⟩

end Go.Proofs.Ytipkdoplgjgkpac.cap
