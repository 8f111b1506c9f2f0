/-
  The first nearest word of a trie: the reference.
-/
import Derived.Test.YtipkdoplgjgkpacFarG
import Derived.Test.YtipkdoplgjgkpacDistS
import Derived.Test.YtipkdoplgjgkpacOW
import Derived.Test.YtipkdoplgjgkpacWordsN
namespace Go.Proofs.Ytipkdoplgjgkpac.cap
open Go.RowKit
set_option linter.unusedVariables false

/-- the best word so far, and its distance; -1 for none -/
def nstep (s : Txt) (p : Txt × Int) (x : Txt) : Txt × Int := if p.2 < 0 ∨ ((lev x s x.length s.length : Nat) : Int) < p.2 then (x, ((lev x s x.length s.length : Nat) : Int)) else p
def nst (s : Txt) (ws : List Txt) : Txt × Int := ws.foldl (nstep s) ([], -1)
theorem nst_succ {s : Txt} {ws : List Txt} {k : Nat} {x : Txt} (h : ws[k]? = some x) : nst s (ws.take (k + 1)) = nstep s (nst s (ws.take k)) x := by
  unfold nst
  rw [List.take_add_one, h, List.foldl_append]
  rfl
theorem lev_max (x y : Txt) : ∀ i k : Nat, lev x y i k ≤ max i k
  | 0, k => by rw [lev_o]; omega
  | i + 1, 0 => by rw [lev_z]; omega
  | i + 1, k + 1 => by
    rw [lev_ss]
    have h1 := lev_max x y i k
    have h2 := mism_le x y i k
    omega
theorem nst_bd (s : Txt) (hs : s.length ≤ 12) : ∀ (ws : List Txt), (∀ x ∈ ws, x.length ≤ 12) → ∀ p : Txt × Int, -1 ≤ p.2 ∧ p.2 ≤ 12 ∧ p.1.length ≤ 12 → -1 ≤ (ws.foldl (nstep s) p).2 ∧ (ws.foldl (nstep s) p).2 ≤ 12 ∧ (ws.foldl (nstep s) p).1.length ≤ 12
  | [], _, p, hp => hp
  | x :: ws, h, p, hp => by
    rw [List.foldl_cons]
    refine nst_bd s hs ws (fun y hy => h y (by simp [hy])) _ ?_
    have hx := h x (by simp)
    have hl := lev_max x s x.length s.length
    unfold nstep
    split
    · exact ⟨by simp only; omega, by simp only; omega, hx⟩
    · exact hp

theorem most0_any (x : Int) (w : World) : Calls Try.prog 57 #[.int .i64 x, .int .i64 0] w fun e w' => e = .returned (.int .i64 (if x < 0 then 0 else x)) ∧ w = w' := by
  by_cases h : 0 < x
  · have h0 : (if x < 0 then (0 : Int) else x) = x := if_neg (by omega)
    rw [h0]
    clear h0
    go_enter Try.func57, Try.ntmps57
    go_wp2
    go_ret
    exact ⟨rfl, rfl⟩
  · have h0 : (if x < 0 then (0 : Int) else x) = 0 := by split <;> omega
    rw [h0]
    clear h0
    go_enter Try.func57, Try.ntmps57
    go_wp2
    go_ret
    exact ⟨rfl, rfl⟩

theorem ret_sib {s s' : ByteArray} {i i' : Int} {b b' : Bool} (h1 : s = s') (h2 : i = i') (h3 : b = b') : Ending.returned (.tuple #[.string s, .int .i64 i, .bool b]) = .returned (.tuple #[.string s', .int .i64 i', .bool b']) := by rw [h1, h2, h3]

set_option maxRecDepth 1000000 in
set_option maxHeartbeats 4000000 in
theorem specNst (t : List Nd) (n c : Nat) (s : ByteArray) (hn : n ≤ 1048576) (hs : s.size ≤ 1048576) (v : ByteArray) (v2 : Int) (ok : Bool) (hno : (trieB t && okW s) = false → v = ByteArray.empty ∧ v2 = 0 ∧ ok = false) (hy : (trieB t && okW s) = true → v = bx (nst s.data.toList (wordsOf t)).1 ∧ v2 = (if (nst s.data.toList (wordsOf t)).2 < 0 then 0 else (nst s.data.toList (wordsOf t)).2) ∧ ok = decide (0 ≤ (nst s.data.toList (wordsOf t)).2)) (W : World) (a : Option Addr) (hN : Nds W.heap.size W a n c t) :
    Calls Try.prog 26 #[.agg #[.slice a n c], .string s] W fun e w' => e = .returned (.tuple #[.string v, .int .i64 v2, .bool ok]) ∧ Below W.heap.size W w' := by
  have G1 := Lib.hid (Gv.start hN)
  have cT := Lib.hid (fun (w : World) (G : Gv W w a n c t) => l2Trie_any W.heap.size a n c t w G.bel.size G.nds hn)
  have cW := Lib.hid (fun w => l2Word_any s w (by omega))
  have HY := Lib.hid hy
  have HNo := Lib.hid hno
  obtain ⟨q1, hq1⟩ : ∃ q1, trieB t = q1 := ⟨_, rfl⟩
  obtain ⟨q2, hq2⟩ : ∃ q2, okW s = q2 := ⟨_, rfl⟩
  have HQ1 := Lib.hid hq1
  have HQ2 := Lib.hid hq2
  rw [hq1] at cT HY HNo
  rw [hq2] at cW HY HNo
  clear hN hq1 hq2 hy hno
  have hbx := G1.out.box
  cases q1 with
  | false =>
    obtain ⟨rfl, rfl, rfl⟩ := HNo.out rfl
    go_enter Try.func26, Try.ntmps26
    go_wp2_with fail
    refine (cT.out _ G1.out).mono ?_
    rintro e w2 ⟨rfl, hb2⟩
    have G2 := Lib.hid (G1.out.on hb2)
    clear hb2 hbx
    go_wp2_with fail
    exact bodyPost_ret (v := .tuple #[.string ByteArray.empty, .int .i64 0, .bool false]) (by simp [results, Try.results26, go_sem]; rfl) rfl ⟨rfl, G2.out.bel⟩
  | true =>
    cases q2 with
    | false =>
      obtain ⟨rfl, rfl, rfl⟩ := HNo.out rfl
      go_enter Try.func26, Try.ntmps26
      go_wp2_with fail
      refine (cT.out _ G1.out).mono ?_
      rintro e w2 ⟨rfl, hb2⟩
      have G2 := Lib.hid (G1.out.on hb2)
      clear hb2 hbx
      go_wp2_with fail
      refine (cW.out _).mono ?_
      rintro e w3 ⟨rfl, rfl⟩
      go_wp2_with fail
      exact bodyPost_ret (v := .tuple #[.string ByteArray.empty, .int .i64 0, .bool false]) (by simp [results, Try.results26, go_sem]; rfl) rfl ⟨rfl, G2.out.bel⟩
    | true =>
      have HYY := Lib.hid (HY.out rfl)
      have hs12 := okW_size HQ2.out
      have cL := Lib.hid (fun (w : World) (G : Gv W w a n c t) => specWords_own W.heap.size a n c t w G.bel.size G.nds hn (trieB_iff.1 HQ1.out))
      have hm40 := wordsOf_size t
      have HSh := Lib.hid (wordsOf_short t)
      clear HY HNo
      obtain ⟨ws, hws⟩ : ∃ ws, wordsOf t = ws := ⟨_, rfl⟩
      rw [hws] at cL hm40 HSh HYY
      clear hws
      obtain ⟨mA, hmA⟩ : ∃ mA, ws.length = mA := ⟨_, rfl⟩
      rw [hmA] at cL hm40
      have HMA := Lib.hid hmA
      have hsl : s.data.toList.length = s.size := by simp
      have HBd : Hid (∀ k, -1 ≤ (nst s.data.toList (ws.take k)).2 ∧ (nst s.data.toList (ws.take k)).2 ≤ 12 ∧ (nst s.data.toList (ws.take k)).1.length ≤ 12) := Lib.hid (fun k => nst_bd _ (by omega) _ (fun x hx => HSh.out x (List.mem_of_mem_take hx)) _ ⟨by simp, by simp, by simp⟩)
      have HSl := Lib.hid hsl
      clear hmA hsl
      go_enter Try.func26, Try.ntmps26
      go_wp2_with fail
      refine (cT.out _ G1.out).mono ?_
      rintro e w2 ⟨rfl, hb2⟩
      have G2 := Lib.hid (G1.out.on hb2)
      have hbx2 := G2.out.box
      clear hb2 hbx
      go_wp2_with fail
      refine (cW.out _).mono ?_
      rintro e w3 ⟨rfl, rfl⟩
      go_wp2_with fail
      refine (cL.out _ G2.out).mono ?_
      rintro e w3 ⟨a3, c3, rfl, hW3, hb3⟩
      have G3 := Lib.hid (G2.out.on hb3)
      have HW3 := Lib.hid (Sl.of_own hW3)
      have CA := HW3.out.cap
      have TA := HW3.out.top
      clear hb3 hbx2 hW3
      go_wp2_with fail
      go_loopw [7, 8, 10, 11] (fun o l i f wr => ∃ (k : Nat) (bs : ByteArray) (z : Int), k ≤ mA ∧ o = .string bs ∧ l = .int .i64 z ∧ i = .int .i64 k ∧ (∃ u : Value, f = u) ∧ -1 ≤ z ∧ z ≤ 12 ∧ Hid (bs = bx (nst s.data.toList (ws.take k)).1) ∧ Hid (z = (nst s.data.toList (ws.take k)).2) ∧ Hid (Sl wr.heap.size wr a3 mA c3 (ws.map (fun x => Value.string (bx x)))) ∧ Hid (Gv W wr a n c t)) (fun _ _ i _ _ => mA - (intOf i).toNat)
      case atStart => exact ⟨0, ByteArray.empty, -1, Nat.zero_le _, rfl, rfl, rfl, ⟨_, rfl⟩, by omega, by omega, Lib.hid rfl, Lib.hid rfl, HW3, G3⟩
      case round =>
        clear HW3 G3
        obtain ⟨k, bs, z, hk, rfl, rfl, rfl, ⟨u, rfl⟩, hz1, hz2, HBs, HZ, HW, G⟩ := hrel
        by_cases hlt : k < mA
        · obtain ⟨x, hx⟩ : ∃ x, ws[k]? = some x := ⟨_, List.getElem?_eq_getElem (by rw [HMA.out]; exact hlt)⟩
          have hx12 := HSh.out x (at_mem hx)
          obtain ⟨b9, o9, e9, hb9, hcx⟩ := HW.out.spot k (.string (bx x)) (by rw [List.getElem?_map, hx]; rfl)
          subst e9
          have hi0 : (0 : Int) ≤ (k : Int) := by omega
          have hi1 : (k : Int) < (mA : Int) := by omega
          have cF0 := fun w => l6Distance_any (bx x) s w (by rw [bx_size]; exact hx12) hs12
          obtain ⟨d, hd⟩ : ∃ d, lev (bx x).data.toList s.data.toList (bx x).size s.size = d := ⟨_, rfl⟩
          have hd12 : d ≤ 12 := by rw [← hd, bx_size]; have := lev_max (bx x).data.toList s.data.toList x.length s.size; omega
          have HStep : Hid (nst s.data.toList (ws.take (k + 1)) = if z < 0 ∨ (d : Int) < z then (x, (d : Int)) else nst s.data.toList (ws.take k)) := Lib.hid (by
            rw [nst_succ hx, HZ.out, ← hd]
            unfold nstep
            rw [HSl.out, bx_size]
            rfl)
          obtain ⟨sx, hsx⟩ : ∃ sx, bx x = sx := ⟨_, rfl⟩
          have HSX := Lib.hid hsx
          simp only [hd] at cF0
          rw [hsx] at cF0 hcx
          have cF := Lib.hid cF0
          have hcx0 := hcx
          have hbd := HBd.out (k + 1)
          clear hx hsx hd cF0
          go_wp2_with fail
          refine (cF.out _).mono ?_
          rintro e w4 ⟨rfl, hb4⟩
          have HW4 := Lib.hid ((HW.out.keep hb4).mono hb4.size)
          have G4 := Lib.hid (G.out.on hb4)
          have hcx4 := (hb4.cell (p := ⟨b9, o9 + k, none⟩) hb9).trans hcx0
          clear hb4 hcx hcx0 HW G
          by_cases hz : z < 0
          · have HN1 : Hid (nst s.data.toList (ws.take (k + 1)) = (x, (d : Int))) := Lib.hid (by rw [HStep.out, if_pos (.inl hz)])
            go_wp2_with fail
            go_roundw
            case rel => exact ⟨k + 1, sx, d, by omega, rfl, rfl, by go_num, ⟨_, rfl⟩, by omega, by omega, Lib.hid (by rw [HN1.out, HSX.out]), Lib.hid (by rw [HN1.out]), HW4, G4⟩
            case measure => simp [intOf]; omega
          · by_cases hdz : (d : Int) < z
            · have HN1 : Hid (nst s.data.toList (ws.take (k + 1)) = (x, (d : Int))) := Lib.hid (by rw [HStep.out, if_pos (.inr hdz)])
              go_wp2_with fail
              go_roundw
              case rel => exact ⟨k + 1, sx, d, by omega, rfl, rfl, by go_num, ⟨_, rfl⟩, by omega, by omega, Lib.hid (by rw [HN1.out, HSX.out]), Lib.hid (by rw [HN1.out]), HW4, G4⟩
              case measure => simp [intOf]; omega
            · have HN1 : Hid (nst s.data.toList (ws.take (k + 1)) = nst s.data.toList (ws.take k)) := Lib.hid (by rw [HStep.out, if_neg (fun h => h.elim hz hdz)])
              go_wp2_with fail
              go_roundw
              case rel => exact ⟨k + 1, bs, z, by omega, rfl, rfl, by go_num, ⟨_, rfl⟩, by omega, by omega, Lib.hid (by rw [HN1.out]; exact HBs.out), Lib.hid (by rw [HN1.out]; exact HZ.out), HW4, G4⟩
              case measure => simp [intOf]; omega
        · have e : ws.take k = ws := List.take_of_length_le (by rw [HMA.out]; omega)
          have HR : Hid (v = bs ∧ v2 = (if z < 0 then 0 else z) ∧ ok = decide (0 ≤ z)) := Lib.hid (by
            have h1 := HBs.out
            have h2 := HZ.out
            rw [e] at h1 h2
            rw [h1, h2]
            exact HYY.out)
          obtain ⟨rfl, rfl, rfl⟩ := HR.out
          clear e HR
          have cM := Lib.hid (most0_any z)
          go_wp2_with fail
          refine (cM.out _).mono ?_
          rintro e w4 ⟨rfl, rfl⟩
          by_cases hz : z < 0
          · have hm : (if z < 0 then (0 : Int) else z) = 0 := if_pos hz
            have hg : decide ((0 : Int) ≤ z) = false := decide_eq_false (by omega)
            go_wp2
            refine bodyPost_ret (v := .tuple #[.string v, .int .i64 0, .bool false]) (by simp [results, Try.results26, go_sem]) rfl ⟨rfl, G.out.bel⟩
          · have hm : (if z < 0 then (0 : Int) else z) = z := if_neg hz
            have hg : decide ((0 : Int) ≤ z) = true := decide_eq_true (by omega)
            go_wp2
            refine bodyPost_ret (v := .tuple #[.string v, .int .i64 z, .bool true]) (by simp [results, Try.results26, go_sem]) rfl ⟨rfl, G.out.bel⟩

end Go.Proofs.Ytipkdoplgjgkpac.cap
