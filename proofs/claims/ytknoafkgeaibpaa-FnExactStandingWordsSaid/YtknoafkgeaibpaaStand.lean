/-
  All words that stand in a passage, place by place: the reference and the program answer the same.
-/
import Derived.Test.YtknoafkgeaibpaaOW
import Derived.Test.YtknoafkgeaibpaaMarkOwnP
import Derived.Test.YtknoafkgeaibpaaL3
import Derived.Deep.RegionHeld3
namespace Go.Proofs.Ytknoafkgeaibpaa.cap
open Go.RowKit
set_option linter.unusedVariables false

/-- the pairs of one place -/
def prs (k : Nat) (l : List Nat) : List Nat := l.flatMap fun j => [k, j]

theorem prs_succ {k i j : Nat} {l : List Nat} (h : l[i]? = some j) : prs k (l.take (i + 1)) = prs k (l.take i) ++ [k, j] := by
  obtain ⟨hi, e⟩ := List.getElem?_eq_some_iff.1 h
  unfold prs
  rw [List.take_succ_eq_append_getElem hi, List.flatMap_append, e]
  simp

/-- the pairs of the first k places, and how many they are -/
def stf (ws : List Txt) (x : Txt) : Nat → List Nat
  | 0 => []
  | k + 1 => stf ws x k ++ prs k (Mt ws (x.drop k))
def stn (ws : List Txt) (x : Txt) : Nat → Nat
  | 0 => 0
  | k + 1 => stn ws x k + (Mt ws (x.drop k)).length

theorem stn_le {ws : List Txt} {x : Txt} (hm : ws.length ≤ 40) : ∀ k, stn ws x k ≤ 40 * k
  | 0 => Nat.le_refl _
  | k + 1 => by
    have := stn_le (x := x) hm k
    have h2 := mt_le (ws := ws) (r := x.drop k)
    rw [stn]
    omega

structure StandFacts (t : List Nd) (s : ByteArray) (m : Nat) (xs : List Nat) (ok : Bool) : Prop where
  okEq : ok = (trieB t && okP s)
  yes : ok = true → m = stn (wordsOf t) (tx s) s.size ∧ xs = stf (wordsOf t) (tx s) s.size
  no : ok = false → m = 0 ∧ xs = []

/-- a row that grows, and another one that is only read -/
structure OX (base : Nat) (wr : World) (e : TypeId) (size : Nat) (v : Value) (m : Nat) (xs : List Value) (te : TypeId) (vx : Value) (nx : Nat) (xx : List Value) : Prop where
  out : wr.ownsRow base e size v m xs
  ext : wr.ownsRow 0 te 1 vx nx xx
  dis : vx.ownBlock = none ∨ vx.ownBlock ≠ v.ownBlock

theorem OX.on {base : Nat} {w w' : World} {e : TypeId} {size m : Nat} {v : Value} {xs : List Value} {te : TypeId} {vx : Value} {nx : Nat} {xx : List Value} (h : OX base w e size v m xs te vx nx xx) (hb : Below w.heap.size w w') : OX base w' e size v m xs te vx nx xx :=
  ⟨own_stay h.out hb, own_stay h.ext hb, h.dis⟩

theorem OX.app {base : Nat} {w w2 : World} {o : Obj} {e : TypeId} {size m m2 : Nat} {v v2 : Value} {xs xs2 : List Value} {te : TypeId} {vx : Value} {nx : Nat} {xx : List Value} (h : OX base w e size v m xs te vx nx xx)
    (hO : w2.ownsRow base e size v2 m2 xs2) (hG : (w.alloc o).grownBy w2 v.ownBlock) (hat : v2.ownBlock = v.ownBlock ∨ v2.ownBlock = some (w.alloc o).heap.size) : OX base w2 e size v2 m2 xs2 te vx nx xx := by
  refine ⟨hO, (h.ext.alloc o).kept hG h.dis, ?_⟩
  rcases h.dis with e | e
  · exact .inl e
  · refine .inr fun e3 => ?_
    rcases hat with e4 | e4
    · exact e (e3.trans e4)
    · have := (own_ge h.ext (e3.trans e4)).2
      simp at this
      omega

theorem OX.below {base : Nat} {w w2 : World} {o : Obj} {e : TypeId} {size m : Nat} {v : Value} {xs : List Value} {te : TypeId} {vx : Value} {nx : Nat} {xx : List Value} (h : OX base w e size v m xs te vx nx xx) (hb : base ≤ w.heap.size)
    (hG : (w.alloc o).grownBy w2 v.ownBlock) : Below base w w2 :=
  ((Below.refl _ w).alloc hb _).trans (below_grown (h.out.alloc o) (Nat.le_refl _) (by simp; omega) hG)

/-- a row made later is another one -/
theorem OX.later {base : Nat} {w w2 : World} {e : TypeId} {size m : Nat} {v : Value} {xs : List Value} {te : TypeId} {vx : Value} {nx : Nat} {xx : List Value} (h : w.ownsRow base e size v m xs) (hb : Below w.heap.size w w2) (hx : w2.ownsRow w.heap.size te 1 vx nx xx) : OX base w2 e size v m xs te vx nx xx := by
  refine ⟨own_stay h hb, own_down hx (Nat.zero_le _), ?_⟩
  cases hv : vx.ownBlock with
  | none => exact .inl rfl
  | some g =>
    refine .inr fun e => ?_
    have h1 := (own_ge hx hv).1
    have h2 := (own_ge h e.symm).2
    omega

theorem lit_ownQ {W : World} {o : Obj} : ((W.alloc o).alloc (.cells #[] 64)).ownsRow (W.heap.size + 1) 64 2 (.slice (some ⟨W.heap.size + 1, 0, none⟩) 0 0) 0 [] := by
  have := World.ownsRow_lit (base := W.heap.size + 1) (e := 64) (size := 2) (W.alloc o) #[] 0 (by simp) (by unfold maxLen; omega) rfl
  simpa using this

set_option maxRecDepth 1000000 in
set_option maxHeartbeats 4000000 in
theorem specStand (t : List Nd) (n c : Nat) (s : ByteArray) (hn : n ≤ 1048576) (hs : s.size ≤ 9223372036854775807) (mm : Nat) (xs : List Nat) (ok : Bool) (hf : StandFacts t s mm xs ok) (W : World) (a : Option Addr) (hN : Nds W.heap.size W a n c t) :
    Calls Try.prog 20 #[.agg #[.slice a n c], .string s] W (ownP.OwnPairs W mm xs ok) := by
  have G1 := Lib.hid (Gv.start hN)
  have cG := Lib.hid (fun W w a (G : Gv W w a n c t) => l3Good_any W.heap.size a n c t s w G.bel.size G.nds hn hs)
  have HOk := Lib.hid hf.okEq
  have HY := Lib.hid hf.yes
  have HNo := Lib.hid hf.no
  have HO1 := Lib.hid (lit_ownQ (W := W) (o := .cells #[.slice a n c] 30))
  have G1' : Hid (Gv W ((W.alloc (.cells #[.slice a n c] 30)).alloc (.cells #[] 64)) a n c t) := Lib.hid (G1.out.on ((Below.refl _ _).alloc (Nat.le_refl _) _))
  have hbx := G1'.out.box
  obtain ⟨qq, hq⟩ : ∃ qq, (trieB t && okP s) = qq := ⟨_, rfl⟩
  have HQ := Lib.hid hq
  rw [hq] at cG HOk
  clear hq hN hf
  cases qq with
  | false =>
    go_enter Try.func20, Try.ntmps20
    go_wp2_with (first
      | (go_at_call 35; refine (cG.out _ _ _ G1'.out).mono ?_; rintro e w2 ⟨rfl, hb2⟩; have G2 := Lib.hid (G1'.out.on hb2); have HO2 := Lib.hid (own_stay HO1.out hb2); clear hb2))
    go_ret2
    obtain ⟨e1, e2⟩ := HNo.out HOk.out
    exact ⟨_, by rw [HOk.out]; rfl, by rw [e1, e2]; exact own_down HO2.out (by omega), G2.out.bel⟩
  | true =>
    have h12 := HQ.out
    rw [Bool.and_eq_true] at h12
    have HT := Lib.hid h12.1
    have hs60 := (okP_iff.1 h12.2).1
    have HXs := Lib.hid (HY.out HOk.out)
    have HAs : Hid (Asc (wordsOf t)) := Lib.hid (by
      obtain ⟨ps, hv⟩ := trieB_iff.1 HT.out
      rw [wordsOf_eq hv]; exact hv.wordsAsc)
    have cW := Lib.hid (fun W w a (G : Gv W w a n c t) => specWords_own W.heap.size a n c t w G.bel.size G.nds hn (trieB_iff.1 HT.out))
    have hm40 := wordsOf_size t
    have HSh := Lib.hid (wordsOf_short t)
    clear h12 HY HNo
    obtain ⟨ws, hws⟩ : ∃ ws, wordsOf t = ws := ⟨_, rfl⟩
    rw [hws] at cW hm40 HSh HAs HXs
    clear hws
    have HStn : Hid (∀ k, k ≤ 60 → stn ws (tx s) k ≤ 2400) := Lib.hid (fun k hk => by have := stn_le (x := tx s) hm40 k; omega)
    obtain ⟨mA, hmA⟩ : ∃ mA, ws.length = mA := ⟨_, rfl⟩
    rw [hmA] at cW hm40
    clear hmA
    have cM := Lib.hid (fun B a c w (k : Nat) (hB : B ≤ w.heap.size) (hW : Wds B w a mA c ws) (hk : k ≤ s.size) => l3Matches_any B a mA c ws s k w hB hW HAs.out HSh.out hm40 hs60 hk)
    obtain ⟨i0, hii, hz0, hz1, hz2⟩ := info_parts infoP2
    go_enter Try.func20, Try.ntmps20
    go_wp2_with fail
    refine (cG.out _ _ _ G1'.out).mono ?_
    rintro e w2 ⟨rfl, hb2⟩
    have G2 := Lib.hid (G1'.out.on hb2)
    have HO2 := Lib.hid (own_stay HO1.out hb2)
    have hbx2 := G2.out.box
    clear hb2 hbx
    go_wp2_with fail
    refine (cW.out _ _ _ G2.out).mono ?_
    rintro e w3 ⟨a3, c3, rfl, hW3, hb3⟩
    have R3 : Hid (OX (W.heap.size + 1) w3 64 2 (.slice (some ⟨W.heap.size + 1, 0, none⟩) 0 0) 0 (nums (stf ws (tx s) 0)) 9 (.slice a3 mA c3) mA (ws.map (fun x => Value.string (bx x)))) := Lib.hid (OX.later HO2.out hb3 hW3)
    have G3 := Lib.hid (G2.out.on hb3)
    clear hb3 hbx2 hW3
    go_wp2_with fail
    go_loopw [6, 8] (fun o p wr => ∃ (k m : Nat) (v : Value), k ≤ s.size ∧ v = o ∧ p = .int .i64 k ∧ Hid (stn ws (tx s) k = m) ∧ Hid (OX (W.heap.size + 1) wr 64 2 v m (nums (stf ws (tx s) k)) 9 (.slice a3 mA c3) mA (ws.map (fun x => Value.string (bx x)))) ∧ Hid (Gv W wr a n c t)) (fun _ p _ => s.size - (intOf p).toNat)
    case atStart => exact ⟨0, 0, _, Nat.zero_le _, rfl, rfl, Lib.hid rfl, R3, G3⟩
    case round =>
      clear R3 G3
      obtain ⟨k, m, v, hk, rfl, rfl, HM, R, G⟩ := hrel
      by_cases hlt : k < s.size
      · have hm2 : stn ws (tx s) (k + 1) = m + (Mt ws ((tx s).drop k)).length := by rw [stn, HM.out]
        have hmb : m + (Mt ws ((tx s).drop k)).length ≤ 2400 := by rw [← hm2]; exact HStn.out _ (by omega)
        have HM2 := Lib.hid hm2
        have HF2 : Hid (stf ws (tx s) (k + 1) = stf ws (tx s) k ++ prs k (Mt ws ((tx s).drop k))) := Lib.hid rfl
        have hWd : Wds wr.heap.size wr a3 mA c3 ws := by
          obtain ⟨a', c', e', hW⟩ := own_wds R.out.ext (fun x hx => by have := HSh.out x hx; omega)
          injection e' with e1 _ e2
          rw [e1, e2]; exact hW
        have cMk := Lib.hid (cM.out wr.heap.size a3 c3 wr k (Nat.le_refl _) hWd (by omega))
        clear hm2 hWd
        obtain ⟨l, hl⟩ : ∃ l, Mt ws ((tx s).drop k) = l := ⟨_, rfl⟩
        rw [hl] at cMk hmb HM2 HF2
        clear hl
        obtain ⟨ml, hmll⟩ : ∃ ml, l.length = ml := ⟨_, rfl⟩
        have HMl := Lib.hid hmll
        rw [hmll] at cMk hmb HM2
        obtain ⟨xs0, hxs0⟩ : ∃ xs0, stf ws (tx s) k = xs0 := ⟨_, rfl⟩
        rw [hxs0] at R HF2
        clear hmll hxs0
        go_wp2_with fail
        refine cMk.out.mono ?_
        rintro e w4 ⟨v4, rfl, hO4, hb4⟩
        obtain ⟨a9, c9, rfl, hS9⟩ := own_nums hO4
        have C9 := hS9.cap
        have T9 := hS9.top
        have R4 := Lib.hid (R.out.on hb4)
        have Q4 : Hid (OX (W.heap.size + 1) w4 64 2 v m (nums (xs0 ++ prs k (l.take 0))) 3 (.slice a9 ml c9) ml (nums l)) := Lib.hid (by
          have := OX.later R.out.out hb4 hO4
          simpa [prs] using this)
        have R4' : Hid (w4.ownsRow 0 9 1 (.slice a3 mA c3) mA (ws.map (fun x => Value.string (bx x))) ∧ ((Value.slice a3 mA c3).ownBlock = none ∨ (Value.slice a3 mA c3).ownBlock ≠ v.ownBlock)) := Lib.hid ⟨R4.out.ext, R4.out.dis⟩
        have G4 := Lib.hid (G.out.on hb4)
        clear hO4 hb4 hS9 R G cMk R4
        go_wp2_with fail
        obtain ⟨wo, rfl⟩ : ∃ wo : World, wo = wr := ⟨_, rfl⟩
        go_loopw [6, 10] (fun o p wr => ∃ (i : Nat) (v2 : Value), i ≤ ml ∧ v2 = o ∧ p = .int .i64 i ∧ Hid (OX (W.heap.size + 1) wr 64 2 v2 (m + i) (nums (xs0 ++ prs k (l.take i))) 3 (.slice a9 ml c9) ml (nums l)) ∧ Hid (OX (W.heap.size + 1) wr 64 2 v2 (m + i) (nums (xs0 ++ prs k (l.take i))) 9 (.slice a3 mA c3) mA (ws.map (fun x => Value.string (bx x)))) ∧ Hid (Gv W wr a n c t)) (fun _ p _ => ml - (intOf p).toNat)
        case atStart => exact ⟨0, _, Nat.zero_le _, rfl, rfl, Q4, Lib.hid ⟨Q4.out.out, R4'.out.1, R4'.out.2⟩, G4⟩
        case round =>
          clear Q4 R4' G4
          obtain ⟨i, v2, hi, rfl, rfl, Q, R, G⟩ := hrel
          have hbase : W.heap.size + 1 ≤ wr.heap.size := G.out.lt
          by_cases hlt2 : i < ml
          · obtain ⟨j, hj⟩ : ∃ j, l[i]? = some j := ⟨_, List.getElem?_eq_getElem (by rw [HMl.out]; exact hlt2)⟩
            obtain ⟨b9, o9, e9, _, hc⟩ := (Sl.of_own Q.out.ext).spot i _ (nums_at hj)
            subst e9
            have HP : Hid (nums (xs0 ++ prs k (l.take (i + 1))) = nums (xs0 ++ prs k (l.take i)) ++ [.int .i64 (k : Int), .int .i64 (j : Int)]) := Lib.hid (by rw [prs_succ hj, ← List.append_assoc, nums_app]; rfl)
            have hi0 : (0 : Int) ≤ (i : Int) := by omega
            have hi1 : (i : Int) < (ml : Int) := by omega
            clear hj
            go_wp2_with (first
              | (at_builtin; refine wpList_append_own_at _ rfl _ _ 41 rfl (W.heap.size + 1) 64 i0 (.agg #[.int .i64 0, .int .i64 0]) 2 16 Try.underlying41 hii hz0 hz1 hz2 rfl (by decide) _ _ _ rfl (Q.out.out.alloc _) ⟨wr.heap.size, 0, none⟩ 1 1 [.int .i64 (k : Int), .int .i64 (j : Int)] rfl rfl (news_at (cs := #[.int .i64 (k : Int), .int .i64 (j : Int)]) rfl) (by simp [Value.oneCell']) (by unfold maxLen; omega) (by omega) (by simp; omega) ?_; intro v3 w5 hO3 hG3 _ hat; have Q5 := Lib.hid (Q.out.app (m2 := m + (i + 1)) (xs2 := nums (xs0 ++ prs k (l.take (i + 1)))) (by rw [HP.out]; exact hO3) hG3 hat); have R5 := Lib.hid (R.out.app (m2 := m + (i + 1)) (xs2 := nums (xs0 ++ prs k (l.take (i + 1)))) (by rw [HP.out]; exact hO3) hG3 hat); have G5 := Lib.hid (G.out.on2 (Q.out.below hbase hG3)); clear hO3 hG3 hat))
            go_roundw
            case rel => exact ⟨i + 1, _, by omega, rfl, by go_num, Q5, R5, G5⟩
            case measure => simp [intOf]; omega
          · have e : i = ml := by omega
            have HF : Hid (xs0 ++ prs k (l.take i) = stf ws (tx s) (k + 1)) := Lib.hid (by rw [HF2.out, List.take_of_length_le (by rw [HMl.out]; omega)])
            subst e
            go_wp2_with fail
            go_roundw
            case rel => exact ⟨k + 1, m + i, _, by omega, rfl, by first | rfl | go_num, HM2, Lib.hid (by rw [← HF.out]; exact R.out), G⟩
            case measure => first | (simp [intOf]; done) | (simp [intOf]; omega)
      · have e : k = s.size := by omega
        obtain ⟨e1, e2⟩ := HXs.out
        have HF1 : Hid (mm = m) := Lib.hid (by rw [e1, ← HM.out, e])
        have HF2 : Hid (xs = stf ws (tx s) k) := Lib.hid (by rw [e2, e])
        clear e e1 e2
        go_wp2_with fail
        go_ret2
        exact ⟨_, by rw [HOk.out]; rfl, by rw [HF1.out, HF2.out]; exact own_down R.out.out (by omega), G.out.bel⟩

end Go.Proofs.Ytknoafkgeaibpaa.cap
