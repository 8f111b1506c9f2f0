import Derived.Test.YtgmldhkipjadgaaOpenP
import Derived.Test.YtgmldhkipjadgaaEqP
import Derived.Test.YtgmldhkipjadgaaOwn
import Derived.Test.YtgmldhkipjadgaaMarkT
import Derived.Laws.BytesArg
import Derived.Deep.RegionHeld3
import Derived.Deep.QuietTactic
import Derived.BigQuiet
import Derived.Lib.Hide
import Derived.Lib.Strings
import Derived.WalkSpells
import Derived.WalkSmall
import Derived.Test.YtgmldhkipjadgaaWords
import Derived.RangeFuncBox
import Derived.Test.YtgmldhkipjadgaaLawTwo

/-
  The reference's OpenPressed, and what both functions of the law answer.
-/
namespace Go.Proofs.Ytgmldhkipjadgaa
open Go.RowKit
set_option linter.unusedVariables false

set_option maxRecDepth 1000000 in
set_option maxHeartbeats 1000000 in
theorem specOpenPressed_any (a : Option Addr) (n c : Nat) (p : List Br) (w : World) (h : Brs w.heap.size w a n c p) (hn : n ≤ 1048576) :
    Calls Try.prog 22 #[.agg #[.slice a n c]] w (ReadRes w (pT p) (pOk p)) := by
  have HBox := Lib.hid ((Boxed.new (w.alloc (.cells #[.slice a n c] 29)) 41 (.slice none 0 0)))
  have HB1 : Hid (Below w.heap.size w ((w.alloc (.cells #[.slice a n c] 29)).alloc (.cells #[.slice none 0 0] 41))) := Lib.hid (((Below.refl _ _).alloc (Nat.le_refl _) _).alloc (by simp) _)
  have cO := Lib.hid (l4Open_any w.heap.size a n c p ((w.alloc (.cells #[.slice a n c] 29)).alloc (.cells #[.slice none 0 0] 41)) HB1.out.size (h.keep HB1.out) hn)
  clear h
  simp only [World.size_alloc] at HBox
  obtain ⟨ok, hok⟩ : ∃ ok, pOk p = ok := ⟨_, rfl⟩
  obtain ⟨tt, htt⟩ : ∃ tt, pT p = tt := ⟨_, rfl⟩
  rw [hok, htt] at cO ⊢
  clear hok htt
  have hbx : ((w.alloc (.cells #[.slice a n c] 29)).alloc (.cells #[.slice none 0 0] 41)).cell? ⟨w.heap.size, 0, none⟩ = some (.slice a n c) := ((Boxed.new w 29 (.slice a n c)).alloc _).cell
  go_enter Try.func22, Try.ntmps22
  go_wp2_with fail
  clear hbx
  refine cO.out.mono ?_
  rintro e w2 ⟨a2, c2, rfl, hN2, hb2⟩
  have HBox2 := Lib.hid (box_stay HBox.out hb2)
  have HB2 := Lib.hid (HB1.out.trans (hb2.mono HB1.out.size))
  have HN2 := Lib.hid hN2
  clear hN2 hb2
  have hrc := HBox2.out.cell
  have hrf := HBox2.out.frozen
  go_wp2
  refine bodyPost_ret (v := .tuple #[.agg #[.slice a2 tt.length c2], .bool ok]) (by simp [results, Try.results22, go_sem, hrc]) rfl ⟨_, _, rfl, ?_, HB2.out.setCell (p := ⟨w.heap.size + 1, 0, none⟩) (by simp) _⟩
  have := HN2.out.box HBox2.out (.slice a2 tt.length c2)
  simpa [World.setCell] using this

theorem pT_fits (p : List Br) : Fits (pT p) ∧ (pT p).length ≤ 481 := by
  cases h : pOk p with
  | true =>
    have hP := pWds_is h
    rw [pT_yes h]
    exact ⟨made_fits hP.isW hP.few, (made_valid hP.asc hP.isW hP.few).size⟩
  | false => rw [pT_no h]; exact ⟨fun d hd => by (cases hd), by simp⟩

theorem agreeOpenPressed (t : List Br) (n : Nat) (hn : n ≤ 1048576) : ∃ (tt : List Nd) (ok : Bool), Fits tt ∧ tt.length ≤ 481 ∧
    (∀ (W : World) (a : Option Addr), Brs W.heap.size W a n n t → Calls Try.prog 22 #[.agg #[.slice a n n]] W (ReadRes W tt ok)) ∧
    (∀ (W : World) (a : Option Addr), Brs W.heap.size W a n n t → Calls Try.prog 23 #[.agg #[.slice a n n]] W (TrieRes W tt ok)) :=
  ⟨pT t, pOk t, (pT_fits t).1, (pT_fits t).2, fun W a h => specOpenPressed_any a n n t W h hn, fun W a h => implOpen_any W.heap.size a n n t W (Nat.le_refl _) h hn⟩

end Go.Proofs.Ytgmldhkipjadgaa

/-
  The laws' copy of a pressed tree, read as branches.
-/
namespace Go.Proofs.Ytgmldhkipjadgaa
open Go.RowKit
set_option linter.unusedVariables false

theorem toPressed_brs (B : Nat) (a : Option Addr) (n c : Nat) (t : List Br) (w : World) (hB : B ≤ w.heap.size) (h : Brs B w a n c t) (hn : n ≤ 1048576) :
    Calls Try.prog 11 #[.agg #[.slice a n c]] w fun e w' => ∃ g, e = .returned (.agg #[.slice (some ⟨g, 0, none⟩) n n]) ∧ Brs w'.heap.size w' (some ⟨g, 0, none⟩) n n t ∧ Below w.heap.size w w' :=
  (toPressed_any B a n c t w hB h hn).mono fun e w' ⟨g, h1, h2, h3⟩ => ⟨g, h1, own_brs h2 h.rng, h3⟩

/-- both are the same -/
theorem eq_pressed (a1 a2 : Option Addr) (n c d : Nat) (t : List Br) (w : World) (h1 : Brs w.heap.size w a1 n c t) (h2 : Brs w.heap.size w a2 n d t) :
    Calls Try.prog 13 #[.agg #[.slice a1 n c], .agg #[.slice a2 n d]] w fun e w' => e = .returned (.bool true) ∧ Below w.heap.size w w' :=
  eqPressed_any w.heap.size a1 a2 n c n d t t w (Nat.le_refl _) h1 h2 true (by simp)

end Go.Proofs.Ytgmldhkipjadgaa

/-
  The text of a law's mark.
-/
namespace Go.Proofs.Ytgmldhkipjadgaa
open Go.RowKit
set_option linter.unusedVariables false

/-- the digits of j ahead of m, at most f of them -/
def mtl : Nat → Nat → ByteArray → ByteArray
  | 0, _, m => m
  | f + 1, j, m => if j = 0 then m else mtl f (j / 10) (strOfNums [48 + (j : Int) % 10] ++ m)

theorem mtl_zero (f : Nat) (m : ByteArray) : mtl f 0 m = m := by cases f <;> simp [mtl]
theorem mtl_succ (f j : Nat) (m : ByteArray) (h : 0 < j) : mtl (f + 1) j m = mtl f (j / 10) (strOfNums [48 + (j : Int) % 10] ++ m) := by
  rw [mtl, if_neg (by omega)]

/-- the text of the mark k -/
def mt (k : Nat) : ByteArray := if k = 0 then ⟨#[109, 48]⟩ else ⟨#[109]⟩ ++ mtl k k ⟨#[]⟩

theorem mt_zero : mt 0 = ⟨#[109, 48]⟩ := rfl
theorem mt_pos {k : Nat} (h : 0 < k) : mt k = ⟨#[109]⟩ ++ mtl k k ⟨#[]⟩ := if_neg (by omega)

theorem ret_strM {a b : ByteArray} (h : b = a) : Ending.returned (.string a) = .returned (.string b) := by rw [h]

set_option maxHeartbeats 1000000 in
theorem markText_any (k : Nat) (w : World) (hk : k ≤ 1000000000) :
    Calls Try.prog 78 #[.int .i64 (k : Int)] w fun e w' => e = .returned (.string (mt k)) ∧ Below w.heap.size w w' := by
  by_cases h0 : k = 0
  · subst h0
    go_enter Try.func78, Try.ntmps78
    go_wp2
    go_ret
    exact ⟨ret_strM mt_zero, Below.refl _ _⟩
  · have h1 : ¬ ((k : Int) ≤ 0) := by omega
    have HP := Lib.hid (mt_pos (show 0 < k by omega))
    have hcv : ∀ (W : World) (j : Nat), (convert 98 9 (.slice (some ⟨W.heap.size, 0, none⟩) 1 1)).run Try.prog (W.alloc (.cells #[.int .u8 (48 + (j : Int) % 10)] 5)) = .ok (.string (strOfNums [48 + (j : Int) % 10])) (W.alloc (.cells #[.int .u8 (48 + (j : Int) % 10)] 5)) := fun W j =>
      run_convert_bytes_arg _ 98 5 Try.underlying98 Try.underlying5 W.heap.size 0 1 1 [48 + (j : Int) % 10] rfl (fun i hi => by
        obtain rfl : i = 0 := by omega
        exact by simp) 9 Try.underlying9
    go_enter Try.func78, Try.ntmps78
    go_wp2
    go_loopw [0, 3] (fun n o wr => ∃ (j f : Nat) (m : ByteArray), n = .int .i64 j ∧ o = .string m ∧ j ≤ 1000000000 ∧ m.size + f ≤ 1000000000 ∧ j ≤ f ∧ Hid (mtl f j m = mtl k k ⟨#[]⟩) ∧ Below w.heap.size w wr) (fun n _ _ => (intOf n).toNat)
    case atStart => exact ⟨k, k, ⟨#[]⟩, rfl, rfl, hk, by show 0 + k ≤ _; omega, Nat.le_refl _, Lib.hid rfl, Below.refl _ _⟩
    case round =>
      obtain ⟨j, f, m, rfl, rfl, hj, hm, hjf, HM, hb⟩ := hrel
      by_cases hp : 0 < j
      · have hp' : (0 : Int) < (j : Int) := by omega
        obtain ⟨f', rfl⟩ : ∃ f', f = f' + 1 := ⟨f - 1, by omega⟩
        have HN := Lib.hid ((mtl_succ f' j m hp).symm.trans HM.out)
        obtain ⟨d, hd⟩ : ∃ d, strOfNums [48 + (j : Int) % 10] = d := ⟨_, rfl⟩
        have hds : d.size = 1 := by rw [← hd]; rfl
        have hds' : d.size ≤ 1 := by omega
        have cv := hcv wr j
        rw [hd] at cv
        rw [hd] at HN
        clear hd hcv hds
        go_wp2
        go_roundw
        case rel => exact ⟨j / 10, f', d ++ m, by go_num, rfl, by omega, by rw [ByteArray.size_append]; omega, by omega, HN, hb.alloc hb.size _⟩
        case measure => simp [intOf]; omega
      · have hp' : ¬ (0 : Int) < (j : Int) := by omega
        have e : j = 0 := by omega
        subst e
        have HE : Hid (mt k = ⟨#[109]⟩ ++ m) := Lib.hid (by rw [HP.out, ← HM.out, mtl_zero])
        clear hcv
        go_wp2
        go_ret
        exact ⟨ret_strM HE.out, hb⟩

theorem grown_of_below {a w : World} {row : Option Nat} (h : Below a.heap.size a w) : a.grownBy w row := ⟨h.os, h.tape, h.output, h.size, fun k hk _ => h.block k hk⟩

end Go.Proofs.Ytgmldhkipjadgaa

/-
  The laws' marks on a pressed tree: what they leave.
-/
namespace Go.Proofs.Ytgmldhkipjadgaa
open Go.RowKit
set_option linter.unusedVariables false

/-- the mark of a branch -/
def mkb (m : Nat) : Br := ⟨tx (mt m), (m : Int) + 1, ((m : Int) + 1 + 1) % 3 == 0⟩
def marksB (k n : Nat) : List Br := (List.range n).map fun i => mkb (k + 3 * i)
theorem marksB_len (k n : Nat) : (marksB k n).length = n := by simp [marksB]
theorem marksB_at {k n i : Nat} (h : i < n) : (marksB k n)[i]? = some (mkb (k + 3 * i)) := by simp [marksB, h]

def markedB (t : List Br) (k j : Nat) : List Br := marksB k j ++ t.drop j
theorem markedB_zero (t : List Br) (k : Nat) : markedB t k 0 = t := by simp [markedB, marksB]
theorem markedB_len {t : List Br} {k j : Nat} (h : j ≤ t.length) : (markedB t k j).length = t.length := by simp [markedB, marksB]; omega
theorem markedB_succ {t : List Br} {k j : Nat} (h : j < t.length) : (markedB t k j).set j (mkb (k + 3 * j)) = markedB t k (j + 1) := by
  unfold markedB
  rw [List.set_append_right _ _ (by simp [marksB])]
  have e : j - (marksB k j).length = 0 := by simp [marksB]
  rw [e, List.drop_eq_getElem_cons h, List.set_cons_zero]
  unfold marksB
  rw [List.range_succ]
  simp
theorem markedB_all {t : List Br} {k n : Nat} (h : t.length = n) : markedB t k n = marksB k n := by
  unfold markedB
  rw [List.drop_eq_nil_of_le (by omega), List.append_nil]

set_option maxRecDepth 1000000 in
set_option maxHeartbeats 1000000 in
theorem markBranches_own (base g n c k0 : Nat) (t : List Br) (w : World) (h : w.ownsRow base 76 3 (.slice (some ⟨g, 0, none⟩) n c) n (brc t)) (hbase : base ≤ w.heap.size) (hn : n ≤ 1048576) (hk : k0 ≤ 10) :
    Calls Try.prog 47 #[.slice (some ⟨g, 0, none⟩) n c, .int .i64 (k0 : Int)] w fun e w' => e = .returned (.int .i64 ((k0 + 3 * n : Nat) : Int)) ∧ w.grownBy w' (some g) ∧ w'.ownsRow base 76 3 (.slice (some ⟨g, 0, none⟩) n c) n (brc (marksB k0 n)) := by
  have HB := own_base h
  have HO0 := Lib.hid h
  have hln : t.length = n := by have := h.1; rw [brc_len] at this; omega
  have HLN := Lib.hid hln
  clear h hln
  go_enter Try.func47, Try.ntmps47
  go_wp2
  go_loopw [1, 5] (fun q i wr => ∃ (j m : Nat), j ≤ n ∧ i = .int .i64 j ∧ q = .int .i64 m ∧ Hid (m = k0 + 3 * j) ∧ m ≤ 10 + 3 * j ∧ Hid (wr.ownsRow base 76 3 (.slice (some ⟨g, 0, none⟩) n c) n (brc (markedB t k0 j))) ∧ Hid (w.grownBy wr (some g))) (fun _ i _ => n - (intOf i).toNat)
  case atStart => exact ⟨0, k0, Nat.zero_le _, rfl, rfl, Lib.hid (by omega), by omega, Lib.hid (by rw [markedB_zero]; exact HO0.out), Lib.hid (World.grownBy.refl _ _)⟩
  case round =>
    obtain ⟨j, m, hj, rfl, rfl, HM, hm, HO, HBw⟩ := hrel
    by_cases hlt : j < n
    · have HUL : Hid ((markedB t k0 j).length = n) := Lib.hid (by rw [markedB_len (by rw [HLN.out]; exact hj), HLN.out])
      have cM := Lib.hid (markText_any m wr (by omega))
      obtain ⟨bb, hbb⟩ : ∃ bb, (((m : Int) + 1 + 1) % 3 == 0) = bb := ⟨_, rfl⟩
      have HBB := Lib.hid hbb
      obtain ⟨sm, hsm⟩ : ∃ sm, mt m = sm := ⟨_, rfl⟩
      rw [hsm] at cM
      have HSM := Lib.hid hsm
      clear hsm
      go_wp2_with (go_at_call 78; refine cM.out.mono ?_; rintro e1 w1 ⟨rfl, hb1⟩; have HO1 := Lib.hid (own_stay HO.out hb1); have HG1 := Lib.hid (HBw.out.trans (grown_of_below hb1)); clear hb1; have hO := HO1.out; obtain ⟨d, hd⟩ : ∃ d, (markedB t k0 j)[j]? = some d := ⟨_, List.getElem?_eq_getElem (by rw [HUL.out]; exact hlt)⟩; obtain ⟨e1, e2, e3⟩ := brc_at hd; have hf := hO.frozenAt (j * 3); have hf1 := hO.frozenAt (j * 3 + 1); have hf2 := hO.frozenAt (j * 3 + 2); have hx := hO.cellAt (j * 3) (by omega); have hx1 := hO.cellAt (j * 3 + 1) (by omega); have hx2 := hO.cellAt (j * 3 + 2) (by omega); rw [e1] at hx; rw [e2] at hx1; rw [e3] at hx2; clear hO hd e1 e2 e3)
      have hs := (((((HO1.out.stored (j * 3) (.string sm)).1.stored (j * 3 + 1) (.int .i64 ((m : Int) + 1))).1).stored (j * 3 + 2) (.bool bb)).1)
      rw [brc_set _ _ _ (by rw [HUL.out]; exact hlt)] at hs
      have hmk : (⟨tx sm, (m : Int) + 1, bb⟩ : Br) = mkb (k0 + 3 * j) := by rw [← HM.out, ← HBB.out, ← HSM.out]; rfl
      rw [hmk, markedB_succ (by rw [HLN.out]; exact hlt)] at hs
      have HS := Lib.hid hs
      clear hs hmk
      go_roundw
      case rel => exact ⟨j + 1, m + 3, by omega, by go_num, by first | rfl | (congr 1; omega), Lib.hid (by rw [HM.out]; omega), by omega, HS, Lib.hid (grown_set (grown_set (grown_set HG1.out _) _) _)⟩
      case measure => simp [intOf]; omega
    · have HF : Hid (m = k0 + 3 * n) := Lib.hid (by rw [HM.out]; omega)
      have HOF : Hid (wr.ownsRow base 76 3 (.slice (some ⟨g, 0, none⟩) n c) n (brc (marksB k0 n))) := Lib.hid (by
        have := HO.out
        have e : j = n := by omega
        rwa [e, markedB_all HLN.out] at this)
      go_wp2
      go_ret
      exact ⟨ret_num (by rw [HF.out]), HBw.out, HOF.out⟩

set_option maxRecDepth 1000000 in
theorem markPressed_own (base g n c k0 : Nat) (t : List Br) (w : World) (h : w.ownsRow base 76 3 (.slice (some ⟨g, 0, none⟩) n c) n (brc t)) (hbase : base ≤ w.heap.size) (hn : n ≤ 1048576) (hk : k0 ≤ 10) :
    Calls Try.prog 20 #[.agg #[.slice (some ⟨g, 0, none⟩) n c], .int .i64 (k0 : Int)] w fun e w' => e = .returned (.int .i64 ((k0 + 3 * n : Nat) : Int)) ∧ w.grownBy w' (some g) := by
  have cN := Lib.hid (markBranches_own base g n c k0 t (w.alloc (.cells #[.slice (some ⟨g, 0, none⟩) n c] 29)) (h.alloc _) (by simp; omega) hn hk)
  clear h
  go_enter Try.func20, Try.ntmps20
  go_wp2_with fail
  refine cN.out.mono ?_
  rintro e w2 ⟨rfl, hb2, hO2⟩
  go_wp2_with fail
  go_ret
  exact ⟨rfl, (World.grownBy_alloc w _ _).trans hb2⟩

end Go.Proofs.Ytgmldhkipjadgaa

/-
  The walk of the law FnExactOpenPressed: both functions answer the same, in memory of their own.
-/
namespace Go.Proofs.Ytgmldhkipjadgaa.fnExactOpenPressed
open Go.RowKit
set_option linter.unusedVariables false

set_option maxRecDepth 1000000 in
set_option maxHeartbeats 2000000 in
theorem walk (a : Option Addr) (n c : Nat) (t : List Br) (w : World) (w0 : n ≤ maxLen ∧ Brs w.heap.size w a n c t) :
    Calls Try.prog 5 #[.agg #[.slice a n c]] w fun e w' => e = .returned (.bool true) ∧ Below w.heap.size w w' := by
  obtain ⟨hm, h⟩ := w0
  unfold maxLen at *
  have C := h.cap
  have T := h.top
  have HFitT : Hid (FitsB t) := Lib.hid h.rng
  have HB1 : Hid (Below w.heap.size w (w.alloc (.cells #[.slice a n c] 24))) := Lib.hid ((Below.refl _ _).alloc (Nat.le_refl _) _)
  have hlt0 : w.heap.size < (w.alloc (.cells #[.slice a n c] 24)).heap.size := by simp
  have hbx : (w.alloc (.cells #[.slice a n c] 24)).cell? ⟨w.heap.size, 0, none⟩ = some (.slice a n c) := by simp
  have HN : Hid (Brs w.heap.size (w.alloc (.cells #[.slice a n c] 24)) a n c t) := Lib.hid (h.keep HB1.out)
  clear h
  go_enter Try.func5, Try.ntmps5
  go_wp2_with fail
  obtain ⟨W0, hW0⟩ : ∃ W0, w.alloc (.cells #[.slice a n c] 24) = W0 := ⟨_, rfl⟩
  rw [hW0] at HB1 hlt0 hbx HN ⊢
  clear hW0
  have HX := Lib.hid hbx
  clear hbx
  have cS := Lib.hid (szPressed_any w.heap.size a n c t 1048576 W0 (by omega) HN.out (by omega) (by omega))
  refine cS.out.mono ?_
  rintro e w1 ⟨⟨r0, rfl, hr0⟩, hb1⟩
  rcases hr0 with rfl | ⟨hr0, hr1, hn, _⟩
  · go_wp2_with fail
    go_ret
    exact ⟨rfl, HB1.out.trans (hb1.mono (by omega))⟩
  · have hrl : ¬ (r0 < 0) := by omega
    have cT : Hid (∀ W, Below W0.heap.size W0 W → Calls Try.prog 11 #[.agg #[.slice a n c]] W fun e w' => ∃ g, e = .returned (.agg #[.slice (some ⟨g, 0, none⟩) n n]) ∧ w'.ownsRow W.heap.size 76 3 (.slice (some ⟨g, 0, none⟩) n n) n (brc t) ∧ Below W.heap.size W w') := Lib.hid (fun W hW => toPressed_any w.heap.size a n c t W (by have := hW.size; omega) (HN.out.keep (hW.mono (by omega))) hn)
    obtain ⟨tt, ok, hfit, hm, hsp, him⟩ := agreeOpenPressed t n hn
    have HFit := Lib.hid hfit
    have cSp := Lib.hid hsp
    have cIm := Lib.hid him
    obtain ⟨m, hmm⟩ : ∃ m, tt.length = m := ⟨_, rfl⟩
    rw [hmm] at hm
    unfold ReadRes at cSp
    unfold TrieRes at cIm
    rw [hmm] at cSp cIm
    clear hfit hsp him hmm
    have hrr : (ok != ok) = false := by cases ok <;> rfl
    have hq1 : ¬ (((1 + 3 * n : Nat) : Int) < 0) := by omega
    have hq2 : ¬ (((1 + 3 * m : Nat) : Int) < 0) := by omega
    have hq3 : (((1 + 3 * m : Nat) : Int) != ((1 + 3 * m : Nat) : Int)) = false := by simp
    have H1 := Lib.hid hb1
    have hbx := (hb1.cell (p := ⟨w.heap.size, 0, none⟩) hlt0).trans HX.out
    clear hb1
    go_wp2_with fail
    clear hbx
    refine (cT.out _ H1.out).mono ?_
    rintro e w2 ⟨g2, rfl, hO2, hb2⟩
    have H2 := Lib.hid (H1.out.trans (hb2.mono H1.out.size))
    have N2 := Lib.hid (own_brs hO2 HFitT.out)
    clear hb2 hO2
    go_wp2_with fail
    refine (cSp.out _ _ N2.out).mono ?_
    rintro e w3 ⟨a3, c3, rfl, hN3, hb3⟩
    have H3 := Lib.hid (H2.out.trans (hb3.mono H2.out.size))
    have HN3 := Lib.hid hN3
    have HBx := Lib.hid (Boxed.new w3 41 (.slice a3 m c3))
    have HB4 : Hid (Below w3.heap.size w3 (w3.alloc (.cells #[.slice a3 m c3] 41))) := Lib.hid ((Below.refl _ _).alloc (Nat.le_refl _) _)
    have HZ4 : Hid ((w3.alloc (.cells #[.slice a3 m c3] 41)).heap.size = w3.heap.size + 1) := Lib.hid (by simp)
    have H4 := Lib.hid (H3.out.trans (HB4.out.mono H3.out.size))
    clear hN3 hb3
    have hbx := (H4.out.cell (p := ⟨w.heap.size, 0, none⟩) hlt0).trans HX.out
    go_wp2_with fail
    clear hbx
    obtain ⟨w4, hw4⟩ : ∃ w4, w3.alloc (.cells #[.slice a3 m c3] 41) = w4 := ⟨_, rfl⟩
    rw [hw4] at HBx HB4 HZ4 H4 ⊢
    clear hw4
    refine (cT.out _ H4.out).mono ?_
    rintro e w5 ⟨g5, rfl, hO5, hb5⟩
    have HB5 := Lib.hid hb5
    have HG5 := Lib.hid (own_ge hO5 (g := g5) rfl)
    have HXB : Hid (Boxed (w5.alloc (.cells #[.slice (some ⟨g5, 0, none⟩) n n] 29)) w5.heap.size 29 (.slice (some ⟨g5, 0, none⟩) n n)) := Lib.hid (Boxed.new _ _ _)
    have HXO := Lib.hid (hO5.alloc (.cells #[.slice (some ⟨g5, 0, none⟩) n n] 29))
    have HB6 : Hid (Below w5.heap.size w5 (w5.alloc (.cells #[.slice (some ⟨g5, 0, none⟩) n n] 29))) := Lib.hid ((Below.refl _ _).alloc (Nat.le_refl _) _)
    have HZ6 : Hid ((w5.alloc (.cells #[.slice (some ⟨g5, 0, none⟩) n n] 29)).heap.size = w5.heap.size + 1) := Lib.hid (by simp)
    clear hO5 hb5
    have hbz := HXB.out.cell
    go_wp2_with fail
    clear hbz
    obtain ⟨w6, hw6⟩ : ∃ w6, w5.alloc (.cells #[.slice (some ⟨g5, 0, none⟩) n n] 29) = w6 := ⟨_, rfl⟩
    rw [hw6] at HXB HXO HB6 HZ6 ⊢
    clear hw6
    refine (cIm.out _ _ (own_brs HXO.out HFitT.out)).mono ?_
    rintro e w7 ⟨v7, rfl, hO7, hb7⟩
    obtain ⟨a7, c7, rfl⟩ := own_slice hO7
    have HB7 := Lib.hid hb7
    have HO7 := Lib.hid hO7
    clear hO7 hb7
    have K8 : Hid (Two W0.heap.size W0 (w7.alloc (.cells #[.slice a7 m c7] 41)) w3.heap.size w7.heap.size w3.heap.size w6.heap.size m a3 c3 tt a7 c7 tt) := Lib.hid (by
      have h1 := HZ4.out
      have h2 := H3.out.size
      have h3 := HB7.out.size
      have h4 := HZ6.out
      have h5 := HB5.out.size
      have b47 : Below w4.heap.size w4 w7 := (HB5.out.trans (HB6.out.mono h5)).trans (HB7.out.mono (by omega))
      have b37 : Below w3.heap.size w3 w7 := HB4.out.trans (b47.mono (by omega))
      exact ⟨(H3.out.trans (b37.mono h2)).alloc (by omega) _, (box_under HBx.out b47 (by omega)).alloc _, HN3.out.keep (b37.alloc (by omega) _), Boxed.new _ _ _, HO7.out.alloc _, Nat.le_refl _, Nat.le_refl _, by omega, h3, h2⟩)
    have X8 : Hid (Boxed (w7.alloc (.cells #[.slice a7 m c7] 41)) w5.heap.size 29 (.slice (some ⟨g5, 0, none⟩) n n) ∧ (w7.alloc (.cells #[.slice a7 m c7] 41)).ownsRow w4.heap.size 76 3 (.slice (some ⟨g5, 0, none⟩) n n) n (brc t)) := Lib.hid ⟨(box_stay HXB.out HB7.out).alloc _, (own_stay HXO.out HB7.out).alloc _⟩
    have HZX : Hid (w3.heap.size ≤ g5 ∧ g5 ≠ w3.heap.size ∧ g5 < w6.heap.size) := Lib.hid (by
      have h1 := HZ4.out
      have h2 := HG5.out
      have h4 := HZ6.out
      omega)
    obtain ⟨hx, hy⟩ := K8.out.see
    go_wp2_with fail
    clear hx hy
    obtain ⟨w8, hw8⟩ : ∃ w8, w7.alloc (.cells #[.slice a7 m c7] 41) = w8 := ⟨_, rfl⟩
    rw [hw8] at K8 X8 ⊢
    clear hw8
    refine (eq_trie a7 a3 m c7 c3 tt w8 (nds_own K8.out.own HFit.out) K8.out.read).mono ?_
    rintro e w9 ⟨rfl, hb9⟩
    have K9 := Lib.hid (K8.out.keep hb9)
    have X9 : Hid (Boxed w9 w5.heap.size 29 (.slice (some ⟨g5, 0, none⟩) n n) ∧ w9.ownsRow w4.heap.size 76 3 (.slice (some ⟨g5, 0, none⟩) n n) n (brc t)) := Lib.hid ⟨box_stay X8.out.1 hb9, own_stay X8.out.2 hb9⟩
    clear hb9
    have hx := (K9.out.bel.cell (p := ⟨w.heap.size, 0, none⟩) hlt0).trans HX.out
    have hy := X9.out.1.cell
    have hl1 : w.heap.size < w9.heap.size := Nat.lt_of_lt_of_le hlt0 K9.out.bel.size
    have hl2 : w5.heap.size < w9.heap.size := X9.out.1.lt
    go_wp2_with fail
    go_region_held3 (fun w' => w'.cell? ⟨w.heap.size, 0, none⟩ = some (.slice a n c) ∧ w'.cell? ⟨w5.heap.size, 0, none⟩ = some (.slice (some ⟨g5, 0, none⟩) n n))
      (first
        | exact ⟨(hb11.cell (p := ⟨w.heap.size, 0, none⟩) (Nat.lt_of_lt_of_le hl1 hb10.size)).trans ((hb10.cell (p := ⟨w.heap.size, 0, none⟩) hl1).trans hx), (hb11.cell (p := ⟨w5.heap.size, 0, none⟩) (Nat.lt_of_lt_of_le hl2 hb10.size)).trans ((hb10.cell (p := ⟨w5.heap.size, 0, none⟩) hl2).trans hy)⟩
        | exact ⟨(hb10.cell (p := ⟨w.heap.size, 0, none⟩) hl1).trans hx, (hb10.cell (p := ⟨w5.heap.size, 0, none⟩) hl2).trans hy⟩
        | exact ⟨hx, hy⟩)
      (first
        | (go_at_call 11; refine (cT.out _ (by exact K9.out.bel.drew)).mono ?_; rintro e w10 ⟨g10, rfl, hO10, hb10⟩)
        | (go_at_call 13; refine (eq_pressed _ _ n n n t _ (by exact ((own_brs X9.out.2 HFitT.out).keep ((Below.refl _ _).drew.trans hb10)).mono hb10.size) (own_brs hO10 HFitT.out)).mono ?_; rintro e w11 ⟨rfl, hb11⟩))
    have hb911 : Below w9.heap.size w9 w11 := ((Below.refl _ _).drew.trans hb10).trans (hb11.mono hb10.size)
    have K11 := Lib.hid (K9.out.keep hb911)
    have X11 : Hid (Boxed w11 w5.heap.size 29 (.slice (some ⟨g5, 0, none⟩) n n) ∧ w11.ownsRow w4.heap.size 76 3 (.slice (some ⟨g5, 0, none⟩) n n) n (brc t)) := Lib.hid ⟨box_stay X9.out.1 hb911, own_stay X9.out.2 hb911⟩
    clear hx hy hb911 hb10 hb11 hO10
    have hy := X11.out.1.cell
    have hb4 : w4.heap.size ≤ w11.heap.size := by have := own_lt X11.out.2; have := HG5.out; omega
    go_wp2_with fail
    refine (markPressed_own w4.heap.size g5 n n 1 t w11 X11.out.2 hb4 hn (by omega)).mono ?_
    rintro e w12 ⟨rfl, hg12⟩
    have K12 := Lib.hid (K11.out.arg (gx := g5) hg12 HZX.out.1 HZX.out.2.1 HZX.out.2.2)
    clear hg12 hy
    obtain ⟨hx, hy⟩ := K12.out.see
    go_wp2_with fail
    refine (eq_trie a7 a3 m c7 c3 tt w12 (nds_own K12.out.own HFit.out) K12.out.read).mono ?_
    rintro e w13 ⟨rfl, hb13⟩
    have K13 := Lib.hid (K12.out.keep hb13)
    clear hb13 hx hy
    obtain ⟨hx, hy⟩ := K13.out.see
    go_wp2_with fail
    refine (markTrie_own w6.heap.size m c7 1 a7 tt w13 K13.out.own (by have := K13.out.box7.lt; have := K13.out.s7; omega) (by omega) (by omega)).mono ?_
    rintro e w14 ⟨rfl, hg14, hO14⟩
    have K14 := Lib.hid (K13.out.mark hg14 hO14)
    clear hg14 hO14 hx hy
    obtain ⟨hx, hy⟩ := K14.out.see
    have HFm := Lib.hid (marksN_fits (k := 1) (n := m) (by omega))
    go_wp2_with fail
    refine (heldTrie_any w14.heap.size 1 m c7 a7 w14 (Nat.le_refl _) (nds_own K14.out.own HFm.out) (by omega) (by omega)).mono ?_
    rintro e w15 ⟨rfl, hb15⟩
    have K15 := Lib.hid (K14.out.keep hb15)
    clear hb15 hx hy
    have hbx := (K15.out.bel.cell (p := ⟨w.heap.size, 0, none⟩) hlt0).trans HX.out
    go_wp2_with fail
    clear hbx
    refine (cT.out _ K15.out.bel).mono ?_
    rintro e w16 ⟨g16, rfl, hO16, hb16⟩
    have K16 := Lib.hid (K15.out.keep hb16)
    have N16 := Lib.hid (own_brs hO16 HFitT.out)
    clear hO16 hb16
    go_wp2_with fail
    refine (cIm.out _ _ N16.out).mono ?_
    rintro e w17 ⟨v17, rfl, hO17, hb17⟩
    obtain ⟨a17, c17, rfl⟩ := own_slice hO17
    have K18 := Lib.hid ((K16.out.keep hb17).keep ((Below.refl _ _).alloc (Nat.le_refl _) (.cells #[.slice a17 m c17] 41)))
    have HO18 := Lib.hid (hO17.alloc (.cells #[.slice a17 m c17] 41))
    clear hO17 hb17
    obtain ⟨hx, hy⟩ := K18.out.see
    go_wp2_with fail
    clear hx hy
    obtain ⟨w18, hw18⟩ : ∃ w18, w17.alloc (.cells #[.slice a17 m c17] 41) = w18 := ⟨_, rfl⟩
    rw [hw18] at K18 HO18 ⊢
    clear hw18
    refine (eq_trie a17 a3 m c17 c3 tt w18 (nds_own HO18.out HFit.out) K18.out.read).mono ?_
    rintro e w19 ⟨rfl, hb19⟩
    have K19 := Lib.hid (K18.out.keep hb19)
    clear hb19
    obtain ⟨hx, hy⟩ := K19.out.see
    go_wp2_with fail
    refine (heldTrie_any w19.heap.size 1 m c7 a7 w19 (Nat.le_refl _) (nds_own K19.out.own HFm.out) (by omega) (by omega)).mono ?_
    rintro e w20 ⟨rfl, hb20⟩
    have K20 := Lib.hid (K19.out.keep hb20)
    clear hb20 hx hy
    go_wp2_with fail
    go_ret
    exact ⟨rfl, HB1.out.trans (K20.out.bel.mono (by omega))⟩

end Go.Proofs.Ytgmldhkipjadgaa.fnExactOpenPressed
