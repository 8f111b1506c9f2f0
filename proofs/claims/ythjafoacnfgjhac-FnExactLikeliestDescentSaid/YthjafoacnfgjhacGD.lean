import Derived.Test.YthjafoacnfgjhacWordsN
import Derived.Test.YthjafoacnfgjhacPot
import Derived.Test.YthjafoacnfgjhacIsTrie
import Derived.Test.YthjafoacnfgjhacOwn
import Derived.WalkKit
import Derived.Test.YthjafoacnfgjhacFrI

/-
  The reference's words as a row that the call owns.
-/
namespace Go.Proofs.Ythjafoacnfgjhac
open Go.RowKit
set_option linter.unusedVariables false

set_option maxRecDepth 1000000 in
set_option maxHeartbeats 1000000 in
theorem l2Words_own (B : Nat) (a : Option Addr) (n c : Nat) (t : List Nd) (w : World) (hB : B ≤ w.heap.size) (h : Nds B w a n c t) (hn : n ≤ 1048576) :
    Calls Try.prog 32 #[.agg #[.slice a n c]] w fun e w' => ∃ v rs, e = .returned v ∧ w'.ownsRow w.heap.size 9 1 v rs.length (rs.map (fun x => Value.string (bx x))) ∧ (∀ ps, Valid t ps → rs = wds t ps) ∧ Below w.heap.size w w' := by
  have L := Lib.hid h.len
  have C := h.cap
  have T := h.top
  have H := Lib.hid h
  have HB := Lib.hid hB
  clear h hB
  obtain ⟨i0, hi, hz0, hz1, hz2⟩ := info_parts infoS
  have hown0 := World.ownsRow_lit (base := w.heap.size + 1) (e := 9) (size := 1) (w.alloc (.cells #[.slice a n c] 38)) #[] 0 (by simp) (by unfold maxLen; omega) rfl
  have HO0 := Lib.hid hown0
  clear hown0
  go_enter Try.func32, Try.ntmps32
  go_wp2
  go_loopw [3, 4] (fun o i wr => ∃ (k : Nat) (v : Value) (rs : List Txt), k ≤ n ∧ i = .int .i64 k ∧ v = o ∧ rs.length ≤ k ∧ Hid (wr.ownsRow (w.heap.size + 1) 9 1 v rs.length (rs.map (fun x => Value.string (bx x)))) ∧ Hid (∀ x ∈ rs, x.length ≤ 13) ∧ Hid (RawOf t k rs) ∧ Hid (Below w.heap.size w wr) ∧ wr.cell? ⟨w.heap.size, 0, none⟩ = some (.slice a n c) ∧ w.heap.size < wr.heap.size) (fun _ i _ => n - (intOf i).toNat)
  case atStart => exact ⟨0, _, [], Nat.zero_le _, rfl, rfl, Nat.le_refl _, Lib.hid (by simpa using HO0.out), Lib.hid (by simp), Lib.hid (fun ps h1 h2 => by simp [wds]), Lib.hid (((Below.refl _ _).alloc (Nat.le_refl _) _).alloc (by simp) _), by simp, by simp; omega⟩
  case round =>
    clear HO0
    obtain ⟨k, v, rs, hk, rfl, rfl, hrs, HO, HX, HR, HBw, hbox, hsz⟩ := hrel
    by_cases hlt : k < n
    · obtain ⟨b, o, l, p, e, rfl, hbB, hd, hl, hp, hc1, hc2, hc3⟩ := (H.out.keep (HBw.out.mono HB.out)).elem k hlt
      have HD := Lib.hid hd
      clear hd
      cases e with
      | false =>
        have HR2 := Lib.hid (HR.out.skip HD.out rfl)
        go_wp2
        go_roundw
        case rel => exact ⟨k + 1, v, rs, by omega, by go_num, rfl, by omega, HO, HX, HR2, HBw, hbox, hsz⟩
        case measure => simp [intOf]; omega
      | true =>
        have cP := Lib.hid (l2Prefix_any B (some ⟨b, o, none⟩) n c k t wr (Nat.le_trans HB.out HBw.out.size) (H.out.keep (HBw.out.mono HB.out)) hlt)
        have HBs := HBw.out.size
        go_wp2_with (first
          | (go_at_call 54; refine cP.out.mono ?_; rintro e w1 ⟨s, rfl, hs13, hpre, hb1⟩; have HO1 := Lib.hid (own_stay HO.out hb1); have HPre := Lib.hid hpre; have HB1 := Lib.hid hb1; have hz1s := hb1.size; clear hpre hb1)
          | (at_builtin; refine wpList_append_sl rfl _ _ 53 rfl (w.heap.size + 1) 9 i0 (.string ByteArray.empty) 16 Try.underlying53 hi hz0 hz1 hz2 rfl _ _ _ rfl (HO1.out.alloc _) rfl (sl_new _ _ _) (by simp [Value.oneCell']) (by unfold maxLen; omega) (by omega) (by simp; omega) ?_; intro v2 w2 hO2 hG2))
        have HB2 : Below w.heap.size w w2 := (HBw.out.trans (HB1.out.mono HBw.out.size)).trans (((Below.refl _ w1).alloc (by omega) _).trans (below_grown (HO1.out.alloc _) (by omega) (by simp; omega) hG2))
        have hcell : w2.cell? ⟨w.heap.size, 0, none⟩ = some (.slice (some ⟨b, o, none⟩) n c) := by
          rw [hG2.cell_far ⟨w.heap.size, 0, none⟩ (by simp; omega) (fun e => by have := (own_ge HO1.out (g := w.heap.size) e.symm).1; omega), World.cell?_alloc_lt _ _ _ (by simp; omega), HB1.out.cell (p := ⟨w.heap.size, 0, none⟩) hsz]
          exact hbox
        have hsz2 := hG2.size
        simp only [World.size_alloc] at hsz2
        go_roundw
        case rel => exact ⟨k + 1, v2, rs ++ [tx s], by omega, by go_num, rfl, by simp; omega, Lib.hid (by simpa [bx_tx] using hO2), Lib.hid (by intro x hx; rcases List.mem_append.1 hx with hx | hx; exact HX.out x hx; rw [List.mem_singleton] at hx; rw [hx, tx_len]; exact hs13), Lib.hid (HR.out.succ HD.out rfl HPre.out), Lib.hid HB2, hcell, by omega⟩
        case measure => simp [intOf]; omega
    · have HN : Hid (∀ ps, Valid t ps → rs = wds t ps) := Lib.hid (fun ps hv => HR.out.all (by have := L.out; omega) hv)
      go_wp2
      go_ret
      exact ⟨_, rs, rfl, own_down HO.out (by omega), HN.out, HBw.out⟩

end Go.Proofs.Ythjafoacnfgjhac

/-
  Whether a word can be drawn of a trie: the reference's test.
-/
namespace Go.Proofs.Ythjafoacnfgjhac
open Go.RowKit
set_option linter.unusedVariables false
set_option linter.unusedSimpArgs false

theorem potB_no {t : List Nd} (h : trieB t = false) : potB t = false := by simp [potB, h]
theorem potB_yes {t : List Nd} (h : potB t = true) : IsT t ∧ 0 < (wordsOf t).length := by
  unfold potB at h
  simp only [Bool.and_eq_true, decide_eq_true_eq] at h
  exact ⟨trieB_iff.1 h.1, h.2⟩

/-- the reference's words of a valid trie -/
theorem drawnWords_own (B : Nat) (a : Option Addr) (n c : Nat) (t : List Nd) (w : World) (hB : B ≤ w.heap.size) (h : Nds B w a n c t) (hn : n ≤ 1048576) (ht : IsT t) :
    Calls Try.prog 32 #[.agg #[.slice a n c]] w fun e w' => ∃ a' c', e = .returned (.slice a' (wordsOf t).length c') ∧ Wds w'.heap.size w' a' (wordsOf t).length c' (wordsOf t) ∧ Below w.heap.size w w' := by
  obtain ⟨ps, hv⟩ := ht
  have hs := wordsOf_short t
  refine (l2Words_own B a n c t w hB h hn).mono ?_
  rintro e w' ⟨v, rs, rfl, hO, hraw, hb⟩
  have e1 := hraw ps hv
  rw [← wordsOf_eq hv] at e1
  subst e1
  obtain ⟨a', c', rfl, hW⟩ := own_wds hO (fun x hx => by have := hs x hx; omega)
  exact ⟨a', c', rfl, hW, hb⟩

set_option maxRecDepth 1000000 in
set_option maxHeartbeats 1000000 in
theorem l9Drawn_any (B : Nat) (a : Option Addr) (n c : Nat) (t : List Nd) (W : World) (hB : B ≤ W.heap.size) (h : Nds B W a n c t) (hn : n ≤ 1048576) :
    Calls Try.prog 31 #[.agg #[.slice a n c]] W fun e w' => e = .returned (.bool (potB t)) ∧ Below W.heap.size W w' := by
  have HB1 : Hid (Below W.heap.size W (W.alloc (.cells #[.slice a n c] 38))) := Lib.hid ((Below.refl _ _).alloc (Nat.le_refl _) _)
  have hbx : (W.alloc (.cells #[.slice a n c] 38)).cell? ⟨W.heap.size, 0, none⟩ = some (.slice a n c) := by simp
  have hlt : W.heap.size < (W.alloc (.cells #[.slice a n c] 38)).heap.size := by simp
  have cT := Lib.hid (fun W' (hw : Below W.heap.size W W') => l2Trie_any B a n c t W' (Nat.le_trans hB hw.size) (h.keep (hw.mono hB)) hn)
  have cW := Lib.hid (fun W' (hw : Below W.heap.size W W') (ht : IsT t) => drawnWords_own B a n c t W' (Nat.le_trans hB hw.size) (h.keep (hw.mono hB)) hn ht)
  have HP : Hid (potB t = (trieB t && decide (0 < (wordsOf t).length))) := Lib.hid rfl
  have HT : Hid (trieB t = true → IsT t) := Lib.hid (fun h => trieB_iff.1 h)
  obtain ⟨m, hm⟩ : ∃ m, (wordsOf t).length = m := ⟨_, rfl⟩
  obtain ⟨r, hr⟩ : ∃ r, trieB t = r := ⟨_, rfl⟩
  obtain ⟨q, hq⟩ : ∃ q, potB t = q := ⟨_, rfl⟩
  have hm40 := wordsOf_size t
  rw [hm] at HP cW hm40
  rw [hr] at HP cT HT
  rw [hq] at HP ⊢
  clear hm hr hq h hB
  go_enter Try.func31, Try.ntmps31
  go_wp2_with fail
  obtain ⟨W1, hW1⟩ : ∃ W1, W.alloc (.cells #[.slice a n c] 38) = W1 := ⟨_, rfl⟩
  rw [hW1] at HB1 hbx hlt ⊢
  clear hW1
  have HX := Lib.hid hbx
  clear hbx
  refine (cT.out _ HB1.out).mono ?_
  rintro e w2 ⟨rfl, hb2⟩
  have HB2 := Lib.hid (HB1.out.trans (hb2.mono HB1.out.size))
  have hbx := (hb2.cell (p := ⟨W.heap.size, 0, none⟩) hlt).trans HX.out
  clear hb2
  cases r with
  | false =>
    obtain rfl : q = false := by rw [HP.out]; rfl
    go_wp2_with fail
    go_ret
    exact ⟨rfl, HB2.out⟩
  | true =>
    have hit := HT.out rfl
    go_wp2_with (refine (cW.out _ HB2.out hit).mono ?_; rintro e w3 ⟨a3, c3, rfl, hW3, hb3⟩; have HB3 := Lib.hid (HB2.out.trans (hb3.mono HB2.out.size)); clear hW3 hb3)
    by_cases hm : 0 < m
    · obtain rfl : q = true := by rw [HP.out]; simp [hm]
      have hm1 : (0 : Int) < (m : Int) := by omega
      have hm2 : decide ((0 : Int) < (m : Int)) = true := decide_eq_true hm1
      have hm3 : decide (0 < m) = true := decide_eq_true hm
      go_wp2_with fail
      go_ret
      exact ⟨by simp [hm], HB3.out⟩
    · obtain rfl : q = false := by rw [HP.out]; simp [hm]
      have hm1 : ¬ (0 : Int) < (m : Int) := by omega
      have hm2 : decide ((0 : Int) < (m : Int)) = false := decide_eq_false hm1
      have hm3 : decide (0 < m) = false := decide_eq_false hm
      go_wp2_with fail
      go_ret
      exact ⟨by simp [hm], HB3.out⟩

end Go.Proofs.Ythjafoacnfgjhac

/-
  The greater of two numbers: the reference's helper.
-/
namespace Go.Proofs.Ythjafoacnfgjhac
open Go.RowKit
set_option linter.unusedVariables false

theorem l1Most_is (x y : Int) (w : World) : Calls Try.prog 66 #[.int .i64 x, .int .i64 y] w fun e w' => e = .returned (.int .i64 (if y < x then x else y)) ∧ w' = w := by
  by_cases h : y < x
  · rw [if_pos h]
    go_enter Try.func66, Try.ntmps66
    go_wp2
    go_ret
    exact ⟨rfl, rfl⟩
  · rw [if_neg h]
    go_enter Try.func66, Try.ntmps66
    go_wp2
    go_ret
    exact ⟨rfl, rfl⟩

end Go.Proofs.Ythjafoacnfgjhac

/-
  The reference's fractions.
-/
namespace Go.Proofs.Ythjafoacnfgjhac
open Go.RowKit
set_option linter.unusedVariables false

set_option maxRecDepth 1000000 in
set_option maxHeartbeats 1000000 in
theorem l9Cut_any (a b : Nat) (w : World) (ha : a ≤ 9000000000000000000) (hb : b ≤ 9000000000000000000) (h0 : 0 < b) :
    Calls Try.prog 41 #[.int .i64 (a : Int), .int .i64 (b : Int)] w fun e w' => e = .returned (fv (fra a b)) ∧ Below w.heap.size w w' := by
  have HB1 : Hid (Below w.heap.size w (w.alloc (.cells #[.int .i64 0, .int .i64 0] 33))) := Lib.hid ((Below.refl _ _).alloc (Nat.le_refl _) _)
  have HW1 : Hid (∀ n, ((w.alloc (.cells #[.int .i64 0, .int .i64 0] 33)).drewN n).heap[w.heap.size]? = some (.cells #[.int .i64 0, .int .i64 0] 33)) := Lib.hid (fun n => new_drewN _ _ _)
  have hg := gcd_le_left' (a := a) h0
  have HF : Hid (fra a b = (a / Nat.gcd a b, b / Nat.gcd a b)) := Lib.hid rfl
  go_enter Try.func41, Try.ntmps41
  go_wp2
  go_loopw [5, 6] (fun x y wr => ∃ p q n : Nat, x = .int .i64 p ∧ y = .int .i64 q ∧ p ≤ 9000000000000000000 ∧ q ≤ 9000000000000000000 ∧ Hid (Nat.gcd p q = Nat.gcd a b) ∧ wr = (w.alloc (.cells #[.int .i64 0, .int .i64 0] 33)).drewN n) (fun _ y _ => (intOf y).toNat)
  case atStart => exact ⟨a, b, 0, rfl, rfl, ha, hb, Lib.hid rfl, rfl⟩
  case round =>
    obtain ⟨p, q, n, rfl, rfl, hp, hq, HG, rfl⟩ := hrel
    by_cases h0 : 0 < q
    · have hq0 : ((q : Int) != 0) = true := by simp; omega
      have hq1 : ¬ (q : Int) = 0 := by omega
      have hqb : ((q : Int) == 0) = false := by simp; omega
      obtain ⟨r, hr⟩ : ∃ r, p % q = r := ⟨_, rfl⟩
      have hrq : r < q := by rw [← hr]; exact Nat.mod_lt _ h0
      have e1 : (p : Int).tmod (q : Int) = (r : Int) := by rw [tmod_cast, hr]
      have HN : Hid (Nat.gcd q r = Nat.gcd a b) := Lib.hid (by rw [← HG.out, ← hr, Nat.gcd_comm q, ← Nat.gcd_rec, Nat.gcd_comm])
      clear hr
      go_wp2
      go_quiet (fail)
      go_wp2
      go_roundw
      case rel => exact ⟨q, r, n + nq, rfl, by first | rfl | go_num, hq, by omega, HN, by simp⟩
      case measure => simp [intOf]; omega
    · have h00 : q = 0 := by omega
      subst h00
      have HE : Nat.gcd a b = p := by rw [← HG.out, Nat.gcd_zero_right]
      rw [HE] at HF hg
      clear HE HG
      have hg0 : ¬ (p : Int) = 0 := by omega
      have hgb : ((p : Int) == 0) = false := by simp; omega
      have hgn : ¬ p = 0 := by omega
      obtain ⟨x, hx⟩ : ∃ x, a / p = x := ⟨_, rfl⟩
      obtain ⟨y, hy⟩ : ∃ y, b / p = y := ⟨_, rfl⟩
      have hxa : x ≤ a := by rw [← hx]; exact Nat.div_le_self _ _
      have hyb : y ≤ b := by rw [← hy]; exact Nat.div_le_self _ _
      have e1 : (a : Int).tdiv (p : Int) = (x : Int) := by rw [tdiv_cast, hx]
      have e2 : (b : Int).tdiv (p : Int) = (y : Int) := by rw [tdiv_cast, hy]
      rw [hx, hy] at HF
      clear hx hy
      have w1 : IntKind.i64.wrap (x : Int) = (x : Int) := by rw [IntKind.wrap_i64]; omega
      have w2 : IntKind.i64.wrap (y : Int) = (y : Int) := by rw [IntKind.wrap_i64]; omega
      have w3 : IntKind.i64.wrap ((a : Int).tdiv (p : Int)) = (x : Int) := by rw [e1, w1]
      have w4 : IntKind.i64.wrap ((b : Int).tdiv (p : Int)) = (y : Int) := by rw [e2, w2]
      have cM := Lib.hid (fun W => l1Most_is (p : Int) 1 W)
      have em : (if (1 : Int) < (p : Int) then (p : Int) else 1) = (p : Int) := by split <;> omega
      rw [em] at cM
      clear em
      go_wp2_with fail
      go_region_held3 (fun _ => True) (first | trivial) (first | (go_at_call 66; refine (cM.out _).mono ?_; rintro e w2 ⟨rfl, rfl⟩))
      go_wp2_with fail
      have hh : ((w.alloc (.cells #[.int .i64 0, .int .i64 0] 33)).drewN (n + 1)).heap[w.heap.size]? = some (.cells #[.int .i64 0, .int .i64 0] 33) := new_drewN _ _ _
      have hb := pair_below (v1 := .int .i64 (x : Int)) (v2 := .int .i64 (y : Int)) (below_drewN HB1.out (n + 1)) (Nat.le_refl _)
      obtain ⟨hc0, hc1⟩ := pair_set (a' := .int .i64 (x : Int)) (b' := .int .i64 (y : Int)) hh
      generalize (((w.alloc (.cells #[.int .i64 0, .int .i64 0] 33)).drewN (n + 1)).setCell ⟨w.heap.size, 0, none⟩ (.int .i64 (x : Int))).setCell ⟨w.heap.size, 1, none⟩ (.int .i64 (y : Int)) = W at *
      refine bodyPost_ret (v := fv (x, y)) (by simp [results, Try.results41, go_sem, hc0, hc1, fv]) rfl ⟨by rw [HF.out], hb⟩

end Go.Proofs.Ythjafoacnfgjhac
