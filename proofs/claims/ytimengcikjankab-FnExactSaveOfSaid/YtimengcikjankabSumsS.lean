/-
  What a trie saves, and how deep it is: the reference and the program answer the same.
-/
import Derived.Test.YtimengcikjankabWordAt
namespace Go.Proofs.Ytimengcikjankab
open Go.RowKit
set_option linter.unusedVariables false

/-- all letters -/
def sl : List Txt → Nat
  | [] => 0
  | x :: r => sl r + x.length

theorem sl_app : ∀ a b : List Txt, sl (a ++ b) = sl a + sl b
  | [], b => by simp [sl]
  | x :: a, b => by simp only [List.cons_append, sl]; rw [sl_app a b]; omega
theorem sl_succ {xs : List Txt} {k : Nat} {x : Txt} (h : xs[k]? = some x) : sl (xs.take (k + 1)) = sl (xs.take k) + x.length := by
  obtain ⟨hk, e⟩ := List.getElem?_eq_some_iff.1 h
  rw [List.take_succ_eq_append_getElem hk, sl_app, e]
  simp [sl]

/-- the most letters -/
def mxl : List Txt → Nat
  | [] => 0
  | x :: r => max (mxl r) x.length

theorem mxl_app : ∀ a b : List Txt, mxl (a ++ b) = max (mxl a) (mxl b)
  | [], b => by simp [mxl]
  | x :: a, b => by simp only [List.cons_append, mxl]; rw [mxl_app a b]; omega
theorem mxl_succ {xs : List Txt} {k : Nat} {x : Txt} (h : xs[k]? = some x) : mxl (xs.take (k + 1)) = max (mxl (xs.take k)) x.length := by
  obtain ⟨hk, e⟩ := List.getElem?_eq_some_iff.1 h
  rw [List.take_succ_eq_append_getElem hk, mxl_app, e]
  simp [mxl]
theorem le_mxl : ∀ {xs : List Txt} {x : Txt}, x ∈ xs → x.length ≤ mxl xs
  | [], _, h => by cases h
  | y :: r, x, h => by
    unfold mxl
    rcases List.mem_cons.1 h with e | h
    · rw [e]; omega
    · have := le_mxl h; omega
theorem mxl_le : ∀ {xs : List Txt} {b : Nat}, (∀ x ∈ xs, x.length ≤ b) → mxl xs ≤ b
  | [], _, _ => Nat.zero_le _
  | y :: r, b, h => by
    unfold mxl
    have h1 := mxl_le (xs := r) (fun x hx => h x (List.mem_cons_of_mem _ hx))
    have h2 := h y List.mem_cons_self
    omega

theorem ret_tup2 {a b : Int} {ok : Bool} (h : b = a) : Ending.returned (.tuple #[.int .i64 a, .bool ok]) = .returned (.tuple #[.int .i64 b, .bool ok]) := by rw [h]

theorem mxl_words {t : List Nd} {ps : List Txt} (hv : Valid t ps) : mxl (wds t ps) = mxl ps := by
  apply Nat.le_antisymm
  · exact mxl_le fun x hx => le_mxl ((wds_sub t ps).subset hx)
  · refine mxl_le fun x hx => ?_
    rcases (hv.pre.mem x).1 hx with e | ⟨w, hw, hp⟩
    · rw [e]; exact Nat.zero_le _
    · exact Nat.le_trans hp.length_le (le_mxl hw)

set_option maxHeartbeats 1000000 in
theorem agreeSaveOf (t : List Nd) (n : Nat) (hn : n ≤ 1048576) : ∃ (v : Int) (ok : Bool),
    (∀ (W : World) (a : Option Addr), Nds W.heap.size W a n n t → Calls Try.prog 19 #[.agg #[.slice a n n]] W fun e w' => e = .returned (.tuple #[.int .i64 v, .bool ok]) ∧ Below W.heap.size W w') ∧
    (∀ (W : World) (a : Option Addr), Nds W.heap.size W a n n t → Calls Try.prog 20 #[.agg #[.slice a n n]] W fun e w' => e = .returned (.tuple #[.int .i64 v, .bool ok]) ∧ Below W.heap.size W w') := by
  by_cases ht : IsT t
  · have HT := Lib.hid (trieB_iff.2 ht)
    obtain ⟨ws, m, _, hm, hm40, hsh, hcs, hci⟩ := both_words t n hn ht
    have HM := Lib.hid hm
    have HSh := Lib.hid hsh
    have cS := Lib.hid hcs
    have cI := Lib.hid hci
    clear hm hsh hcs hci ht
    refine ⟨(sl ws : Int) - n + 1, true, fun W a hN => ?_, fun W a hN => ?_⟩
    · have HB1 : Hid (Below W.heap.size W (W.alloc (.cells #[.slice a n n] 30))) := Lib.hid ((Below.refl _ _).alloc (Nat.le_refl _) _)
      have hbx : (W.alloc (.cells #[.slice a n n] 30)).cell? ⟨W.heap.size, 0, none⟩ = some (.slice a n n) := by simp
      have hlt : W.heap.size < (W.alloc (.cells #[.slice a n n] 30)).heap.size := by simp
      have HN := Lib.hid (hN.keep HB1.out)
      clear hN
      go_enter Try.func19, Try.ntmps19
      go_wp2_with fail
      obtain ⟨W1, hW1⟩ : ∃ W1, W.alloc (.cells #[.slice a n n] 30) = W1 := ⟨_, rfl⟩
      rw [hW1] at HB1 hbx hlt HN ⊢
      clear hW1
      have HX := Lib.hid hbx
      clear hbx
      refine (l2Trie_any W.heap.size a n n t W1 HB1.out.size HN.out hn).mono ?_
      rw [HT.out]
      rintro e W2 ⟨rfl, hb2⟩
      have HB2 := Lib.hid (HB1.out.trans (hb2.mono HB1.out.size))
      have N2 := Lib.hid (HN.out.keep (hb2.mono HB1.out.size))
      have hbx := (hb2.cell (p := ⟨W.heap.size, 0, none⟩) hlt).trans HX.out
      have hlt2 : W.heap.size < W2.heap.size := Nat.lt_of_lt_of_le hlt hb2.size
      clear hb2
      go_wp2_with fail
      refine (cS.out W2 a _ HB2.out.size N2.out).mono ?_
      rintro e W3 ⟨a3, c3, rfl, hW3, hb3⟩
      have HB3 := Lib.hid (HB2.out.trans (hb3.mono HB2.out.size))
      have HW3 := Lib.hid hW3
      have C3 := hW3.sl.cap
      have T3 := hW3.sl.top
      have hbx3 := (hb3.cell (p := ⟨W.heap.size, 0, none⟩) hlt2).trans hbx
      clear hW3 hb3 hbx
      go_wp2_with fail
      go_loop [4, 6] (fun s i => ∃ (k q : Nat), k ≤ m ∧ i = .int .i64 k ∧ s = .int .i64 q ∧ q ≤ 12 * k ∧ Hid (sl (ws.take k) = q)) (fun _ i => m - (intOf i).toNat)
      case atStart => exact ⟨0, 0, Nat.zero_le _, rfl, rfl, by omega, Lib.hid rfl⟩
      case round =>
        obtain ⟨k, q, hk, rfl, rfl, hq, HQ⟩ := hrel
        by_cases hlk : k < m
        · obtain ⟨b, o, s, rfl, _, hs, _, hc⟩ := HW3.out.elem k hlk
          have HS := Lib.hid (sl_succ hs)
          have hs12 : s.size ≤ 12 := by have := HSh.out _ (at_mem hs); rwa [tx_len] at this
          clear hs
          go_wp2
          go_round
          case rel => exact ⟨k + 1, q + s.size, by omega, by go_num, by go_num, by omega, Lib.hid (by rw [HS.out, HQ.out, tx_len])⟩
          case measure => simp [intOf]; omega
        · have HF : Hid (sl ws = q) := Lib.hid (by rw [← HQ.out, List.take_of_length_le (by rw [HM.out]; omega)])
          go_wp2
          go_ret2
          exact ⟨ret_tup2 (by rw [HF.out]), HB3.out⟩
    · have HB1 : Hid (Below W.heap.size W (W.alloc (.cells #[.slice a n n] 30))) := Lib.hid ((Below.refl _ _).alloc (Nat.le_refl _) _)
      have hbx : (W.alloc (.cells #[.slice a n n] 30)).cell? ⟨W.heap.size, 0, none⟩ = some (.slice a n n) := by simp
      have hlt : W.heap.size < (W.alloc (.cells #[.slice a n n] 30)).heap.size := by simp
      have HN := Lib.hid (hN.keep HB1.out)
      clear hN
      go_enter Try.func20, Try.ntmps20
      go_wp2_with fail
      obtain ⟨W1, hW1⟩ : ∃ W1, W.alloc (.cells #[.slice a n n] 30) = W1 := ⟨_, rfl⟩
      rw [hW1] at HB1 hbx hlt HN ⊢
      clear hW1
      have HX := Lib.hid hbx
      clear hbx
      refine (cI.out W1 a _ HB1.out.size HN.out).mono ?_
      rintro e W3 ⟨a3, c3, rfl, hW3, hb3⟩
      have HB3 := Lib.hid (HB1.out.trans (hb3.mono HB1.out.size))
      have HW3 := Lib.hid hW3
      have C3 := hW3.sl.cap
      have T3 := hW3.sl.top
      have hbx3 := (hb3.cell (p := ⟨W.heap.size, 0, none⟩) hlt).trans HX.out
      clear hW3 hb3
      go_wp2_with fail
      go_loop [6, 18] (fun s i => ∃ (k q : Nat), k ≤ m ∧ i = .int .i64 k ∧ s = .int .i64 q ∧ q ≤ 12 * k ∧ Hid (sl (ws.take k) = q)) (fun _ i => m - (intOf i).toNat)
      case atStart => exact ⟨0, 0, Nat.zero_le _, rfl, rfl, by omega, Lib.hid rfl⟩
      case round =>
        obtain ⟨k, q, hk, rfl, rfl, hq, HQ⟩ := hrel
        by_cases hlk : k < m
        · obtain ⟨b, o, s, rfl, _, hs, _, hc⟩ := HW3.out.elem k hlk
          have HS := Lib.hid (sl_succ hs)
          have hs12 : s.size ≤ 12 := by have := HSh.out _ (at_mem hs); rwa [tx_len] at this
          clear hs
          go_wp2
          go_round
          case rel => exact ⟨k + 1, q + s.size, by omega, by go_num, by go_num, by omega, Lib.hid (by rw [HS.out, HQ.out, tx_len])⟩
          case measure => simp [intOf]; omega
        · have HF : Hid (sl ws = q) := Lib.hid (by rw [← HQ.out, List.take_of_length_le (by rw [HM.out]; omega)])
          go_wp2
          go_ret2
          exact ⟨ret_tup2 (by rw [HF.out]; omega), HB3.out⟩
  · have HT := Lib.hid (trieB_no ht)
    refine ⟨0, false, fun W a hN => ?_, fun W a hN => ?_⟩
    · have HB1 : Hid (Below W.heap.size W (W.alloc (.cells #[.slice a n n] 30))) := Lib.hid ((Below.refl _ _).alloc (Nat.le_refl _) _)
      have hbx : (W.alloc (.cells #[.slice a n n] 30)).cell? ⟨W.heap.size, 0, none⟩ = some (.slice a n n) := by simp
      have hlt : W.heap.size < (W.alloc (.cells #[.slice a n n] 30)).heap.size := by simp
      have HN := Lib.hid (hN.keep HB1.out)
      clear hN
      go_enter Try.func19, Try.ntmps19
      go_wp2_with fail
      obtain ⟨W1, hW1⟩ : ∃ W1, W.alloc (.cells #[.slice a n n] 30) = W1 := ⟨_, rfl⟩
      rw [hW1] at HB1 hbx hlt HN ⊢
      clear hW1
      have HX := Lib.hid hbx
      clear hbx
      refine (l2Trie_any W.heap.size a n n t W1 HB1.out.size HN.out hn).mono ?_
      rw [HT.out]
      rintro e W2 ⟨rfl, hb2⟩
      go_wp2_with fail
      go_ret2
      exact ⟨rfl, HB1.out.trans (hb2.mono HB1.out.size)⟩
    · have HB1 : Hid (Below W.heap.size W (W.alloc (.cells #[.slice a n n] 30))) := Lib.hid ((Below.refl _ _).alloc (Nat.le_refl _) _)
      have hbx : (W.alloc (.cells #[.slice a n n] 30)).cell? ⟨W.heap.size, 0, none⟩ = some (.slice a n n) := by simp
      have hlt : W.heap.size < (W.alloc (.cells #[.slice a n n] 30)).heap.size := by simp
      have HN := Lib.hid (hN.keep HB1.out)
      clear hN
      go_enter Try.func20, Try.ntmps20
      go_wp2_with fail
      obtain ⟨W1, hW1⟩ : ∃ W1, W.alloc (.cells #[.slice a n n] 30) = W1 := ⟨_, rfl⟩
      rw [hW1] at HB1 hbx hlt HN ⊢
      clear hW1
      have HX := Lib.hid hbx
      clear hbx
      refine (implWords_any W.heap.size a n n t W1 HB1.out.size HN.out).mono ?_
      rw [HT.out]
      rintro e W2 ⟨v2, rfl, _, hb2⟩
      go_wp2_with fail
      go_ret2
      exact ⟨rfl, HB1.out.trans (hb2.mono HB1.out.size)⟩

end Go.Proofs.Ytimengcikjankab
