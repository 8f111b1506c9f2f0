/-
  The laws' marks on a trie: what they leave, and asking whether they are held.
-/
import Derived.Test.YtmgieahachphmaaMarkT
namespace Go.Proofs.Ytmgieahachphmaa
open Go.RowKit
set_option linter.unusedVariables false

/-- the mark of a node -/
def mkdN (m : Nat) : Nd := ⟨(m : Int), (m : Int) + 1, ((m : Int) + 1 + 1) % 3 == 0⟩
def marksN (k n : Nat) : List Nd := (List.range n).map fun i => mkdN (k + 3 * i)
theorem marksN_len (k n : Nat) : (marksN k n).length = n := by simp [marksN]
theorem marksN_at {k n i : Nat} (h : i < n) : (marksN k n)[i]? = some (mkdN (k + 3 * i)) := by simp [marksN, h]
theorem marksN_fits {k n : Nat} (h : k + 3 * n ≤ 100000000) : Fits (marksN k n) := by
  intro d hd
  unfold marksN at hd
  obtain ⟨i, hi, rfl⟩ := List.mem_map.1 hd
  simp at hi
  unfold mkdN
  exact ⟨⟨by show (-9223372036854775808 : Int) ≤ ((k + 3 * i : Nat) : Int); omega, by show ((k + 3 * i : Nat) : Int) ≤ _; omega⟩, by show (-9223372036854775808 : Int) ≤ ((k + 3 * i : Nat) : Int) + 1; omega, by show ((k + 3 * i : Nat) : Int) + 1 ≤ _; omega⟩

def markedN (t : List Nd) (k j : Nat) : List Nd := marksN k j ++ t.drop j
theorem markedN_zero (t : List Nd) (k : Nat) : markedN t k 0 = t := by simp [markedN, marksN]
theorem markedN_len {t : List Nd} {k j : Nat} (h : j ≤ t.length) : (markedN t k j).length = t.length := by simp [markedN, marksN]; omega
theorem markedN_succ {t : List Nd} {k j : Nat} (h : j < t.length) : (markedN t k j).set j (mkdN (k + 3 * j)) = markedN t k (j + 1) := by
  unfold markedN
  rw [List.set_append_right _ _ (by simp [marksN])]
  have e : j - (marksN k j).length = 0 := by simp [marksN]
  rw [e, List.drop_eq_getElem_cons h, List.set_cons_zero]
  unfold marksN
  rw [List.range_succ]
  simp
theorem markedN_all {t : List Nd} {k n : Nat} (h : t.length = n) : markedN t k n = marksN k n := by
  unfold markedN
  rw [List.drop_eq_nil_of_le (by omega), List.append_nil]

set_option maxRecDepth 1000000 in
set_option maxHeartbeats 1000000 in
theorem markNodes_own (base g n c k0 : Nat) (t : List Nd) (w : World) (h : w.ownsRow base 74 3 (.slice (some ⟨g, 0, none⟩) n c) n (ndc t)) (hbase : base ≤ w.heap.size) (hn : n ≤ 1048576) (hk : k0 ≤ 10000000) :
    Calls Try.prog 46 #[.slice (some ⟨g, 0, none⟩) n c, .int .i64 (k0 : Int)] w fun e w' => e = .returned (.int .i64 ((k0 + 3 * n : Nat) : Int)) ∧ w.grownBy w' (some g) ∧ w'.ownsRow base 74 3 (.slice (some ⟨g, 0, none⟩) n c) n (ndc (marksN k0 n)) := by
  have HB := own_base h
  have HO0 := Lib.hid h
  have hln : t.length = n := by have := h.1; rw [ndc_len] at this; omega
  have HLN := Lib.hid hln
  clear h hln
  go_enter Try.func46, Try.ntmps46
  go_wp2
  go_loopw [1, 5] (fun q i wr => ∃ (j m : Nat), j ≤ n ∧ i = .int .i64 j ∧ q = .int .i64 m ∧ Hid (m = k0 + 3 * j) ∧ m ≤ 10000000 + 3 * j ∧ Hid (wr.ownsRow base 74 3 (.slice (some ⟨g, 0, none⟩) n c) n (ndc (markedN t k0 j))) ∧ Hid (w.grownBy wr (some g))) (fun _ i _ => n - (intOf i).toNat)
  case atStart => exact ⟨0, k0, Nat.zero_le _, rfl, rfl, Lib.hid (by omega), by omega, Lib.hid (by rw [markedN_zero]; exact HO0.out), Lib.hid (World.grownBy.refl _ _)⟩
  case round =>
    obtain ⟨j, m, hj, rfl, rfl, HM, hm, HO, HBw⟩ := hrel
    by_cases hlt : j < n
    · have HUL : Hid ((markedN t k0 j).length = n) := Lib.hid (by rw [markedN_len (by rw [HLN.out]; exact hj), HLN.out])
      have hO := HO.out
      obtain ⟨d, hd⟩ : ∃ d, (markedN t k0 j)[j]? = some d := ⟨_, List.getElem?_eq_getElem (by rw [HUL.out]; exact hlt)⟩
      obtain ⟨e1, e2, e3⟩ := ndc_at hd
      have hf := hO.frozenAt (j * 3)
      have hf1 := hO.frozenAt (j * 3 + 1)
      have hf2 := hO.frozenAt (j * 3 + 2)
      have hx := hO.cellAt (j * 3) (by omega)
      have hx1 := hO.cellAt (j * 3 + 1) (by omega)
      have hx2 := hO.cellAt (j * 3 + 2) (by omega)
      rw [e1] at hx
      rw [e2] at hx1
      rw [e3] at hx2
      clear hO hd e1 e2 e3
      obtain ⟨bb, hbb⟩ : ∃ bb, (((m : Int) + 1 + 1) % 3 == 0) = bb := ⟨_, rfl⟩
      have hs := (((((HO.out.stored (j * 3) (.int .i64 (m : Int))).1.stored (j * 3 + 1) (.int .i64 ((m : Int) + 1))).1).stored (j * 3 + 2) (.bool bb)).1)
      rw [ndc_set _ _ _ (by rw [HUL.out]; exact hlt)] at hs
      have hmk : (⟨(m : Int), (m : Int) + 1, bb⟩ : Nd) = mkdN (k0 + 3 * j) := by rw [← HM.out, ← hbb]; rfl
      rw [hmk, markedN_succ (by rw [HLN.out]; exact hlt)] at hs
      have HS := Lib.hid hs
      clear hs hmk
      go_wp2
      go_roundw
      case rel => exact ⟨j + 1, m + 3, by omega, by go_num, by first | rfl | (congr 1; omega), Lib.hid (by rw [HM.out]; omega), by omega, HS, Lib.hid (grown_set (grown_set (grown_set HBw.out _) _) _)⟩
      case measure => simp [intOf]; omega
    · have HF : Hid (m = k0 + 3 * n) := Lib.hid (by rw [HM.out]; omega)
      have HOF : Hid (wr.ownsRow base 74 3 (.slice (some ⟨g, 0, none⟩) n c) n (ndc (marksN k0 n))) := Lib.hid (by
        have := HO.out
        have e : j = n := by omega
        rwa [e, markedN_all HLN.out] at this)
      go_wp2
      go_ret
      exact ⟨ret_num (by rw [HF.out]), HBw.out, HOF.out⟩

set_option maxRecDepth 1000000 in
theorem markTrie_own (base n c k0 : Nat) (a : Option Addr) (t : List Nd) (w : World) (h : w.ownsRow base 74 3 (.slice a n c) n (ndc t)) (hbase : base ≤ w.heap.size) (hn : n ≤ 1048576) (hk : k0 ≤ 10000000) :
    Calls Try.prog 18 #[.agg #[.slice a n c], .int .i64 (k0 : Int)] w fun e w' => e = .returned (.int .i64 ((k0 + 3 * n : Nat) : Int)) ∧ w.grownBy w' (Value.ownBlock (.slice a n c)) ∧ w'.ownsRow base 74 3 (.slice a n c) n (ndc (marksN k0 n)) := by
  rcases h.2 with ⟨e, e0⟩ | ⟨g, cap, cur, e, _⟩
  · injection e with e1 e2 e3
    subst e1 e2 e3
    have HO := Lib.hid h
    clear h
    have cN : Hid (∀ W, Calls Try.prog 46 #[.slice none 0 0, .int .i64 (k0 : Int)] W fun e w' => e = .returned (.int .i64 (k0 : Int)) ∧ W = w') := Lib.hid (fun W => by
      go_enter Try.func46, Try.ntmps46
      go_wp2
      go_loop [1, 5] (fun q i => q = .int .i64 k0 ∧ i = .int .i64 0) (fun _ _ => 0)
      case atStart => exact ⟨rfl, rfl⟩
      case round =>
        obtain ⟨rfl, rfl⟩ := hrel
        go_wp2
        go_ret
        exact ⟨rfl, rfl⟩)
    go_enter Try.func18, Try.ntmps18
    go_wp2_with fail
    refine (cN.out _).mono ?_
    rintro e w2 ⟨rfl, rfl⟩
    go_wp2_with fail
    go_ret
    exact ⟨rfl, World.grownBy_alloc w _ _, World.ownsRow_nil _ _ _ _⟩
  · injection e with e1 _ e3
    subst e1 e3
    have cN := Lib.hid (markNodes_own base g n c k0 t (w.alloc (.cells #[.slice (some ⟨g, 0, none⟩) n c] 30)) (h.alloc _) (by simp; omega) hn hk)
    clear h
    go_enter Try.func18, Try.ntmps18
    go_wp2_with fail
    refine cN.out.mono ?_
    rintro e w2 ⟨rfl, hb2, hO2⟩
    go_wp2_with fail
    go_ret
    exact ⟨rfl, (World.grownBy_alloc w _ _).trans hb2, hO2⟩

set_option maxRecDepth 1000000 in
set_option maxHeartbeats 1000000 in
theorem heldNodes_any (B k n c : Nat) (a : Option Addr) (w : World) (h : Nds B w a n c (marksN k n)) (hn : n ≤ 1048576) (hk : k ≤ 10) :
    Calls Try.prog 47 #[.slice a n c, .int .i64 (k : Int)] w fun e w' => e = .returned (.int .i64 ((k + 3 * n : Nat) : Int)) ∧ w = w' := by
  have C := h.cap
  have T := h.top
  have H := Lib.hid h
  clear h
  go_enter Try.func47, Try.ntmps47
  go_wp2
  go_loop [1, 5] (fun q i => ∃ (j m : Nat), j ≤ n ∧ i = .int .i64 j ∧ q = .int .i64 m ∧ Hid (m = k + 3 * j) ∧ m ≤ 10 + 3 * j) (fun _ i => n - (intOf i).toNat)
  case atStart => exact ⟨0, k, Nat.zero_le _, rfl, rfl, Lib.hid (by omega), by omega⟩
  case round =>
    obtain ⟨j, m, hj, rfl, rfl, HM, hm⟩ := hrel
    by_cases hlt : j < n
    · obtain ⟨b, o, l, p, e, rfl, hbB, hd, hl, hp, hc1, hc2, hc3⟩ := H.out.elem j hlt
      rw [marksN_at hlt, ← HM.out] at hd
      have hd2 := Option.some.inj hd
      unfold mkdN at hd2
      injection hd2 with e1 e2 e3
      subst e1 e2
      obtain ⟨bb, hbb⟩ : ∃ bb, (((m : Int) + 1 + 1) % 3 == 0) = bb := ⟨_, rfl⟩
      rw [hbb] at e3
      subst e3
      have hq1 : ((m : Int) != (m : Int)) = false := by simp
      have hq2 : (((m : Int) + 1) != ((m : Int) + 1)) = false := by simp
      have hq3 : (bb != bb) = false := by cases bb <;> rfl
      clear hd
      go_wp2
      go_round
      case rel => exact ⟨j + 1, m + 3, by omega, by go_num, by first | rfl | (congr 1; omega), Lib.hid (by rw [HM.out]; omega), by omega⟩
      case measure => simp [intOf]; omega
    · have HF : Hid (m = k + 3 * n) := Lib.hid (by rw [HM.out]; omega)
      go_wp2
      go_ret
      exact ⟨ret_num (by rw [HF.out]; omega), rfl⟩

set_option maxRecDepth 1000000 in
theorem heldTrie_any (B k n c : Nat) (a : Option Addr) (w : World) (hB : B ≤ w.heap.size) (h : Nds B w a n c (marksN k n)) (hn : n ≤ 1048576) (hk : k ≤ 10) :
    Calls Try.prog 19 #[.agg #[.slice a n c], .int .i64 (k : Int)] w fun e w' => e = .returned (.int .i64 ((k + 3 * n : Nat) : Int)) ∧ Below w.heap.size w w' := by
  have cN := Lib.hid (heldNodes_any B k n c a (w.alloc (.cells #[.slice a n c] 30)) (h.keep ((Below.refl _ _).alloc hB _)) hn hk)
  have HB1 : Hid (Below w.heap.size w (w.alloc (.cells #[.slice a n c] 30))) := Lib.hid ((Below.refl _ _).alloc (Nat.le_refl _) _)
  have hq0 : ¬ (((k + 3 * n : Nat) : Int) < 0) := by omega
  clear h
  go_enter Try.func19, Try.ntmps19
  go_wp2_with fail
  refine cN.out.mono ?_
  rintro e w2 ⟨rfl, rfl⟩
  go_wp2_with fail
  go_ret
  exact ⟨ret_num (by omega), HB1.out⟩

end Go.Proofs.Ytmgieahachphmaa
