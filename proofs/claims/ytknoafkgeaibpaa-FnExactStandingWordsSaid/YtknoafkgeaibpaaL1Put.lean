/-
  The reference's insertion of a number behind lesser ones: it stands last.
-/
import Derived.Test.YtknoafkgeaibpaaNumsL
import Derived.Test.YtknoafkgeaibpaaGrew
import Derived.Deep.RegionHeld3
namespace Go.Proofs.Ytknoafkgeaibpaa
open Go.RowKit
set_option linter.unusedVariables false

theorem nums_app (l m : List Nat) : nums (l ++ m) = nums l ++ nums m := by simp [nums]

/-- the empty row, made ahead or behind another one -/
theorem lit_a (w : World) : ((w.alloc (.cells #[] 3)).drew).ownsRow w.heap.size 3 1 (.slice (some ⟨w.heap.size, 0, none⟩) 0 0) 0 [] :=
  (World.ownsRow_lit w #[] 0 (Nat.le_refl _) (by unfold maxLen; omega) rfl).drew
theorem lit_b (w : World) (o : Obj) : (((w.alloc (.cells #[] 3)).alloc o).drew).ownsRow w.heap.size 3 1 (.slice (some ⟨w.heap.size, 0, none⟩) 0 0) 0 [] :=
  ((World.ownsRow_lit w #[] 0 (Nat.le_refl _) (by unfold maxLen; omega) rfl).alloc o).drew
theorem lit_c (w : World) (o : Obj) : (((w.alloc o).alloc (.cells #[] 3)).drew).ownsRow w.heap.size 3 1 (.slice (some ⟨w.heap.size + 1, 0, none⟩) 0 0) 0 [] := by
  have := (World.ownsRow_lit (base := w.heap.size) (e := 3) (size := 1) (w.alloc o) #[] 0 (by simp) (by unfold maxLen; omega) rfl).drew
  simpa using this
theorem bel_a (w : World) (o : Obj) : Below w.heap.size w (w.alloc o).drew := ((Below.refl _ _).alloc (Nat.le_refl _) _).drew
theorem bel_b (w : World) (o p : Obj) : Below w.heap.size w ((w.alloc o).alloc p).drew := (((Below.refl _ _).alloc (Nat.le_refl _) _).alloc (by simp) _).drew
theorem app_a {w w1 : World} {v : Value} {o : Obj} {n : Nat} {xs : List Value} {e : TypeId} (h : ((w.alloc o).drew).ownsRow w.heap.size e 1 v n xs) (hg : ((w.alloc o).drew).grownBy w1 v.ownBlock) : Below w.heap.size w w1 :=
  (bel_a w o).trans (below_grown h (Nat.le_refl _) (bel_a w o).size hg)
theorem app_b {w w1 : World} {v : Value} {o p : Obj} {n : Nat} {xs : List Value} {e : TypeId} (h : (((w.alloc o).alloc p).drew).ownsRow w.heap.size e 1 v n xs) (hg : (((w.alloc o).alloc p).drew).grownBy w1 v.ownBlock) : Below w.heap.size w w1 :=
  (bel_b w o p).trans (below_grown h (Nat.le_refl _) (bel_b w o p).size hg)

theorem far_b {w w1 : World} {v : Value} {o : Obj} {e : TypeId} (hg : (((w.alloc o).alloc (.cells #[v] e)).drew).grownBy w1 (Value.slice (some ⟨w.heap.size, 0, none⟩) 0 0).ownBlock) : Sl (w.heap.size + 2) w1 (some ⟨w.heap.size + 1, 0, none⟩) 1 1 [v] := by
  have h := ((sl_new (w.alloc o) e v).keep ((Below.refl _ _).drew)).far hg (fun x hx e => by
    injection hx with hx
    rw [← hx] at e
    simp [Value.ownBlock] at e)
  simpa using h

theorem far_c {w w1 : World} {v : Value} {o : Obj} {e : TypeId} (hg : (((w.alloc (.cells #[v] e)).alloc o).drew).grownBy w1 (Value.slice (some ⟨w.heap.size + 1, 0, none⟩) 0 0).ownBlock) : Sl (w.heap.size + 1) w1 (some ⟨w.heap.size, 0, none⟩) 1 1 [v] := by
  have h := ((sl_new w e v).keep (((Below.refl _ _).alloc (by simp) o).drew)).far hg (fun x hx e => by
    injection hx with hx
    rw [← hx] at e
    simp [Value.ownBlock] at e)
  exact h

set_option maxRecDepth 1000000 in
set_option maxHeartbeats 1000000 in
theorem l1Put_grow (B : Nat) (a : Option Addr) (n c : Nat) (l : List Nat) (x : Nat) (w : World) (hB : B ≤ w.heap.size) (h : Sl B w a n c (nums l)) (hx : ∀ y ∈ l, y < x) (hn : n ≤ 1000) (hx1 : x ≤ 1000) :
    Calls Try.prog 62 #[.slice a n c, .int .i64 (x : Int)] w fun e w' => ∃ v, e = .returned v ∧ w'.ownsRow w.heap.size 3 1 v (n + 1) (nums (l ++ [x])) ∧ Below w.heap.size w w' := by
  have L : l.length = n := by have := h.len; rwa [nums_len] at this
  have C := h.cap
  have T := h.top
  have H := Lib.hid h
  have HB := Lib.hid hB
  have HX := Lib.hid hx
  have HL := Lib.hid L
  clear h hB hx
  obtain ⟨i0, hi, hz0, hz1, hz2⟩ := info_parts infoI
  have hrow : nums (l ++ [x]) = nums l ++ [.int .i64 (x : Int)] := by rw [nums_app]; rfl
  have HRow := Lib.hid hrow
  clear hrow
  go_enter Try.func62, Try.ntmps62
  go_wp2
  go_loop [5] (fun i => ∃ k : Nat, k ≤ n ∧ i = .int .i64 k) (fun i => n - (intOf i).toNat)
  case atStart => exact ⟨0, Nat.zero_le _, rfl⟩
  case round =>
    obtain ⟨k, hk, rfl⟩ := hrel
    by_cases hlt : k < n
    · obtain ⟨b, o, e, hbB, hc⟩ := H.out.spot k (.int .i64 ((l[k]'(by omega) : Nat) : Int)) (nums_at (List.getElem?_eq_getElem (by omega)))
      subst e
      obtain ⟨y, hy⟩ : ∃ y, l[k]'(by omega) = y := ⟨_, rfl⟩
      have hyx : y < x := HX.out y (by rw [← hy]; exact List.getElem_mem _)
      rw [hy] at hc
      clear hy L
      go_wp2
      go_round
      case rel => exact ⟨k + 1, by omega, by go_num⟩
      case measure => simp [intOf]; omega
    · have e : k = n := by omega
      clear L
      have HC : Hid (∀ W, Below w.heap.size w W → Sl B W (if c = k then a else a.map (·.add k)) (n - k) (c - k) ((nums l).drop k)) := Lib.hid (fun W hW => (H.out.keep (hW.mono HB.out)).cut hk)
      have HF : Hid (∀ W, Below w.heap.size w W → Sl B W a k c (nums l)) := Lib.hid (fun W hW => by rw [e]; exact H.out.keep (hW.mono HB.out))
      have HV : Hid (∀ u ∈ nums l, u.oneCell' = true) := Lib.hid (nums_one l)
      have HD : Hid ((nums l).drop k = []) := Lib.hid (List.drop_eq_nil_of_le (by rw [nums_len, HL.out]; omega))
      have hnk : n - k = 0 := by omega
      rw [HD.out, hnk] at HC
      subst e
      have hk0 : (0 : Int) ≤ (k : Int) := by omega
      have hk2 : (k : Int) ≤ (c : Int) := by omega
      obtain ⟨nl, hnl⟩ : ∃ nl, nums l = nl := ⟨_, rfl⟩
      rw [hnl] at HF HV HRow
      have HNL := Lib.hid hnl
      clear hnl
      have hck : ¬ c = k ∨ c = k := by omega
      rcases hck with hck | hck
      all_goals
        first
          | (obtain rfl := hck
             have HC1 : Hid (∀ W, Below w.heap.size w W → Sl B W a 0 0 []) := Lib.hid (fun W hW => by have := HC.out W hW; rwa [if_pos rfl, Nat.sub_self] at this)
             clear HC)
          | (have HC1 : Hid (∀ W, Below w.heap.size w W → Sl B W (a.map (·.add k)) 0 (c - k) []) := Lib.hid (fun W hW => by have := HC.out W hW; rwa [if_neg hck] at this)
             clear HC)
        clear hnk
        go_wp2
        go_region_held3 (fun w' => True) (trivial)
          (first
            | (refine step_append_sl (by rfl) _ _ 34 (by rfl) w.heap.size 3 i0 (.int .i64 0) 8 Try.underlying34 hi hz0 hz1 hz2 (by rfl) _ _ _ (by rfl) (by exact hO2) (by rfl) (by exact HC1.out _ hB2) (by simp) (by unfold maxLen; omega) (by omega) (by exact hB2.size) ?_; intro v3 w3 hO3 hG3; have hB3 := hB2.trans (below_grown hO2 (Nat.le_refl _) hB2.size hG3))
            | (refine step_append_sl (by rfl) _ _ 34 (by rfl) w.heap.size 3 i0 (.int .i64 0) 8 Try.underlying34 hi hz0 hz1 hz2 (by rfl) _ _ _ (by rfl) (by first | exact hO1.alloc _ | exact hO1) (by rfl) (by first | exact sl_new _ _ _ | exact far_b hG1 | exact far_c hG1) (by simp [Value.oneCell']) (by unfold maxLen; omega) (by omega) (by first | exact hB1.size | exact (hB1.alloc hB1.size _).size) ?_; intro v2 w2 hO2 hG2; have hB2 : Below w.heap.size w w2 := (by first | exact hB1.trans (below_grown hO1 (Nat.le_refl _) hB1.size hG2) | exact (hB1.alloc hB1.size _).trans (below_grown (hO1.alloc _) (Nat.le_refl _) (hB1.alloc hB1.size _).size hG2)))
            | (refine step_append_sl (by rfl) _ _ 34 (by rfl) w.heap.size 3 i0 (.int .i64 0) 8 Try.underlying34 hi hz0 hz1 hz2 (by rfl) _ 0 [] (by rfl) (by first | exact lit_a w | exact lit_b w _ | exact lit_c w _) (by rfl) (by exact HF.out _ (by first | exact bel_a w _ | exact bel_b w _ _)) HV.out (by unfold maxLen; omega) (by omega) (by first | exact (bel_a w _).size | exact (bel_b w _ _).size) ?_; intro v1 w1 hO1 hG1; have hB1 : Below w.heap.size w w1 := (by first | exact app_a (lit_a w) hG1 | exact app_b (lit_b w _) hG1 | exact app_b (lit_c w _) hG1)))
        all_goals
          go_wp2
          go_ret
          exact ⟨v3, rfl, own_down (by rw [HRow.out]; simpa using hO3) (Nat.le_refl _), hB3⟩

end Go.Proofs.Ytknoafkgeaibpaa
