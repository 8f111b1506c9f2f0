/-
  The program's EncodeMessage.
-/
import Derived.Test.YthjafoacnfgjhabEnc10
import Derived.Test.YthjafoacnfgjhabShelf
import Derived.Maps.AppendAt
import Derived.Laws.OwnMore
namespace Go.Proofs.Ythjafoacnfgjhab
open Go.RowKit
set_option linter.unusedVariables false

/-- a symbol that is none of the code -/
def badS (n : Nat) (z : Int) : Bool := decide (z < 0 ∨ (n : Int) ≤ z)

theorem isMessage1_any (z : Int) (a : Option Addr) (n c p : Nat) (w : World) (hp : w.cell? ⟨p, 0, none⟩ = some (.slice a n c)) (hn : n ≤ 1000) (r : Bool) (hr : r = badS n z) :
    Calls Try.prog 64 #[.int .i64 z, .pointer (some ⟨p, 0, none⟩)] w fun e w' => e = .returned (.bool r) ∧ w = w' := by
  by_cases h0 : z < 0
  · have hb : r = true := by rw [hr]; unfold badS; exact decide_eq_true (.inl h0)
    subst hb
    clear hr
    go_enter Try.func64, Try.ntmps64
    go_wp2
    go_ret
    exact ⟨rfl, rfl⟩
  · by_cases h1 : (n : Int) ≤ z
    · have hb : r = true := by rw [hr]; unfold badS; exact decide_eq_true (.inr h1)
      subst hb
      clear hr
      go_enter Try.func64, Try.ntmps64
      go_wp2
      go_ret
      exact ⟨ret_bool (by first | rfl | (simp; done) | (simp; omega)), rfl⟩
    · have hb : r = false := by rw [hr]; unfold badS; exact decide_eq_false (by omega)
      subst hb
      clear hr
      go_enter Try.func64, Try.ntmps64
      go_wp2
      go_ret
      exact ⟨ret_bool (by first | rfl | (simp; done) | (simp; omega)), rfl⟩

/-- what IndexFunc answers of the symbols -/
def IdxBad (n : Nat) (m : List Int) (q : Int) : Prop := (q = -1 ∧ MsTo n m m.length) ∨ (0 ≤ q ∧ ∃ (k : Nat) (x : Int), m[k]? = some x ∧ ¬ (0 ≤ x ∧ x < (n : Int)))

set_option maxRecDepth 1000000 in
set_option maxHeartbeats 1000000 in
theorem indexBad_any (B : Nat) (a : Option Addr) (n c p : Nat) (a' : Option Addr) (n' c' : Nat) (m : List Int) (w : World) (hB : B ≤ w.heap.size) (h' : Ints B w a' n' c' m) (hp : w.cell? ⟨p, 0, none⟩ = some (.slice a n c)) (hn : n ≤ 1000) :
    Calls Try.prog 81 #[.slice a' n' c', .func (.func 64) #[] #[.pointer (some ⟨p, 0, none⟩)]] w fun e w' => (∃ q : Int, e = .returned (.int .i64 q) ∧ IdxBad n m q) ∧ w = w' := by
  have L' := Lib.hid h'.len
  have C' := h'.sl.cap
  have T' := h'.sl.top
  have H' := Lib.hid h'
  have cF := Lib.hid (fun (z : Int) (r : Bool) (hr : r = badS n z) => isMessage1_any z a n c p w hp hn r hr)
  clear h' hp
  go_enter Try.func81, Try.ntmps81
  go_wp2
  go_loop [8] (fun i => ∃ k : Nat, k ≤ n' ∧ i = .int .i64 k ∧ Hid (MsTo n m k)) (fun i => n' - (intOf i).toNat)
  case atStart => exact ⟨0, Nat.zero_le _, rfl, Lib.hid (MsTo.zero _ _)⟩
  case round =>
    obtain ⟨k, hk, rfl, HN⟩ := hrel
    by_cases hlt : k < n'
    · obtain ⟨b, o, z, rfl, _, hs, _, hc⟩ := H'.out.elem k hlt
      have HS := Lib.hid hs
      clear hs
      have hk0 : (0 : Int) ≤ (k : Int) := by omega
      have hk1 : (k : Int) < (n' : Int) := by omega
      by_cases hz : 0 ≤ z ∧ z < (n : Int)
      · have cG := Lib.hid (cF.out z false (by unfold badS; symm; exact decide_eq_false (by omega)))
        have HN2 := Lib.hid (HN.out.succ HS.out hz)
        clear hz
        go_wp2_with (go_at_call 64; refine cG.out.mono ?_; rintro e w2 ⟨rfl, rfl⟩)
        go_round
        case rel => exact ⟨k + 1, by omega, by go_num, HN2⟩
        case measure => simp [intOf]; omega
      · have cG := Lib.hid (cF.out z true (by unfold badS; symm; exact decide_eq_true (by omega)))
        have HR : Hid (IdxBad n m (k : Int)) := Lib.hid (.inr ⟨by omega, k, z, HS.out, hz⟩)
        clear hz
        go_wp2_with (go_at_call 64; refine cG.out.mono ?_; rintro e w2 ⟨rfl, rfl⟩)
        go_ret
        exact ⟨⟨_, rfl, HR.out⟩, rfl⟩
    · have HR : Hid (IdxBad n m (-1)) := Lib.hid (.inl ⟨rfl, by
        have e : k = m.length := by have := L'.out; omega
        rw [← e]; exact HN.out⟩)
      go_wp2
      go_ret
      exact ⟨⟨_, rfl, HR.out⟩, rfl⟩

set_option maxRecDepth 1000000 in
set_option maxHeartbeats 1000000 in
theorem isMessage_any (a : Option Addr) (n c : Nat) (a' : Option Addr) (n' c' : Nat) (m : List Int) (w : World) (h' : Ints w.heap.size w a' n' c' m) (hn : n ≤ 1000) :
    Calls Try.prog 40 #[.slice a n c, .slice a' n' c'] w fun e w' => e = .returned (.bool (msgOk n m)) ∧ Below w.heap.size w w' := by
  have L' := Lib.hid h'.len
  have C' := h'.sl.cap
  have T' := h'.sl.top
  have H' := Lib.hid h'
  clear h'
  have HB0 : Hid (Below w.heap.size w (w.alloc (.cells #[.slice a n c] 22))) := Lib.hid ((Below.refl _ _).alloc (Nat.le_refl _) _)
  by_cases hl : n' ≤ 60
  · obtain ⟨ok, hok⟩ : ∃ ok, msgOk n m = ok := ⟨_, rfl⟩
    have HK := Lib.hid hok
    rw [hok]
    have hl2 : ¬ (60 : Int) < (n' : Int) := by omega
    have cI := Lib.hid (indexBad_any w.heap.size a n c w.heap.size a' n' c' m (w.alloc (.cells #[.slice a n c] 22)) (by simp) (H'.out.keep HB0.out) (by simp) hn)
    have cC : Hid (Calls Try.prog 63 #[.slice a' n' c', .func (.func 64) #[] #[.pointer (some ⟨w.heap.size, 0, none⟩)]] (w.alloc (.cells #[.slice a n c] 22)) fun e w' => e = .returned (.bool (!ok)) ∧ (w.alloc (.cells #[.slice a n c] 22)) = w') := Lib.hid (by
      obtain ⟨W, hW⟩ : ∃ W, w.alloc (.cells #[.slice a n c] 22) = W := ⟨_, rfl⟩
      rw [hW] at cI ⊢
      clear hW hok HB0
      go_enter Try.func63, Try.ntmps63
      go_wp2_with fail
      refine cI.out.mono ?_
      rintro e w2 ⟨⟨q, rfl, hq⟩, rfl⟩
      have HQ := Lib.hid hq
      clear hq
      by_cases h0 : 0 ≤ q
      · have HF : Hid (ok = false) := Lib.hid (by
          rcases HQ.out with ⟨h, _⟩ | ⟨_, k, x, hx, hb⟩
          · omega
          · rw [← HK.out]; exact msgOk_bad hx hb)
        go_wp2_with fail
        go_ret
        exact ⟨ret_bool (by rw [HF.out]; simp), rfl⟩
      · have HF : Hid (ok = true) := Lib.hid (by
          rcases HQ.out with ⟨_, h⟩ | ⟨h, _⟩
          · rw [← HK.out]; exact h.ok (Nat.le_refl _) (by have := L'.out; omega)
          · omega)
        go_wp2_with fail
        go_ret
        exact ⟨ret_bool (by rw [HF.out]; simp; omega), rfl⟩)
    clear hok
    go_enter Try.func40, Try.ntmps40
    go_wp2_with fail
    refine cC.out.mono ?_
    rintro e w2 ⟨rfl, rfl⟩
    go_wp2_with fail
    go_ret
    exact ⟨ret_bool (by simp), HB0.out⟩
  · have HF : Hid (msgOk n m = false) := Lib.hid (msgOk_long (by have := L'.out; omega))
    have hl2 : (60 : Int) < (n' : Int) := by omega
    go_enter Try.func40, Try.ntmps40
    go_wp2_with fail
    go_ret
    exact ⟨ret_bool HF.out.symm, HB0.out⟩

theorem inter_nil : ∀ l : List (List UInt8), List.intercalate ([] : List UInt8) l = l.flatten
  | [] => rfl
  | [x] => by simp [List.intercalate]
  | x :: y :: r => by
    have ih := inter_nil (y :: r)
    unfold List.intercalate at ih ⊢
    rw [List.intersperse_cons_cons]
    simp only [List.flatten_cons] at ih ⊢
    rw [ih]
    simp
theorem join_nil (xs : List ByteArray) : Lib.join (xs.map (·.data.toList)) [] = (xs.map tx).flatten := inter_nil _

end Go.Proofs.Ythjafoacnfgjhab
