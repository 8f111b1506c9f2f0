/-
  The reference's set of a list of texts.
-/
import Derived.Test.YtfehfjnmkaifbabPut2
namespace Go.Proofs.Ytfehfjnmkaifbab
open Go.RowKit
set_option linter.unusedVariables false

def setOf (xs : List Txt) : List Txt := xs.foldl put []
def setOk (xs : List Txt) : Bool := decide ((∀ x ∈ xs, IsW x) ∧ (setOf xs).length ≤ 40)

theorem foldl_put : ∀ (xs acc : List Txt), Asc acc → Asc (xs.foldl put acc) ∧ ∀ x, x ∈ xs.foldl put acc ↔ x ∈ acc ∨ x ∈ xs
  | [], acc, h => ⟨h, by simp⟩
  | y :: r, acc, h => by
    have := foldl_put r (put acc y) (asc_put y h)
    refine ⟨this.1, fun x => ?_⟩
    rw [List.foldl_cons, this.2, mem_put, List.mem_cons, or_assoc]

theorem setOf_asc (xs : List Txt) : Asc (setOf xs) := (foldl_put xs [] List.Pairwise.nil).1
theorem mem_setOf {xs : List Txt} {x : Txt} : x ∈ setOf xs ↔ x ∈ xs := by
  have := (foldl_put xs [] List.Pairwise.nil).2 x
  unfold setOf
  simpa using this
theorem setOf_id {xs : List Txt} (h : Asc xs) : setOf xs = xs := asc_ext (setOf_asc xs) h fun x => mem_setOf

theorem setOf_succ {xs : List Txt} {k : Nat} {x : Txt} (h : xs[k]? = some x) : setOf (xs.take (k + 1)) = put (setOf (xs.take k)) x := by
  obtain ⟨hk, e⟩ := List.getElem?_eq_some_iff.1 h
  unfold setOf
  rw [List.take_succ_eq_append_getElem hk, List.foldl_append, e]
  rfl

theorem setOk_bad {xs : List Txt} {x : Txt} {k : Nat} (h : xs[k]? = some x) (hx : ¬ IsW x) : setOk xs = false := by
  unfold setOk
  rw [decide_eq_false_iff_not]
  exact fun hh => hx (hh.1 x (at_mem h))

theorem setOk_all {xs : List Txt} (h : ∀ x ∈ xs, IsW x) : setOk xs = decide ((setOf xs).length ≤ 40) := by
  unfold setOk
  exact decide_eq_decide.2 ⟨fun hh => hh.2, fun hh => ⟨h, hh⟩⟩

theorem setOk_words {xs : List Txt} (h : setOk xs = true) : (∀ x ∈ setOf xs, IsW x) ∧ (setOf xs).length ≤ 40 := by
  unfold setOk at h
  rw [decide_eq_true_eq] at h
  exact ⟨fun x hx => h.1 x (mem_setOf.1 hx), h.2⟩


def SetPost (w : World) (xs : List Txt) (ok : Bool) (e : Ending) (w' : World) : Prop :=
  ∃ a' n' c', e = .returned (.tuple #[.slice a' n' c', .bool ok]) ∧ (ok = true → Wds w'.heap.size w' a' n' c' (setOf xs)) ∧ Below w.heap.size w w'


set_option maxRecDepth 1000000 in
set_option maxHeartbeats 1000000 in
theorem l2Set_any (B : Nat) (a : Option Addr) (n c : Nat) (xs : List Txt) (w : World) (hB : B ≤ w.heap.size) (h : Wds B w a n c xs) (hn : n ≤ 1048576) :
    Calls Try.prog 100 #[.slice a n c] w (SetPost w xs (setOk xs)) := by
  have L := Lib.hid h.len
  have C := h.sl.cap
  have T := h.sl.top
  have H := Lib.hid h
  have HB := Lib.hid hB
  clear h hB
  go_enter Try.func100, Try.ntmps100
  go_wp2
  go_loopw [4, 5] (fun o i wr => ∃ (k : Nat) (a' : Option Addr) (n' c' : Nat), k ≤ n ∧ n' ≤ k ∧ n' ≤ c' ∧ i = .int .i64 k ∧ o = .slice a' n' c' ∧ Hid (∀ x ∈ xs.take k, IsW x) ∧ Hid (Wds wr.heap.size wr a' n' c' (setOf (xs.take k))) ∧ Hid (Below w.heap.size w wr)) (fun _ i _ => n - (intOf i).toNat)
  case atStart => exact ⟨0, _, 0, 0, Nat.zero_le _, Nat.le_refl _, Nat.le_refl _, rfl, rfl, Lib.hid (by simp), Lib.hid (wds_nil _ _ 0 _), Lib.hid ((Below.refl _ _).alloc (Nat.le_refl _) _)⟩
  case round =>
    obtain ⟨k, a', n', c', hk, hnk, hnc, rfl, rfl, HI, HW, HBw⟩ := hrel
    by_cases hlt : k < n
    · obtain ⟨b, o, t, rfl, hbB, ht, htz, hc⟩ := Wds.elem (xs := xs) (H.out.keep (HBw.out.mono HB.out)) k hlt
      have HT := Lib.hid ht
      clear ht
      have cW := Lib.hid (fun w => l2Word_any t w htz)
      obtain ⟨r, hr⟩ : ∃ r, okW t = r := ⟨_, rfl⟩
      have HR := Lib.hid hr
      rw [hr] at cW
      clear hr
      cases r with
      | false =>
        have HS := Lib.hid (setOk_bad HT.out (fun hh => by have := HR.out; rw [okW_iff.2 hh] at this; cases this))
        go_wp2_with (go_at_call 49; refine (cW.out _).mono ?_; rintro e w' ⟨rfl, rfl⟩)
        go_ret2
        exact ⟨_, _, _, by rw [HS.out]; rfl, fun hh => by rw [HS.out] at hh; (cases hh), HBw.out.alloc (HBw.out.size) _⟩
      | true =>
        have HI2 : Hid (∀ x ∈ xs.take (k + 1), IsW x) := Lib.hid (by
          obtain ⟨hk', e⟩ := List.getElem?_eq_some_iff.1 HT.out
          intro x hx
          rw [List.take_succ_eq_append_getElem hk', List.mem_append, List.mem_singleton, e] at hx
          rcases hx with hx | hx
          · exact HI.out x hx
          · rw [hx]; exact okW_iff.1 HR.out)
        have cP := Lib.hid (l2Put_any wr.heap.size a' n' c' (setOf (xs.take k)) t wr (Nat.le_refl _) HW.out htz (by omega))
        have HLen := Lib.hid (put_len (setOf (xs.take k)) (tx t))
        have HL0 := Lib.hid HW.out.len
        go_wp2_with (first | (go_at_call 49; refine (cW.out _).mono ?_; rintro e w' ⟨rfl, rfl⟩) | (go_at_call 80; refine cP.out.mono ?_; rintro e w' ⟨a2, n2, c2, rfl, hW2, hB2⟩))
        have hl2 := hW2.len
        have hc2 := hW2.sl.cap
        have hlen := HLen.out
        have hl0 := HL0.out
        go_roundw
        case rel => exact ⟨k + 1, a2, n2, c2, by omega, by omega, hc2, by go_num, rfl, HI2, Lib.hid (by rw [setOf_succ HT.out]; exact hW2), Lib.hid (HBw.out.trans (hB2.mono HBw.out.size))⟩
        case measure => simp [intOf]; omega
    · have e : k = n := by omega
      subst e
      have hx : xs.take k = xs := List.take_of_length_le (by have := L.out; omega)
      rw [hx] at HI HW
      clear hx
      have HS := Lib.hid (setOk_all HI.out)
      have HL := Lib.hid HW.out.len
      go_wp2
      go_ret2
      exact ⟨_, _, _, by rw [HS.out, HL.out]; exact ret_tup (decide_eq_decide.2 (by omega)), fun _ => HW.out, HBw.out⟩

end Go.Proofs.Ytfehfjnmkaifbab
