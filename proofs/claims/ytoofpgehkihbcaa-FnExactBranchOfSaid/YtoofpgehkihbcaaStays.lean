/-
  The nodes that stay: the reference's and the program's lists of them.
-/
import Derived.Test.YtoofpgehkihbcaaGvT
import Derived.Test.YtoofpgehkihbcaaPrT
import Derived.Test.YtoofpgehkihbcaaL2Kids
namespace Go.Proofs.Ytoofpgehkihbcaa
open Go.RowKit
set_option linter.unusedVariables false

/-- the text of a node stays -/
def stB (t : List Nd) (ps : List Txt) (x : Txt) : Bool := decide (x ∈ stl (wds t ps))

theorem stB_iff {t : List Nd} {ps : List Txt} {x : Txt} : stB t ps x = true ↔ St (wds t ps) x := by unfold stB; rw [decide_eq_true_eq, (stl_sta _).mem]

theorem stB_root {t : List Nd} {ps : List Txt} : stB t ps [] = true := stB_iff.2 (.inl rfl)

theorem stB_end {t : List Nd} {ps : List Txt} (hv : Valid t ps) {i : Nat} {d : Nd} {x : Txt} (hi : 1 ≤ i) (hd : t[i]? = some d) (hx : ps[i]? = some x) (he : d.e = true) : stB t ps x = true := stB_iff.2 ((stay_iff hv hi hd hx).1 (.inl he))

theorem stB_kids {t : List Nd} {ps : List Txt} (hv : Valid t ps) {i : Nat} {d : Nd} {x : Txt} (hi : 1 ≤ i) (hd : t[i]? = some d) (hx : ps[i]? = some x) (he : d.e = false) : ((((kidsTo t i t.length).length : Int) != 1) = stB t ps x) := by
  rw [Bool.eq_iff_iff, stB_iff, ← stay_iff hv hi hd hx, he]
  simp
  omega

set_option maxRecDepth 1000000 in
set_option maxHeartbeats 1000000 in
theorem l4Stays_any (B : Nat) (a : Option Addr) (n c i : Nat) (t : List Nd) (ps : List Txt) (x : Txt) (w : World) (hB : B ≤ w.heap.size) (h : Nds B w a n c t) (hv : Valid t ps) (hx : ps[i]? = some x) :
    Calls Try.prog 63 #[.agg #[.slice a n c], .int .i64 (i : Int)] w fun e w' => e = .returned (.bool (stB t ps x)) ∧ Below w.heap.size w w' := by
  have L := h.len
  have hi : i < n := by rw [← L, ← hv.lenEq]; exact (List.getElem?_eq_some_iff.1 hx).1
  have hn : n ≤ 481 := by rw [← L]; exact hv.size
  have HBx := Lib.hid ((Below.refl w.heap.size w).alloc (Nat.le_refl _) (.cells #[.slice a n c] 44))
  have H1 := Lib.hid (h.keep (HBx.out.mono hB))
  have C := h.cap
  have T := h.top
  have HB := Lib.hid hB
  obtain ⟨r, hr⟩ : ∃ r, stB t ps x = r := ⟨_, rfl⟩
  by_cases hi0 : i = 0
  · subst hi0
    have hx0 : x = [] := by rw [hv.tells.nil] at hx; exact (Option.some.inj hx).symm
    rw [hx0, stB_root] at hr
    subst hr
    have hb0 : (((0 : Nat) : Int) == 0) = true := by simp
    rw [show stB t ps x = true by rw [hx0]; exact stB_root]
    clear h hv hx hx0 L hB
    go_enter Try.func63, Try.ntmps63
    go_wp2
    go_ret
    exact ⟨rfl, HBx.out⟩
  · have hb0 : ((i : Int) == 0) = false := by simp [hi0]
    obtain ⟨b, o, l, p, e, rfl, hbB, hd, hl, hp, hc1, hc2, hc3⟩ := H1.out.elem i hi
    have hbb := Nat.lt_of_lt_of_le hbB hB
    cases e with
    | true =>
      rw [stB_end hv (by omega) hd hx rfl]
      clear h hv hx L hd hr hB hbb
      go_enter Try.func63, Try.ntmps63
      go_wp2
      go_ret
      exact ⟨rfl, HBx.out⟩
    | false =>
      have hk := stB_kids hv (by omega) hd hx rfl
      rw [L, hr] at hk
      rw [hr]
      have cK := Lib.hid (l2Kids_any B (some ⟨b, o, none⟩) n c i t _ (Nat.le_trans hB HBx.out.size) H1.out (by omega) hi)
      obtain ⟨m, hm⟩ : ∃ m, (kidsTo t i n).length = m := ⟨_, rfl⟩
      rw [hm] at hk cK
      clear h hv hx L hd hr hm hB hbb
      go_enter Try.func63, Try.ntmps63
      go_wp2_with (go_at_call 83; refine cK.out.mono ?_; rintro e2 w2 ⟨v, rfl, hO, hb2⟩; obtain ⟨a2, c2, rfl⟩ := own_slice hO; have HB2 := Lib.hid (HBx.out.trans (hb2.mono HBx.out.size)); clear hO hb2)
      go_ret
      exact ⟨rfl, HB2.out⟩

end Go.Proofs.Ytoofpgehkihbcaa
