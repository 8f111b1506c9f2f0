/-
  The words of a list that begin with a text: the reference's helper; the words under a node are those that begin with its prefix.
-/
import Derived.Test.YtibdfhhbkbncgaaBegins
import Derived.Test.YtibdfhhbkbncgaaGvT
import Derived.Test.YtibdfhhbkbncgaaBel
import Derived.Test.YtibdfhhbkbncgaaPlaceC
namespace Go.Proofs.Ytibdfhhbkbncgaa
open Go.RowKit
set_option linter.unusedVariables false

/-- the words of a list that begin with a text -/
def undr (x : Txt) (ws : List Txt) : List Txt := ws.filter fun y => decide (x <+: y)

theorem mem_undr {x y : Txt} {ws : List Txt} : y ∈ undr x ws ↔ y ∈ ws ∧ x <+: y := by simp [undr]
theorem undr_app (x : Txt) (a b : List Txt) : undr x (a ++ b) = undr x a ++ undr x b := by simp [undr]
theorem undr_hit {x : Txt} {ws : List Txt} {k : Nat} {y : Txt} (h : ws[k]? = some y) (hp : x <+: y) : undr x (ws.take (k + 1)) = undr x (ws.take k) ++ [y] := by
  obtain ⟨hk, e⟩ := List.getElem?_eq_some_iff.1 h
  rw [List.take_succ_eq_append_getElem hk, undr_app, e]
  simp [undr, hp]
theorem undr_miss {x : Txt} {ws : List Txt} {k : Nat} {y : Txt} (h : ws[k]? = some y) (hp : ¬ x <+: y) : undr x (ws.take (k + 1)) = undr x (ws.take k) := by
  obtain ⟨hk, e⟩ := List.getElem?_eq_some_iff.1 h
  rw [List.take_succ_eq_append_getElem hk, undr_app, e]
  simp [undr, hp]
theorem undr_le (x : Txt) (ws : List Txt) : (undr x ws).length ≤ ws.length := List.length_filter_le _ _
theorem undr_nil (ws : List Txt) : undr [] ws = ws := by
  unfold undr
  rw [List.filter_eq_self]
  intro y _
  simp

/-- the words of the nodes side by side -/
theorem undr_mid {t : List Nd} {ps : List Txt} (h : Tells t t.length ps) {i b : Nat} (hb : Behind t ps i b) {x : Txt} (hx : ps[i]? = some x) : ∀ k, k ≤ t.length → undr x (wds (t.take k) (ps.take k)) = midw t ps i (min k b)
  | 0, _ => by simp [wds, undr, midw]
  | k + 1, hk => by
    have ih := undr_mid h hb hx k (by omega)
    obtain ⟨d, y, hd, hy⟩ := h.at (show k < t.length by omega)
    rw [wds_succ h.len hd hy, undr_app, ih]
    have hi := hb.iff h hx hy
    by_cases hkb : k < b
    · have e1 : min (k + 1) b = k + 1 := by omega
      have e2 : min k b = k := by omega
      rw [e1, e2]
      by_cases hik : i ≤ k
      · have hp : x <+: y := hi.2 ⟨hik, hkb⟩
        rw [midw_succ h.len hik hd hy]
        cases d.e <;> simp [undr, hp]
      · have hp : ¬ x <+: y := fun hh => hik (hi.1 hh).1
        have z : ∀ m, m ≤ i → midw t ps i m = [] := fun m hm => by
          unfold midw
          rw [List.drop_eq_nil_of_le (by rw [List.length_take]; omega), List.drop_eq_nil_of_le (by rw [List.length_take]; omega)]
          rfl
        rw [z k (by omega), z (k + 1) (by omega)]
        cases d.e <;> simp [undr, hp]
    · have e1 : min (k + 1) b = b := by omega
      have e2 : min k b = b := by omega
      have hp : ¬ x <+: y := fun hh => hkb (hi.1 hh).2
      rw [e1, e2]
      cases d.e <;> simp [undr, hp]

theorem undr_under {t : List Nd} {ps : List Txt} (hv : Valid t ps) {i b : Nat} (hb : Behind t ps i b) {x : Txt} (hx : ps[i]? = some x) : midw t ps i b = undr x (wds t ps) := by
  have := undr_mid hv.tells hb hx t.length (Nat.le_refl _)
  have e : min t.length b = b := by have := hb.le; omega
  rw [e, List.take_of_length_le (Nat.le_refl _), List.take_of_length_le (by rw [hv.lenEq]; exact Nat.le_refl _)] at this
  exact this.symm

theorem undr_ends {t : List Nd} {ps : List Txt} (hv : Valid t ps) {i b : Nat} (hb : Behind t ps i b) {x : Txt} (hx : ps[i]? = some x) : ends ((t.take b).drop i) = (undr x (wds t ps)).length := by
  rw [← undr_under hv hb hx]
  unfold midw
  rw [wds_len _ _ (by simp [hv.lenEq])]

/-- no node: no word -/
theorem undr_none {t : List Nd} {ps : List Txt} (hv : Valid t ps) {x : Txt} (hx : x ∉ ps) : undr x (wds t ps) = [] := by
  unfold undr
  rw [List.filter_eq_nil_iff]
  intro y hy
  simp only [decide_eq_true_eq]
  intro hp
  exact hx (cap.pre_closed hv ((wds_sub t ps).subset hy) hp)

set_option maxRecDepth 1000000 in
set_option maxHeartbeats 1000000 in
theorem l3Under_any (B : Nat) (a : Option Addr) (n c : Nat) (ws : List Txt) (s : ByteArray) (w : World) (hB : B ≤ w.heap.size) (h : Wds B w a n c ws) (hsh : ∀ x ∈ ws, x.length ≤ 12) (hn : n ≤ 40) (hs : s.size ≤ 100) :
    Calls Try.prog 30 #[.slice a n c, .string s] w fun e w' => ∃ v, e = .returned v ∧ w'.ownsRow w.heap.size 9 1 v (undr (tx s) ws).length ((undr (tx s) ws).map (fun x => Value.string (bx x))) ∧ Below w.heap.size w w' := by
  have L := Lib.hid h.len
  have C := h.sl.cap
  have T := h.sl.top
  have H := Lib.hid h
  have HB := Lib.hid hB
  have HS := Lib.hid hsh
  clear h hB hsh
  obtain ⟨i0, hii, hz0, hz1, hz2⟩ := info_parts infoS
  have hown0 := World.ownsRow_lit (base := w.heap.size) (e := 9) (size := 1) w #[] 0 (Nat.le_refl _) (by unfold maxLen; omega) rfl
  have HO0 := Lib.hid hown0
  clear hown0
  go_enter Try.func30, Try.ntmps30
  go_wp2
  go_loopw [5, 6] (fun o q wr => ∃ (k m : Nat) (v : Value), k ≤ n ∧ m ≤ k ∧ q = .int .i64 k ∧ v = o ∧ Hid ((undr (tx s) (ws.take k)).length = m) ∧ Hid (wr.ownsRow w.heap.size 9 1 v m ((undr (tx s) (ws.take k)).map (fun x => Value.string (bx x)))) ∧ Hid (Below w.heap.size w wr)) (fun _ q _ => n - (intOf q).toNat)
  case atStart => exact ⟨0, 0, _, Nat.zero_le _, Nat.le_refl _, rfl, rfl, Lib.hid (by simp [undr]), Lib.hid (by simpa [undr] using HO0.out), Lib.hid ((Below.refl _ _).alloc (Nat.le_refl _) _)⟩
  case round =>
    clear HO0
    obtain ⟨k, m, v, hk, hmk, rfl, rfl, HM, HO, HBw⟩ := hrel
    by_cases hlt : k < n
    · obtain ⟨b, o, y, rfl, hbB, hy, hyz, hc⟩ := (H.out.keep (HBw.out.mono HB.out)).elem k hlt
      have hy2 : ws[k]? = some (tx y) := by
        rw [List.getElem?_map] at hy
        obtain ⟨z, hz, e⟩ := Option.map_eq_some_iff.1 hy
        rw [hz, ← e, tx_bx]
      have hy12 : y.size ≤ 12 := by have := HS.out _ (at_mem hy2); rwa [tx_len] at this
      have HY := Lib.hid hy2
      clear hy hy2 hyz
      obtain ⟨q, hq⟩ := bool_of (tx s <+: tx y)
      have cB := Lib.hid (fun w => l2Begins_any y s q hq w (by omega) hs)
      have HQ := Lib.hid hq
      clear hq
      have hbs := HBw.out.size
      cases q with
      | false =>
        have HMs : Hid (undr (tx s) (ws.take (k + 1)) = undr (tx s) (ws.take k)) := Lib.hid (undr_miss HY.out (fun h => by have := HQ.out.2 h; cases this))
        go_wp2_with (first | (go_at_call 55; refine (cB.out _).mono ?_; rintro e w2 ⟨rfl, rfl⟩))
        go_roundw
        case rel => exact ⟨k + 1, m, _, by omega, by omega, by go_num, rfl, Lib.hid (by rw [HMs.out]; exact HM.out), Lib.hid (by rw [HMs.out]; exact HO.out), HBw⟩
        case measure => simp [intOf]; omega
      | true =>
        have HMs : Hid (undr (tx s) (ws.take (k + 1)) = undr (tx s) (ws.take k) ++ [tx y]) := Lib.hid (undr_hit HY.out (HQ.out.1 rfl))
        go_wp2_with (first
          | (go_at_call 55; refine (cB.out _).mono ?_; rintro e w2 ⟨rfl, rfl⟩)
          | (at_builtin; refine wpList_append_sl rfl _ _ 43 rfl w.heap.size 9 i0 (.string ByteArray.empty) 16 Try.underlying43 hii hz0 hz1 hz2 rfl _ _ _ rfl (HO.out.alloc _) rfl (sl_new _ _ _) (by simp [Value.oneCell']) (by unfold maxLen; omega) (by omega) (by simp; omega) ?_; intro v2 w2 hO2 hG2; have HO2 := Lib.hid hO2; have HB2 : Hid (Below w.heap.size w w2) := Lib.hid (HBw.out.trans (((Below.refl _ wr).alloc hbs _).trans (below_grown (HO.out.alloc _) (Nat.le_refl _) (by simp; omega) hG2))); clear hO2 hG2))
        go_roundw
        case rel => exact ⟨k + 1, m + 1, v2, by omega, by omega, by go_num, rfl, Lib.hid (by rw [HMs.out, List.length_append, HM.out]; rfl), Lib.hid (by rw [HMs.out]; simpa [bx_tx] using HO2.out), HB2⟩
        case measure => simp [intOf]; omega
    · have HN : Hid (undr (tx s) (ws.take k) = undr (tx s) ws) := Lib.hid (by rw [List.take_of_length_le (by have := L.out; omega)])
      go_wp2
      go_ret
      exact ⟨_, rfl, by rw [← HN.out, HM.out]; exact HO.out, HBw.out⟩

end Go.Proofs.Ytibdfhhbkbncgaa
