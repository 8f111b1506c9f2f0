/-
  Those texts of a list that another list has, or has not: the reference.
-/
import Derived.Test.YtipkdoplgjgkpacPut2
import Derived.Test.YtipkdoplgjgkpacWords
import Derived.Deep.QuietTactic
import Derived.BigQuiet
namespace Go.Proofs.Ytipkdoplgjgkpac
open Go.RowKit
set_option linter.unusedVariables false

/-- is a text wanted: it is one of ys, or not -/
def inB (ys : List Txt) (has : Bool) (x : Txt) : Bool := decide (x ∈ ys) == has
def those (xs ys : List Txt) (has : Bool) : List Txt := xs.filter (inB ys has)

theorem those_yes {ws : List Txt} {f : Txt → Bool} {k : Nat} {x : Txt} (h : ws[k]? = some x) (hf : f x = true) : (ws.take (k + 1)).filter f = (ws.take k).filter f ++ [x] := by
  rw [List.take_add_one, h, List.filter_append]
  simp [hf]
theorem those_no {ws : List Txt} {f : Txt → Bool} {k : Nat} {x : Txt} (h : ws[k]? = some x) (hf : f x = false) : (ws.take (k + 1)).filter f = (ws.take k).filter f := by
  rw [List.take_add_one, h, List.filter_append]
  simp [hf]
theorem those_sub {xs ys : List Txt} {has : Bool} {x : Txt} (h : x ∈ those xs ys has) : x ∈ xs := (List.mem_filter.1 h).1
theorem those_len (xs ys : List Txt) (has : Bool) : (those xs ys has).length ≤ xs.length := List.length_filter_le _ _

set_option maxRecDepth 1000000 in
set_option maxHeartbeats 2000000 in
theorem l5Those_any (B : Nat) (a : Option Addr) (n c : Nat) (a2 : Option Addr) (n2 c2 : Nat) (has : Bool) (xs ys : List Txt) (w : World) (hB : B ≤ w.heap.size) (h : Wds B w a n c xs) (h2 : Wds B w a2 n2 c2 ys) (hn : n ≤ 1048576) (hw : ∀ x ∈ xs, x.length ≤ 1048576) :
    Calls Try.prog 34 #[.slice a n c, .slice a2 n2 c2, .bool has] w fun e w' => ∃ a' c', e = .returned (.slice a' (those xs ys has).length c') ∧ Wds w'.heap.size w' a' (those xs ys has).length c' (those xs ys has) ∧ Below w.heap.size w w' := by
  have L := Lib.hid h.len
  have C := h.sl.cap
  have T := h.sl.top
  have H := Lib.hid h
  have H2 := Lib.hid h2
  have HB := Lib.hid hB
  have HW := Lib.hid hw
  clear h h2 hB hw
  obtain ⟨i0, hi, hz0, hz1, hz2⟩ := info_parts infoS
  have HO0 := Lib.hid (World.ownsRow_lit (base := w.heap.size) (e := 9) (size := 1) w #[] 0 (by simp) (by unfold maxLen; omega) rfl)
  go_enter Try.func34, Try.ntmps34
  go_wp2
  go_loopw [7, 8] (fun o i wr => ∃ (k : Nat) (v : Value) (rs : List Txt), k ≤ n ∧ i = .int .i64 k ∧ v = o ∧ rs.length ≤ k ∧ Hid (wr.ownsRow w.heap.size 9 1 v rs.length (rs.map (fun x => Value.string (bx x)))) ∧ Hid (rs = (xs.take k).filter (inB ys has)) ∧ Hid (Below w.heap.size w wr)) (fun _ i _ => n - (intOf i).toNat)
  case atStart => exact ⟨0, _, [], Nat.zero_le _, rfl, rfl, Nat.le_refl _, Lib.hid (by simpa using HO0.out), Lib.hid (by simp), Lib.hid ((Below.refl _ _).alloc (Nat.le_refl _) _)⟩
  case round =>
    clear HO0
    obtain ⟨k, v, rs, hk, rfl, rfl, hrs, HO, HR, HBw⟩ := hrel
    by_cases hlt : k < n
    · obtain ⟨b, o, s, rfl, hbB, hs, hsz, hcw⟩ := H.out.elem k hlt
      have HS := Lib.hid hs
      have hbw : b < w.heap.size := by have := HB.out; omega
      have s12 : s.size ≤ 1048576 := by have := HW.out _ (at_mem hs); rwa [tx_len] at this
      have HBs := HBw.out.size
      have hc1 : wr.cell? ⟨b, o + k, none⟩ = some (.string s) := (HBw.out.cell (p := ⟨b, o + k, none⟩) hbw).trans hcw
      have hi0 : (0 : Int) ≤ (k : Int) := by omega
      have hi1 : (k : Int) < (n : Int) := by omega
      have cB := Lib.hid (fun (W : World) (hW : Below w.heap.size w W) => (l2Has_any B a2 n2 c2 ys s W (by have := HB.out; have := hW.size; omega) (H2.out.keep (hW.mono HB.out)) (by omega)).mono (fun e w' h => (⟨h.1, h.2.symm⟩ : e = _ ∧ w' = W)))
      obtain ⟨g, hg⟩ : ∃ g, decide (tx s ∈ ys) = g := ⟨_, rfl⟩
      have HF : Hid (inB ys has (tx s) = (g == has)) := Lib.hid (by unfold inB; rw [hg])
      rw [hg] at cB
      clear hs hg
      have HBd : Hid (Below w.heap.size w wr.drew) := Lib.hid HBw.out.drew
      obtain ⟨q, hq⟩ : ∃ q, (g == has) = q := ⟨_, rfl⟩
      have HF2 : Hid (inB ys has (tx s) = q) := Lib.hid (by rw [HF.out, hq])
      cases q with
      | false =>
        have HR2 : Hid (rs = (xs.take (k + 1)).filter (inB ys has)) := Lib.hid (by rw [those_no HS.out HF2.out]; exact HR.out)
        go_wp2_with fail
        refine (cB.out _ HBw.out).mono ?_
        rintro e w4 ⟨rfl, rfl⟩
        go_wp2
        go_roundw
        case rel => exact ⟨k + 1, v, rs, by omega, by go_num, rfl, by omega, HO, HR2, HBw⟩
        case measure => simp [intOf]; omega
      | true =>
        have HR2 : Hid (rs ++ [tx s] = (xs.take (k + 1)).filter (inB ys has)) := Lib.hid (by rw [those_yes HS.out HF2.out, HR.out])
        go_wp2_with fail
        refine (cB.out _ HBw.out).mono ?_
        rintro e w4 ⟨rfl, rfl⟩
        go_wp2_with (first
          | (at_builtin; refine wpList_append_sl rfl _ _ 39 rfl w.heap.size 9 i0 (.string ByteArray.empty) 16 Try.underlying39 hi hz0 hz1 hz2 rfl _ _ _ rfl (World.ownsRow.alloc (by exact HO.out) _) rfl (sl_new _ _ _) (by simp [Value.oneCell']) (by unfold maxLen; omega) (by omega) (by simp; omega) ?_; intro v2 w2 hO2 hG2))
        have HB3 : Below w.heap.size w w2 := HBw.out.trans (((Below.refl _ w4).alloc (by omega) _).trans (below_grown (HO.out.alloc _) (by omega) (by simp; omega) hG2))
        go_roundw
        case rel => exact ⟨k + 1, v2, rs ++ [tx s], by omega, by go_num, rfl, by simp; omega, Lib.hid (by simpa [bx_tx] using hO2), HR2, Lib.hid HB3⟩
        case measure => simp [intOf]; omega
    · have e : k = n := by omega
      have HX : Hid ((xs.take k).filter (inB ys has) = those xs ys has) := Lib.hid (by rw [List.take_of_length_le (by rw [L.out]; omega)]; rfl)
      have HW1 := Lib.hid (own_wds HO.out (fun x hx => by rw [HR.out, HX.out] at hx; have := HW.out x (those_sub hx); omega))
      have HR2 : Hid (rs = those xs ys has) := Lib.hid (by rw [HR.out, HX.out])
      clear e
      go_wp2
      go_ret
      obtain ⟨a1, c1, rfl, hW⟩ := HW1.out
      have h9 := HR2.out
      clear HR2 HR HX
      subst h9
      exact ⟨_, _, rfl, hW, HBw.out⟩

end Go.Proofs.Ytipkdoplgjgkpac
