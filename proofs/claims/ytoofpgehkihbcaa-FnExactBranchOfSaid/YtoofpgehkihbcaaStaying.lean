/-
  The lists of the nodes that stay.
-/
import Derived.Test.YtoofpgehkihbcaaStays
import Derived.Test.YtoofpgehkihbcaaNumsL
namespace Go.Proofs.Ytoofpgehkihbcaa
open Go.RowKit
set_option linter.unusedVariables false

/-- the places of the nodes that stay -/
def stP (t : List Nd) (ps : List Txt) : List Nat := plcs ps (stl (wds t ps))

theorem stP_len (t : List Nd) (ps : List Txt) : (stP t ps).length = (stl (wds t ps)).length := by simp [stP, plcs]

theorem stP_few {t : List Nd} {ps : List Txt} (hv : Valid t ps) : (stP t ps).length ≤ 81 := by
  rw [stP_len]
  have := stl_few (wds t ps)
  have := hv.wordsLen
  have := hv.few
  omega

theorem stP_step {t : List Nd} {ps : List Txt} (hv : Valid t ps) {k m : Nat} {x : Txt} (hp : PlTo ps (stl (wds t ps)) k m) (hx : ps[k]? = some x) :
    (stB t ps x = true → (stP t ps).take (m + 1) = (stP t ps).take m ++ [k] ∧ PlTo ps (stl (wds t ps)) (k + 1) (m + 1) ∧ m < (stP t ps).length) ∧ (stB t ps x = false → PlTo ps (stl (wds t ps)) (k + 1) m) := by
  have hs := stl_sta (wds t ps)
  have hsub := stl_sub hv
  constructor
  · intro h
    have hm : x ∈ stl (wds t ps) := by simpa [stB] using h
    obtain ⟨h1, h2⟩ := hp.hit hv.tells.asc hs.asc hsub hx hm
    have hml := (List.getElem?_eq_some_iff.1 h1).1
    have e : (stP t ps)[m]? = some k := by
      unfold stP plcs
      rw [List.getElem?_map, h1]
      simp only [Option.map_some, Option.some.injEq]
      exact asc_inj hv.tells.asc (idx_at (at_mem hx)) hx
    obtain ⟨hml2, e2⟩ := List.getElem?_eq_some_iff.1 e
    exact ⟨by rw [List.take_succ_eq_append_getElem hml2, e2], h2, hml2⟩
  · intro h
    have hm : x ∉ stl (wds t ps) := by simpa [stB] using h
    exact hp.miss hsub hx hm

theorem stP_all {t : List Nd} {ps : List Txt} (hv : Valid t ps) {m : Nat} (hp : PlTo ps (stl (wds t ps)) t.length m) : m = (stP t ps).length ∧ (stP t ps).take m = stP t ps := by
  rw [← hv.lenEq] at hp
  have := hp.all (stl_sub hv)
  rw [stP_len]
  refine ⟨this, List.take_of_length_le ?_⟩
  rw [stP_len, this]
  exact Nat.le_refl _

theorem stP_lt {t : List Nd} {ps : List Txt} (hv : Valid t ps) : ∀ (j i : Nat), (stP t ps)[j]? = some i → i < t.length ∧ ∃ x, (stl (wds t ps))[j]? = some x ∧ ps[i]? = some x := by
  intro j i h
  unfold stP plcs at h
  rw [List.getElem?_map, Option.map_eq_some_iff] at h
  obtain ⟨x, hx, rfl⟩ := h
  have hm := stl_sub hv x (at_mem hx)
  exact ⟨by rw [← hv.lenEq]; exact List.idxOf_lt_length_of_mem hm, x, hx, idx_at hm⟩

set_option maxRecDepth 1000000 in
set_option maxHeartbeats 1000000 in
theorem l4Staying_any (B : Nat) (a : Option Addr) (n c : Nat) (t : List Nd) (ps : List Txt) (w : World) (hB : B ≤ w.heap.size) (h : Nds B w a n c t) (hv : Valid t ps) :
    Calls Try.prog 62 #[.agg #[.slice a n c]] w fun e w' => ∃ v, e = .returned v ∧ w'.ownsRow w.heap.size 3 1 v (stP t ps).length (nums (stP t ps)) ∧ Below w.heap.size w w' := by
  have L := h.len
  have hn : n ≤ 481 := by rw [← L]; exact hv.size
  have C := h.cap
  have T := h.top
  have H := Lib.hid h
  have HB := Lib.hid hB
  have HV := Lib.hid hv
  have HL := Lib.hid L
  clear h hB hv L
  obtain ⟨i0, hii, hz0, hz1, hz2⟩ := info_parts infoI
  have hown0 := World.ownsRow_lit (base := w.heap.size + 1) (e := 3) (size := 1) (w.alloc (.cells #[.slice a n c] 44)) #[] 0 (by simp) (by unfold maxLen; omega) rfl
  have HO0 := Lib.hid hown0
  clear hown0
  go_enter Try.func62, Try.ntmps62
  go_wp2
  go_loopw [3, 4] (fun o q wr => ∃ (k m : Nat) (v : Value), k ≤ n ∧ m ≤ 481 ∧ q = .int .i64 k ∧ v = o ∧ Hid (PlTo ps (stl (wds t ps)) k m) ∧ Hid (m ≤ (stP t ps).length) ∧ Hid (wr.ownsRow (w.heap.size + 1) 3 1 v m (nums ((stP t ps).take m))) ∧ Hid (Below w.heap.size w wr) ∧ wr.cell? ⟨w.heap.size, 0, none⟩ = some (.slice a n c) ∧ w.heap.size < wr.heap.size) (fun _ q _ => n - (intOf q).toNat)
  case atStart => exact ⟨0, 0, _, by omega, by omega, rfl, rfl, Lib.hid PlTo.start, Lib.hid (Nat.zero_le _), Lib.hid (by simpa [nums] using HO0.out), Lib.hid (((Below.refl _ _).alloc (Nat.le_refl _) _).alloc (by simp) _), by simp, by simp; omega⟩
  case round =>
    clear HO0
    obtain ⟨k, m, v, hkn, hm, rfl, rfl, HP, HM, HO, HBw, hbox, hsz⟩ := hrel
    by_cases hlt : k < n
    · have hBw := HBw.out.size
      have hN := H.out.keep (HBw.out.mono HB.out)
      obtain ⟨_, x, _, hx⟩ := HV.out.tells.at (show k < t.length by rw [HL.out]; exact hlt)
      have HSt := Lib.hid (stP_step HV.out HP.out hx)
      have cS := Lib.hid (l4Stays_any B a n c k t ps x wr (Nat.le_trans HB.out hBw) hN HV.out hx)
      have HF := Lib.hid (stP_few HV.out)
      obtain ⟨b, o, l, p, e, rfl, _⟩ := hN.elem k hlt
      obtain ⟨r, hr⟩ : ∃ r, stB t ps x = r := ⟨_, rfl⟩
      rw [hr] at cS HSt
      clear hr hx hN
      cases r with
      | true =>
        obtain ⟨h1, h2, h3⟩ := HSt.out.1 rfl
        have H1 := Lib.hid h1
        have H2 := Lib.hid h2
        have H3 := Lib.hid h3
        have hm81 : m < 81 := by have := HF.out; omega
        clear h1 h2 h3
        go_wp2_with (first
          | (at_builtin; refine wpList_append_sl rfl _ _ 81 rfl (w.heap.size + 1) 3 i0 (.int .i64 0) 8 Try.underlying81 hii hz0 hz1 hz2 rfl _ _ _ rfl ((own_stay HO.out HB1.out).alloc _) rfl (sl_new _ _ _) (by simp [Value.oneCell']) (by unfold maxLen; omega) (by omega) (by have := HB1.out.size; simp; omega) ?_; intro v2 w2 hO2 hG2; have HO2 := Lib.hid hO2; have HG2 := Lib.hid hG2; clear hO2 hG2)
          | (go_at_call 63; refine cS.out.mono ?_; rintro en w1 ⟨rfl, hb1⟩; have HB1 := Lib.hid hb1; have hs1 := hb1.size; have hbox1 := (hb1.cell (p := ⟨w.heap.size, 0, none⟩) (by simp; omega)).trans hbox; clear hb1))
        have HB2 : Hid (Below w.heap.size w w2) := Lib.hid ((HBw.out.trans (HB1.out.mono hBw)).trans (((Below.refl _ w1).alloc (by omega) _).trans (below_grown ((own_stay HO.out HB1.out).alloc _) (by omega) (by simp; omega) HG2.out)))
        have hcell : w2.cell? ⟨w.heap.size, 0, none⟩ = some (.slice (some ⟨b, o, none⟩) n c) := (HG2.out.cell_far ⟨w.heap.size, 0, none⟩ (by simp; omega) (fun e => by have := (own_ge HO.out (g := w.heap.size) e.symm).1; omega)).trans ((World.cell?_alloc_lt _ _ _ (by simp; omega)).trans hbox1)
        have hsz2 := HG2.out.size
        simp only [World.size_alloc] at hsz2
        go_roundw
        case rel => exact ⟨k + 1, m + 1, v2, by omega, by omega, by go_num, rfl, H2, Lib.hid H3.out, Lib.hid (by rw [H1.out]; simpa [nums] using HO2.out), HB2, hcell, by omega⟩
        case measure => simp [intOf]; omega
      | false =>
        have H2 := Lib.hid (HSt.out.2 rfl)
        go_wp2_with (go_at_call 63; refine cS.out.mono ?_; rintro en w1 ⟨rfl, hb1⟩; have HB1 := Lib.hid hb1; have hs1 := hb1.size; have hbox1 := (hb1.cell (p := ⟨w.heap.size, 0, none⟩) (by simp; omega)).trans hbox; clear hb1)
        go_roundw
        case rel => exact ⟨k + 1, m, v, by omega, by omega, by go_num, rfl, H2, HM, Lib.hid (own_stay HO.out HB1.out), Lib.hid (HBw.out.trans (HB1.out.mono hBw)), hbox1, by omega⟩
        case measure => simp [intOf]; omega
    · obtain rfl : k = n := by omega
      have HA := Lib.hid (stP_all HV.out (by rw [HL.out]; exact HP.out))
      go_wp2
      go_ret
      exact ⟨_, rfl, by rw [← HA.out.1]; have := HO.out; rw [HA.out.2] at this; exact own_down this (by omega), HBw.out⟩

end Go.Proofs.Ytoofpgehkihbcaa
