/-
  The reference's words of a trie, and whether two tries are the same.
-/
import Derived.Test.YtfehfjnmkaifbabBas
import Derived.Test.YtfehfjnmkaifbabNds
import Derived.Laws.StructEq
namespace Go.Proofs.Ytfehfjnmkaifbab
open Go.RowKit
set_option linter.unusedVariables false

/-- the words as they are read off -/
def RawOf (t : List Nd) (k : Nat) (rs : List Txt) : Prop := ∀ ps, Tells t t.length ps → (∀ x ∈ ps, x.length ≤ 12) → rs = wds (t.take k) (ps.take k)

theorem RawOf.succ {t : List Nd} {k : Nat} {rs : List Txt} {s : ByteArray} {d : Nd} (h : RawOf t k rs) (hd : t[k]? = some d) (he : d.e = true) (hp : PreOf t k s) : RawOf t (k + 1) (rs ++ [tx s]) := by
  intro ps h1 h2
  obtain ⟨d', x, e1, e2⟩ := h1.at (List.getElem?_eq_some_iff.1 hd).1
  rw [wds_succ h1.len hd e2, he, if_pos rfl, ← h ps h1 h2, hp ps h1 h2 x e2]
theorem RawOf.skip {t : List Nd} {k : Nat} {rs : List Txt} {d : Nd} (h : RawOf t k rs) (hd : t[k]? = some d) (he : d.e = false) : RawOf t (k + 1) rs := by
  intro ps h1 h2
  obtain ⟨d', x, e1, e2⟩ := h1.at (List.getElem?_eq_some_iff.1 hd).1
  rw [wds_succ h1.len hd e2, he, if_neg (by simp), List.append_nil, ← h ps h1 h2]
theorem RawOf.all {t : List Nd} {k : Nat} {rs : List Txt} (h : RawOf t k rs) (hk : t.length ≤ k) {ps : List Txt} (hv : Valid t ps) : rs = wds t ps := by
  have := h ps hv.tells hv.short
  rwa [List.take_of_length_le hk, List.take_of_length_le (by rw [hv.lenEq]; exact hk)] at this

def RawPost (t : List Nd) (w : World) (e : Ending) (w' : World) : Prop :=
  ∃ a n c rs, e = .returned (.slice a n c) ∧ Wds w'.heap.size w' a n c rs ∧ n ≤ t.length ∧ (∀ ps, Valid t ps → rs = wds t ps) ∧ (∀ x ∈ rs, x.length ≤ 13) ∧ Below w.heap.size w w'

set_option maxRecDepth 1000000 in
set_option maxHeartbeats 1000000 in
theorem l2Words_any (B : Nat) (a : Option Addr) (n c : Nat) (t : List Nd) (w : World) (hB : B ≤ w.heap.size) (h : Nds B w a n c t) (hn : n ≤ 1048576) :
    Calls Try.prog 54 #[.agg #[.slice a n c]] w (RawPost t w) := by
  have L := Lib.hid h.len
  have C := h.cap
  have T := h.top
  have H := Lib.hid h
  have HB := Lib.hid hB
  clear h hB
  obtain ⟨i0, hi, hz0, hz1, hz2⟩ := info_parts infoS
  have hown0 := World.ownsRow_lit (base := w.heap.size + 1) (e := 9) (size := 1) (w.alloc (.cells #[.slice a n c] 30)) #[] 0 (by simp) (by unfold maxLen; omega) rfl
  have HO0 := Lib.hid hown0
  clear hown0
  go_enter Try.func54, Try.ntmps54
  go_wp2
  go_loopw [3, 4] (fun o i wr => ∃ (k : Nat) (v : Value) (rs : List Txt), k ≤ n ∧ i = .int .i64 k ∧ v = o ∧ rs.length ≤ k ∧ Hid (wr.ownsRow (w.heap.size + 1) 9 1 v rs.length (rs.map (fun x => Value.string (bx x)))) ∧ Hid (∀ x ∈ rs, x.length ≤ 13) ∧ Hid (RawOf t k rs) ∧ Hid (Below w.heap.size w wr) ∧ wr.cell? ⟨w.heap.size, 0, none⟩ = some (.slice a n c) ∧ w.heap.size < wr.heap.size) (fun _ i _ => n - (intOf i).toNat)
  case atStart => exact ⟨0, _, [], Nat.zero_le _, rfl, rfl, Nat.le_refl _, Lib.hid (by simpa using HO0.out), Lib.hid (by simp), Lib.hid (fun ps h1 h2 => by simp [wds]), Lib.hid (((Below.refl _ _).alloc (Nat.le_refl _) _).alloc (by simp) _), by simp, by simp; omega⟩
  case round =>
    clear HO0
    obtain ⟨k, v, rs, hk, rfl, rfl, hrs, HO, HX, HR, HBw, hbox, hsz⟩ := hrel
    by_cases hlt : k < n
    · obtain ⟨b, o, l, p, e, rfl, hbB, hd, hl, hp, hc1, hc2, hc3⟩ := (H.out.keep (HBw.out.mono HB.out)).elem k hlt
      have HD := Lib.hid hd
      clear hd
      cases e with
      | false =>
        have HR2 := Lib.hid (HR.out.skip HD.out rfl)
        go_wp2
        go_roundw
        case rel => exact ⟨k + 1, v, rs, by omega, by go_num, rfl, by omega, HO, HX, HR2, HBw, hbox, hsz⟩
        case measure => simp [intOf]; omega
      | true =>
        have cP := Lib.hid (l2Prefix_any B (some ⟨b, o, none⟩) n c k t wr (Nat.le_trans HB.out HBw.out.size) (H.out.keep (HBw.out.mono HB.out)) hlt)
        have HBs := HBw.out.size
        go_wp2_with (first
          | (go_at_call 39; refine cP.out.mono ?_; rintro e w1 ⟨s, rfl, hs13, hpre, hb1⟩; have HO1 := Lib.hid (own_stay HO.out hb1); have HPre := Lib.hid hpre; have HB1 := Lib.hid hb1; have hz1s := hb1.size; clear hpre hb1)
          | (at_builtin; refine wpList_append_sl rfl _ _ 34 rfl (w.heap.size + 1) 9 i0 (.string ByteArray.empty) 16 Try.underlying34 hi hz0 hz1 hz2 rfl _ _ _ rfl (HO1.out.alloc _) rfl (sl_new _ _ _) (by simp [Value.oneCell']) (by unfold maxLen; omega) (by omega) (by simp; omega) ?_; intro v2 w2 hO2 hG2))
        have HB2 : Below w.heap.size w w2 := (HBw.out.trans (HB1.out.mono HBw.out.size)).trans (((Below.refl _ w1).alloc (by omega) _).trans (below_grown (HO1.out.alloc _) (by omega) (by simp; omega) hG2))
        have hcell : w2.cell? ⟨w.heap.size, 0, none⟩ = some (.slice (some ⟨b, o, none⟩) n c) := by
          rw [hG2.cell_far ⟨w.heap.size, 0, none⟩ (by simp; omega) (fun e => by have := (own_ge HO1.out (g := w.heap.size) e.symm).1; omega), World.cell?_alloc_lt _ _ _ (by simp; omega), HB1.out.cell (p := ⟨w.heap.size, 0, none⟩) hsz]
          exact hbox
        have hsz2 := hG2.size
        simp only [World.size_alloc] at hsz2
        go_roundw
        case rel => exact ⟨k + 1, v2, rs ++ [tx s], by omega, by go_num, rfl, by simp; omega, Lib.hid (by simpa [bx_tx] using hO2), Lib.hid (by intro x hx; rcases List.mem_append.1 hx with hx | hx; exact HX.out x hx; rw [List.mem_singleton] at hx; rw [hx, tx_len]; exact hs13), Lib.hid (HR.out.succ HD.out rfl HPre.out), Lib.hid HB2, hcell, by omega⟩
        case measure => simp [intOf]; omega
    · have HN : Hid (∀ ps, Valid t ps → rs = wds t ps) := Lib.hid (fun ps hv => HR.out.all (by have := L.out; omega) hv)
      have HW := Lib.hid (own_wds HO.out (fun x hx => by have := HX.out x hx; omega))
      have HLe : Hid (rs.length ≤ t.length) := Lib.hid (by have := L.out; omega)
      go_wp2
      go_ret
      obtain ⟨a1, c1, rfl, hW⟩ := HW.out
      exact ⟨_, _, _, rs, rfl, hW, HLe.out, HN.out, HX.out, HBw.out⟩

theorem same_no {t u : List Nd} {r : Bool} {k : Nat} {d d' : Nd} (hr : r = true ↔ t = u) (h : t[k]? = some d) (h' : u[k]? = some d') (hne : d ≠ d') : r = false := by
  cases r with
  | false => rfl
  | true =>
    have := hr.1 rfl
    subst this
    rw [h] at h'
    exact absurd (Option.some.inj h') hne

set_option maxRecDepth 1000000 in
set_option maxHeartbeats 1000000 in
theorem l2Same_any (B : Nat) (a a2 : Option Addr) (n c n2 c2 : Nat) (t u : List Nd) (w : World) (hB : B ≤ w.heap.size) (h : Nds B w a n c t) (h2 : Nds B w a2 n2 c2 u) (hn : n ≤ 1048576) (hn2 : n2 ≤ 1048576) (r : Bool) (hr : r = true ↔ t = u) :
    Calls Try.prog 101 #[.agg #[.slice a n c], .agg #[.slice a2 n2 c2]] w fun e w' => e = .returned (.bool r) ∧ Below w.heap.size w w' := by
  have L := Lib.hid h.len
  have C := h.cap
  have T := h.top
  have H := Lib.hid h
  have L2 := Lib.hid h2.len
  have C2 := h2.cap
  have T2 := h2.top
  have H2 := Lib.hid h2
  have HB := Lib.hid hB
  have HR := Lib.hid hr
  clear h h2 hB hr
  go_enter Try.func101, Try.ntmps101
  go_wp2
  go_loopw [5] (fun i wr => ∃ (k : Nat), k ≤ n ∧ k ≤ n2 ∧ i = .int .i64 k ∧ Hid (t.take k = u.take k) ∧ Hid (Below w.heap.size w wr) ∧ wr.cell? ⟨w.heap.size, 0, none⟩ = some (.slice a n c) ∧ wr.cell? ⟨w.heap.size + 1, 0, none⟩ = some (.slice a2 n2 c2)) (fun i _ => n - (intOf i).toNat)
  case atStart => exact ⟨0, Nat.zero_le _, Nat.zero_le _, rfl, Lib.hid rfl, Lib.hid (((Below.refl _ _).alloc (Nat.le_refl _) _).alloc (by simp) _), by simp, by simp⟩
  case round =>
    obtain ⟨k, hk, hk2, rfl, HE, HBw, hbox, hbox2⟩ := hrel
    by_cases hlt : k < n
    · by_cases hlt2 : k < n2
      · obtain ⟨b, o, l, p, e, rfl, hbB, hd, hl, hp, hc1, hc2, hc3⟩ := (H.out.keep (HBw.out.mono HB.out)).elem k hlt
        obtain ⟨b', o', l', p', e', rfl, hbB', hd', hl', hp', hc1', hc2', hc3'⟩ := (H2.out.keep (HBw.out.mono HB.out)).elem k hlt2
        have HD := Lib.hid hd
        have HD' := Lib.hid hd'
        clear hd hd'
        have hi0 : (0 : Int) ≤ (k : Int) := by omega
        have hi1 : (k : Int) < (n : Int) := by omega
        have hi2 : (k : Int) < (n2 : Int) := by omega
        by_cases q1 : l = l'
        · subst q1
          by_cases q2 : p = p'
          · subst q2
            by_cases q3 : e = e'
            · subst q3
              have b1 : (l == l) = true := by simp
              have b2 : (p == p) = true := by simp
              have b3 : (e == e) = true := by simp
              have HE2 : Hid (t.take (k + 1) = u.take (k + 1)) := Lib.hid (by
                obtain ⟨k1, e1⟩ := List.getElem?_eq_some_iff.1 HD.out
                obtain ⟨k2, e2⟩ := List.getElem?_eq_some_iff.1 HD'.out
                rw [List.take_succ_eq_append_getElem k1, List.take_succ_eq_append_getElem k2, HE.out, e1, e2])
              go_wp2
              go_quiet (fail)
              go_wp2
              go_roundw
              case rel => exact ⟨k + 1, by omega, by omega, by go_num, HE2, Lib.hid (below_drewN HBw.out _), hbox, hbox2⟩
              case measure => simp [intOf]; omega
            · have b1 : (l == l) = true := by simp
              have b2 : (p == p) = true := by simp
              have b3 : (e == e') = false := by simp [q3]
              have HX : Hid (r = false) := Lib.hid (same_no HR.out HD.out HD'.out (fun h => q3 (by injection h)))
              clear q3
              go_wp2
              go_quiet (fail)
              go_wp2
              go_ret
              exact ⟨ret_bool HX.out.symm, below_drewN HBw.out _⟩
          · have b1 : (l == l) = true := by simp
            have b2 : (p == p') = false := by simp [q2]
            have HX : Hid (r = false) := Lib.hid (same_no HR.out HD.out HD'.out (fun h => q2 (by injection h)))
            clear q2
            go_wp2
            go_quiet (fail)
            go_wp2
            go_ret
            exact ⟨ret_bool HX.out.symm, below_drewN HBw.out _⟩
        · have b1 : (l == l') = false := by simp [q1]
          have HX : Hid (r = false) := Lib.hid (same_no HR.out HD.out HD'.out (fun h => q1 (by injection h)))
          clear q1
          go_wp2
          go_quiet (fail)
          go_wp2
          go_ret
          exact ⟨ret_bool HX.out.symm, below_drewN HBw.out _⟩
      · have HX : Hid (r = false) := Lib.hid (by
          cases r with
          | false => rfl
          | true =>
            have := HR.out.1 rfl
            have := L.out
            have := L2.out
            subst t
            omega)
        have hb : ((n : Int) == (n2 : Int)) = false := by simp; omega
        go_wp2
        go_ret
        exact ⟨ret_bool (by rw [HX.out]), HBw.out⟩
    · by_cases hnn : n = n2
      · subst hnn
        have e : k = n := by omega
        subst e
        have HX : Hid (r = true) := Lib.hid (HR.out.2 (by
          have := HE.out
          rwa [List.take_of_length_le (by rw [L.out]; omega), List.take_of_length_le (by rw [L2.out]; omega)] at this))
        have hb : ((k : Int) == (k : Int)) = true := by simp
        go_wp2
        go_ret
        exact ⟨ret_bool (by rw [HX.out]), HBw.out⟩
      · have HX : Hid (r = false) := Lib.hid (by
          cases r with
          | false => rfl
          | true =>
            have := HR.out.1 rfl
            have := L.out
            have := L2.out
            subst t
            omega)
        have hb : ((n : Int) == (n2 : Int)) = false := by simp; omega
        have hlt2 : k < n2 ∨ ¬ k < n2 := by omega
        go_wp2
        go_ret
        exact ⟨ret_bool (by rw [HX.out]), HBw.out⟩

end Go.Proofs.Ytfehfjnmkaifbab
