/-
  What some words have in common at their beginning: the reference's longest common beginning, and the program's way down to the first fork.
-/
import Derived.Test.YtknoafkgeaibpabUnd
namespace Go.Proofs.Ytknoafkgeaibpab
open Go.RowKit
set_option linter.unusedVariables false

/-- all of some words begin with a text -/
def Com (ws : List Txt) (q : Txt) : Prop := ∀ w ∈ ws, q <+: w

/-- the longest such text -/
def IsShared (ws : List Txt) (p : Txt) : Prop := Com ws p ∧ ∀ q, Com ws q → q <+: p

theorem IsShared.uniq {ws : List Txt} {p q : Txt} (h : IsShared ws p) (k : IsShared ws q) : p = q :=
  List.IsPrefix.eq_of_length_le (k.2 p h.1) (h.2 q k.1).length_le

theorem com_undr {x : Txt} {ws : List Txt} : (undr x ws).length = ws.length ↔ Com ws x := by
  unfold undr Com
  rw [List.length_filter_eq_length_iff]
  simp

theorem shared_upto {ws : List Txt} {w0 : Txt} (h0 : w0 ∈ ws) : ∀ m, (∀ q, Com ws q → q.length ≤ m) → ∃ p, IsShared ws p
  | 0, h => ⟨[], fun w _ => List.nil_prefix, fun q hq => by
      have := h q hq
      have e : q = [] := List.eq_nil_of_length_eq_zero (by omega)
      rw [e]; exact List.prefix_refl _⟩
  | m + 1, h => by
    classical
    by_cases hc : Com ws (w0.take (m + 1))
    · refine ⟨w0.take (m + 1), hc, fun q hq => ?_⟩
      have h1 := hq w0 h0
      have h2 := h q hq
      rw [List.prefix_iff_eq_take] at h1
      rw [h1, List.prefix_iff_eq_take, List.take_take, List.length_take]
      congr 1
      have := congrArg List.length h1
      rw [List.length_take] at this
      omega
    · refine shared_upto h0 m fun q hq => ?_
      have h2 := h q hq
      by_cases e : q.length = m + 1
      · exfalso
        have h1 := hq w0 h0
        rw [List.prefix_iff_eq_take, e] at h1
        rw [← h1] at hc
        exact hc hq
      · omega

theorem shared_ex {ws : List Txt} (h : ws ≠ []) : ∃ p, IsShared ws p := by
  cases ws with
  | nil => exact absurd rfl h
  | cons w0 r => exact shared_upto (w0 := w0) (by simp) w0.length fun q hq => (hq w0 (by simp)).length_le

theorem kidsTo_asc (t : List Nd) (i : Nat) : ∀ k, AscN (kidsTo t i k)
  | 0 => List.Pairwise.nil
  | k + 1 => by
    have ih := kidsTo_asc t i k
    by_cases h : ∃ d, t[k]? = some d ∧ i < k ∧ d.p = (i : Int)
    · obtain ⟨d, h1, h2, h3⟩ := h
      rw [kidsTo_hit h1 h2 h3, AscN, List.pairwise_append]
      refine ⟨ih, by simp, fun x hx y hy => ?_⟩
      have := (mem_kidsTo.1 hx).1
      rw [List.mem_singleton] at hy
      omega
    · cases hk : t[k]? with
      | none =>
        have e : kidsTo t i (k + 1) = kidsTo t i k := kidsTo_skip k (k + 1) (by omega) (fun m d h1 h2 h3 h4 => by
          have : m = k := by omega
          subst this
          rw [hk] at h3; cases h3)
        rw [e]; exact ih
      | some d =>
        rw [kidsTo_miss hk (fun hh => h ⟨d, hk, hh.1, hh.2⟩)]
        exact ih

section
variable {t : List Nd} {ps : List Txt} {j : Nat} {y : Txt}

/-- a word that goes on behind a node goes on at one of its kids -/
theorem goes_on (hv : Valid t ps) (hy : ps[j]? = some y) {w : Txt} (hw : w ∈ wds t ps) (hp : y <+: w) (hne : w ≠ y) : ∃ k c, k ∈ kidsTo t j t.length ∧ ps[k]? = some (y ++ [c]) ∧ y ++ [c] <+: w := by
  obtain ⟨r, rfl⟩ := hp
  cases r with
  | nil => simp at hne
  | cons c r =>
    have h1 : y ++ [c] <+: y ++ c :: r := ⟨r, by simp⟩
    have h2 := cap.pre_closed hv ((wds_sub t ps).subset hw) h1
    obtain ⟨k, hk⟩ := mem_at h2
    have hkl : k < t.length := by have := (List.getElem?_eq_some_iff.1 hk).1; rw [hv.lenEq] at this; exact this
    obtain ⟨d, z, hd, hz⟩ := hv.tells.at hkl
    have hk1 : 1 ≤ k := by
      apply Nat.pos_of_ne_zero
      rintro rfl
      rw [hv.tells.nil] at hk
      simp at hk
    have hpar := (par_iff hv.tells hy hk1 hd).2 ⟨c, hk⟩
    have hjk : j < k := by
      obtain ⟨j2, _, _, e1, h3, _⟩ := hv.tells.step k d hk1 hkl hd
      have : j2 = j := by omega
      omega
    exact ⟨k, c, mem_kidsTo.2 ⟨hkl, hjk, d, hd, hpar⟩, hk, h1⟩

theorem kid_text (hv : Valid t ps) (hy : ps[j]? = some y) {k : Nat} (hk : k ∈ kidsTo t j t.length) : ∃ c, ps[k]? = some (y ++ [c]) := by
  obtain ⟨_, h2, d, h3, h4⟩ := mem_kidsTo.1 hk
  exact (par_iff hv.tells hy (by omega) h3).1 h4

theorem fork_one (hv : Valid t ps) (hy : ps[j]? = some y) (hn : y ∉ wds t ps) {k : Nat} (hk : kidsTo t j t.length = [k]) : ∃ z, ps[k]? = some z ∧ undr z (wds t ps) = undr y (wds t ps) := by
  obtain ⟨c, hc⟩ := kid_text hv hy (k := k) (by rw [hk]; simp)
  refine ⟨y ++ [c], hc, ?_⟩
  unfold undr
  apply List.filter_congr
  intro w hw
  rw [decide_eq_decide]
  constructor
  · intro h; exact (List.prefix_append y [c]).trans h
  · intro h
    obtain ⟨k2, c2, h1, h2, h3⟩ := goes_on hv hy hw h (fun e => hn (e ▸ hw))
    rw [hk, List.mem_singleton] at h1
    subst h1
    rw [hc] at h2
    injection h2 with h2
    rw [h2]; exact h3

theorem fork_end (hn : y ∈ wds t ps) : IsShared (undr y (wds t ps)) y :=
  ⟨fun w hw => (mem_undr.1 hw).2, fun q hq => hq y (mem_undr.2 ⟨hn, List.prefix_refl _⟩)⟩

theorem fork_many (hv : Valid t ps) (hy : ps[j]? = some y) (hn : y ∉ wds t ps) (hu : undr y (wds t ps) ≠ []) (hk : (kidsTo t j t.length).length ≠ 1) : IsShared (undr y (wds t ps)) y := by
  refine ⟨fun w hw => (mem_undr.1 hw).2, fun q hq => ?_⟩
  obtain ⟨w, hw⟩ := List.exists_mem_of_ne_nil _ hu
  have hw2 := mem_undr.1 hw
  rcases Nat.lt_or_ge y.length q.length with hl | hl
  · exfalso
    obtain ⟨r, hr⟩ : y <+: q := List.prefix_of_prefix_length_le hw2.2 (hq w hw) (by omega)
    subst hr
    cases r with
    | nil => simp at hl
    | cons c r =>
      have key : ∀ k ∈ kidsTo t j t.length, ps[k]? = some (y ++ [c]) := by
        intro k hkm
        obtain ⟨c1, hc1⟩ := kid_text hv hy hkm
        have hk1 : 1 ≤ k := by have := (mem_kidsTo.1 hkm).2.1; omega
        obtain ⟨i2, y2, d2, h1, h2, h3, h4⟩ := hv.word k _ hk1 hc1
        have hm : y2 ∈ wds t ps := mem_wds.2 ⟨i2, d2, h2, h1, h3⟩
        have hm2 : y2 ∈ undr y (wds t ps) := mem_undr.2 ⟨hm, (List.prefix_append y [c1]).trans h4⟩
        have hq2 := hq y2 hm2
        have e1 : y ++ [c] <+: y2 := List.IsPrefix.trans ⟨r, by simp⟩ hq2
        have e2 : y ++ [c] = y ++ [c1] := List.IsPrefix.eq_of_length (List.prefix_of_prefix_length_le e1 h4 (by simp)) (by simp)
        rw [e2]; exact hc1
      obtain ⟨k0, _, h0, _⟩ := goes_on hv hy hw2.1 hw2.2 (fun e => hn (e ▸ hw2.1))
      have hasc := kidsTo_asc t j t.length
      generalize kidsTo t j t.length = l at *
      cases l with
      | nil => simp at h0
      | cons a l =>
        cases l with
        | nil => simp at hk
        | cons b l =>
          have h1 := key a (by simp)
          have h2 := key b (by simp)
          have h3 := asc_inj hv.tells.asc h1 h2
          rw [AscN, List.pairwise_cons] at hasc
          have := hasc.1 b (by simp)
          omega
  · exact List.prefix_of_prefix_length_le (hq w hw) hw2.2 hl
end

set_option maxRecDepth 1000000 in
set_option maxHeartbeats 1000000 in
theorem l3Shared_any (B : Nat) (a : Option Addr) (n c : Nat) (ws : List Txt) (w : World) (hB : B ≤ w.heap.size) (h : Wds B w a n c ws) (hsh : ∀ x ∈ ws, x.length ≤ 12) (hn : n ≤ 40) (h0 : 0 < n) (p : Txt) (hp : IsShared ws p) :
    Calls Try.prog 36 #[.slice a n c] w fun e w' => e = .returned (.string (bx p)) ∧ Below w.heap.size w w' := by
  have L := Lib.hid h.len
  have C := h.sl.cap
  have T := h.sl.top
  have H := Lib.hid h
  have HB := Lib.hid hB
  have HS := Lib.hid hsh
  have HP := Lib.hid hp
  have cU := Lib.hid (fun (y : ByteArray) (W : World) (hW : Below w.heap.size w W) (hy : y.size ≤ 100) => l3Under_any B a n c ws y W (Nat.le_trans hB hW.size) (h.keep (hW.mono hB)) hsh hn hy)
  obtain ⟨b0, o0, y0, rfl, _, hy0, _, hc0⟩ := h.elem 0 h0
  have hz0 : ws[0]? = some (tx y0) := hy0
  have HY0 := Lib.hid hz0
  have hs0 : y0.size ≤ 12 := by have := hsh _ (at_mem hz0); rwa [tx_len] at this
  rw [Nat.add_zero] at hc0
  clear h hB hsh hp hy0 hz0
  have hn0 : (0 : Int) < (n : Int) := by omega
  go_enter Try.func36, Try.ntmps36
  go_wp2
  clear hc0
  go_loopw [3] (fun o wr => ∃ (y : ByteArray), o = .string y ∧ y.size ≤ 12 ∧ Hid (∀ q, Com ws q → q <+: tx y) ∧ Hid (Below w.heap.size w wr)) (fun o _ => match o with | .string y => y.size | _ => 0)
  case atStart => exact ⟨y0, rfl, hs0, Lib.hid (fun q hq => hq _ (at_mem HY0.out)), Lib.hid (Below.refl _ _)⟩
  case round =>
    obtain ⟨y, rfl, hy12, HQ, HBw⟩ := hrel
    have cU1 := Lib.hid (cU.out y wr HBw.out (by omega))
    obtain ⟨m, hm⟩ : ∃ m, (undr (tx y) ws).length = m := ⟨_, rfl⟩
    have hmn : m ≤ n := by rw [← hm, ← L.out]; exact undr_le _ _
    have HM := Lib.hid hm
    rw [hm] at cU1
    clear hm
    by_cases hmlt : m < n
    · have HNC : Hid (¬ Com ws (tx y)) := Lib.hid (fun hc => by have := com_undr.2 hc; rw [HM.out, L.out] at this; omega)
      have hpos : 1 ≤ y.size := by
        apply Nat.pos_of_ne_zero
        intro e
        apply HNC.out
        have e2 : tx y = [] := List.eq_nil_of_length_eq_zero (by rw [tx_len]; exact e)
        intro v _
        rw [e2]; exact List.nil_prefix
      have HQ2 : Hid (∀ q, Com ws q → q <+: tx (y.extract 0 (y.size - 1))) := Lib.hid (fun q hq => by
        have h1 := HQ.out q hq
        have h2 : q.length ≠ (tx y).length := fun e => HNC.out (by rw [← List.IsPrefix.eq_of_length h1 e]; exact hq)
        have h3 := h1.length_le
        rw [tx_extract, List.prefix_iff_eq_take, List.take_take]
        rw [tx_len] at h2 h3
        rw [List.prefix_iff_eq_take] at h1
        rw [Nat.min_eq_left (by omega)]
        exact h1)
      have hsub : IntKind.i64.wrap ((y.size : Int) - 1) = (y.size : Int) - 1 := IntWalk.i64_in _ (by omega)
      clear hsub
      go_wp2_with (first | (go_at_call 34; refine cU1.out.mono ?_; rintro e w2 ⟨v, rfl, hO, hb2⟩; obtain ⟨a9, c9, rfl⟩ := own_slice hO; have HB2 := Lib.hid hb2; clear hb2 hO))
      go_roundw
      case rel => exact ⟨y.extract 0 (y.size - 1), by first | rfl | congr 2, by rw [ByteArray.size_extract]; omega, HQ2, Lib.hid (HBw.out.trans (HB2.out.mono HBw.out.size))⟩
      case measure => simp [ByteArray.size_extract]; omega
    · have HC : Hid (Com ws (tx y)) := Lib.hid (com_undr.1 (by rw [HM.out, L.out]; omega))
      have HF : Hid (bx p = y) := Lib.hid (by
        have : IsShared ws (tx y) := ⟨HC.out, HQ.out⟩
        rw [HP.out.uniq this, bx_tx])
      have e : m = n := by omega
      subst e
      go_wp2_with (first | (go_at_call 34; refine cU1.out.mono ?_; rintro e w2 ⟨v, rfl, hO, hb2⟩; obtain ⟨a9, c9, rfl⟩ := own_slice hO; have HB2 := Lib.hid hb2; clear hb2 hO))
      go_ret
      exact ⟨by rw [HF.out]; rfl, HBw.out.trans (HB2.out.mono HBw.out.size)⟩

set_option maxRecDepth 1000000 in
set_option maxHeartbeats 1000000 in
theorem forkBelow_any (B : Nat) (a : Option Addr) (n c i : Nat) (t : List Nd) (ps : List Txt) (x : Txt) (w : World) (hB : B ≤ w.heap.size) (h : Nds B w a n c t) (hv : Valid t ps) (hx : ps[i]? = some x) (hu : undr x (wds t ps) ≠ []) :
    Calls Try.prog 41 #[.agg #[.slice a n c], .int .i64 (i : Int)] w fun e w' => ∃ (j : Nat) (y : Txt), e = .returned (.int .i64 (j : Int)) ∧ ps[j]? = some y ∧ IsShared (undr x (wds t ps)) y ∧ Below w.heap.size w w' := by
  have L := Lib.hid h.len
  have hn : n ≤ 481 := by have := hv.size; have := h.len; omega
  have G1 := Lib.hid (Gv.start (h.mono hB))
  have hbx := G1.out.box
  have hcap := h.cap
  have htop := h.top
  have HV := Lib.hid hv
  have HX := Lib.hid hx
  have HU := Lib.hid hu
  have hin : i < n := by have := (List.getElem?_eq_some_iff.1 hx).1; have := hv.lenEq; have := h.len; omega
  clear h hB hv hx hu
  go_enter Try.func41, Try.ntmps41
  go_wp2
  clear hbx
  go_loopw [1] (fun p wr => ∃ (j : Nat) (y : Txt), p = .int .i64 j ∧ j < n ∧ Hid (ps[j]? = some y) ∧ Hid (undr y (wds t ps) = undr x (wds t ps)) ∧ Hid (Gv w wr a n c t)) (fun p _ => n - (intOf p).toNat)
  case atStart => exact ⟨i, x, rfl, hin, HX, Lib.hid rfl, G1⟩
  case round =>
    clear G1
    obtain ⟨j, y, rfl, hjn, HJ, HUy, G⟩ := hrel
    have hbx := G.out.box
    obtain ⟨b, o, l, p, e, rfl, hbB, hd, hl, hp, hc1, hc2, hc3⟩ := G.out.nds.elem j hjn
    have hj2 : (j : Int) < (n : Int) := by omega
    have HD := Lib.hid hd
    clear hd
    cases e with
    | true =>
      have HF : Hid (IsShared (undr x (wds t ps)) y) := Lib.hid (by rw [← HUy.out]; exact fork_end (end_yes HV.out HD.out HJ.out))
      go_wp2
      go_ret
      exact ⟨j, y, rfl, HJ.out, HF.out, G.out.bel⟩
    | false =>
      have HN : Hid (y ∉ wds t ps) := Lib.hid (end_no HV.out HD.out HJ.out)
      have cK := Lib.hid (kidsAt_any w.heap.size _ n c j t ps wr G.out.bel.size G.out.nds (by omega) HV.out.tells hjn)
      have HK1 : Hid (∀ k, kidsTo t j n = [k] → ∃ z, ps[k]? = some z ∧ undr z (wds t ps) = undr y (wds t ps)) := Lib.hid (fun k hk => fork_one HV.out HJ.out HN.out (by rw [L.out]; exact hk))
      have HK2 : Hid ((kidsTo t j n).length ≠ 1 → IsShared (undr x (wds t ps)) y) := Lib.hid (fun hk => by rw [← HUy.out]; exact fork_many HV.out HJ.out HN.out (by rw [HUy.out]; exact HU.out) (by rw [L.out]; exact hk))
      have HKm : Hid (∀ k ∈ kidsTo t j n, j < k ∧ k < n) := Lib.hid (fun k hk => by have := mem_kidsTo.1 hk; exact ⟨this.2.1, this.1⟩)
      have hlen := kidsTo_le (t := t) (i := j) n
      obtain ⟨K, hK⟩ : ∃ K, kidsTo t j n = K := ⟨_, rfl⟩
      rw [hK] at cK HK1 HK2 HKm hlen
      clear hK
      by_cases h1 : K.length = 1
      · obtain ⟨k, hk⟩ : ∃ k, K = [k] := List.length_eq_one_iff.1 h1
        subst hk
        obtain ⟨z, hz1, hz2⟩ := HK1.out k rfl
        obtain ⟨hjk, hkn⟩ := HKm.out k (by simp)
        have HZ1 := Lib.hid hz1
        have HZ2 := Lib.hid hz2
        clear hz1 hz2 h1 hlen
        go_wp2_with fail
        refine cK.out.mono ?_
        rintro e w2 ⟨v, rfl, hO, hb2⟩
        have hO' : w2.ownsRow wr.heap.size 3 1 v (0 + 1) [.int .i64 (k : Int)] := hO
        obtain ⟨g, c9, rfl⟩ := own_succ hO'
        have hS := Sl.of_own hO'
        have hcc : w2.cell? ⟨g, 0, none⟩ = some (.int .i64 (k : Int)) := by
          obtain ⟨b9, o9, e9, _, h9⟩ := hS.spot 0 (.int .i64 (k : Int)) rfl
          injection e9 with e9
          injection e9 with e9a e9b
          subst e9a e9b
          exact h9
        have C9 := hS.cap
        have T9 := hS.top
        have G2 := Lib.hid (G.out.on hb2)
        have zl : (((([k] : List Nat).length : Nat) : Int) != 1) = false := rfl
        clear hO hO' hS hb2 hbx
        go_wp2_with fail
        go_roundw
        case rel => exact ⟨k, z, rfl, hkn, HZ1, Lib.hid (HZ2.out.trans HUy.out), G2⟩
        case measure => simp [intOf]; omega
      · have HF := Lib.hid (HK2.out h1)
        obtain ⟨m, hm⟩ : ∃ m, K.length = m := ⟨_, rfl⟩
        rw [hm] at cK h1 hlen
        clear hm
        have z1 : ((m : Int) != 1) = true := by simp; omega
        go_wp2_with fail
        refine cK.out.mono ?_
        rintro e w2 ⟨v, rfl, hO, hb2⟩
        obtain ⟨a9, c9, rfl⟩ := own_slice hO
        have G2 := Lib.hid (G.out.on hb2)
        clear hO hb2 hbx
        go_wp2_with fail
        go_ret
        exact ⟨j, y, rfl, HJ.out, HF.out, G2.out.bel⟩

end Go.Proofs.Ytknoafkgeaibpab
