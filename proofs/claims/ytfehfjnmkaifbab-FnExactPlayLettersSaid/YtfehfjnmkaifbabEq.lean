/-
  The laws' own helpers on tries: the size, the copy, the equality.
-/
import Derived.Test.YtfehfjnmkaifbabTrie
namespace Go.Proofs.Ytfehfjnmkaifbab
open Go.RowKit
set_option linter.unusedVariables false

theorem szTrie_any (B : Nat) (a : Option Addr) (n c : Nat) (t : List Nd) (l : Int) (w : World) (h : Nds B w a n c t) (h0 : 0 ≤ l) (h1 : l ≤ 1048576) :
    Calls Try.prog 9 #[.agg #[.slice a n c], .int .i64 l] w fun e w' => e = .returned (.int .i64 (if l - n < 0 then -1 else l - n)) ∧ Below w.heap.size w w' := by
  have C := h.cap
  have T := h.top
  have HB1 : Hid (Below w.heap.size w (w.alloc (.cells #[.slice a n c] 24))) := Lib.hid ((Below.refl _ _).alloc (Nat.le_refl _) _)
  clear h
  by_cases hn : l - n < 0
  · rw [if_pos hn]
    go_enter Try.func9, Try.ntmps9
    go_wp2
    go_ret
    exact ⟨rfl, HB1.out⟩
  · rw [if_neg hn]
    go_enter Try.func9, Try.ntmps9
    go_wp2
    go_ret
    exact ⟨rfl, HB1.out⟩

/-- what has been copied after k rounds -/
def nzero : Nd := ⟨0, 0, false⟩
def copN (t : List Nd) (n k : Nat) : List Nd := t.take k ++ List.replicate (n - k) nzero

theorem copN_zero (t : List Nd) (n : Nat) : copN t n 0 = List.replicate n nzero := by simp [copN]
theorem copN_all {t : List Nd} {n : Nat} (hl : t.length = n) : copN t n n = t := by
  unfold copN
  rw [List.take_of_length_le (by omega)]
  simp

theorem ndc_rep (n : Nat) : (madeCells #[Value.int .i64 0, .int .i64 0, .bool false] (n * 3)).toList = ndc (List.replicate n nzero) := by
  apply List.ext_getElem?
  intro i
  by_cases hi : i < n * 3
  · obtain ⟨q, r, rfl, hr⟩ : ∃ q r, i = q * 3 + r ∧ r < 3 := ⟨i / 3, i % 3, by omega, by omega⟩
    have hq : q < n := by omega
    obtain ⟨e1, e2, e3⟩ := ndc_at (t := List.replicate n nzero) (i := q) (d := nzero) (by simp [hq])
    have hl : (madeCells #[Value.int .i64 0, .int .i64 0, .bool false] (n * 3)).toList[q * 3 + r]? = some (#[Value.int .i64 0, .int .i64 0, .bool false][(q * 3 + r) % 3]!) := by
      simp [madeCells, hi]
    rw [hl]
    have hm : (q * 3 + r) % 3 = r := by omega
    rw [hm]
    match r, hr with
    | 0, _ => rw [Nat.add_zero, e1]; rfl
    | 1, _ => rw [e2]; rfl
    | 2, _ => rw [e3]; rfl
  · rw [List.getElem?_eq_none (by simp [madeCells]; omega), List.getElem?_eq_none (by rw [ndc_len]; simp; omega)]

theorem ndc_set : ∀ {t : List Nd} {k : Nat} (l p : Int) (e : Bool), k < t.length → (((ndc t).set (k * 3) (.int .i64 l)).set (k * 3 + 1) (.int .i64 p)).set (k * 3 + 2) (.bool e) = ndc (t.set k ⟨l, p, e⟩)
  | [], k, l, p, e, h => by simp at h
  | d :: t, 0, l, p, e, h => rfl
  | d :: t, k + 1, l, p, e, h => by
    have := ndc_set (t := t) (k := k) l p e (by simpa using h)
    have e1 : (k + 1) * 3 = k * 3 + 3 := by omega
    rw [e1]
    simp only [ndc, List.set_cons_succ]
    rw [← this]

theorem copN_len {t : List Nd} {n k : Nat} (hl : t.length = n) (hk : k ≤ n) : (copN t n k).length = n := by simp [copN]; omega

theorem copN_succ {t : List Nd} {n k : Nat} {d : Nd} (hl : t.length = n) (h : t[k]? = some d) : (copN t n k).set k d = copN t n (k + 1) := by
  obtain ⟨hk, e⟩ := List.getElem?_eq_some_iff.1 h
  unfold copN
  rw [List.set_append_right _ _ (by simp; omega)]
  have e1 : k - (t.take k).length = 0 := by simp; omega
  rw [e1, List.take_succ_eq_append_getElem hk, e]
  obtain ⟨r, hr⟩ : ∃ r, n - k = r + 1 := ⟨n - k - 1, by omega⟩
  have e2 : n - (k + 1) = r := by omega
  rw [hr, e2, List.replicate_succ, List.set_cons_zero]
  simp

theorem toNode_any (l p : Int) (e : Bool) (w : World) :
    Calls Try.prog 71 #[.agg #[.int .i64 l, .int .i64 p, .bool e]] w fun en w' => en = .returned (.agg #[.int .i64 l, .int .i64 p, .bool e]) ∧ Below w.heap.size w w' := by
  have HB1 : Hid (∀ o1 o2 o3, Below w.heap.size w (((w.alloc o1).alloc o2).alloc o3)) := Lib.hid (fun o1 o2 o3 => (((Below.refl _ _).alloc (Nat.le_refl _) _).alloc (by simp) _).alloc (by simp; omega) _)
  go_enter Try.func71, Try.ntmps71
  go_wp2
  exact bodyPost_ret (v := .agg #[.int .i64 l, .int .i64 p, .bool e]) (by simp [results, Try.results71, go_sem]) rfl ⟨rfl, HB1.out _ _ _⟩

set_option maxRecDepth 1000000 in
set_option maxHeartbeats 1000000 in
theorem toNodeS_any (B : Nat) (a : Option Addr) (n c : Nat) (t : List Nd) (w : World) (hB : B ≤ w.heap.size) (h : Nds B w a n c t) (hn : n ≤ 1048576) :
    Calls Try.prog 33 #[.slice a n c] w fun e w' => e = .returned (.slice (some ⟨w.heap.size, 0, none⟩) n n) ∧ w'.ownsRow w.heap.size 66 3 (.slice (some ⟨w.heap.size, 0, none⟩) n n) n (ndc t) ∧ Below w.heap.size w w' := by
  have L := Lib.hid h.len
  have C := h.cap
  have T := h.top
  have H := Lib.hid h
  have HB := Lib.hid hB
  clear h hB
  obtain ⟨i0, hi, hz0, hz1, hz2⟩ := info_parts infoN
  go_enter Try.func33, Try.ntmps33
  go_wp2_with (first | (at_make; refine wpList_make_full _ rfl _ _ 28 rfl w.heap.size 66 i0 (.agg #[.int .i64 0, .int .i64 0, .bool false]) 3 Try.underlying28 hi hz0 hz1 .i64 .i64 _ _ n rfl rfl rfl rfl (by rw [hz2]; omega) (by unfold maxLen; omega) (Nat.le_refl _) ?_; intro w1 hown hgrow))
  have hown0 : w1.ownsRow w.heap.size 66 3 (.slice (some ⟨w.heap.size, 0, none⟩) n n) n (ndc (copN t n 0)) := by
    rw [copN_zero]
    have e := ndc_rep n
    exact e ▸ hown
  have hb1 : Below w.heap.size w w1 := (Below.refl _ _).grown hgrow (Nat.le_refl _) (fun k e => by cases e)
  have HO0 := Lib.hid hown0
  have HB1 := Lib.hid hb1
  clear hown hgrow hown0 hb1
  go_loopw [4] (fun i wr => ∃ k : Nat, k ≤ n ∧ i = .int .i64 k ∧ Hid (wr.ownsRow w.heap.size 66 3 (.slice (some ⟨w.heap.size, 0, none⟩) n n) n (ndc (copN t n k))) ∧ Hid (Below w.heap.size w wr)) (fun i _ => n - (intOf i).toNat)
  case atStart => exact ⟨0, Nat.zero_le _, rfl, HO0, HB1⟩
  case round =>
    clear HO0 HB1
    obtain ⟨k, hk, rfl, HO, HBw⟩ := hrel
    by_cases hlt : k < n
    · obtain ⟨b, o, l, p, e, rfl, hbB, hd, hl, hp, hc1, hc2, hc3⟩ := (H.out.keep (HBw.out.mono HB.out)).elem k hlt
      have HD := Lib.hid hd
      clear hd
      have cN := Lib.hid (fun w => toNode_any l p e w)
      have HBs := HBw.out.size
      have HM' : Hid ((ndc (copN t n k)).length = n * 3) := Lib.hid (by rw [ndc_len, copN_len L.out hk])
      go_wp2_with (go_at_call 71; refine (cN.out _).mono ?_; rintro en w1 ⟨rfl, hb1⟩; have HO1 := Lib.hid (own_stay HO.out hb1); have HB1 := Lib.hid hb1; clear hb1; have hf := HO1.out.frozenAt (k * 3); have hf1 := HO1.out.frozenAt (k * 3 + 1); have hf2 := HO1.out.frozenAt (k * 3 + 2); have hx := HO1.out.cellAt (k * 3) (by omega); have hx1 := HO1.out.cellAt (k * 3 + 1) (by omega); have hx2 := HO1.out.cellAt (k * 3 + 2) (by omega); rw [List.getElem?_eq_getElem (by rw [HM'.out]; omega)] at hx hx1 hx2)
      have hs := (((((HO1.out.stored (k * 3) (.int .i64 l)).1.stored (k * 3 + 1) (.int .i64 p)).1).stored (k * 3 + 2) (.bool e)).1)
      rw [ndc_set l p e (by rw [copN_len L.out hk]; exact hlt), copN_succ L.out HD.out] at hs
      go_roundw
      case rel => exact ⟨k + 1, by omega, by go_num, Lib.hid hs, Lib.hid ((((HBw.out.trans (HB1.out.mono HBs)).setCell (Nat.le_refl _) _).setCell (Nat.le_refl _) _).setCell (Nat.le_refl _) _)⟩
      case measure => simp [intOf]; omega
    · have e : k = n := by omega
      subst e
      have HF := Lib.hid (show wr.ownsRow w.heap.size 66 3 (.slice (some ⟨w.heap.size, 0, none⟩) k k) k (ndc t) by have := HO.out; rwa [copN_all L.out] at this)
      go_wp2
      go_ret
      exact ⟨rfl, HF.out, HBw.out⟩

theorem toTrie_any (B : Nat) (a : Option Addr) (n c : Nat) (t : List Nd) (w : World) (hB : B ≤ w.heap.size) (h : Nds B w a n c t) (hn : n ≤ 1048576) :
    Calls Try.prog 11 #[.agg #[.slice a n c]] w fun e w' => ∃ g, e = .returned (.agg #[.slice (some ⟨g, 0, none⟩) n n]) ∧ w'.ownsRow w.heap.size 66 3 (.slice (some ⟨g, 0, none⟩) n n) n (ndc t) ∧ Below w.heap.size w w' := by
  have HB1 : Hid (Below w.heap.size w (((w.alloc (.cells #[.slice a n c] 24)).alloc (.cells #[.slice none 0 0] 30)).alloc (.cells #[.slice none 0 0] 30))) := Lib.hid ((((Below.refl _ _).alloc (Nat.le_refl _) _).alloc (by simp) _).alloc (by simp; omega) _)
  have cN := Lib.hid (toNodeS_any B a n c t (((w.alloc (.cells #[.slice a n c] 24)).alloc (.cells #[.slice none 0 0] 30)).alloc (.cells #[.slice none 0 0] 30)) (Nat.le_trans hB HB1.out.size) (h.keep (HB1.out.mono hB)) hn)
  clear h hB
  have HX1 := Lib.hid (Boxed.new ((w.alloc (.cells #[.slice a n c] 24)).alloc (.cells #[.slice none 0 0] 30)) 30 (.slice none 0 0))
  have HX2 := Lib.hid ((Boxed.new (w.alloc (.cells #[.slice a n c] 24)) 30 (.slice none 0 0)).alloc (.cells #[.slice none 0 0] 30))
  go_enter Try.func11, Try.ntmps11
  go_wp2_with fail
  refine cN.out.mono ?_
  rintro e w2 ⟨rfl, hO, hb2⟩
  have HO := Lib.hid hO
  have HB2 := Lib.hid hb2
  have HY1 := Lib.hid (box_stay HX1.out hb2)
  have HY2 := Lib.hid (box_stay HX2.out hb2)
  clear hO hb2
  simp only [World.size_alloc] at HO HY1 HY2
  have hf1 := HY1.out.frozen
  have hc1 := HY1.out.cell
  have hf2 := HY2.out.frozen
  have hc2 := HY2.out.cell
  go_wp2
  refine bodyPost_ret (v := .agg #[.slice (some ⟨w.heap.size + 1 + 1 + 1, 0, none⟩) n n]) (by simp [results, Try.results11, go_sem, hc2]) rfl ⟨_, rfl, ?_, ?_⟩
  · have h1 := HO.out.kept (grownBy_setCell' w2 (w.heap.size + 1 + 1) (.slice (some ⟨w.heap.size + 1 + 1 + 1, 0, none⟩) n n)) (.inr (HY1.out.not_row (by decide) HO.out).symm)
    have h2 := HY2.out.other (B' := w.heap.size + 1 + 1) (by omega) (.slice (some ⟨w.heap.size + 1 + 1 + 1, 0, none⟩) n n)
    exact own_down (h1.kept (grownBy_setCell' _ (w.heap.size + 1) _) (.inr (h2.not_row (by decide) h1).symm)) (by omega)
  · exact ((HB1.out.trans (HB2.out.mono (by first | (simp; done) | (simp; omega)))).setCell (by first | (simp; done) | (simp; omega)) _).setCell (by first | (simp; done) | (simp; omega)) _

theorem eqNode_any (l p l' p' : Int) (e e' : Bool) (w : World) (r : Bool) (hr : r = true ↔ (⟨l, p, e⟩ : Nd) = ⟨l', p', e'⟩) :
    Calls Try.prog 75 #[.agg #[.int .i64 l, .int .i64 p, .bool e], .agg #[.int .i64 l', .int .i64 p', .bool e']] w fun en w' => en = .returned (.bool r) ∧ Below w.heap.size w w' := by
  have HB1 : Hid (Below w.heap.size w ((w.alloc (.cells #[.int .i64 l, .int .i64 p, .bool e] 66)).alloc (.cells #[.int .i64 l', .int .i64 p', .bool e'] 66))) := Lib.hid (((Below.refl _ _).alloc (Nat.le_refl _) _).alloc (by simp) _)
  have hno : ∀ {q : Prop}, (⟨l, p, e⟩ : Nd) ≠ ⟨l', p', e'⟩ → r = false := fun h => by
    cases r with
    | false => rfl
    | true => exact absurd (hr.1 rfl) h
  by_cases q1 : l = l'
  · by_cases q2 : p = p'
    · by_cases q3 : e = e'
      · have HX : Hid (r = true) := Lib.hid (hr.2 (by rw [q1, q2, q3]))
        have b1 : (l != l') = false := by simp [q1]
        have b2 : (p != p') = false := by simp [q2]
        have b3 : (e == e') = true := by simp [q3]
        clear hr hno q1 q2 q3
        go_enter Try.func75, Try.ntmps75
        go_wp2
        go_ret
        exact ⟨ret_bool HX.out.symm, HB1.out⟩
      · have HX : Hid (r = false) := Lib.hid (hno (q := True) (fun h => q3 (by injection h)))
        have b1 : (l != l') = false := by simp [q1]
        have b2 : (p != p') = false := by simp [q2]
        have b3 : (e == e') = false := by simp [q3]
        clear hr hno q1 q2 q3
        go_enter Try.func75, Try.ntmps75
        go_wp2
        go_ret
        exact ⟨ret_bool HX.out.symm, HB1.out⟩
    · have HX : Hid (r = false) := Lib.hid (hno (q := True) (fun h => q2 (by injection h)))
      have b1 : (l != l') = false := by simp [q1]
      have b2 : (p != p') = true := by simp [q2]
      clear hr hno q1 q2
      go_enter Try.func75, Try.ntmps75
      go_wp2
      go_ret
      exact ⟨ret_bool HX.out.symm, HB1.out⟩
  · have HX : Hid (r = false) := Lib.hid (hno (q := True) (fun h => q1 (by injection h)))
    have b1 : (l != l') = true := by simp [q1]
    clear hr hno q1
    go_enter Try.func75, Try.ntmps75
    go_wp2
    go_ret
    exact ⟨ret_bool HX.out.symm, HB1.out⟩

set_option maxRecDepth 1000000 in
set_option maxHeartbeats 1000000 in
theorem eqNodeS_any (B : Nat) (a a2 : Option Addr) (n c n2 c2 : Nat) (t u : List Nd) (w : World) (hB : B ≤ w.heap.size) (h : Nds B w a n c t) (h2 : Nds B w a2 n2 c2 u) (r : Bool) (hr : r = true ↔ t = u) :
    Calls Try.prog 37 #[.slice a n c, .slice a2 n2 c2] w fun e w' => e = .returned (.bool r) ∧ Below w.heap.size w w' := by
  have L := Lib.hid h.len
  have C := h.cap
  have T := h.top
  have H := Lib.hid h
  have L2 := Lib.hid h2.len
  have C2 := h2.cap
  have T2 := h2.top
  have H2 := Lib.hid h2
  have HB := Lib.hid hB
  have HR := Lib.hid hr
  clear h h2 hB hr
  by_cases hnn : n = n2
  · subst hnn
    have hne : ((n : Int) != (n : Int)) = false := by simp
    go_enter Try.func37, Try.ntmps37
    go_wp2
    go_loopw [5] (fun i wr => ∃ (k : Nat), k ≤ n ∧ i = .int .i64 k ∧ Hid (t.take k = u.take k) ∧ Hid (Below w.heap.size w wr)) (fun i _ => n - (intOf i).toNat)
    case atStart => exact ⟨0, Nat.zero_le _, rfl, Lib.hid rfl, Lib.hid (Below.refl _ _)⟩
    case round =>
      obtain ⟨k, hk, rfl, HE, HBw⟩ := hrel
      by_cases hlt : k < n
      · obtain ⟨b, o, l, p, e, rfl, hbB, hd, hl, hp, hc1, hc2, hc3⟩ := (H.out.keep (HBw.out.mono HB.out)).elem k hlt
        obtain ⟨b', o', l', p', e', rfl, hbB', hd', hl', hp', hc1', hc2', hc3'⟩ := (H2.out.keep (HBw.out.mono HB.out)).elem k hlt
        have HD := Lib.hid hd
        have HD' := Lib.hid hd'
        clear hd hd'
        have hbw : b < wr.heap.size := by have := HB.out; have := HBw.out.size; omega
        have hbw' : b' < wr.heap.size := by have := HB.out; have := HBw.out.size; omega
        have hi0 : (0 : Int) ≤ (k : Int) := by omega
        have hi1 : (k : Int) < (n : Int) := by omega
        obtain ⟨q, hq⟩ : ∃ q : Bool, q = true ↔ (⟨l, p, e⟩ : Nd) = ⟨l', p', e'⟩ := ⟨decide (l = l' ∧ p = p' ∧ e = e'), by simp⟩
        have cE := Lib.hid (fun w => eqNode_any l p l' p' e e' w q hq)
        have HQ := Lib.hid hq
        clear hq
        cases q with
        | false =>
          have HX : Hid (r = false) := Lib.hid (same_no HR.out HD.out HD'.out (fun h => by have := HQ.out.2 h; cases this))
          go_wp2
          go_region_held3 (fun w' => (w'.cell? ⟨b, o + k * 3, none⟩ = some (.int .i64 l) ∧ w'.cell? ⟨b, o + k * 3 + 1, none⟩ = some (.int .i64 p) ∧ w'.cell? ⟨b, o + k * 3 + 2, none⟩ = some (.bool e)) ∧ w'.cell? ⟨b', o' + k * 3, none⟩ = some (.int .i64 l') ∧ w'.cell? ⟨b', o' + k * 3 + 1, none⟩ = some (.int .i64 p') ∧ w'.cell? ⟨b', o' + k * 3 + 2, none⟩ = some (.bool e'))
            (first
              | (exact ⟨⟨(hb1.cell (p := ⟨b, o + k * 3, none⟩) (by simpa using hbw)).trans hc1, (hb1.cell (p := ⟨b, o + k * 3 + 1, none⟩) (by simpa using hbw)).trans hc2, (hb1.cell (p := ⟨b, o + k * 3 + 2, none⟩) (by simpa using hbw)).trans hc3⟩, (hb1.cell (p := ⟨b', o' + k * 3, none⟩) (by simpa using hbw')).trans hc1', (hb1.cell (p := ⟨b', o' + k * 3 + 1, none⟩) (by simpa using hbw')).trans hc2', (hb1.cell (p := ⟨b', o' + k * 3 + 2, none⟩) (by simpa using hbw')).trans hc3'⟩)
              | (exact ⟨⟨hc1, hc2, hc3⟩, hc1', hc2', hc3'⟩))
            (first | (go_at_call 75; refine (cE.out _).mono ?_; rintro e1 w1 ⟨rfl, hb1⟩))
          go_wp2
          go_ret
          exact ⟨ret_bool HX.out.symm, HBw.out.trans ((Below.refl _ _).drew.trans (hb1.mono (by have := HBw.out.size; simpa using this)))⟩
        | true =>
          have HE2 : Hid (t.take (k + 1) = u.take (k + 1)) := Lib.hid (by
            obtain ⟨k1, e1⟩ := List.getElem?_eq_some_iff.1 HD.out
            obtain ⟨k2, e2⟩ := List.getElem?_eq_some_iff.1 HD'.out
            rw [List.take_succ_eq_append_getElem k1, List.take_succ_eq_append_getElem k2, HE.out, e1, e2, HQ.out.1 rfl])
          go_wp2
          go_region_held3 (fun w' => (w'.cell? ⟨b, o + k * 3, none⟩ = some (.int .i64 l) ∧ w'.cell? ⟨b, o + k * 3 + 1, none⟩ = some (.int .i64 p) ∧ w'.cell? ⟨b, o + k * 3 + 2, none⟩ = some (.bool e)) ∧ w'.cell? ⟨b', o' + k * 3, none⟩ = some (.int .i64 l') ∧ w'.cell? ⟨b', o' + k * 3 + 1, none⟩ = some (.int .i64 p') ∧ w'.cell? ⟨b', o' + k * 3 + 2, none⟩ = some (.bool e'))
            (first
              | (exact ⟨⟨(hb1.cell (p := ⟨b, o + k * 3, none⟩) (by simpa using hbw)).trans hc1, (hb1.cell (p := ⟨b, o + k * 3 + 1, none⟩) (by simpa using hbw)).trans hc2, (hb1.cell (p := ⟨b, o + k * 3 + 2, none⟩) (by simpa using hbw)).trans hc3⟩, (hb1.cell (p := ⟨b', o' + k * 3, none⟩) (by simpa using hbw')).trans hc1', (hb1.cell (p := ⟨b', o' + k * 3 + 1, none⟩) (by simpa using hbw')).trans hc2', (hb1.cell (p := ⟨b', o' + k * 3 + 2, none⟩) (by simpa using hbw')).trans hc3'⟩)
              | (exact ⟨⟨hc1, hc2, hc3⟩, hc1', hc2', hc3'⟩))
            (first | (go_at_call 75; refine (cE.out _).mono ?_; rintro e1 w1 ⟨rfl, hb1⟩))
          go_wp2
          go_roundw
          case rel => exact ⟨k + 1, by omega, by go_num, HE2, Lib.hid (HBw.out.trans ((Below.refl _ _).drew.trans (hb1.mono (by have := HBw.out.size; simpa using this))))⟩
          case measure => simp [intOf]; omega
      · have e : k = n := by omega
        subst e
        have HX : Hid (r = true) := Lib.hid (HR.out.2 (by
          have := HE.out
          rwa [List.take_of_length_le (by rw [L.out]; omega), List.take_of_length_le (by rw [L2.out]; omega)] at this))
        go_wp2
        go_ret
        exact ⟨ret_bool HX.out.symm, HBw.out⟩
  · have HX : Hid (r = false) := Lib.hid (by
      cases r with
      | false => rfl
      | true =>
        have := HR.out.1 rfl
        have := L.out
        have := L2.out
        subst t
        omega)
    have hb : ((n : Int) != (n2 : Int)) = true := by simp; omega
    go_enter Try.func37, Try.ntmps37
    go_wp2
    go_ret
    exact ⟨ret_bool HX.out.symm, Below.refl _ _⟩

theorem eqTrie_any (B : Nat) (a a2 : Option Addr) (n c n2 c2 : Nat) (t u : List Nd) (w : World) (hB : B ≤ w.heap.size) (h : Nds B w a n c t) (h2 : Nds B w a2 n2 c2 u) (r : Bool) (hr : r = true ↔ t = u) :
    Calls Try.prog 13 #[.agg #[.slice a n c], .agg #[.slice a2 n2 c2]] w fun e w' => e = .returned (.bool r) ∧ Below w.heap.size w w' := by
  have HB1 : Hid (Below w.heap.size w ((w.alloc (.cells #[.slice a n c] 30)).alloc (.cells #[.slice a2 n2 c2] 30))) := Lib.hid (((Below.refl _ _).alloc (Nat.le_refl _) _).alloc (by simp) _)
  have cN := Lib.hid (eqNodeS_any B a a2 n c n2 c2 t u _ (Nat.le_trans hB HB1.out.size) (h.keep (HB1.out.mono hB)) (h2.keep (HB1.out.mono hB)) r hr)
  clear h h2 hB hr
  cases r
  all_goals
    go_enter Try.func13, Try.ntmps13
    go_wp2_with fail
    refine cN.out.mono ?_
    rintro e w2 ⟨rfl, hb2⟩
    go_wp2_with fail
    go_ret
    exact ⟨rfl, HB1.out.trans (hb2.mono (by simp; omega))⟩

end Go.Proofs.Ytfehfjnmkaifbab
