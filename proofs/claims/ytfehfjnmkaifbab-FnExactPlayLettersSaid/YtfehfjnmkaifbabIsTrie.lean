/-
  The program's IsTrie answers whether the nodes are a valid trie.
-/
import Derived.Test.YtfehfjnmkaifbabImpl
namespace Go.Proofs.Ytfehfjnmkaifbab
open Go.RowKit
set_option linter.unusedVariables false

theorem bool_of (p : Prop) : ∃ r : Bool, r = true ↔ p := by
  by_cases h : p
  · exact ⟨true, by simp [h]⟩
  · exact ⟨false, by simp [h]⟩

theorem not_next {t : List Nd} {k : Nat} {ps : List Txt} {z : Txt} {d : Nd} (ht : Tells t k ps) (hz : ps[k - 1]? = some z) (hd : t[k]? = some d) (hn : ¬ NextOk ps k z d) : ¬ IsT t := by
  rintro ⟨qs, hv⟩
  exact hn (tells_nextOk ht hv.tells (List.getElem?_eq_some_iff.1 hd).1 hz hd)

theorem not_long {t : List Nd} {k i : Nat} {ps : List Txt} {x : Txt} (ht : Tells t k ps) (hx : ps[i]? = some x) (hl : 12 < x.length) : ¬ IsT t := by
  rintro ⟨qs, hv⟩
  have hi := (List.getElem?_eq_some_iff.1 hx).1
  have := tells_uniq ht hv.tells i (by rw [← ht.len]; exact hi) (by have := ht.le; have := ht.len; omega)
  rw [hx] at this
  have := hv.short x (at_mem this.symm)
  omega

theorem isT_end {t : List Nd} {ps : List Txt} (ht : Tells t t.length ps) (hs : ∀ x ∈ ps, x.length ≤ 12) (hn : t.length ≤ 481) : IsT t ↔ (∀ (i : Nat) (d : Nd), 1 ≤ i → t[i]? = some d → Leaf t i → d.e = true) ∧ ends t ≤ 40 := by
  constructor
  · rintro ⟨qs, hv⟩
    exact ⟨fun i d h1 h2 h3 => leaf_word hv.tells hv.word h1 h2 h3, hv.few⟩
  · rintro ⟨h1, h2⟩
    exact ⟨ps, ht, hs, word_leaf ht h1, h2, hn⟩

set_option maxRecDepth 1000000 in
set_option maxHeartbeats 2000000 in
theorem isTrie_any (B : Nat) (a : Option Addr) (n c : Nat) (t : List Nd) (w : World) (hB : B ≤ w.heap.size) (h : Nds B w a n c t) :
    Calls Try.prog 95 #[.agg #[.slice a n c]] w fun e w' => e = .returned (.bool (trieB t)) ∧ Below w.heap.size w w' := by
  have L := Lib.hid h.len
  have C := h.cap
  have T := h.top
  have H := Lib.hid h
  have HB := Lib.hid hB
  clear h hB
  obtain ⟨r, hr⟩ : ∃ r, trieB t = r := ⟨_, rfl⟩
  have HR := Lib.hid hr
  rw [hr]
  clear hr
  have HB1 : Hid (Below w.heap.size w (w.alloc (.cells #[.slice a n c] 30))) := Lib.hid ((Below.refl _ _).alloc (Nat.le_refl _) _)
  by_cases h0 : n = 0
  · have HX : Hid (r = false) := Lib.hid (HR.out.symm.trans <| trieB_no (fun ht => by have := (isT_size ht).1; have := L.out; omega))
    have hb : ((n : Int) == 0) = true := by simp; omega
    clear h0
    go_enter Try.func95, Try.ntmps95
    go_wp2
    go_ret
    exact ⟨ret_bool HX.out.symm, HB1.out⟩
  · have hb : ((n : Int) == 0) = false := by simp; omega
    by_cases h481 : 481 < n
    · have HX : Hid (r = false) := Lib.hid (HR.out.symm.trans <| trieB_no (fun ht => by have := (isT_size ht).2; have := L.out; omega))
      clear h0
      go_enter Try.func95, Try.ntmps95
      go_wp2
      go_ret
      exact ⟨ret_bool HX.out.symm, HB1.out⟩
    · obtain ⟨b, o, l, p, e, rfl, hbB, hd, hl, hp, hc1, hc2, hc3⟩ := (H.out.keep (HB1.out.mono HB.out)).elem 0 (by omega)
      have HD := Lib.hid hd
      clear hd
      simp only [Nat.zero_mul, Nat.add_zero] at hc1 hc2 hc3
      have hn0 : (0 : Int) < (n : Int) := by omega
      clear h0
      by_cases hroot : l = -1 ∧ p = -1
      · obtain ⟨rfl, rfl⟩ := hroot
        have q1 : ((-1 : Int) != -1) = false := by simp
        have HT0 := Lib.hid (tells_one HD.out)
        go_enter Try.func95, Try.ntmps95
        go_wp2
        clear hc1 hc2 hc3
        go_loopw [4] (fun i wr => ∃ (k : Nat) (ps : List Txt), 1 ≤ k ∧ k ≤ n ∧ i = .int .i64 k ∧ Hid (Tells t k ps) ∧ Hid (∀ x ∈ ps, x.length ≤ 12) ∧ Hid (Below w.heap.size w wr)) (fun i _ => n - (intOf i).toNat)
        case atStart => exact ⟨1, _, Nat.le_refl _, by omega, rfl, HT0, Lib.hid (by simp), HB1⟩
        case round =>
          obtain ⟨k, ps, hk1, hk, rfl, HT, HS, HBw⟩ := hrel
          by_cases hlt : k < n
          · obtain ⟨_, z, _, hz⟩ := HT.out.at (show k - 1 < k by omega)
            have HZ := Lib.hid hz
            obtain ⟨d, hd⟩ : ∃ d, t[k]? = some d := ⟨_, List.getElem?_eq_getElem (by have := L.out; omega)⟩
            have HDk := Lib.hid hd
            clear hz hd
            obtain ⟨q, hq⟩ := bool_of (NextOk ps k z d)
            have HQ := Lib.hid hq
            have cN := Lib.hid (isNext_any B _ n c k t ps z d wr (Nat.le_trans HB.out HBw.out.size) (H.out.keep (HBw.out.mono HB.out)) HT.out hlt HZ.out HDk.out q hq)
            clear hq
            cases q with
            | false =>
              have HX : Hid (r = false) := Lib.hid (HR.out.symm.trans <| trieB_no (not_next HT.out HZ.out HDk.out (fun hh => by have := HQ.out.2 hh; cases this)))
              go_wp2_with (go_at_call 108; refine cN.out.mono ?_; rintro en w1 ⟨rfl, hb1⟩)
              go_ret
              exact ⟨ret_bool HX.out.symm, HBw.out.trans (hb1.mono HBw.out.size)⟩
            | true =>
              obtain ⟨y, hy⟩ := tells_next HT.out HZ.out HDk.out (HQ.out.1 rfl)
              have HTy := Lib.hid hy
              clear hy
              have HYk : Hid ((ps ++ [y])[k]? = some y) := Lib.hid (by rw [List.getElem?_append_right (by rw [HT.out.len]; exact Nat.le_refl _)]; simp [HT.out.len])
              have cL : Hid (∀ W, Below w.heap.size w W → Calls Try.prog 77 #[.slice (some ⟨b, o, none⟩) n c, .int .i64 (k : Int)] W fun e w' => e = .returned (.int .i64 (y.length : Int)) ∧ W = w') := Lib.hid (fun W hW => lettersTo_any B _ n c k (k + 1) t (ps ++ [y]) y W (Nat.le_trans HB.out hW.size) (H.out.keep (hW.mono HB.out)) HTy.out HYk.out)
              by_cases hy12 : 12 < y.length
              · have HX : Hid (r = false) := Lib.hid (HR.out.symm.trans <| trieB_no (not_long HTy.out HYk.out hy12))
                go_wp2_with (first
                  | (go_at_call 108; refine cN.out.mono ?_; rintro en w1 ⟨rfl, hb1⟩; have HBx := Lib.hid (HBw.out.trans (hb1.mono HBw.out.size)))
                  | (go_at_call 77; refine (cL.out _ HBx.out).mono ?_; rintro en w1 ⟨rfl, rfl⟩))
                go_ret
                exact ⟨ret_bool HX.out.symm, HBx.out⟩
              · have HS2 : Hid (∀ x ∈ ps ++ [y], x.length ≤ 12) := Lib.hid (fun x hx => by
                  rcases List.mem_append.1 hx with hx | hx
                  · exact HS.out x hx
                  · rw [List.mem_singleton] at hx; rw [hx]; omega)
                go_wp2_with (first
                  | (go_at_call 108; refine cN.out.mono ?_; rintro en w1 ⟨rfl, hb1⟩; have HBx := Lib.hid (HBw.out.trans (hb1.mono HBw.out.size)))
                  | (go_at_call 77; refine (cL.out _ HBx.out).mono ?_; rintro en w1 ⟨rfl, rfl⟩))
                go_roundw
                case rel => exact ⟨k + 1, ps ++ [y], by omega, by omega, by go_num, HTy, HS2, HBx⟩
                case measure => simp [intOf]; omega
          · have e9 : k = t.length := by have := L.out; omega
            have HTn : Hid (Tells t t.length ps) := Lib.hid (by have := HT.out; rwa [e9] at this)
            have HE := Lib.hid (isT_end HTn.out HS.out (by have := L.out; omega))
            clear e9
            obtain ⟨q, hq⟩ := bool_of (∀ (i : Nat) (d : Nd), 1 ≤ i → t[i]? = some d → Leaf t i → d.e = true)
            have HQ := Lib.hid hq
            have cA := Lib.hid (areLeavesWords_any B _ n c t wr (H.out.keep (HBw.out.mono HB.out)) (by omega) q hq)
            have cC := Lib.hid (countEnds_any B _ n c t wr (Nat.le_trans HB.out HBw.out.size) (H.out.keep (HBw.out.mono HB.out)) (by omega))
            obtain ⟨m, hm⟩ : ∃ m, ends t = m := ⟨_, rfl⟩
            have HM := Lib.hid hm
            rw [hm] at cC
            clear hq hm
            cases q with
            | false =>
              have HX : Hid (r = false) := Lib.hid (HR.out.symm.trans <| trieB_no (fun hh => by have := HQ.out.2 (HE.out.1 hh).1; cases this))
              go_wp2_with (go_at_call 109; refine cA.out.mono ?_; rintro en w1 ⟨rfl, rfl⟩)
              go_ret
              exact ⟨ret_bool HX.out.symm, HBw.out⟩
            | true =>
              have HX : Hid (r = decide (m ≤ 40)) := Lib.hid (by
                rw [← HR.out, Bool.eq_iff_iff, trieB_iff, HE.out, HM.out]
                simp only [decide_eq_true_eq]
                exact ⟨fun h => h.2, fun h => ⟨HQ.out.1 rfl, h⟩⟩)
              go_wp2_with (first
                | (go_at_call 109; refine cA.out.mono ?_; rintro en w1 ⟨rfl, rfl⟩)
                | (go_at_call 110; refine cC.out.mono ?_; rintro en w1 ⟨rfl, hb1⟩))
              go_ret
              exact ⟨ret_bool (by rw [HX.out]; exact decide_eq_decide.2 (by omega)), HBw.out.trans (hb1.mono HBw.out.size)⟩
      · have HX : Hid (r = false) := Lib.hid (HR.out.symm.trans <| trieB_no (fun ⟨qs, hv⟩ => by
          obtain ⟨e', h'⟩ := hv.tells.root
          rw [HD.out] at h'
          injection h' with h'
          injection h' with h1 h2 h3
          exact hroot ⟨h1, h2⟩))
        by_cases q1 : l = -1
        · have hb1 : (l != -1) = false := by simp [q1]
          have hb2 : (p != -1) = true := by simp; intro h2; exact hroot ⟨q1, h2⟩
          clear hroot q1
          go_enter Try.func95, Try.ntmps95
          go_wp2
          go_ret
          exact ⟨ret_bool HX.out.symm, HB1.out⟩
        · have hb1 : (l != -1) = true := by simp [q1]
          clear hroot q1
          go_enter Try.func95, Try.ntmps95
          go_wp2
          go_ret
          exact ⟨ret_bool HX.out.symm, HB1.out⟩

end Go.Proofs.Ytfehfjnmkaifbab
