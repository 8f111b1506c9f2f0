/-
  EditsOf: what the reference's function answers.
-/
import Derived.Test.YtmgieahachphmaaEditM
import Derived.Test.YtmgieahachphmaaParts8
import Derived.Test.YtmgieahachphmaaWordS
import Derived.Test.YtmgieahachphmaaMarkOwnS
import Derived.Deep.RegionHeld3
namespace Go.Proofs.Ytmgieahachphmaa
open Go.RowKit
set_option linter.unusedVariables false

theorem tx_cat (a b : ByteArray) : tx (a ++ b) = tx a ++ tx b := by simp [tx]
theorem cut_one {x : Txt} {k : Nat} {c : UInt8} (h : x[k]? = some c) : (x.drop k).take 1 = [c] := by
  obtain ⟨hk, e⟩ := List.getElem?_eq_some_iff.1 h
  rw [List.drop_eq_getElem_cons hk, e]; rfl
theorem tx_front (s : ByteArray) (i : Nat) : tx (s.extract 0 i) = (tx s).take i := by rw [tx_sub, List.drop_zero, Nat.sub_zero]
theorem tx_back (s : ByteArray) (i : Nat) : tx (s.extract i s.size) = (tx s).drop i := by
  rw [tx_sub, List.take_of_length_le (by rw [List.length_drop, tx_len]; omega)]
theorem tx_at (s : ByteArray) (i : Nat) (c : UInt8) (h : (tx s)[i]? = some c) : tx (s.extract i (i + 1)) = [c] := by
  rw [tx_sub, show i + 1 - i = 1 by omega, cut_one h]
theorem flat_succ {α : Type} {f : α → List Txt} {l : List α} {k : Nat} {a : α} (h : l[k]? = some a) : (l.take (k + 1)).flatMap f = (l.take k).flatMap f ++ f a := by
  obtain ⟨hk, e⟩ := List.getElem?_eq_some_iff.1 h
  rw [List.take_succ_eq_append_getElem hk, e, List.flatMap_append, List.flatMap_cons, List.flatMap_nil, List.append_nil]
theorem flat_take_len {f : UInt8 → List Txt} {l : List UInt8} (hl : l.length ≤ 13) (hf : ∀ c ∈ l, (f c).length ≤ 2) (k : Nat) : ((l.take k).flatMap f).length ≤ 26 := by
  have h := flat_le (f := f) (m := 2) (l.take k) (fun c hc => hf c (List.mem_of_mem_take hc))
  rw [List.length_take] at h
  omega
theorem okW_isW {s : ByteArray} (h : okW s = true) : IsW (tx s) := of_decide_eq_true h
theorem okW_size {s : ByteArray} (h : okW s = true) : s.size ≤ 12 := by have := (okW_isW h).1; rwa [tx_len] at this

set_option maxRecDepth 1000000 in
set_option maxHeartbeats 4000000 in
theorem specEdits_any (s : ByteArray) (hs : s.size ≤ 1048576) (w : World) :
    Calls Try.prog 10 #[.string s] w (ownS.OwnTexts w (if okW s = true then edits (tx s) else []) (okW s)) := by
  have HB0 : Hid (Below w.heap.size w (w.alloc (.cells #[] 9))) := Lib.hid ((Below.refl _ _).alloc (Nat.le_refl _) _)
  unfold ownS.OwnTexts
  have cT := Lib.hid (fun W => l2Word_any s W (by omega))
  cases ht : okW s with
  | false =>
    rw [ht] at cT
    rw [if_neg (by simp)]
    clear ht
    go_enter Try.func10, Try.ntmps10
    go_wp2_with fail
    refine (cT.out _).mono ?_
    rintro e w1 ⟨rfl, rfl⟩
    go_wp2
    go_ret2
    exact ⟨_, rfl, ownS.own_lit0 (Nat.le_refl _), HB0.out⟩
  | true =>
    have h12 := okW_size ht
    have HIs := Lib.hid (okW_isW ht)
    rw [ht] at cT
    rw [if_pos rfl]
    obtain ⟨L, hL⟩ : ∃ L, (⟨#[97]⟩ : ByteArray) ++ s = L := ⟨_, rfl⟩
    have HLx : Hid (tx L = 97 :: tx s) := Lib.hid (by rw [← hL, tx_cat]; rfl)
    have hLs : L.size = s.size + 1 := by rw [← tx_len, HLx.out, List.length_cons, tx_len]
    have HLs := Lib.hid hLs
    have hLc : ¬ (9223372036854775807 < (⟨#[97]⟩ : ByteArray).size + s.size) := by show ¬ (9223372036854775807 < 1 + s.size); omega
    have hLc' : ¬ (9223372036854775807 < 1 + s.size) := by omega
    have hL14 : L.size ≤ 13 := by omega
    have hx12 : (tx s).length ≤ 12 := by rw [tx_len]; exact h12
    have HX12 := Lib.hid hx12
    have cPut : Hid (∀ (W : World) (a : Option Addr) (n c : Nat) (xs : List Txt) (t : ByteArray), Wds W.heap.size W a n c xs → t.size ≤ 9223372036854775807 → n ≤ 5000000 → Calls Try.prog 35 #[.slice a n c, .string t] W.drew fun e w' => ∃ a' n' c', e = .returned (.slice a' n' c') ∧ Wds w'.heap.size w' a' n' c' (put xs (tx t)) ∧ Below W.heap.size W w') := Lib.hid (fun W a n c xs t h h1 h2 =>
      (l2Put_any W.heap.size a n c xs t W.drew (Nat.le_refl _) (h.keep (Below.refl _ _).drew) h1 h2).mono fun e w' ⟨a', n', c', e1, h3, h4⟩ => ⟨a', n', c', e1, h3, (Below.refl _ _).drew.trans h4⟩)
    clear ht hLs hx12
    go_enter Try.func10, Try.ntmps10
    go_wp2_with fail
    refine (cT.out _).mono ?_
    rintro e w1 ⟨rfl, rfl⟩
    go_wp2
    go_loopw [4, 6] (fun o i wr => ∃ (k n c : Nat) (a : Option Addr), k ≤ s.size + 1 ∧ i = .int .i64 k ∧ o = .slice a n c ∧ Hid (Wds wr.heap.size wr a n c (puts (edAll edS (tx s) k))) ∧ Hid (Below w.heap.size w wr)) (fun _ i _ => s.size + 1 - (intOf i).toNat)
    case atStart => exact ⟨0, 0, 0, _, Nat.zero_le _, rfl, rfl, Lib.hid (wds_nil _ _ 0 _), HB0⟩
    case round =>
      obtain ⟨k, n, c, a, hk, rfl, rfl, HW, HB⟩ := hrel
      by_cases hlt : k ≤ s.size
      · have HStart : Hid (edAll edS (tx s) k ++ ((97 :: tx s).take 0).flatMap (edOne (tx s) k) = edAll edS (tx s) k) := Lib.hid (by simp)
        have HA : Hid ((edAll edS (tx s) k).length ≤ 351) := Lib.hid (by
          have := edAll_len (f := edS) (edS_len HX12.out) k
          have : k * 27 ≤ 13 * 27 := Nat.mul_le_mul (by omega) (Nat.le_refl _)
          omega)
        have HN0 : Hid (∀ j, (puts (edAll edS (tx s) k ++ ((97 :: tx s).take j).flatMap (edOne (tx s) k))).length ≤ 400) := Lib.hid (fun j => by
          have h1 := puts_len (edAll edS (tx s) k ++ ((97 :: tx s).take j).flatMap (edOne (tx s) k))
          have h2 := flat_take_len (l := 97 :: tx s) (f := edOne (tx s) k) (by have := HX12.out; simp; omega) (fun c _ => edOne_len _ _ _) j
          rw [List.length_append] at h1
          have := HA.out
          omega)
        rename World => wo
        obtain ⟨p, hp⟩ : ∃ p, s.extract 0 k = p := ⟨_, rfl⟩
        obtain ⟨q, hq⟩ : ∃ q, s.extract k s.size = q := ⟨_, rfl⟩
        obtain ⟨r, hr⟩ : ∃ r, s.extract (k + 1) s.size = r := ⟨_, rfl⟩
        have HPx : Hid (tx p = (tx s).take k) := Lib.hid (by rw [← hp, tx_front])
        have HQx : Hid (tx q = (tx s).drop k) := Lib.hid (by rw [← hq, tx_back])
        have HRx : Hid (tx r = (tx s).drop (k + 1)) := Lib.hid (by rw [← hr, tx_back])
        have hps : p.size ≤ 12 := by rw [← tx_len, HPx.out, List.length_take, tx_len]; omega
        have hqs : q.size ≤ 12 := by rw [← tx_len, HQx.out, List.length_drop, tx_len]; omega
        have hrs : r.size ≤ 12 := by rw [← tx_len, HRx.out, List.length_drop, tx_len]; omega
        have hk0 : (0 : Int) ≤ (k : Int) := by omega
        have hk1 : (k : Int) ≤ (s.size : Int) := by omega
        have hk2 : (0 : Int) ≤ (k : Int) + 1 := by omega
        have hk3 : ((k : Int) + 1).toNat = k + 1 := by omega
        have hk4 : (k : Int) ≤ (k : Int) + 1 := by omega
        have hkw : IntKind.i64.wrap ((k : Int) + 1) = (k : Int) + 1 := by unfold IntKind.wrap; simp [IntKind.bits]; omega
        go_wp2
        go_loopw [4, 7] (fun o i wr => ∃ (j n c : Nat) (a : Option Addr), j ≤ L.size ∧ i = .int .i64 j ∧ o = .slice a n c ∧ Hid (Wds wr.heap.size wr a n c (puts (edAll edS (tx s) k ++ ((97 :: tx s).take j).flatMap (edOne (tx s) k)))) ∧ Hid (Below w.heap.size w wr)) (fun _ i _ => L.size - (intOf i).toNat)
        case atStart => exact ⟨0, n, c, a, Nat.zero_le _, rfl, rfl, Lib.hid (by rw [HStart.out]; exact HW.out), HB⟩
        case round =>
          clear HW HB
          obtain ⟨j, n, c, a, hj, rfl, rfl, HW, HB⟩ := hrel
          have hn : n ≤ 400 := by have h1 := HW.out.len; have h2 := HN0.out j; omega
          by_cases hlt2 : j < L.size
          · have hj0 : (0 : Int) ≤ (j : Int) := by omega
            have hj1 : (j : Int) ≤ (j : Int) + 1 := by omega
            have hj2 : (j : Int) + 1 ≤ (L.size : Int) := by omega
            have hj3 : ((j : Int) + 1).toNat = j + 1 := by omega
            obtain ⟨b, hb⟩ : ∃ b, (97 :: tx s)[j]? = some b := ⟨_, List.getElem?_eq_getElem (by have := HLs.out; rw [List.length_cons, tx_len]; omega)⟩
            obtain ⟨y, hy⟩ : ∃ y, L.extract j (j + 1) = y := ⟨_, rfl⟩
            have HY : Hid (tx y = [b]) := Lib.hid (by rw [← hy, tx_at L j b (by rw [HLx.out]; exact hb)])
            have hys : y.size = 1 := by rw [← tx_len, HY.out]; rfl
            have HYs := Lib.hid hys
            have HF := Lib.hid (flat_succ (f := edOne (tx s) k) hb)
            obtain ⟨py, hpy⟩ : ∃ py, p ++ y = py := ⟨_, rfl⟩
            have HPY : Hid (tx py = (tx s).take k ++ [b]) := Lib.hid (by rw [← hpy, tx_cat, HPx.out, HY.out])
            have hpys : py.size ≤ 13 := by rw [← tx_len, HPY.out, List.length_append, List.length_take]; simp; omega
            obtain ⟨t1, ht1⟩ : ∃ t1, py ++ q = t1 := ⟨_, rfl⟩
            obtain ⟨t2, ht2⟩ : ∃ t2, py ++ r = t2 := ⟨_, rfl⟩
            have HT1 : Hid (tx t1 = (tx s).take k ++ b :: (tx s).drop k) := Lib.hid (by rw [← ht1, tx_cat, HPY.out, HQx.out, List.append_assoc]; rfl)
            have HT2 : Hid (tx t2 = (tx s).take k ++ b :: (tx s).drop (k + 1)) := Lib.hid (by rw [← ht2, tx_cat, HPY.out, HRx.out, List.append_assoc]; rfl)
            have hc1 : ¬ (9223372036854775807 < p.size + y.size) := by omega
            have hc2 : ¬ (9223372036854775807 < py.size + q.size) := by omega
            have hc3 : ¬ (9223372036854775807 < py.size + r.size) := by omega
            have ht1s : t1.size ≤ 9223372036854775807 := by rw [← tx_len, ← ht1, tx_cat, List.length_append, tx_len, tx_len]; omega
            have ht2s : t2.size ≤ 9223372036854775807 := by rw [← tx_len, ← ht2, tx_cat, List.length_append, tx_len, tx_len]; omega
            have HT1s := Lib.hid ht1s
            have HT2s := Lib.hid ht2s
            clear hys hb ht1s ht2s hps hqs hrs hpys
            by_cases h11 : s.size < 12
            · by_cases hin : k < s.size
              · have hk5 : (k : Int) + 1 ≤ (s.size : Int) := by omega
                obtain ⟨d, hd⟩ : ∃ d, (tx s)[k]? = some d := ⟨_, List.getElem?_eq_getElem (by rw [tx_len]; exact hin)⟩
                obtain ⟨z, hz⟩ : ∃ z, s.extract k (k + 1) = z := ⟨_, rfl⟩
                have HZ : Hid (tx z = [d]) := Lib.hid (by rw [← hz, tx_at s k d hd])
                by_cases hyz : y = z
                · have HNe : Hid (¬ (k < (tx s).length ∧ (tx s)[k]? ≠ some b)) := Lib.hid (fun h => h.2 (by rw [hd]; have h1 := HY.out; rw [hyz, HZ.out] at h1; injection h1 with h1; rw [h1]))
                  have hyq : (y.toList == z.toList) = true := by rw [hyz]; simp
                  have hyq2 : (y.toList != z.toList) = false := by rw [hyz]; simp
                  clear hd hyz
                  have HE : Hid (edOne (tx s) k b = [tx t1]) := Lib.hid (by
                    unfold edOne
                    rw [if_pos (by rw [tx_len]; exact h11), if_neg HNe.out]
                    simp [HT1.out])
                  have HNew : Hid (put (puts (edAll edS (tx s) k ++ ((97 :: tx s).take j).flatMap (edOne (tx s) k))) (tx t1) = puts (edAll edS (tx s) k ++ ((97 :: tx s).take (j + 1)).flatMap (edOne (tx s) k))) := Lib.hid (by
                    rw [HF.out, HE.out, ← List.append_assoc]
                    rw [puts_snoc])
                  go_wp2
                  go_region_held3 (fun w' => True) (trivial)
                    (first | (go_at_call 35; refine (cPut.out wr a n c _ t1 HW.out HT1s.out (by omega)).mono ?_; rintro e w2 ⟨a2, n2, c2, rfl, hW2, hb2⟩))
                  have HW2 := Lib.hid hW2
                  have HB2 := Lib.hid (HB.out.trans (hb2.mono HB.out.size))
                  have hn2 : n2 ≤ 401 := by have h1 := hW2.len; have h2 := put_len (puts (edAll edS (tx s) k ++ ((97 :: tx s).take j).flatMap (edOne (tx s) k))) (tx t1); have h3 := HN0.out j; omega
                  clear hW2 hb2
                  go_wp2
                  go_roundw
                  case rel => exact ⟨j + 1, n2, c2, a2, by omega, by go_num, rfl, Lib.hid (by rw [← HNew.out]; exact HW2.out), HB2⟩
                  case measure => simp [intOf]; omega
                · have HNe : Hid (k < (tx s).length ∧ (tx s)[k]? ≠ some b) := Lib.hid ⟨by rw [tx_len]; exact hin, fun h => hyz (tx_inj (by rw [hd] at h; injection h with h; rw [HY.out, HZ.out, h]))⟩
                  have hyq : (y.toList == z.toList) = false := by rw [str_eq_list]; simp [hyz]
                  have hyq2 : (y.toList != z.toList) = true := by unfold bne; rw [hyq]; rfl
                  clear hd hyz
                  have HE : Hid (edOne (tx s) k b = [tx t1, tx t2]) := Lib.hid (by
                    unfold edOne
                    rw [if_pos (by rw [tx_len]; exact h11), if_pos HNe.out]
                    simp [HT1.out, HT2.out])
                  have HNew : Hid (put (put (puts (edAll edS (tx s) k ++ ((97 :: tx s).take j).flatMap (edOne (tx s) k))) (tx t1)) (tx t2) = puts (edAll edS (tx s) k ++ ((97 :: tx s).take (j + 1)).flatMap (edOne (tx s) k))) := Lib.hid (by
                    rw [HF.out, HE.out, ← List.append_assoc]
                    rw [show ([tx t1, tx t2] : List Txt) = [tx t1] ++ [tx t2] from rfl, ← List.append_assoc, puts_snoc, puts_snoc])
                  go_wp2
                  go_region_held3 (fun w' => True) (trivial)
                    (first | (go_at_call 35; refine (cPut.out wr a n c _ t1 HW.out HT1s.out (by omega)).mono ?_; rintro e w2 ⟨a2, n2, c2, rfl, hW2, hb2⟩))
                  have HW2 := Lib.hid hW2
                  have HB2 := Lib.hid (HB.out.trans (hb2.mono HB.out.size))
                  have hn2 : n2 ≤ 401 := by have h1 := hW2.len; have h2 := put_len (puts (edAll edS (tx s) k ++ ((97 :: tx s).take j).flatMap (edOne (tx s) k))) (tx t1); have h3 := HN0.out j; omega
                  clear hW2 hb2
                  go_wp2
                  go_region_held3 (fun w' => True) (trivial)
                    (first | (go_at_call 35; refine (cPut.out w2 a2 n2 c2 _ t2 HW2.out HT2s.out (by omega)).mono ?_; rintro e w3 ⟨a3, n3, c3, rfl, hW3, hb3⟩))
                  have HW3 := Lib.hid hW3
                  have HB3 := Lib.hid (HB2.out.trans (hb3.mono HB2.out.size))
                  clear hW3 hb3
                  go_wp2
                  go_roundw
                  case rel => exact ⟨j + 1, n3, c3, a3, by omega, by go_num, rfl, Lib.hid (by rw [← HNew.out]; exact HW3.out), HB3⟩
                  case measure => simp [intOf]; omega
              · have HNe : Hid (¬ (k < (tx s).length ∧ (tx s)[k]? ≠ some b)) := Lib.hid (fun h => hin (by have := h.1; rwa [tx_len] at this))
                have HE : Hid (edOne (tx s) k b = [tx t1]) := Lib.hid (by
                  unfold edOne
                  rw [if_pos (by rw [tx_len]; exact h11), if_neg HNe.out]
                  simp [HT1.out])
                have HNew : Hid (put (puts (edAll edS (tx s) k ++ ((97 :: tx s).take j).flatMap (edOne (tx s) k))) (tx t1) = puts (edAll edS (tx s) k ++ ((97 :: tx s).take (j + 1)).flatMap (edOne (tx s) k))) := Lib.hid (by
                  rw [HF.out, HE.out, ← List.append_assoc]
                  rw [puts_snoc])
                go_wp2
                go_region_held3 (fun w' => True) (trivial)
                  (first | (go_at_call 35; refine (cPut.out wr a n c _ t1 HW.out HT1s.out (by omega)).mono ?_; rintro e w2 ⟨a2, n2, c2, rfl, hW2, hb2⟩))
                have HW2 := Lib.hid hW2
                have HB2 := Lib.hid (HB.out.trans (hb2.mono HB.out.size))
                have hn2 : n2 ≤ 401 := by have h1 := hW2.len; have h2 := put_len (puts (edAll edS (tx s) k ++ ((97 :: tx s).take j).flatMap (edOne (tx s) k))) (tx t1); have h3 := HN0.out j; omega
                clear hW2 hb2
                go_wp2
                go_roundw
                case rel => exact ⟨j + 1, n2, c2, a2, by omega, by go_num, rfl, Lib.hid (by rw [← HNew.out]; exact HW2.out), HB2⟩
                case measure => simp [intOf]; omega
            · by_cases hin : k < s.size
              · have hk5 : (k : Int) + 1 ≤ (s.size : Int) := by omega
                obtain ⟨d, hd⟩ : ∃ d, (tx s)[k]? = some d := ⟨_, List.getElem?_eq_getElem (by rw [tx_len]; exact hin)⟩
                obtain ⟨z, hz⟩ : ∃ z, s.extract k (k + 1) = z := ⟨_, rfl⟩
                have HZ : Hid (tx z = [d]) := Lib.hid (by rw [← hz, tx_at s k d hd])
                by_cases hyz : y = z
                · have HNe : Hid (¬ (k < (tx s).length ∧ (tx s)[k]? ≠ some b)) := Lib.hid (fun h => h.2 (by rw [hd]; have h1 := HY.out; rw [hyz, HZ.out] at h1; injection h1 with h1; rw [h1]))
                  have hyq : (y.toList == z.toList) = true := by rw [hyz]; simp
                  have hyq2 : (y.toList != z.toList) = false := by rw [hyz]; simp
                  clear hd hyz
                  have HE : Hid (edOne (tx s) k b = []) := Lib.hid (by
                    unfold edOne
                    rw [if_neg (by rw [tx_len]; exact h11), if_neg HNe.out]
                    simp [])
                  have HNew : Hid (puts (edAll edS (tx s) k ++ ((97 :: tx s).take j).flatMap (edOne (tx s) k)) = puts (edAll edS (tx s) k ++ ((97 :: tx s).take (j + 1)).flatMap (edOne (tx s) k))) := Lib.hid (by
                    rw [HF.out, HE.out, ← List.append_assoc]
                    rw [List.append_nil])
                  go_wp2
                  go_roundw
                  case rel => exact ⟨j + 1, n, c, a, by omega, by go_num, rfl, Lib.hid (by rw [← HNew.out]; exact HW.out), HB⟩
                  case measure => simp [intOf]; omega
                · have HNe : Hid (k < (tx s).length ∧ (tx s)[k]? ≠ some b) := Lib.hid ⟨by rw [tx_len]; exact hin, fun h => hyz (tx_inj (by rw [hd] at h; injection h with h; rw [HY.out, HZ.out, h]))⟩
                  have hyq : (y.toList == z.toList) = false := by rw [str_eq_list]; simp [hyz]
                  have hyq2 : (y.toList != z.toList) = true := by unfold bne; rw [hyq]; rfl
                  clear hd hyz
                  have HE : Hid (edOne (tx s) k b = [tx t2]) := Lib.hid (by
                    unfold edOne
                    rw [if_neg (by rw [tx_len]; exact h11), if_pos HNe.out]
                    simp [HT2.out])
                  have HNew : Hid (put (puts (edAll edS (tx s) k ++ ((97 :: tx s).take j).flatMap (edOne (tx s) k))) (tx t2) = puts (edAll edS (tx s) k ++ ((97 :: tx s).take (j + 1)).flatMap (edOne (tx s) k))) := Lib.hid (by
                    rw [HF.out, HE.out, ← List.append_assoc]
                    rw [puts_snoc])
                  go_wp2
                  go_region_held3 (fun w' => True) (trivial)
                    (first | (go_at_call 35; refine (cPut.out wr a n c _ t2 HW.out HT2s.out (by omega)).mono ?_; rintro e w3 ⟨a3, n3, c3, rfl, hW3, hb3⟩))
                  have HW3 := Lib.hid hW3
                  have HB3 := Lib.hid (HB.out.trans (hb3.mono HB.out.size))
                  clear hW3 hb3
                  go_wp2
                  go_roundw
                  case rel => exact ⟨j + 1, n3, c3, a3, by omega, by go_num, rfl, Lib.hid (by rw [← HNew.out]; exact HW3.out), HB3⟩
                  case measure => simp [intOf]; omega
              · have HNe : Hid (¬ (k < (tx s).length ∧ (tx s)[k]? ≠ some b)) := Lib.hid (fun h => hin (by have := h.1; rwa [tx_len] at this))
                have HE : Hid (edOne (tx s) k b = []) := Lib.hid (by
                  unfold edOne
                  rw [if_neg (by rw [tx_len]; exact h11), if_neg HNe.out]
                  simp [])
                have HNew : Hid (puts (edAll edS (tx s) k ++ ((97 :: tx s).take j).flatMap (edOne (tx s) k)) = puts (edAll edS (tx s) k ++ ((97 :: tx s).take (j + 1)).flatMap (edOne (tx s) k))) := Lib.hid (by
                  rw [HF.out, HE.out, ← List.append_assoc]
                  rw [List.append_nil])
                go_wp2
                go_roundw
                case rel => exact ⟨j + 1, n, c, a, by omega, by go_num, rfl, Lib.hid (by rw [← HNew.out]; exact HW.out), HB⟩
                case measure => simp [intOf]; omega
          · have e : j = L.size := by omega
            have HAll : Hid ((97 :: tx s).take j = 97 :: tx s) := Lib.hid (List.take_of_length_le (by rw [List.length_cons, tx_len]; have := HLs.out; omega))
            clear e
            by_cases hin : k < s.size
            · have hk5 : (k : Int) + 1 ≤ (s.size : Int) := by omega
              obtain ⟨t3, ht3⟩ : ∃ t3, p ++ r = t3 := ⟨_, rfl⟩
              have HT3 : Hid (tx t3 = (tx s).take k ++ (tx s).drop (k + 1)) := Lib.hid (by rw [← ht3, tx_cat, HPx.out, HRx.out])
              have hc4 : ¬ (9223372036854775807 < p.size + r.size) := by omega
              have ht3s : t3.size ≤ 9223372036854775807 := by rw [← tx_len, ← ht3, tx_cat, List.length_append, tx_len, tx_len]; omega
              have HT3s := Lib.hid ht3s
              have HNew : Hid (put (puts (edAll edS (tx s) k ++ ((97 :: tx s).take j).flatMap (edOne (tx s) k))) (tx t3) = puts (edAll edS (tx s) (k + 1))) := Lib.hid (by
                rw [← puts_snoc, edAll_succ, HAll.out, HT3.out, List.append_assoc]
                unfold edS edDel
                rw [if_pos (by rw [tx_len]; exact hin)])
              clear ht3s
              go_wp2
              go_region_held3 (fun w' => True) (trivial)
                (first | (go_at_call 35; refine (cPut.out wr a n c _ t3 HW.out HT3s.out (by omega)).mono ?_; rintro e w2 ⟨a2, n2, c2, rfl, hW2, hb2⟩))
              have HW2 := Lib.hid hW2
              have HB2 := Lib.hid (HB.out.trans (hb2.mono HB.out.size))
              clear hW2 hb2
              go_wp2
              go_roundw
              case rel => exact ⟨k + 1, n2, c2, a2, by omega, by go_num, rfl, Lib.hid (by rw [← HNew.out]; exact HW2.out), HB2⟩
              case measure => simp [intOf]; omega
            · have HNew : Hid (puts (edAll edS (tx s) k ++ ((97 :: tx s).take j).flatMap (edOne (tx s) k)) = puts (edAll edS (tx s) (k + 1))) := Lib.hid (by
                rw [edAll_succ, HAll.out]
                unfold edS edDel
                rw [if_neg (by rw [tx_len]; exact hin), List.append_nil])
              go_wp2
              go_roundw
              case rel => exact ⟨k + 1, n, c, a, by omega, by go_num, rfl, Lib.hid (by rw [← HNew.out]; exact HW.out), HB⟩
              case measure => simp [intOf]; omega
      · have e : k = s.size + 1 := by omega
        subst e
        have HEd : Hid (puts (edAll edS (tx s) (s.size + 1)) = edits (tx s)) := Lib.hid (by unfold edits; rw [tx_len])
        have hel := edits_len HX12.out
        rw [HEd.out] at HW
        obtain ⟨ps, hps⟩ : ∃ ps, edits (tx s) = ps := ⟨_, rfl⟩
        rw [hps] at HW hel
        have HPs := Lib.hid hps
        clear hps
        obtain rfl : n = ps.length := HW.out.len.symm
        have cO := Lib.hid (l2Own_any wr.heap.size a ps.length c (ps.map bx) wr (Nat.le_refl _) HW.out (by omega))
        go_wp2_with fail
        refine cO.out.mono ?_
        rintro e w3 ⟨v, rfl, hO3, hb3⟩
        have HO3 := Lib.hid (own_down hO3 HB.out.size)
        have HB3 := Lib.hid (HB.out.trans (hb3.mono HB.out.size))
        clear hO3 hb3
        go_wp2
        go_ret2
        exact ⟨_, rfl, by rw [HPs.out]; have := HO3.out; rwa [List.map_map] at this, HB3.out⟩

end Go.Proofs.Ytmgieahachphmaa
