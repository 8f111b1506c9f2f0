/-
  The reference's lists of texts: put.
-/
import Derived.Test.YtfehfjnmkaifbabBas
import Derived.Test.YtfehfjnmkaifbabPut
namespace Go.Proofs.Ytfehfjnmkaifbab
open Go.RowKit
set_option linter.unusedVariables false

theorem Sl.front {B : Nat} {w : World} {a : Option Addr} {n c : Nat} {xs : List Value} (h : Sl B w a n c xs) {k : Nat} (hk : k ≤ n) : Sl B w a k c (xs.take k) :=
  ⟨by have := h.len; simp; omega, Nat.le_trans hk h.cap, h.top, fun i u hu => h.spot i u (by
    obtain ⟨hi, e⟩ := List.getElem?_eq_some_iff.1 hu
    rw [List.getElem_take] at e
    have hi' : i < xs.length := by simp at hi; omega
    rw [List.getElem?_eq_getElem hi', e])⟩

theorem Sl.cut {B : Nat} {w : World} {a : Option Addr} {n c : Nat} {xs : List Value} (h : Sl B w a n c xs) {k : Nat} (hk : k ≤ n) : Sl B w (if c = k then a else a.map (·.add k)) (n - k) (c - k) (xs.drop k) :=
  ⟨by have := h.len; simp; omega, by have := h.cap; omega, by have := h.top; omega, fun i u hu => by
    rw [List.getElem?_drop] at hu
    obtain ⟨b, o, rfl, hb, hc⟩ := h.spot (k + i) u hu
    have hi := (List.getElem?_eq_some_iff.1 hu).1
    have hne : c ≠ k := by have := h.len; have := h.cap; omega
    refine ⟨b, o + k, ?_, hb, by rw [Nat.add_assoc]; exact hc⟩
    rw [if_neg hne]
    cases k <;> simp [Addr.add]⟩

theorem sl_new (w : World) (t : TypeId) (v : Value) : Sl (w.heap.size + 1) (w.alloc (.cells #[v] t)) (some ⟨w.heap.size, 0, none⟩) 1 1 [v] :=
  ⟨rfl, Nat.le_refl _, by omega, fun i u hu => by
    cases i with
    | zero =>
      obtain rfl : v = u := by simpa using hu
      exact ⟨w.heap.size, 0, rfl, by omega, by simp⟩
    | succ i => simp at hu⟩

theorem sl_kept {B : Nat} {w w' : World} {a : Option Addr} {n c : Nat} {xs : List Value} (hb : Below B w w') (h : Sl B w a n c xs) : Sl B w' a n c xs := h.keep hb

/-- texts in a slice -/
abbrev Wds (B : Nat) (w : World) (a : Option Addr) (n c : Nat) (xs : List Txt) : Prop := Strs B w a n c (xs.map bx)

theorem Wds.len {B : Nat} {w : World} {a : Option Addr} {n c : Nat} {xs : List Txt} (h : Wds B w a n c xs) : xs.length = n := by simpa using Strs.len h

theorem Wds.each' {B : Nat} {w : World} {a : Option Addr} {n c : Nat} {xs : List Txt} (h : Wds B w a n c xs) : ∀ x ∈ xs, x.length ≤ 9223372036854775807 := fun x hx => by
  have := h.each (bx x) (List.mem_map.2 ⟨x, hx, rfl⟩)
  rwa [bx_size] at this

theorem Wds.elem {B : Nat} {w : World} {a : Option Addr} {n c : Nat} {xs : List Txt} (h : Wds B w a n c xs) (k : Nat) (hk : k < n) :
    ∃ b o s, a = some ⟨b, o, none⟩ ∧ b < B ∧ xs[k]? = some (tx s) ∧ s.size ≤ 9223372036854775807 ∧ w.cell? ⟨b, o + k, none⟩ = some (.string s) := by
  obtain ⟨b, o, s, h1, h2, h3, h4, h5⟩ := Strs.elem h k hk
  rw [List.getElem?_map, Option.map_eq_some_iff] at h3
  obtain ⟨x, h3, rfl⟩ := h3
  exact ⟨b, o, bx x, h1, h2, h3, h4, h5⟩

theorem pos_drop {xs : List Txt} {k : Nat} {x w : Txt} (h : xs[k]? = some x) : pos (xs.drop k) w = if bef x w = true then pos (xs.drop (k + 1)) w + 1 else 0 := by
  obtain ⟨hk, e⟩ := List.getElem?_eq_some_iff.1 h
  rw [List.drop_eq_getElem_cons hk, e, pos]

theorem put_at {xs : List Txt} {k : Nat} {w : Txt} (h : pos xs w = k) (hn : xs[k]? ≠ some w) : put xs w = xs.take k ++ w :: xs.drop k := by
  rw [put_pos, h, if_neg hn]

theorem put_there {xs : List Txt} {k : Nat} {w : Txt} (h : pos xs w = k) (hn : xs[k]? = some w) : put xs w = xs := by
  rw [put_pos, h, if_pos hn]

theorem ret_tup {v : Value} {a b : Bool} (h : a = b) : Ending.returned (.tuple #[v, .bool a]) = .returned (.tuple #[v, .bool b]) := by rw [h]
theorem wds_nil (w : World) (B : Nat) (t : TypeId) (a : Option Addr) : Wds B w a 0 0 [] := ⟨⟨rfl, Nat.le_refl _, by omega, fun i u hu => by simp at hu⟩, fun t ht => by simp at ht⟩

theorem own_wds {base : Nat} {w : World} {n : Nat} {v : Value} {xs : List Txt} (h : w.ownsRow base 9 1 v n (xs.map (fun x => Value.string (bx x)))) (hx : ∀ x ∈ xs, x.length ≤ 9223372036854775807) : ∃ a c, v = .slice a n c ∧ Wds w.heap.size w a n c xs := by
  obtain ⟨a, c, rfl⟩ := own_slice h
  have hs := Sl.of_own h
  refine ⟨a, c, rfl, ⟨by rw [List.map_map]; exact hs, fun t ht => ?_⟩⟩
  obtain ⟨x, hx', rfl⟩ := List.mem_map.1 ht
  rw [bx_size]; exact hx x hx'

theorem put_done {w3 : World} {base : Nat} {v3 : Value} {m k : Nat} {xs : List Txt} {s : ByteArray} (hO : w3.ownsRow base 9 1 v3 m ((xs.take k).map (fun x => Value.string (bx x)) ++ [.string s] ++ (xs.map (fun x => Value.string (bx x))).drop k)) (hm : 0 < m)
    (HP : put xs (tx s) = xs.take k ++ tx s :: xs.drop k) (h1 : ∀ x ∈ xs, x.length ≤ 9223372036854775807) (h2 : s.size ≤ 9223372036854775807) :
    ∃ a' n' c', Ending.returned v3 = .returned (.slice a' n' c') ∧ Wds w3.heap.size w3 a' n' c' (put xs (tx s)) := by
  obtain ⟨g, cap, rfl, _, _⟩ := hO.form hm
  refine ⟨_, _, _, rfl, ?_⟩
  have := Sl.of_own hO
  rw [HP]
  refine ⟨?_, fun t ht => ?_⟩
  · rw [List.map_append, List.map_append, List.map_cons, List.map_cons, bx_tx, List.map_map, List.map_map]
    simpa [List.append_assoc, List.map_drop, List.map_take, Function.comp_def] using this
  · obtain ⟨x, hx, rfl⟩ := List.mem_map.1 ht
    rw [bx_size]
    rcases List.mem_append.1 hx with h | h
    · exact h1 x (List.mem_of_mem_take h)
    · rcases List.mem_cons.1 h with h | h
      · rw [h, tx_len]; exact h2
      · exact h1 x (List.mem_of_mem_drop h)

set_option maxRecDepth 1000000 in
set_option maxHeartbeats 2000000 in
theorem l2Put_any (B : Nat) (a : Option Addr) (n c : Nat) (xs : List Txt) (s : ByteArray) (w : World) (hB : B ≤ w.heap.size) (h : Wds B w a n c xs) (hs : s.size ≤ 9223372036854775807) (hn : n ≤ 5000000) :
    Calls Try.prog 80 #[.slice a n c, .string s] w fun e w' => ∃ a' n' c', e = .returned (.slice a' n' c') ∧ Wds w'.heap.size w' a' n' c' (put xs (tx s)) ∧ Below w.heap.size w w' := by
  have L := Lib.hid h.len
  have C := h.sl.cap
  have T := h.sl.top
  have H := Lib.hid h
  have HB := Lib.hid hB
  clear h hB
  obtain ⟨i0, hi, hz0, hz1, hz2⟩ := info_parts infoS
  go_enter Try.func80, Try.ntmps80
  go_wp2
  go_loopw [5] (fun i wr => ∃ k q : Nat, k ≤ n ∧ i = .int .i64 k ∧ Hid (pos (xs.drop k) (tx s) + k = pos xs (tx s)) ∧ wr = w.drewN q) (fun i _ => n - (intOf i).toNat)
  case atStart => exact ⟨0, 0, Nat.zero_le _, rfl, Lib.hid (by simp), rfl⟩
  case round =>
    obtain ⟨k, q, hk, rfl, HP, rfl⟩ := hrel
    by_cases hlt : k < n
    · obtain ⟨b, o, t, rfl, hbB, ht, htz, hc⟩ := H.out.elem k hlt
      have HT := Lib.hid ht
      clear ht
      have cB := Lib.hid (fun w => l2Before_any t s w htz hs)
      obtain ⟨r, hr⟩ : ∃ r, bef (tx t) (tx s) = r := ⟨_, rfl⟩
      have HR := Lib.hid hr
      rw [hr] at cB
      clear hr
      cases r with
      | true =>
        have HN : Hid (pos (xs.drop (k + 1)) (tx s) + (k + 1) = pos xs (tx s)) := Lib.hid (by rw [← HP.out, pos_drop HT.out, if_pos HR.out]; omega)
        go_wp2_with (go_at_call 97; refine (cB.out _).mono ?_; rintro e w' ⟨rfl, q2, rfl⟩)
        go_roundw
        case rel => exact ⟨k + 1, q + q2, by omega, by go_num, HN, by simp⟩
        case measure => simp [intOf]; omega
      | false =>
        have HN : Hid (pos xs (tx s) = k) := Lib.hid (by rw [← HP.out, pos_drop HT.out, if_neg (by rw [HR.out]; simp)]; omega)
        by_cases hst : t = s
        · subst hst
          have hq : (t.toList == t.toList) = true := by simp
          have HX := Lib.hid (put_there HN.out HT.out)
          go_wp2_with (go_at_call 97; refine (cB.out _).mono ?_; rintro e w' ⟨rfl, q2, rfl⟩)
          go_ret
          exact ⟨_, _, _, rfl, by rw [HX.out]; exact (H.out.keep (below_drewN (Below.refl _ _) _)).mono HB.out, below_drewN (Below.refl _ _) _⟩
        · have hq : (t.toList == s.toList) = false := by rw [str_eq_list]; simp [hst]
          have HPut := Lib.hid (put_at HN.out (by rw [HT.out]; intro h; exact hst (tx_inj (Option.some.inj h))))
          clear hst
          have hck : ¬ c = k := by omega
          have hk0 : (0 : Int) ≤ (k : Int) := by omega
          have hk1 : (k : Int) ≤ (n : Int) := by omega
          have hk2 : (k : Int) ≤ (c : Int) := by omega
          have cO : Hid (∀ W, Below w.heap.size w W → Calls Try.prog 57 #[.slice (some ⟨b, o, none⟩) k c] W fun e w' => ∃ v, e = .returned v ∧ w'.ownsRow w.heap.size 9 1 v k ((xs.take k).map (fun x => Value.string (bx x))) ∧ Below w.heap.size w w' ∧ Below W.heap.size W w') := Lib.hid (fun W hW => by
            have hS : Strs B W (some ⟨b, o, none⟩) k c ((xs.take k).map bx) := ⟨by
              have := (H.out.keep (hW.mono HB.out)).sl.front hk
              rwa [← List.map_take, ← List.map_take] at this, fun t ht => by
              obtain ⟨x, hx, rfl⟩ := List.mem_map.1 ht
              exact H.out.each _ (List.mem_map.2 ⟨x, List.mem_of_mem_take hx, rfl⟩)⟩
            have := l2Own_any B (some ⟨b, o, none⟩) k c _ W (Nat.le_trans HB.out hW.size) hS (by omega)
            rw [List.map_map] at this
            exact this.mono fun e w' ⟨v, h1, h2, h3⟩ => ⟨v, h1, own_down h2 hW.size, hW.trans (h3.mono hW.size), h3⟩)
          have HW : Hid (∀ q, Below w.heap.size w (w.drewN q)) := Lib.hid (fun q => below_drewN (Below.refl _ _) q)
          have HC : Hid (∀ W, Below w.heap.size w W → Sl B W (if c = k then (some ⟨b, o, none⟩ : Option Addr) else (some ⟨b, o, none⟩ : Option Addr).map (·.add k)) (n - k) (c - k) ((xs.map (fun x => Value.string (bx x))).drop k)) := Lib.hid (fun W hW => by
            have := (H.out.keep (hW.mono HB.out)).sl.cut hk
            rw [List.map_map] at this
            exact this)
          have HV : Hid (∀ u ∈ (xs.map (fun x => Value.string (bx x))).drop k, u.oneCell' = true) := Lib.hid (fun u hu => by
            obtain ⟨x, _, rfl⟩ := List.mem_map.1 (List.mem_of_mem_drop hu)
            rfl)
          have HC1 : Hid (∀ W, Below w.heap.size w W → Sl B W (some ⟨b, o + k, none⟩) (n - k) (c - k) ((xs.map (fun x => Value.string (bx x))).drop k)) := Lib.hid (fun W hW => by
            have := HC.out W hW
            have e : (⟨b, o, none⟩ : Addr).add k = ⟨b, o + k, none⟩ := by cases k <;> simp [Addr.add]
            rwa [if_neg hck, Option.map_some, e] at this)
          clear HC
          go_wp2_with (go_at_call 97; refine (cB.out _).mono ?_; rintro e w' ⟨rfl, q2, rfl⟩)
          go_region_held3 (fun w' => True) (trivial)
            (first
              | (go_at_call 57; refine (cO.out _ (by first | exact HW.out _ | exact (HW.out _).drew | exact (HW.out _).alloc (by simp) _ | exact ((HW.out _).drew).alloc (by simp) _ | exact ((HW.out _).alloc (by simp) _).drew)).mono ?_; rintro e w1 ⟨v, rfl, hO, hB1, hB1'⟩)
              | (refine step_append_sl (by rfl) _ _ 34 (by rfl) w.heap.size 9 i0 (.string ByteArray.empty) 16 Try.underlying34 hi hz0 hz1 hz2 (by rfl) _ _ _ (by rfl) (by first | exact hO2 | fail) (by rfl) (by exact HC1.out _ hB2) HV.out (by unfold maxLen; omega) (by omega) (by exact hB2.size) ?_; intro v3 w3 hO3 hG3; have hB3 := hB2.trans (below_grown hO2 (Nat.le_refl _) hB2.size hG3))
              | (refine step_append_sl (by rfl) _ _ 34 (by rfl) w.heap.size 9 i0 (.string ByteArray.empty) 16 Try.underlying34 hi hz0 hz1 hz2 (by rfl) _ _ _ (by rfl) (by first | exact hO | exact hO.alloc _) (by rfl) (by first | exact sl_new _ _ _ | exact sl_kept (hB1'.mono (by simp)) (sl_new _ _ _)) (by simp [Value.oneCell']) (by unfold maxLen; omega) (by omega) (by first | exact hB1.size | exact (hB1.alloc hB1.size _).size) ?_; intro v2 w2 hO2 hG2; have hB2 : Below w.heap.size w w2 := (by first | exact hB1.trans (below_grown hO (Nat.le_refl _) hB1.size hG2) | exact (hB1.alloc hB1.size _).trans (below_grown (hO.alloc _) (Nat.le_refl _) (hB1.alloc hB1.size _).size hG2))))
          all_goals
            go_wp2
            go_ret
            obtain ⟨a', n', c', hx1, hx2⟩ := put_done hO3 (by omega) HPut.out H.out.each' hs
            exact ⟨a', n', c', hx1, hx2, hB3⟩
    · have HN : Hid (pos xs (tx s) = k) := Lib.hid (by rw [← HP.out, List.drop_eq_nil_of_le (by have := L.out; omega)]; simp [pos])
      have HPut := Lib.hid (put_at HN.out (by rw [List.getElem?_eq_none (by have := L.out; omega)]; simp))
      have hk0 : (0 : Int) ≤ (k : Int) := by omega
      have hk1 : (k : Int) ≤ (n : Int) := by omega
      have hk2 : (k : Int) ≤ (c : Int) := by omega
      have cO : Hid (∀ W, Below w.heap.size w W → Calls Try.prog 57 #[.slice a k c] W fun e w' => ∃ v, e = .returned v ∧ w'.ownsRow w.heap.size 9 1 v k ((xs.take k).map (fun x => Value.string (bx x))) ∧ Below w.heap.size w w' ∧ Below W.heap.size W w') := Lib.hid (fun W hW => by
        have hS : Strs B W a k c ((xs.take k).map bx) := ⟨by
          have := (H.out.keep (hW.mono HB.out)).sl.front hk
          rwa [← List.map_take, ← List.map_take] at this, fun t ht => by
          obtain ⟨x, hx, rfl⟩ := List.mem_map.1 ht
          exact H.out.each _ (List.mem_map.2 ⟨x, List.mem_of_mem_take hx, rfl⟩)⟩
        have := l2Own_any B a k c _ W (Nat.le_trans HB.out hW.size) hS (by omega)
        rw [List.map_map] at this
        exact this.mono fun e w' ⟨v, h1, h2, h3⟩ => ⟨v, h1, own_down h2 hW.size, hW.trans (h3.mono hW.size), h3⟩)
      have HW : Hid (∀ q, Below w.heap.size w (w.drewN q)) := Lib.hid (fun q => below_drewN (Below.refl _ _) q)
      have HC : Hid (∀ W, Below w.heap.size w W → Sl B W (if c = k then a else a.map (·.add k)) (n - k) (c - k) ((xs.map (fun x => Value.string (bx x))).drop k)) := Lib.hid (fun W hW => by
        have := (H.out.keep (hW.mono HB.out)).sl.cut hk
        rw [List.map_map] at this
        exact this)
      have HV : Hid (∀ u ∈ (xs.map (fun x => Value.string (bx x))).drop k, u.oneCell' = true) := Lib.hid (fun u hu => by
        obtain ⟨x, _, rfl⟩ := List.mem_map.1 (List.mem_of_mem_drop hu)
        rfl)
      have hck : ¬ c = k ∨ c = k := by omega
      rcases hck with hck | hck
      all_goals
        first
          | (obtain rfl := hck
             have HC1 : Hid (∀ W, Below w.heap.size w W → Sl B W a 0 0 ((xs.map (fun x => Value.string (bx x))).drop c)) := Lib.hid (fun W hW => by have := HC.out W hW; rwa [if_pos rfl, Nat.sub_self, show n - c = 0 by omega] at this)
             clear HC)
          | (have HC1 : Hid (∀ W, Below w.heap.size w W → Sl B W (a.map (·.add k)) (n - k) (c - k) ((xs.map (fun x => Value.string (bx x))).drop k)) := Lib.hid (fun W hW => by have := HC.out W hW; rwa [if_neg hck] at this)
             clear HC)
        go_wp2
        go_region_held3 (fun w' => True) (trivial)
          (first
            | (go_at_call 57; refine (cO.out _ (by first | exact HW.out _ | exact (HW.out _).drew | exact (HW.out _).alloc (by simp) _ | exact ((HW.out _).drew).alloc (by simp) _ | exact ((HW.out _).alloc (by simp) _).drew)).mono ?_; rintro e w1 ⟨v, rfl, hO, hB1, hB1'⟩)
            | (refine step_append_sl (by rfl) _ _ 34 (by rfl) w.heap.size 9 i0 (.string ByteArray.empty) 16 Try.underlying34 hi hz0 hz1 hz2 (by rfl) _ _ _ (by rfl) (by first | exact hO2 | fail) (by rfl) (by exact HC1.out _ hB2) HV.out (by unfold maxLen; omega) (by omega) (by exact hB2.size) ?_; intro v3 w3 hO3 hG3; have hB3 := hB2.trans (below_grown hO2 (Nat.le_refl _) hB2.size hG3))
            | (refine step_append_sl (by rfl) _ _ 34 (by rfl) w.heap.size 9 i0 (.string ByteArray.empty) 16 Try.underlying34 hi hz0 hz1 hz2 (by rfl) _ _ _ (by rfl) (by first | exact hO | exact hO.alloc _) (by rfl) (by first | exact sl_new _ _ _ | exact sl_kept (hB1'.mono (by simp)) (sl_new _ _ _)) (by simp [Value.oneCell']) (by unfold maxLen; omega) (by omega) (by first | exact hB1.size | exact (hB1.alloc hB1.size _).size) ?_; intro v2 w2 hO2 hG2; have hB2 : Below w.heap.size w w2 := (by first | exact hB1.trans (below_grown hO (Nat.le_refl _) hB1.size hG2) | exact (hB1.alloc hB1.size _).trans (below_grown (hO.alloc _) (Nat.le_refl _) (hB1.alloc hB1.size _).size hG2))))
        all_goals
          go_wp2
          go_ret
          obtain ⟨a', n', c', hx1, hx2⟩ := put_done hO3 (by omega) HPut.out H.out.each' hs
          exact ⟨a', n', c', hx1, hx2, hB3⟩

end Go.Proofs.Ytfehfjnmkaifbab
