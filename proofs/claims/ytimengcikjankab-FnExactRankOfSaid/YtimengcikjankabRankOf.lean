/-
  The rank of a word: the reference and the program count the same.
-/
import Derived.Test.YtimengcikjankabWordAt
namespace Go.Proofs.Ytimengcikjankab
open Go.RowKit
set_option linter.unusedVariables false

theorem less_bef : ∀ x y : Txt, Op.bytesLess x y = bef x y
  | [], [] => rfl
  | [], _ :: _ => rfl
  | _ :: _, [] => rfl
  | a :: x, b :: y => by
    have := less_bef x y
    by_cases h : a = b
    · subst h
      simp [Op.bytesLess, bef, this]
    · simp [Op.bytesLess, bef, h]

theorem lessString_any (s t : ByteArray) (w : World) : Calls Try.prog 38 #[.string s, .string t] w fun e w' => e = .returned (.bool (bef (tx s) (tx t))) ∧ w = w' := by
  have HX : Hid (Op.bytesLess s.toList t.toList = bef (tx s) (tx t)) := Lib.hid (by rw [Lib.toList_data, Lib.toList_data]; exact less_bef _ _)
  obtain ⟨r, hr⟩ : ∃ r, bef (tx s) (tx t) = r := ⟨_, rfl⟩
  rw [hr] at HX ⊢
  clear hr
  go_enter Try.func38, Try.ntmps38
  go_wp2
  all_goals go_ret
  all_goals exact ⟨ret_bool HX.out, rfl⟩

/-- how many come before -/
def rnk (x : Txt) : List Txt → Nat
  | [] => 0
  | y :: r => rnk x r + if bef y x = true then 1 else 0

theorem rnk_app (x : Txt) : ∀ a b : List Txt, rnk x (a ++ b) = rnk x a + rnk x b
  | [], b => by simp [rnk]
  | y :: a, b => by simp only [List.cons_append, rnk]; rw [rnk_app x a b]; omega
theorem rnk_succ {x : Txt} {xs : List Txt} {k : Nat} {y : Txt} (h : xs[k]? = some y) : rnk x (xs.take (k + 1)) = rnk x (xs.take k) + if bef y x = true then 1 else 0 := by
  obtain ⟨hk, e⟩ := List.getElem?_eq_some_iff.1 h
  rw [List.take_succ_eq_append_getElem hk, rnk_app, e]
  simp [rnk]

theorem rnk_none {x : Txt} : ∀ {xs : List Txt}, (∀ y ∈ xs, bef y x = false) → rnk x xs = 0
  | [], _ => rfl
  | y :: r, h => by
    have h1 := rnk_none (x := x) (xs := r) (fun z hz => h z (List.mem_cons_of_mem _ hz))
    simp [rnk, h1, h y List.mem_cons_self]

/-- behind the first that is not before, none is -/
theorem rnk_stop {x : Txt} {xs : List Txt} (ha : Asc xs) {k : Nat} {y : Txt} (h : xs[k]? = some y) (hb : bef y x = false) (hk : rnk x (xs.take k) = k) : rnk x xs = k := by
  have e : xs = xs.take k ++ xs.drop k := (List.take_append_drop k xs).symm
  rw [e, rnk_app, hk, rnk_none]
  · rfl
  · intro z hz
    obtain ⟨j, hj⟩ := mem_at hz
    rw [List.getElem?_drop] at hj
    cases hzx : bef z x with
    | false => rfl
    | true =>
      by_cases hj0 : j = 0
      · subst hj0
        rw [Nat.add_zero, h] at hj
        rw [← Option.some.inj hj, hb] at hzx
        cases hzx
      · have := bef_trans (asc_lt ha h hj (by omega)) hzx
        rw [hb] at this; cases this

set_option maxRecDepth 1000000 in
set_option maxHeartbeats 1000000 in
theorem agreeRankOf (t : List Nd) (n : Nat) (x0 : ByteArray) (hn : n ≤ 1048576) (hx0 : x0.size ≤ 9223372036854775807) : ∃ (v : Int) (ok : Bool),
    (∀ (W : World) (a : Option Addr), Nds W.heap.size W a n n t → Calls Try.prog 15 #[.agg #[.slice a n n], .string x0] W fun e w' => e = .returned (.tuple #[.int .i64 v, .bool ok]) ∧ Below W.heap.size W w') ∧
    (∀ (W : World) (a : Option Addr), Nds W.heap.size W a n n t → Calls Try.prog 16 #[.agg #[.slice a n n], .string x0] W fun e w' => e = .returned (.tuple #[.int .i64 v, .bool ok]) ∧ Below W.heap.size W w') := by
  have cWs := Lib.hid (fun w => l2Word_any x0 w hx0)
  have cWi := Lib.hid (fun w => implIsWord_any x0 w hx0)
  have cTs : Hid (∀ (W : World) (a : Option Addr) (B : Nat), B ≤ W.heap.size → Nds B W a n n t → Calls Try.prog 22 #[.agg #[.slice a n n]] W fun e w' => e = .returned (.bool (trieB t)) ∧ Below W.heap.size W w') := Lib.hid (fun W a B hB hN => l2Trie_any B a n n t W hB hN hn)
  have HBa : ∀ (W : World) (a : Option Addr), Hid (Below W.heap.size W (W.alloc (.cells #[.slice a n n] 30))) := fun W a => Lib.hid ((Below.refl _ _).alloc (Nat.le_refl _) _)
  by_cases ht : IsT t
  · have h1 := trieB_iff.2 ht
    rw [h1] at cTs
    clear h1
    obtain ⟨ws, m, hws, hm, hm40, hsh, hcs, hci⟩ := both_words t n hn ht
    have HAsc : Hid (Asc ws) := Lib.hid (by obtain ⟨ps, hv⟩ := ht; rw [← hws, wordsOf_eq hv]; exact hv.wordsAsc)
    have HM := Lib.hid hm
    have HSh := Lib.hid hsh
    have cS := Lib.hid hcs
    have cI := Lib.hid hci
    clear hm hsh hcs hci hws ht
    obtain ⟨q2, h2⟩ : ∃ q2, okW x0 = q2 := ⟨_, rfl⟩
    rw [h2] at cWs cWi
    clear h2
    cases q2 with
    | false =>
      refine ⟨0, false, fun W a hN => ?_, fun W a hN => ?_⟩
      · have HB1 := HBa W a
        have HN := Lib.hid (hN.keep HB1.out)
        clear hN HBa
        go_enter Try.func15, Try.ntmps15
        go_wp2_with (first
          | (go_at_call 22; refine (cTs.out _ a _ HB1.out.size HN.out).mono ?_; rintro e w2 ⟨rfl, hb2⟩)
          | (go_at_call 23; refine (cWs.out _).mono ?_; rintro e w3 ⟨rfl, rfl⟩))
        go_ret2
        exact ⟨rfl, HB1.out.trans (hb2.mono HB1.out.size)⟩
      · have HB1 := HBa W a
        have HN := Lib.hid (hN.keep HB1.out)
        clear hN HBa
        go_enter Try.func16, Try.ntmps16
        go_wp2_with (first
          | (go_at_call 37; refine (cI.out _ a _ HB1.out.size HN.out).mono ?_; rintro e w2 ⟨a2, c2, rfl, hW2, hb2⟩; clear hW2)
          | (go_at_call 28; refine (cWi.out _).mono ?_; rintro e w3 ⟨rfl, hb3⟩))
        go_ret2
        exact ⟨rfl, (HB1.out.trans (hb2.mono HB1.out.size)).trans (hb3.mono (Nat.le_trans HB1.out.size hb2.size))⟩
    | true =>
      refine ⟨(rnk (tx x0) ws : Int), true, fun W a hN => ?_, fun W a hN => ?_⟩
      · have HB1 := HBa W a
        have hbx : (W.alloc (.cells #[.slice a n n] 30)).cell? ⟨W.heap.size, 0, none⟩ = some (.slice a n n) := by simp
        have hlt : W.heap.size < (W.alloc (.cells #[.slice a n n] 30)).heap.size := by simp
        have HN := Lib.hid (hN.keep HB1.out)
        clear hN HBa
        go_enter Try.func15, Try.ntmps15
        go_wp2_with (first
          | (go_at_call 22; refine (cTs.out _ a _ HB1.out.size HN.out).mono ?_; rintro e w2 ⟨rfl, hb2⟩; have hbx2 := (hb2.cell (p := ⟨W.heap.size, 0, none⟩) hlt).trans hbx; have HB2 := Lib.hid (HB1.out.trans (hb2.mono HB1.out.size)); have N2 := Lib.hid (HN.out.keep (hb2.mono HB1.out.size)))
          | (go_at_call 23; refine (cWs.out _).mono ?_; rintro e w3 ⟨rfl, rfl⟩)
          | (go_at_call 35; refine (cS.out _ a _ HB2.out.size N2.out).mono ?_; rintro e w3 ⟨a3, c3, rfl, hW3, hb3⟩; have HW3 := Lib.hid hW3; have HB3 := Lib.hid (HB2.out.trans (hb3.mono HB2.out.size)); have C3 := hW3.sl.cap; have T3 := hW3.sl.top; clear hW3 hb3))
        go_loopw [6, 8] (fun s i wr => ∃ (k q d : Nat), k ≤ m ∧ i = .int .i64 k ∧ s = .int .i64 q ∧ q ≤ k ∧ Hid (rnk (tx x0) (ws.take k) = q) ∧ wr = w3.drewN d) (fun _ i _ => m - (intOf i).toNat)
        case atStart => exact ⟨0, 0, 0, Nat.zero_le _, rfl, rfl, by omega, Lib.hid rfl, rfl⟩
        case round =>
          obtain ⟨k, q, dr, hk, rfl, rfl, hq, HQ, rfl⟩ := hrel
          by_cases hlk : k < m
          · obtain ⟨b, o, s, rfl, _, hs, hsz, hc⟩ := HW3.out.elem k hlk
            have HS := Lib.hid (rnk_succ (x := tx x0) hs)
            have cB := Lib.hid (fun w => l2Before_any s x0 w hsz hx0)
            obtain ⟨r, hr⟩ : ∃ r, bef (tx s) (tx x0) = r := ⟨_, rfl⟩
            rw [hr] at HS cB
            clear hs hr
            cases r with
            | true =>
              go_wp2_with (first | (go_at_call 36; refine (cB.out _).mono ?_; rintro e w' ⟨rfl, q2, rfl⟩))
              go_roundw
              case rel => exact ⟨k + 1, q + 1, dr + q2, by omega, by go_num, by go_num, by omega, Lib.hid (by rw [HS.out, HQ.out]; rfl), by simp⟩
              case measure => simp [intOf]; omega
            | false =>
              go_wp2_with (first | (go_at_call 36; refine (cB.out _).mono ?_; rintro e w' ⟨rfl, q2, rfl⟩))
              go_roundw
              case rel => exact ⟨k + 1, q, dr + q2, by omega, by go_num, rfl, by omega, Lib.hid (by rw [HS.out, HQ.out]; rfl), by simp⟩
              case measure => simp [intOf]; omega
          · have HF : Hid (rnk (tx x0) ws = q) := Lib.hid (by rw [← HQ.out, List.take_of_length_le (by rw [HM.out]; omega)])
            go_wp2
            go_ret2
            exact ⟨by rw [HF.out]; rfl, below_drewN HB3.out _⟩
      · have HB1 := HBa W a
        have HN := Lib.hid (hN.keep HB1.out)
        clear hN HBa
        go_enter Try.func16, Try.ntmps16
        go_wp2_with (first
          | (go_at_call 37; refine (cI.out _ a _ HB1.out.size HN.out).mono ?_; rintro e w2 ⟨a2, c2, rfl, hW2, hb2⟩; have HW2 := Lib.hid hW2; have HB2 := Lib.hid (HB1.out.trans (hb2.mono HB1.out.size)); clear hW2 hb2)
          | (go_at_call 28; refine (cWi.out _).mono ?_; rintro e w3 ⟨rfl, hb3⟩; have HB3 := Lib.hid (HB2.out.trans (hb3.mono HB2.out.size)); have HW3 := Lib.hid (HW2.out.keep hb3); have C3 := HW3.out.sl.cap; have T3 := HW3.out.sl.top; clear hb3))
        go_loop [8] (fun i => ∃ (k : Nat), k ≤ m ∧ i = .int .i64 k ∧ Hid (rnk (tx x0) (ws.take k) = k)) (fun i => m - (intOf i).toNat)
        case atStart => exact ⟨0, Nat.zero_le _, rfl, Lib.hid rfl⟩
        case round =>
          obtain ⟨k, hk, rfl, HQ⟩ := hrel
          by_cases hlk : k < m
          · obtain ⟨b, o, s, rfl, _, hs, hsz, hc⟩ := Wds.elem (xs := ws) HW3.out k hlk
            have HS := Lib.hid (rnk_succ (x := tx x0) hs)
            have cB := Lib.hid (fun w => lessString_any s x0 w)
            have HStop := Lib.hid (fun h => rnk_stop (x := tx x0) HAsc.out hs h HQ.out)
            obtain ⟨r, hr⟩ : ∃ r, bef (tx s) (tx x0) = r := ⟨_, rfl⟩
            rw [hr] at HS cB HStop
            clear hs hr
            cases r with
            | true =>
              go_wp2_with (first | (go_at_call 38; refine (cB.out _).mono ?_; rintro e w' ⟨rfl, rfl⟩))
              go_round
              case rel => exact ⟨k + 1, by omega, by go_num, Lib.hid (by rw [HS.out, HQ.out]; rfl)⟩
              case measure => simp [intOf]; omega
            | false =>
              go_wp2_with (first | (go_at_call 38; refine (cB.out _).mono ?_; rintro e w' ⟨rfl, rfl⟩))
              go_ret2
              exact ⟨by rw [HStop.out (by first | rfl | trivial)]; rfl, HB3.out⟩
          · have HF : Hid (rnk (tx x0) ws = k) := Lib.hid (by
              have := HQ.out
              rwa [List.take_of_length_le (by rw [HM.out]; omega)] at this)
            go_wp2
            go_ret2
            exact ⟨by rw [HF.out]; rfl, HB3.out⟩
  · have h1 := trieB_no ht
    have HT := Lib.hid h1
    rw [h1] at cTs
    have hw := wordsOf_no ht
    have cI : Hid (∀ (W : World) (a : Option Addr) (B : Nat), B ≤ W.heap.size → Nds B W a n n t → Calls Try.prog 37 #[.agg #[.slice a n n]] W (OwnWords W (wordsOf t) (trieB t))) := Lib.hid (fun W a B hB hN => implWords_any B a n n t W hB hN)
    rw [h1] at cI
    unfold OwnWords at cI
    clear h1 hw ht
    refine ⟨0, false, fun W a hN => ?_, fun W a hN => ?_⟩
    · have HB1 := HBa W a
      have HN := Lib.hid (hN.keep HB1.out)
      clear hN HBa
      go_enter Try.func15, Try.ntmps15
      go_wp2_with (first | (go_at_call 22; refine (cTs.out _ a _ HB1.out.size HN.out).mono ?_; rintro e w2 ⟨rfl, hb2⟩))
      go_ret2
      exact ⟨rfl, HB1.out.trans (hb2.mono HB1.out.size)⟩
    · have HB1 := HBa W a
      have HN := Lib.hid (hN.keep HB1.out)
      clear hN HBa
      go_enter Try.func16, Try.ntmps16
      go_wp2_with (first | (go_at_call 37; refine (cI.out _ a _ HB1.out.size HN.out).mono ?_; rintro e w2 ⟨v2, rfl, _, hb2⟩))
      go_ret2
      exact ⟨rfl, HB1.out.trans (hb2.mono HB1.out.size)⟩

end Go.Proofs.Ytimengcikjankab
