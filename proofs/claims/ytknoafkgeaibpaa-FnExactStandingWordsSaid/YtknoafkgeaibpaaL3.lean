/-
  What is a passage, and which words stand in it at a place: the reference's helpers, and the program's test of a passage.
-/
import Derived.Test.YtknoafkgeaibpaaL1Put
import Derived.Test.YtknoafkgeaibpaaMat
import Derived.Test.YtknoafkgeaibpaaWordsN
namespace Go.Proofs.Ytknoafkgeaibpaa
open Go.RowKit
set_option linter.unusedVariables false

/-- the text is a passage -/
def okP (s : ByteArray) : Bool := decide (s.size ≤ 60) && lowB s

theorem okP_iff {s : ByteArray} : okP s = true ↔ s.size ≤ 60 ∧ Low (tx s) := by
  unfold okP; rw [Bool.and_eq_true, decide_eq_true_eq, lowB_iff]
theorem okP_yes {s : ByteArray} (h : s.size ≤ 60) (hl : LowTo s s.size) : okP s = true := by simp [okP, h, lowB_yes hl]
theorem okP_long {s : ByteArray} (h : 60 < s.size) : okP s = false := by simp [okP]; intro h2; omega
theorem okP_low {s : ByteArray} {k : Nat} (hk : k < s.size) (h : ¬ (97 ≤ s[k].toNat ∧ s[k].toNat ≤ 122)) : okP s = false := by simp [okP, lowB_no hk h]
theorem okP_lowB {s : ByteArray} (h : s.size ≤ 60) : okP s = lowB s := by simp [okP, h]

set_option maxRecDepth 1000000 in
set_option maxHeartbeats 400000 in
theorem l3Text_any (s : ByteArray) (w : World) (hs : s.size ≤ 9223372036854775807) :
    Calls Try.prog 60 #[.string s] w fun e w' => e = .returned (.bool (okP s)) ∧ w = w' := by
  go_enter Try.func60, Try.ntmps60
  go_wp2
  go_loop [3] (fun i => ∃ k : Nat, k ≤ s.size ∧ k ≤ 61 ∧ i = .int .i64 k ∧ Hid (LowTo s k)) (fun i => 62 - (intOf i).toNat)
  case atStart => exact ⟨0, Nat.zero_le _, by omega, rfl, Lib.hid fun j _ h => by omega⟩
  case round =>
    obtain ⟨k, hk, hk13, rfl, HL⟩ := hrel
    by_cases hlt : k < s.size
    · by_cases h12 : k ≤ 60
      · by_cases h1 : 97 ≤ s[k].toNat
        · by_cases h2 : s[k].toNat ≤ 122
          · have HN := Lib.hid (HL.out.succ hlt h1 h2)
            go_wp2
            go_round
            case rel => exact ⟨k + 1, by omega, by omega, by go_num, HN⟩
            case measure => simp [intOf]; omega
          · have HF := Lib.hid (okP_low hlt (fun h => h2 h.2))
            go_wp2
            go_ret
            exact ⟨ret_bool HF.out.symm, rfl⟩
        · have HF := Lib.hid (okP_low hlt (fun h => h1 h.1))
          go_wp2
          go_ret
          exact ⟨ret_bool HF.out.symm, rfl⟩
      · have HF := Lib.hid (okP_long (show 60 < s.size by omega))
        have h13 : ¬ s.size ≤ 60 := by omega
        go_wp2
        go_ret
        exact ⟨ret_bool (by rw [HF.out]; simp; omega), rfl⟩
    · by_cases h12 : s.size ≤ 60
      · have e : k = s.size := by omega
        subst e
        have HT := Lib.hid (okP_yes h12 HL.out)
        go_wp2
        go_ret
        exact ⟨ret_bool (by rw [HT.out]; simp; omega), rfl⟩
      · have HF := Lib.hid (okP_long (show 60 < s.size by omega))
        go_wp2
        go_ret
        exact ⟨ret_bool (by rw [HF.out]; simp; omega), rfl⟩

set_option maxRecDepth 1000000 in
set_option maxHeartbeats 1000000 in
theorem isPassage_any (s : ByteArray) (w : World) (hs : s.size ≤ 9223372036854775807) :
    Calls Try.prog 40 #[.string s] w fun e w' => e = .returned (.bool (okP s)) ∧ Below w.heap.size w w' := by
  have cL := Lib.hid (areLetters_any s w hs)
  by_cases h12 : s.size ≤ 60
  · have HE := Lib.hid (okP_lowB h12)
    go_enter Try.func40, Try.ntmps40
    go_wp2_with (first | (go_at_call 69; refine cL.out.mono ?_; rintro e w2 ⟨rfl, hb2⟩; have HB2 := Lib.hid hb2; clear hb2))
    go_ret
    exact ⟨ret_bool HE.out.symm, HB2.out⟩
  · have HF := Lib.hid (okP_long (show 60 < s.size by omega))
    go_enter Try.func40, Try.ntmps40
    go_wp2_with fail
    go_ret
    exact ⟨ret_bool HF.out.symm, Below.refl _ _⟩

set_option maxRecDepth 1000000 in
set_option maxHeartbeats 1000000 in
theorem l3Good_any (B : Nat) (a : Option Addr) (n c : Nat) (t : List Nd) (s : ByteArray) (w : World) (hB : B ≤ w.heap.size) (h : Nds B w a n c t) (hn : n ≤ 1048576) (hs : s.size ≤ 9223372036854775807) :
    Calls Try.prog 35 #[.agg #[.slice a n c], .string s] w fun e w' => e = .returned (.bool (trieB t && okP s)) ∧ Below w.heap.size w w' := by
  have HB1 : Hid (Below w.heap.size w (w.alloc (.cells #[.slice a n c] 30))) := Lib.hid ((Below.refl _ _).alloc (Nat.le_refl _) _)
  have cT := Lib.hid (l2Trie_any B a n c t (w.alloc (.cells #[.slice a n c] 30)) (Nat.le_trans hB HB1.out.size) (h.keep (HB1.out.mono hB)) hn)
  have cP := Lib.hid (fun w => l3Text_any s w hs)
  obtain ⟨q, hq⟩ : ∃ q, trieB t = q := ⟨_, rfl⟩
  obtain ⟨q2, hq2⟩ : ∃ q2, okP s = q2 := ⟨_, rfl⟩
  rw [hq] at cT ⊢
  rw [hq2] at cP ⊢
  clear hq hq2 h hB
  cases q with
  | false =>
    go_enter Try.func35, Try.ntmps35
    go_wp2_with (first | (go_at_call 47; refine cT.out.mono ?_; rintro e w2 ⟨rfl, hb2⟩; have HB2 := Lib.hid (HB1.out.trans (hb2.mono HB1.out.size)); clear hb2))
    go_ret
    exact ⟨rfl, HB2.out⟩
  | true =>
    go_enter Try.func35, Try.ntmps35
    go_wp2_with (first
      | (go_at_call 47; refine cT.out.mono ?_; rintro e w2 ⟨rfl, hb2⟩; have HB2 := Lib.hid (HB1.out.trans (hb2.mono HB1.out.size)); clear hb2)
      | (go_at_call 60; refine (cP.out _).mono ?_; rintro e w3 ⟨rfl, rfl⟩))
    go_ret
    exact ⟨rfl, HB2.out⟩

theorem tx_ext (s : ByteArray) (i j : Nat) : tx (s.extract i j) = ((tx s).drop i).take (j - i) := by
  show (s.extract i j).data.toList = _
  rw [ByteArray.data_extract]
  rw [Array.toList_extract, List.extract_eq_take_drop]

set_option maxRecDepth 1000000 in
set_option maxHeartbeats 400000 in
theorem l3Stands_any (s v : ByteArray) (at0 : Nat) (r : Bool) (hr : r = true ↔ tx v <+: (tx s).drop at0) (w : World) (hs : s.size ≤ 100) (hv : v.size ≤ 100) (ha : at0 ≤ s.size) :
    Calls Try.prog 61 #[.string s, .string v, .int .i64 (at0 : Int)] w fun e w' => e = .returned (.bool r) ∧ w = w' := by
  by_cases hl : at0 + v.size ≤ s.size
  · have HX : Hid (((s.extract at0 (at0 + v.size)).toList == v.toList) = r) := Lib.hid (by
      rw [str_eq_list, Bool.eq_iff_iff, decide_eq_true_eq, hr, List.prefix_iff_eq_take]
      have e1 : at0 + v.size - at0 = v.size := by omega
      constructor
      · intro h
        have := congrArg tx h
        rw [tx_ext, e1] at this
        rw [tx_len]; exact this.symm
      · intro h
        apply tx_inj
        rw [tx_ext, e1, ← tx_len v]; exact h.symm)
    clear hr
    go_enter Try.func61, Try.ntmps61
    go_wp2
    go_ret
    exact ⟨ret_bool HX.out, rfl⟩
  · have HX : Hid (r = false) := Lib.hid (by
      cases r with
      | false => rfl
      | true =>
        have := (hr.1 rfl).length_le
        rw [tx_len, List.length_drop, tx_len] at this
        omega)
    clear hr
    go_enter Try.func61, Try.ntmps61
    go_wp2
    go_ret
    exact ⟨ret_bool HX.out.symm, rfl⟩

set_option maxRecDepth 1000000 in
set_option maxHeartbeats 1000000 in
theorem l3Matches_any (B : Nat) (a : Option Addr) (n c : Nat) (ws : List Txt) (s : ByteArray) (at0 : Nat) (w : World) (hB : B ≤ w.heap.size) (h : Wds B w a n c ws) (hasc : Asc ws) (hsh : ∀ x ∈ ws, x.length ≤ 12) (hn : n ≤ 40) (hs : s.size ≤ 60) (ha : at0 ≤ s.size) :
    Calls Try.prog 36 #[.slice a n c, .string s, .int .i64 (at0 : Int)] w fun e w' => ∃ v, e = .returned v ∧ w'.ownsRow w.heap.size 3 1 v (Mt ws ((tx s).drop at0)).length (nums (Mt ws ((tx s).drop at0))) ∧ Below w.heap.size w w' := by
  have L := Lib.hid h.len
  have C := h.sl.cap
  have T := h.sl.top
  have H := Lib.hid h
  have HB := Lib.hid hB
  have HA := Lib.hid hasc
  have HS := Lib.hid hsh
  clear h hB hasc hsh
  obtain ⟨r, hr⟩ : ∃ r, (tx s).drop at0 = r := ⟨_, rfl⟩
  have HR := Lib.hid hr
  rw [hr]
  clear hr
  have hown0 := World.ownsRow_lit (base := w.heap.size) (e := 3) (size := 1) w #[] 0 (Nat.le_refl _) (by unfold maxLen; omega) rfl
  have HO0 := Lib.hid hown0
  clear hown0
  go_enter Try.func36, Try.ntmps36
  go_wp2
  go_loopw [7, 8] (fun o q wr => ∃ (k m : Nat) (v : Value), k ≤ n ∧ m ≤ k ∧ q = .int .i64 k ∧ v = o ∧ Hid ((Mt (ws.take k) r).length = m) ∧ Hid (wr.ownsRow w.heap.size 3 1 v m (nums (Mt (ws.take k) r))) ∧ Hid (Below w.heap.size w wr)) (fun _ q _ => n - (intOf q).toNat)
  case atStart => exact ⟨0, 0, _, Nat.zero_le _, Nat.le_refl _, rfl, rfl, Lib.hid rfl, Lib.hid (by simpa [Mt, nums] using HO0.out), Lib.hid ((Below.refl _ _).alloc (Nat.le_refl _) _)⟩
  case round =>
    clear HO0
    obtain ⟨k, m, v, hk, hmk, rfl, rfl, HM, HO, HBw⟩ := hrel
    by_cases hlt : k < n
    · obtain ⟨b, o, y, rfl, hbB, hy, hyz, hc⟩ := (H.out.keep (HBw.out.mono HB.out)).elem k hlt
      have hy2 : ws[k]? = some (tx y) := by
        rw [List.getElem?_map] at hy
        obtain ⟨z, hz, e⟩ := Option.map_eq_some_iff.1 hy
        rw [hz, ← e, tx_bx]
      have hy12 : y.size ≤ 12 := by have := HS.out _ (at_mem hy2); rwa [tx_len] at this
      have HY := Lib.hid hy2
      clear hy hy2 hyz
      obtain ⟨q, hq⟩ := bool_of (tx y <+: (tx s).drop at0)
      have cS := Lib.hid (fun w => l3Stands_any s y at0 q hq w (by omega) (by omega) ha)
      have HQ : Hid (q = true ↔ tx y <+: r) := Lib.hid (by rw [← HR.out]; exact hq)
      clear hq
      by_cases hz : y = ⟨#[]⟩
      · subst hz
        have HMs : Hid (Mt (ws.take (k + 1)) r = Mt (ws.take k) r) := Lib.hid (mt_miss HY.out (by
          have : ¬ (stands r (tx ⟨#[]⟩) = true) := fun h => (stands_iff.1 h).1 rfl
          simpa using this))
        have e1 : (⟨#[]⟩ : ByteArray).toList = [] := by rw [Lib.toList_data]
        go_wp2_with fail
        go_roundw
        case rel => exact ⟨k + 1, m, _, by omega, by omega, by go_num, rfl, Lib.hid (by rw [HMs.out]; exact HM.out), Lib.hid (by rw [HMs.out]; exact HO.out), HBw⟩
        case measure => simp [intOf]; omega
      · have hne : tx y ≠ [] := fun h => hz (tx_inj (t := ⟨#[]⟩) h)
        have e1 : y.toList.isEmpty = false := by
          rw [Lib.toList_data]
          cases h9 : y.data.toList with
          | nil => exact absurd h9 hne
          | cons _ _ => rfl
        have e2 : (y.toList == (⟨#[]⟩ : ByteArray).toList) = false := by rw [str_eq_list]; simpa using hz
        clear hz
        have HNe := Lib.hid hne
        clear hne
        cases q with
        | false =>
          have HMs : Hid (Mt (ws.take (k + 1)) r = Mt (ws.take k) r) := Lib.hid (mt_miss HY.out (by
            have : ¬ (stands r (tx y) = true) := fun h => by have := HQ.out.2 (stands_iff.1 h).2; cases this
            simpa using this))
          go_wp2_with (first | (go_at_call 61; refine (cS.out _).mono ?_; rintro e w2 ⟨rfl, rfl⟩))
          go_roundw
          case rel => exact ⟨k + 1, m, _, by omega, by omega, by go_num, rfl, Lib.hid (by rw [HMs.out]; exact HM.out), Lib.hid (by rw [HMs.out]; exact HO.out), HBw⟩
          case measure => simp [intOf]; omega
        | true =>
          have hst : stands r (tx y) = true := stands_iff.2 ⟨HNe.out, HQ.out.1 rfl⟩
          have HMs : Hid (Mt (ws.take (k + 1)) r = Mt (ws.take k) r ++ [y.size]) := Lib.hid (by rw [mt_hit HY.out hst, tx_len])
          have HLs : Hid (∀ j ∈ Mt (ws.take k) r, j < y.size) := Lib.hid (fun j hj => by have := mt_less HA.out HY.out hst j hj; rwa [tx_len] at this)
          clear hst
          obtain ⟨a9, c9, hv9, hS9⟩ := own_nums HO.out
          subst hv9
          have cP := Lib.hid (l1Put_grow wr.heap.size a9 m c9 _ y.size wr (Nat.le_refl _) hS9 HLs.out (by omega) (by omega))
          clear hS9
          go_wp2_with (first
            | (go_at_call 61; refine (cS.out _).mono ?_; rintro e w2 ⟨rfl, rfl⟩)
            | (go_at_call 62; refine cP.out.mono ?_; rintro e w2 ⟨v2, rfl, hO2, hb2⟩; have HO2 := Lib.hid hO2; have HB2 := Lib.hid hb2; clear hO2 hb2))
          go_roundw
          case rel => exact ⟨k + 1, m + 1, _, by omega, by omega, by go_num, rfl, Lib.hid (by rw [HMs.out, List.length_append, HM.out]; rfl), Lib.hid (by rw [HMs.out]; exact own_down HO2.out HBw.out.size), Lib.hid (HBw.out.trans (HB2.out.mono HBw.out.size))⟩
          case measure => simp [intOf]; omega
    · have HN : Hid (Mt (ws.take k) r = Mt ws r) := Lib.hid (by rw [List.take_of_length_le (by have := L.out; omega)])
      go_wp2
      go_ret
      exact ⟨_, rfl, by rw [← HN.out, HM.out]; exact HO.out, HBw.out⟩

end Go.Proofs.Ytknoafkgeaibpaa
