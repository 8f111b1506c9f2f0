/-
  OccursAt: both functions answer the same.
-/
import Derived.Test.YtifkggapdaflmaaPlaces8
import Derived.Test.YtifkggapdaflmaaMarkOwnI
namespace Go.Proofs.Ytifkggapdaflmaa
open Go.RowKit
set_option linter.unusedVariables false

/-- both are texts, the part is not empty -/
def okO (s p : ByteArray) : Bool := okT s && okT p && !decide (p.size = 0)
def occ (s p : ByteArray) : List Nat := if (okT s && okT p && !decide (p.size = 0)) = true then plcs (tx s) (tx p) else []

set_option maxRecDepth 1000000 in
set_option maxHeartbeats 2000000 in
theorem specOccurs_any (s p : ByteArray) (hs : s.size ≤ 1048576) (hp : p.size ≤ 1048576) (w : World) :
    Calls Try.prog 24 #[.string s, .string p] w (ownI.OwnNums w (occ s p) (okO s p)) := by
  have cS : Hid (∀ W, Calls Try.prog 30 #[.string s] W fun e w' => e = .returned (.bool (okT s)) ∧ Below W.heap.size W w') := Lib.hid (fun W => (l8Text_any s W (by omega)).mono fun e w' ⟨h1, h2⟩ => ⟨h1, by rw [← h2]; exact Below.refl _ _⟩)
  have cP : Hid (∀ W, Calls Try.prog 30 #[.string p] W fun e w' => e = .returned (.bool (okT p)) ∧ Below W.heap.size W w') := Lib.hid (fun W => (l8Text_any p W (by omega)).mono fun e w' ⟨h1, h2⟩ => ⟨h1, by rw [← h2]; exact Below.refl _ _⟩)
  unfold ownI.OwnNums occ okO
  cases ht : okT s with
  | false =>
    rw [ht] at cS
    simp only [Bool.false_and, Bool.false_eq_true, if_false]
    clear ht
    go_enter Try.func24, Try.ntmps24
    go_wp2_with fail
    refine (cS.out _).mono ?_
    rintro e w1 ⟨rfl, hb1⟩
    have HBX := Lib.hid hb1
    clear hb1
    go_wp2
    go_ret2
    exact ⟨_, rfl, ownI.own_lit0 HBX.out.size, HBX.out.alloc HBX.out.size _⟩
  | true =>
    rw [ht] at cS
    cases hq : okT p with
    | false =>
      rw [hq] at cP
      simp only [Bool.and_false, Bool.false_and, Bool.false_eq_true, if_false]
      clear hq ht
      go_enter Try.func24, Try.ntmps24
      go_wp2_with fail
      refine (cS.out _).mono ?_
      rintro e w1 ⟨rfl, hb1⟩
      have HB1 := Lib.hid hb1
      clear hb1
      go_wp2_with fail
      refine (cP.out _).mono ?_
      rintro e w2 ⟨rfl, hb2⟩
      have HBX := Lib.hid (HB1.out.trans (hb2.mono HB1.out.size))
      clear hb2
      go_wp2
      go_ret2
      exact ⟨_, rfl, ownI.own_lit0 HBX.out.size, HBX.out.alloc HBX.out.size _⟩
    | true =>
      rw [hq] at cP
      have h16 := okT_size ht
      have hp16 := okT_size hq
      by_cases hp0 : p.size = 0
      · have he : p = ByteArray.empty := by
          apply tx_inj
          exact List.eq_nil_of_length_eq_zero (by rw [tx_len]; exact hp0)
        simp only [hp0, Bool.and_true, Bool.true_and, decide_true, Bool.not_true, Bool.false_eq_true, if_false]
        have hl1 : p.toList = [] := by rw [Lib.toList_data, he]; rfl
        have hl2 : p.toList.isEmpty = true := by rw [hl1]; rfl
        have hl3 : (p.toList == ByteArray.toList { data := #[] }) = true := by rw [str_eq_list, he]; exact decide_eq_true rfl
        clear hq ht he
        go_enter Try.func24, Try.ntmps24
        go_wp2_with fail
        refine (cS.out _).mono ?_
        rintro e w1 ⟨rfl, hb1⟩
        have HB1 := Lib.hid hb1
        clear hb1
        go_wp2_with fail
        refine (cP.out _).mono ?_
        rintro e w2 ⟨rfl, hb2⟩
        have HBX := Lib.hid (HB1.out.trans (hb2.mono HB1.out.size))
        clear hb2
        go_wp2
        go_ret2
        exact ⟨_, rfl, ownI.own_lit0 HBX.out.size, HBX.out.alloc HBX.out.size _⟩
      · have hp0 : 0 < p.size := by omega
        have hd0 : decide (p.size = 0) = false := decide_eq_false (by omega)
        simp only [hd0, Bool.and_true, Bool.not_false, if_true]
        have hl0 : p.toList ≠ [] := by
          intro e
          rw [Lib.toList_data] at e
          have h9 := tx_len p
          rw [show tx p = [] from e] at h9
          simp at h9
          omega
        have hl2 : p.toList.isEmpty = false := by cases hh : p.toList with
          | nil => exact absurd hh hl0
          | cons a b => rfl
        have hl3 : (p.toList == ByteArray.toList { data := #[] }) = false := by
          rw [str_eq_list]
          exact decide_eq_false (fun h9 => by rw [h9] at hp0; exact absurd hp0 (by decide))
        have cC := Lib.hid (fun W => l8At_any s p W h16 hp16 hp0)
        obtain ⟨ps, hps⟩ : ∃ ps, plcs (tx s) (tx p) = ps := ⟨_, rfl⟩
        rw [hps] at cC ⊢
        clear hq ht hps hl0 hd0
        go_enter Try.func24, Try.ntmps24
        go_wp2_with fail
        refine (cS.out _).mono ?_
        rintro e w1 ⟨rfl, hb1⟩
        have HB1 := Lib.hid hb1
        clear hb1
        go_wp2_with fail
        refine (cP.out _).mono ?_
        rintro e w2 ⟨rfl, hb2⟩
        have HBX := Lib.hid (HB1.out.trans (hb2.mono HB1.out.size))
        clear hb2
        go_wp2_with fail
        refine (cC.out _).mono ?_
        rintro e w3 ⟨v, rfl, hO, hb3⟩
        have HO := Lib.hid (own_down hO HBX.out.size)
        have HB3 := Lib.hid (HBX.out.trans (hb3.mono HBX.out.size))
        clear hO hb3
        go_wp2
        go_ret2
        exact ⟨_, rfl, HO.out, HB3.out⟩

set_option maxRecDepth 1000000 in
set_option maxHeartbeats 2000000 in
theorem implOccurs_any (s p : ByteArray) (hs : s.size ≤ 1048576) (hp : p.size ≤ 1048576) (w : World) :
    Calls Try.prog 25 #[.string s, .string p] w (ownI.OwnNums w (occ s p) (okO s p)) := by
  have cS : Hid (∀ W, Calls Try.prog 11 #[.string s] W fun e w' => e = .returned (.bool (okT s)) ∧ Below W.heap.size W w') := Lib.hid (fun W => implIsText_any s W (by omega))
  have cP : Hid (∀ W, Calls Try.prog 11 #[.string p] W fun e w' => e = .returned (.bool (okT p)) ∧ Below W.heap.size W w') := Lib.hid (fun W => implIsText_any p W (by omega))
  unfold ownI.OwnNums occ okO
  cases ht : okT s with
  | false =>
    rw [ht] at cS
    simp only [Bool.false_and, Bool.false_eq_true, if_false]
    clear ht
    go_enter Try.func25, Try.ntmps25
    go_wp2_with fail
    refine (cS.out _).mono ?_
    rintro e w1 ⟨rfl, hb1⟩
    have HBX := Lib.hid hb1
    clear hb1
    go_wp2
    go_ret2
    exact ⟨_, rfl, ⟨rfl, .inl ⟨rfl, rfl⟩⟩, HBX.out⟩
  | true =>
    rw [ht] at cS
    cases hq : okT p with
    | false =>
      rw [hq] at cP
      simp only [Bool.and_false, Bool.false_and, Bool.false_eq_true, if_false]
      clear hq ht
      go_enter Try.func25, Try.ntmps25
      go_wp2_with fail
      refine (cS.out _).mono ?_
      rintro e w1 ⟨rfl, hb1⟩
      have HB1 := Lib.hid hb1
      clear hb1
      go_wp2_with fail
      refine (cP.out _).mono ?_
      rintro e w2 ⟨rfl, hb2⟩
      have HBX := Lib.hid (HB1.out.trans (hb2.mono HB1.out.size))
      clear hb2
      go_wp2
      go_ret2
      exact ⟨_, rfl, ⟨rfl, .inl ⟨rfl, rfl⟩⟩, HBX.out⟩
    | true =>
      rw [hq] at cP
      have h16 := okT_size ht
      have hp16 := okT_size hq
      by_cases hp0 : p.size = 0
      · have he : p = ByteArray.empty := by
          apply tx_inj
          exact List.eq_nil_of_length_eq_zero (by rw [tx_len]; exact hp0)
        simp only [hp0, Bool.and_true, Bool.true_and, decide_true, Bool.not_true, Bool.false_eq_true, if_false]
        have hl1 : p.toList = [] := by rw [Lib.toList_data, he]; rfl
        have hl2 : p.toList.isEmpty = true := by rw [hl1]; rfl
        have hl3 : (p.toList == ByteArray.toList { data := #[] }) = true := by rw [str_eq_list, he]; exact decide_eq_true rfl
        clear hq ht he
        go_enter Try.func25, Try.ntmps25
        go_wp2_with fail
        refine (cS.out _).mono ?_
        rintro e w1 ⟨rfl, hb1⟩
        have HB1 := Lib.hid hb1
        clear hb1
        go_wp2_with fail
        refine (cP.out _).mono ?_
        rintro e w2 ⟨rfl, hb2⟩
        have HBX := Lib.hid (HB1.out.trans (hb2.mono HB1.out.size))
        clear hb2
        go_wp2
        go_ret2
        exact ⟨_, rfl, ⟨rfl, .inl ⟨rfl, rfl⟩⟩, HBX.out⟩
      · have hp0 : 0 < p.size := by omega
        have hd0 : decide (p.size = 0) = false := decide_eq_false (by omega)
        simp only [hd0, Bool.and_true, Bool.not_false, if_true]
        have hl0 : p.toList ≠ [] := by
          intro e
          rw [Lib.toList_data] at e
          have h9 := tx_len p
          rw [show tx p = [] from e] at h9
          simp at h9
          omega
        have hl2 : p.toList.isEmpty = false := by cases hh : p.toList with
          | nil => exact absurd hh hl0
          | cons a b => rfl
        have hl3 : (p.toList == ByteArray.toList { data := #[] }) = false := by
          rw [str_eq_list]
          exact decide_eq_false (fun h9 => by rw [h9] at hp0; exact absurd hp0 (by decide))
        have cC := Lib.hid (fun W => placesOfPart_any s p W ht)
        obtain ⟨ps, hps⟩ : ∃ ps, plcs (tx s) (tx p) = ps := ⟨_, rfl⟩
        rw [hps] at cC ⊢
        clear hq ht hps hl0 hd0
        go_enter Try.func25, Try.ntmps25
        go_wp2_with fail
        refine (cS.out _).mono ?_
        rintro e w1 ⟨rfl, hb1⟩
        have HB1 := Lib.hid hb1
        clear hb1
        go_wp2_with fail
        refine (cP.out _).mono ?_
        rintro e w2 ⟨rfl, hb2⟩
        have HBX := Lib.hid (HB1.out.trans (hb2.mono HB1.out.size))
        clear hb2
        go_wp2_with fail
        refine (cC.out _).mono ?_
        rintro e w3 ⟨v, rfl, hO, hb3⟩
        have HO := Lib.hid (own_down hO HBX.out.size)
        have HB3 := Lib.hid (HBX.out.trans (hb3.mono HBX.out.size))
        clear hO hb3
        go_wp2
        go_ret2
        exact ⟨_, rfl, HO.out, HB3.out⟩

theorem agreeOccursAt (s p : ByteArray) (hs : s.size ≤ 1048576) (hp : p.size ≤ 1048576) : ∃ (ws : List Nat) (ok : Bool), ws.length ≤ 1000 ∧
    (∀ W : World, Calls Try.prog 24 #[.string s, .string p] W (ownI.OwnNums W ws ok)) ∧
    (∀ W : World, Calls Try.prog 25 #[.string s, .string p] W (ownI.OwnNums W ws ok)) := by
  refine ⟨_, _, ?_, specOccurs_any s p hs hp, implOccurs_any s p hs hp⟩
  unfold occ
  split
  · next h =>
    have h1 : okT s = true := by cases hh : okT s <;> simp [hh] at h ⊢
    have := okT_size h1
    have := ats_len (tx s) (tx p) (tx s).length
    rw [tx_len] at this
    unfold plcs
    rw [tx_len]
    omega
  · simp

end Go.Proofs.Ytifkggapdaflmaa
