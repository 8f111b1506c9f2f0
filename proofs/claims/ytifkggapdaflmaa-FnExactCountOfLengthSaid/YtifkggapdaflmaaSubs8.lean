/-
  SubstringsOf: both functions answer the same; the program's list of all substrings.
-/
import Derived.Test.YtifkggapdaflmaaPwParts
import Derived.Test.YtifkggapdaflmaaMarkOwnS
namespace Go.Proofs.Ytifkggapdaflmaa
open Go.RowKit
set_option linter.unusedVariables false

theorem prt_small {s : ByteArray} (h16 : s.size ≤ 16) : (prt (tx s)).length ≤ 256 := by
  have h1 := prt_len (tx s)
  rw [tx_len] at h1
  exact Nat.le_trans h1 (Nat.mul_le_mul h16 h16)
theorem prt_wide {s : ByteArray} (h16 : s.size ≤ 16) : ∀ x ∈ prt (tx s), x.length ≤ 16 := fun x hx => by
  have := prt_short hx
  rw [tx_len] at this
  omega
theorem filter_all (xs : List Txt) : xs.filter (fun _ => true) = xs := List.filter_eq_self.2 (fun _ _ => rfl)

theorem parts1_any (t : ByteArray) (w : World) :
    Calls Try.prog 47 #[.string t] w fun e w' => e = .returned (.bool true) ∧ Below w.heap.size w w' := by
  go_enter Try.func47, Try.ntmps47
  go_wp2
  go_ret
  exact ⟨rfl, Below.refl _ _⟩

theorem partsOfText_any (s : ByteArray) (w : World) (ht : okT s = true) :
    Calls Try.prog 34 #[.string s] w fun e w' => ∃ v, e = .returned v ∧ w'.ownsRow w.heap.size 9 1 v (prt (tx s)).length (txs (prt (tx s))) ∧ Below w.heap.size w w' := by
  have c := pwParts.partsWhere_any s (fun _ => true) w ht (fun W t _ _ => parts1_any t W)
  rw [filter_all] at c
  have C := Lib.hid c
  clear c
  go_enter Try.func34, Try.ntmps34
  go_wp2_with fail
  refine C.out.mono ?_
  rintro e w2 ⟨v, rfl, hO, hb⟩
  have HO := Lib.hid hO
  have HB := Lib.hid hb
  clear hO hb
  go_wp2
  go_ret
  exact ⟨_, rfl, HO.out, HB.out⟩

set_option maxRecDepth 1000000 in
set_option maxHeartbeats 1000000 in
theorem specSubs_any (s : ByteArray) (hs : s.size ≤ 1048576) (W : World) :
    Calls Try.prog 12 #[.string s] W (ownS.OwnTexts W (if okT s = true then prt (tx s) else []) (okT s)) := by
  have cT := Lib.hid (fun W => l8Text_any s W (by omega))
  unfold ownS.OwnTexts
  cases ht : okT s with
  | true =>
    have h16 := okT_size ht
    rw [ht] at cT
    rw [if_pos rfl]
    have cP := Lib.hid (fun W => l8Parts_any s W h16)
    have hp := prt_small h16
    obtain ⟨ps, hps⟩ : ∃ ps, prt (tx s) = ps := ⟨_, rfl⟩
    rw [hps] at cP hp ⊢
    have HPl := Lib.hid hp
    clear ht hps hp
    go_enter Try.func12, Try.ntmps12
    go_wp2_with fail
    refine (cT.out _).mono ?_
    rintro e w1 ⟨rfl, rfl⟩
    go_wp2_with fail
    refine (cP.out _).mono ?_
    rintro e w2 ⟨a, n, c, rfl, hW, hb2⟩
    obtain rfl := hW.len
    have cO := Lib.hid (l2Own_any w2.heap.size a ps.length c (ps.map bx) w2 (Nat.le_refl _) hW (by have := HPl.out; omega))
    have HB2 := Lib.hid hb2
    clear hW hb2
    go_wp2_with fail
    refine cO.out.mono ?_
    rintro e w3 ⟨v, rfl, hO3, hb3⟩
    have HO3 := Lib.hid (own_down hO3 HB2.out.size)
    have HB3 := Lib.hid (HB2.out.trans (hb3.mono HB2.out.size))
    clear hO3 hb3
    go_wp2
    go_ret2
    exact ⟨_, rfl, by have := HO3.out; rwa [List.map_map] at this, HB3.out⟩
  | false =>
    rw [ht] at cT
    rw [if_neg (by simp)]
    clear ht
    go_enter Try.func12, Try.ntmps12
    go_wp2_with fail
    refine (cT.out _).mono ?_
    rintro e w1 ⟨rfl, rfl⟩
    go_wp2
    go_ret2
    exact ⟨_, rfl, ownS.own_lit0 (Nat.le_refl _), (Below.refl _ _).alloc (Nat.le_refl _) _⟩

set_option maxRecDepth 1000000 in
set_option maxHeartbeats 1000000 in
theorem implSubs_any (s : ByteArray) (hs : s.size ≤ 1048576) (W : World) :
    Calls Try.prog 13 #[.string s] W (ownS.OwnTexts W (if okT s = true then prt (tx s) else []) (okT s)) := by
  have cT := Lib.hid (fun W => implIsText_any s W (by omega))
  unfold ownS.OwnTexts
  cases ht : okT s with
  | true =>
    rw [ht] at cT
    rw [if_pos rfl]
    have cP := Lib.hid (fun W => partsOfText_any s W ht)
    obtain ⟨ps, hps⟩ : ∃ ps, prt (tx s) = ps := ⟨_, rfl⟩
    rw [hps] at cP ⊢
    clear ht hps
    go_enter Try.func13, Try.ntmps13
    go_wp2_with fail
    refine (cT.out _).mono ?_
    rintro e w1 ⟨rfl, hb1⟩
    have HB1 := Lib.hid hb1
    clear hb1
    go_wp2_with fail
    refine (cP.out _).mono ?_
    rintro e w3 ⟨v, rfl, hO3, hb3⟩
    have HO3 := Lib.hid (own_down hO3 HB1.out.size)
    have HB3 := Lib.hid (HB1.out.trans (hb3.mono HB1.out.size))
    clear hO3 hb3
    go_wp2
    go_ret2
    exact ⟨_, rfl, HO3.out, HB3.out⟩
  | false =>
    rw [ht] at cT
    rw [if_neg (by simp)]
    clear ht
    go_enter Try.func13, Try.ntmps13
    go_wp2_with fail
    refine (cT.out _).mono ?_
    rintro e w1 ⟨rfl, hb1⟩
    have HB1 := Lib.hid hb1
    clear hb1
    go_wp2
    go_ret2
    exact ⟨_, rfl, ⟨rfl, .inl ⟨rfl, rfl⟩⟩, HB1.out⟩

theorem agreeSubstringsOf (s : ByteArray) (hs : s.size ≤ 1048576) : ∃ (ws : List Txt) (ok : Bool), ws.length ≤ 1000 ∧ (∀ x ∈ ws, x.length ≤ 9223372036854775807) ∧
    (∀ W : World, Calls Try.prog 12 #[.string s] W (ownS.OwnTexts W ws ok)) ∧
    (∀ W : World, Calls Try.prog 13 #[.string s] W (ownS.OwnTexts W ws ok)) := by
  refine ⟨_, _, ?_, ?_, specSubs_any s hs, implSubs_any s hs⟩
  · split
    · next h => have := prt_small (okT_size h); omega
    · simp
  · intro x hx
    split at hx
    · next h => have := prt_wide (okT_size h) x hx; omega
    · simp at hx

end Go.Proofs.Ytifkggapdaflmaa
