/-
  The program's place behind all that is under a node.
-/
import Derived.Test.YtfehfjnmkaifbabIsTrie
import Derived.Test.YtfehfjnmkaifbabKids
import Derived.Test.YtfehfjnmkaifbabInfoI
namespace Go.Proofs.Ytfehfjnmkaifbab
open Go.RowKit
set_option linter.unusedVariables false


set_option maxRecDepth 1000000 in
set_option maxHeartbeats 1000000 in
theorem behindUnder_any (B : Nat) (a : Option Addr) (n c i : Nat) (t : List Nd) (ps : List Txt) (w : World) (hB : B ≤ w.heap.size) (h : Nds B w a n c t) (hn : n ≤ 1000) (ht : Tells t t.length ps) (hi : i < n) :
    Calls Try.prog 84 #[.agg #[.slice a n c], .int .i64 (i : Int)] w fun e w' => ∃ b : Nat, e = .returned (.int .i64 (b : Int)) ∧ Behind t ps i b ∧ Below w.heap.size w w' := by
  have L := Lib.hid h.len
  have C := h.cap
  have T := h.top
  have HB1 : Hid (Below w.heap.size w (w.alloc (.cells #[.slice a n c] 30))) := Lib.hid ((Below.refl _ _).alloc (Nat.le_refl _) _)
  have H := Lib.hid (h.keep (HB1.out.mono hB))
  have HT := Lib.hid ht
  obtain ⟨_, x, _, hx⟩ := ht.at (show i < t.length by rw [L.out]; exact hi)
  have HX := Lib.hid hx
  clear h hB ht hx
  go_enter Try.func84, Try.ntmps84
  go_wp2
  go_loop [5] (fun q => ∃ k : Nat, i < k ∧ k ≤ n ∧ q = .int .i64 k ∧ Hid (∀ (m : Nat) (z : Txt), i < m → m < k → ps[m]? = some z → x <+: z)) (fun q => n - (intOf q).toNat)
  case atStart => exact ⟨i + 1, by omega, by omega, by go_num, Lib.hid (fun m z h1 h2 => by omega)⟩
  case round =>
    obtain ⟨k, hik, hkn, rfl, HA⟩ := hrel
    by_cases hlt : k < n
    · obtain ⟨b, o, l, p, e, rfl, hbB, hd, hl, hp, hc1, hc2, hc3⟩ := H.out.elem k hlt
      obtain ⟨_, y, _, hy⟩ := HT.out.at (show k < t.length by rw [L.out]; exact hlt)
      have HU := Lib.hid (under_iff HT.out HX.out hik hd hy HA.out)
      have HY := Lib.hid hy
      clear hd hy
      by_cases hpi : (i : Int) ≤ p
      · have HA2 : Hid (∀ (m : Nat) (z : Txt), i < m → m < k + 1 → ps[m]? = some z → x <+: z) := Lib.hid (fun m z h1 h2 h3 => by
          by_cases e : m = k
          · subst e
            rw [HY.out] at h3
            rw [← Option.some.inj h3]
            exact HU.out.1 hpi
          · exact HA.out m z h1 (by omega) h3)
        go_wp2
        go_round
        case rel => exact ⟨k + 1, by omega, by omega, by go_num, HA2⟩
        case measure => simp [intOf]; omega
      · have HBh : Hid (Behind t ps i k) := Lib.hid ⟨hik, by rw [L.out]; exact hkn, fun x' hx' m z h1 h2 h3 => by
            rw [HX.out] at hx'
            rw [← Option.some.inj hx']
            exact HA.out m z h1 h2 h3, fun x' y' hx' hy' hh => by
            rw [HX.out] at hx'
            rw [HY.out] at hy'
            rw [← Option.some.inj hx', ← Option.some.inj hy'] at hh
            exact hpi (HU.out.2 hh)⟩
        go_wp2
        go_ret
        exact ⟨k, rfl, HBh.out, HB1.out⟩
    · have HBh : Hid (Behind t ps i k) := Lib.hid ⟨hik, by rw [L.out]; exact hkn, fun x' hx' m z h1 h2 h3 => by
            rw [HX.out] at hx'
            rw [← Option.some.inj hx']
            exact HA.out m z h1 h2 h3, fun x' y' hx' hy' hh => by
            have := (List.getElem?_eq_some_iff.1 hy').1
            have := HT.out.len
            have := L.out
            omega⟩
      go_wp2
      go_ret
      exact ⟨k, rfl, HBh.out, HB1.out⟩

end Go.Proofs.Ytfehfjnmkaifbab
