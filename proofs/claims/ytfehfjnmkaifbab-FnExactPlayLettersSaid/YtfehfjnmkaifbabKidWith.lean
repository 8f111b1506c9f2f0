/-
  The kid with a letter: the program's search.
-/
import Derived.Test.YtfehfjnmkaifbabKidsWalk
import Derived.Lib.OthersKept
import Derived.Laws.RangeAny
namespace Go.Proofs.Ytfehfjnmkaifbab
open Go.RowKit
set_option linter.unusedVariables false

/-- a kid with a letter -/
def IsKid (t : List Nd) (i : Nat) (l : Int) (j : Nat) : Prop := i < j ∧ ∃ d, t[j]? = some d ∧ d.p = (i : Int) ∧ d.l = l

theorem isKid_at {t : List Nd} {ps : List Txt} (h : Tells t t.length ps) {i j : Nat} {x : Txt} {c : UInt8} (hi : ps[i]? = some x) (hk : IsKid t i ((c.toNat : Int) - 97) j) : ps[j]? = some (x ++ [c]) := by
  obtain ⟨hij, d, hd, h1, h2⟩ := hk
  exact (kid_iff h hi (by omega) hd).1 ⟨h1, h2⟩
theorem isKid_of {t : List Nd} {ps : List Txt} (h : Tells t t.length ps) {i j : Nat} {x : Txt} {c : UInt8} (hi : ps[i]? = some x) (hj : ps[j]? = some (x ++ [c])) : IsKid t i ((c.toNat : Int) - 97) j := by
  have hij : i < j := asc_pos h.asc hi hj (bef_longer x (by simp))
  have hjl : j < t.length := by have := h.len; have := (List.getElem?_eq_some_iff.1 hj).1; omega
  obtain ⟨d, _, hd, _⟩ := h.at hjl
  have := (kid_iff h hi (by omega) hd).2 hj
  exact ⟨hij, d, hd, this.1, this.2⟩

/-- the first kid of a list with a letter -/
def KidPost (t : List Nd) (i : Nat) (l : Int) (w : World) (e : Ending) (w' : World) : Prop :=
  ∃ (j : Nat) (ok : Bool), e = .returned (.tuple #[.int .i64 (j : Int), .bool ok]) ∧ (ok = true → IsKid t i l j) ∧ (ok = false → j = 0 ∧ ∀ j', ¬ IsKid t i l j') ∧ Below w.heap.size w w'

set_option maxHeartbeats 1000000 in
theorem kidWith_any (B : Nat) (a : Option Addr) (n c i : Nat) (t : List Nd) (ps : List Txt) (l : Int) (w : World) (hB : B ≤ w.heap.size) (h : Nds B w a n c t) (hn : n ≤ 1000) (ht : Tells t t.length ps) (hi : i < n) :
    Calls Try.prog 52 #[.agg #[.slice a n c], .int .i64 (i : Int), .int .i64 l] w (KidPost t i l w) := by
  have L := Lib.hid h.len
  have C := h.cap
  have T := h.top
  have H := Lib.hid h
  have HB := Lib.hid hB
  have HB1 : Hid (Below w.heap.size w (w.alloc (.cells #[.slice a n c] 30))) := Lib.hid ((Below.refl _ _).alloc (Nat.le_refl _) _)
  have cK := Lib.hid (kidsAt_any B a n c i t ps (w.alloc (.cells #[.slice a n c] 30)) (by simp; omega) (h.keep (HB1.out.mono hB)) hn ht hi)
  clear h hB ht
  obtain ⟨m, hm⟩ : ∃ m, (kidsTo t i n).length = m := ⟨_, rfl⟩
  have HM := Lib.hid hm
  have hmn : m ≤ n := by rw [← hm]; exact kidsTo_le n
  rw [hm] at cK
  clear hm
  go_enter Try.func52, Try.ntmps52
  go_wp2_with fail
  refine cK.out.mono ?_
  rintro e w2 ⟨v, rfl, hO, hb2⟩
  obtain ⟨a2, c2, rfl⟩ := own_slice hO
  have HS := Lib.hid (Sl.of_own hO)
  have HB2 := Lib.hid (HB1.out.trans (hb2.mono HB1.out.size))
  have hbx := (hb2.cell (p := ⟨w.heap.size, 0, none⟩) (by simp)).trans (show (w.alloc (.cells #[.slice a n c] 30)).cell? ⟨w.heap.size, 0, none⟩ = some (.slice a n c) by simp)
  have N2 := Lib.hid (H.out.keep (HB2.out.mono HB.out))
  have C2 := HS.out.cap
  have T2 := HS.out.top
  clear hO hb2
  go_wp2_with fail
  go_loop [14] (fun q => ∃ k : Nat, k ≤ m ∧ q = .int .i64 k ∧ Hid (∀ (q : Nat) (j : Nat), q < k → (kidsTo t i n)[q]? = some j → ¬ IsKid t i l j)) (fun q => m - (intOf q).toNat)
  case atStart => exact ⟨0, Nat.zero_le _, rfl, Lib.hid (fun q j h => by omega)⟩
  case round =>
    obtain ⟨k, hk, rfl, HN⟩ := hrel
    by_cases hlt : k < m
    · obtain ⟨j, hj⟩ : ∃ j, (kidsTo t i n)[k]? = some j := ⟨_, List.getElem?_eq_getElem (by rw [HM.out]; exact hlt)⟩
      have hmem := mem_kidsTo.1 (show j ∈ kidsTo t i n from List.mem_iff_getElem?.2 ⟨k, hj⟩)
      have hcell : (nums (kidsTo t i n))[k]? = some (.int .i64 (j : Int)) := by simp [nums, hj]
      obtain ⟨b, o, rfl, _, hc⟩ := HS.out.spot k _ hcell
      have HJ := Lib.hid hj
      have hjn : j < n := hmem.1
      obtain ⟨b2, o2, lj, pj, ej, rfl, hbB2, hdj, hlj, hpj, hc1, hc2, hc3⟩ := N2.out.elem j hjn
      have HPar : Hid (i < j ∧ pj = (i : Int)) := Lib.hid ⟨hmem.2.1, by
        obtain ⟨d, h1, h2⟩ := hmem.2.2
        rw [hdj] at h1
        rw [← Option.some.inj h1] at h2
        exact h2⟩
      have HDj := Lib.hid hdj
      clear hj hmem hcell hdj
      by_cases hll : lj = l
      · have hb1 : (lj == l) = true := by simp [hll]
        have HX : Hid (IsKid t i l j) := Lib.hid ⟨HPar.out.1, _, HDj.out, HPar.out.2, hll⟩
        clear hll
        go_wp2
        go_ret2
        exact ⟨j, true, rfl, fun _ => HX.out, fun h => by (cases h), HB2.out⟩
      · have hb1 : (lj == l) = false := by simp [hll]
        have HN2 : Hid (∀ (q : Nat) (j : Nat), q < k + 1 → (kidsTo t i n)[q]? = some j → ¬ IsKid t i l j) := Lib.hid (fun q j' hq hj' => by
          by_cases e : q = k
          · subst e
            rw [HJ.out] at hj'
            obtain rfl := Option.some.inj hj'
            rintro ⟨_, d, h1, _, h3⟩
            rw [HDj.out] at h1
            rw [← Option.some.inj h1] at h3
            exact hll h3
          · exact HN.out q j' (by omega) hj')
        clear hll
        go_wp2
        go_round
        case rel => exact ⟨k + 1, by omega, by go_num, HN2⟩
        case measure => simp [intOf]; omega
    · have HX : Hid (∀ j', ¬ IsKid t i l j') := Lib.hid (fun j' hj' => by
        obtain ⟨h0, d, h1, h2, h3⟩ := hj'
        have hmem : j' ∈ kidsTo t i n := mem_kidsTo.2 ⟨by have := (List.getElem?_eq_some_iff.1 h1).1; have := L.out; omega, h0, d, h1, h2⟩
        obtain ⟨q, hq⟩ := List.mem_iff_getElem?.1 hmem
        exact HN.out q j' (by have := (List.getElem?_eq_some_iff.1 hq).1; have := HM.out; omega) hq ⟨h0, d, h1, h2, h3⟩)
      go_wp2
      go_ret2
      exact ⟨0, false, rfl, fun h => by (cases h), fun _ => ⟨rfl, HX.out⟩, HB2.out⟩

end Go.Proofs.Ytfehfjnmkaifbab
