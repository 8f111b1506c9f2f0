/-
  The program's reader of signs, and its search for a sequence.
-/
import Derived.Test.YthjafoacnfgjhabDecM10
import Derived.Test.YthjafoacnfgjhabNumsB
import Derived.Laws.OwnMore
namespace Go.Proofs.Ythjafoacnfgjhab
open Go.RowKit
set_option linter.unusedVariables false

/-- what Index answers of a sequence -/
def IdxAt (cs : List Txt) (x : Txt) (q : Int) : Prop := (q = -1 ∧ ∀ (j : Nat) (y : Txt), cs[j]? = some y → y ≠ x) ∨ (∃ j : Nat, q = (j : Int) ∧ cs[j]? = some x)
/-- none of the first k is the text -/
def NotTo (cs : List Txt) (x : Txt) (k : Nat) : Prop := ∀ (j : Nat) (y : Txt), j < k → cs[j]? = some y → y ≠ x

set_option maxRecDepth 1000000 in
set_option maxHeartbeats 1000000 in
theorem indexStr_any (B : Nat) (a : Option Addr) (n c : Nat) (ss : List ByteArray) (x : ByteArray) (w : World) (hB : B ≤ w.heap.size) (h : Strs B w a n c ss) :
    Calls Try.prog 66 #[.slice a n c, .string x] w fun e w' => (∃ q : Int, e = .returned (.int .i64 q) ∧ IdxAt (txl ss) (tx x) q) ∧ w = w' := by
  have L := Lib.hid h.len
  have C := h.sl.cap
  have T := h.sl.top
  have H := Lib.hid h
  clear h
  go_enter Try.func66, Try.ntmps66
  go_wp2
  go_loop [8] (fun i => ∃ k : Nat, k ≤ n ∧ i = .int .i64 k ∧ Hid (NotTo (txl ss) (tx x) k)) (fun i => n - (intOf i).toNat)
  case atStart => exact ⟨0, Nat.zero_le _, rfl, Lib.hid (fun j y hj => by omega)⟩
  case round =>
    obtain ⟨k, hk, rfl, HN⟩ := hrel
    by_cases hlt : k < n
    · obtain ⟨b, o, s, rfl, _, hs, _, hc⟩ := H.out.elem k hlt
      have HS := Lib.hid hs
      clear hs
      have hk0 : (0 : Int) ≤ (k : Int) := by omega
      have hk1 : (k : Int) < (n : Int) := by omega
      by_cases he : x = s
      · have hq : (x.toList == s.toList) = true := by rw [str_eq_list, he]; simp
        have HR : Hid (IdxAt (txl ss) (tx x) (k : Int)) := Lib.hid (.inr ⟨k, rfl, by rw [he]; exact txl_at HS.out⟩)
        clear he
        go_wp2
        go_ret
        exact ⟨⟨_, rfl, HR.out⟩, rfl⟩
      · have hq : (x.toList == s.toList) = false := by rw [str_eq_list]; simp [he]
        have HN2 : Hid (NotTo (txl ss) (tx x) (k + 1)) := Lib.hid (fun j y hj hy => by
          by_cases e : j = k
          · subst e
            rw [txl_at HS.out] at hy
            cases hy
            exact fun e => he (tx_inj e).symm
          · exact HN.out j y (by omega) hy)
        clear he
        go_wp2
        go_round
        case rel => exact ⟨k + 1, by omega, by go_num, HN2⟩
        case measure => simp [intOf]; omega
    · have HR : Hid (IdxAt (txl ss) (tx x) (-1)) := Lib.hid (.inl ⟨rfl, fun j y hy => HN.out j y (by
        have := (List.getElem?_eq_some_iff.1 hy).1
        rw [txl_len, L.out] at this
        omega) hy⟩)
      go_wp2
      go_ret
      exact ⟨⟨_, rfl, HR.out⟩, rfl⟩

theorem next_no (P : Nat) (q : ByteArray) (w : World) (hc : w.cell? ⟨P, 0, none⟩ = some (.string q)) (hq : ¬ 1 ≤ q.size) :
    Calls Try.prog 46 #[.pointer (some ⟨P, 0, none⟩)] w fun e w' => e = .returned (.tuple #[.string ⟨#[]⟩, .bool false]) ∧ w = w' := by
  have hl := tol_no hq
  have hl2 : q.toList.isEmpty = true := by rw [hl]; rfl
  clear hq
  go_enter Try.func46, Try.ntmps46
  go_wp2
  go_ret2
  exact ⟨rfl, rfl⟩

theorem next_yes (P : Nat) (q : ByteArray) (w : World) (hc : w.cell? ⟨P, 0, none⟩ = some (.string q)) (hf : w.frozen? ⟨P, 0, none⟩ = false) (hq : 1 ≤ q.size) (hs : q.size ≤ 9223372036854775807) :
    Calls Try.prog 46 #[.pointer (some ⟨P, 0, none⟩)] w fun e w' => e = .returned (.tuple #[.string (q.extract 0 1), .bool true]) ∧ w' = w.setCell ⟨P, 0, none⟩ (.string (q.extract 1 q.size)) := by
  obtain ⟨h1, h2, h3⟩ := tol_ne hq
  have hq1 : (1 : Int) ≤ (q.size : Int) := by omega
  go_enter Try.func46, Try.ntmps46
  go_wp2
  go_ret2
  exact ⟨rfl, rfl⟩

theorem own_heap {base : Nat} {w w' : World} {e : TypeId} {size n : Nat} {v : Value} {xs : List Value} (h : w.ownsRow base e size v n xs) (hh : ∀ g, base ≤ g → g < w.heap.size → w'.heap[g]? = w.heap[g]?) : w'.ownsRow base e size v n xs := by
  refine ⟨h.1, ?_⟩
  rcases h.2 with hn | ⟨g', cap, cur, hv, hbg, hc, rest⟩
  · exact .inl hn
  · refine .inr ⟨g', cap, cur, hv, hbg, ?_, rest⟩
    rw [hh g' hbg (Array.getElem?_eq_some_iff.1 hc).1]
    exact hc

end Go.Proofs.Ythjafoacnfgjhab
