/-
  One byte of a text's block turned, and what the block then spells.
-/
import Derived.Test.YtlkajncgbnkkgaaDoorCur
import Derived.Test.YtlkajncgbnkkgaaDoorDrawAny
import Derived.Laws.IdiomStrings
namespace Go.Proofs.YtlkajncgbnkkgaaDoor
open Go.RowKit
set_option linter.unusedVariables false

/-- the block that holds the bytes of a text -/
theorem new_bytes (w W : World) (C : Array Value) (Y : ByteArray) (cap : Nat) (hC : bytesRow Y cap = C) (hW : (w.alloc (.cells C 5 (C.size, C.size + 1))).drew = W) :
    Below w.heap.size w W ∧ (∀ j (h : j < Y.size), W.cell? ⟨w.heap.size, j, none⟩ = some (.int .u8 (Y[j].toNat : Int))) ∧ (∀ j, j < Y.size → W.frozen? ⟨w.heap.size, j, none⟩ = false) ∧ W.heap.size = w.heap.size + 1 := by
  subst hC hW
  have hs : Y.size ≤ (bytesRow Y cap).size := by
    unfold bytesRow
    rw [Array.size_append, Array.size_map]
    show Y.data.size ≤ _
    omega
  refine ⟨below_drewN (bel_alloc _ _) 1, fun j h => ?_, fun j h => ?_, ?_⟩
  · have h1 := World.cell?_alloc_mark w (bytesRow Y cap) 5 ((bytesRow Y cap).size, (bytesRow Y cap).size + 1) j
    refine Eq.trans (show _ = (w.alloc (.cells (bytesRow Y cap) 5 ((bytesRow Y cap).size, (bytesRow Y cap).size + 1))).cell? ⟨w.heap.size, j, none⟩ from rfl) (h1.trans ?_)
    have h' : j < Y.data.size := h
    unfold bytesRow
    rw [Array.getElem?_append_left (by simpa using h'), Array.getElem?_map, Array.getElem?_eq_getElem h']
    rfl
  · refine Eq.trans (show _ = (w.alloc (.cells (bytesRow Y cap) 5 ((bytesRow Y cap).size, (bytesRow Y cap).size + 1))).frozen? ⟨w.heap.size, j, none⟩ from rfl) ?_
    rw [World.frozen?_alloc_mark]
    simp
    omega
  · show (w.heap.push _).size = _
    simp

/-- another byte stands there -/
theorem other (v : UInt8) (r d : Nat) (hd : d < 255) (hd2 : (r : Int) % 255 = (d : Int)) :
    ∃ V : UInt8, bits BinOp.xor IntKind.u8 (v.toNat : Int) (IntKind.u8.wrap (IntKind.i64.wrap (1 + (r : Int).tmod 255))) = (V.toNat : Int) ∧ V ≠ v := by
  have h1 := v.toNat_lt
  have e : IntKind.u8.wrap (IntKind.i64.wrap (1 + (r : Int).tmod 255)) = ((1 + d : Nat) : Int) := by
    rw [Int.tmod_eq_emod_of_nonneg (by omega), hd2]
    simp [IntKind.wrap, IntKind.bits, IntKind.signed]
    omega
  rw [e, u8_xor_nat _ _ (by omega) (by omega)]
  have hlt : v.toNat ^^^ (1 + d) < 256 := Nat.xor_lt_two_pow (n := 8) (by omega) (by omega)
  refine ⟨UInt8.ofNat (v.toNat ^^^ (1 + d)), ?_, ?_⟩
  · rw [UInt8.toNat_ofNat']
    congr 1
    omega
  · intro h
    have h2 := congrArg UInt8.toNat h
    rw [UInt8.toNat_ofNat'] at h2
    have h3 : v.toNat ^^^ (1 + d) = v.toNat := by omega
    have h4 : v.toNat ^^^ (v.toNat ^^^ (1 + d)) = v.toNat ^^^ v.toNat := by rw [h3]
    rw [← Nat.xor_assoc, Nat.xor_self, Nat.zero_xor] at h4
    omega

/-- the text with one byte turned -/
def turn (Y : ByteArray) (k : Nat) (V : UInt8) : ByteArray := ⟨(Y.data.toList.set k V).toArray⟩

theorem turn_size (Y : ByteArray) (k : Nat) (V : UInt8) : (turn Y k V).size = Y.size := by
  show (Y.data.toList.set k V).toArray.size = Y.data.size
  simp

theorem turn_other (Y : ByteArray) (k : Nat) (V : UInt8) : ∀ j, j ≠ k → (turn Y k V).data.toList[j]? = Y.data.toList[j]? := by
  intro j hj
  show (Y.data.toList.set k V).toArray.toList[j]? = _
  rw [List.getElem?_set_ne (by omega)]

theorem turn_there (Y : ByteArray) (k : Nat) (V : UInt8) (hk : k < Y.size) (h : V ≠ Y[k]) : (turn Y k V).data.toList[k]? ≠ Y.data.toList[k]? := by
  have h' : k < Y.data.toList.length := by simpa using hk
  show (Y.data.toList.set k V).toArray.toList[k]? ≠ _
  rw [List.getElem?_set_self h', List.getElem?_eq_getElem h']
  intro e
  injection e with e
  exact h e

theorem turn_conv (w : World) (g k cap : Nat) (Y : ByteArray) (V : UInt8) (hg : g < w.heap.size) (hk : k < Y.size) (hc : ∀ j (h : j < Y.size), w.cell? ⟨g, j, none⟩ = some (.int .u8 (Y[j].toNat : Int))) :
    (convert 22 9 (.slice (some ⟨g, 0, none⟩) Y.size cap)).run Tryd.prog ((w.drewN 1).setCell ⟨g, k, none⟩ (.int .u8 (V.toNat : Int))) =
      .ok (.string (turn Y k V)) ((w.drewN 1).setCell ⟨g, k, none⟩ (.int .u8 (V.toNat : Int))) := by
  have hl : (Y.data.toList.set k V).length = Y.size := by simp
  have h := run_convert_bytes_back (P := Tryd.prog) ((w.drewN 1).setCell ⟨g, k, none⟩ (.int .u8 (V.toNat : Int))) 22 9 5 ⟨g, 0, none⟩ cap (Y.data.toList.set k V) Tryd.underlying22 Tryd.underlying5 Tryd.underlying9 (fun j hj => by
    have hj' : j < Y.size := by omega
    have hadd : (Addr.add ⟨g, 0, none⟩ j) = ⟨g, j, none⟩ := by cases j <;> simp [Addr.add]
    rw [hadd]
    by_cases e : j = k
    · subst e
      have h0 : (w.drewN 1).cell? ⟨g, j, none⟩ = some (.int .u8 (Y[j].toNat : Int)) := hc j hj'
      simp only [List.getElem_set_self]
      go_simp
    · have h0 : (w.drewN 1).cell? ⟨g, j, none⟩ = some (.int .u8 (Y[j].toNat : Int)) := hc j hj'
      have e2 : (Y.data.toList.set k V)[j] = Y[j] := by
        rw [List.getElem_set_ne (by omega)]
        rfl
      rw [e2]
      have e3 : ¬ k = j := by omega
      go_simp)
  rw [hl] at h
  exact h

/-- what lies below stays -/
theorem turn_below (B : Nat) (w : World) (g k : Nat) (v : Value) (hB : B ≤ g) (hg : g < w.heap.size) : Below B w ((w.drewN 1).setCell ⟨g, k, none⟩ v) :=
  bel_only (only_setCell (only_drewN (only_refl w (some g)) 1) v) hB hg

end Go.Proofs.YtlkajncgbnkkgaaDoor
