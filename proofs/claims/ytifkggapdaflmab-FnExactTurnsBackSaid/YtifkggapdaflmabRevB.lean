/-
  Bytes turned: slices.Reverse at bytes, and the program's turning of a text.
-/
import Derived.Test.YtifkggapdaflmabPutW
import Derived.Shelf.RegionOpenPlain
import Derived.Deep.LoopGhost
import Derived.Lib.Walk
import Derived.Sort.WalkB12
import Derived.Lib.SlicesMore
import Derived.Lib.OwnBridge
import Derived.Laws.IdiomStrings
namespace Go.Proofs.Ytifkggapdaflmab
open Go.RowKit Go.Lib Go.Sort
set_option linter.unusedVariables false

def encB (c : UInt8) : Value := .int .u8 (c.toNat : Int)

set_option maxHeartbeats 1600000 in
set_option maxRecDepth 1000000 in
theorem reverse_any (blk cap : Nat) (d : Array UInt8) (w : World) (hH : Holds encB w blk 0 d) (hsz : d.size ≤ 1000) :
    Calls Try.prog 62 #[.slice (some ⟨blk, 0, none⟩) d.size cap] w fun e w' => e = .returned (.tuple #[]) ∧ ∃ n, w' = putRow encB (Sort.ahead w n) blk 0 d.reverse := by
  have mixed : Try.prog.follows Departure.mixedOrders = true := by kernel_rfl
  go_enter Try.func62, Try.ntmps62
  go_wp2
  go_loopg [2, 3] d.size (fun k s2 s3 wr => ∃ (i jn : Nat) (jz : Int) (dk : Array UInt8) (n : Nat), s2 = .int .i64 i ∧ s3 = .int .i64 jz ∧ ((i : Int) < jz → jz = jn ∧ jn < d.size) ∧ (¬ (i : Int) < jz → ¬ i < jn) ∧ jn - i ≤ k ∧
    dk.size = d.size ∧ wr = putRow encB (Sort.ahead w n) blk 0 dk ∧ reverseLoop i jn dk = reverseLoop 0 (d.size - 1) d)
  case atStart => exact ⟨0, d.size - 1, (d.size : Int) - 1, d, 0, rfl, rfl, fun h => ⟨by omega, by omega⟩, fun h => by omega, by omega, rfl, (putRow_self encB w blk 0 d hH).symm, rfl⟩
  case round =>
    obtain ⟨i, jn, jz, dk, n, rfl, rfl, h1, h2, hk, hds, hwr, heq⟩ := hrel
    by_cases hlt : (i : Int) < jz
    · obtain ⟨rfl, hjn⟩ := h1 hlt
      have hij : i < jn := by omega
      have hHk : Holds encB wr blk 0 dk := by rw [hwr]; exact holds_putRow encB _ blk 0 d dk (holds_ahead encB w n blk 0 d hH) hds
      obtain ⟨ci, fi⟩ := hHk i (by omega)
      obtain ⟨cj, fj⟩ := hHk jn (by omega)
      rw [Nat.zero_add] at ci fi cj fj
      unfold encB at ci cj
      have A := Lib.hid hwr
      have HEq := Lib.hid heq
      clear hwr hHk hH h1 h2 heq
      go_wp2_with fail
      go_region_o
      go_wp2
      go_roundg (jn - 1 - (i + 1))
      case measure => omega
      case rel =>
        have heq := HEq.out
        rw [reverseLoop, if_pos hij] at heq
        refine ⟨i + 1, jn - 1, (jn : Int) - 1, swp dk i jn, n + 1, by simp, rfl, fun h => ⟨by omega, by omega⟩, fun h => by omega, Nat.le_refl _, by rw [size_swp]; exact hds, ?_, heq⟩
        have hs0 := swap_world encB (i := i) (j := jn) (by omega) (by omega) A.out (x := .int .u8 ((dk[jn]'(by omega)).toNat : Int)) (y := .int .u8 ((dk[i]!).toNat : Int)) (by simp [encB, getElem!_pos, show jn < dk.size by omega]) rfl
        have hs1 := swap_world encB (i := i) (j := jn) (by omega) (by omega) A.out (x := .int .u8 ((dk[jn]'(by omega)).toNat : Int)) (y := .int .u8 ((dk[i]'(by omega)).toNat : Int)) (by simp [encB, getElem!_pos, show jn < dk.size by omega]) (by simp [encB, getElem!_pos, show i < dk.size by omega])
        have hs2 := swap_world encB (i := i) (j := jn) (by omega) (by omega) A.out (x := .int .u8 ((dk[jn]!).toNat : Int)) (y := .int .u8 ((dk[i]!).toNat : Int)) rfl rfl
        have hs3 := swap_world encB (i := i) (j := jn) (by omega) (by omega) A.out (x := .int .u8 ((dk[jn]!).toNat : Int)) (y := .int .u8 ((dk[i]'(by omega)).toNat : Int)) rfl (by simp [encB, getElem!_pos, show i < dk.size by omega])
        rw [Nat.zero_add, Nat.zero_add] at hs0 hs1 hs2 hs3
        first | exact hs0 | exact hs1 | exact hs2 | exact hs3
    · have hnot := h2 hlt
      go_wp2
      go_end0
      refine ⟨rfl, n, ?_⟩
      rw [reverseLoop, if_neg hnot] at heq
      rw [← Lib.reverseLoop_reverse, ← heq]

end Go.Proofs.Ytifkggapdaflmab
