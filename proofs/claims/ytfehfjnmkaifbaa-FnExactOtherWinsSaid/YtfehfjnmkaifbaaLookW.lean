/-
  The program's search of a game begun: nothing is known yet.
-/
import Derived.Test.YtfehfjnmkaifbaaAtW
import Derived.Test.YtfehfjnmkaifbaaGood11
import Derived.Carry
namespace Go.Proofs.Ytfehfjnmkaifbaa.wng
open Go.RowKit Go.MapKept
set_option linter.unusedVariables false

theorem blk3 {w : World} {g : Nat} {a b c : Value} {T : TypeId} (h : w.heap[g]? = some (.cells #[a, b, c] T)) :
    (w.cell? ⟨g, 0, none⟩ = some a ∧ w.cell? ⟨g, 1, none⟩ = some b ∧ w.cell? ⟨g, 2, none⟩ = some c) ∧ (w.frozen? ⟨g, 0, none⟩ = false ∧ w.frozen? ⟨g, 1, none⟩ = false ∧ w.frozen? ⟨g, 2, none⟩ = false) := by
  refine ⟨⟨?_, ?_, ?_⟩, ?_, ?_, ?_⟩ <;> simp [World.cell?, World.frozen?, h]

theorem set3 {w : World} {g : Nat} {a b c : Value} {T : TypeId} (h : w.heap[g]? = some (.cells #[a, b, c] T)) (v0 v1 v2 : Value) :
    (((w.setCell ⟨g, 0, none⟩ v0).setCell ⟨g, 1, none⟩ v1).setCell ⟨g, 2, none⟩ v2).heap[g]? = some (.cells #[v0, v1, v2] T) ∧ w.grownBy (((w.setCell ⟨g, 0, none⟩ v0).setCell ⟨g, 1, none⟩ v1).setCell ⟨g, 2, none⟩ v2) (some g) := by
  refine ⟨?_, grown_trans (grown_trans (grown_set _ _ _ _) (grown_set _ _ _ _)) (grown_set _ _ _ _)⟩
  simp [World.setCell, Array.getElem?_modify, h]

set_option maxRecDepth 1000000 in
set_option maxHeartbeats 1000000 in
theorem outlookOn_any (a : Option Addr) (n c m : Nat) (f : Nat → Pro) (w : World) :
    Calls Try.prog 35 #[.agg #[.slice a n c], .iface 59 (.agg #[.slice a n c, .int .i64 (m : Int)])] w fun e w' => ∃ b, e = .returned (olv a n c m b) ∧ KnowIs w' b n f (fun _ => false) ∧ w.heap.size ≤ b ∧ Below w.heap.size w w' := by
  have hk := KnowIs.made ((w.alloc (.cells #[.slice a n c] 30)).alloc (.cells #[.slice a n c, .iface 59 (.agg #[.slice a n c, .int .i64 (m : Int)]), .map (some (w.heap.size + 1 + 1))] 54)) n f
  have hsz : ((w.alloc (.cells #[.slice a n c] 30)).alloc (.cells #[.slice a n c, .iface 59 (.agg #[.slice a n c, .int .i64 (m : Int)]), .map (some (w.heap.size + 1 + 1))] 54)).heap.size = w.heap.size + 2 := by simp
  rw [hsz] at hk
  have hb : Below w.heap.size w (((w.alloc (.cells #[.slice a n c] 30)).alloc (.cells #[.slice a n c, .iface 59 (.agg #[.slice a n c, .int .i64 (m : Int)]), .map (some (w.heap.size + 1 + 1))] 54)).alloc (.map #[] 0)) := (((Below.refl w.heap.size w).alloc (Nat.le_refl _) _).alloc (by simp) _).alloc (by simp; omega) _
  have hc : (((w.alloc (.cells #[.slice a n c] 30)).alloc (.cells #[.slice a n c, .iface 59 (.agg #[.slice a n c, .int .i64 (m : Int)]), .map (some (w.heap.size + 1 + 1))] 54)).alloc (.map #[] 0)).heap[w.heap.size + 1]? = some (.cells #[.slice a n c, .iface 59 (.agg #[.slice a n c, .int .i64 (m : Int)]), .map (some (w.heap.size + 1 + 1))] 54) := by
    rw [Below.heap_alloc _ _ _ (by simp)]
    have := heap_alloc_new (w.alloc (.cells #[.slice a n c] 30)) (.cells #[.slice a n c, .iface 59 (.agg #[.slice a n c, .int .i64 (m : Int)]), .map (some (w.heap.size + 1 + 1))] 54)
    rwa [World.size_alloc] at this
  have HK := Lib.hid hk
  have HB := Lib.hid hb
  have HC := Lib.hid hc
  clear hk hb hc hsz
  have hmk : ∀ W : World, (Instr.makeMap 52 none).run Try.prog W = .ok (.map (some W.heap.size)) (W.alloc (.map #[] 0)) := fun W => run_makeMap _ W
  go_enter Try.func35, Try.ntmps35
  go_wp2_with fail
  obtain ⟨W3, hW3⟩ : ∃ W3, (((w.alloc (.cells #[.slice a n c] 30)).alloc (.cells #[.slice a n c, .iface 59 (.agg #[.slice a n c, .int .i64 (m : Int)]), .map (some (w.heap.size + 1 + 1))] 54)).alloc (.map #[] 0)) = W3 := ⟨_, rfl⟩
  rw [hW3] at HK HB HC ⊢
  clear hW3 hmk
  obtain ⟨⟨g0, g1, g2⟩, _⟩ := blk3 HC.out
  refine bodyPost_ret (v := olv a n c m (w.heap.size + 2)) (by simp [results, Try.results35, go_sem, g0, g1, g2, olv]) rfl ⟨_, rfl, HK.out, by omega, HB.out⟩

end Go.Proofs.Ytfehfjnmkaifbaa.wng
