/-
  The program's search of a game begun: nothing is known yet.
-/
import Derived.Test.YtfehfjnmkaifbabAtL
import Derived.Test.YtfehfjnmkaifbabGood11
import Derived.Carry
namespace Go.Proofs.Ytfehfjnmkaifbab.los
open Go.RowKit Go.MapKept
set_option linter.unusedVariables false

theorem blk3 {w : World} {g : Nat} {a b c : Value} {T : TypeId} (h : w.heap[g]? = some (.cells #[a, b, c] T)) :
    (w.cell? ⟨g, 0, none⟩ = some a ∧ w.cell? ⟨g, 1, none⟩ = some b ∧ w.cell? ⟨g, 2, none⟩ = some c) ∧ (w.frozen? ⟨g, 0, none⟩ = false ∧ w.frozen? ⟨g, 1, none⟩ = false ∧ w.frozen? ⟨g, 2, none⟩ = false) := by
  refine ⟨⟨?_, ?_, ?_⟩, ?_, ?_, ?_⟩ <;> simp [World.cell?, World.frozen?, h]

theorem set3 {w : World} {g : Nat} {a b c : Value} {T : TypeId} (h : w.heap[g]? = some (.cells #[a, b, c] T)) (v0 v1 v2 : Value) :
    (((w.setCell ⟨g, 0, none⟩ v0).setCell ⟨g, 1, none⟩ v1).setCell ⟨g, 2, none⟩ v2).heap[g]? = some (.cells #[v0, v1, v2] T) ∧ w.grownBy (((w.setCell ⟨g, 0, none⟩ v0).setCell ⟨g, 1, none⟩ v1).setCell ⟨g, 2, none⟩ v2) (some g) := by
  refine ⟨?_, grown_trans (grown_trans (grown_set _ _ _ _) (grown_set _ _ _ _)) (grown_set _ _ _ _)⟩
  simp [World.setCell, Array.getElem?_modify, h]

set_option maxRecDepth 1000000 in
set_option maxHeartbeats 1000000 in
theorem outlookOn_any (a : Option Addr) (n c m : Nat) (f : Nat → Pro) (w : World) :
    Calls Try.prog 72 #[.agg #[.slice a n c], .iface 80 (.agg #[.slice a n c, .int .i64 (m : Int)])] w fun e w' => ∃ b, e = .returned (olv a n c m b) ∧ KnowIs w' b n f (fun _ => false) ∧ w.heap.size ≤ b ∧ Below w.heap.size w w' := by
  have hk := KnowIs.made ((w.alloc (.cells #[.slice a n c] 30)).alloc (.cells #[.slice a n c, .iface 80 (.agg #[.slice a n c, .int .i64 (m : Int)]), .map (some (w.heap.size + 1 + 1))] 61)) n f
  have hsz : ((w.alloc (.cells #[.slice a n c] 30)).alloc (.cells #[.slice a n c, .iface 80 (.agg #[.slice a n c, .int .i64 (m : Int)]), .map (some (w.heap.size + 1 + 1))] 61)).heap.size = w.heap.size + 2 := by simp
  rw [hsz] at hk
  have hb : Below w.heap.size w (((w.alloc (.cells #[.slice a n c] 30)).alloc (.cells #[.slice a n c, .iface 80 (.agg #[.slice a n c, .int .i64 (m : Int)]), .map (some (w.heap.size + 1 + 1))] 61)).alloc (.map #[] 0)) := (((Below.refl w.heap.size w).alloc (Nat.le_refl _) _).alloc (by simp) _).alloc (by simp; omega) _
  have hc : (((w.alloc (.cells #[.slice a n c] 30)).alloc (.cells #[.slice a n c, .iface 80 (.agg #[.slice a n c, .int .i64 (m : Int)]), .map (some (w.heap.size + 1 + 1))] 61)).alloc (.map #[] 0)).heap[w.heap.size + 1]? = some (.cells #[.slice a n c, .iface 80 (.agg #[.slice a n c, .int .i64 (m : Int)]), .map (some (w.heap.size + 1 + 1))] 61) := by
    rw [Below.heap_alloc _ _ _ (by simp)]
    have := heap_alloc_new (w.alloc (.cells #[.slice a n c] 30)) (.cells #[.slice a n c, .iface 80 (.agg #[.slice a n c, .int .i64 (m : Int)]), .map (some (w.heap.size + 1 + 1))] 61)
    rwa [World.size_alloc] at this
  have HK := Lib.hid hk
  have HB := Lib.hid hb
  have HC := Lib.hid hc
  clear hk hb hc hsz
  have hmk : ∀ W : World, (Instr.makeMap 59 none).run Try.prog W = .ok (.map (some W.heap.size)) (W.alloc (.map #[] 0)) := fun W => run_makeMap _ W
  go_enter Try.func72, Try.ntmps72
  go_wp2_with fail
  obtain ⟨W3, hW3⟩ : ∃ W3, (((w.alloc (.cells #[.slice a n c] 30)).alloc (.cells #[.slice a n c, .iface 80 (.agg #[.slice a n c, .int .i64 (m : Int)]), .map (some (w.heap.size + 1 + 1))] 61)).alloc (.map #[] 0)) = W3 := ⟨_, rfl⟩
  rw [hW3] at HK HB HC ⊢
  clear hW3 hmk
  obtain ⟨⟨g0, g1, g2⟩, _⟩ := blk3 HC.out
  refine bodyPost_ret (v := olv a n c m (w.heap.size + 2)) (by simp [results, Try.results72, go_sem, g0, g1, g2, olv]) rfl ⟨_, rfl, HK.out, by omega, HB.out⟩

set_option maxRecDepth 1000000 in
set_option maxHeartbeats 1000000 in
theorem losingOn_any (a : Option Addr) (n c m : Nat) (f : Nat → Pro) (w : World) :
    Calls Try.prog 35 #[.agg #[.slice a n c], .int .i64 (m : Int)] w fun e w' => ∃ b, e = .returned (olv a n c m b) ∧ KnowIs w' b n f (fun _ => false) ∧ w.heap.size ≤ b ∧ Below w.heap.size w w' := by
  have hmi : ∀ (x : Value) (W : World), (Instr.makeInterface 80 x).run Try.prog W = .ok (.iface 80 x) W := fun x W => run_makeInterface W 80 x (by kernel_rfl)
  have hb1 : Below w.heap.size w ((w.alloc (.cells #[.slice a n c] 30)).alloc (.cells #[.slice none 0 0, .nilIface, .map none] 61)) := ((Below.refl w.heap.size w).alloc (Nat.le_refl _) _).alloc (by simp) _
  have hc : ((w.alloc (.cells #[.slice a n c] 30)).alloc (.cells #[.slice none 0 0, .nilIface, .map none] 61)).heap[w.heap.size + 1]? = some (.cells #[.slice none 0 0, .nilIface, .map none] 61) := by
    have := heap_alloc_new (w.alloc (.cells #[.slice a n c] 30)) (.cells #[.slice none 0 0, .nilIface, .map none] 61)
    rwa [World.size_alloc] at this
  have hsz : ((w.alloc (.cells #[.slice a n c] 30)).alloc (.cells #[.slice none 0 0, .nilIface, .map none] 61)).heap.size = w.heap.size + 2 := by simp
  have HB := Lib.hid hb1
  have HC := Lib.hid hc
  have HS := Lib.hid hsz
  have cO := Lib.hid (fun W => outlookOn_any a n c m f W)
  clear hb1 hc hsz
  go_enter Try.func35, Try.ntmps35
  go_wp2_with fail
  obtain ⟨W3, hW3⟩ : ∃ W3, (w.alloc (.cells #[.slice a n c] 30)).alloc (.cells #[.slice none 0 0, .nilIface, .map none] 61) = W3 := ⟨_, rfl⟩
  rw [hW3] at HB HC HS ⊢
  clear hW3 hmi
  refine (cO.out W3).mono ?_
  rintro e w4 ⟨b, rfl, hk, hbb, hb4⟩
  have hsz3 := HS.out
  have hc4 := (hb4.block (w.heap.size + 1) (by omega)).trans HC.out
  obtain ⟨⟨g0, g1, g2⟩, gf0, gf1, gf2⟩ := blk3 hc4
  have hbl := hk.lt
  have HC4 := Lib.hid hc4
  have HK4 := Lib.hid hk
  have HB4 := Lib.hid hb4
  have HBB := Lib.hid hbb
  have hbn : w.heap.size + 2 ≤ b := by omega
  clear hc4 hk hb4 hsz3 hbb
  unfold olv
  go_wp2_with fail
  obtain ⟨hs1, hs2⟩ := set3 HC4.out (.slice a n c) (.iface 80 (.agg #[.slice a n c, .int .i64 (m : Int)])) (.map (some b))
  obtain ⟨W5, hW5⟩ : ∃ W5, ((w4.setCell ⟨w.heap.size + 1, 0, none⟩ (.slice a n c)).setCell ⟨w.heap.size + 1, 1, none⟩ (.iface 80 (.agg #[.slice a n c, .int .i64 (m : Int)]))).setCell ⟨w.heap.size + 1, 2, none⟩ (.map (some b)) = W5 := ⟨_, rfl⟩
  rw [hW5] at hs1 hs2 ⊢
  clear hW5 g0 g1 g2
  obtain ⟨⟨g0, g1, g2⟩, _⟩ := blk3 hs1
  refine bodyPost_ret (v := olv a n c m b) (by simp [results, Try.results35, go_sem, g0, g1, g2, olv]) rfl ⟨b, rfl, HK4.out.kept (hs2.block _ hbl (fun e => by injection e with e; omega)), by omega, ?_⟩
  exact (HB.out.trans (HB4.out.mono (by have := HS.out; omega))).grown hs2 (by have := HS.out; have := HB4.out.size; omega) (fun q e => by injection e with e; omega)

end Go.Proofs.Ytfehfjnmkaifbab.los
