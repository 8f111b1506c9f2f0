/-
  The program's IsFree of what is no trie.
-/
import Derived.Test.YtoofpgehkihbcacFree
namespace Go.Proofs.Ytoofpgehkihbcac
open Go.RowKit Go.Shelf
set_option linter.unusedVariables false

attribute [local go_sem] Oper.semAt_some

set_option maxRecDepth 1000000 in
set_option maxHeartbeats 2000000 in
theorem isFree_not (N : Nat) (hN3 : 3 ≤ N) (a : Option Addr) (n c : Nat) (t : List Nd) (hr : trieB t = false) (w : World) (hN : Nds w.heap.size w a n c t) :
    CallsIn Fence.wide N Try.prog 70 #[.agg #[.slice a n c]] w fun e w' => e = .returned (.tuple #[.bool false, .bool false]) ∧ Below w.heap.size w w' := by
  have h1 : 1 ≤ N := by omega
  have HN := Lib.hid hN
  have hW1 : ∃ W1, ((w.alloc (.cells #[.slice a n c] 28)).alloc (.cells #[.bool false] 4)).alloc (.cells #[.bool false] 4) = W1 := ⟨_, rfl⟩
  have hB0 : Below w.heap.size w (((w.alloc (.cells #[.slice a n c] 28)).alloc (.cells #[.bool false] 4)).alloc (.cells #[.bool false] 4)) := (((Below.refl _ w).alloc (Nat.le_refl _) _).alloc (by simp) _).alloc (by simp; omega) _
  have cTi : Hid (∀ (W' : World), Below w.heap.size w W' → Calls Try.prog 17 #[.agg #[.slice a n c]] W' fun e w' => e = .returned (.bool false) ∧ Below W'.heap.size W' w') := Lib.hid (fun W' k => by rw [← hr]; exact isTrie_any w.heap.size a n c t W' k.size (hN.keep k))
  have HB0 := Lib.hid hB0
  have q0 := cellNew w (.slice a n c) 28
  have q1 := cellNew (w.alloc (.cells #[.slice a n c] 28)) (.bool false) 4
  have q2 := cellNew ((w.alloc (.cells #[.slice a n c] 28)).alloc (.cells #[.bool false] 4)) (.bool false) 4
  simp only [World.size_alloc] at q1 q2
  have hQ0 : Res3 w.heap.size a n c (((w.alloc (.cells #[.slice a n c] 28)).alloc (.cells #[.bool false] 4)).alloc (.cells #[.bool false] 4)) := ⟨cellOld _ (cellOld _ q0.1), cellOld _ q1.1, frozenOld _ q1.1 q1.2, q2.1, q2.2, by simp⟩
  have HQ0 := Lib.hid hQ0
  clear hB0 hW1 hN hr q0 q1 q2 hQ0
  refine callsIn_of_wp_marks Try.func70 rfl trivial ?_ rfl
  simp only [Try.ntmps70, List.size_toArray, List.length_cons, List.length_nil, Nat.reduceAdd, Nat.reduceSub, Array.replicate_succ, Array.replicate_zero, List.push_toArray, List.append_toArray, List.nil_append, List.cons_append]
  gi_wp2_with (refine ⟨trivial, ?_⟩; gi_at_call 17; refine (callsIn_wide.2 (cTi.out _ HB0.out)).mono ?_; rintro e w2 ⟨rfl, hb2⟩; have hQ2 := HQ0.out.on hb2; have HB2 := Lib.hid (HB0.out.trans (hb2.mono HB0.out.size)); have hr1 := hQ2.r1; have hf1 := hQ2.f1; have hr2 := hQ2.r2; have hf2 := hQ2.f2; clear hb2)
  have ht := twoCells hr1 hr2 false false
  refine ⟨.tuple #[.bool false, .bool false], ?_, rfl, (HB2.out.setCell (p := ⟨w.heap.size + 1, 0, none⟩) (by simp) _).setCell (p := ⟨w.heap.size + 1 + 1, 0, none⟩) (by simp; omega) _⟩
  simp [results, Try.f70, go_sem, ht.1, ht.2]

end Go.Proofs.Ytoofpgehkihbcac
