/-
  The program's fill: a set is made that of the words of a trie.
-/
import Derived.Test.YtipkdoplgjgkpacMapB
import Derived.Test.YtipkdoplgjgkpacEach
import Derived.Test.YtipkdoplgjgkpacFreeM
import Derived.RangeFuncWrites
namespace Go.Proofs.Ytipkdoplgjgkpac
open Go.RowKit Go.Shelf
set_option linter.unusedVariables false

attribute [local go_sem] Oper.semAt_some

theorem gb_trans {A B C : World} {b : Nat} (h : A.grownBy B (some b)) (k : B.grownBy C (some b)) : A.grownBy C (some b) := ⟨k.os.trans h.os, k.tape.trans h.tape, k.output.trans h.output, Nat.le_trans h.size k.size, fun i hi hb => (k.block i (Nat.lt_of_lt_of_le hi h.size) hb).trans (h.block i hi hb)⟩
theorem gb_none {A B : World} (b : Nat) (h : A.grownBy B none) : A.grownBy B (some b) := ⟨h.os, h.tape, h.output, h.size, fun i hi _ => h.block i hi (by simp)⟩
theorem gb_far {A B C : World} {b : Nat} {row : Option Nat} (h : A.grownBy B (some b)) (k : B.grownBy C row) (hr : ∀ r, row = some r → A.heap.size ≤ r) : A.grownBy C (some b) := ⟨k.os.trans h.os, k.tape.trans h.tape, k.output.trans h.output, Nat.le_trans h.size k.size, fun i hi hb => (k.block i (Nat.lt_of_lt_of_le hi h.size) (fun e => by have := hr i e.symm; omega)).trans (h.block i hi hb)⟩
theorem gb_refl (A : World) (b : Nat) : A.grownBy A (some b) := ⟨rfl, rfl, rfl, Nat.le_refl _, fun _ _ _ => rfl⟩
theorem gb_below {A B : World} {b L : Nat} (h : A.grownBy B (some b)) (hL : L ≤ A.heap.size) (hb : L ≤ b) : Below L A B := (Below.refl _ _).grown h hL (fun q e => by cases e; exact hb)

set_option maxRecDepth 1000000 in
set_option maxHeartbeats 4000000 in
theorem fill_in (N : Nat) (hN3 : 3 ≤ N) (b q B : Nat) (ws0 : List Txt) (a : Option Addr) (n c : Nat) (t : List Nd) (ps : List Txt) (hv : Valid t ps) (W : World) (hB : B ≤ b) (hS : SetIs W b q ws0) (hN : Nds B W a n c t) :
    CallsIn Fence.wide N Try.prog 38 #[.map (some b), .agg #[.slice a n c]] W fun e W' => e = .returned (.map (some b)) ∧ (∃ k, SetIs W' b k (wds t ps)) ∧ W.grownBy W' (some b) := by
  have h1 : 1 ≤ N := by omega
  have HV := Lib.hid hv
  have hbl := hS.lt
  have hS1 := (hS.kept (W' := W.alloc (.cells #[.map (some b)] 56)) (Below.heap_alloc _ _ _ hbl))
  have hS2 := (hS1.kept (W' := (W.alloc (.cells #[.map (some b)] 56)).alloc (.cells #[.slice a n c] 30)) (Below.heap_alloc _ _ _ hS1.lt))
  obtain ⟨W2, hcl, hS3, hg3⟩ := hS2.clear
  have c0 := (cellNew W (.map (some b)) 56).1
  have c1 := cellOld (.cells #[.slice a n c] 30) c0
  have c2 := (cellNew (W.alloc (.cells #[.map (some b)] 56)) (.slice a n c) 30).1
  rw [World.size_alloc] at c2
  have hsz : ((W.alloc (.cells #[.map (some b)] 56)).alloc (.cells #[.slice a n c] 30)).heap.size = W.heap.size + 2 := by simp
  have hz2 := hg3.size
  have d1 : W2.cell? ⟨W.heap.size, 0, none⟩ = some (.map (some b)) := (World.cell?_of_block (a := ⟨W.heap.size, 0, none⟩) (hg3.block _ (show W.heap.size < _ by omega) (by simp; omega))).trans c1
  have d2 : W2.cell? ⟨W.heap.size + 1, 0, none⟩ = some (.slice a n c) := (World.cell?_of_block (a := ⟨W.heap.size + 1, 0, none⟩) (hg3.block _ (show W.heap.size + 1 < _ by omega) (by simp; omega))).trans c2
  have HG2 : Hid (W.grownBy W2 (some b)) := Lib.hid (gb_trans (gb_trans (gb_none b (World.grownBy_alloc W _ none)) (gb_none b (World.grownBy_alloc _ _ none))) hg3)
  have hN2 : Nds B W2 a n c t := hN.keep (gb_below HG2.out (by omega) hB)
  have HSz := Lib.hid hsz
  rw [hsz] at hz2
  clear hsz c0 hS1 hS2 hg3 hN hv hS
  refine callsIn_of_wp_marks Try.func38 rfl trivial ?_ rfl
  simp only [Try.ntmps38, List.size_toArray, List.length_cons, List.length_nil, Nat.reduceAdd, Nat.reduceSub, Array.replicate_succ, Array.replicate_zero, List.push_toArray, List.append_toArray, List.nil_append, List.cons_append]
  gi_wp2_with (first
    | (refine ⟨trivial, ?_⟩; gi_at_call 39; refine (eachWord_in (N - 1) a n c _).mono ?_; rintro e w3 ⟨rfl, rfl⟩))
  obtain ⟨s, hs⟩ : ∃ s, W2.heap.size = s := ⟨_, rfl⟩
  have u3 := (cellNew W2 (.slice a n c) 30).1
  have e1 := cellOld (.cells #[.slice a n c] 30) d1
  have hb2 : b < W2.heap.size := hS3.lt
  have hS4 := hS3.kept (W' := W2.alloc (.cells #[.slice a n c] 30)) (Below.heap_alloc _ _ _ hb2)
  have hN4 : Nds B (W2.alloc (.cells #[.slice a n c] 30)) a n c t := hN2.keep ((Below.refl _ W2).alloc (by omega) _)
  have HG4 : Hid (W.grownBy (W2.alloc (.cells #[.slice a n c] 30)) (some b)) := Lib.hid (gb_trans HG2.out (gb_none b (World.grownBy_alloc W2 _ none)))
  have hsz4 : (W2.alloc (.cells #[.slice a n c] 30)).heap.size = W2.heap.size + 1 := by simp
  obtain ⟨w0, hw0⟩ : ∃ w0, W2.alloc (.cells #[.slice a n c] 30) = w0 := ⟨_, rfl⟩
  rw [hw0] at u3 e1 hS4 hN4 HG4 hsz4 ⊢
  clear hw0 d1 d2 hcl c1 c2 hS3
  simp only [hs] at u3 hsz4 hz2 hb2 ⊢
  clear hs
  refine wpIn_rangeFunc_ownG rfl h1 (gf := 74) (lb := #[.pointer (some ⟨s, 0, none⟩)]) rfl trivial (enters_of Try.func74 (by kernel_rfl) rfl)
    (each_stops (N - 1) (by omega) s B n c a t ps HV.out w0 (by omega) (by omega) u3 hN4) KeepE.trans (keepE_b (by omega) (by omega)) (Below.refl _ _) (fun _ => rfl)
    (fun pre V => SetIs V b pre.length (pre.map EW.x) ∧ w0.grownBy V (some b))
    (fun _ _ _ => False)
    (fun pre V V' row hs hg hr => ⟨hs.1.kept (hg.block b hs.1.lt (fun e => by have := (hr b e.symm).1; omega)), gb_far hs.2 hg (fun r e => (hr r e).1)⟩)
    (fun _ _ _ _ _ hs _ _ => hs)
    ⟨hS4, gb_refl _ _⟩
    (fun x => { tmps := #[.map (some b), .agg #[.slice a n c], .pointer (some ⟨W.heap.size, 0, none⟩), .pointer (some ⟨W.heap.size + 1, 0, none⟩), .map none, undef, .string (bx x.x), .map (some b), .agg #[.slice a n c],
      .func (.func 74) #[] #[.pointer (some ⟨s, 0, none⟩)], .int .i64 (x.i : Int), .string (bx x.x), undef, undef, undef], defers := [] }) ?assign ?body ?done ?stop
  case assign =>
    intro l x V K hK
    gi_wp2
    exact hK
  case body =>
    rintro l pre x V ⟨hS, hg⟩ hlt
    have e2 : V.cell? ⟨W.heap.size, 0, none⟩ = some (.map (some b)) := (World.cell?_of_block (a := ⟨W.heap.size, 0, none⟩) (hg.block _ (show W.heap.size < _ by omega) (by simp; omega))).trans e1
    have hx12 := HV.out.short x.x (at_mem x.at')
    obtain ⟨V', hup, hS', hg'⟩ := hS.update (by unfold maxLen; omega) x.x (by unfold maxLen; omega)
    have HS' := Lib.hid hS'
    have HG' := Lib.hid hg'
    have HGv := Lib.hid hg
    clear hS hg hS' hg' e1 u3
    gi_wp2
    have hsz' := HGv.out.size
    refine ⟨KeepsFrom.of_grownBy HG'.out (fun j e => by cases e; omega), ⟨HG'.out.block s (by omega) (by simp; omega), gb_below HG'.out (by omega) hB⟩, ?_, gb_trans HGv.out HG'.out⟩
    have h9 := HS'.out
    rw [List.length_append, List.map_append]
    exact h9
  case done =>
    rintro D ys V hD hys ⟨hS, hg⟩ hK
    have hxs : ys.map EW.x = wds t ps := by
      have h9 := pls_all HV.out
      rw [← hys, List.map_map] at h9
      exact h9
    have e2 : V.cell? ⟨W.heap.size, 0, none⟩ = some (.map (some b)) := (World.cell?_of_block (a := ⟨W.heap.size, 0, none⟩) (hg.block _ (show W.heap.size < _ by omega) (by simp; omega))).trans e1
    gi_wp2
    have gD := grownBy_putObj' V D (.deferred none)
    refine ⟨by simp, .inl ⟨_, _, rfl, run_takeDeferred hK, ?_⟩⟩
    refine ⟨.map (some b), ?_, rfl, ⟨_, by rw [← hxs]; exact hS.kept (gD.block b hS.lt (by simp; omega))⟩, gb_trans HG4.out (gb_far hg gD (fun r e => by cases e; omega))⟩
    simp [results, Try.f38, go_sem]
  case stop =>
    rintro D c' pre V _ _ h _
    exact h.elim

end Go.Proofs.Ytipkdoplgjgkpac
