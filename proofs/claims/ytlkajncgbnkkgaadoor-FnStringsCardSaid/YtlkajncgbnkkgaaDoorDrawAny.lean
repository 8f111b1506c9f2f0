/-
  The contract of the model's draw of a text, and what a new cursor and a list of texts written out are.
-/
import Derived.Test.YtlkajncgbnkkgaaDoorCur
namespace Go.Proofs.YtlkajncgbnkkgaaDoor
open Go.RowKit
set_option linter.unusedVariables false

theorem Cur.keep {w w' : World} {b : Nat} {a : Option Addr} {n c p : Nat} (h : Cur w b a n c p) (hb : Below w.heap.size w w') : Cur w' b a n c p := by
  have hl := cur_lt h
  obtain ⟨h0, h1, ⟨sd, h2⟩, f1, f2⟩ := h
  exact ⟨(hb.cell (p := ⟨b, 0, none⟩) hl).trans h0, (hb.cell (p := ⟨b, 1, none⟩) hl).trans h1, ⟨sd, (hb.cell (p := ⟨b, 2, none⟩) hl).trans h2⟩, (hb.frozen (p := ⟨b, 1, none⟩) hl).trans f1, (hb.frozen (p := ⟨b, 2, none⟩) hl).trans f2⟩

theorem cur_new (w : World) (a : Option Addr) (n c : Nat) (t : TypeId) : Cur (w.alloc (.cells #[.slice a n c, .int .i64 0, .int .u64 0] t)) w.heap.size a n c 0 := by
  refine ⟨?_, ?_, ⟨0, ?_⟩, ?_, ?_⟩ <;> go_simp

theorem bel_alloc (w : World) (o : Obj) : Below w.heap.size w (w.alloc o) := (Below.refl _ _).alloc (Nat.le_refl _) _

theorem lit_cells (w : World) (C : Array Value) (t : TypeId) (ss : List ByteArray) (h : C.toList = ss.map Value.string) : ∀ (i : Nat) s, ss[i]? = some s → (w.alloc (.cells C t)).cell? ⟨w.heap.size, i, none⟩ = some (.string s) := by
  intro i s hs
  have e : C[i]? = some (.string s) := by
    rw [← Array.getElem?_toList, h, List.getElem?_map, hs]; rfl
  have := World.cell?_alloc_mark w C t (0, 0) i
  exact this.trans e

def any1L : List ByteArray := [⟨#[]⟩, ⟨#[97]⟩, ⟨#[97, 44, 98]⟩, ⟨#[115, 111, 109, 101, 32, 119, 111, 114, 100, 115]⟩, ⟨#[120, 35, 121]⟩, ⟨#[45, 49, 50]⟩, ⟨#[0, 255]⟩, ⟨#[44, 44]⟩, ⟨#[48]⟩]
theorem any1L_size : ∀ s ∈ any1L, s.size ≤ 20 := by decide

def AnyPost (w : World) (b : Nat) (a : Option Addr) (n c p : Nat) (e : Ending) (w' : World) : Prop :=
  ∃ (s : ByteArray) (p' : Nat), e = .returned (.string s) ∧ s.size ≤ 20 ∧ p' ≤ p + 2 ∧ Cur w' b a n c p' ∧ w.grownBy w' (some b)

theorem any1_any (B b : Nat) (a : Option Addr) (n c p : Nat) (l : List UInt8) (w : World) (hB : B ≤ b) (hC : Cur w b a n c p) (hY : Bytes B w a n c l) (hn : n ≤ 1000000) (hp : p ≤ 900000) :
    Calls Tryd.prog 27 #[.pointer (some ⟨b, 0, none⟩)] w (AnyPost w b a n c p) := by
  have C0 := Lib.hid hC
  have Y0 := Lib.hid hY
  have hlt := cur_lt hC
  clear hC hY
  go_enter Tryd.func27, Tryd.ntmps27
  go_wp2_with fail
  refine (of_any B b a n c p w.heap.size 9 9 any1L l _ hB (C0.out.keep (bel_alloc _ _)) (Y0.out.keep ((bel_alloc _ _).mono (by omega))) hn hp (by omega) (by omega) rfl (by omega) (lit_cells w _ _ any1L rfl)).mono ?_
  rintro e w1 ⟨s, p', rfl, hs, hp', hC1, hg1⟩
  have C1 := Lib.hid hC1
  have HS := Lib.hid (any1L_size s hs)
  have HG := Lib.hid ((World.grownBy_alloc w _ (some b)).trans hg1)
  clear hC1 hs hg1
  go_wp2_with fail
  go_ret
  exact ⟨s, p', rfl, HS.out, hp', C1.out, HG.out⟩

end Go.Proofs.YtlkajncgbnkkgaaDoor
