/-
  The contracts of the model's draws of a number, of a text that may be a number's, and of a text to be checksummed.
-/
import Derived.Test.YtlkajncgbnkkgaaDoorDrawAny
import Derived.Test.YtlkajncgbnkkgaaDoorOwn
import Derived.Test.YtlkajncgbnkkgaaDoorNum
import Derived.Laws.BytesArg
namespace Go.Proofs.YtlkajncgbnkkgaaDoor
open Go.RowKit
set_option linter.unusedVariables false

def AmongPost (w : World) (b : Nat) (a : Option Addr) (n c p : Nat) (e : Ending) (w' : World) : Prop :=
  ∃ (x : Int) (p' : Nat), e = .returned (.int .i64 x) ∧ p' ≤ p + 2 ∧ Cur w' b a n c p' ∧ w.grownBy w' (some b)

theorem among_any (B b : Nat) (a : Option Addr) (n c p g m k : Nat) (ss : List Int) (l : List UInt8) (w : World) (hB : B ≤ b) (hC : Cur w b a n c p) (hY : Bytes B w a n c l) (hn : n ≤ 1000000) (hp : p ≤ 900000) (hm : m ≤ 65536)
    (h0 : 0 < m) (hl : ss.length = m) (hg : g ≠ b) (hc : ∀ (i : Nat) s, ss[i]? = some s → w.cell? ⟨g, i, none⟩ = some (.int .i64 s)) :
    Calls Tryd.prog 18 #[.pointer (some ⟨b, 0, none⟩), .slice (some ⟨g, 0, none⟩) m k] w (AmongPost w b a n c p) := by
  have C0 := Lib.hid hC
  have Y0 := Lib.hid hY
  have HC := Lib.hid hc
  have HL := Lib.hid hl
  clear hC hY hc hl
  go_enter Tryd.func18, Tryd.ntmps18
  go_wp2_with fail
  refine (pick_any B b a n c p m l w hB C0.out Y0.out hn hp hm).mono ?_
  rintro e w1 ⟨r, p', rfl, hr, hp', hC1, hg1⟩
  have C1 := Lib.hid hC1
  clear hC1
  have hrm : r < m := by omega
  have hlr : r < ss.length := by have := HL.out; omega
  obtain ⟨s, hs⟩ : ∃ s, ss[r]? = some s := ⟨_, List.getElem?_eq_getElem hlr⟩
  have hcell : w1.cell? ⟨g, r, none⟩ = some (.int .i64 s) := by
    have h1 := HC.out r s hs
    have hlt := World.block_lt_of_cell? w _ h1
    exact (World.cell?_of_block (a := ⟨g, r, none⟩) (hg1.block g hlt (by simpa using hg))).trans h1
  clear hs
  have hi0 : (0 : Int) ≤ (r : Int) := by omega
  have hi1 : (r : Int) < (m : Int) := by omega
  go_wp2_with fail
  go_ret
  exact ⟨s, p', rfl, hp', C1.out, hg1⟩

theorem lit_cellsI (w : World) (C : Array Value) (t : TypeId) (ss : List Int) (h : C.toList = ss.map (Value.int .i64)) : ∀ (i : Nat) s, ss[i]? = some s → (w.alloc (.cells C t)).cell? ⟨w.heap.size, i, none⟩ = some (.int .i64 s) := by
  intro i s hs
  have e : C[i]? = some (.int .i64 s) := by
    rw [← Array.getElem?_toList, h, List.getElem?_map, hs]; rfl
  have := World.cell?_alloc_mark w C t (0, 0) i
  exact this.trans e

theorem drawFmt_any (a : Option Addr) (n c : Nat) (l : List UInt8) (w : World) (hY : Bytes w.heap.size w a n c l) (hn : n ≤ 1000000) :
    Calls Tryd.prog 7 #[.slice a n c] w fun e w' => (∃ x : Int, e = .returned (.int .i64 x)) ∧ Below w.heap.size w w' := by
  have Y0 := Lib.hid hY
  clear hY
  go_enter Tryd.func7, Tryd.ntmps7
  go_wp2_with fail
  refine (pick_any w.heap.size w.heap.size a n c 0 1000 l _ (Nat.le_refl _) (cur_new w a n c _) (Y0.out.keep (bel_alloc _ _)) hn (by omega) (by omega)).mono ?_
  rintro e w1 ⟨r, p1, rfl, hr, hp1, hC1, hg1⟩
  have C1 := Lib.hid hC1
  have hlt := cur_lt hC1
  have hb1 := (bel_alloc w _).trans (bel_only hg1 (Nat.le_refl _) (by simp))
  have Y1 := Lib.hid (Y0.out.keep hb1)
  have hr2 : r < 1000 := by omega
  clear hC1
  go_wp2_with fail
  refine (among_any w.heap.size w.heap.size a n c p1 w1.heap.size 9 9 [0, 1, -1, 10, 999999, -999999, 1000000, -1000000, (r : Int) - 500] l _ (Nat.le_refl _) (C1.out.keep (bel_alloc _ _)) (Y1.out.keep ((bel_alloc _ _).mono (by omega))) hn (by omega) (by omega) (by omega) rfl (by omega) (lit_cellsI w1 _ _ [0, 1, -1, 10, 999999, -999999, 1000000, -1000000, (r : Int) - 500] rfl)).mono ?_
  rintro e w2 ⟨x, p2, rfl, hp2, hC2, hg2⟩
  have hb2 := hb1.trans (((bel_alloc w1 _).mono (by omega)).trans (bel_only hg2 (Nat.le_refl _) (by simp; omega)))
  clear hC2
  go_wp2_with fail
  go_ret
  exact ⟨⟨x, rfl⟩, hb2⟩

def parL : List ByteArray := [⟨#[]⟩, ⟨#[45]⟩, ⟨#[45, 48]⟩, ⟨#[48, 48]⟩, ⟨#[48, 49]⟩, ⟨#[45, 45, 49]⟩, ⟨#[49, 120]⟩, ⟨#[57, 57, 57, 57, 57, 57]⟩, ⟨#[49, 48, 48, 48, 48, 48, 48]⟩, ⟨#[45, 57, 57, 57, 57, 57, 57]⟩, ⟨#[49, 56, 52, 52, 54, 55, 52, 52, 48, 55, 51, 55, 48, 57, 53, 53, 49, 54, 49, 55]⟩]
theorem parL_size : ∀ s ∈ parL, s.size ≤ 20 := by decide

theorem drawPar_any (a : Option Addr) (n c : Nat) (l : List UInt8) (w : World) (hY : Bytes w.heap.size w a n c l) (hn : n ≤ 1000000) :
    Calls Tryd.prog 10 #[.slice a n c] w fun e w' => (∃ s : ByteArray, e = .returned (.string s) ∧ s.size ≤ 5000) ∧ Below w.heap.size w w' := by
  have Y0 := Lib.hid hY
  clear hY
  go_enter Tryd.func10, Tryd.ntmps10
  go_wp2_with fail
  refine (one_any w.heap.size w.heap.size a n c 0 2 l _ (Nat.le_refl _) (cur_new w a n c _) (Y0.out.keep (bel_alloc _ _)) hn (by omega) (by omega)).mono ?_
  rintro e w1 ⟨t, p1, rfl, hp1, hC1, hg1⟩
  have C1 := Lib.hid hC1
  have hlt := cur_lt hC1
  have hb1 := (bel_alloc w _).trans (bel_only hg1 (Nat.le_refl _) (by simp))
  have Y1 := Lib.hid (Y0.out.keep hb1)
  clear hC1
  cases t
  · go_wp2_with fail
    refine (pick_any w.heap.size w.heap.size a n c p1 2000 l _ (Nat.le_refl _) C1.out Y1.out hn (by omega) (by omega)).mono ?_
    rintro e w2 ⟨r, p2, rfl, hr, hp2, hC2, hg2⟩
    have hr2 : r < 2000 := by omega
    have hb2 := hb1.trans (bel_only hg2 (Nat.le_refl _) hlt)
    clear hC2
    obtain ⟨N, hN⟩ : ∃ N, numI ((r : Int) - 1000) = N := ⟨_, rfl⟩
    have cN := Lib.hid (num_any ((r : Int) - 1000) w2 (by omega) (by omega))
    have hNs : N.size ≤ 5000 := by
      have := numI_le ((r : Int) - 1000)
      rw [hN] at this
      omega
    rw [hN] at cN
    clear hN
    go_wp2_with fail
    refine cN.out.mono ?_
    rintro e w3 ⟨rfl, q, rfl⟩
    go_wp2_with fail
    go_ret
    exact ⟨⟨N, rfl, hNs⟩, below_drewN hb2 q⟩
  · go_wp2_with fail
    refine (of_any w.heap.size w.heap.size a n c p1 w1.heap.size 11 11 parL l _ (Nat.le_refl _) (C1.out.keep (bel_alloc _ _)) (Y1.out.keep ((bel_alloc _ _).mono (by omega))) hn (by omega) (by omega) (by omega) rfl (by omega) (lit_cells w1 _ _ parL rfl)).mono ?_
    rintro e w2 ⟨s, p2, rfl, hs, hp2, hC2, hg2⟩
    have HT := Lib.hid (parL_size s hs)
    have hb2 := hb1.trans (((bel_alloc w1 _).mono (by omega)).trans (bel_only hg2 (Nat.le_refl _) (by simp; omega)))
    clear hs hC2
    go_wp2_with fail
    go_ret
    exact ⟨⟨s, rfl, by have := HT.out; omega⟩, hb2⟩

theorem infoB : (Tryd.prog.info? 5).map (fun i => (i.zero, i.size, i.bytes)) = some (some (.int .u8 0), 1, 1) := by kernel_rfl

theorem conv_zeros {base g m : Nat} {w : World} (h : w.ownsRow base 5 1 (.slice (some ⟨g, 0, none⟩) m m) m (madeCells (Value.int .u8 0).cells (m * 1)).toList) :
    (convert 22 9 (.slice (some ⟨g, 0, none⟩) m m)).run Tryd.prog w = .ok (.string (strOfNums (List.replicate m 0))) w := by
  refine run_convert_bytes_arg _ 22 5 Tryd.underlying22 Tryd.underlying5 g 0 m m (List.replicate m 0) (by simp) (fun i hi => ?_) 9 Tryd.underlying9
  have h2 := h.cellAt i (by omega)
  have e := toList_madeCells_one (.int .u8 0) m
  rw [Nat.mul_one] at h2
  rw [Nat.zero_add, h2]
  have e2 : (madeCells (Value.int .u8 0).cells m).toList = List.replicate m (.int .u8 0) := e
  rw [e2]
  simp [hi]

theorem drawApp_any (a : Option Addr) (n c : Nat) (l : List UInt8) (w : World) (hY : Bytes w.heap.size w a n c l) (hn : n ≤ 1000000) :
    Calls Tryd.prog 13 #[.slice a n c] w fun e w' => (∃ s : ByteArray, e = .returned (.string s) ∧ s.size ≤ 5000) ∧ Below w.heap.size w w' := by
  have Y0 := Lib.hid hY
  clear hY
  go_enter Tryd.func13, Tryd.ntmps13
  go_wp2_with fail
  refine (one_any w.heap.size w.heap.size a n c 0 20 l _ (Nat.le_refl _) (cur_new w a n c _) (Y0.out.keep (bel_alloc _ _)) hn (by omega) (by omega)).mono ?_
  rintro e w1 ⟨t, p1, rfl, hp1, hC1, hg1⟩
  have C1 := Lib.hid hC1
  have hlt := cur_lt hC1
  have hb1 := (bel_alloc w _).trans (bel_only hg1 (Nat.le_refl _) (by simp))
  have Y1 := Lib.hid (Y0.out.keep hb1)
  clear hC1
  cases t
  · go_wp2_with fail
    refine (any1_any w.heap.size w.heap.size a n c p1 l _ (Nat.le_refl _) C1.out Y1.out hn (by omega)).mono ?_
    rintro e w2 ⟨s, p2, rfl, hs, hp2, hC2, hg2⟩
    have hb2 := hb1.trans (bel_only hg2 (Nat.le_refl _) hlt)
    clear hC2
    go_wp2_with fail
    go_ret
    exact ⟨⟨s, rfl, by omega⟩, hb2⟩
  · go_wp2_with fail
    refine (pick_any w.heap.size w.heap.size a n c p1 10 l _ (Nat.le_refl _) C1.out Y1.out hn (by omega) (by omega)).mono ?_
    rintro e w3 ⟨r3, p4, rfl, hr3, hp4, hC3, hg3⟩
    have hr20 : r3 < 10 := by omega
    have hb3 := hb1.trans (bel_only hg3 (Nat.le_refl _) hlt)
    clear hC3
    obtain ⟨m, hm⟩ : ∃ m, m = 3990 + r3 := ⟨_, rfl⟩
    obtain ⟨bi, hbi, hbz0, hbz1, hbz2⟩ := info_parts infoB
    have hml : m ≤ 4010 := by omega
    have hme : (3990 : Int) + (r3 : Int) = (m : Int) := by omega
    have HME := Lib.hid hme
    clear hme hm
    obtain ⟨S, hS⟩ : ∃ S, strOfNums (List.replicate m 0) = S := ⟨_, rfl⟩
    have hSs : S.size ≤ 5000 := by rw [← hS, strOfNums_size]; simp; omega
    have HSS := Lib.hid hS
    clear hS
    go_wp2_with (at_make; refine wpList_make_full _ rfl _ _ 22 rfl w3.heap.size 5 bi (.int .u8 0) 1 Tryd.underlying22 hbi hbz0 hbz1 .i64 .i64 _ _ m rfl rfl HME.out HME.out (by rw [hbz2]; omega) (by unfold maxLen; omega) (Nat.le_refl _) ?_; intro w4 hownB hgrowB; have cv := conv_zeros hownB; rw [HSS.out] at cv; have HB4 := Lib.hid (hb3.grown hgrowB hb3.size (fun k e => by cases e)); clear hownB hgrowB)
    go_ret
    exact ⟨⟨S, rfl, hSs⟩, HB4.out⟩

end Go.Proofs.YtlkajncgbnkkgaaDoor
