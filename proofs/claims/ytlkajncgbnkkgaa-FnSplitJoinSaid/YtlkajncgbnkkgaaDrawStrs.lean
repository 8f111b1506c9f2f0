/-
  The contracts of the model's draws for splitting, joining and comparing: what they give is small.
-/
import Derived.Test.YtlkajncgbnkkgaaDrawAny
import Derived.Test.YtlkajncgbnkkgaaStrsWalks
import Derived.Laws.BytesArg
namespace Go.Proofs.Ytlkajncgbnkkgaa
open Go.RowKit
set_option linter.unusedVariables false

/-- two small texts -/
def TwoPost (w : World) (e : Ending) (w' : World) : Prop :=
  ∃ s t : ByteArray, e = .returned (.tuple #[.string s, .string t]) ∧ s.size ≤ 20 ∧ t.size ≤ 20 ∧ Below w.heap.size w w'

def sepL : List ByteArray := [⟨#[44]⟩, ⟨#[44]⟩, ⟨#[32]⟩, ⟨#[]⟩, ⟨#[44, 44]⟩]
theorem sepL_size : ∀ s ∈ sepL, s.size ≤ 20 := by decide
def markL : List ByteArray := [⟨#[44]⟩, ⟨#[59]⟩, ⟨#[59]⟩, ⟨#[]⟩, ⟨#[97, 98]⟩]
theorem markL_size : ∀ s ∈ markL, s.size ≤ 20 := by decide

theorem drawSplit_any (a : Option Addr) (n c : Nat) (l : List UInt8) (w : World) (hY : Bytes w.heap.size w a n c l) (hn : n ≤ 1000000) :
    Calls Try.prog 7 #[.slice a n c] w (TwoPost w) := by
  have Y0 := Lib.hid hY
  clear hY
  go_enter Try.func7, Try.ntmps7
  go_wp2_with fail
  refine (any1_any w.heap.size w.heap.size a n c 0 l _ (Nat.le_refl _) (cur_new w a n c _) (Y0.out.keep (bel_alloc _ _)) hn (by omega)).mono ?_
  rintro e w1 ⟨s, p1, rfl, hs, hp1, hC1, hg1⟩
  have C1 := Lib.hid hC1
  have hlt := cur_lt hC1
  have hb1 := (bel_alloc w _).trans (bel_only hg1 (Nat.le_refl _) (by simp))
  have Y1 := Lib.hid (Y0.out.keep hb1)
  clear hC1
  go_wp2_with fail
  refine (of_any w.heap.size w.heap.size a n c p1 w1.heap.size 5 5 sepL l _ (Nat.le_refl _) (C1.out.keep (bel_alloc _ _)) (Y1.out.keep ((bel_alloc _ _).mono (by omega))) hn (by omega) (by omega) (by omega) rfl (by omega) (lit_cells w1 _ _ sepL rfl)).mono ?_
  rintro e w2 ⟨t, p2, rfl, ht, hp2, hC2, hg2⟩
  have HT := Lib.hid (sepL_size t ht)
  have hb2 := hb1.trans (((bel_alloc w1 _).mono (by omega)).trans (bel_only hg2 (Nat.le_refl _) (by simp; omega)))
  clear ht hC2
  go_wp2_with fail
  go_ret2
  exact ⟨s, t, rfl, hs, HT.out, hb2⟩

theorem drawLess_any (a : Option Addr) (n c : Nat) (l : List UInt8) (w : World) (hY : Bytes w.heap.size w a n c l) (hn : n ≤ 1000000) :
    Calls Try.prog 12 #[.slice a n c] w (TwoPost w) := by
  have Y0 := Lib.hid hY
  clear hY
  go_enter Try.func12, Try.ntmps12
  go_wp2_with fail
  refine (any1_any w.heap.size w.heap.size a n c 0 l _ (Nat.le_refl _) (cur_new w a n c _) (Y0.out.keep (bel_alloc _ _)) hn (by omega)).mono ?_
  rintro e w1 ⟨s, p1, rfl, hs, hp1, hC1, hg1⟩
  have C1 := Lib.hid hC1
  have hlt := cur_lt hC1
  have hb1 := (bel_alloc w _).trans (bel_only hg1 (Nat.le_refl _) (by simp))
  have Y1 := Lib.hid (Y0.out.keep hb1)
  clear hC1
  go_wp2_with fail
  refine (any1_any w.heap.size w.heap.size a n c p1 l _ (Nat.le_refl _) C1.out Y1.out hn (by omega)).mono ?_
  rintro e w2 ⟨t, p2, rfl, ht, hp2, hC2, hg2⟩
  have hb2 := hb1.trans (bel_only hg2 (Nat.le_refl _) hlt)
  clear hC2
  go_wp2_with fail
  go_ret2
  exact ⟨s, t, rfl, hs, ht, hb2⟩

theorem cur_far {w w' : World} {b g : Nat} {a : Option Addr} {n c p : Nat} (h : Cur w b a n c p) (hg : w.grownBy w' (some g)) (hne : b ≠ g) : Cur w' b a n c p := by
  have hl := cur_lt h
  have hb : w'.heap[b]? = w.heap[b]? := hg.block b hl (by simpa using hne)
  obtain ⟨h0, h1, ⟨sd, h2⟩, f1, f2⟩ := h
  exact ⟨(World.cell?_of_block (a := ⟨b, 0, none⟩) hb).trans h0, (World.cell?_of_block (a := ⟨b, 1, none⟩) hb).trans h1, ⟨sd, (World.cell?_of_block (a := ⟨b, 2, none⟩) hb).trans h2⟩,
    (World.frozen?_of_block (a := ⟨b, 1, none⟩) hb).trans f1, (World.frozen?_of_block (a := ⟨b, 2, none⟩) hb).trans f2⟩

theorem own_mono {base base' : Nat} {w : World} {e : TypeId} {size g n c : Nat} {xs : List Value} (h : w.ownsRow base e size (.slice (some ⟨g, 0, none⟩) n c) n xs) (hb : base' ≤ base) : w.ownsRow base' e size (.slice (some ⟨g, 0, none⟩) n c) n xs := by
  refine ⟨h.1, ?_⟩
  rcases h.2 with h' | ⟨g', cap', cur, h', hbg, rest⟩
  · exact .inl h'
  · exact .inr ⟨g', cap', cur, h', by omega, rest⟩

theorem infoB : (Try.prog.info? 5).map (fun i => (i.zero, i.size, i.bytes)) = some (some (.int .u8 0), 1, 1) := by kernel_rfl

theorem conv_zeros {base g m : Nat} {w : World} (h : w.ownsRow base 5 1 (.slice (some ⟨g, 0, none⟩) m m) m (madeCells (Value.int .u8 0).cells (m * 1)).toList) :
    (convert 22 9 (.slice (some ⟨g, 0, none⟩) m m)).run Try.prog w = .ok (.string (strOfNums (List.replicate m 0))) w := by
  refine run_convert_bytes_arg _ 22 5 Try.underlying22 Try.underlying5 g 0 m m (List.replicate m 0) (by simp) (fun i hi => ?_) 9 Try.underlying9
  have h2 := h.cellAt i (by omega)
  have e := toList_madeCells_one (.int .u8 0) m
  rw [Nat.mul_one] at h2
  rw [Nat.zero_add, h2]
  have e2 : (madeCells (Value.int .u8 0).cells m).toList = List.replicate m (.int .u8 0) := e
  rw [e2]
  simp [hi]

/-- some small texts and a small text -/
def ListPost (w : World) (e : Ending) (w' : World) : Prop :=
  ∃ (g cap : Nat) (P : List ByteArray) (t : ByteArray), e = .returned (.tuple #[.slice (some ⟨g, 0, none⟩) P.length cap, .string t]) ∧ P.length ≤ 10 ∧ (∀ s ∈ P, s.size ≤ 5000) ∧ t.size ≤ 20 ∧
    w'.ownsRow w.heap.size 9 1 (.slice (some ⟨g, 0, none⟩) P.length cap) P.length (P.map Value.string) ∧ Below w.heap.size w w'

set_option maxHeartbeats 1000000 in
theorem drawJoin_any (a : Option Addr) (n c : Nat) (l : List UInt8) (w : World) (hY : Bytes w.heap.size w a n c l) (hn : n ≤ 1000000) :
    Calls Try.prog 9 #[.slice a n c] w (ListPost w) := by
  obtain ⟨i0, hi, hz0, hz1, hz2⟩ := info_parts infoS
  have Y0 := Lib.hid hY
  clear hY
  go_enter Try.func9, Try.ntmps9
  go_wp2_with fail
  have C00 := cur_new w a n c 41
  refine (pick_any w.heap.size w.heap.size a n c 0 4 l _ (Nat.le_refl _) (C00.keep (bel_alloc _ _)) ((Y0.out.keep (bel_alloc _ _)).keep ((bel_alloc _ _).mono (by simp))) hn (by omega) (by omega)).mono ?_
  rintro e w1 ⟨r, p1, rfl, hr, hp1, hC1, hg1⟩
  have hr4 : r < 4 := by omega
  have hown0 := World.ownsRow_lit (base := w.heap.size + 1) (e := 9) (size := 1) (w.alloc (.cells #[.slice a n c, .int .i64 0, .int .u64 0] 41)) #[] 0 (by simp) (by unfold maxLen; omega) rfl
  rw [World.size_alloc] at hown0
  have hown1 := Lib.hid (hown0.kept hg1 (.inr (by simp [Value.ownBlock])))
  have hb1 := ((bel_alloc w (.cells #[.slice a n c, .int .i64 0, .int .u64 0] 41)).trans ((bel_alloc _ (.cells #[] 9)).mono (by simp))).trans (bel_only hg1 (Nat.le_refl _) (by simp; omega))
  have C1 := Lib.hid hC1
  clear hown0 hC1 hg1 C00
  go_wp2_with fail
  go_loopw [5, 7] (fun v i wr => ∃ (j g cap p : Nat) (P : List ByteArray), j ≤ r ∧ i = .int .i64 j ∧ P.length = j ∧ v = .slice (some ⟨g, 0, none⟩) j cap ∧ p ≤ 2 * j + 2 ∧ Hid (∀ s ∈ P, s.size ≤ 5000) ∧
      Hid (wr.ownsRow (w.heap.size + 1) 9 1 (.slice (some ⟨g, 0, none⟩) j cap) j (P.map Value.string)) ∧ Hid (Cur wr w.heap.size a n c p) ∧ Below w.heap.size w wr) (fun _ i _ => r - (intOf i).toNat)
  case atStart => exact ⟨0, w.heap.size + 1, 0, p1, [], Nat.zero_le _, rfl, rfl, rfl, by omega, Lib.hid (fun s hs => by simp at hs), hown1, C1, hb1⟩
  case round =>
    clear hown1 hb1 C1
    obtain ⟨j, g, cap, p, P, hj, rfl, hPl, rfl, hp, HP, HO, HC, hb⟩ := hrel
    have hlt := cur_lt HC.out
    by_cases hjr : j < r
    · go_wp2_with fail
      refine (any1_any w.heap.size w.heap.size a n c p l _ (Nat.le_refl _) HC.out (Y0.out.keep hb) hn (by omega)).mono ?_
      rintro e w2 ⟨s, p2, rfl, hs, hp2, hC2, hg2⟩
      have C2 := Lib.hid hC2
      have hO2 := HO.out.kept hg2 (.inr (by have := own_base HO.out; simp [Value.ownBlock]; omega))
      have hb2 := hb.trans (bel_only hg2 (Nat.le_refl _) hlt)
      have hz := hg2.size
      have HP2 : Hid (∀ t ∈ P ++ [s], t.size ≤ 5000) := Lib.hid (fun t ht => by
        rcases List.mem_append.1 ht with h | h
        · exact HP.out t h
        · simp at h; subst h; omega)
      clear hC2
      go_wp2_with (at_builtin; refine wpList_append_own _ rfl _ _ 26 rfl (w.heap.size + 1) 9 i0 (.string ByteArray.empty) 1 16 Try.underlying26 hi hz0 hz1 hz2 rfl (by decide) _ _ _ rfl (hO2.alloc _) ⟨w2.heap.size, 0, none⟩ 1 1 [.string s] rfl rfl (cell_one_new _ _ _) (by simp [Value.oneCell']) (by unfold maxLen; omega) (by omega) (by simp; omega) ?_; intro v' w3 hown' hgrow _; obtain ⟨g', cap', rfl⟩ := own_succ hown')
      have hgr : (w2.alloc (.cells #[.string s] 9)).grownBy w3 (some g) := hgrow
      have HO3 := Lib.hid hown'
      have hgb := own_base HO.out
      have C3 := Lib.hid (cur_far ((C2.out).keep (bel_alloc _ (.cells #[.string s] 9))) hgr (by omega))
      have hb3 := (hb2.trans ((bel_alloc w2 (.cells #[.string s] 9)).mono (by omega))).trans (bel_only hgr (by omega) (by have := own_lt hO2; simp; omega))
      clear hown' hgrow hO2
      go_roundw
      case rel => exact ⟨j + 1, g', cap', p2, P ++ [s], by omega, by go_num, by simp; omega, rfl, by omega, HP2, Lib.hid (by have := HO3.out; simpa using this), C3, hb3⟩
      case measure => simp [intOf]; omega
    · have e : j = r := by omega
      subst e
      clear hjr hj
      go_wp2_with fail
      refine (one_any w.heap.size w.heap.size a n c p 20 l _ (Nat.le_refl _) HC.out (Y0.out.keep hb) hn (by omega) (by omega)).mono ?_
      rintro e w2 ⟨t, p2, rfl, hp2, hC2, hg2⟩
      have C2 := Lib.hid hC2
      have HO2 := Lib.hid (HO.out.kept hg2 (.inr (by have := own_base HO.out; simp [Value.ownBlock]; omega)))
      have hb2 := hb.trans (bel_only hg2 (Nat.le_refl _) hlt)
      clear hC2 HO HC
      cases t
      · go_wp2_with fail
        refine (of_any w.heap.size w.heap.size a n c p2 w2.heap.size 5 5 markL l _ (Nat.le_refl _) (C2.out.keep (bel_alloc _ _)) ((Y0.out.keep hb2).keep ((bel_alloc _ _).mono (by have := hb2.size; omega))) hn (by omega) (by omega) (by omega) rfl (by have := cur_lt C2.out; omega) (lit_cells w2 _ _ markL rfl)).mono ?_
        rintro e w8 ⟨t8, p8, rfl, ht8, hp8, hC8, hg8⟩
        have HT := Lib.hid (markL_size t8 ht8)
        have hb8 := hb2.trans (((bel_alloc w2 _).mono hb2.size).trans (bel_only hg8 (Nat.le_refl _) (by have := cur_lt C2.out; simp; omega)))
        have HO8 := Lib.hid (((own_keep HO2.out (bel_alloc _ _))).kept hg8 (.inr (by have := own_base HO2.out; simp [Value.ownBlock]; omega)))
        clear ht8 hC8
        go_wp2_with fail
        go_ret2
        subst hPl
        exact ⟨g, cap, P, t8, rfl, by omega, HP.out, HT.out, own_mono HO8.out (by omega), hb8⟩
      · go_wp2_with fail
        refine (pick_any w.heap.size w.heap.size a n c p2 20 l _ (Nat.le_refl _) C2.out (Y0.out.keep hb2) hn (by omega) (by omega)).mono ?_
        rintro e w3 ⟨r3, p4, rfl, hr3, hp4, hC3, hg3⟩
        have hr20 : r3 < 20 := by omega
        have C3 := Lib.hid hC3
        have HO3 := Lib.hid (HO2.out.kept hg3 (.inr (by have := own_base HO2.out; simp [Value.ownBlock]; omega)))
        have hb3 := hb2.trans (bel_only hg3 (Nat.le_refl _) (cur_lt C2.out))
        clear hC3 HO2 C2 hb2
        obtain ⟨m, hm⟩ : ∃ m, m = 3990 + r3 := ⟨_, rfl⟩
        obtain ⟨bi, hbi, hbz0, hbz1, hbz2⟩ := info_parts infoB
        have hml : m ≤ 4010 := by omega
        have hme : (3990 : Int) + (r3 : Int) = (m : Int) := by omega
        have HME := Lib.hid hme
        clear hme hm
        obtain ⟨S, hS⟩ : ∃ S, strOfNums (List.replicate m 0) = S := ⟨_, rfl⟩
        have hSs : S.size ≤ 5000 := by rw [← hS, strOfNums_size]; simp; omega
        have HSS := Lib.hid hS
        clear hS
        have hlt3 := cur_lt C3.out
        go_wp2_with (first | (at_make; refine wpList_make_full _ rfl _ _ 22 rfl w3.heap.size 5 bi (.int .u8 0) 1 Try.underlying22 hbi hbz0 hbz1 .i64 .i64 _ _ m rfl rfl HME.out HME.out (by rw [hbz2]; omega) (by unfold maxLen; omega) (Nat.le_refl _) ?_; intro w4 hownB hgrowB; have cv := conv_zeros hownB; rw [HSS.out] at cv; have HB4 := Lib.hid (hb3.grown hgrowB hb3.size (fun k e => by cases e)); have HG4 := Lib.hid hgrowB; have HO4 := Lib.hid (HO3.out.kept hgrowB (.inr (by simp [Value.ownBlock]))); have hz4 := hgrowB.size; clear hownB hgrowB; have hO4 := HO4.out) | (at_builtin; refine wpList_append_own _ rfl _ _ 26 rfl (w.heap.size + 1) 9 i0 (.string ByteArray.empty) 1 16 Try.underlying26 hi hz0 hz1 hz2 rfl (by decide) _ _ _ rfl (hO4.alloc _) ⟨w4.heap.size, 0, none⟩ 1 1 [.string S] rfl rfl (cell_one_new _ _ _) (by simp [Value.oneCell']) (by unfold maxLen; omega) (by omega) (by simp; omega) ?_; intro v' w6 hown' hgrow _; obtain ⟨g', cap', rfl⟩ := own_succ hown'))
        have hgr : (w4.alloc (.cells #[.string S] 9)).grownBy w6 (some g) := hgrow
        have hgb := own_base HO3.out
        have HO6 := Lib.hid hown'
        have C4 := Lib.hid (C3.out.keep (((Below.refl _ _).grown HG4.out (Nat.le_refl _) (fun k e => by cases e))))
        have C6 := Lib.hid (cur_far ((C4.out).keep (bel_alloc _ (.cells #[.string S] 9))) hgr (by omega))
        have hb6 := (HB4.out.trans ((bel_alloc w4 (.cells #[.string S] 9)).mono (by omega))).trans (bel_only hgr (by omega) (by have := own_lt hO4; simp; omega))
        have HP6 : Hid (∀ t ∈ P ++ [S], t.size ≤ 5000) := Lib.hid (fun t ht => by
          rcases List.mem_append.1 ht with h | h
          · exact HP.out t h
          · simp at h; subst h; omega)
        clear hown' hgrow hO4
        go_wp2_with fail
        refine (of_any w.heap.size w.heap.size a n c p4 w6.heap.size 5 5 markL l _ (Nat.le_refl _) (C6.out.keep (bel_alloc _ _)) ((Y0.out.keep hb6).keep ((bel_alloc _ _).mono (by have := hb6.size; omega))) hn (by omega) (by omega) (by omega) rfl (by have := cur_lt C6.out; omega) (lit_cells w6 _ _ markL rfl)).mono ?_
        rintro e w8 ⟨t8, p8, rfl, ht8, hp8, hC8, hg8⟩
        have HT := Lib.hid (markL_size t8 ht8)
        have hb8 := hb6.trans (((bel_alloc w6 _).mono hb6.size).trans (bel_only hg8 (Nat.le_refl _) (by have := cur_lt C6.out; simp; omega)))
        have HO8 := Lib.hid (((own_keep HO6.out (bel_alloc _ _))).kept hg8 (.inr (by have := own_base HO6.out; simp [Value.ownBlock]; omega)))
        clear ht8 hC8
        go_wp2_with fail
        go_ret2
        have hl6 : (P ++ [S]).length = j + 1 := by simp; omega
        refine ⟨g', cap', P ++ [S], t8, by rw [hl6]; rfl, by omega, HP6.out, HT.out, ?_, hb8⟩
        rw [hl6]
        exact own_mono (by have := HO8.out; simpa using this) (by omega)

end Go.Proofs.Ytlkajncgbnkkgaa
