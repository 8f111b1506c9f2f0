/-
  The numbers of what is left of a passage from each of its places on: the program's list, told by splitsOfRests$1.
-/
import Derived.Test.YtknoafkgeaibpabTellSplits
import Derived.Test.YtknoafkgeaibpabMatchesOf
import Derived.OneCell
import Derived.Deep.LoopGhost
import Derived.IntWalk
import Derived.Deep.RegionHeld3
namespace Go.Proofs.Ytknoafkgeaibpab
open Go.RowKit
set_option linter.unusedVariables false

theorem made_zeroSplits {w : World} {base n : Nat} {v : Value} (h : w.ownsRow base 3 1 v n (madeCells (Value.int .i64 0).cells (n * 1)).toList) : w.ownsRow base 3 1 v n (List.replicate n (.int .i64 0)) := by
  have e9 : (madeCells (Value.int .i64 0).cells (n * 1)).toList = List.replicate n (.int .i64 0) := by rw [Nat.mul_one]; exact toList_madeCells_one _ _
  rwa [e9] at h

theorem set_farSplits {w : World} {g j b : Nat} {u v : Value} (h : w.cell? ⟨b, 0, none⟩ = some v) (hne : b ≠ g) : (w.setCell ⟨g, j, none⟩ u).cell? ⟨b, 0, none⟩ = some v := by
  have : (w.setCell ⟨g, j, none⟩ u).heap[b]? = w.heap[b]? := heap_setCell_other w ⟨g, j, none⟩ b u hne
  unfold World.cell? at h ⊢
  simp only [this]
  exact h

theorem rep_atSplits {n j : Nat} {v : Value} (h : j < n) : (List.replicate n v)[j]? = some v := by rw [List.getElem?_replicate, if_pos h]

set_option maxRecDepth 1000000 in
set_option maxHeartbeats 4000000 in
theorem restsSplits_any (B : Nat) (a : Option Addr) (n c : Nat) (t : List Nd) (ps : List Txt) (s : ByteArray) (e : Int) (w : World) (hB : B ≤ w.heap.size) (h : Nds B w a n c t) (hv : Valid t ps) (hs : Low (tx s)) (hs60 : s.size ≤ 60) :
    Calls Try.prog 56 #[.agg #[.slice a n c], .string s, .int .i64 e, .func (.func 76) #[] #[]] w fun en w' => ∃ g, en = .returned (.slice (some ⟨g, 0, none⟩) (s.size + 1) (s.size + 1)) ∧ w'.ownsRow w.heap.size 3 1 (.slice (some ⟨g, 0, none⟩) (s.size + 1) (s.size + 1)) (s.size + 1) ((telv sumT (wds t ps) e (tx s)).map (Value.int .i64)) ∧ Below w.heap.size w w' := by
  have hn : n ≤ 481 := by have := hv.size; have := h.len; omega
  have G1 := Lib.hid (Gv.start (h.mono hB))
  have hbx := G1.out.box
  have HV := Lib.hid hv
  have HLow := Lib.hid hs
  have HAsc := Lib.hid hv.wordsAsc
  have cM : Hid (∀ (r : ByteArray) (W' : World), Gv w W' a n c t → Low (tx r) → r.size ≤ 100 → _) := Lib.hid (fun r W' (G : Gv w W' a n c t) h1 h2 => matchesOf_any w.heap.size a n c t ps r W' G.bel.size G.nds hv h1 h2)
  clear h hB hv hs
  obtain ⟨ws, hws⟩ : ∃ ws, wds t ps = ws := ⟨_, rfl⟩
  rw [hws] at cM HAsc ⊢
  clear hws
  obtain ⟨i0, hii, hz0, hz1, hz2⟩ := info_parts infoI
  have hmf : ∀ (fn : Fn) (first cap : Array Value) (w : World), (Instr.makeFunc fn first cap).run Try.prog w = .ok (.func fn first cap) w := fun _ _ _ _ => rfl
  obtain ⟨nn, hnn⟩ : ∃ nn, s.size + 1 = nn := ⟨_, rfl⟩
  have hsn : ((s.size : Nat) : Int) + 1 = (nn : Int) := by omega
  have HSN := Lib.hid hsn
  have HNN := Lib.hid hnn
  rw [hnn]
  clear hsn
  go_enter Try.func56, Try.ntmps56
  go_wp2_with (first
    | (at_make; refine wpList_make_full _ rfl _ _ 44 rfl (w.heap.size + 1) 3 i0 (.int .i64 0) 1 Try.underlying44 hii hz0 hz1 .i64 .i64 _ _ nn rfl rfl HSN.out HSN.out (by rw [hz2]; omega) (by unfold maxLen; omega) (by simp) ?_; intro w1 hown hgrow; have hown1 : w1.ownsRow (w.heap.size + 1) 3 1 (.slice (some ⟨w.heap.size + 1, 0, none⟩) nn nn) nn (List.replicate nn (.int .i64 0)) := (by have h9 := made_zeroSplits hown; rw [World.size_alloc] at h9; exact h9); have HO1 := Lib.hid hown1; have G2 : Hid (Gv w w1 a n c t) := Lib.hid (G1.out.on2 ((Below.refl _ _).grown hgrow (by simp) (fun k e => by cases e))); have hs1 : w.heap.size + 1 < w1.heap.size := own_lt hown1; have hfz := hown1.frozenAt s.size; have hcz := (hown1.cellAt s.size (by omega)).trans (rep_atSplits (by omega)); clear hown hown1 hgrow))
  have htr : List.replicate nn (Value.int .i64 0) = trow nn [] := by simp [trow]
  have hst := (HO1.out.stored s.size (.int .i64 e))
  rw [htr, ← hnn, trow_set, hnn] at hst
  have HO2 := Lib.hid hst.1
  have HG2 := Lib.hid hst.2
  clear hst htr hfz hcz
  obtain ⟨W2, hW2⟩ : ∃ W2, w1.setCell ⟨w.heap.size + 1, s.size, none⟩ (.int .i64 e) = W2 := ⟨_, rfl⟩
  rw [hW2] at HO2 HG2 ⊢
  have HZ : Hid (W2.heap.size = w1.heap.size) := Lib.hid (by rw [← hW2]; simp)
  clear hW2
  have G3 : Hid (Gv w W2 a n c t) := Lib.hid (G2.out.on2 ((Below.refl _ w1).grown HG2.out (by omega) (fun k e => by injection e with e; omega)))
  have hs2 : w.heap.size + 1 < W2.heap.size := by rw [HZ.out]; exact hs1
  rw [← HZ.out]
  clear HZ hs1 G2 HO1 HG2
  obtain ⟨bt, hbt⟩ : ∃ bt, W2.heap.size = bt := ⟨_, rfl⟩
  have HBt := Lib.hid hbt
  have hbt1 : w.heap.size + 1 < bt := by rw [← hbt]; exact hs2
  rw [hbt]
  clear hbt hs2 hbx
  go_loopg [10] s.size (fun k p wr => ∃ (ba : Nat), k ≤ s.size ∧ p = .pointer (some ⟨ba, 0, none⟩) ∧ bt < ba ∧ Hid (wr.heap[ba]? = some (.cells #[.int .i64 ((k : Int) - 1)] 3 (0, 0))) ∧ Hid (wr.heap[bt]? = some (.cells #[.slice (some ⟨w.heap.size + 1, 0, none⟩) nn nn] 44 (0, 0))) ∧ Hid (wr.ownsRow (w.heap.size + 1) 3 1 (.slice (some ⟨w.heap.size + 1, 0, none⟩) nn nn) nn (trow k (telv sumT ws e ((tx s).drop k)))) ∧ Hid (Gv w wr a n c t))
  case atStart =>
    refine ⟨bt + 1, Nat.le_refl _, rfl, by omega, Lib.hid ?_, Lib.hid ?_, Lib.hid ?_, Lib.hid ?_⟩
    · have := heap_alloc_new (W2.alloc (.cells #[.slice (some ⟨w.heap.size + 1, 0, none⟩) nn nn] 44)) (.cells #[.int .i64 ((s.size : Int) - 1)] 3)
      rw [World.size_alloc, HBt.out] at this
      exact this
    · rw [heap_alloc_old _ _ bt (by rw [World.size_alloc, HBt.out]; omega)]
      have := heap_alloc_new W2 (.cells #[.slice (some ⟨w.heap.size + 1, 0, none⟩) nn nn] 44)
      rw [HBt.out] at this
      exact this
    · have e0 : telv sumT ws e ((tx s).drop s.size) = [e] := by rw [← tx_len]; exact telv_end _
      rw [e0]
      exact (HO2.out.alloc _).alloc _
    · exact G3.out.on (((Below.refl _ _).alloc (Nat.le_refl _) _).alloc (by simp) _)
  case round =>
    clear HO2 G3
    obtain ⟨ba, hk, rfl, hba, HA, HT, HO, G⟩ := hrel
    have hbox := G.out.box
    have hta := cell_of_one HT.out
    have haa := cell_of_one HA.out
    cases gk with
    | zero =>
      have hneg : ¬ ((0 : Int) ≤ ((0 : Nat) : Int) - 1) := by omega
      go_wp2_with fail
      go_ret
      refine ⟨w.heap.size + 1, rfl, ?_, G.out.bel⟩
      have h9 := HO.out
      rw [List.drop_zero] at h9
      exact own_down (by simpa [trow] using h9) (by omega)
    | succ k =>
      have e1 : ((k + 1 : Nat) : Int) - 1 = (k : Int) := by omega
      rw [e1] at HA haa
      clear e1
      have hk0 : (0 : Int) ≤ (k : Int) := by omega
      have hk1 : (k : Int) ≤ (s.size : Int) := by omega
      have hk2 : (k : Int) < (nn : Int) := by have := HNN.out; omega
      have HE : Hid (tx (s.extract k s.size) = (tx s).drop k) := Lib.hid (by rw [tx_ext, List.take_of_length_le (by rw [List.length_drop, tx_len]; exact Nat.le_refl _)])
      have cM1 : Hid (∀ W', Gv w W' a n c t → _) := Lib.hid (fun W' (G : Gv w W' a n c t) => cM.out (s.extract k s.size) W' G (by rw [HE.out]; exact fun c hc => HLow.out c (List.mem_of_mem_drop hc)) (by rw [ByteArray.size_extract]; omega))
      rw [HE.out] at cM1
      have HStep : Hid (telv sumT ws e ((tx s).drop k) = sumT (Mt ws ((tx s).drop k)) (fun j => (telv sumT ws e ((tx s).drop (k + 1))).getD (j - 1) 0) :: telv sumT ws e ((tx s).drop (k + 1))) := Lib.hid (telv_step (tx s) (by rw [tx_len]; omega))
      have HIn : Hid (∀ j ∈ Mt ws ((tx s).drop k), 1 ≤ j ∧ k + j < nn) := Lib.hid (fun j hj => by
        have := mt_in hj
        rw [List.length_drop, tx_len] at this
        have := HNN.out
        omega)
      have HLen : Hid ((telv sumT ws e ((tx s).drop (k + 1))).length = s.size - k) := Lib.hid (by rw [telv_len, List.length_drop, tx_len]; omega)
      have hml : (Mt ws ((tx s).drop k)).length ≤ 1000 := by
        rw [mt_upTo HAsc.out]
        have h9 := upTo_len ws ((tx s).drop k) ((tx s).drop k).length
        rw [List.length_drop, tx_len] at h9
        rw [List.length_drop, tx_len]
        omega
      obtain ⟨l, hl⟩ : ∃ l, Mt ws ((tx s).drop k) = l := ⟨_, rfl⟩
      obtain ⟨L, hL⟩ : ∃ L, telv sumT ws e ((tx s).drop (k + 1)) = L := ⟨_, rfl⟩
      rw [hl] at cM1 HStep HIn hml
      rw [hL] at HStep HLen HO
      clear hl hL
      obtain ⟨m, hm⟩ : ∃ m, l.length = m := ⟨_, rfl⟩
      rw [hm] at cM1 hml
      clear hm
      obtain ⟨z, hz⟩ : ∃ z, sumT l (fun j => L.getD (j - 1) 0) = z := ⟨_, rfl⟩
      rw [hz] at HStep
      have HZz := Lib.hid hz
      clear hz
      have cT : Hid (∀ (w4 : World) (v : Value), Below wr.heap.size wr w4 → w4.ownsRow wr.heap.size 3 1 v m (nums l) → ∃ a9 c9, v = .slice a9 m c9 ∧ Calls Try.prog 76 #[.slice a9 m c9, .func (.func 82) #[] #[.pointer (some ⟨bt, 0, none⟩), .pointer (some ⟨ba, 0, none⟩)]] w4 fun en w' => en = .returned (.int .i64 z) ∧ w4 = w') := Lib.hid (fun w4 v hb hOv => by
        obtain ⟨a9, c9, rfl, hS⟩ := own_nums hOv
        rw [← HZz.out]
        have hO4 := own_stay HO.out hb
        refine ⟨a9, c9, rfl, tellSplits_any a9 m c9 l _ w4 _ bt ba (w.heap.size + 1) nn nn k hS hml ⟨?_, ?_, Nat.le_refl _, ?_⟩ ?_ HIn.out ?_⟩
        · exact (hb.cell (p := ⟨bt, 0, none⟩) (lt_of_block HT.out)).trans hta
        · exact (hb.cell (p := ⟨ba, 0, none⟩) (lt_of_block HA.out)).trans haa
        · have := HNN.out; omega
        · have := HNN.out; omega
        · intro j hj1 hjn
          rw [hO4.cellAt (k + j) (by omega)]
          have ej : k + j = (k + 1) + (j - 1) := by omega
          rw [ej]
          exact trow_at (by rw [HLen.out]; have := HNN.out; omega))
      have HF4 : Hid (∀ w4, Below wr.heap.size wr w4 → w4.frozen? ⟨w.heap.size + 1, k, none⟩ = false ∧ w4.cell? ⟨w.heap.size + 1, k, none⟩ = some (.int .i64 0)) := Lib.hid (fun w4 hb => by
        have hO4 := own_stay HO.out hb
        refine ⟨hO4.frozenAt k, (hO4.cellAt k (by omega)).trans ?_⟩
        unfold trow
        rw [List.getElem?_append_left (by simp)]
        exact rep_atSplits (by omega))
      clear hml
      have hbb : bt < wr.heap.size := lt_of_block HT.out
      have hab : ba < wr.heap.size := lt_of_block HA.out
      have Gd := Lib.hid (G.out.on (Below.refl _ _).drew)
      go_wp2_with fail
      go_region_held3 (fun w' => w'.cell? ⟨w.heap.size, 0, none⟩ = some (.slice a n c) ∧ w'.cell? ⟨bt, 0, none⟩ = some (.slice (some ⟨w.heap.size + 1, 0, none⟩) nn nn) ∧ w'.cell? ⟨ba, 0, none⟩ = some (.int .i64 (k : Int)))
        (first
          | exact ⟨hbox, hta, haa⟩
          | exact ⟨set_farSplits ((HB4.out.cell (p := ⟨w.heap.size, 0, none⟩) G.out.lt).trans hbox) (by omega), set_farSplits ((HB4.out.cell (p := ⟨bt, 0, none⟩) hbb).trans hta) (by omega), set_farSplits ((HB4.out.cell (p := ⟨ba, 0, none⟩) hab).trans haa) (by omega)⟩
          | exact ⟨((HB4.out).cell (p := ⟨w.heap.size, 0, none⟩) G.out.lt).trans hbox, (HB4.out.cell (p := ⟨bt, 0, none⟩) hbb).trans hta, (HB4.out.cell (p := ⟨ba, 0, none⟩) hab).trans haa⟩)
        (first
          | (go_at_call 51; refine (cM1.out _ (by exact Gd.out)).mono ?_; rintro e w4 ⟨v4, rfl, hO4, hb4⟩; have HB4 : Hid (Below wr.heap.size wr w4) := Lib.hid ((Below.refl _ _).drew.trans hb4); obtain ⟨a9, c9, hv9, cT9⟩ := cT.out w4 v4 HB4.out hO4; subst hv9; have CT9 := Lib.hid cT9; obtain ⟨hf4, hc4⟩ := HF4.out w4 HB4.out; clear hO4 hb4 cT9)
          | (go_at_call 76; refine CT9.out.mono ?_; rintro e w5 ⟨rfl, rfl⟩))
      have hst := (own_stay HO.out HB4.out).stored k (.int .i64 z)
      rw [trow_set, ← HStep.out] at hst
      have HO5 := Lib.hid hst.1
      have hG5 := hst.2
      have HT5 : Hid ((w4.setCell ⟨w.heap.size + 1, k, none⟩ (.int .i64 z)).heap[bt]? = some (.cells #[.slice (some ⟨w.heap.size + 1, 0, none⟩) nn nn] 44 (0, 0))) := Lib.hid ((hG5.block bt (Nat.lt_of_lt_of_le hbb HB4.out.size) (fun e => by injection e with e; omega)).trans ((HB4.out.block bt hbb).trans HT.out))
      have HA5 : Hid ((w4.setCell ⟨w.heap.size + 1, k, none⟩ (.int .i64 z)).heap[ba]? = some (.cells #[.int .i64 (k : Int)] 3 (0, 0))) := Lib.hid ((hG5.block ba (Nat.lt_of_lt_of_le hab HB4.out.size) (fun e => by injection e with e; omega)).trans ((HB4.out.block ba hab).trans HA.out))
      have G5 : Hid (Gv w (w4.setCell ⟨w.heap.size + 1, k, none⟩ (.int .i64 z)) a n c t) := Lib.hid ((G.out.on HB4.out).on2 ((Below.refl _ w4).grown hG5 (by have := G.out.lt; have := HB4.out.size; omega) (fun k e => by injection e with e; omega)))
      clear hst hG5 hf4 hc4 cM1 cT CT9 HF4
      obtain ⟨W5, hW5⟩ : ∃ W5, w4.setCell ⟨w.heap.size + 1, k, none⟩ (.int .i64 z) = W5 := ⟨_, rfl⟩
      rw [hW5] at HO5 HT5 HA5 G5 ⊢
      clear hW5 HB4
      have haa5 := cell_of_one HA5.out
      have hfa5 := free_of_one HA5.out
      have hba5 := lt_of_block HA5.out
      have hbt5 := lt_of_block HT5.out
      clear hbox hta haa
      clear HZz HIn HLen HA HT HO G Gd cM
      go_wp2_with fail
      go_roundg k
      case measure => omega
      case rel =>
        refine ⟨W5.heap.size, by omega, rfl, by omega, Lib.hid ?_, Lib.hid ?_, Lib.hid ?_, Lib.hid ?_⟩
        · exact heap_alloc_new _ _
        · exact (heap_alloc_old _ _ _ hbt5).trans HT5.out
        · exact HO5.out.alloc _
        · exact G5.out.on ((Below.refl _ _).alloc (Nat.le_refl _) _)

end Go.Proofs.Ytknoafkgeaibpab
