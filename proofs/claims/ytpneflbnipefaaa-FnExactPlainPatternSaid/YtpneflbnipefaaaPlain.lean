/-
  Plain patterns: the program's function, and both functions together.
-/
import Derived.Test.YtpneflbnipefaaaPlainI
namespace Go.Proofs.Ytpneflbnipefaaa
open Go.RowKit
set_option linter.unusedVariables false

theorem pw_iter {L : Nat} {W : World} {o : Txt} {b : Bool} {s : ByteArray} {k : Nat} (h : PW L W o b) (hI : W.heap[L + 3]? = some (.stringIter s k)) (q : Nat) : PW L (W.iterAt (L + 3) s q) o b := by
  obtain ⟨g, cap, h1, h2, h3⟩ := h.row
  exact ⟨⟨g, cap, (Lib.iterAt_other W (L + 3) (L + 1) s q (by omega)).trans h1, own_iterAt h2 hI, h3⟩, (Lib.iterAt_other W (L + 3) (L + 1 + 1) s q (by omega)).trans h.held, by rw [Lib.iterAt_size]; exact h.size⟩

set_option maxRecDepth 1000000 in
set_option maxHeartbeats 4000000 in
theorem implPlain_yes (s z : ByteArray) (w : World) (hg : okG s = true) (hz : z.data.toList = plAll s) :
    Calls Try.prog 14 #[.string s] w fun e w' => e = .returned (.tuple #[.string z, .bool true]) ∧ Below w.heap.size w w' := by
  have hs := okG_size hg
  have HSg : Hid (∀ k (h : k < s.size), Sg (s[k]'h)) := Lib.hid (fun k h => okG_sg hg h)
  have c10 := implIsPattern_any s w (by omega)
  rw [hg] at c10
  have c1 := Lib.hid c10
  have HZ := Lib.hid hz
  obtain ⟨i0, hii, hz0, hz1, hz2⟩ := info_parts infoI32
  clear c10 hg hz
  go_enter Try.func14, Try.ntmps14
  go_wp2_with fail
  refine c1.out.mono ?_
  rintro e w2 ⟨rfl, hb2⟩
  have HB2 := Lib.hid hb2
  have HP0 := Lib.hid (pw_start w2 s)
  have hs2 := hb2.size
  clear hb2 c1
  go_wp2_with fail
  obtain ⟨L, hL⟩ : ∃ L, w2.heap.size = L := ⟨_, rfl⟩
  have HL := Lib.hid hL
  rw [hL] at HP0 hs2 ⊢
  clear hL
  go_loopw [8] (fun sg wr => ∃ (k : Nat) (o : Txt) (b : Bool), k ≤ s.size ∧ (∃ v : Value, sg = v) ∧ Hid (PW L wr o b) ∧ Hid (plA s k = (o, b)) ∧ Hid (wr.heap[L + 3]? = some (.stringIter s k)) ∧ Hid (Below w.heap.size w wr)) (fun _ wr => s.size - wr.iterPos (L + 3))
  case atStart => exact ⟨0, [], false, Nat.zero_le _, ⟨_, rfl⟩, Lib.hid HP0.out.1, Lib.hid (by simp [plA, plT]), Lib.hid HP0.out.2.1, Lib.hid (HB2.out.trans (HP0.out.2.2.mono hs2))⟩
  case round =>
    clear HP0
    obtain ⟨k, o, b, hk, ⟨v0, rfl⟩, HPW, HA, HIt, HBw⟩ := hrel
    have hpos0 : wr.iterPos (L + 3) = k := by simp [World.iterPos, HIt.out]
    have HPs := Lib.hid hpos0
    clear hpos0
    have ho28 : o.length ≤ 28 := by have := plA_len hk hs; rw [HA.out] at this; exact this
    by_cases hlt : k < s.size
    · have hsg := HSg.out k hlt
      have h128 : s[k].toNat < 128 := by unfold Sg at hsg; omega
      have hnx0 := fun ty => Lib.run_next_ascii_at (P := Try.prog) wr (L + 3) s k ty HIt.out hlt h128
      have hnx : ∀ ty, (Instr.next (.pointer (some ⟨L + 1 + 1 + 1, 0, none⟩)) true ty).run Try.prog wr = .ok (.tuple #[.bool true, .int .i64 (k : Int), .int .i32 (s[k].toNat : Int)]) (wr.iterAt (L + 3) s (k + 1)) := hnx0
      clear hnx0
      have HAn := Lib.hid (plA_succ hlt)
      obtain ⟨W1, hW1⟩ : ∃ W1, wr.iterAt (L + 3) s (k + 1) = W1 := ⟨_, rfl⟩
      have HI1 : Hid (W1.heap[L + 3]? = some (.stringIter s (k + 1))) := Lib.hid (by rw [← hW1]; exact Lib.iterAt_heap wr _ s k (k + 1) HIt.out)
      have HB1 : Hid (Below w.heap.size w W1) := Lib.hid (by rw [← hW1]; exact Lib.below_iterAt HBw.out (by omega) s (k + 1))
      have HP1 : Hid (PW L W1 o b) := Lib.hid (by rw [← hW1]; exact pw_iter HPW.out HIt.out (k + 1))
      simp only [hW1] at hnx
      obtain ⟨c, hc9⟩ : ∃ c, s[k] = c := ⟨_, rfl⟩
      rw [hc9] at HAn hsg h128
      simp only [hc9] at hnx
      clear hW1 hc9 HPW HIt HBw
      by_cases h42 : c.toNat = 42
      · have t1 : ((c.toNat : Int) == 42) = true := by rw [h42]; rfl
        have HF : Hid (plA s (k + 1) = (o, true)) := Lib.hid (by rw [HAn.out, plS_star h42, HA.out])
        have hhc := HP1.out.held.cell
        have hhf := HP1.out.held.frozen
        have HM := Lib.hid (HP1.out.mark true)
        clear h42 hsg
        go_wp2_with fail
        go_roundw
        case rel => exact ⟨k + 1, o, true, by omega, ⟨_, rfl⟩, Lib.hid HM.out.1, HF, Lib.hid (HM.out.2.1.trans HI1.out), Lib.hid (HB1.out.trans (HM.out.2.2.mono hs2))⟩
        case measure =>
          have e9 := HM.out.2.1.trans HI1.out
          rw [HPs.out]
          refine Nat.lt_of_le_of_lt (m := s.size - (k + 1)) (Nat.le_of_eq ?_) (by omega)
          simp [World.iterPos, e9]
      · have t1 : ((c.toNat : Int) == 42) = false := by simp; omega
        by_cases h63 : c.toNat = 63
        · have t2 : ((c.toNat : Int) == 63) = true := by rw [h63]; rfl
          have hc63 : c = 63 := UInt8.toNat_inj.1 h63
          have HF : Hid (plA s (k + 1) = (o ++ [c], b)) := Lib.hid (by rw [HAn.out, plS_one h63, HA.out, hc63])
          clear h42 h63 hsg hc63
          obtain ⟨g, cap, hv, hrow, hg⟩ := HP1.out.row
          have hsz := HP1.out.size
          have HH := Lib.hid HP1.out.held
          have HGg := Lib.hid hg
          have hc := hv.cell
          obtain ⟨m, hm⟩ : ∃ m, o.length = m := ⟨_, rfl⟩
          have HMl := Lib.hid hm
          have hml : m ≤ 40 := by omega
          rw [hm] at hc hv hrow
          have HV := Lib.hid hv
          have HR := Lib.hid hrow
          clear hm hv hrow hg
          go_wp2_with (first
            | (at_builtin; refine wpList_append_own_at _ rfl _ _ 31 rfl L 21 i0 (.int .i32 0) 1 4 Try.underlying31 hii hz0 hz1 hz2 rfl (by decide) _ _ _ rfl (HR.out.alloc _) ⟨W1.heap.size, 0, none⟩ 1 1 [.int .i32 (c.toNat : Int)] rfl rfl (cell_one_new _ _ _) (by simp [Value.oneCell']) (by unfold maxLen; omega) (by omega) (by simp; omega) ?_; intro v' w1 hown' hgrow _ hat; obtain ⟨g', cap', rfl⟩ := own_succ hown'; obtain ⟨hv1, _, _, _, _⟩ := HV.out.appended (by decide) HR.out (by omega) (by omega) hown' hgrow; have hc1' := hv1.cell; have hf1' := hv1.frozen; have HA2 : Hid (PW L (w1.setCell ⟨L + 1, 0, none⟩ (.slice (some ⟨g', 0, none⟩) (m + 1) cap')) (o ++ [c]) b ∧ (w1.setCell ⟨L + 1, 0, none⟩ (.slice (some ⟨g', 0, none⟩) (m + 1) cap')).heap[L + 3]? = W1.heap[L + 3]? ∧ Below L W1 (w1.setCell ⟨L + 1, 0, none⟩ (.slice (some ⟨g', 0, none⟩) (m + 1) cap'))) := Lib.hid (by
            have hm := HMl.out
            subst hm
            exact pw_app (c := c) hsz HV.out HR.out HGg.out HH.out hown' hgrow hat); clear hown' hgrow hat hv1))
          go_roundw
          case rel => exact ⟨k + 1, _, b, by omega, ⟨_, rfl⟩, Lib.hid HA2.out.1, HF, Lib.hid (HA2.out.2.1.trans HI1.out), Lib.hid (HB1.out.trans (HA2.out.2.2.mono hs2))⟩
          case measure =>
            have e9 := HA2.out.2.1.trans HI1.out
            rw [HPs.out]
            refine Nat.lt_of_le_of_lt (m := s.size - (k + 1)) (Nat.le_of_eq ?_) (by omega)
            simp [World.iterPos, e9]
        · have t2 : ((c.toNat : Int) == 63) = false := by simp; omega
          have HF : Hid (plA s (k + 1) = (plF (o, b) ++ [c], false)) := Lib.hid (by rw [HAn.out, plS_let h42 h63, HA.out])
          have cR := Lib.hid (release_any L o b W1 HP1.out (by omega))
          have hfl : (plF (o, b)).length ≤ 29 := by unfold plF; split <;> simp <;> omega
          clear h42 h63 hsg
          go_wp2_with fail
          refine cR.out.mono ?_
          rintro e w4 ⟨rfl, hp4, hi4, hb4⟩
          have HP4 := Lib.hid hp4
          have HI4 := Lib.hid (hi4.trans HI1.out)
          have HB4 : Hid (Below w.heap.size w w4) := Lib.hid (HB1.out.trans (hb4.mono hs2))
          have hs4 := hb4.size
          clear hp4 hi4 hb4 cR
          obtain ⟨o4, ho4⟩ : ∃ o4, plF (o, b) = o4 := ⟨_, rfl⟩
          rw [ho4] at HP4 HF hfl
          clear ho4
          obtain ⟨g, cap, hv, hrow, hg⟩ := HP4.out.row
          have hsz := HP4.out.size
          have HH := Lib.hid HP4.out.held
          have HGg := Lib.hid hg
          have hc := hv.cell
          obtain ⟨m, hm⟩ : ∃ m, o4.length = m := ⟨_, rfl⟩
          have HMl := Lib.hid hm
          have hml : m ≤ 40 := by omega
          rw [hm] at hc hv hrow
          have HV := Lib.hid hv
          have HR := Lib.hid hrow
          clear hm hv hrow hg
          go_wp2_with (first
            | (at_builtin; refine wpList_append_own_at _ rfl _ _ 31 rfl L 21 i0 (.int .i32 0) 1 4 Try.underlying31 hii hz0 hz1 hz2 rfl (by decide) _ _ _ rfl (HR.out.alloc _) ⟨w4.heap.size, 0, none⟩ 1 1 [.int .i32 (c.toNat : Int)] rfl rfl (cell_one_new _ _ _) (by simp [Value.oneCell']) (by unfold maxLen; omega) (by omega) (by simp; omega) ?_; intro v' w1 hown' hgrow _ hat; obtain ⟨g', cap', rfl⟩ := own_succ hown'; obtain ⟨hv1, _, _, _, _⟩ := HV.out.appended (by decide) HR.out (by omega) (by omega) hown' hgrow; have hc1' := hv1.cell; have hf1' := hv1.frozen; have HA2 : Hid (PW L (w1.setCell ⟨L + 1, 0, none⟩ (.slice (some ⟨g', 0, none⟩) (m + 1) cap')) (o4 ++ [c]) false ∧ (w1.setCell ⟨L + 1, 0, none⟩ (.slice (some ⟨g', 0, none⟩) (m + 1) cap')).heap[L + 3]? = w4.heap[L + 3]? ∧ Below L w4 (w1.setCell ⟨L + 1, 0, none⟩ (.slice (some ⟨g', 0, none⟩) (m + 1) cap'))) := Lib.hid (by
            have hm := HMl.out
            subst hm
            exact pw_app (c := c) hsz HV.out HR.out HGg.out HH.out hown' hgrow hat); clear hown' hgrow hat hv1))
          go_roundw
          case rel => exact ⟨k + 1, _, false, by omega, ⟨_, rfl⟩, Lib.hid HA2.out.1, HF, Lib.hid (HA2.out.2.1.trans HI4.out), Lib.hid (HB4.out.trans (HA2.out.2.2.mono hs2))⟩
          case measure =>
            have e9 := HA2.out.2.1.trans HI4.out
            rw [HPs.out]
            refine Nat.lt_of_le_of_lt (m := s.size - (k + 1)) (Nat.le_of_eq ?_) (by omega)
            simp [World.iterPos, e9]
    · have hnx0 := fun ty => Lib.run_next_end_at (P := Try.prog) wr (L + 3) s k ty HIt.out hlt
      have hnx : ∀ ty, (Instr.next (.pointer (some ⟨L + 1 + 1 + 1, 0, none⟩)) true ty).run Try.prog wr = .ok (.tuple #[.bool false]) wr := hnx0
      obtain rfl : k = s.size := by omega
      have cR := Lib.hid (release_any L o b wr HPW.out (by omega))
      have HOO : Hid (plF (o, b) = z.data.toList) := Lib.hid (by rw [HZ.out, plAll, HA.out])
      have HAsc : Hid (∀ c ∈ z.data.toList, c.toNat < 128) := Lib.hid (fun c hc => by
        rw [HZ.out] at hc
        unfold plAll plF at hc
        have hin : ∀ d ∈ (plA s s.size).1, d.toNat < 128 := fun d hd => by
          have := plT_in s.size (s.data.toList.take s.size) (by simp) d hd
          rcases this with h | h | h
          · obtain ⟨i, hi, e⟩ := List.mem_iff_getElem.1 (List.mem_of_mem_take h)
            have hi' : i < s.size := by simpa using hi
            have h9 := HSg.out i hi'
            have e2 : s[i] = d := e
            rw [e2] at h9
            unfold Sg at h9
            omega
          · omega
          · omega
        split at hc
        · rcases List.mem_append.1 hc with h | h
          · exact hin c h
          · rw [List.mem_singleton.1 h]; decide
        · exact hin c hc)
      clear hnx0
      go_wp2_with fail
      refine cR.out.mono ?_
      rintro e w4 ⟨rfl, hp4, hi4, hb4⟩
      rw [HOO.out] at hp4
      have HB4 : Hid (Below w.heap.size w w4) := Lib.hid (HBw.out.trans (hb4.mono hs2))
      obtain ⟨g, cap, hv, hrow, hg⟩ := hp4.row
      have hc := hv.cell
      have hcv0 := run_convert_runes (P := Try.prog) w4 31 9 21 ⟨g, 0, none⟩ z.data.toList.length cap (z.data.toList.map fun c => (c.toNat : Int)) (by simp) Try.underlying31 Try.underlying21 Try.underlying9 (fun j hj => by
        have hj' : j < z.data.toList.length := by simpa using hj
        have h9 := hrow.cellAt j (by omega)
        have h8 : (runes z.data.toList)[j]? = some (.int .i32 ((z.data.toList.map fun c => (c.toNat : Int)).getD j 0)) := by
          unfold runes
          rw [List.getElem?_map, List.getElem?_eq_getElem hj', List.getD_eq_getElem?_getD, List.getElem?_map, List.getElem?_eq_getElem hj']
          rfl
        rw [h8] at h9
        have e : (Addr.add ⟨g, 0, none⟩ j) = ⟨g, j, none⟩ := by cases j <;> simp [Addr.add]
        rw [e]
        exact h9)
      rw [List.take_of_length_le (by simp), runesBytes_is HAsc.out rfl] at hcv0
      obtain ⟨m, hm⟩ : ∃ m, z.data.toList.length = m := ⟨_, rfl⟩
      rw [hm] at hcv0 hc
      have hcv := hcv0
      clear hcv0 hm hv hrow hg hp4 hi4 hb4 cR
      go_wp2_with fail
      go_ret2
      exact ⟨rfl, HB4.out⟩

theorem agreePlainPattern (s : ByteArray) (hs : s.size ≤ 1048576) : ∃ (v : ByteArray) (ok : Bool),
    (∀ W : World, Calls Try.prog 13 #[.string s] W fun e w' => e = .returned (.tuple #[.string v, .bool ok]) ∧ Below W.heap.size W w') ∧
    (∀ W : World, Calls Try.prog 14 #[.string s] W fun e w' => e = .returned (.tuple #[.string v, .bool ok]) ∧ Below W.heap.size W w') := by
  cases hg : okG s with
  | true =>
    refine ⟨⟨(plAll s).toArray⟩, true, fun W => ?_, fun W => implPlain_yes s _ W hg rfl⟩
    obtain ⟨z, hz, hc⟩ := specPlain_yes s W hg
    have e : z = ⟨(plAll s).toArray⟩ := by
      cases z
      simp at hz
      simp [← hz]
    rw [← e]
    exact hc
  | false =>
    have c1 := Lib.hid (fun W => l6Pattern_any s W (by omega))
    have c2 := Lib.hid (fun W => implIsPattern_any s W (by omega))
    rw [hg] at c1 c2
    refine ⟨⟨#[]⟩, false, fun W => ?_, fun W => ?_⟩
    · go_enter Try.func13, Try.ntmps13
      go_wp2_with fail
      refine (c1.out _).mono ?_
      rintro e w0 ⟨rfl, rfl⟩
      go_wp2_with fail
      go_ret2
      exact ⟨rfl, Below.refl _ _⟩
    · go_enter Try.func14, Try.ntmps14
      go_wp2_with fail
      refine (c2.out _).mono ?_
      rintro e w1 ⟨rfl, hb1⟩
      have H1 := Lib.hid hb1
      clear hb1
      go_wp2_with fail
      go_ret2
      exact ⟨rfl, H1.out⟩

end Go.Proofs.Ytpneflbnipefaaa
