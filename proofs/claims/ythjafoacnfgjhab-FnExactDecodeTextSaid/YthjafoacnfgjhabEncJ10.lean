/-
  The program's text of a message, and EncodeMessage: both functions answer the same.
-/
import Derived.Test.YthjafoacnfgjhabEncI10
namespace Go.Proofs.Ythjafoacnfgjhab
open Go.RowKit
set_option linter.unusedVariables false

theorem ret_st {a b : ByteArray} (h : a = b) : Ending.returned (.string a) = .returned (.string b) := by rw [h]
/-- the sequences of symbols -/
def seqsS (ss : List ByteArray) (m : List Int) : List ByteArray := m.map fun x => ss.getD x.toNat ⟨#[]⟩
theorem seqsS_succ {ss : List ByteArray} {m : List Int} {k : Nat} {x : Int} {s : ByteArray} (hk : m[k]? = some x) (hs : ss[x.toNat]? = some s) : seqsS ss (m.take (k + 1)) = seqsS ss (m.take k) ++ [s] := by
  unfold seqsS
  rw [take_snoc_at hk, List.map_append]
  simp [List.getD, hs]
theorem seqsS_flat (ss : List ByteArray) : ∀ m : List Int, ((seqsS ss m).map tx).flatten = encT (txl ss) m
  | [] => rfl
  | x :: r => by
    have ih := seqsS_flat ss r
    unfold seqsS encT at ih ⊢
    simp only [List.map_cons, List.flatten_cons]
    rw [ih]
    congr 1
    unfold txl
    cases h : ss[x.toNat]? with
    | none => simp [List.getD, h]
    | some s => simp [List.getD, h]

set_option maxRecDepth 1000000 in
set_option maxHeartbeats 2000000 in
theorem textOf_any (B : Nat) (a a' : Option Addr) (n c n' c' : Nat) (ss : List ByteArray) (m : List Int) (w : World) (hB : B ≤ w.heap.size) (h : Strs B w a n c ss) (h' : Ints B w a' n' c' m) (hsh : ∀ (i : Nat) (y : Txt), (txl ss)[i]? = some y → y.length ≤ 14) (hm : msgOk n m = true) :
    Calls Try.prog 41 #[.slice a n c, .slice a' n' c'] w fun e w' => e = .returned (.string (bx (encT (txl ss) m))) ∧ Below w.heap.size w w' := by
  have L := Lib.hid h.len
  have L' := Lib.hid h'.len
  have C := h.sl.cap
  have T := h.sl.top
  have C' := h'.sl.cap
  have T' := h'.sl.top
  have H := Lib.hid h
  have H' := Lib.hid h'
  have HM := Lib.hid (msgOk_iff.1 hm)
  have h60 : n' ≤ 60 := by have := HM.out.1; rw [L'.out] at this; exact this
  have HLn : Hid ((encT (txl ss) m).length ≤ 840) := Lib.hid (by have := encT_len hsh m; rw [L'.out] at this; omega)
  clear h h' hsh hm
  obtain ⟨i0, hii, hz0, hz1, hz2⟩ := info_parts infoS
  have HO0 : Hid ((w.alloc (.cells #[] 9)).ownsRow w.heap.size 9 1 (.slice (some ⟨w.heap.size, 0, none⟩) 0 0) 0 []) := Lib.hid (World.ownsRow_lit w #[] 0 (Nat.le_refl _) (by unfold maxLen; omega) rfl)
  have HB0 : Hid (Below w.heap.size w (w.alloc (.cells #[] 9))) := Lib.hid ((Below.refl _ _).alloc (Nat.le_refl _) _)
  go_enter Try.func41, Try.ntmps41
  go_wp2
  go_loopw [5, 11] (fun o i wr => ∃ (k g d : Nat), k ≤ n' ∧ i = .int .i64 k ∧ o = .slice (some ⟨g, 0, none⟩) k d ∧ Hid (wr.ownsRow w.heap.size 9 1 (.slice (some ⟨g, 0, none⟩) k d) k ((seqsS ss (m.take k)).map Value.string)) ∧ Hid (Below w.heap.size w wr)) (fun _ i _ => n' - (intOf i).toNat)
  case atStart => exact ⟨0, w.heap.size, 0, Nat.zero_le _, rfl, rfl, HO0, HB0⟩
  case round =>
    clear HO0 HB0
    obtain ⟨k, g, d, hk, rfl, rfl, HO, HB⟩ := hrel
    have hzr := HB.out.size
    by_cases hlt : k < n'
    · obtain ⟨b', o', z, rfl, _, hs', _, hc'⟩ := (H'.out.keep (HB.out.mono hB)).elem k hlt
      have hz := HM.out.2 z (List.mem_of_getElem? hs')
      obtain ⟨j, rfl⟩ : ∃ j : Nat, z = j := ⟨z.toNat, by omega⟩
      have hjn : j < n := by omega
      obtain ⟨b, o, s, rfl, _, hs, hsz, hcs⟩ := (H.out.keep (HB.out.mono hB)).elem j hjn
      have HN : Hid ((seqsS ss (m.take (k + 1))).map Value.string = (seqsS ss (m.take k)).map Value.string ++ [.string s]) := Lib.hid (by
        rw [seqsS_succ hs' (by simpa using hs), List.map_append]; rfl)
      have hk0 : (0 : Int) ≤ (k : Int) := by omega
      have hk1 : (k : Int) < (n' : Int) := by omega
      have hj0 : (0 : Int) ≤ (j : Int) := by omega
      have hj1 : (j : Int) < (n : Int) := by omega
      clear hs hs' hz
      go_wp2_with (at_builtin; refine wpList_append_own_at _ rfl _ _ 22 rfl w.heap.size 9 i0 (.string ByteArray.empty) 1 16 Try.underlying22 hii hz0 hz1 hz2 rfl (by decide) _ _ _ rfl (HO.out.alloc _) ⟨wr.heap.size, 0, none⟩ 1 1 [.string s] rfl rfl (cell_one_new _ _ _) (by simp [Value.oneCell']) (by unfold maxLen; omega) (by omega) (by simp; omega) ?_; intro v3 w3 hO3 hG3 _ _; obtain ⟨g', cap', rfl⟩ := own_succ hO3; have HO3 := Lib.hid hO3; have HB3 : Hid (Below w.heap.size w w3) := Lib.hid ((HB.out.alloc (by omega) _).trans (below_grown (HO.out.alloc _) (by omega) (by simp; omega) hG3)); clear hO3 hG3)
      go_roundw
      case rel => exact ⟨k + 1, g', cap', by omega, by go_num, rfl, Lib.hid (by rw [HN.out]; exact HO3.out), HB3⟩
      case measure => simp [intOf]; omega
    · have e : k = n' := by omega
      subst e
      have HT : Hid (m.take k = m) := Lib.hid (List.take_of_length_le (by rw [L'.out]; omega))
      by_cases h0 : k = 0
      · have HE : Hid (bx (encT (txl ss) m) = ⟨#[]⟩) := Lib.hid (by
          have : m = [] := List.eq_nil_of_length_eq_zero (by rw [L'.out, h0])
          rw [this]; rfl)
        have cJ := Lib.hid (Try.strings_Join_none (some ⟨g, 0, none⟩) d ⟨#[]⟩ wr)
        subst h0
        go_wp2_with (go_at_call 65; refine cJ.out.mono ?_; rintro e w2 ⟨rfl, rfl⟩)
        go_ret
        exact ⟨ret_st HE.out.symm, HB.out⟩
      · have HLs : Hid ((seqsS ss m).length = k) := Lib.hid (by unfold seqsS; rw [List.length_map, L'.out])
        have hgw := own_lt HO.out
        have hkd : k ≤ d := (Sl.of_own HO.out).cap
        have hj := Try.strings_Join g 0 d (seqsS ss m) ⟨#[]⟩ wr (fun j y hy => by
            have hO := HO.out
            rw [HT.out] at hO
            have hjk : j < k := by have := (List.getElem?_eq_some_iff.1 hy).1; rw [HLs.out] at this; exact this
            have := hO.cellAt j (by omega)
            rw [Nat.zero_add, this, List.getElem?_map, hy]
            rfl) hgw (by rw [HLs.out]; omega) (by rw [HLs.out]; exact hkd) (by
            show (Lib.join ((seqsS ss m).map (·.data.toList)) []).length ≤ _
            rw [join_nil, seqsS_flat]
            have := HLn.out
            omega)
        rw [HLs.out] at hj
        have cJ := Lib.hid hj
        have HE : Hid ((⟨(Lib.join ((seqsS ss m).map (·.data.toList)) (⟨#[]⟩ : ByteArray).data.toList).toArray⟩ : ByteArray) = bx (encT (txl ss) m)) := Lib.hid (by
          show (⟨(Lib.join ((seqsS ss m).map (·.data.toList)) []).toArray⟩ : ByteArray) = _
          rw [join_nil, seqsS_flat]
          rfl)
        clear hj hgw hkd
        go_wp2_with (go_at_call 65; refine cJ.out.mono ?_; rintro e w2 ⟨rfl, hb2⟩; have HB2 := Lib.hid (HB.out.trans (hb2.mono HB.out.size)); clear hb2)
        go_ret
        exact ⟨ret_st HE.out, HB2.out⟩

set_option maxRecDepth 1000000 in
set_option maxHeartbeats 1000000 in
theorem implEncode_any (a a' : Option Addr) (n c n' c' : Nat) (ss : List ByteArray) (m : List Int) (w : World) (h : Strs w.heap.size w a n c ss) (h' : Ints w.heap.size w a' n' c' m) :
    Calls Try.prog 22 #[.slice a n c, .slice a' n' c'] w fun e w' => e = .returned (.tuple #[.string (encV ss m), .bool (encOk ss m)]) ∧ Below w.heap.size w w' := by
  have cC0 := implIsCode_any w.heap.size a n c ss w (Nat.le_refl _) h
  have L := Lib.hid h.len
  have L' := Lib.hid h'.len
  have H := Lib.hid h
  have H' := Lib.hid h'
  clear h h'
  by_cases hc : cdB (txl ss) = true
  · have HSh := Lib.hid (code_short hc)
    have hn12 : 1 ≤ n ∧ n ≤ 12 := by have h1 := (cdB_iff.1 hc).1; have h2 := (cdB_iff.1 hc).2.1; rw [txl_len, L.out] at h1 h2; exact ⟨h1, h2⟩
    have hOk : encOk ss m = msgOk n m := by unfold encOk; rw [hc, L.out]; simp
    rw [hc] at cC0
    have cC := Lib.hid cC0
    by_cases hm : msgOk n m = true
    · have h2 : encV ss m = bx (encT (txl ss) m) := by unfold encV; rw [if_pos (by rw [hOk, hm])]
      rw [hOk, hm, h2]
      have HM := Lib.hid hm
      obtain ⟨v, hv⟩ : ∃ v, bx (encT (txl ss) m) = v := ⟨_, rfl⟩
      have HV := Lib.hid hv
      rw [hv]
      clear hOk hm h2 hc cC0 hv
      go_enter Try.func22, Try.ntmps22
      go_wp2_with fail
      refine cC.out.mono ?_
      rintro e w1 ⟨rfl, hb1⟩
      have HB1 := Lib.hid hb1
      have hm0 := isMessage_any a n c a' n' c' m w1 ((H'.out.keep HB1.out).mono HB1.out.size) (by omega)
      rw [HM.out] at hm0
      have cM := Lib.hid hm0
      clear hb1 hm0
      go_wp2_with fail
      refine cM.out.mono ?_
      rintro e w2 ⟨rfl, hb2⟩
      have HB2 := Lib.hid (HB1.out.trans (hb2.mono HB1.out.size))
      have ht0 := textOf_any w.heap.size a a' n c n' c' ss m w2 HB2.out.size (H.out.keep HB2.out) (H'.out.keep HB2.out) HSh.out HM.out
      rw [HV.out] at ht0
      have cT := Lib.hid ht0
      clear hb2 ht0
      go_wp2_with fail
      refine cT.out.mono ?_
      rintro e w3 ⟨rfl, hb3⟩
      have HB3 := Lib.hid (HB2.out.trans (hb3.mono HB2.out.size))
      clear hb3
      go_wp2_with fail
      go_ret2
      exact ⟨rfl, HB3.out⟩
    · have hm' : msgOk n m = false := by simpa using hm
      have h2 : encV ss m = ⟨#[]⟩ := by unfold encV; rw [if_neg (by rw [hOk, hm']; decide)]
      rw [hOk, hm', h2]
      have HM := Lib.hid hm'
      clear hOk hm hm' h2 hc cC0
      go_enter Try.func22, Try.ntmps22
      go_wp2_with fail
      refine cC.out.mono ?_
      rintro e w1 ⟨rfl, hb1⟩
      have HB1 := Lib.hid hb1
      have hm0 := isMessage_any a n c a' n' c' m w1 ((H'.out.keep HB1.out).mono HB1.out.size) (by omega)
      rw [HM.out] at hm0
      have cM := Lib.hid hm0
      clear hb1 hm0
      go_wp2_with fail
      refine cM.out.mono ?_
      rintro e w2 ⟨rfl, hb2⟩
      have HB2 := Lib.hid (HB1.out.trans (hb2.mono HB1.out.size))
      clear hb2
      go_wp2_with fail
      go_ret2
      exact ⟨rfl, HB2.out⟩
  · have hc' : cdB (txl ss) = false := by simpa using hc
    have h1 : encOk ss m = false := by unfold encOk; rw [hc']; simp
    have h2 : encV ss m = ⟨#[]⟩ := by unfold encV; rw [if_neg (by rw [h1]; decide)]
    rw [hc'] at cC0
    rw [h1, h2]
    have cC := Lib.hid cC0
    clear h1 h2 hc hc' cC0
    go_enter Try.func22, Try.ntmps22
    go_wp2_with fail
    refine cC.out.mono ?_
    rintro e w1 ⟨rfl, hb1⟩
    have HB1 := Lib.hid hb1
    clear hb1
    go_wp2_with fail
    go_ret2
    exact ⟨rfl, HB1.out⟩

theorem agreeEncodeMessage (l : List ByteArray) (m : List Int) (hl : l.length + (l.map (·.size)).sum ≤ 1048576) (hm : m.length ≤ 1048576) : ∃ (v : ByteArray) (ok : Bool),
    (∀ (W : World) (a : Option Addr) (n c : Nat), Strs W.heap.size W a n c l → ∀ (a' : Option Addr) (n' c' : Nat), Ints W.heap.size W a' n' c' m → Calls Try.prog 21 #[.slice a n c, .slice a' n' c'] W fun e w' => e = .returned (.tuple #[.string v, .bool ok]) ∧ Below W.heap.size W w') ∧
    (∀ (W : World) (a : Option Addr) (n c : Nat), Strs W.heap.size W a n c l → ∀ (a' : Option Addr) (n' c' : Nat), Ints W.heap.size W a' n' c' m → Calls Try.prog 22 #[.slice a n c, .slice a' n' c'] W fun e w' => e = .returned (.tuple #[.string v, .bool ok]) ∧ Below W.heap.size W w') :=
  ⟨encV l m, encOk l m, fun W a n c h a' n' c' h' => specEncode_any a a' n c n' c' l m W h h', fun W a n c h a' n' c' h' => implEncode_any a a' n c n' c' l m W h h'⟩

end Go.Proofs.Ythjafoacnfgjhab
