/-
  The program's trie of a list of texts.
-/
import Derived.Test.YtmgieahachphmaaWord
import Derived.Test.YtmgieahachphmaaNumber
import Derived.Test.YtmgieahachphmaaMade
import Derived.Deep.DeepCutAuto
namespace Go.Proofs.Ytmgieahachphmaa
open Go.RowKit
set_option linter.unusedVariables false

/-- a trie that the call owns, and whether there is one -/
def TrieRes (w : World) (t : List Nd) (ok : Bool) (e : Ending) (w' : World) : Prop :=
  ∃ v, e = .returned (.tuple #[.agg #[v], .bool ok]) ∧ w'.ownsRow w.heap.size 74 3 v t.length (ndc t) ∧ Below w.heap.size w w'

theorem made_match {xs : List Txt} : Match (made (setOf xs)) (pres (setOf xs)) (fun z => decide (z ∈ xs)) := by
  intro i x d hx hd
  unfold made at hd
  rw [mkT_at hx] at hd
  obtain rfl := Option.some.inj hd
  constructor
  · unfold mkN letOf
    split <;> rfl
  · rw [mkN_e]
    exact decide_eq_decide.2 mem_setOf

theorem behind_root {t : List Nd} {ps : List Txt} (h : Tells t t.length ps) {b : Nat} (hb : Behind t ps 0 b) : b = t.length := by
  have h1 := hb.le
  by_cases hlt : b < t.length
  · obtain ⟨_, y, _, hy⟩ := h.at hlt
    exact absurd List.nil_prefix (hb.stop [] y h.nil hy)
  · omega

theorem root_p {t : List Nd} {k : Nat} {ps : List Txt} (h : Tells t k ps) : ∃ d, t[0]? = some d ∧ d.p = -1 := by
  obtain ⟨e, he⟩ := h.root
  exact ⟨_, he, rfl⟩

set_option maxRecDepth 1000000 in
set_option maxHeartbeats 2000000 in
theorem implTrieOf_any (B : Nat) (a : Option Addr) (n c : Nat) (xs : List Txt) (w : World) (hB : B ≤ w.heap.size) (h : Wds B w a n c xs) :
    Calls Try.prog 23 #[.slice a n c] w (TrieRes w (tofT xs) (setOk xs)) := by
  have L := Lib.hid h.len
  have C := h.sl.cap
  have T := h.sl.top
  have H := Lib.hid h
  have HB := Lib.hid hB
  clear h hB
  have HBx0 := Lib.hid (Boxed.new w 30 (.slice none 0 0))
  have HB0 : Hid (Below w.heap.size w (w.alloc (.cells #[.slice none 0 0] 30))) := Lib.hid ((Below.refl _ _).alloc (Nat.le_refl _) _)
  have HZ0 : Hid ((w.alloc (.cells #[.slice none 0 0] 30)).heap.size = w.heap.size + 1) := Lib.hid (by simp)
  obtain ⟨ok, hok⟩ : ∃ ok, setOk xs = ok := ⟨_, rfl⟩
  obtain ⟨tt, htt⟩ : ∃ tt, tofT xs = tt := ⟨_, rfl⟩
  rw [hok, htt]
  have HOK := Lib.hid hok
  have HTT := Lib.hid htt
  clear hok htt
  go_enter Try.func23, Try.ntmps23
  go_upto_region 1 with fail
  obtain ⟨W1, hW1⟩ : ∃ W1, w.alloc (.cells #[.slice none 0 0] 30) = W1 := ⟨_, rfl⟩
  rw [hW1] at HBx0 HB0 HZ0 ⊢
  clear hW1
  have HTw0 := Lib.hid (Twigs.start (base := w.heap.size + 1) W1 (by have := HZ0.out; omega) (fun z => decide (z ∈ xs.take 0)) (by simp))
  have HB1 : Hid (Below (w.heap.size + 1) W1 (W1.alloc (.cells #[.int .i64 (-1), .bool false, .pointer none, .pointer none] 58))) := Lib.hid ((Below.refl _ _).alloc (by have := HZ0.out; omega) _)
  go_wp2
  go_loopw [5, 12] (fun q i wr => ∃ (k : Nat) (ps : List Txt) (A : Txt → Nat), k ≤ n ∧ i = .int .i64 k ∧ q = .int .i64 ((setOf (xs.take k)).length : Int) ∧ (setOf (xs.take k)).length ≤ 40 ∧ Hid (A [] = W1.heap.size) ∧ Hid (Twigs (w.heap.size + 1) wr ps (fun z => decide (z ∈ xs.take k)) A) ∧ Hid (Asc ps) ∧ Hid (∀ y, y ∈ ps ↔ y = [] ∨ ∃ v ∈ xs.take k, y <+: v) ∧ Hid (∀ x ∈ xs.take k, IsW x) ∧ Hid (Below (w.heap.size + 1) W1 wr)) (fun _ i _ => n - (intOf i).toNat)
  case atStart => exact ⟨0, [[]], _, Nat.zero_le _, rfl, rfl, by show (setOf []).length ≤ 40; simp [setOf], Lib.hid rfl, HTw0, Lib.hid (by simp), Lib.hid (fun y => by simp), Lib.hid (by simp), HB1⟩
  case round =>
    obtain ⟨k, ps, A, hk, rfl, rfl, h40, HRt, HTw, HAs, HMem, HI, HBw⟩ := hrel
    have HBox := Lib.hid (box_under HBx0.out HBw.out (by omega))
    have HBwr : Hid (Below w.heap.size w wr) := Lib.hid (HB0.out.trans (HBw.out.mono (by omega)))
    have hrc := HBox.out.cell
    have hrf := HBox.out.frozen
    have hzr : w.heap.size + 1 ≤ wr.heap.size := by have := HBw.out.size; have := HZ0.out; omega
    obtain ⟨m, hm⟩ : ∃ m, (setOf (xs.take k)).length = m := ⟨_, rfl⟩
    have HM := Lib.hid hm
    rw [hm] at h40 ⊢
    clear hm
    by_cases hlt : k < n
    · obtain ⟨b, o, t, rfl, hbB, ht, htz, hc⟩ := Wds.elem (xs := xs) (H.out.keep (HBwr.out.mono HB.out)) k hlt
      have HT := Lib.hid ht
      have cW := Lib.hid (implIsWord_any t wr htz)
      obtain ⟨r, hr⟩ : ∃ r, okW t = r := ⟨_, rfl⟩
      have HR := Lib.hid hr
      rw [hr] at cW
      clear ht hr
      cases r with
      | false =>
        have HOk : Hid (setOk xs = false) := Lib.hid (setOk_bad HT.out (fun hw => by have := okW_iff.2 hw; rw [HR.out] at this; cases this))
        obtain rfl : ok = false := HOK.out.symm.trans HOk.out
        obtain rfl : tt = [] := HTT.out.symm.trans (tofT_no HOk.out)
        clear hrc hrf
        go_wp2_with (go_at_call 33; refine cW.out.mono ?_; rintro en w2 ⟨rfl, hb2⟩; have hrc := (box_stay HBox.out hb2).cell; have hrf := (box_stay HBox.out hb2).frozen; have HB2 := Lib.hid (HBwr.out.trans (hb2.mono (by omega))); clear hb2)
        refine bodyPost_ret (v := .tuple #[.agg #[.slice none 0 0], .bool false]) (by simp [results, Try.results23, go_sem, hrc]) rfl ⟨_, rfl, World.ownsRow_nil _ _ _ _, HB2.out.setCell (Nat.le_refl _) _⟩
      | true =>
        obtain ⟨r2, hr2⟩ : ∃ r2, decide (tx t ∈ xs.take k) = r2 := ⟨_, rfl⟩
        have HR2 := Lib.hid hr2
        have HSu := Lib.hid (setOf_succ HT.out)
        have HTk : Hid (xs.take (k + 1) = xs.take k ++ [tx t]) := Lib.hid (by
          obtain ⟨hkl, e⟩ := List.getElem?_eq_some_iff.1 HT.out
          rw [List.take_succ_eq_append_getElem hkl, e])
        have HI2 : Hid (∀ x ∈ xs.take (k + 1), IsW x) := Lib.hid (fun x hx => by
          rw [HTk.out] at hx
          rcases List.mem_append.1 hx with hx | hx
          · exact HI.out x hx
          · rw [List.mem_singleton.1 hx]; exact okW_iff.1 HR.out)
        have cP : Hid (∀ W, Below wr.heap.size wr W → Calls Try.prog 49 #[.pointer (some ⟨W1.heap.size, 0, none⟩), .string t] W fun e w' => ∃ ps' A', e = .returned (.bool (!r2)) ∧ Twigs (w.heap.size + 1) w' ps' (fun z => decide (z ∈ xs.take (k + 1))) A' ∧ Asc ps' ∧ (∀ y, y ∈ ps' ↔ y = [] ∨ ∃ v ∈ xs.take (k + 1), y <+: v) ∧ A' [] = W1.heap.size ∧ Below (w.heap.size + 1) W w') := Lib.hid (fun W hW => by
          have c0 := putTwig_any (w.heap.size + 1) W ps _ A (HTw.out.below (Nat.le_refl _) hW) (by have := hW.size; omega) HAs.out t HR.out (fun z hz => decide_eq_false (fun hm => hz ((HMem.out z).2 (.inr ⟨z, hm, List.prefix_refl _⟩))))
          rw [HRt.out] at c0
          refine c0.mono ?_
          rintro e w' ⟨ps', A', rfl, h1, h2, h3, h4, h5, _⟩
          refine ⟨ps', A', by simp only [hr2], h1.enEq (fun z _ => ?_), h2, fun y => ?_, h4.trans HRt.out, h5⟩
          · rw [HTk.out, Bool.eq_iff_iff]
            simp only [Bool.or_eq_true, decide_eq_true_eq, List.mem_append, List.mem_singleton]
            exact ⟨fun h => h.elim .inr .inl, fun h => h.elim .inr .inl⟩
          · rw [h3, HMem.out, HTk.out]
            constructor
            · rintro ((h | ⟨v, hv, hp⟩) | h)
              · exact .inl h
              · exact .inr ⟨v, List.mem_append_left _ hv, hp⟩
              · exact .inr ⟨tx t, by simp, h⟩
            · rintro (h | ⟨v, hv, hp⟩)
              · exact .inl (.inl h)
              · rcases List.mem_append.1 hv with hv | hv
                · exact .inl (.inr ⟨v, hv, hp⟩)
                · rw [List.mem_singleton] at hv
                  rw [hv] at hp
                  exact .inr hp)
        clear hr2
        cases r2 with
        | true =>
          have HM2 : Hid ((setOf (xs.take (k + 1))).length = m) := Lib.hid (by
            rw [HSu.out, put_mem (setOf_asc _) (mem_setOf.2 (by simpa using HR2.out)), HM.out])
          clear hrc hrf
          go_wp2_with (first
            | (go_at_call 33; refine cW.out.mono ?_; rintro en w2 ⟨rfl, hb2⟩; have HB2 := Lib.hid hb2; clear hb2)
            | (go_at_call 49; refine (cP.out _ HB2.out).mono ?_; rintro en3 w3 ⟨ps3, A3, rfl, hT3, hA3, hM3, hR3, hb3⟩; have HT3 := Lib.hid hT3; have HA3 := Lib.hid hA3; have HM3 := Lib.hid hM3; have HR3 := Lib.hid hR3; have HB3 := Lib.hid (HBw.out.trans ((HB2.out.mono hzr).trans hb3)); clear hT3 hA3 hM3 hR3 hb3))
          go_roundw
          case rel => exact ⟨k + 1, ps3, A3, by omega, by go_num, by rw [HM2.out], by rw [HM2.out]; exact h40, HR3, HT3, HA3, HM3, HI2, HB3⟩
          case measure => simp [intOf]; omega
        | false =>
          have HM2 : Hid ((setOf (xs.take (k + 1))).length = m + 1) := Lib.hid (by
            rw [HSu.out, put_len_new (fun hh => by have h1 := HR2.out; simp only [decide_eq_false_iff_not] at h1; exact h1 (mem_setOf.1 hh)), HM.out])
          clear hrc hrf
          by_cases hmany : m + 1 ≤ 40
          · go_wp2_with (first
              | (go_at_call 33; refine cW.out.mono ?_; rintro en w2 ⟨rfl, hb2⟩; have HB2 := Lib.hid hb2; clear hb2)
              | (go_at_call 49; refine (cP.out _ HB2.out).mono ?_; rintro en3 w3 ⟨ps3, A3, rfl, hT3, hA3, hM3, hR3, hb3⟩; have HT3 := Lib.hid hT3; have HA3 := Lib.hid hA3; have HM3 := Lib.hid hM3; have HR3 := Lib.hid hR3; have HB3 := Lib.hid (HBw.out.trans ((HB2.out.mono hzr).trans hb3)); clear hT3 hA3 hM3 hR3 hb3))
            go_roundw
            case rel => exact ⟨k + 1, ps3, A3, by omega, by go_num, by rw [HM2.out]; go_num, by rw [HM2.out]; exact hmany, HR3, HT3, HA3, HM3, HI2, HB3⟩
            case measure => simp [intOf]; omega
          · have HOk : Hid (setOk xs = false) := Lib.hid (setOk_many (k := k + 1) (by rw [HM2.out]; omega))
            obtain rfl : ok = false := HOK.out.symm.trans HOk.out
            obtain rfl : tt = [] := HTT.out.symm.trans (tofT_no HOk.out)
            go_wp2_with (first
              | (go_at_call 33; refine cW.out.mono ?_; rintro en w2 ⟨rfl, hb2⟩; have HB2 := Lib.hid hb2; clear hb2)
              | (go_at_call 49; refine (cP.out _ HB2.out).mono ?_; rintro en3 w3 ⟨ps3, A3, rfl, hT3, hA3, hM3, hR3, hb3⟩; have HB3 := Lib.hid (HBw.out.trans ((HB2.out.mono hzr).trans hb3)); clear hT3 hA3 hM3 hR3 hb3; have hrc := (box_under HBx0.out HB3.out (by omega)).cell; have hrf := (box_under HBx0.out HB3.out (by omega)).frozen))
            refine bodyPost_ret (v := .tuple #[.agg #[.slice none 0 0], .bool false]) (by simp [results, Try.results23, go_sem, hrc]) rfl ⟨_, rfl, World.ownsRow_nil _ _ _ _, (HB0.out.trans (HB3.out.mono (by omega))).setCell (Nat.le_refl _) _⟩
    · obtain rfl : k = n := by omega
      have hx : xs.take k = xs := List.take_of_length_le (by have := L.out; omega)
      rw [hx] at HTw HMem HI HM
      clear hx
      have HOk : Hid (setOk xs = true) := Lib.hid (by rw [setOk_all HI.out]; exact decide_eq_true (by rw [HM.out]; exact h40))
      obtain rfl : ok = true := HOK.out.symm.trans HOk.out
      obtain rfl : tt = made (setOf xs) := HTT.out.symm.trans (tofT_yes HOk.out)
      have HP : Hid (ps = pres (setOf xs)) := Lib.hid (Pre.uniq (ws := setOf xs) ⟨HAs.out, fun y => by
        rw [HMem.out]
        constructor
        · rintro (h | ⟨v, hv, hp⟩)
          · exact .inl h
          · exact .inr ⟨v, mem_setOf.2 hv, hp⟩
        · rintro (h | ⟨v, hv, hp⟩)
          · exact .inl h
          · exact .inr ⟨v, mem_setOf.1 hv, hp⟩⟩ (pres_pre _))
      have hval := made_valid (setOf_asc xs) (setOk_words HOk.out).1 (setOk_words HOk.out).2
      rw [HP.out] at HTw
      obtain ⟨d, hd, hdp⟩ := root_p hval.tells
      have cN := number_any (w.heap.size + 1) wr.heap.size (pres (setOf xs)) _ A (made (setOf xs)) hval.tells made_match hval.size (fun x hx => HTw.out.lt hx) (made (setOf xs)).length 0 [] d (.slice none 0 0) wr (by omega) hval.tells.nil hd (Nat.le_refl _) (by simpa [ndc] using World.ownsRow_nil wr wr.heap.size 74 3) HTw.out
      rw [HRt.out, hdp] at cN
      have HCN := Lib.hid cN
      have HV := Lib.hid hval
      clear cN hval hd hdp hrc hrf
      go_wp2_with (go_at_call 50; refine HCN.out.mono ?_; rintro en w2 ⟨b2, v2, rfl, hbh, hO2, hG2⟩; obtain rfl := behind_root HV.out.tells hbh; rw [List.take_length] at hO2; have hb2 := hG2.to (World.ownsRow_nil wr wr.heap.size 74 3) (Nat.le_refl _); obtain ⟨a2, c2, rfl⟩ := own_slice hO2; have HO2 := Lib.hid hO2; have HB2 := Lib.hid hb2; clear hbh hG2 hb2 hO2; have hrc := (box_stay HBox.out HB2.out).cell; have hrf := (box_stay HBox.out HB2.out).frozen)
      refine bodyPost_ret (v := .tuple #[.agg #[.slice a2 (made (setOf xs)).length c2], .bool true]) (by simp [results, Try.results23, go_sem, hrc]) rfl ⟨_, rfl, ?_, (HBwr.out.trans (HB2.out.mono (by omega))).setCell (Nat.le_refl _) _⟩
      exact (own_down HO2.out (by omega)).kept (grownBy_setCell' w2 w.heap.size _) (.inr ((box_stay HBox.out HB2.out).not_row (by decide) HO2.out).symm)

end Go.Proofs.Ytmgieahachphmaa
