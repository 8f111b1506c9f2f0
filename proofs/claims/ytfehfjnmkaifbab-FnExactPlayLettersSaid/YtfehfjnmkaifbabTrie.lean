/-
  The reference's test of a trie: it is that of its words.
-/
import Derived.Test.YtfehfjnmkaifbabOf
import Derived.Deep.RegionHeld3
namespace Go.Proofs.Ytfehfjnmkaifbab
open Go.RowKit
set_option linter.unusedVariables false

open Classical in
/-- the nodes are a valid trie -/
noncomputable def trieB (t : List Nd) : Bool := decide (IsT t)

theorem trieB_iff {t : List Nd} : trieB t = true ↔ IsT t := by simp [trieB]
theorem trieB_no {t : List Nd} (h : ¬ IsT t) : trieB t = false := by simp [trieB, h]
theorem trieB_not {t : List Nd} (h : trieB t = false) : ¬ IsT t := fun k => by rw [trieB_iff.2 k] at h; cases h

theorem isT_size {t : List Nd} (h : IsT t) : 1 ≤ t.length ∧ t.length ≤ 481 := by
  obtain ⟨ps, hv⟩ := h
  exact ⟨hv.tells.pos, hv.size⟩

theorem raw_ok {t : List Nd} {rs : List Txt} (h : ∀ ps, Valid t ps → rs = wds t ps) (ht : IsT t) : setOk rs = true := by
  obtain ⟨ps, hv⟩ := ht
  have e := h ps hv
  rw [setOk_all (by rw [e]; exact hv.wordsW), e, setOf_id hv.wordsAsc, hv.wordsLen]
  simpa using hv.few

theorem made_iff {t : List Nd} {rs ps : List Txt} (h : ∀ ps, Valid t ps → rs = wds t ps) (hok : setOk rs = true) (hp : Pre (setOf rs) ps) (hs : ps.length ≤ 481) : trieB t = true ↔ mkT (setOf rs) ps = t := by
  rw [trieB_iff]
  constructor
  · rintro ⟨qs, hv⟩
    have e := h qs hv
    rw [e, setOf_id hv.wordsAsc] at hp ⊢
    have := hp.uniq hv.pre
    subst this
    exact hv.made
  · intro e
    have := mk_valid (setOf_asc rs) (setOk_words hok).1 (setOk_words hok).2 hp hs
    rw [e] at this
    exact ⟨ps, this⟩

set_option maxRecDepth 1000000 in
set_option maxHeartbeats 2000000 in
theorem l2Trie_any (B : Nat) (a : Option Addr) (n c : Nat) (t : List Nd) (w : World) (hB : B ≤ w.heap.size) (h : Nds B w a n c t) (hn : n ≤ 1048576) :
    Calls Try.prog 89 #[.agg #[.slice a n c]] w fun e w' => e = .returned (.bool (trieB t)) ∧ Below w.heap.size w w' := by
  have L := Lib.hid h.len
  have C := h.cap
  have T := h.top
  have H := Lib.hid h
  have HB := Lib.hid hB
  clear h hB
  obtain ⟨r, hr⟩ : ∃ r, trieB t = r := ⟨_, rfl⟩
  have HR := Lib.hid hr
  rw [hr]
  clear hr
  have HB1 : Hid (Below w.heap.size w (w.alloc (.cells #[.slice a n c] 30))) := Lib.hid ((Below.refl _ _).alloc (Nat.le_refl _) _)
  by_cases h1 : (1 : Int) ≤ (n : Int)
  · by_cases h2 : (n : Int) ≤ 481
    · have cW := Lib.hid (l2Words_any B a n c t (w.alloc (.cells #[.slice a n c] 30)) (by have := HB.out; simp; omega) (H.out.keep (HB1.out.mono HB.out)) hn)
      go_enter Try.func89, Try.ntmps89
      go_wp2_with fail
      refine (l1In_yes _ ⟨h1, h2⟩).mono ?_
      rintro e w' ⟨rfl, rfl⟩
      go_wp2_with fail
      refine cW.out.mono ?_
      rintro e w2 ⟨a2, n2, c2, rs, rfl, hW2, hn2, hraw, hsh, hb2⟩
      have HW2 := Lib.hid hW2
      have HRaw := Lib.hid hraw
      have HB2 := Lib.hid hb2
      have hn2' : n2 ≤ 1048576 := by have := L.out; omega
      clear hW2 hraw hsh hb2 hn2
      have cS := Lib.hid (l2Set_any w2.heap.size a2 n2 c2 rs w2 (Nat.le_refl _) HW2.out hn2')
      obtain ⟨ok, hok⟩ : ∃ ok, setOk rs = ok := ⟨_, rfl⟩
      have HK := Lib.hid hok
      rw [hok] at cS
      clear hok
      go_wp2_with fail
      refine cS.out.mono ?_
      rintro e w3 ⟨a3, n3, c3, rfl, hW3, hb3⟩
      have HB3 : Hid (Below (w.heap.size + 1) (w.alloc (.cells #[.slice a n c] 30)) w3) := Lib.hid (by
        have := HB2.out.trans (hb3.mono HB2.out.size)
        simpa using this)
      have hbox : w3.cell? ⟨w.heap.size, 0, none⟩ = some (.slice a n c) := (HB3.out.cell (p := ⟨w.heap.size, 0, none⟩) (by simp)).trans (by simp)
      have HBw : Hid (Below w.heap.size w w3) := Lib.hid (HB1.out.trans (HB3.out.mono (by omega)))
      cases ok with
      | false =>
        have HX : Hid (r = false) := Lib.hid (HR.out.symm.trans <| trieB_no (fun ht => by have := raw_ok HRaw.out ht; rw [HK.out] at this; cases this))
        clear hW3
        go_wp2_with fail
        go_quiet (fail)
        go_wp2
        go_ret
        exact ⟨ret_bool HX.out.symm, below_drewN HBw.out _⟩
      | true =>
        have HW3 := Lib.hid (hW3 rfl)
        clear hW3
        have hn40 : n3 ≤ 40 := by have := (setOk_words HK.out).2; have := HW3.out.len; omega
        have cO : Hid (∀ W, Below w3.heap.size w3 W → Calls Try.prog 56 #[.slice a3 n3 c3] W (OfPost W (setOf rs))) := Lib.hid (fun W hW => l2Of_any w3.heap.size a3 n3 c3 (setOf rs) W hW.size (HW3.out.keep hW) hn40 (setOk_words HK.out).1)
        have cE : Hid (∀ (W : World) (a' : Option Addr) (n' c' : Nat) (ps : List Txt), Below w.heap.size w W → Nds W.heap.size W a' n' c' (mkT (setOf rs) ps) → Pre (setOf rs) ps → ps.length ≤ 481 → Calls Try.prog 101 #[.agg #[.slice a' n' c'], .agg #[.slice a n c]] W fun e w' => e = .returned (.bool r) ∧ Below W.heap.size W w') := Lib.hid (fun W a' n' c' ps hW hN hP hs => by
          have := hN.len
          rw [mkT_len] at this
          exact l2Same_any W.heap.size a' a n' c' n c (mkT (setOf rs) ps) t W (Nat.le_refl _) hN ((H.out.keep (hW.mono HB.out)).mono (Nat.le_trans HB.out hW.size)) (by omega) hn r (by have := made_iff HRaw.out HK.out hP hs; rwa [HR.out] at this))
        go_wp2_with fail
        go_region_held3 (fun w' => w'.cell? ⟨w.heap.size, 0, none⟩ = some (.slice a n c))
          (first
            | (simpa using hbox)
            | (exact (hb5.cell (p := ⟨w.heap.size, 0, none⟩) (by have := HB3.out.size; have := hb4.size; simp at *; omega)).trans ((hb4.cell (p := ⟨w.heap.size, 0, none⟩) (by have := HB3.out.size; simp at this ⊢; omega)).trans (by simpa using hbox)))
            | (exact (hb4.cell (p := ⟨w.heap.size, 0, none⟩) (by have := HB3.out.size; simp at this ⊢; omega)).trans (by simpa using hbox)))
          (first
            | (go_at_call 56; refine (cO.out _ (by exact (Below.refl _ _).drew)).mono ?_; rintro e w4 ⟨a4, n4, c4, ps, rfl, hN, hP, h481, hb4⟩)
            | (go_at_call 101; refine (cE.out _ _ _ _ ps (by exact HBw.out.trans ((Below.refl _ _).drew.trans (hb4.mono (by have := HBw.out.size; simpa using this)))) hN hP h481).mono ?_; rintro e w5 ⟨rfl, hb5⟩))
        go_wp2
        go_ret
        exact ⟨rfl, (HBw.out.trans ((Below.refl _ _).drew.trans (hb4.mono (by have := HBw.out.size; simpa using this)))).trans (hb5.mono (by have := HBw.out.size; have := hb4.size; simp at this; omega))⟩
    · have HX : Hid (r = false) := Lib.hid (HR.out.symm.trans <| trieB_no (fun ht => by have := (isT_size ht).2; have := L.out; omega))
      go_enter Try.func89, Try.ntmps89
      go_wp2_with fail
      refine (l1In_no _ (fun hh => by omega)).mono ?_
      rintro e w' ⟨rfl, rfl⟩
      go_wp2_with fail
      go_ret
      exact ⟨ret_bool HX.out.symm, HB1.out⟩
  · have HX : Hid (r = false) := Lib.hid (HR.out.symm.trans <| trieB_no (fun ht => by have := (isT_size ht).1; have := L.out; omega))
    go_enter Try.func89, Try.ntmps89
    go_wp2_with fail
    refine (l1In_no _ (fun hh => by omega)).mono ?_
    rintro e w' ⟨rfl, rfl⟩
    go_wp2_with fail
    go_ret
    exact ⟨ret_bool HX.out.symm, HB1.out⟩

end Go.Proofs.Ytfehfjnmkaifbab
