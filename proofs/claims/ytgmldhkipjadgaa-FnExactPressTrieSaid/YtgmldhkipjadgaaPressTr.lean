/-
  The pressed tree of a trie: both functions.
-/
import Derived.Test.YtgmldhkipjadgaaL4Press
import Derived.Test.YtgmldhkipjadgaaLimbB
import Derived.Test.YtgmldhkipjadgaaBelW
import Derived.Test.YtgmldhkipjadgaaIsTrie
import Derived.Test.YtgmldhkipjadgaaEqP
import Derived.Test.YtgmldhkipjadgaaPrFit
namespace Go.Proofs.Ytgmldhkipjadgaa
open Go.RowKit
set_option linter.unusedVariables false

theorem behind_end {t : List Nd} {ps : List Txt} (h : Tells t t.length ps) {b : Nat} (hb : Behind t ps 0 b) : b = t.length := by
  have h1 := hb.le
  by_cases hlt : b < t.length
  · obtain ⟨_, y, _, hy⟩ := h.at hlt
    exact absurd List.nil_prefix (hb.stop [] y h.nil hy)
  · omega

/-- a pressed tree that is read, and whether there is one -/
def ReadResB (w : World) (p : List Br) (ok : Bool) (e : Ending) (w' : World) : Prop :=
  ∃ a' c', e = .returned (.tuple #[.agg #[.slice a' p.length c'], .bool ok]) ∧ Brs w'.heap.size w' a' p.length c' p ∧ Below w.heap.size w w'
/-- a pressed tree that the call owns -/
def PresRes (w : World) (p : List Br) (ok : Bool) (e : Ending) (w' : World) : Prop :=
  ∃ v, e = .returned (.tuple #[.agg #[v], .bool ok]) ∧ w'.ownsRow w.heap.size 76 3 v p.length (brc p) ∧ Below w.heap.size w w'

theorem PresRes.read {w w' : World} {p : List Br} {ok : Bool} {e : Ending} (h : PresRes w p ok e w') (hf : FitsB p) : ReadResB w p ok e w' := by
  obtain ⟨v, rfl, hO, hb⟩ := h
  obtain ⟨a, c, rfl⟩ := own_slice hO
  exact ⟨a, c, rfl, own_brs hO hf, hb⟩

set_option maxRecDepth 1000000 in
set_option maxHeartbeats 2000000 in
theorem agreePressTrie (t : List Nd) (n : Nat) (hn : n ≤ 1048576) : ∃ (pp : List Br) (ok : Bool), FitsB pp ∧ pp.length ≤ 81 ∧
    (∀ (W : World) (a : Option Addr), Nds W.heap.size W a n n t → Calls Try.prog 15 #[.agg #[.slice a n n]] W (PresRes W pp ok)) ∧
    (∀ (W : World) (a : Option Addr), Nds W.heap.size W a n n t → Calls Try.prog 17 #[.agg #[.slice a n n]] W (PresRes W pp ok)) := by
  have pre : ∀ (W : World) (a : Option Addr), Nds W.heap.size W a n n t → Hid (Below W.heap.size W ((W.alloc (.cells #[.slice a n n] 41)).alloc (.cells #[.slice none 0 0] 29)) ∧ Boxed ((W.alloc (.cells #[.slice a n n] 41)).alloc (.cells #[.slice none 0 0] 29)) W.heap.size 41 (.slice a n n) ∧ Boxed ((W.alloc (.cells #[.slice a n n] 41)).alloc (.cells #[.slice none 0 0] 29)) (W.heap.size + 1) 29 (.slice none 0 0) ∧ Nds W.heap.size ((W.alloc (.cells #[.slice a n n] 41)).alloc (.cells #[.slice none 0 0] 29)) a n n t) := fun W a hN => Lib.hid (by
    have hb : Below W.heap.size W ((W.alloc (.cells #[.slice a n n] 41)).alloc (.cells #[.slice none 0 0] 29)) := ((Below.refl _ _).alloc (Nat.le_refl _) _).alloc (by simp) _
    have hb2 := Boxed.new (W.alloc (.cells #[.slice a n n] 41)) 29 (.slice none 0 0)
    simp only [World.size_alloc] at hb2
    exact ⟨hb, (Boxed.new W _ _).alloc _, hb2, hN.keep hb⟩)
  obtain ⟨ok, hok⟩ : ∃ ok, trieB t = ok := ⟨_, rfl⟩
  have HOK := Lib.hid hok
  have cS : Hid (∀ (W : World) (a : Option Addr) (B : Nat), B ≤ W.heap.size → Nds B W a n n t → Calls Try.prog 39 #[.agg #[.slice a n n]] W fun e w' => e = .returned (.bool ok) ∧ Below W.heap.size W w') := Lib.hid (fun W a B hB h => by
    have h0 := l2Trie_any B a n n t W hB h hn
    rwa [hok] at h0)
  have cI : Hid (∀ (W : World) (a : Option Addr) (B : Nat), B ≤ W.heap.size → Nds B W a n n t → Calls Try.prog 42 #[.agg #[.slice a n n]] W fun e w' => e = .returned (.bool ok) ∧ Below W.heap.size W w') := Lib.hid (fun W a B hB h => by
    have h0 := isTrie_any B a n n t W hB h
    rwa [hok] at h0)
  clear hok
  cases ok with
  | false =>
    refine ⟨[], false, fun d hd => by (cases hd), by simp, fun W a hN => ?_, fun W a hN => ?_⟩
    all_goals
      have HP := pre W a hN
      have hbx := HP.out.2.1.cell
    · have c1 := Lib.hid (cS.out _ a W.heap.size HP.out.1.size HP.out.2.2.2)
      clear hN
      go_enter Try.func15, Try.ntmps15
      go_wp2_with (go_at_call 39; refine c1.out.mono ?_; rintro e w2 ⟨rfl, hb2⟩; have HR2 := Lib.hid (box_stay HP.out.2.2.1 hb2); have HB2 := Lib.hid (HP.out.1.trans (hb2.mono HP.out.1.size)); have hrc := HR2.out.cell; have hrf := HR2.out.frozen; clear hb2)
      refine bodyPost_ret (v := .tuple #[.agg #[.slice none 0 0], .bool false]) (by simp [results, Try.results15, go_sem, hrc]) rfl ⟨_, rfl, World.ownsRow_nil _ _ _ _, HB2.out.setCell (p := ⟨W.heap.size + 1, 0, none⟩) (by simp) _⟩
    · have c1 := Lib.hid (cI.out _ a W.heap.size HP.out.1.size HP.out.2.2.2)
      clear hN
      go_enter Try.func17, Try.ntmps17
      go_wp2_with (go_at_call 42; refine c1.out.mono ?_; rintro e w2 ⟨rfl, hb2⟩; have HR2 := Lib.hid (box_stay HP.out.2.2.1 hb2); have HB2 := Lib.hid (HP.out.1.trans (hb2.mono HP.out.1.size)); have hrc := HR2.out.cell; have hrf := HR2.out.frozen; clear hb2)
      refine bodyPost_ret (v := .tuple #[.agg #[.slice none 0 0], .bool false]) (by simp [results, Try.results17, go_sem, hrc]) rfl ⟨_, rfl, World.ownsRow_nil _ _ _ _, HB2.out.setCell (p := ⟨W.heap.size + 1, 0, none⟩) (by simp) _⟩
  | true =>
    obtain ⟨ps, hv⟩ := trieB_iff.1 HOK.out
    have HV := Lib.hid hv
    have h40 : (wds t ps).length ≤ 40 := by rw [hv.wordsLen]; exact hv.few
    have HPF := Lib.hid (prw_fits hv.wordsW h40)
    have HPL := prw_few (wds t ps)
    obtain ⟨pp, hpp⟩ : ∃ pp, prw (wds t ps) = pp := ⟨_, rfl⟩
    have HPP := Lib.hid hpp
    rw [hpp] at HPF HPL
    clear hpp hv
    refine ⟨pp, true, HPF.out, by omega, fun W a hN => ?_, fun W a hN => ?_⟩
    all_goals
      have HP := pre W a hN
      have hbx := HP.out.2.1.cell
      have HL := Lib.hid hN.len
    · have c1 := Lib.hid (cS.out _ a W.heap.size HP.out.1.size HP.out.2.2.2)
      have cP : Hid (∀ w', Below W.heap.size W w' → Nds W.heap.size w' a n n t → Calls Try.prog 40 #[.agg #[.slice a n n]] w' (PresPost w' pp)) := Lib.hid (fun w' hb h => by
        have h0 := l4Press_any a n n t ps w' (h.mono hb.size) HV.out
        rwa [HPP.out] at h0)
      have HN := Lib.hid hN
      clear hN
      go_enter Try.func15, Try.ntmps15
      go_wp2_with (first
        | (go_at_call 39; refine c1.out.mono ?_; rintro e w2 ⟨rfl, hb2⟩; have HR2 := Lib.hid (box_stay HP.out.2.2.1 hb2); have HB2 := Lib.hid (HP.out.1.trans (hb2.mono HP.out.1.size)); have hbx2 := (box_stay HP.out.2.1 hb2).cell; clear hb2)
        | (go_at_call 40; refine (cP.out _ HB2.out (HN.out.keep HB2.out)).mono ?_; rintro e w3 ⟨v3, rfl, hO3, hb3⟩; obtain ⟨a3, c3, rfl⟩ := own_slice hO3; have HO3 := Lib.hid (own_down hO3 HB2.out.size); have HR3 := Lib.hid (box_stay HR2.out hb3); have HB3 := Lib.hid (HB2.out.trans (hb3.mono HB2.out.size)); have hrc := HR3.out.cell; have hrf := HR3.out.frozen; clear hO3 hb3)
        | fail)
      refine bodyPost_ret (v := .tuple #[.agg #[.slice a3 pp.length c3], .bool true]) (by simp [results, Try.results15, go_sem, hrc]) rfl ⟨_, rfl, ?_, HB3.out.setCell (p := ⟨W.heap.size + 1, 0, none⟩) (by simp) _⟩
      exact HO3.out.kept (grownBy_setCell' w3 (W.heap.size + 1) _) (.inr (HR3.out.not_row (by decide) HO3.out).symm)
    · have c1 := Lib.hid (cI.out _ a W.heap.size HP.out.1.size HP.out.2.2.2)
      have cW : Hid (∀ w', Below W.heap.size W w' → Nds W.heap.size w' a n n t → Calls Try.prog 44 #[.agg #[.slice a n n], .int .i64 0] w' fun e w'' => ∃ a2 m2 c2, e = .returned (.slice a2 m2 c2) ∧ m2 ≤ 40 ∧ Wds w''.heap.size w'' a2 m2 c2 (wds t ps) ∧ Below w'.heap.size w' w'') := Lib.hid (fun w' hb h => by
        have hpos : 0 < n := by rw [← HL.out]; exact HV.out.tells.pos
        have h0 := wordsBelow_any W.heap.size a n n 0 t ps w' hb.size h HV.out hpos
        refine h0.mono ?_
        rintro e w'' ⟨v, b, rfl, hB, hO, hb2⟩
        obtain rfl := behind_end HV.out.tells hB
        rw [midw_all HV.out.lenEq] at hO
        obtain ⟨a2, c2, rfl, hW⟩ := own_wds hO (fun x hx => by have := (HV.out.wordsW x hx).1; omega)
        exact ⟨a2, _, c2, rfl, h40, hW, hb2⟩)
      have cP : Hid (∀ w' a2 m2 c2, m2 ≤ 40 → Wds w'.heap.size w' a2 m2 c2 (wds t ps) → Calls Try.prog 43 #[.slice a2 m2 c2] w' (PresPost w' pp)) := Lib.hid (fun w' a2 m2 c2 hm h => by
        have h0 := pressWords_any w'.heap.size a2 m2 c2 (wds t ps) w' (Nat.le_refl _) h (by omega) HV.out.wordsW
        rwa [HPP.out] at h0)
      have HN := Lib.hid hN
      clear hN
      go_enter Try.func17, Try.ntmps17
      go_wp2_with (first
        | (go_at_call 42; refine c1.out.mono ?_; rintro e w2 ⟨rfl, hb2⟩; have HR2 := Lib.hid (box_stay HP.out.2.2.1 hb2); have HB2 := Lib.hid (HP.out.1.trans (hb2.mono HP.out.1.size)); have hbx2 := (box_stay HP.out.2.1 hb2).cell; clear hb2)
        | (go_at_call 44; refine (cW.out _ HB2.out (HN.out.keep HB2.out)).mono ?_; rintro e w3 ⟨a2, m2, c2, rfl, hm2, hW3, hb3⟩; have HW3 := Lib.hid hW3; have HR3 := Lib.hid (box_stay HR2.out hb3); have HB3 := Lib.hid (HB2.out.trans (hb3.mono HB2.out.size)); clear hW3 hb3)
        | (go_at_call 43; refine (cP.out _ _ _ _ hm2 HW3.out).mono ?_; rintro e w4 ⟨v4, rfl, hO4, hb4⟩; obtain ⟨a4, c4, rfl⟩ := own_slice hO4; have HO4 := Lib.hid (own_down hO4 HB3.out.size); have HR4 := Lib.hid (box_stay HR3.out hb4); have HB4 := Lib.hid (HB3.out.trans (hb4.mono HB3.out.size)); have hrc := HR4.out.cell; have hrf := HR4.out.frozen; clear hO4 hb4)
        | fail)
      refine bodyPost_ret (v := .tuple #[.agg #[.slice a4 pp.length c4], .bool true]) (by simp [results, Try.results17, go_sem, hrc]) rfl ⟨_, rfl, ?_, HB4.out.setCell (p := ⟨W.heap.size + 1, 0, none⟩) (by simp) _⟩
      exact HO4.out.kept (grownBy_setCell' w4 (W.heap.size + 1) _) (.inr (HR4.out.not_row (by decide) HO4.out).symm)

end Go.Proofs.Ytgmldhkipjadgaa
