import Derived.Test.YtmgieahachphmaaAddWord
import Derived.Test.YtmgieahachphmaaDelete
import Derived.Deep.RegionHeld3
import Derived.IntWalk

/-
  A word less: the contracts of the reference's function and of the program's.
-/
namespace Go.Proofs.Ytmgieahachphmaa
open Go.RowKit
set_option linter.unusedVariables false

/-- without a word -/
def minus (ws : List Txt) (x : Txt) : List Txt := ws.take (ws.idxOf x) ++ ws.drop (ws.idxOf x + 1)

theorem minus_sub (ws : List Txt) (x : Txt) : (minus ws x).Sublist ws := by
  unfold minus
  have : (ws.take (ws.idxOf x) ++ ws.drop (ws.idxOf x + 1)).Sublist (ws.take (ws.idxOf x) ++ ws.drop (ws.idxOf x)) := by
    refine List.Sublist.append_left ?_ _
    rw [← List.drop_drop]
    exact List.drop_sublist 1 _
  rwa [List.take_append_drop] at this

noncomputable def dropOk (t : List Nd) (x : Txt) : Bool := decide (x ∈ wordsOf t)
noncomputable def dropT (t : List Nd) (x : Txt) : List Nd := if dropOk t x then made (minus (wordsOf t) x) else []

theorem dropT_no {t : List Nd} {x : Txt} (h : x ∉ wordsOf t) : dropT t x = [] ∧ dropOk t x = false := by simp [dropT, dropOk, h]
theorem dropT_yes {t : List Nd} {x : Txt} (h : x ∈ wordsOf t) : dropT t x = made (minus (wordsOf t) x) ∧ dropOk t x = true := by simp [dropT, dropOk, h]

theorem minus_few (t : List Nd) (x : Txt) : (minus (wordsOf t) x).length ≤ 40 := Nat.le_trans (minus_sub _ _).length_le (wordsOf_size t)
theorem minus_isW (t : List Nd) (x : Txt) : ∀ y ∈ minus (wordsOf t) x, IsW y := fun y hy => wordsOf_isW t y ((minus_sub _ _).subset hy)
theorem minus_asc (t : List Nd) (x : Txt) : Asc (minus (wordsOf t) x) := (wordsOf_asc t).sublist (minus_sub _ _)
theorem minus_ok (t : List Nd) (x : Txt) : setOk (minus (wordsOf t) x) = true ∧ tofT (minus (wordsOf t) x) = made (minus (wordsOf t) x) := by
  have h1 : setOk (minus (wordsOf t) x) = true := by
    rw [setOk_all (minus_isW t x), setOf_id (minus_asc t x)]
    exact decide_eq_true (minus_few t x)
  exact ⟨h1, by rw [tofT_yes h1, setOf_id (minus_asc t x)]⟩

theorem dropT_fits (t : List Nd) (x : Txt) : Fits (dropT t x) := by
  by_cases h : x ∈ wordsOf t
  · rw [(dropT_yes h).1]; exact made_fits (minus_isW t x) (minus_few t x)
  · rw [(dropT_no h).1]; intro d hd; cases hd
theorem dropT_len (t : List Nd) (x : Txt) : (dropT t x).length ≤ 481 := by
  by_cases h : x ∈ wordsOf t
  · rw [(dropT_yes h).1]
    unfold made
    rw [mkT_len]
    exact pre_few (minus_isW t x) (minus_few t x) (pres_pre _)
  · rw [(dropT_no h).1]; simp

theorem plc_no {xs : List Txt} {x : Txt} (h : x ∉ xs) : plc xs x = -1 := if_neg h
theorem plc_yes {xs : List Txt} {x : Txt} (h : x ∈ xs) : plc xs x = (xs.idxOf x : Int) := if_pos h

set_option maxRecDepth 1000000 in
set_option maxHeartbeats 1000000 in
theorem implDropWord_any (B : Nat) (a : Option Addr) (n c : Nat) (t : List Nd) (s : ByteArray) (w : World) (hB : B ≤ w.heap.size) (h : Nds B w a n c t) (hs : s.size ≤ 9223372036854775807) :
    Calls Try.prog 29 #[.agg #[.slice a n c], .string s] w (TrieRes w (dropT t (tx s)) (dropOk t (tx s))) := by
  have HBox : Hid (Boxed ((w.alloc (.cells #[.slice a n c] 30)).alloc (.cells #[.slice none 0 0] 30)) (w.heap.size + 1) 30 (.slice none 0 0)) := Lib.hid (by simpa using Boxed.new (w.alloc (.cells #[.slice a n c] 30)) 30 (.slice none 0 0))
  have hbx : ((w.alloc (.cells #[.slice a n c] 30)).alloc (.cells #[.slice none 0 0] 30)).cell? ⟨w.heap.size, 0, none⟩ = some (.slice a n c) := by
    rw [World.cell?_alloc_lt _ _ _ (by simp)]
    simp
  have HB2 : Hid (Below w.heap.size w ((w.alloc (.cells #[.slice a n c] 30)).alloc (.cells #[.slice none 0 0] 30))) := Lib.hid (((Below.refl _ _).alloc (Nat.le_refl _) _).alloc (by simp) _)
  have hlt : w.heap.size < ((w.alloc (.cells #[.slice a n c] 30)).alloc (.cells #[.slice none 0 0] 30)).heap.size := by simp; omega
  have HN := Lib.hid (h.keep (HB2.out.mono hB))
  have HB := Lib.hid hB
  obtain ⟨ok, hok⟩ : ∃ ok, dropOk t (tx s) = ok := ⟨_, rfl⟩
  obtain ⟨tt, htt⟩ : ∃ tt, dropT t (tx s) = tt := ⟨_, rfl⟩
  rw [hok, htt]
  have HOK := Lib.hid hok
  have HTT := Lib.hid htt
  have hws40 := wordsOf_size t
  have HSh : Hid (∀ x ∈ wordsOf t, x.length ≤ 9223372036854775807) := Lib.hid (fun x hx => by have := wordsOf_short t x hx; omega)
  have HAsc := Lib.hid (wordsOf_asc t)
  have HIsW := Lib.hid (wordsOf_isW t)
  obtain ⟨r, hr⟩ : ∃ r, trieB t = r := ⟨_, rfl⟩
  have HR := Lib.hid hr
  clear h hB hok htt
  have HMin := Lib.hid (minus_ok t (tx s))
  go_enter Try.func29, Try.ntmps29
  go_wp2_with fail
  obtain ⟨W2, hW2⟩ : ∃ W2, (w.alloc (.cells #[.slice a n c] 30)).alloc (.cells #[.slice none 0 0] 30) = W2 := ⟨_, rfl⟩
  rw [hW2] at HBox HB2 HN hbx hlt ⊢
  clear hW2 hbx
  refine (implWords_any B a n c t W2 (Nat.le_trans HB.out HB2.out.size) HN.out).mono ?_
  rw [hr]
  have HNoW : Hid (r = false → wordsOf t = []) := Lib.hid (fun h => wordsOf_no (trieB_not (hr.trans h)))
  have HDrop : Hid (tx s ∉ wordsOf t → tt = [] ∧ ok = false) := Lib.hid (fun h => ⟨HTT.out.symm.trans (dropT_no h).1, HOK.out.symm.trans (dropT_no h).2⟩)
  have HKeep : Hid (tx s ∈ wordsOf t → tt = made (minus (wordsOf t) (tx s)) ∧ ok = true) := Lib.hid (fun h => ⟨HTT.out.symm.trans (dropT_yes h).1, HOK.out.symm.trans (dropT_yes h).2⟩)
  obtain ⟨ws, hws⟩ : ∃ ws, wordsOf t = ws := ⟨_, rfl⟩
  rw [hws] at HSh hws40 HNoW HDrop HKeep HMin ⊢
  clear hr hws HTT HOK
  rintro e w3 ⟨v3, rfl, hO3, hb3⟩
  have HB3 := Lib.hid (HB2.out.trans (hb3.mono HB2.out.size))
  have HB23 := Lib.hid hb3
  have HBox3 := Lib.hid (box_stay HBox.out hb3)
  have hz3 := hb3.size
  obtain ⟨a3, c3, rfl, hW3⟩ := own_wds hO3 HSh.out
  have HW3 := Lib.hid hW3
  obtain ⟨m, hm⟩ : ∃ m, ws.length = m := ⟨_, rfl⟩
  have HM := Lib.hid hm
  rw [hm] at HW3 hO3 hws40
  simp only [hm]
  have HO3 := Lib.hid hO3
  clear hO3 hb3 hW3 hm
  cases r with
  | false =>
    have hw0 := HNoW.out rfl
    obtain ⟨e1, e2⟩ := HDrop.out (by rw [hw0]; simp)
    subst e1 e2
    have hrc := HBox3.out.cell
    have hrf := HBox3.out.frozen
    clear hw0
    go_wp2_with fail
    refine bodyPost_ret (v := .tuple #[.agg #[.slice none 0 0], .bool false]) (by simp [results, Try.results29, go_sem, hrc]) rfl ⟨_, rfl, World.ownsRow_nil _ _ _ _, HB3.out.setCell (p := ⟨w.heap.size + 1, 0, none⟩) (Nat.le_succ _) _⟩
  | true =>
    have cI := Lib.hid (index_any w3.heap.size a3 m c3 ws s w3 (Nat.le_refl _) HW3.out hs)
    by_cases hin : tx s ∈ ws
    · obtain ⟨e1, e2⟩ := HKeep.out hin
      subst e1 e2
      obtain ⟨k, hk⟩ : ∃ k, ws.idxOf (tx s) = k := ⟨_, rfl⟩
      have hkm : k < m := by rw [← hk, ← HM.out]; exact List.idxOf_lt_length_of_mem hin
      rw [plc_yes hin, hk] at cI
      obtain ⟨g, cg, hg⟩ : ∃ g cg, Value.slice a3 m c3 = .slice (some ⟨g, 0, none⟩) m cg := by
        rcases HO3.out.2 with ⟨_, h0⟩ | ⟨g, cap, cur, h', _⟩
        · omega
        · exact ⟨g, cap, h'⟩
      injection hg with e1 _ e3
      subst e1 e3
      have HMk : Hid (ws.take k ++ ws.drop (k + 1) = minus ws (tx s)) := Lib.hid (by unfold minus; rw [hk])
      have HSh2 : Hid (∀ x ∈ minus ws (tx s), x.length ≤ 9223372036854775807) := Lib.hid (fun x hx => HSh.out x ((minus_sub _ _).subset hx))
      obtain ⟨m4, hm4⟩ : ∃ m4, (minus ws (tx s)).length = m4 := ⟨_, rfl⟩
      have HL4 : Hid (m - 1 = m4) := Lib.hid (by rw [← hm4, ← HMk.out, ← HM.out]; simp; have := HM.out; omega)
      have cD := Lib.hid (delete_own W2.heap.size g m c3 k ws w3 HO3.out hkm)
      rw [HMk.out, HL4.out] at cD
      have HM4 := Lib.hid hm4
      have e1 : ((k + 1 : Nat) : Int) = (k : Int) + 1 := by omega
      rw [e1] at cD
      clear hin hk e1 hm4
      go_wp2_with (first
        | (go_at_call 56; refine cI.out.mono ?_; rintro e w4 ⟨rfl, rfl⟩)
        | (go_at_call 57; refine cD.out.mono ?_; rintro e w4 ⟨rfl, hO4, hg4⟩; obtain ⟨a9, c9, e9, hW4⟩ := own_wds (n := m4) (xs := minus ws (tx s)) hO4 HSh2.out; injection e9 with e91 _ e93; subst e91 e93; have HW4 := Lib.hid hW4; have hb24 : Below W2.heap.size w3 w4 := (Below.refl _ _).grown hg4 hz3 (fun q hq => by cases hq; exact (own_ge HO3.out (g := g) rfl).1); have HB4 := Lib.hid (HB3.out.trans (hb24.mono (Nat.le_of_lt hlt))); have HBox4 := Lib.hid (box_under HBox.out (HB23.out.trans hb24) HBox.out.lt); clear hO4 hg4 hW4 hb24)
        | (go_at_call 23; refine (implTrieOf_any w4.heap.size _ m4 c3 (minus ws (tx s)) w4 (Nat.le_refl _) HW4.out).mono ?_; rw [HMin.out.1, HMin.out.2]; rintro e w5 ⟨v5, rfl, hO5, hb5⟩; obtain ⟨a5, c5, rfl⟩ := own_slice hO5; have HO5 := Lib.hid hO5; have HB5 := Lib.hid (HB4.out.trans (hb5.mono HB4.out.size)); have HBox5 := Lib.hid (box_stay HBox4.out hb5); have hz5 := hb5.size; clear hO5 hb5; have hrc := HBox5.out.cell; have hrf := HBox5.out.frozen))
      refine bodyPost_ret (v := .tuple #[.agg #[.slice a5 (made (minus ws (tx s))).length c5], .bool true]) (by simp [results, Try.results29, go_sem, hrc]) rfl ⟨_, rfl, ?_, HB5.out.setCell (p := ⟨w.heap.size + 1, 0, none⟩) (Nat.le_succ _) _⟩
      exact (own_down HO5.out HB4.out.size).kept (grownBy_setCell' w5 (w.heap.size + 1) _) (.inr (HBox5.out.not_row (by decide) HO5.out).symm)
    · obtain ⟨e1, e2⟩ := HDrop.out hin
      subst e1 e2
      rw [plc_no hin] at cI
      have hrc := HBox3.out.cell
      have hrf := HBox3.out.frozen
      clear hin
      go_wp2_with (go_at_call 56; refine cI.out.mono ?_; rintro e w4 ⟨rfl, rfl⟩)
      refine bodyPost_ret (v := .tuple #[.agg #[.slice none 0 0], .bool false]) (by simp [results, Try.results29, go_sem, hrc]) rfl ⟨_, rfl, World.ownsRow_nil _ _ _ _, HB3.out.setCell (p := ⟨w.heap.size + 1, 0, none⟩) (Nat.le_succ _) _⟩

end Go.Proofs.Ytmgieahachphmaa

/-
  A word less: the contract of the reference's function.
-/
namespace Go.Proofs.Ytmgieahachphmaa
open Go.RowKit
set_option linter.unusedVariables false

set_option maxRecDepth 1000000 in
set_option maxHeartbeats 4000000 in
theorem specDropWord_any (B : Nat) (a : Option Addr) (n c : Nat) (t : List Nd) (s : ByteArray) (w : World) (hB : B ≤ w.heap.size) (h : Nds B w a n c t) (hs : s.size ≤ 9223372036854775807) (hn : n ≤ 1048576) :
    Calls Try.prog 28 #[.agg #[.slice a n c], .string s] w (ReadRes w (dropT t (tx s)) (dropOk t (tx s))) := by
  have HBox : Hid (Boxed ((w.alloc (.cells #[.slice a n c] 30)).alloc (.cells #[.slice none 0 0] 30)) (w.heap.size + 1) 30 (.slice none 0 0)) := Lib.hid (by simpa using Boxed.new (w.alloc (.cells #[.slice a n c] 30)) 30 (.slice none 0 0))
  have hbx : ((w.alloc (.cells #[.slice a n c] 30)).alloc (.cells #[.slice none 0 0] 30)).cell? ⟨w.heap.size, 0, none⟩ = some (.slice a n c) := by
    rw [World.cell?_alloc_lt _ _ _ (by simp)]
    simp
  have HB2 : Hid (Below w.heap.size w ((w.alloc (.cells #[.slice a n c] 30)).alloc (.cells #[.slice none 0 0] 30))) := Lib.hid (((Below.refl _ _).alloc (Nat.le_refl _) _).alloc (by simp) _)
  have hlt : w.heap.size < ((w.alloc (.cells #[.slice a n c] 30)).alloc (.cells #[.slice none 0 0] 30)).heap.size := by simp; omega
  have HN := Lib.hid (h.keep (HB2.out.mono hB))
  have HB := Lib.hid hB
  obtain ⟨ok, hok⟩ : ∃ ok, dropOk t (tx s) = ok := ⟨_, rfl⟩
  obtain ⟨tt, htt⟩ : ∃ tt, dropT t (tx s) = tt := ⟨_, rfl⟩
  rw [hok, htt]
  have HOK := Lib.hid hok
  have HTT := Lib.hid htt
  have hws40 := wordsOf_size t
  have HSh : Hid (∀ x ∈ wordsOf t, x.length ≤ 9223372036854775807) := Lib.hid (fun x hx => by have := wordsOf_short t x hx; omega)
  have HAsc := Lib.hid (wordsOf_asc t)
  have HIsW := Lib.hid (wordsOf_isW t)
  obtain ⟨r, hr⟩ : ∃ r, trieB t = r := ⟨_, rfl⟩
  have HR := Lib.hid hr
  clear h hB hok htt
  have HMinW := Lib.hid (minus_isW t (tx s))
  have HMinF := minus_few t (tx s)
  obtain ⟨i0, hii, hz0, hz1, hz2⟩ := info_parts infoS
  go_enter Try.func28, Try.ntmps28
  go_wp2_with fail
  obtain ⟨W2, hW2⟩ : ∃ W2, (w.alloc (.cells #[.slice a n c] 30)).alloc (.cells #[.slice none 0 0] 30) = W2 := ⟨_, rfl⟩
  rw [hW2] at HBox HB2 HN hbx hlt ⊢
  have HX := Lib.hid hbx
  clear hW2 hbx
  refine (l2Trie_any B a n c t W2 (Nat.le_trans HB.out HB2.out.size) HN.out hn).mono ?_
  rw [hr]
  have HNoW : Hid (r = false → wordsOf t = []) := Lib.hid (fun h => wordsOf_no (trieB_not (hr.trans h)))
  have HDrop : Hid (tx s ∉ wordsOf t → tt = [] ∧ ok = false) := Lib.hid (fun h => ⟨HTT.out.symm.trans (dropT_no h).1, HOK.out.symm.trans (dropT_no h).2⟩)
  have HKeep : Hid (tx s ∈ wordsOf t → tt = made (minus (wordsOf t) (tx s)) ∧ ok = true) := Lib.hid (fun h => ⟨HTT.out.symm.trans (dropT_yes h).1, HOK.out.symm.trans (dropT_yes h).2⟩)
  have cWd : Hid (r = true → ∀ w3, B ≤ w3.heap.size → Nds B w3 a n c t → Calls Try.prog 53 #[.agg #[.slice a n c]] w3 fun e w' => ∃ a' c', e = .returned (.slice a' (wordsOf t).length c') ∧ Wds w'.heap.size w' a' (wordsOf t).length c' (wordsOf t) ∧ Below w3.heap.size w3 w') := Lib.hid (fun h w3 hB hN => specWords_read B a n c t w3 hB hN hn (trieB_iff.1 (hr.trans h)))
  obtain ⟨ws, hws⟩ : ∃ ws, wordsOf t = ws := ⟨_, rfl⟩
  rw [hws] at HSh hws40 HNoW HDrop HKeep HMinW HMinF cWd HIsW
  obtain ⟨m, hm⟩ : ∃ m, ws.length = m := ⟨_, rfl⟩
  have HM := Lib.hid hm
  rw [hm] at hws40 cWd
  clear hr hws hm HTT HOK
  rintro e w3 ⟨rfl, hb3⟩
  have HB3 := Lib.hid (HB2.out.trans (hb3.mono HB2.out.size))
  have HN3 := Lib.hid (HN.out.keep (hb3.mono (Nat.le_trans HB.out HB2.out.size)))
  have HBox3 := Lib.hid (box_stay HBox.out hb3)
  have hbx3 := (hb3.cell (p := ⟨w.heap.size, 0, none⟩) hlt).trans HX.out
  clear hb3
  cases r with
  | false =>
    have hw0 := HNoW.out rfl
    obtain ⟨e1, e2⟩ := HDrop.out (by rw [hw0]; simp)
    subst e1 e2
    have hrc := HBox3.out.cell
    have hrf := HBox3.out.frozen
    clear hw0 hbx3
    go_wp2_with fail
    refine bodyPost_ret (v := .tuple #[.agg #[.slice none 0 0], .bool false]) (by simp [results, Try.results28, go_sem, hrc]) rfl ⟨_, _, rfl, nds_nil _ _, HB3.out.setCell (p := ⟨w.heap.size + 1, 0, none⟩) (Nat.le_succ _) _⟩
  | true =>
    have cW := Lib.hid (fun w => l2Word_any s w hs)
    obtain ⟨rw, hrw⟩ : ∃ rw, okW s = rw := ⟨_, rfl⟩
    have HRW := Lib.hid hrw
    rw [hrw] at cW
    clear hrw
    cases rw with
    | false =>
      obtain ⟨e1, e2⟩ := HDrop.out (fun hh => by have h1 := okW_iff.2 (HIsW.out _ hh); rw [HRW.out] at h1; cases h1)
      subst e1 e2
      have hrc := HBox3.out.cell
      have hrf := HBox3.out.frozen
      clear hbx3
      go_wp2_with (go_at_call 34; refine (cW.out _).mono ?_; rintro e w4 ⟨rfl, rfl⟩)
      refine bodyPost_ret (v := .tuple #[.agg #[.slice none 0 0], .bool false]) (by simp [results, Try.results28, go_sem, hrc]) rfl ⟨_, _, rfl, nds_nil _ _, HB3.out.setCell (p := ⟨w.heap.size + 1, 0, none⟩) (Nat.le_succ _) _⟩
    | true =>
      have cWs := Lib.hid (cWd.out rfl w3 (Nat.le_trans HB.out HB3.out.size) HN3.out)
      clear cWd
      by_cases hin : tx s ∈ ws
      · obtain ⟨e1, e2⟩ := HKeep.out hin
        subst e1 e2
        obtain ⟨k, hk⟩ : ∃ k, ws.idxOf (tx s) = k := ⟨_, rfl⟩
        have hkm : k < m := by rw [← hk, ← HM.out]; exact List.idxOf_lt_length_of_mem hin
        have HP : Hid (plc ws (tx s) = (k : Int)) := Lib.hid (by rw [plc_yes hin, hk])
        have HMk : Hid ((ws.take k).map (fun x => Value.string (bx x)) ++ (ws.map (fun x => Value.string (bx x))).drop (k + 1) = (minus ws (tx s)).map (fun x => Value.string (bx x))) := Lib.hid (by unfold minus; rw [hk]; simp [List.map_drop])
        have HSh2 : Hid (∀ x ∈ minus ws (tx s), x.length ≤ 9223372036854775807) := Lib.hid (fun x hx => HSh.out x ((minus_sub _ _).subset hx))
        have HLen : Hid ((minus ws (tx s)).length = k + (m - (k + 1))) := Lib.hid (by unfold minus; rw [hk, ← HM.out]; simp; have := HM.out; omega)
        clear hin hk
        go_wp2_with (first
          | (go_at_call 34; refine (cW.out _).mono ?_; rintro e w4 ⟨rfl, rfl⟩)
          | (go_at_call 53; refine cWs.out.mono ?_; rintro e w5 ⟨a5, c5, rfl, hW5, hb5⟩; have HW5 := Lib.hid hW5; have C5 := hW5.sl.cap; have T5 := hW5.sl.top; have HB5 := Lib.hid (HB3.out.trans (hb5.mono HB3.out.size)); have HBox5 := Lib.hid (box_stay HBox3.out hb5); clear hW5 hb5)
          | (go_at_call 55; refine (l2Place_any w5.heap.size a5 m c5 ws s w5 (Nat.le_refl _) HW5.out hs).mono ?_; rw [HP.out]; rintro e w6 ⟨rfl, rfl⟩))
        obtain ⟨b, o, q0, rfl, hbB, hq0, hqz, hqc⟩ := Wds.elem (xs := ws) HW5.out k hkm
        clear hq0 hqz hqc
        have hk0 : (0 : Int) ≤ (k : Int) := by omega
        have hk1 : (k : Int) ≤ (m : Int) := by omega
        have hk2 : (k : Int) ≤ (c5 : Int) := by omega
        have hj0 : (0 : Int) ≤ (k : Int) + 1 := by omega
        have hj1 : (k : Int) + 1 ≤ (m : Int) := by omega
        have hj2 : (k : Int) + 1 ≤ (c5 : Int) := by omega
        have hjm : k + 1 ≤ m := by omega
        have hkk : (k : Int) ≤ (k : Int) + 1 := by omega
        have hkk2 : k ≤ k + 1 := by omega
        have HBk : Hid (∀ W, Below w5.heap.size w5 W → B ≤ W.heap.size) := Lib.hid (fun W hW => Nat.le_trans (Nat.le_trans HB.out HB5.out.size) hW.size)
        have cO : Hid (∀ W, Below w5.heap.size w5 W → Calls Try.prog 36 #[.slice (some ⟨b, o, none⟩) k c5] W fun e w' => ∃ v, e = .returned v ∧ w'.ownsRow w5.heap.size 9 1 v k ((ws.take k).map (fun x => Value.string (bx x))) ∧ Below w5.heap.size w5 w') := Lib.hid (fun W hW => by
          have hS : Strs w5.heap.size W (some ⟨b, o, none⟩) k c5 ((ws.take k).map bx) := ⟨by
            have := (HW5.out.keep hW).sl.front (show k ≤ m by omega)
            rwa [← List.map_take, ← List.map_take] at this, fun t ht => by
            obtain ⟨x, hx, rfl⟩ := List.mem_map.1 ht
            exact HW5.out.each _ (List.mem_map.2 ⟨x, List.mem_of_mem_take hx, rfl⟩)⟩
          have := l2Own_any w5.heap.size (some ⟨b, o, none⟩) k c5 _ W hW.size hS (by omega)
          rw [List.map_map] at this
          exact this.mono fun e w' ⟨v, h1, h2, h3⟩ => ⟨v, h1, own_down h2 hW.size, hW.trans (h3.mono hW.size)⟩)
        have HC : Hid (∀ W, Below w5.heap.size w5 W → Sl w5.heap.size W (if c5 = k + 1 then (some ⟨b, o, none⟩ : Option Addr) else (some ⟨b, o, none⟩ : Option Addr).map (·.add (k + 1))) (m - (k + 1)) (c5 - (k + 1)) ((ws.map (fun x => Value.string (bx x))).drop (k + 1))) := Lib.hid (fun W hW => by
          have := (HW5.out.keep hW).sl.cut (hjm)
          rw [List.map_map] at this
          exact this)
        have HV : Hid (∀ u ∈ (ws.map (fun x => Value.string (bx x))).drop (k + 1), u.oneCell' = true) := Lib.hid (fun u hu => by
          obtain ⟨x, _, rfl⟩ := List.mem_map.1 (List.mem_of_mem_drop hu)
          rfl)
        have cOf : Hid (∀ (W : World) (v : Value), Below w5.heap.size w5 W → W.ownsRow w5.heap.size 9 1 v (k + (m - (k + 1))) ((ws.take k).map (fun x => Value.string (bx x)) ++ (ws.map (fun x => Value.string (bx x))).drop (k + 1)) → Calls Try.prog 43 #[v] W fun e w' => ∃ a' c', e = .returned (.agg #[.slice a' (made (minus ws (tx s))).length c']) ∧ Nds w'.heap.size w' a' (made (minus ws (tx s))).length c' (made (minus ws (tx s))) ∧ Boxed w' (w.heap.size + 1) 30 (.slice none 0 0) ∧ Below w.heap.size w w') := Lib.hid (fun W v hW hO => by
          rw [HMk.out, ← HLen.out] at hO
          obtain ⟨a6, c6, rfl, hW6⟩ := own_wds hO HSh2.out
          refine (l2Of_any W.heap.size a6 _ c6 (minus ws (tx s)) W (Nat.le_refl _) hW6 HMinF HMinW.out).mono ?_
          rintro e w7 ⟨a7, n7, c7, ps, rfl, hN7, hP7, _, hb7⟩
          rw [made_of hP7] at hN7
          obtain rfl := hN7.len
          exact ⟨a7, c7, rfl, hN7, box_stay (box_stay HBox5.out hW) hb7, HB5.out.trans ((hW.trans (hb7.mono hW.size)).mono HB5.out.size)⟩)
        have hs1 : IntKind.i64.wrap ((k : Int) + 1) = (k : Int) + 1 := IntWalk.i64_in _ (by omega)
        have hs2 : ((k : Int) + 1).toNat = k + 1 := by omega
        have hck : ¬ c5 = k + 1 ∨ c5 = k + 1 := by omega
        rcases hck with hck | hck
        all_goals
          first
            | (have hmk : m = k + 1 := by omega
               subst hck
               subst hmk
               have HC1 : Hid (∀ W, Below w5.heap.size w5 W → Sl w5.heap.size W (some ⟨b, o, none⟩) 0 0 ((ws.map (fun x => Value.string (bx x))).drop (k + 1))) := Lib.hid (fun W hW => by have := HC.out W hW; rwa [if_pos rfl, Nat.sub_self] at this)
               rw [Nat.sub_self] at cOf
               clear HC)
            | (have HC1 : Hid (∀ W, Below w5.heap.size w5 W → Sl w5.heap.size W (some ⟨b, o + (k + 1), none⟩) (m - (k + 1)) (c5 - (k + 1)) ((ws.map (fun x => Value.string (bx x))).drop (k + 1))) := Lib.hid (fun W hW => by
                have := HC.out W hW
                have e : (⟨b, o, none⟩ : Addr).add (k + 1) = ⟨b, o + (k + 1), none⟩ := by simp [Addr.add]
                rwa [if_neg hck, Option.map_some, e] at this)
               clear HC)
          go_region_held3 (fun w' => True) (trivial)
            (first
              | (go_at_call 36; refine (cO.out _ (by first | exact Below.refl _ _ | exact (Below.refl _ _).drew | exact (Below.refl _ _).drew.drew)).mono ?_; rintro e w6 ⟨v6, rfl, hO6, hB6⟩)
              | (go_at_call 43; refine (cOf.out _ _ (by exact hB7) (by exact hO7)).mono ?_; rintro e w8 ⟨a8, c8, rfl, hN8, hBx8, hB8⟩; have hrc := hBx8.cell; have hrf := hBx8.frozen)
              | (refine step_append_sl (by rfl) _ _ 22 (by rfl) w5.heap.size 9 i0 (.string ByteArray.empty) 16 Try.underlying22 hii hz0 hz1 hz2 (by rfl) _ _ _ (by rfl) (by exact hO6) (by rfl) (by exact HC1.out _ hB6) HV.out (by unfold maxLen; omega) (by omega) (by exact hB6.size) ?_; intro v7 w7 hO7 hG7; have hB7 := hB6.trans (below_grown hO6 (Nat.le_refl _) hB6.size hG7)))
          go_wp2
          refine bodyPost_ret (v := .tuple #[.agg #[.slice a8 (made (minus ws (tx s))).length c8], .bool true]) (by simp [results, Try.results28, go_sem, hrc]) rfl ⟨_, _, rfl, ?_, hB8.setCell (p := ⟨w.heap.size + 1, 0, none⟩) (Nat.le_succ _) _⟩
          have := hN8.box hBx8 (.slice a8 (made (minus ws (tx s))).length c8)
          simpa [World.setCell] using this
      · obtain ⟨e1, e2⟩ := HDrop.out hin
        subst e1 e2
        have HP : Hid (plc ws (tx s) = -1) := Lib.hid (plc_no hin)
        clear hin
        go_wp2_with (first
          | (go_at_call 34; refine (cW.out _).mono ?_; rintro e w4 ⟨rfl, rfl⟩)
          | (go_at_call 53; refine cWs.out.mono ?_; rintro e w5 ⟨a5, c5, rfl, hW5, hb5⟩; have HW5 := Lib.hid hW5; have C5 := hW5.sl.cap; have T5 := hW5.sl.top; have HB5 := Lib.hid (HB3.out.trans (hb5.mono HB3.out.size)); have HBox5 := Lib.hid (box_stay HBox3.out hb5); clear hW5 hb5)
          | (go_at_call 55; refine (l2Place_any w5.heap.size a5 m c5 ws s w5 (Nat.le_refl _) HW5.out hs).mono ?_; rw [HP.out]; rintro e w6 ⟨rfl, rfl⟩; have hrc := HBox5.out.cell; have hrf := HBox5.out.frozen))
        refine bodyPost_ret (v := .tuple #[.agg #[.slice none 0 0], .bool false]) (by simp [results, Try.results28, go_sem, hrc]) rfl ⟨_, _, rfl, nds_nil _ _, HB5.out.setCell (p := ⟨w.heap.size + 1, 0, none⟩) (Nat.le_succ _) _⟩

theorem agreeDropWord (t : List Nd) (n : Nat) (x0 : ByteArray) (hn : n ≤ 1048576) (hx0 : x0.size ≤ 9223372036854775807) : ∃ (tt : List Nd) (ok : Bool), Fits tt ∧ tt.length ≤ 481 ∧
    (∀ (W : World) (a : Option Addr), Nds W.heap.size W a n n t → Calls Try.prog 28 #[.agg #[.slice a n n], .string x0] W (ReadRes W tt ok)) ∧
    (∀ (W : World) (a : Option Addr), Nds W.heap.size W a n n t → Calls Try.prog 29 #[.agg #[.slice a n n], .string x0] W (TrieRes W tt ok)) :=
  ⟨dropT t (tx x0), dropOk t (tx x0), dropT_fits _ _, dropT_len _ _, fun W a hN => specDropWord_any _ a n n t x0 W (Nat.le_refl _) hN hx0 hn, fun W a hN => implDropWord_any _ a n n t x0 W (Nat.le_refl _) hN hx0⟩

end Go.Proofs.Ytmgieahachphmaa
