/-
  A word less: the contracts of the reference's function and of the program's.
-/
import Derived.Test.YtimengcikjankaaAddWord
import Derived.Test.YtimengcikjankaaDelete
namespace Go.Proofs.Ytimengcikjankaa
open Go.RowKit
set_option linter.unusedVariables false

/-- without a word -/
def minus (ws : List Txt) (x : Txt) : List Txt := ws.take (ws.idxOf x) ++ ws.drop (ws.idxOf x + 1)

theorem minus_sub (ws : List Txt) (x : Txt) : (minus ws x).Sublist ws := by
  unfold minus
  have : (ws.take (ws.idxOf x) ++ ws.drop (ws.idxOf x + 1)).Sublist (ws.take (ws.idxOf x) ++ ws.drop (ws.idxOf x)) := by
    refine List.Sublist.append_left ?_ _
    rw [← List.drop_drop]
    exact List.drop_sublist 1 _
  rwa [List.take_append_drop] at this

noncomputable def dropOk (t : List Nd) (x : Txt) : Bool := decide (x ∈ wordsOf t)
noncomputable def dropT (t : List Nd) (x : Txt) : List Nd := if dropOk t x then made (minus (wordsOf t) x) else []

theorem dropT_no {t : List Nd} {x : Txt} (h : x ∉ wordsOf t) : dropT t x = [] ∧ dropOk t x = false := by simp [dropT, dropOk, h]
theorem dropT_yes {t : List Nd} {x : Txt} (h : x ∈ wordsOf t) : dropT t x = made (minus (wordsOf t) x) ∧ dropOk t x = true := by simp [dropT, dropOk, h]

theorem minus_few (t : List Nd) (x : Txt) : (minus (wordsOf t) x).length ≤ 40 := Nat.le_trans (minus_sub _ _).length_le (wordsOf_size t)
theorem minus_isW (t : List Nd) (x : Txt) : ∀ y ∈ minus (wordsOf t) x, IsW y := fun y hy => wordsOf_isW t y ((minus_sub _ _).subset hy)
theorem minus_asc (t : List Nd) (x : Txt) : Asc (minus (wordsOf t) x) := (wordsOf_asc t).sublist (minus_sub _ _)
theorem minus_ok (t : List Nd) (x : Txt) : setOk (minus (wordsOf t) x) = true ∧ tofT (minus (wordsOf t) x) = made (minus (wordsOf t) x) := by
  have h1 : setOk (minus (wordsOf t) x) = true := by
    rw [setOk_all (minus_isW t x), setOf_id (minus_asc t x)]
    exact decide_eq_true (minus_few t x)
  exact ⟨h1, by rw [tofT_yes h1, setOf_id (minus_asc t x)]⟩

theorem dropT_fits (t : List Nd) (x : Txt) : Fits (dropT t x) := by
  by_cases h : x ∈ wordsOf t
  · rw [(dropT_yes h).1]; exact made_fits (minus_isW t x) (minus_few t x)
  · rw [(dropT_no h).1]; intro d hd; cases hd
theorem dropT_len (t : List Nd) (x : Txt) : (dropT t x).length ≤ 481 := by
  by_cases h : x ∈ wordsOf t
  · rw [(dropT_yes h).1]
    unfold made
    rw [mkT_len]
    exact pre_few (minus_isW t x) (minus_few t x) (pres_pre _)
  · rw [(dropT_no h).1]; simp

theorem plc_no {xs : List Txt} {x : Txt} (h : x ∉ xs) : plc xs x = -1 := if_neg h
theorem plc_yes {xs : List Txt} {x : Txt} (h : x ∈ xs) : plc xs x = (xs.idxOf x : Int) := if_pos h

set_option maxRecDepth 1000000 in
set_option maxHeartbeats 1000000 in
theorem implDropWord_any (B : Nat) (a : Option Addr) (n c : Nat) (t : List Nd) (s : ByteArray) (w : World) (hB : B ≤ w.heap.size) (h : Nds B w a n c t) (hs : s.size ≤ 9223372036854775807) :
    Calls Try.prog 30 #[.agg #[.slice a n c], .string s] w (TrieRes w (dropT t (tx s)) (dropOk t (tx s))) := by
  have HBox : Hid (Boxed ((w.alloc (.cells #[.slice a n c] 27)).alloc (.cells #[.slice none 0 0] 27)) (w.heap.size + 1) 27 (.slice none 0 0)) := Lib.hid (by simpa using Boxed.new (w.alloc (.cells #[.slice a n c] 27)) 27 (.slice none 0 0))
  have hbx : ((w.alloc (.cells #[.slice a n c] 27)).alloc (.cells #[.slice none 0 0] 27)).cell? ⟨w.heap.size, 0, none⟩ = some (.slice a n c) := by
    rw [World.cell?_alloc_lt _ _ _ (by simp)]
    simp
  have HB2 : Hid (Below w.heap.size w ((w.alloc (.cells #[.slice a n c] 27)).alloc (.cells #[.slice none 0 0] 27))) := Lib.hid (((Below.refl _ _).alloc (Nat.le_refl _) _).alloc (by simp) _)
  have hlt : w.heap.size < ((w.alloc (.cells #[.slice a n c] 27)).alloc (.cells #[.slice none 0 0] 27)).heap.size := by simp; omega
  have HN := Lib.hid (h.keep (HB2.out.mono hB))
  have HB := Lib.hid hB
  obtain ⟨ok, hok⟩ : ∃ ok, dropOk t (tx s) = ok := ⟨_, rfl⟩
  obtain ⟨tt, htt⟩ : ∃ tt, dropT t (tx s) = tt := ⟨_, rfl⟩
  rw [hok, htt]
  have HOK := Lib.hid hok
  have HTT := Lib.hid htt
  have hws40 := wordsOf_size t
  have HSh : Hid (∀ x ∈ wordsOf t, x.length ≤ 9223372036854775807) := Lib.hid (fun x hx => by have := wordsOf_short t x hx; omega)
  have HAsc := Lib.hid (wordsOf_asc t)
  have HIsW := Lib.hid (wordsOf_isW t)
  obtain ⟨r, hr⟩ : ∃ r, trieB t = r := ⟨_, rfl⟩
  have HR := Lib.hid hr
  clear h hB hok htt
  have HMin := Lib.hid (minus_ok t (tx s))
  go_enter Try.func30, Try.ntmps30
  go_wp2_with fail
  obtain ⟨W2, hW2⟩ : ∃ W2, (w.alloc (.cells #[.slice a n c] 27)).alloc (.cells #[.slice none 0 0] 27) = W2 := ⟨_, rfl⟩
  rw [hW2] at HBox HB2 HN hbx hlt ⊢
  clear hW2 hbx
  refine (implWords_any B a n c t W2 (Nat.le_trans HB.out HB2.out.size) HN.out).mono ?_
  rw [hr]
  have HNoW : Hid (r = false → wordsOf t = []) := Lib.hid (fun h => wordsOf_no (trieB_not (hr.trans h)))
  have HDrop : Hid (tx s ∉ wordsOf t → tt = [] ∧ ok = false) := Lib.hid (fun h => ⟨HTT.out.symm.trans (dropT_no h).1, HOK.out.symm.trans (dropT_no h).2⟩)
  have HKeep : Hid (tx s ∈ wordsOf t → tt = made (minus (wordsOf t) (tx s)) ∧ ok = true) := Lib.hid (fun h => ⟨HTT.out.symm.trans (dropT_yes h).1, HOK.out.symm.trans (dropT_yes h).2⟩)
  obtain ⟨ws, hws⟩ : ∃ ws, wordsOf t = ws := ⟨_, rfl⟩
  rw [hws] at HSh hws40 HNoW HDrop HKeep HMin ⊢
  clear hr hws HTT HOK
  rintro e w3 ⟨v3, rfl, hO3, hb3⟩
  have HB3 := Lib.hid (HB2.out.trans (hb3.mono HB2.out.size))
  have HB23 := Lib.hid hb3
  have HBox3 := Lib.hid (box_stay HBox.out hb3)
  have hz3 := hb3.size
  obtain ⟨a3, c3, rfl, hW3⟩ := own_wds hO3 HSh.out
  have HW3 := Lib.hid hW3
  obtain ⟨m, hm⟩ : ∃ m, ws.length = m := ⟨_, rfl⟩
  have HM := Lib.hid hm
  rw [hm] at HW3 hO3 hws40
  simp only [hm]
  have HO3 := Lib.hid hO3
  clear hO3 hb3 hW3 hm
  cases r with
  | false =>
    have hw0 := HNoW.out rfl
    obtain ⟨e1, e2⟩ := HDrop.out (by rw [hw0]; simp)
    subst e1 e2
    have hrc := HBox3.out.cell
    have hrf := HBox3.out.frozen
    clear hw0
    go_wp2_with fail
    refine bodyPost_ret (v := .tuple #[.agg #[.slice none 0 0], .bool false]) (by simp [results, Try.results30, go_sem, hrc]) rfl ⟨_, rfl, World.ownsRow_nil _ _ _ _, HB3.out.setCell (p := ⟨w.heap.size + 1, 0, none⟩) (Nat.le_succ _) _⟩
  | true =>
    have cI := Lib.hid (index_any w3.heap.size a3 m c3 ws s w3 (Nat.le_refl _) HW3.out hs)
    by_cases hin : tx s ∈ ws
    · obtain ⟨e1, e2⟩ := HKeep.out hin
      subst e1 e2
      obtain ⟨k, hk⟩ : ∃ k, ws.idxOf (tx s) = k := ⟨_, rfl⟩
      have hkm : k < m := by rw [← hk, ← HM.out]; exact List.idxOf_lt_length_of_mem hin
      rw [plc_yes hin, hk] at cI
      obtain ⟨g, cg, hg⟩ : ∃ g cg, Value.slice a3 m c3 = .slice (some ⟨g, 0, none⟩) m cg := by
        rcases HO3.out.2 with ⟨_, h0⟩ | ⟨g, cap, cur, h', _⟩
        · omega
        · exact ⟨g, cap, h'⟩
      injection hg with e1 _ e3
      subst e1 e3
      have HMk : Hid (ws.take k ++ ws.drop (k + 1) = minus ws (tx s)) := Lib.hid (by unfold minus; rw [hk])
      have HSh2 : Hid (∀ x ∈ minus ws (tx s), x.length ≤ 9223372036854775807) := Lib.hid (fun x hx => HSh.out x ((minus_sub _ _).subset hx))
      obtain ⟨m4, hm4⟩ : ∃ m4, (minus ws (tx s)).length = m4 := ⟨_, rfl⟩
      have HL4 : Hid (m - 1 = m4) := Lib.hid (by rw [← hm4, ← HMk.out, ← HM.out]; simp; have := HM.out; omega)
      have cD := Lib.hid (delete_own W2.heap.size g m c3 k ws w3 HO3.out hkm)
      rw [HMk.out, HL4.out] at cD
      have HM4 := Lib.hid hm4
      have e1 : ((k + 1 : Nat) : Int) = (k : Int) + 1 := by omega
      rw [e1] at cD
      clear hin hk e1 hm4
      go_wp2_with (first
        | (go_at_call 52; refine cI.out.mono ?_; rintro e w4 ⟨rfl, rfl⟩)
        | (go_at_call 53; refine cD.out.mono ?_; rintro e w4 ⟨rfl, hO4, hg4⟩; obtain ⟨a9, c9, e9, hW4⟩ := own_wds (n := m4) (xs := minus ws (tx s)) hO4 HSh2.out; injection e9 with e91 _ e93; subst e91 e93; have HW4 := Lib.hid hW4; have hb24 : Below W2.heap.size w3 w4 := (Below.refl _ _).grown hg4 hz3 (fun q hq => by cases hq; exact (own_ge HO3.out (g := g) rfl).1); have HB4 := Lib.hid (HB3.out.trans (hb24.mono (Nat.le_of_lt hlt))); have HBox4 := Lib.hid (box_under HBox.out (HB23.out.trans hb24) HBox.out.lt); clear hO4 hg4 hW4 hb24)
        | (go_at_call 14; refine (implTrieOf_any w4.heap.size _ m4 c3 (minus ws (tx s)) w4 (Nat.le_refl _) HW4.out).mono ?_; rw [HMin.out.1, HMin.out.2]; rintro e w5 ⟨v5, rfl, hO5, hb5⟩; obtain ⟨a5, c5, rfl⟩ := own_slice hO5; have HO5 := Lib.hid hO5; have HB5 := Lib.hid (HB4.out.trans (hb5.mono HB4.out.size)); have HBox5 := Lib.hid (box_stay HBox4.out hb5); have hz5 := hb5.size; clear hO5 hb5; have hrc := HBox5.out.cell; have hrf := HBox5.out.frozen))
      refine bodyPost_ret (v := .tuple #[.agg #[.slice a5 (made (minus ws (tx s))).length c5], .bool true]) (by simp [results, Try.results30, go_sem, hrc]) rfl ⟨_, rfl, ?_, HB5.out.setCell (p := ⟨w.heap.size + 1, 0, none⟩) (Nat.le_succ _) _⟩
      exact (own_down HO5.out HB4.out.size).kept (grownBy_setCell' w5 (w.heap.size + 1) _) (.inr (HBox5.out.not_row (by decide) HO5.out).symm)
    · obtain ⟨e1, e2⟩ := HDrop.out hin
      subst e1 e2
      rw [plc_no hin] at cI
      have hrc := HBox3.out.cell
      have hrf := HBox3.out.frozen
      clear hin
      go_wp2_with (go_at_call 52; refine cI.out.mono ?_; rintro e w4 ⟨rfl, rfl⟩)
      refine bodyPost_ret (v := .tuple #[.agg #[.slice none 0 0], .bool false]) (by simp [results, Try.results30, go_sem, hrc]) rfl ⟨_, rfl, World.ownsRow_nil _ _ _ _, HB3.out.setCell (p := ⟨w.heap.size + 1, 0, none⟩) (Nat.le_succ _) _⟩

end Go.Proofs.Ytimengcikjankaa
