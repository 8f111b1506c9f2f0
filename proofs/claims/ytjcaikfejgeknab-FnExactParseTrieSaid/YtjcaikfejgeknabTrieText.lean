/-
  The text of a trie: the contracts of the reference's function and of the program's.
-/
import Derived.Test.YtjcaikfejgeknabAppText
import Derived.Test.YtjcaikfejgeknabTrie
import Derived.Test.YtjcaikfejgeknabIsTrie
import Derived.Laws.IdiomStrings
namespace Go.Proofs.Ytjcaikfejgeknab
open Go.RowKit
set_option linter.unusedVariables false

/-- the text of a trie; none for what is no trie -/
noncomputable def txtT (t : List Nd) : ByteArray := if trieB t then bx (txtOf t t.length 0) else ⟨#[]⟩

theorem ret_str {a b : ByteArray} {o : Bool} (h : a = b) : Ending.returned (.tuple #[.string a, .bool o]) = .returned (.tuple #[.string b, .bool o]) := by rw [h]

/-- string(b) of a row of bytes -/
theorem run_str_own {base : Nat} {w : World} {v : Value} {x : Txt} {m : Nat} (h : w.ownsRow base 5 1 v m (u8s x)) : (convert 48 9 v).run Try.prog w = .ok (.string (bx x)) w := by
  have hl : x.length = m := by have := h.1; rw [u8s_len] at this; omega
  rcases h.2 with ⟨rfl, h0⟩ | ⟨g, cap, cur, rfl, _⟩
  · obtain rfl : x = [] := List.eq_nil_of_length_eq_zero (by omega)
    exact run_convert_bytes_nil (P := Try.prog) w 48 5 Try.underlying48 Try.underlying5 0 0 9 Try.underlying9
  · subst hl
    refine run_convert_bytes_back (P := Try.prog) w 48 9 5 ⟨g, 0, none⟩ cap x Try.underlying48 Try.underlying5 Try.underlying9 (fun j hj => ?_)
    exact h.cells (g := g) rfl j _ (by simp [u8s, hj])

theorem IsT.pos {t : List Nd} (h : IsT t) : 0 < t.length := by obtain ⟨ps, hv⟩ := h; exact hv.tells.pos

set_option maxRecDepth 1000000 in
set_option maxHeartbeats 1000000 in
theorem specTrieText_any (B : Nat) (a : Option Addr) (n c : Nat) (t : List Nd) (w : World) (hB : B ≤ w.heap.size) (h : Nds B w a n c t) (hn : n ≤ 1048576) :
    Calls Try.prog 28 #[.agg #[.slice a n c]] w fun e w' => e = .returned (.tuple #[.string (txtT t), .bool (trieB t)]) ∧ Below w.heap.size w w' := by
  have HB1 : Hid (Below w.heap.size w (w.alloc (.cells #[.slice a n c] 30))) := Lib.hid ((Below.refl _ _).alloc (Nat.le_refl _) _)
  have hbx : (w.alloc (.cells #[.slice a n c] 30)).cell? ⟨w.heap.size, 0, none⟩ = some (.slice a n c) := by simp
  have hlt : w.heap.size < (w.alloc (.cells #[.slice a n c] 30)).heap.size := by simp
  have HN := Lib.hid (h.keep (HB1.out.mono hB))
  have HL : Hid (t.length = n) := Lib.hid h.len
  have HB := Lib.hid hB
  clear h hB
  by_cases ht : IsT t
  · have HT := Lib.hid (trieB_iff.2 ht)
    have hpos : 0 < n := by have := ht.pos; have := HL.out; omega
    have HX : Hid (txtT t = bx (txtOf t n 0)) := Lib.hid (by unfold txtT; rw [if_pos HT.out, HL.out])
    rw [HT.out, HX.out]
    have HI := Lib.hid ht
    clear ht
    go_enter Try.func28, Try.ntmps28
    go_wp2_with fail
    obtain ⟨W1, hW1⟩ : ∃ W1, w.alloc (.cells #[.slice a n c] 30) = W1 := ⟨_, rfl⟩
    rw [hW1] at HB1 hbx hlt HN ⊢
    clear hW1
    refine (l2Trie_any B a n c t W1 (Nat.le_trans HB.out HB1.out.size) HN.out hn).mono ?_
    rw [HT.out]
    rintro e W2 ⟨rfl, hb2⟩
    have HB2 := Lib.hid (HB1.out.trans (hb2.mono HB1.out.size))
    have N2 := Lib.hid (HN.out.keep (hb2.mono (Nat.le_trans HB.out HB1.out.size)))
    have hbx2 := (hb2.cell (p := ⟨w.heap.size, 0, none⟩) hlt).trans hbx
    clear hb2
    obtain ⟨ps, hv⟩ := HI.out
    have cT := Lib.hid (l2Text_any B a n c t ps hv n 0 W2 (by omega) hpos (Nat.le_trans HB.out HB2.out.size) N2.out)
    go_wp2_with (go_at_call 86; refine cT.out.mono ?_; rintro e w3 ⟨rfl, hb3⟩)
    go_ret2
    exact ⟨rfl, HB2.out.trans (hb3.mono HB2.out.size)⟩
  · have HT := Lib.hid (trieB_no ht)
    have HX : Hid (txtT t = ⟨#[]⟩) := Lib.hid (by unfold txtT; rw [HT.out]; rfl)
    rw [HT.out, HX.out]
    clear ht
    go_enter Try.func28, Try.ntmps28
    go_wp2_with fail
    obtain ⟨W1, hW1⟩ : ∃ W1, w.alloc (.cells #[.slice a n c] 30) = W1 := ⟨_, rfl⟩
    rw [hW1] at HB1 hbx hlt HN ⊢
    clear hW1
    refine (l2Trie_any B a n c t W1 (Nat.le_trans HB.out HB1.out.size) HN.out hn).mono ?_
    rw [HT.out]
    rintro e W2 ⟨rfl, hb2⟩
    have HB2 := Lib.hid (HB1.out.trans (hb2.mono HB1.out.size))
    go_wp2_with fail
    go_ret2
    exact ⟨rfl, HB2.out⟩

set_option maxRecDepth 1000000 in
set_option maxHeartbeats 1000000 in
theorem implTrieText_any (B : Nat) (a : Option Addr) (n c : Nat) (t : List Nd) (w : World) (hB : B ≤ w.heap.size) (h : Nds B w a n c t) :
    Calls Try.prog 29 #[.agg #[.slice a n c]] w fun e w' => e = .returned (.tuple #[.string (txtT t), .bool (trieB t)]) ∧ Below w.heap.size w w' := by
  have HB1 : Hid (Below w.heap.size w (w.alloc (.cells #[.slice a n c] 30))) := Lib.hid ((Below.refl _ _).alloc (Nat.le_refl _) _)
  have hbx : (w.alloc (.cells #[.slice a n c] 30)).cell? ⟨w.heap.size, 0, none⟩ = some (.slice a n c) := by simp
  have hlt : w.heap.size < (w.alloc (.cells #[.slice a n c] 30)).heap.size := by simp
  have HN := Lib.hid (h.keep (HB1.out.mono hB))
  have HL : Hid (t.length = n) := Lib.hid h.len
  have HB := Lib.hid hB
  clear h hB
  by_cases ht : IsT t
  · have HT := Lib.hid (trieB_iff.2 ht)
    have hpos : 0 < n := by have := ht.pos; have := HL.out; omega
    have HX : Hid (txtT t = bx (txtOf t n 0)) := Lib.hid (by unfold txtT; rw [if_pos HT.out, HL.out])
    rw [HT.out, HX.out]
    have HI := Lib.hid ht
    clear ht
    go_enter Try.func29, Try.ntmps29
    go_wp2_with fail
    obtain ⟨W1, hW1⟩ : ∃ W1, w.alloc (.cells #[.slice a n c] 30) = W1 := ⟨_, rfl⟩
    rw [hW1] at HB1 hbx hlt HN ⊢
    clear hW1
    refine (isTrie_any B a n c t W1 (Nat.le_trans HB.out HB1.out.size) HN.out).mono ?_
    rw [HT.out]
    rintro e W2 ⟨rfl, hb2⟩
    have HB2 := Lib.hid (HB1.out.trans (hb2.mono HB1.out.size))
    have N2 := Lib.hid (HN.out.keep (hb2.mono (Nat.le_trans HB.out HB1.out.size)))
    have hbx2 := (hb2.cell (p := ⟨w.heap.size, 0, none⟩) hlt).trans hbx
    clear hb2
    obtain ⟨ps, hv⟩ := HI.out
    have hfit := txt_short hv.tells hv.size (f := n) (i := 0) (by rw [HL.out]; exact hpos)
    have cT := Lib.hid (appendText_any B W2.heap.size a n c t ps hv (Nat.le_trans HB.out HB2.out.size) n 0 0 (.slice none 0 0) [] W2 (by omega) hpos (Nat.le_refl _) (by omega) (World.ownsRow_nil _ _ _ _) N2.out)
    go_wp2_with (go_at_call 87; refine cT.out.mono ?_; rintro e w3 ⟨v3, rfl, hA3⟩; have HA3 := Lib.hid hA3; have cv := run_str_own (by simpa using hA3.own); clear hA3)
    go_ret2
    exact ⟨rfl, HB2.out.trans (((HA3.out.grew.to (World.ownsRow_nil _ W2.heap.size 5 1) (Nat.le_refl _))).mono HB2.out.size)⟩
  · have HT := Lib.hid (trieB_no ht)
    have HX : Hid (txtT t = ⟨#[]⟩) := Lib.hid (by unfold txtT; rw [HT.out]; rfl)
    rw [HT.out, HX.out]
    clear ht
    go_enter Try.func29, Try.ntmps29
    go_wp2_with fail
    obtain ⟨W1, hW1⟩ : ∃ W1, w.alloc (.cells #[.slice a n c] 30) = W1 := ⟨_, rfl⟩
    rw [hW1] at HB1 hbx hlt HN ⊢
    clear hW1
    refine (isTrie_any B a n c t W1 (Nat.le_trans HB.out HB1.out.size) HN.out).mono ?_
    rw [HT.out]
    rintro e W2 ⟨rfl, hb2⟩
    have HB2 := Lib.hid (HB1.out.trans (hb2.mono HB1.out.size))
    go_wp2_with fail
    go_ret2
    exact ⟨rfl, HB2.out⟩

theorem agreeTrieText (t : List Nd) (n : Nat) (hn : n ≤ 1048576) : ∃ (v : ByteArray) (ok : Bool),
    (∀ (W : World) (a : Option Addr), Nds W.heap.size W a n n t → Calls Try.prog 28 #[.agg #[.slice a n n]] W fun e w' => e = .returned (.tuple #[.string v, .bool ok]) ∧ Below W.heap.size W w') ∧
    (∀ (W : World) (a : Option Addr), Nds W.heap.size W a n n t → Calls Try.prog 29 #[.agg #[.slice a n n]] W fun e w' => e = .returned (.tuple #[.string v, .bool ok]) ∧ Below W.heap.size W w') :=
  ⟨txtT t, trieB t, fun W a hN => specTrieText_any _ a n n t W (Nat.le_refl _) hN hn, fun W a hN => implTrieText_any _ a n n t W (Nat.le_refl _) hN⟩

end Go.Proofs.Ytjcaikfejgeknab
