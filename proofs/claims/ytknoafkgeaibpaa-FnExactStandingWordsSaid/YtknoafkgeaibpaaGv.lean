/-
  What stays while a function works on a trie that it was given: its box, the trie, and all that was there before.
-/
import Derived.Test.YtknoafkgeaibpaaMatchesOf
import Derived.Test.YtknoafkgeaibpaaOwnTrie
namespace Go.Proofs.Ytknoafkgeaibpaa
open Go.RowKit
set_option linter.unusedVariables false

/-- W: when the function was entered; w: now -/
structure Gv (W w : World) (a : Option Addr) (n c : Nat) (t : List Nd) : Prop where
  box : w.cell? ⟨W.heap.size, 0, none⟩ = some (.slice a n c)
  lt : W.heap.size < w.heap.size
  bel : Below W.heap.size W w
  nds : Nds W.heap.size w a n c t

theorem Gv.start {W : World} {a : Option Addr} {n c : Nat} {t : List Nd} (h : Nds W.heap.size W a n c t) : Gv W (W.alloc (.cells #[.slice a n c] 30)) a n c t :=
  have hb := (Below.refl W.heap.size W).alloc (Nat.le_refl _) (.cells #[.slice a n c] 30)
  ⟨by simp, by simp, hb, h.keep hb⟩

theorem Gv.on {W w w' : World} {a : Option Addr} {n c : Nat} {t : List Nd} (h : Gv W w a n c t) (hb : Below w.heap.size w w') : Gv W w' a n c t :=
  ⟨(hb.cell (p := ⟨W.heap.size, 0, none⟩) h.lt).trans h.box, Nat.lt_of_lt_of_le h.lt hb.size, h.bel.trans (hb.mono (Nat.le_of_lt h.lt)), h.nds.keep (hb.mono (Nat.le_of_lt h.lt))⟩

/-- behind changes from the entry on that leave the box -/
theorem Gv.on2 {W w w' : World} {a : Option Addr} {n c : Nat} {t : List Nd} (h : Gv W w a n c t) (hb : Below (W.heap.size + 1) w w') : Gv W w' a n c t :=
  ⟨(hb.cell (p := ⟨W.heap.size, 0, none⟩) (by simp)).trans h.box, Nat.lt_of_lt_of_le h.lt hb.size, h.bel.trans (hb.mono (by omega)), h.nds.keep (hb.mono (by omega))⟩

theorem Gv.len {W w : World} {a : Option Addr} {n c : Nat} {t : List Nd} (h : Gv W w a n c t) : t.length = n := h.nds.len

theorem ret_sb {u v : ByteArray} {p q : Bool} (h : u = v) (k : p = q) : Ending.returned (.tuple #[.string u, .bool p]) = .returned (.tuple #[.string v, .bool q]) := by rw [h, k]

/-- the longest word at the beginning of a text -/
def longV (ws : List Txt) (s : ByteArray) : ByteArray := s.extract 0 ((Mt ws (tx s)).getLastD 0)
def longOk (ws : List Txt) (s : ByteArray) : Bool := !(Mt ws (tx s)).isEmpty

theorem ext_zero (s : ByteArray) : s.extract 0 0 = ⟨#[]⟩ := by
  apply tx_inj
  rw [tx_ext]
  simp

theorem mt_parts (ws : List Txt) (s : ByteArray) : (Mt ws (tx s) = [] ∧ longV ws s = ⟨#[]⟩ ∧ longOk ws s = false) ∨
    ∃ m k, (Mt ws (tx s)).length = m + 1 ∧ (Mt ws (tx s))[m]? = some k ∧ 1 ≤ k ∧ k ≤ s.size ∧ longV ws s = s.extract 0 k ∧ longOk ws s = true := by
  rcases h : (Mt ws (tx s)) with _ | ⟨x, l⟩
  · left; refine ⟨rfl, ?_, ?_⟩
    · unfold longV; rw [h]; exact ext_zero s
    · unfold longOk; rw [h]; rfl
  · right
    obtain ⟨k, hk⟩ : ∃ k, (x :: l)[l.length]? = some k := ⟨_, List.getElem?_eq_getElem (by simp)⟩
    have hm : k ∈ Mt ws (tx s) := by rw [h]; exact List.mem_of_getElem? hk
    have h1 := mt_mem.1 hm
    refine ⟨l.length, k, by simp, hk, h1.1, by have := h1.2.1; rwa [tx_len] at this, ?_, ?_⟩
    · unfold longV; rw [h]
      congr 1
      rw [List.getLastD_eq_getLast?, List.getLast?_eq_getElem?]
      simp
      exact (List.getElem?_eq_some_iff.1 hk).2
    · unfold longOk; rw [h]; rfl

set_option maxRecDepth 1000000 in
set_option maxHeartbeats 1000000 in
theorem longestOf_any (B : Nat) (a : Option Addr) (n c : Nat) (t : List Nd) (ps : List Txt) (s : ByteArray) (w : World) (hB : B ≤ w.heap.size) (h : Nds B w a n c t) (hv : Valid t ps) (hs : Low (tx s)) (hs60 : s.size ≤ 100) :
    Calls Try.prog 41 #[.agg #[.slice a n c], .string s] w fun e w' => e = .returned (.tuple #[.string (longV (wds t ps) s), .bool (longOk (wds t ps) s)]) ∧ Below w.heap.size w w' := by
  have G1 := Lib.hid (Gv.start (h.mono hB))
  have hbx := G1.out.box
  have cM := Lib.hid (fun W' (G : Gv w W' a n c t) => matchesOf_any w.heap.size a n c t ps s W' G.bel.size G.nds hv hs hs60)
  clear h hB hs
  rcases mt_parts (wds t ps) s with ⟨e1, e2, e3⟩ | ⟨m, k, e1, e2, h1, h2, e3, e4⟩
  · rw [e2, e3]
    rw [e1] at cM
    clear e1 e2 e3 hv
    go_enter Try.func41, Try.ntmps41
    go_wp2_with fail
    refine (cM.out _ G1.out).mono ?_
    rintro e w2 ⟨v, rfl, hO, hb⟩
    obtain ⟨a9, c9, rfl, _⟩ := own_nums hO
    have HB2 := Lib.hid (G1.out.bel.trans (hb.mono G1.out.bel.size))
    clear hO hb
    have z : ((([] : List Nat).length : Int) == 0) = true := rfl
    go_wp2_with fail
    go_ret2
    exact ⟨rfl, HB2.out⟩
  · rw [e3, e4]
    have HE2 := Lib.hid e2
    obtain ⟨l, hl⟩ : ∃ l, Mt (wds t ps) (tx s) = l := ⟨_, rfl⟩
    rw [hl] at cM HE2 e1
    rw [e1] at cM
    clear e1 e2 e3 e4 hv hl
    go_enter Try.func41, Try.ntmps41
    go_wp2_with fail
    refine (cM.out _ G1.out).mono ?_
    rintro e w2 ⟨v, rfl, hO, hb⟩
    obtain ⟨a9, c9, rfl, hS⟩ := own_nums hO
    obtain ⟨b9, o9, e9, _, hc⟩ := hS.spot m _ (nums_at HE2.out)
    subst e9
    have C9 := hS.cap
    have T9 := hS.top
    have HB2 := Lib.hid (G1.out.bel.trans (hb.mono G1.out.bel.size))
    clear hO hb hS
    go_wp2_with fail
    go_ret2
    exact ⟨rfl, HB2.out⟩

end Go.Proofs.Ytknoafkgeaibpaa
