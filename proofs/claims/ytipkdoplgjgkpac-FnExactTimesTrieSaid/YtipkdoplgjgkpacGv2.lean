/-
  What stays while a function works on two tries that it was given.
-/
import Derived.Test.YtipkdoplgjgkpacGvR
import Derived.Test.YtipkdoplgjgkpacIsTrie
import Derived.Test.YtipkdoplgjgkpacWordsOwn
import Derived.Deep.RegionHeld3
namespace Go.Proofs.Ytipkdoplgjgkpac
open Go.RowKit
set_option linter.unusedVariables false

/-- W: when the function was entered; w: now -/
structure Gv2 (W w : World) (a : Option Addr) (n c : Nat) (t : List Nd) (b : Option Addr) (k d : Nat) (u : List Nd) : Prop where
  box : w.cell? ⟨W.heap.size, 0, none⟩ = some (.slice a n c)
  boy : w.cell? ⟨W.heap.size + 1, 0, none⟩ = some (.slice b k d)
  lt : W.heap.size + 1 < w.heap.size
  bel : Below W.heap.size W w
  nds : Nds W.heap.size w a n c t
  mds : Nds W.heap.size w b k d u

/-- with a variable for the answer -/
structure Gv2R (W w : World) (a : Option Addr) (n c : Nat) (t : List Nd) (b : Option Addr) (k d : Nat) (u : List Nd) : Prop where
  gv : Gv2 W w a n c t b k d u
  res : Boxed w (W.heap.size + 1 + 1) 30 (.slice none 0 0)

section
variable {W w w' : World} {a b : Option Addr} {n c k d : Nat} {t u tt : List Nd}

theorem Gv2.start (h : Nds W.heap.size W a n c t) (h' : Nds W.heap.size W b k d u) : Gv2 W ((W.alloc (.cells #[.slice a n c] 30)).alloc (.cells #[.slice b k d] 30)) a n c t b k d u := by
  have hb := ((Below.refl W.heap.size W).alloc (Nat.le_refl _) (.cells #[.slice a n c] 30)).alloc (by simp) (.cells #[.slice b k d] 30)
  refine ⟨?_, ?_, by simp, hb, h.keep hb, h'.keep hb⟩
  · rw [World.cell?_alloc_lt _ _ _ (by simp)]
    simp
  · have := (Boxed.new (W.alloc (.cells #[.slice a n c] 30)) 30 (.slice b k d)).cell
    rwa [World.size_alloc] at this
theorem Gv2.on (h : Gv2 W w a n c t b k d u) (hb : Below w.heap.size w w') : Gv2 W w' a n c t b k d u :=
  have hl := h.lt
  ⟨(hb.cell (p := ⟨W.heap.size, 0, none⟩) (Nat.lt_of_succ_lt hl)).trans h.box, (hb.cell (p := ⟨W.heap.size + 1, 0, none⟩) hl).trans h.boy, Nat.lt_of_lt_of_le hl hb.size, h.bel.trans (hb.mono (by omega)), h.nds.keep (hb.mono (by omega)), h.mds.keep (hb.mono (by omega))⟩
theorem Gv2.size (h : Gv2 W w a n c t b k d u) : W.heap.size ≤ w.heap.size := h.bel.size
theorem Gv2.set (h : Gv2 W w a n c t b k d u) (v : Value) : Gv2 W (w.setCell ⟨W.heap.size + 1 + 1, 0, none⟩ v) a n c t b k d u :=
  have hb : Below (W.heap.size + 1 + 1) w (w.setCell ⟨W.heap.size + 1 + 1, 0, none⟩ v) := (Below.refl _ _).setCell (p := ⟨W.heap.size + 1 + 1, 0, none⟩) (Nat.le_refl _) v
  ⟨(hb.cell (p := ⟨W.heap.size, 0, none⟩) (Nat.lt_of_succ_lt (Nat.lt_succ_self _))).trans h.box, (hb.cell (p := ⟨W.heap.size + 1, 0, none⟩) (Nat.lt_succ_self _)).trans h.boy, Nat.lt_of_lt_of_le h.lt hb.size, h.bel.trans (hb.mono (by omega)), h.nds.keep (hb.mono (by omega)), h.mds.keep (hb.mono (by omega))⟩

theorem Gv2R.start (h : Nds W.heap.size W a n c t) (h' : Nds W.heap.size W b k d u) : Gv2R W (((W.alloc (.cells #[.slice a n c] 30)).alloc (.cells #[.slice b k d] 30)).alloc (.cells #[.slice none 0 0] 30)) a n c t b k d u :=
  ⟨(Gv2.start h h').on ((Below.refl _ _).alloc (Nat.le_refl _) _), by simpa using Boxed.new ((W.alloc (.cells #[.slice a n c] 30)).alloc (.cells #[.slice b k d] 30)) 30 (.slice none 0 0)⟩
theorem Gv2R.on (h : Gv2R W w a n c t b k d u) (hb : Below w.heap.size w w') : Gv2R W w' a n c t b k d u := ⟨h.gv.on hb, box_stay h.res hb⟩
theorem Gv2R.size (h : Gv2R W w a n c t b k d u) : W.heap.size ≤ w.heap.size := h.gv.bel.size
theorem Gv2R.see (h : Gv2R W w a n c t b k d u) : w.cell? ⟨W.heap.size, 0, none⟩ = some (.slice a n c) ∧ w.cell? ⟨W.heap.size + 1, 0, none⟩ = some (.slice b k d) := ⟨h.gv.box, h.gv.boy⟩
theorem Gv2.see (h : Gv2 W w a n c t b k d u) : w.cell? ⟨W.heap.size, 0, none⟩ = some (.slice a n c) ∧ w.cell? ⟨W.heap.size + 1, 0, none⟩ = some (.slice b k d) := ⟨h.box, h.boy⟩
theorem Gv2R.done (h : Gv2R W w a n c t b k d u) (v : Value) : Below W.heap.size W (w.setCell ⟨W.heap.size + 1 + 1, 0, none⟩ v) := h.gv.bel.setCell (p := ⟨W.heap.size + 1 + 1, 0, none⟩) (by show W.heap.size ≤ W.heap.size + 1 + 1; omega) _
theorem Gv2R.read {e : Option Addr} {q : Nat} {ok : Bool} (h : Gv2R W w a n c t b k d u) (hN : Nds w.heap.size w e tt.length q tt) : ReadRes W tt ok (.returned (.tuple #[.agg #[.slice e tt.length q], .bool ok])) (w.setCell ⟨W.heap.size + 1 + 1, 0, none⟩ (.slice e tt.length q)) :=
  ⟨_, _, rfl, by have := hN.box h.res (.slice e tt.length q); simpa [World.setCell] using this, h.done _⟩
theorem Gv2R.readNo (h : Gv2R W w a n c t b k d u) : ReadRes W [] false (.returned (.tuple #[.agg #[.slice none 0 0], .bool false])) (w.setCell ⟨W.heap.size + 1 + 1, 0, none⟩ (.slice none 0 0)) :=
  ⟨_, _, rfl, nds_nil _ _, h.done _⟩
theorem Gv2R.own {e : Option Addr} {q base : Nat} {ok : Bool} (h : Gv2R W w a n c t b k d u) (hO : w.ownsRow base 86 3 (.slice e tt.length q) tt.length (ndc tt)) (hb : W.heap.size ≤ base) : TrieRes W tt ok (.returned (.tuple #[.agg #[.slice e tt.length q], .bool ok])) (w.setCell ⟨W.heap.size + 1 + 1, 0, none⟩ (.slice e tt.length q)) :=
  ⟨_, rfl, (own_down hO hb).kept (grownBy_setCell' w (W.heap.size + 1 + 1) _) (.inr (h.res.not_row (by decide) hO).symm), h.done _⟩
theorem Gv2R.ownNo (h : Gv2R W w a n c t b k d u) : TrieRes W [] false (.returned (.tuple #[.agg #[.slice none 0 0], .bool false])) (w.setCell ⟨W.heap.size + 1 + 1, 0, none⟩ (.slice none 0 0)) :=
  ⟨_, rfl, World.ownsRow_nil _ _ _ _, h.done _⟩
end

/-- the words of a valid trie, owned -/
theorem l2Words_ownW (B : Nat) (a : Option Addr) (n c : Nat) (t : List Nd) (w : World) (hB : B ≤ w.heap.size) (h : Nds B w a n c t) (hn : n ≤ 1048576) (ht : IsT t) :
    Calls Try.prog 35 #[.agg #[.slice a n c]] w fun e w' => ∃ v, e = .returned v ∧ w'.ownsRow w.heap.size 9 1 v (wordsOf t).length ((wordsOf t).map (fun x => Value.string (bx x))) ∧ Below w.heap.size w w' := by
  obtain ⟨ps, hv⟩ := ht
  refine (l2Words_own B a n c t w hB h hn).mono ?_
  rintro e w' ⟨v, rs, h1, h2, h3, h4⟩
  rw [h3 ps hv, ← wordsOf_eq hv] at h2
  exact ⟨v, h1, h2, h4⟩

set_option maxRecDepth 1000000 in
set_option maxHeartbeats 1000000 in
theorem l5Two_any (B : Nat) (a : Option Addr) (n c : Nat) (t : List Nd) (b : Option Addr) (k d : Nat) (u : List Nd) (W : World) (hB : B ≤ W.heap.size) (h : Nds B W a n c t) (h' : Nds B W b k d u) (hn : n ≤ 1048576) (hk : k ≤ 1048576) :
    Calls Try.prog 33 #[.agg #[.slice a n c], .agg #[.slice b k d]] W fun e w' => e = .returned (.bool (trieB t && trieB u)) ∧ Below W.heap.size W w' := by
  have G1 := Lib.hid (Gv2.start (h.mono hB) (h'.mono hB))
  have cT := Lib.hid (fun (W' : World) (G : Gv2 W W' a n c t b k d u) => l2Trie_any W.heap.size a n c t W' G.size G.nds hn)
  have cU := Lib.hid (fun (W' : World) (G : Gv2 W W' a n c t b k d u) => l2Trie_any W.heap.size b k d u W' G.size G.mds hk)
  obtain ⟨r, hr⟩ : ∃ r, trieB t = r := ⟨_, rfl⟩
  obtain ⟨q, hq⟩ : ∃ q, trieB u = q := ⟨_, rfl⟩
  rw [hr] at cT ⊢
  rw [hq] at cU ⊢
  clear h h' hr hq
  obtain ⟨hbx, hby⟩ := G1.out.see
  go_enter Try.func33, Try.ntmps33
  go_wp2_with fail
  refine (cT.out _ G1.out).mono ?_
  rintro e w2 ⟨rfl, hb2⟩
  have G2 := Lib.hid (G1.out.on hb2)
  clear hbx hby hb2
  obtain ⟨hbx, hby⟩ := G2.out.see
  cases r with
  | false =>
    go_wp2_with fail
    go_ret
    exact ⟨rfl, G2.out.bel⟩
  | true =>
    go_wp2_with fail
    refine (cU.out _ G2.out).mono ?_
    rintro e w3 ⟨rfl, hb3⟩
    have G3 := Lib.hid (G2.out.on hb3)
    clear hbx hby hb3
    go_wp2_with fail
    go_ret
    exact ⟨by simp, G3.out.bel⟩

set_option maxRecDepth 1000000 in
set_option maxHeartbeats 1000000 in
theorem areTries_any (B : Nat) (a : Option Addr) (n c : Nat) (t : List Nd) (b : Option Addr) (k d : Nat) (u : List Nd) (W : World) (hB : B ≤ W.heap.size) (h : Nds B W a n c t) (h' : Nds B W b k d u) :
    Calls Try.prog 37 #[.agg #[.slice a n c], .agg #[.slice b k d]] W fun e w' => e = .returned (.bool (trieB t && trieB u)) ∧ Below W.heap.size W w' := by
  have G1 := Lib.hid (Gv2.start (h.mono hB) (h'.mono hB))
  have cT := Lib.hid (fun (W' : World) (G : Gv2 W W' a n c t b k d u) => isTrie_any W.heap.size a n c t W' G.size G.nds)
  have cU := Lib.hid (fun (W' : World) (G : Gv2 W W' a n c t b k d u) => isTrie_any W.heap.size b k d u W' G.size G.mds)
  obtain ⟨r, hr⟩ : ∃ r, trieB t = r := ⟨_, rfl⟩
  obtain ⟨q, hq⟩ : ∃ q, trieB u = q := ⟨_, rfl⟩
  rw [hr] at cT ⊢
  rw [hq] at cU ⊢
  clear h h' hr hq
  obtain ⟨hbx, hby⟩ := G1.out.see
  go_enter Try.func37, Try.ntmps37
  go_wp2_with fail
  refine (cT.out _ G1.out).mono ?_
  rintro e w2 ⟨rfl, hb2⟩
  have G2 := Lib.hid (G1.out.on hb2)
  clear hbx hby hb2
  obtain ⟨hbx, hby⟩ := G2.out.see
  cases r with
  | false =>
    go_wp2_with fail
    go_ret
    exact ⟨rfl, G2.out.bel⟩
  | true =>
    go_wp2_with fail
    refine (cU.out _ G2.out).mono ?_
    rintro e w3 ⟨rfl, hb3⟩
    have G3 := Lib.hid (G2.out.on hb3)
    clear hbx hby hb3
    go_wp2_with fail
    go_ret
    exact ⟨by simp, G3.out.bel⟩

end Go.Proofs.Ytipkdoplgjgkpac
