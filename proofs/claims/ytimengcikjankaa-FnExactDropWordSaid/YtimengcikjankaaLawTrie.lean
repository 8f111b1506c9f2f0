/-
  What stays in the laws on functions that return a trie: the reference's answer, the program's answer, and what their boxes hold.
-/
import Derived.Test.YtimengcikjankaaImplTrieOf
import Derived.Test.YtimengcikjankaaMarkN
import Derived.Test.YtimengcikjankaaOwnTrie
namespace Go.Proofs.Ytimengcikjankaa
open Go.RowKit
set_option linter.unusedVariables false

/-- a trie to be read, and whether there is one -/
def ReadRes (w : World) (t : List Nd) (ok : Bool) (e : Ending) (w' : World) : Prop :=
  ∃ a' c', e = .returned (.tuple #[.agg #[.slice a' t.length c'], .bool ok]) ∧ Nds w'.heap.size w' a' t.length c' t ∧ Below w.heap.size w w'

theorem nds_own {base : Nat} {w : World} {n c : Nat} {a : Option Addr} {t : List Nd} (h : w.ownsRow base 65 3 (.slice a n c) n (ndc t)) (hx : Fits t) : Nds w.heap.size w a n c t := by
  obtain ⟨a', c', e, hN⟩ := own_nds h hx
  injection e with e1 _ e3
  rw [e1, e3]
  exact hN

/-- a store into a variable's box turns no node -/
theorem Nds.box {B b n c : Nat} {w : World} {a x : Option Addr} {y z : Nat} {t : List Nd} {T : TypeId} (h : Nds B w a n c t) (hb : Boxed w b T (.slice x y z)) (v' : Value) : Nds B (w.setCell ⟨b, 0, none⟩ v') a n c t :=
  ⟨h.len, h.cap, h.top, fun i d hd => by
    obtain ⟨b2, o, ha, hB, h1, h2, h3⟩ := h.spot i d hd
    have hne : b2 ≠ b := by
      rintro rfl
      have hh : w.heap[b2]? = some (.cells #[.slice x y z] T (0, 0)) := hb
      simp only [World.cell?, hh, Option.isSome_none, Bool.false_eq_true, if_false] at h1
      rcases Nat.eq_zero_or_pos (o + i * 3) with e | e
      · rw [e] at h1
        simp at h1
      · have hlt := (Array.getElem?_eq_some_iff.1 h1).1
        simp at hlt
        omega
    exact ⟨b2, o, ha, hB, (World.cell?_setCell_other _ _ _ _ (fun e => hne (congrArg Addr.block e).symm)).trans h1, (World.cell?_setCell_other _ _ _ _ (fun e => hne (congrArg Addr.block e).symm)).trans h2, (World.cell?_setCell_other _ _ _ _ (fun e => hne (congrArg Addr.block e).symm)).trans h3⟩, h.rng⟩

theorem nds_nil (B : Nat) (w : World) : Nds B w none 0 0 [] := ⟨rfl, Nat.le_refl _, by omega, fun i d h => by simp at h, fun d h => by cases h⟩

structure Two (B0 : Nat) (w0 W : World) (b4 b7 B3 base7 n : Nat) (a3 : Option Addr) (c3 : Nat) (tt : List Nd) (a7 : Option Addr) (c7 : Nat) (uu : List Nd) : Prop where
  bel : Below B0 w0 W
  box4 : Boxed W b4 27 (.slice a3 n c3)
  ref : Nds B3 W a3 n c3 tt
  box7 : Boxed W b7 27 (.slice a7 n c7)
  own : W.ownsRow base7 65 3 (.slice a7 n c7) n (ndc uu)
  s0 : B0 ≤ w0.heap.size
  s3 : B3 ≤ b4
  s4 : b4 < base7
  s7 : base7 ≤ b7
  s1 : B0 ≤ B3

section
variable {B0 b4 b7 B3 base7 n c3 c7 : Nat} {w0 W W' : World} {a3 a7 : Option Addr} {tt uu : List Nd}

theorem Two.keep (h : Two B0 w0 W b4 b7 B3 base7 n a3 c3 tt a7 c7 uu) (hb : Below W.heap.size W W') : Two B0 w0 W' b4 b7 B3 base7 n a3 c3 tt a7 c7 uu := by
  have h4 := h.box4.lt
  have h7 := h.box7.lt
  have h1 := h.s3
  have h2 := h.s1
  exact ⟨h.bel.trans (hb.mono (by omega)), box_stay h.box4 hb, h.ref.keep (hb.mono (by omega)), box_stay h.box7 hb, own_stay h.own hb, h.s0, h.s3, h.s4, h.s7, h.s1⟩

/-- the program's answer is marked -/
theorem Two.mark {vv : List Nd} (h : Two B0 w0 W b4 b7 B3 base7 n a3 c3 tt a7 c7 uu) (hg : W.grownBy W' (Value.ownBlock (.slice a7 n c7))) (ho : W'.ownsRow base7 65 3 (.slice a7 n c7) n (ndc vv)) : Two B0 w0 W' b4 b7 B3 base7 n a3 c3 tt a7 c7 vv := by
  have h4 := h.box4.lt
  have h1 := h.s3
  have h2 := h.s1
  have h3 := h.s4
  have hb : Below B3 W W' := (Below.refl _ _).grown hg (by omega) fun k hk => by
    have := (h.own.lt k hk).1
    omega
  exact ⟨h.bel.trans (hb.mono (by omega)), h.box4.kept hg (h.box4.not_row (by decide) h.own), h.ref.keep hb, h.box7.kept hg (h.box7.not_row (by decide) h.own), ho, h.s0, h.s3, h.s4, h.s7, h.s1⟩

/-- an argument is marked -/
theorem Two.arg {gx : Nat} (h : Two B0 w0 W b4 b7 B3 base7 n a3 c3 tt a7 c7 uu) (hg : W.grownBy W' (some gx)) (h1 : B3 ≤ gx) (h2 : gx ≠ b4) (h3 : gx < base7) : Two B0 w0 W' b4 b7 B3 base7 n a3 c3 tt a7 c7 uu := by
  have h4 := h.box4.lt
  have h5 := h.s3
  have h6 := h.s1
  have h7 := h.s7
  have hb : Below B3 W W' := (Below.refl _ _).grown hg (by omega) fun k hk => by cases hk; exact h1
  refine ⟨h.bel.trans (hb.mono (by omega)), h.box4.kept hg (fun e => h2 (by cases e; rfl)), h.ref.keep hb, h.box7.kept hg (fun e => by cases e; omega), h.own.kept hg ?_, h.s0, h.s3, h.s4, h.s7, h.s1⟩
  refine .inr fun e => ?_
  have := (h.own.lt gx e).1
  omega

theorem Two.see (h : Two B0 w0 W b4 b7 B3 base7 n a3 c3 tt a7 c7 uu) : W.cell? ⟨b4, 0, none⟩ = some (.slice a3 n c3) ∧ W.cell? ⟨b7, 0, none⟩ = some (.slice a7 n c7) := ⟨h.box4.cell, h.box7.cell⟩

theorem Two.read (h : Two B0 w0 W b4 b7 B3 base7 n a3 c3 tt a7 c7 uu) : Nds W.heap.size W a3 n c3 tt := h.ref.mono (by have := h.box4.lt; have := h.s3; omega)

end

/-- both are the same -/
theorem eq_trie (a1 a2 : Option Addr) (n c d : Nat) (t : List Nd) (w : World) (h1 : Nds w.heap.size w a1 n c t) (h2 : Nds w.heap.size w a2 n d t) :
    Calls Try.prog 15 #[.agg #[.slice a1 n c], .agg #[.slice a2 n d]] w fun e w' => e = .returned (.bool true) ∧ Below w.heap.size w w' :=
  eqTrie_any w.heap.size a1 a2 n c n d t t w (Nat.le_refl _) h1 h2 true (by simp)

set_option maxRecDepth 1000000 in
set_option maxHeartbeats 1000000 in
theorem specTrieOf_any (B : Nat) (a : Option Addr) (n c : Nat) (xs : List Txt) (w : World) (hB : B ≤ w.heap.size) (h : Wds B w a n c xs) (hn : n ≤ 1048576) :
    Calls Try.prog 12 #[.slice a n c] w (ReadRes w (tofT xs) (setOk xs)) := by
  have cS := Lib.hid (l2Set_any B a n c xs (w.alloc (.cells #[.slice none 0 0] 27)) (by simp; omega) (h.keep ((Below.refl _ _).alloc hB _)) hn)
  have HBx0 := Lib.hid (Boxed.new w 27 (.slice none 0 0))
  have HB0 : Hid (Below w.heap.size w (w.alloc (.cells #[.slice none 0 0] 27))) := Lib.hid ((Below.refl _ _).alloc (Nat.le_refl _) _)
  have HZ0 : Hid ((w.alloc (.cells #[.slice none 0 0] 27)).heap.size = w.heap.size + 1) := Lib.hid (by simp)
  obtain ⟨ok, hok⟩ : ∃ ok, setOk xs = ok := ⟨_, rfl⟩
  obtain ⟨tt, htt⟩ : ∃ tt, tofT xs = tt := ⟨_, rfl⟩
  rw [hok] at cS ⊢
  rw [htt]
  have HOK := Lib.hid hok
  have HTT := Lib.hid htt
  clear hok htt h
  go_enter Try.func12, Try.ntmps12
  go_wp2_with fail
  obtain ⟨W1, hW1⟩ : ∃ W1, w.alloc (.cells #[.slice none 0 0] 27) = W1 := ⟨_, rfl⟩
  rw [hW1] at HBx0 HB0 HZ0 cS ⊢
  clear hW1
  refine cS.out.mono ?_
  rintro e w2 ⟨a2, n2, c2, rfl, hW2, hb2⟩
  have HW2 := Lib.hid hW2
  have HB2 := Lib.hid hb2
  have hrc := (box_stay HBx0.out hb2).cell
  have hrf := (box_stay HBx0.out hb2).frozen
  clear hW2 hb2
  cases ok with
  | false =>
    obtain rfl : tt = [] := HTT.out.symm.trans (tofT_no HOK.out)
    go_wp2
    refine bodyPost_ret (v := .tuple #[.agg #[.slice none 0 0], .bool false]) (by simp [results, Try.results12, go_sem, hrc]) rfl ⟨_, _, rfl, nds_nil _ _, (HB0.out.trans (HB2.out.mono (by have := HZ0.out; omega))).setCell (Nat.le_refl _) _⟩
  | true =>
    obtain rfl : tt = made (setOf xs) := HTT.out.symm.trans (tofT_yes HOK.out)
    have hW2 := HW2.out rfl
    have h40 := (setOk_words HOK.out).2
    have hl2 := hW2.len
    have cO := Lib.hid (l2Of_any w2.heap.size a2 n2 c2 (setOf xs) w2 (Nat.le_refl _) hW2 (by omega) (setOk_words HOK.out).1)
    clear hW2 hl2 h40 hrc hrf
    go_wp2_with (go_at_call 34; refine cO.out.mono ?_; rintro e w3 ⟨a3, n3, c3, ps, rfl, hN3, hP3, _, hb3⟩; rw [made_of hP3] at hN3; obtain rfl := hN3.len; have HN3 := Lib.hid hN3; have HB3 := Lib.hid hb3; clear hN3 hP3 hb3; have hrc := (box_stay (box_stay HBx0.out HB2.out) HB3.out).cell; have hrf := (box_stay (box_stay HBx0.out HB2.out) HB3.out).frozen)
    refine bodyPost_ret (v := .tuple #[.agg #[.slice a3 (made (setOf xs)).length c3], .bool true]) (by simp [results, Try.results12, go_sem, hrc]) rfl ⟨_, _, rfl, ?_, ((HB0.out.trans (HB2.out.mono (by have := HZ0.out; omega))).trans (HB3.out.mono (by have := HZ0.out; have := HB2.out.size; omega))).setCell (Nat.le_refl _) _⟩
    have := HN3.out.box (box_stay (box_stay HBx0.out HB2.out) HB3.out) (.slice a3 (made (setOf xs)).length c3)
    simpa [World.setCell] using this

end Go.Proofs.Ytimengcikjankaa
