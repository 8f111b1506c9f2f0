import Derived.Test.YtibdfhhbkbncgabPut
import Derived.Maps.Range
import Derived.Test.YtibdfhhbkbncgabOf
import Derived.RangeFuncBox
import Derived.Test.YtibdfhhbkbncgabWordM
import Derived.Test.YtibdfhhbkbncgabWordS

/-
  A row that a call owns and appends to: what becomes of the other blocks; rows of bytes.
-/
namespace Go.Proofs.Ytibdfhhbkbncgab
open Go.RowKit
set_option linter.unusedVariables false

/-- from w with the row v to w' with the row v': no other block has turned; the row lies where it lay, or in a new block -/
structure Grew (w w' : World) (v v' : Value) : Prop where
  grown : w.grownBy w' v.ownBlock
  spot : v'.ownBlock = v.ownBlock ∨ ∃ k, v'.ownBlock = some k ∧ w.heap.size ≤ k

theorem Grew.refl (w : World) (v : Value) : Grew w w v v := ⟨World.grownBy.refl w _, .inl rfl⟩

theorem Grew.trans {a b c : World} {u v x : Value} (h : Grew a b u v) (k : Grew b c v x) : Grew a c u x := by
  refine ⟨h.grown.andThen k.grown fun j hj => ?_, ?_⟩
  · rcases h.spot with e | ⟨q, e, hq⟩
    · exact .inr (e ▸ hj)
    · rw [e] at hj
      obtain rfl := Option.some.inj hj
      exact .inl hq
  · rcases k.spot with e | ⟨q, e, hq⟩
    · rcases h.spot with e' | ⟨q, e', hq⟩
      · exact .inl (e.trans e')
      · exact .inr ⟨q, e.trans e', hq⟩
    · exact .inr ⟨q, e, Nat.le_trans h.grown.size hq⟩

theorem Grew.app {w w1 : World} {v v' : Value} {o : Obj} (hg : (w.alloc o).grownBy w1 v.ownBlock) (hat : v'.ownBlock = v.ownBlock ∨ v'.ownBlock = some (w.alloc o).heap.size) : Grew w w1 v v' :=
  ⟨(World.grownBy_alloc w o _).trans hg, hat.elim .inl fun e => .inr ⟨_, e, by simp⟩⟩

theorem Grew.below {w w1 w2 : World} {v v1 : Value} (h : Grew w w1 v v1) (hb : Below w1.heap.size w1 w2) : Grew w w2 v v1 :=
  ⟨⟨hb.os.trans h.grown.os, hb.tape.trans h.grown.tape, hb.output.trans h.grown.output, Nat.le_trans h.grown.size hb.size, fun k hk hne => (hb.block k (Nat.lt_of_lt_of_le hk h.grown.size)).trans (h.grown.block k hk hne)⟩, h.spot⟩

/-- ahead of it: a step that turned nothing -/
theorem Grew.ahead {w0 w w1 : World} {v v1 : Value} (hb : Below w0.heap.size w0 w) (h : Grew w w1 v v1) : Grew w0 w1 v v1 :=
  ⟨⟨h.grown.os.trans hb.os, h.grown.tape.trans hb.tape, h.grown.output.trans hb.output, Nat.le_trans hb.size h.grown.size, fun k hk hne => (h.grown.block k (Nat.lt_of_lt_of_le hk hb.size) hne).trans (hb.block k hk)⟩, h.spot.elim .inl fun ⟨k, e, hk⟩ => .inr ⟨k, e, Nat.le_trans hb.size hk⟩⟩

theorem Grew.to {w w1 : World} {v v1 : Value} {B : Nat} {e : TypeId} {size n : Nat} {xs : List Value} (h : Grew w w1 v v1) (hown : w.ownsRow B e size v n xs) (hB : B ≤ w.heap.size) : Below B w w1 :=
  (Below.refl B w).grown h.grown hB fun k hk => (hown.lt k hk).1

theorem Grew.cell {w w1 : World} {v v1 : Value} (h : Grew w w1 v v1) (a : Addr) (hl : a.block < w.heap.size) (hne : some a.block ≠ v.ownBlock) : w1.cell? a = w.cell? a := h.grown.cell_far a hl hne

theorem Grew.free {w w1 : World} {v v1 : Value} (h : Grew w w1 v v1) {k : Nat} (hl : k < w.heap.size) (hne : some k ≠ v.ownBlock) : some k ≠ v1.ownBlock := by
  rcases h.spot with e | ⟨q, e, hq⟩
  · rw [e]; exact hne
  · rw [e]; intro he; have := Option.some.inj he; omega

theorem Sl.far {B : Nat} {w w' : World} {row : Option Nat} {a : Option Addr} {n c : Nat} {xs : List Value} (h : Sl B w a n c xs) (hg : w.grownBy w' row) (hne : ∀ x, a = some x → some x.block ≠ row) : Sl B w' a n c xs :=
  ⟨h.len, h.cap, h.top, fun i u hu => by
    obtain ⟨b, o, ha, hB, hc⟩ := h.spot i u hu
    exact ⟨b, o, ha, hB, hg.cell hc (hne ⟨b, o, none⟩ ha)⟩⟩

/-- bytes as cells -/
def u8s (x : Txt) : List Value := x.map fun c => Value.int .u8 (c.toNat : Int)

theorem u8s_app (x y : Txt) : u8s (x ++ y) = u8s x ++ u8s y := by simp [u8s]
theorem u8s_len (x : Txt) : (u8s x).length = x.length := by simp [u8s]

theorem infoU8 : (Try.prog.info? 5).map (fun i => (i.zero, i.size, i.bytes)) = some (some (.int .u8 0), 1, 1) := by kernel_rfl

/-- a row of bytes to which ys has been appended since w -/
structure Apx (bT : Nat) (w : World) (v : Value) (m : Nat) (xs : Txt) (w' : World) (v' : Value) (ys : Txt) : Prop where
  own : w'.ownsRow bT 5 1 v' (m + ys.length) (u8s (xs ++ ys))
  grew : Grew w w' v v'

theorem Apx.start {bT : Nat} {w : World} {v : Value} {m : Nat} {xs : Txt} (h : w.ownsRow bT 5 1 v m (u8s xs)) : Apx bT w v m xs w v [] := ⟨by simpa using h, Grew.refl w v⟩

theorem Apx.app {bT : Nat} {w wx w2 : World} {v v1 v2 : Value} {m : Nat} {xs ys : Txt} {o : Obj} {c : UInt8} {q : Int} (h : Apx bT w v m xs wx v1 ys) (hq : q = (c.toNat : Int))
    (hown : w2.ownsRow bT 5 1 v2 (m + ys.length + 1) (u8s (xs ++ ys) ++ [.int .u8 q])) (hg : (wx.alloc o).grownBy w2 v1.ownBlock) (hat : v2.ownBlock = v1.ownBlock ∨ v2.ownBlock = some (wx.alloc o).heap.size) :
    Apx bT w v m xs w2 v2 (ys ++ [c]) := by
  refine ⟨?_, h.grew.trans (Grew.app hg hat)⟩
  have e : u8s (xs ++ (ys ++ [c])) = u8s (xs ++ ys) ++ [.int .u8 q] := by rw [← List.append_assoc, u8s_app _ [c], hq]; rfl
  rw [e, List.length_append]
  exact hown

theorem Apx.then {bT : Nat} {w w1 w2 : World} {v v1 v2 : Value} {m : Nat} {xs ys zs : Txt} (h : Apx bT w v m xs w1 v1 ys) (k : Apx bT w1 v1 (m + ys.length) (xs ++ ys) w2 v2 zs) : Apx bT w v m xs w2 v2 (ys ++ zs) := by
  refine ⟨?_, h.grew.trans k.grew⟩
  have := k.own
  rwa [List.append_assoc, Nat.add_assoc, ← List.length_append] at this

theorem Apx.below {bT : Nat} {w wx w2 : World} {v v1 : Value} {m : Nat} {xs ys : Txt} (h : Apx bT w v m xs wx v1 ys) (hb : Below wx.heap.size wx w2) : Apx bT w v m xs w2 v1 ys := by
  refine ⟨h.own.kept (row := none) ⟨hb.os, hb.tape, hb.output, hb.size, fun k hk _ => hb.block k hk⟩ ?_, h.grew.below hb⟩
  cases hv : v1.ownBlock <;> simp

theorem Apx.cast {bT : Nat} {w wx : World} {v v1 : Value} {m : Nat} {xs ys zs : Txt} (h : Apx bT w v m xs wx v1 ys) (e : ys = zs) : Apx bT w v m xs wx v1 zs := e ▸ h

theorem Apx.ahead {bT : Nat} {w0 w wx : World} {v v1 : Value} {m : Nat} {xs ys : Txt} (h : Apx bT w v m xs wx v1 ys) (hb : Below w0.heap.size w0 w) : Apx bT w0 v m xs wx v1 ys := ⟨h.own, h.grew.ahead hb⟩

end Go.Proofs.Ytibdfhhbkbncgab

/-
  Nodes that a call owns, to be read; a box beside them.
-/
namespace Go.Proofs.Ytibdfhhbkbncgab
open Go.RowKit
set_option linter.unusedVariables false

/-- a trie to be read, and whether there is one -/
def ReadRes (w : World) (t : List Nd) (ok : Bool) (e : Ending) (w' : World) : Prop :=
  ∃ a' c', e = .returned (.tuple #[.agg #[.slice a' t.length c'], .bool ok]) ∧ Nds w'.heap.size w' a' t.length c' t ∧ Below w.heap.size w w'

theorem nds_own {base : Nat} {w : World} {n c : Nat} {a : Option Addr} {t : List Nd} (h : w.ownsRow base 55 3 (.slice a n c) n (ndc t)) (hx : Fits t) : Nds w.heap.size w a n c t := by
  obtain ⟨a', c', e, hN⟩ := own_nds h hx
  injection e with e1 _ e3
  rw [e1, e3]
  exact hN

/-- a store into a variable's box turns no node -/
theorem Nds.box {B b n c : Nat} {w : World} {a x : Option Addr} {y z : Nat} {t : List Nd} {T : TypeId} (h : Nds B w a n c t) (hb : Boxed w b T (.slice x y z)) (v' : Value) : Nds B (w.setCell ⟨b, 0, none⟩ v') a n c t :=
  ⟨h.len, h.cap, h.top, fun i d hd => by
    obtain ⟨b2, o, ha, hB, h1, h2, h3⟩ := h.spot i d hd
    have hne : b2 ≠ b := by
      rintro rfl
      have hh : w.heap[b2]? = some (.cells #[.slice x y z] T (0, 0)) := hb
      simp only [World.cell?, hh, Option.isSome_none, Bool.false_eq_true, if_false] at h1
      rcases Nat.eq_zero_or_pos (o + i * 3) with e | e
      · rw [e] at h1
        simp at h1
      · have hlt := (Array.getElem?_eq_some_iff.1 h1).1
        simp at hlt
        omega
    exact ⟨b2, o, ha, hB, (World.cell?_setCell_other _ _ _ _ (fun e => hne (congrArg Addr.block e).symm)).trans h1, (World.cell?_setCell_other _ _ _ _ (fun e => hne (congrArg Addr.block e).symm)).trans h2, (World.cell?_setCell_other _ _ _ _ (fun e => hne (congrArg Addr.block e).symm)).trans h3⟩, h.rng⟩

theorem nds_nil (B : Nat) (w : World) : Nds B w none 0 0 [] := ⟨rfl, Nat.le_refl _, by omega, fun i d h => by simp at h, fun d h => by cases h⟩

end Go.Proofs.Ytibdfhhbkbncgab

/-
  What is a letter: the program's functions.
-/
namespace Go.Proofs.Ytibdfhhbkbncgab
open Go.RowKit
set_option linter.unusedVariables false

theorem iter_below {B : Nat} {w : World} (hB : B ≤ w.heap.size) (s : ByteArray) (p : Nat) : Below B w (w.iter s p) := (Below.refl _ w).alloc hB _

theorem isLetter_any (z : Int) (b : Bool) (h : b = decide (97 ≤ z ∧ z ≤ 122)) (w : World) :
    Calls Try.prog 81 #[.int .i32 z] w fun e w' => e = .returned (.bool b) ∧ w = w' := by
  by_cases h1 : z < 97
  · have hb : b = false := by rw [h, decide_eq_false_iff_not]; omega
    subst hb
    clear h
    go_enter Try.func81, Try.ntmps81
    go_wp2
    go_ret
    exact ⟨rfl, rfl⟩
  · by_cases h2 : 122 < z
    · have hb : b = false := by rw [h, decide_eq_false_iff_not]; omega
      subst hb
      clear h
      have h3 : ¬ z ≤ 122 := by omega
      go_enter Try.func81, Try.ntmps81
      go_wp2
      go_ret
      exact ⟨ret_bool (by first | (simp; done) | (simp; omega)), rfl⟩
    · have hb : b = true := by rw [h, decide_eq_true_eq]; omega
      subst hb
      clear h
      have h3 : z ≤ 122 := by omega
      go_enter Try.func81, Try.ntmps81
      go_wp2
      go_ret
      exact ⟨ret_bool (by first | (simp; done) | (simp; omega)), rfl⟩

set_option maxRecDepth 1000000 in
set_option maxHeartbeats 1000000 in
theorem areLetters_any (s : ByteArray) (w : World) (hs : s.size ≤ 9223372036854775807) :
    Calls Try.prog 53 #[.string s] w fun e w' => e = .returned (.bool (lowB s)) ∧ Below w.heap.size w w' := by
  go_enter Try.func53, Try.ntmps53
  go_wp2
  go_loopw [4] (fun c wr => ∃ k : Nat, k ≤ s.size ∧ wr = w.iter s k ∧ (∃ v : Value, c = v) ∧ Hid (LowTo s k)) (fun _ wr => s.size - wr.iterPos w.heap.size)
  case atStart => exact ⟨0, Nat.zero_le _, rfl, ⟨_, rfl⟩, Lib.hid fun j _ h => by omega⟩
  case round =>
    obtain ⟨k, hk, rfl, ⟨v, rfl⟩, HL⟩ := hrel
    by_cases hlt : k < s.size
    · by_cases hl : 97 ≤ s[k].toNat ∧ s[k].toNat ≤ 122
      · have hnx := fun ty => run_next_ascii (P := Try.prog) w s k ty hlt (by omega)
        have HN := Lib.hid (HL.out.succ hlt hl.1 hl.2)
        have cL := Lib.hid (fun W => isLetter_any (s[k].toNat : Int) true (by symm; rw [decide_eq_true_eq]; omega) W)
        clear hl
        go_wp2_with (first | (go_at_call 81; refine (cL.out _).mono ?_; rintro e w2 ⟨rfl, rfl⟩))
        go_roundw
        case rel => exact ⟨k + 1, by omega, rfl, ⟨_, rfl⟩, HN⟩
        case measure => simp; omega
      · have HF := Lib.hid (lowB_no hlt hl)
        by_cases h128 : s[k].toNat < 128
        · have hnx := fun ty => run_next_ascii (P := Try.prog) w s k ty hlt h128
          have cL := Lib.hid (fun W => isLetter_any (s[k].toNat : Int) false (by symm; rw [decide_eq_false_iff_not]; omega) W)
          clear hl
          go_wp2_with (first | (go_at_call 81; refine (cL.out _).mono ?_; rintro e w2 ⟨rfl, rfl⟩))
          go_ret
          exact ⟨ret_bool HF.out.symm, iter_below (Nat.le_refl _) _ _⟩
        · have hnx := fun ty => run_next_any (P := Try.prog) w s k ty hlt
          have hd := decode_high s k hlt (by omega)
          have hd2 := decode_le s k
          obtain ⟨q, hq⟩ : ∃ q, (Utf8.decode s k).1 = q := ⟨_, rfl⟩
          rw [hq] at hd hd2
          simp only [hq] at hnx
          clear hq
          have cL := Lib.hid (fun W => isLetter_any (q : Int) false (by symm; rw [decide_eq_false_iff_not]; omega) W)
          clear hl
          go_wp2_with (first | (go_at_call 81; refine (cL.out _).mono ?_; rintro e w2 ⟨rfl, rfl⟩))
          go_ret
          exact ⟨ret_bool HF.out.symm, iter_below (Nat.le_refl _) _ _⟩
    · have e : k = s.size := by omega
      subst e
      have hnx := fun ty => run_next_end (P := Try.prog) w s s.size ty (by omega)
      have HT := Lib.hid (lowB_yes HL.out)
      go_wp2
      go_ret
      exact ⟨ret_bool HT.out.symm, iter_below (Nat.le_refl _) _ _⟩

end Go.Proofs.Ytibdfhhbkbncgab

/-
  What is a word: the program's function.
-/
namespace Go.Proofs.Ytibdfhhbkbncgab
open Go.RowKit
set_option linter.unusedVariables false

set_option maxRecDepth 1000000 in
set_option maxHeartbeats 1000000 in
theorem implIsWord_any (s : ByteArray) (w : World) (hs : s.size ≤ 9223372036854775807) :
    Calls Try.prog 28 #[.string s] w fun e w' => e = .returned (.bool (okW s)) ∧ Below w.heap.size w w' := by
  have cL := Lib.hid (areLetters_any s w hs)
  by_cases h12 : s.size ≤ 12
  · have HE := Lib.hid (okW_lowB h12)
    go_enter Try.func28, Try.ntmps28
    go_wp2_with (first | (go_at_call 53; refine cL.out.mono ?_; rintro e w2 ⟨rfl, hb2⟩; have HB2 := Lib.hid hb2; clear hb2))
    go_ret
    exact ⟨ret_bool HE.out.symm, HB2.out⟩
  · have HF := Lib.hid (okW_long (show 12 < s.size by omega))
    go_enter Try.func28, Try.ntmps28
    go_wp2_with fail
    go_ret
    exact ⟨ret_bool HF.out.symm, Below.refl _ _⟩

end Go.Proofs.Ytibdfhhbkbncgab
