/-
  A row that a call owns and appends to: what becomes of the other blocks; rows of bytes.
-/
import Derived.Test.YtfehfjnmkaifbabPut
import Derived.Maps.Range
namespace Go.Proofs.Ytfehfjnmkaifbab
open Go.RowKit
set_option linter.unusedVariables false

/-- from w with the row v to w' with the row v': no other block has turned; the row lies where it lay, or in a new block -/
structure Grew (w w' : World) (v v' : Value) : Prop where
  grown : w.grownBy w' v.ownBlock
  spot : v'.ownBlock = v.ownBlock ∨ ∃ k, v'.ownBlock = some k ∧ w.heap.size ≤ k

theorem Grew.refl (w : World) (v : Value) : Grew w w v v := ⟨World.grownBy.refl w _, .inl rfl⟩

theorem Grew.trans {a b c : World} {u v x : Value} (h : Grew a b u v) (k : Grew b c v x) : Grew a c u x := by
  refine ⟨h.grown.andThen k.grown fun j hj => ?_, ?_⟩
  · rcases h.spot with e | ⟨q, e, hq⟩
    · exact .inr (e ▸ hj)
    · rw [e] at hj
      obtain rfl := Option.some.inj hj
      exact .inl hq
  · rcases k.spot with e | ⟨q, e, hq⟩
    · rcases h.spot with e' | ⟨q, e', hq⟩
      · exact .inl (e.trans e')
      · exact .inr ⟨q, e.trans e', hq⟩
    · exact .inr ⟨q, e, Nat.le_trans h.grown.size hq⟩

theorem Grew.app {w w1 : World} {v v' : Value} {o : Obj} (hg : (w.alloc o).grownBy w1 v.ownBlock) (hat : v'.ownBlock = v.ownBlock ∨ v'.ownBlock = some (w.alloc o).heap.size) : Grew w w1 v v' :=
  ⟨(World.grownBy_alloc w o _).trans hg, hat.elim .inl fun e => .inr ⟨_, e, by simp⟩⟩

theorem Grew.below {w w1 w2 : World} {v v1 : Value} (h : Grew w w1 v v1) (hb : Below w1.heap.size w1 w2) : Grew w w2 v v1 :=
  ⟨⟨hb.os.trans h.grown.os, hb.tape.trans h.grown.tape, hb.output.trans h.grown.output, Nat.le_trans h.grown.size hb.size, fun k hk hne => (hb.block k (Nat.lt_of_lt_of_le hk h.grown.size)).trans (h.grown.block k hk hne)⟩, h.spot⟩

/-- ahead of it: a step that turned nothing -/
theorem Grew.ahead {w0 w w1 : World} {v v1 : Value} (hb : Below w0.heap.size w0 w) (h : Grew w w1 v v1) : Grew w0 w1 v v1 :=
  ⟨⟨h.grown.os.trans hb.os, h.grown.tape.trans hb.tape, h.grown.output.trans hb.output, Nat.le_trans hb.size h.grown.size, fun k hk hne => (h.grown.block k (Nat.lt_of_lt_of_le hk hb.size) hne).trans (hb.block k hk)⟩, h.spot.elim .inl fun ⟨k, e, hk⟩ => .inr ⟨k, e, Nat.le_trans hb.size hk⟩⟩

theorem Grew.to {w w1 : World} {v v1 : Value} {B : Nat} {e : TypeId} {size n : Nat} {xs : List Value} (h : Grew w w1 v v1) (hown : w.ownsRow B e size v n xs) (hB : B ≤ w.heap.size) : Below B w w1 :=
  (Below.refl B w).grown h.grown hB fun k hk => (hown.lt k hk).1

theorem Grew.cell {w w1 : World} {v v1 : Value} (h : Grew w w1 v v1) (a : Addr) (hl : a.block < w.heap.size) (hne : some a.block ≠ v.ownBlock) : w1.cell? a = w.cell? a := h.grown.cell_far a hl hne

theorem Grew.free {w w1 : World} {v v1 : Value} (h : Grew w w1 v v1) {k : Nat} (hl : k < w.heap.size) (hne : some k ≠ v.ownBlock) : some k ≠ v1.ownBlock := by
  rcases h.spot with e | ⟨q, e, hq⟩
  · rw [e]; exact hne
  · rw [e]; intro he; have := Option.some.inj he; omega

theorem Sl.far {B : Nat} {w w' : World} {row : Option Nat} {a : Option Addr} {n c : Nat} {xs : List Value} (h : Sl B w a n c xs) (hg : w.grownBy w' row) (hne : ∀ x, a = some x → some x.block ≠ row) : Sl B w' a n c xs :=
  ⟨h.len, h.cap, h.top, fun i u hu => by
    obtain ⟨b, o, ha, hB, hc⟩ := h.spot i u hu
    exact ⟨b, o, ha, hB, hg.cell hc (hne ⟨b, o, none⟩ ha)⟩⟩

/-- bytes as cells -/
def u8s (x : Txt) : List Value := x.map fun c => Value.int .u8 (c.toNat : Int)

theorem u8s_app (x y : Txt) : u8s (x ++ y) = u8s x ++ u8s y := by simp [u8s]
theorem u8s_len (x : Txt) : (u8s x).length = x.length := by simp [u8s]

theorem infoU8 : (Try.prog.info? 5).map (fun i => (i.zero, i.size, i.bytes)) = some (some (.int .u8 0), 1, 1) := by kernel_rfl

/-- a row of bytes to which ys has been appended since w -/
structure Apx (bT : Nat) (w : World) (v : Value) (m : Nat) (xs : Txt) (w' : World) (v' : Value) (ys : Txt) : Prop where
  own : w'.ownsRow bT 5 1 v' (m + ys.length) (u8s (xs ++ ys))
  grew : Grew w w' v v'

theorem Apx.start {bT : Nat} {w : World} {v : Value} {m : Nat} {xs : Txt} (h : w.ownsRow bT 5 1 v m (u8s xs)) : Apx bT w v m xs w v [] := ⟨by simpa using h, Grew.refl w v⟩

theorem Apx.app {bT : Nat} {w wx w2 : World} {v v1 v2 : Value} {m : Nat} {xs ys : Txt} {o : Obj} {c : UInt8} {q : Int} (h : Apx bT w v m xs wx v1 ys) (hq : q = (c.toNat : Int))
    (hown : w2.ownsRow bT 5 1 v2 (m + ys.length + 1) (u8s (xs ++ ys) ++ [.int .u8 q])) (hg : (wx.alloc o).grownBy w2 v1.ownBlock) (hat : v2.ownBlock = v1.ownBlock ∨ v2.ownBlock = some (wx.alloc o).heap.size) :
    Apx bT w v m xs w2 v2 (ys ++ [c]) := by
  refine ⟨?_, h.grew.trans (Grew.app hg hat)⟩
  have e : u8s (xs ++ (ys ++ [c])) = u8s (xs ++ ys) ++ [.int .u8 q] := by rw [← List.append_assoc, u8s_app _ [c], hq]; rfl
  rw [e, List.length_append]
  exact hown

theorem Apx.then {bT : Nat} {w w1 w2 : World} {v v1 v2 : Value} {m : Nat} {xs ys zs : Txt} (h : Apx bT w v m xs w1 v1 ys) (k : Apx bT w1 v1 (m + ys.length) (xs ++ ys) w2 v2 zs) : Apx bT w v m xs w2 v2 (ys ++ zs) := by
  refine ⟨?_, h.grew.trans k.grew⟩
  have := k.own
  rwa [List.append_assoc, Nat.add_assoc, ← List.length_append] at this

theorem Apx.below {bT : Nat} {w wx w2 : World} {v v1 : Value} {m : Nat} {xs ys : Txt} (h : Apx bT w v m xs wx v1 ys) (hb : Below wx.heap.size wx w2) : Apx bT w v m xs w2 v1 ys := by
  refine ⟨h.own.kept (row := none) ⟨hb.os, hb.tape, hb.output, hb.size, fun k hk _ => hb.block k hk⟩ ?_, h.grew.below hb⟩
  cases hv : v1.ownBlock <;> simp

theorem Apx.cast {bT : Nat} {w wx : World} {v v1 : Value} {m : Nat} {xs ys zs : Txt} (h : Apx bT w v m xs wx v1 ys) (e : ys = zs) : Apx bT w v m xs wx v1 zs := e ▸ h

theorem Apx.ahead {bT : Nat} {w0 w wx : World} {v v1 : Value} {m : Nat} {xs ys : Txt} (h : Apx bT w v m xs wx v1 ys) (hb : Below w0.heap.size w0 w) : Apx bT w0 v m xs wx v1 ys := ⟨h.own, h.grew.ahead hb⟩

end Go.Proofs.Ytfehfjnmkaifbab
