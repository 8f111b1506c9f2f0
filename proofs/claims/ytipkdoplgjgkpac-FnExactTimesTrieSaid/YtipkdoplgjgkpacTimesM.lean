/-
  The products of two lists of texts, and a list that grows beside two that are read.
-/
import Derived.Test.YtipkdoplgjgkpacGv2
import Derived.Test.YtipkdoplgjgkpacBas
namespace Go.Proofs.Ytipkdoplgjgkpac
open Go.RowKit
set_option linter.unusedVariables false

def prods (xs ys : List Txt) : List Txt := xs.flatMap fun x => ys.map fun y => x ++ y

theorem prods_succ {xs ys : List Txt} {k : Nat} {x : Txt} (h : xs[k]? = some x) : prods (xs.take (k + 1)) ys = prods (xs.take k) ys ++ ys.map fun y => x ++ y := by
  unfold prods
  rw [List.take_add_one, h, List.flatMap_append]
  simp

theorem row_succ {ys : List Txt} {j : Nat} {x y : Txt} (h : ys[j]? = some y) : (ys.take (j + 1)).map (fun z => x ++ z) = (ys.take j).map (fun z => x ++ z) ++ [x ++ y] := by
  rw [List.take_add_one, h, List.map_append]
  rfl

theorem prods_len (xs ys : List Txt) (h : ys.length ≤ 40) : (prods xs ys).length ≤ 40 * xs.length := by
  unfold prods
  induction xs with
  | nil => simp
  | cons x xs ih => simp only [List.flatMap_cons, List.length_append, List.length_map, List.length_cons]; omega

theorem prods_short {xs ys : List Txt} (hx : ∀ x ∈ xs, x.length ≤ 12) (hy : ∀ y ∈ ys, y.length ≤ 12) : ∀ z ∈ prods xs ys, z.length ≤ 24 := by
  intro z hz
  obtain ⟨x, hx', hz⟩ := List.mem_flatMap.1 hz
  obtain ⟨y, hy', rfl⟩ := List.mem_map.1 hz
  have h1 := hx x hx'
  have h2 := hy y hy'
  rw [List.length_append]
  omega

/-- a slice's elements lie in another block -/
def FarA (g : Nat) (a : Option Addr) (n : Nat) : Prop := n ≠ 0 → ∀ b o x, a = some ⟨b, o, x⟩ → b ≠ g

theorem farA_lt {B : Nat} {w : World} {a : Option Addr} {n c : Nat} {xs : List Txt} (h : Wds B w a n c xs) {g : Nat} (hg : B ≤ g) : FarA g a n := fun hn b o x e => by
  obtain ⟨b', o', s, e', hb, _⟩ := h.elem 0 (by omega)
  rw [e] at e'
  cases e'
  omega

theorem Wds.grown {B : Nat} {w w' : World} {a : Option Addr} {n c : Nat} {xs : List Txt} {row : Option Nat} (h : Wds B w a n c xs) (hB : B ≤ w.heap.size) (hg : w.grownBy w' row) (hf : ∀ g, row = some g → FarA g a n) : Wds B w' a n c xs := by
  refine ⟨⟨h.sl.len, h.sl.cap, h.sl.top, fun i u hu => ?_⟩, h.each⟩
  obtain ⟨b, o, ha, hb, hc⟩ := h.sl.spot i u hu
  refine ⟨b, o, ha, hb, ?_⟩
  have hn : n ≠ 0 := by
    have h1 := (List.getElem?_eq_some_iff.1 hu).1
    have h2 := h.sl.len
    omega
  exact (World.cell?_of_block (a := ⟨b, o + i, none⟩) (hg.block b (by omega) (fun e => hf b e.symm hn b o none ha rfl))).trans hc

theorem Gv2R.far {W w w' : World} {a b : Option Addr} {n c k d : Nat} {t u : List Nd} (h : Gv2R W w a n c t b k d u) {L : Nat} (hL : W.heap.size + 1 + 1 < L) (hb : Below L w w') : Gv2R W w' a n c t b k d u :=
  ⟨⟨(hb.cell (p := ⟨W.heap.size, 0, none⟩) (by show W.heap.size < L; omega)).trans h.gv.box, (hb.cell (p := ⟨W.heap.size + 1, 0, none⟩) (by show W.heap.size + 1 < L; omega)).trans h.gv.boy, Nat.lt_of_lt_of_le h.gv.lt hb.size, h.gv.bel.trans (hb.mono (by omega)), h.gv.nds.keep (hb.mono (by omega)), h.gv.mds.keep (hb.mono (by omega))⟩, box_under h.res hb hL⟩

/-- a list grows beside two that are read -/
structure TL (W w : World) (a : Option Addr) (n c : Nat) (t : List Nd) (b : Option Addr) (k d : Nat) (u : List Nd) (v : Value) (m : Nat) (rs : List Txt) (a3 : Option Addr) (m1 c3 : Nat) (ws : List Txt) (a4 : Option Addr) (m2 c4 : Nat) (us : List Txt) : Prop where
  own : w.ownsRow (W.heap.size + 1 + 1 + 1) 9 1 v m (rs.map fun x => Value.string (bx x))
  r1 : Wds w.heap.size w a3 m1 c3 ws
  r2 : Wds w.heap.size w a4 m2 c4 us
  f1 : ∀ g, v.ownBlock = some g → FarA g a3 m1
  f2 : ∀ g, v.ownBlock = some g → FarA g a4 m2
  G : Gv2R W w a n c t b k d u

section
variable {W w w' : World} {a b a3 a4 : Option Addr} {n c k d m m1 c3 m2 c4 : Nat} {t u : List Nd} {v v' : Value} {rs ws us : List Txt}

theorem TL.app {x : Txt} {o : Obj} (h : TL W w a n c t b k d u v m rs a3 m1 c3 ws a4 m2 c4 us) (hO : w'.ownsRow (W.heap.size + 1 + 1 + 1) 9 1 v' (m + 1) ((rs.map fun x => Value.string (bx x)) ++ [Value.string (bx x)])) (hg : (w.alloc o).grownBy w' v.ownBlock) (hat : v'.ownBlock = v.ownBlock ∨ v'.ownBlock = some (w.alloc o).heap.size) :
    TL W w' a n c t b k d u v' (m + 1) (rs ++ [x]) a3 m1 c3 ws a4 m2 c4 us := by
  have hb0 : Below w.heap.size w (w.alloc o) := (Below.refl _ _).alloc (Nat.le_refl _) _
  have hz : (w.alloc o).heap.size = w.heap.size + 1 := by simp
  have hG := h.G.gv.lt
  have hres := h.G.res.lt
  have hB : Below (W.heap.size + 1 + 1 + 1) (w.alloc o) w' := below_grown (h.own.alloc o) (Nat.le_refl _) (by omega) hg
  refine ⟨by rw [List.map_append]; exact hO, ?_, ?_, ?_, ?_, (h.G.on hb0).far (by omega) hB⟩
  · exact (Wds.grown (h.r1.keep hb0) (by omega) hg h.f1).mono (by have := hg.size; omega)
  · exact (Wds.grown (h.r2.keep hb0) (by omega) hg h.f2).mono (by have := hg.size; omega)
  · intro g e
    rcases hat with e' | e'
    · exact h.f1 g (by rw [← e', e])
    · rw [e] at e'
      obtain rfl := Option.some.inj e'
      exact farA_lt h.r1 (by omega)
  · intro g e
    rcases hat with e' | e'
    · exact h.f2 g (by rw [← e', e])
    · rw [e] at e'
      obtain rfl := Option.some.inj e'
      exact farA_lt h.r2 (by omega)
theorem TL.drew (h : TL W w a n c t b k d u v m rs a3 m1 c3 ws a4 m2 c4 us) : TL W w.drew a n c t b k d u v m rs a3 m1 c3 ws a4 m2 c4 us :=
  ⟨h.own.drew, h.r1.keep (Below.refl _ _).drew, h.r2.keep (Below.refl _ _).drew, h.f1, h.f2, h.G.on (Below.refl _ _).drew⟩
theorem TL.drewN (q : Nat) (h : TL W w a n c t b k d u v m rs a3 m1 c3 ws a4 m2 c4 us) : TL W (w.drewN q) a n c t b k d u v m rs a3 m1 c3 ws a4 m2 c4 us := by
  have hb : Below w.heap.size w (w.drewN q) := below_drewN (Below.refl _ _) q
  exact ⟨own_stay h.own hb, (h.r1.keep hb).mono hb.size, (h.r2.keep hb).mono hb.size, h.f1, h.f2, h.G.on hb⟩
theorem TL.on (h : TL W w a n c t b k d u v m rs a3 m1 c3 ws a4 m2 c4 us) (hb : Below w.heap.size w w') : TL W w' a n c t b k d u v m rs a3 m1 c3 ws a4 m2 c4 us :=
  ⟨own_stay h.own hb, (h.r1.keep hb).mono hb.size, (h.r2.keep hb).mono hb.size, h.f1, h.f2, h.G.on hb⟩

/-- the empty list is laid ahead of both, between them, behind them -/
theorem TL.mk1 {B1 : Nat} (G : Gv2R W w a n c t b k d u) (g : Nat) (hg : W.heap.size + 1 + 1 < g) (ho : w.ownsRow g 9 1 (.slice (some ⟨g, 0, none⟩) 0 0) 0 []) (h1 : Wds w.heap.size w a3 m1 c3 ws) (h2 : Wds w.heap.size w a4 m2 c4 us) (f1 : FarA g a3 m1) (f2 : FarA g a4 m2) : TL W w a n c t b k d u (.slice (some ⟨g, 0, none⟩) 0 0) 0 [] a3 m1 c3 ws a4 m2 c4 us :=
  ⟨own_down ho hg, h1, h2, fun q e => by cases e; exact f1, fun q e => by cases e; exact f2, G⟩

/-- a row that is owned from a block on lies far from what is ahead -/
theorem farA_own {base nn : Nat} {xs : List Value} (h : w.ownsRow base 9 1 (.slice a3 m1 c3) nn xs) {g : Nat} (hg : g < base) : FarA g a3 m1 := fun hn b o x e => by
  rcases h.2 with ⟨h', _⟩ | ⟨g', cap', cur, h', hb, _⟩
  · simp at h'
    rw [h'.1] at e
    cases e
  · simp at h'
    rw [h'.1] at e
    cases e
    omega
end

end Go.Proofs.Ytipkdoplgjgkpac
