/-
  The places of the splits of a passage: how they are found, and the rows that hold what has been found.
-/
import Derived.Test.YtknoafkgeaibpabOW2
import Derived.Test.YtknoafkgeaibpabTellSplits
namespace Go.Proofs.Ytknoafkgeaibpab
open Go.RowKit
set_option linter.unusedVariables false

/-- places behind words are marked -/
def hit (k : Nat) (l : List Nat) (b : List Bool) : List Bool := l.foldl (fun (b : List Bool) (j : Nat) => b.set (k + j) true) b

theorem hit_succ {k i j : Nat} {l : List Nat} {b : List Bool} (h : l[i]? = some j) : hit k (l.take (i + 1)) b = (hit k (l.take i) b).set (k + j) true := by
  obtain ⟨hi, e⟩ := List.getElem?_eq_some_iff.1 h
  unfold hit
  rw [List.take_succ_eq_append_getElem hi, List.foldl_append, e]
  rfl

theorem hit_len (k : Nat) : ∀ (l : List Nat) (b : List Bool), (hit k l b).length = b.length
  | [], b => rfl
  | j :: l, b => by
    have := hit_len k l (b.set (k + j) true)
    rw [List.length_set] at this
    exact this

/-- what has been marked and which places have been found after k rounds -/
def rch (ws : List Txt) (x : Txt) (wl : List Int) (nn : Nat) : Nat → List Bool × List Nat
  | 0 => ((List.replicate nn false).set 0 true, [])
  | k + 1 => if (rch ws x wl nn k).1.getD k false = true ∧ wl.getD k 0 ≠ 0 then (hit k (Mt ws (x.drop k)) (rch ws x wl nn k).1, (rch ws x wl nn k).2 ++ [k]) else rch ws x wl nn k

theorem rch_yes {ws : List Txt} {x : Txt} {wl : List Int} {nn k : Nat} (h : (rch ws x wl nn k).1.getD k false = true) (hz : wl.getD k 0 ≠ 0) : rch ws x wl nn (k + 1) = (hit k (Mt ws (x.drop k)) (rch ws x wl nn k).1, (rch ws x wl nn k).2 ++ [k]) := by
  rw [rch, if_pos ⟨h, hz⟩]
theorem rch_no {ws : List Txt} {x : Txt} {wl : List Int} {nn k : Nat} (h : (rch ws x wl nn k).1.getD k false = false ∨ wl.getD k 0 = 0) : rch ws x wl nn (k + 1) = rch ws x wl nn k := by
  rw [rch, if_neg]
  rintro ⟨h1, h2⟩
  rcases h with h | h
  · rw [h1] at h; cases h
  · exact h2 h

theorem rch_len (ws : List Txt) (x : Txt) (wl : List Int) (nn : Nat) : ∀ k, (rch ws x wl nn k).1.length = nn ∧ (rch ws x wl nn k).2.length ≤ k
  | 0 => by simp [rch]
  | k + 1 => by
    have ih := rch_len ws x wl nn k
    rw [rch]
    split
    · refine ⟨by rw [hit_len]; exact ih.1, ?_⟩
      rw [List.length_append]
      have := ih.2
      simp
      omega
    · exact ⟨ih.1, by omega⟩

/-- the rows: what is found, what is marked, the numbers of splits, and another one that is only read -/
structure SP (base : Nat) (wr : World) (v : Value) (m : Nat) (xs : List Nat) (gb gw nn : Nat) (bs : List Bool) (wl : List Int) (te : TypeId) (vx : Value) (nx : Nat) (xx : List Value) : Prop where
  out : wr.ownsRow base 3 1 v m (nums xs)
  bef : wr.ownsRow base 4 1 (.slice (some ⟨gb, 0, none⟩) nn nn) nn (bs.map Value.bool)
  way : wr.ownsRow base 3 1 (.slice (some ⟨gw, 0, none⟩) nn nn) nn (wl.map (Value.int .i64))
  ext : wr.ownsRow base te 1 vx nx xx
  d1 : v.ownBlock ≠ some gb
  d2 : v.ownBlock ≠ some gw
  d3 : gw ≠ gb
  e1 : vx.ownBlock = none ∨ vx.ownBlock ≠ v.ownBlock
  e2 : vx.ownBlock ≠ some gb

section
variable {base : Nat} {w w' w2 : World} {v v2 : Value} {m gb gw nn : Nat} {xs : List Nat} {bs : List Bool} {wl : List Int} {te : TypeId} {vx : Value} {nx : Nat} {xx : List Value}

theorem SP.on (h : SP base w v m xs gb gw nn bs wl te vx nx xx) (hb : Below w.heap.size w w') : SP base w' v m xs gb gw nn bs wl te vx nx xx :=
  ⟨own_stay h.out hb, own_stay h.bef hb, own_stay h.way hb, own_stay h.ext hb, h.d1, h.d2, h.d3, h.e1, h.e2⟩

theorem SP.drew (h : SP base w v m xs gb gw nn bs wl te vx nx xx) : SP base w.drew v m xs gb gw nn bs wl te vx nx xx := ⟨h.out.drew, h.bef.drew, h.way.drew, h.ext.drew, h.d1, h.d2, h.d3, h.e1, h.e2⟩

theorem SP.app {o : Obj} {m2 : Nat} {xs2 : List Nat} (h : SP base w v m xs gb gw nn bs wl te vx nx xx)
    (hO : w2.ownsRow base 3 1 v2 m2 (nums xs2)) (hG : (w.alloc o).grownBy w2 v.ownBlock) (hat : v2.ownBlock = v.ownBlock ∨ v2.ownBlock = some (w.alloc o).heap.size) : SP base w2 v2 m2 xs2 gb gw nn bs wl te vx nx xx := by
  have k1 : v2.ownBlock ≠ some gb := by
    rcases hat with e | e
    · rw [e]; exact h.d1
    · rw [e]; intro e2; injection e2 with e2; have := (own_ge h.bef (g := gb) rfl).2; simp at e2; omega
  have k2 : v2.ownBlock ≠ some gw := by
    rcases hat with e | e
    · rw [e]; exact h.d2
    · rw [e]; intro e2; injection e2 with e2; have := (own_ge h.way (g := gw) rfl).2; simp at e2; omega
  refine ⟨hO, (h.bef.alloc o).kept hG (.inr (fun e => h.d1 e.symm)), (h.way.alloc o).kept hG (.inr (fun e => h.d2 e.symm)), (h.ext.alloc o).kept hG h.e1, k1, k2, h.d3, ?_, h.e2⟩
  rcases h.e1 with e | e
  · exact .inl e
  · refine .inr fun e3 => ?_
    rcases hat with e4 | e4
    · exact e (e3.trans e4)
    · have := (own_ge h.ext (e3.trans e4)).2
      simp at this
      omega

theorem SP.below {o : Obj} (h : SP base w v m xs gb gw nn bs wl te vx nx xx) (hb : base ≤ w.heap.size) (hG : (w.alloc o).grownBy w2 v.ownBlock) : Below base w w2 :=
  ((Below.refl _ w).alloc hb _).trans (below_grown (h.out.alloc o) (Nat.le_refl _) (by simp; omega) hG)

theorem SP.mark (h : SP base w v m xs gb gw nn bs wl te vx nx xx) (j : Nat) : SP base (w.setCell ⟨gb, j, none⟩ (.bool true)) v m xs gb gw nn (bs.set j true) wl te vx nx xx := by
  have hs := h.bef.stored j (.bool true)
  have e : (bs.map Value.bool).set j (.bool true) = (bs.set j true).map Value.bool := by rw [List.map_set]
  rw [e] at hs
  exact ⟨h.out.kept hs.2 (.inr h.d1), hs.1, h.way.kept hs.2 (.inr (fun e2 => h.d3 (by simpa [Value.ownBlock] using e2))), h.ext.kept hs.2 (.inr h.e2), h.d1, h.d2, h.d3, h.e1, h.e2⟩

theorem SP.mark_below (h : SP base w v m xs gb gw nn bs wl te vx nx xx) (j : Nat) (hb : base ≤ w.heap.size) : Below base w (w.setCell ⟨gb, j, none⟩ (.bool true)) :=
  (Below.refl _ _).grown (h.bef.stored j (.bool true)).2 hb (fun k e => by injection e with e; rw [← e]; exact own_base h.bef)

theorem SP.mark_far (h : SP base w v m xs gb gw nn bs wl te vx nx xx) (j : Nat) {b2 : Nat} {e : TypeId} {size n : Nat} {u : Value} {ys : List Value} (hu : w.ownsRow b2 e size u n ys) (hne : u.ownBlock ≠ some gb) : (w.setCell ⟨gb, j, none⟩ (.bool true)).ownsRow b2 e size u n ys :=
  hu.kept (h.bef.stored j (.bool true)).2 (.inr hne)

theorem SP.marked (h : SP base w v m xs gb gw nn bs wl te vx nx xx) (k : Nat) (hk : k < nn) : w.cell? ⟨gb, k, none⟩ = some (.bool (bs.getD k false)) := by
  have hl : bs.length = nn := by have := h.bef.1; simpa using this
  rw [h.bef.cellAt k (by omega), List.getElem?_map, List.getElem?_eq_getElem (by omega), Option.map_some, List.getD_eq_getElem?_getD, List.getElem?_eq_getElem (by omega), Option.getD_some]

theorem SP.ways (h : SP base w v m xs gb gw nn bs wl te vx nx xx) (k : Nat) (hk : k < nn) : w.cell? ⟨gw, k, none⟩ = some (.int .i64 (wl.getD k 0)) := by
  have hl : wl.length = nn := by have := h.way.1; simpa using this
  rw [h.way.cellAt k (by omega), List.getElem?_map, List.getElem?_eq_getElem (by omega), Option.map_some, List.getD_eq_getElem?_getD, List.getElem?_eq_getElem (by omega), Option.getD_some]
end

theorem infoBo : (Try.prog.info? 4).map (fun i => (i.zero, i.size, i.bytes)) = some (some (.bool false), 1, 1) := by kernel_rfl

end Go.Proofs.Ytknoafkgeaibpab
