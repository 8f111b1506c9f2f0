/-
  What the reference's pressed tree is made of, node by node: plain mathematics.
-/
import Derived.Test.YtoofpgehkihbcaaStaying
import Derived.Test.YtoofpgehkihbcaaBrRow
import Derived.RangeFuncBox
namespace Go.Proofs.Ytoofpgehkihbcaa
open Go.RowKit
set_option linter.unusedVariables false

/-- on the way up from a node with the text y: at place z, with the text u -/
structure Abv (ps qs : List Txt) (y : Txt) (z : Nat) (u : Txt) : Prop where
  at' : ps[z]? = some u
  pre : u <+: y
  ne : u ≠ y
  all : ∀ v, v ∈ qs → v <+: y → v ≠ y → v <+: u

theorem pre_parent {v u : Txt} {c : UInt8} (h : v <+: u ++ [c]) (hn : v ≠ u ++ [c]) : v <+: u := by
  rcases List.prefix_concat_iff.1 h with e | e
  · exact absurd e hn
  · exact e

theorem Abv.start {t : List Nd} {ps qs : List Txt} (hv : Valid t ps) {i : Nat} {d : Nd} {y : Txt} (hi : 1 ≤ i) (hd : t[i]? = some d) (hy : ps[i]? = some y) : ∃ (z : Nat) (u : Txt), d.p = (z : Int) ∧ z < i ∧ Abv ps qs y z u := by
  obtain ⟨q, u, c, hp, hq, hl, c0, c1, f1, f2⟩ := hv.tells.step i d hi (List.getElem?_eq_some_iff.1 hd).1 hd
  rw [hy] at f2
  obtain rfl := Option.some.inj f2
  exact ⟨q, u, hp, hq, f1, List.prefix_append _ _, fun e => by have := congrArg List.length e; simp at this, fun v _ h1 h2 => pre_parent h1 h2⟩

theorem Abv.step {t : List Nd} {ps qs : List Txt} (hv : Valid t ps) {y u : Txt} {z : Nat} {d : Nd} (h : Abv ps qs y z u) (hz : 1 ≤ z) (hd : t[z]? = some d) (hu : u ∉ qs) : ∃ (z' : Nat) (u' : Txt), d.p = (z' : Int) ∧ z' < z ∧ Abv ps qs y z' u' := by
  obtain ⟨q, u', c, hp, hq, hl, c0, c1, f1, f2⟩ := hv.tells.step z d hz (List.getElem?_eq_some_iff.1 hd).1 hd
  rw [h.at'] at f2
  obtain rfl := Option.some.inj f2
  refine ⟨q, u', hp, hq, f1, (List.prefix_append _ _).trans h.pre, fun e => ?_, fun v hm h1 h2 => ?_⟩
  · have h1 := h.pre.length_le
    rw [← e] at h1
    simp at h1
    omega
  · have h3 := h.all v hm h1 h2
    exact pre_parent h3 (fun e => hu (e ▸ hm))

theorem Abv.done {ps qs : List Txt} (hr : [] ∈ qs) {y u : Txt} {z : Nat} (hy : y ∈ qs) (h : Abv ps qs y z u) (hu : u ∈ qs) : Kd qs u y ∧ up qs y = u := by
  have hk : Kd qs u y := ⟨hu, hy, h.pre, h.ne, h.all⟩
  exact ⟨hk, kd_up hr hk⟩

theorem wds_end {t : List Nd} {ps : List Txt} (hv : Valid t ps) {i : Nat} {d : Nd} {y : Txt} (hd : t[i]? = some d) (hy : ps[i]? = some y) : d.e = decide (y ∈ wds t ps) := by
  rw [Bool.eq_iff_iff, decide_eq_true_eq, mem_wds]
  constructor
  · intro he; exact ⟨i, d, hd, hy, he⟩
  · rintro ⟨j, d', h1, h2, h3⟩
    have := asc_inj hv.tells.asc h2 hy
    subst this
    rw [hd] at h1
    rw [Option.some.inj h1]; exact h3

/-- where the node of a text that stays stands in the list -/
theorem stP_at {t : List Nd} {ps : List Txt} (hv : Valid t ps) {k z : Nat} {u : Txt} (hz : ps[z]? = some u) (hu : u ∈ stl (wds t ps)) : (stP t ps)[k]? = some z ↔ k = (stl (wds t ps)).idxOf u := by
  have hs := stl_sta (wds t ps)
  constructor
  · intro h
    obtain ⟨_, x, hx, hxi⟩ := stP_lt hv k z h
    rw [hz] at hxi
    obtain rfl := Option.some.inj hxi
    exact asc_inj hs.asc hx (idx_at hu)
  · rintro rfl
    unfold stP plcs
    rw [List.getElem?_map, idx_at hu]
    simp only [Option.map_some, Option.some.injEq]
    exact asc_inj hv.tells.asc (idx_at (at_mem hz)) hz

/-- what stays while the reference makes a pressed tree of a trie -/
structure PrW (W : World) (a : Option Addr) (n c : Nat) (t : List Nd) (ps : List Txt) (va : Value) (B3 : Nat) (vO : Value) (j : Nat) (wr : World) : Prop where
  gv : Gv W wr a n c t
  nm : wr.ownsRow (W.heap.size + 1) 3 1 va (stP t ps).length (nums (stP t ps))
  res : Boxed wr (W.heap.size + 1) 30 (.slice none 0 0)
  out : Boxed wr B3 30 vO
  hB3 : W.heap.size + 2 ≤ B3
  row : wr.ownsRow (W.heap.size + 2) 52 3 vO j (brc ((prw (wds t ps)).take j))

theorem PrW.below {W : World} {a : Option Addr} {n c : Nat} {t : List Nd} {ps : List Txt} {va : Value} {B3 : Nat} {vO : Value} {j : Nat} {wr w' : World} (h : PrW W a n c t ps va B3 vO j wr) (hb : Below wr.heap.size wr w') : PrW W a n c t ps va B3 vO j w' :=
  ⟨h.gv.on hb, own_stay h.nm hb, box_stay h.res hb, box_stay h.out hb, h.hB3, own_stay h.row hb⟩

/-- the number at a place of the list -/
theorem num_at {base : Nat} {w : World} {va : Value} {l : List Nat} (h : w.ownsRow base 3 1 va l.length (nums l)) {k i : Nat} (hk : l[k]? = some i) : ∃ g cp, va = .slice (some ⟨g, 0, none⟩) l.length cp ∧ w.cell? ⟨g, k, none⟩ = some (.int .i64 (i : Int)) := by
  have hl := (List.getElem?_eq_some_iff.1 hk).1
  rcases h.2 with ⟨_, h0⟩ | ⟨g, cap, cur, e, _⟩
  · omega
  · refine ⟨g, cap, e, ?_⟩
    rw [e] at h
    rw [h.cellAt k (by omega), nums, List.getElem?_map, hk]
    rfl

theorem own_apart {w : World} {base base' size size' n n' : Nat} {e e' : TypeId} {v v' : Value} {xs xs' : List Value} (h : w.ownsRow base e size v n xs) (h' : w.ownsRow base' e' size' v' n' xs') (he : e ≠ e') : v.ownBlock = none ∨ v.ownBlock ≠ v'.ownBlock := by
  rcases h.2 with ⟨rfl, _⟩ | ⟨g, cap, cur, rfl, _, hg, _⟩
  · exact .inl rfl
  · refine .inr fun e1 => ?_
    rcases h'.2 with ⟨rfl, _⟩ | ⟨g', cap', cur', rfl, _, hg', _⟩
    · cases e1
    · obtain rfl := Option.some.inj e1
      simp only at hg'
      rw [hg] at hg'
      have := Option.some.inj hg'
      simp at this
      exact he this.2

/-- one branch more -/
theorem PrW.more {W : World} {a : Option Addr} {n c : Nat} {t : List Nd} {ps : List Txt} {va : Value} {B3 : Nat} {vO v' : Value} {j : Nat} {W5 w1 : World} {tmp : Obj} {l : ByteArray} {p : Int} {e : Bool} (h : PrW W a n c t ps va B3 vO j W5) (hd : (prw (wds t ps))[j]? = some ⟨tx l, p, e⟩)
    (hown' : w1.ownsRow (W.heap.size + 2) 52 3 v' (j + 1) (brc ((prw (wds t ps)).take j) ++ [.string l, .int .i64 p, .bool e])) (hgrow : (W5.alloc tmp).grownBy w1 vO.ownBlock) :
    Boxed w1 B3 30 vO ∧ PrW W a n c t ps va B3 v' (j + 1) (w1.setCell ⟨B3, 0, none⟩ v') := by
  have hB3 := h.hB3
  have hlt := h.out.lt
  obtain ⟨hv1, hv2, hr2, _, hb2⟩ := h.out.appended (by decide) h.row (by omega) hB3 hown' hgrow
  refine ⟨hv1, ⟨h.gv.on2 (hb2.mono (by omega)), ?_, ?_, hv2, hB3, ?_⟩⟩
  · have h1 := (h.nm.alloc tmp).kept hgrow (own_apart (h.nm.alloc tmp) (h.row.alloc tmp) (by decide))
    exact h1.kept (grownBy_setCell' w1 B3 v') (.inr (hv1.not_row (by decide) h1).symm)
  · exact ((h.res.alloc tmp).kept hgrow ((h.res.alloc tmp).not_row (by decide) (h.row.alloc tmp))).other (by omega) v'
  · rw [take_br hd, brc_app]
    simp only [brc, bx_tx]
    exact hr2

/-- block b is a branch -/
def BB (w : World) (b : Nat) (l : ByteArray) (p : Int) (e : Bool) : Prop := w.heap[b]? = some (.cells #[.string l, .int .i64 p, .bool e] 52 (0, 0))

section
variable {w w' : World} {b : Nat} {l : ByteArray} {p : Int} {e : Bool}
theorem BB.lt (h : BB w b l p e) : b < w.heap.size := (Array.getElem?_eq_some_iff.1 h).1
theorem BB.c0 (h : BB w b l p e) : w.cell? ⟨b, 0, none⟩ = some (.string l) := by simp [World.cell?, show w.heap[b]? = _ from h]
theorem BB.c1 (h : BB w b l p e) : w.cell? ⟨b, 1, none⟩ = some (.int .i64 p) := by simp [World.cell?, show w.heap[b]? = _ from h]
theorem BB.c2 (h : BB w b l p e) : w.cell? ⟨b, 2, none⟩ = some (.bool e) := by simp [World.cell?, show w.heap[b]? = _ from h]
theorem BB.free (h : BB w b l p e) (o : Nat) : w.frozen? ⟨b, o, none⟩ = false := by simp [World.frozen?, show w.heap[b]? = _ from h]
theorem BB.keep (h : BB w b l p e) (hb : w'.heap[b]? = w.heap[b]?) : BB w' b l p e := hb.trans h
theorem BB.new (w : World) (l : ByteArray) (p : Int) (e : Bool) : BB (w.alloc (.cells #[.string l, .int .i64 p, .bool e] 52)) w.heap.size l p e := Deep.blk_alloc_new w _
theorem BB.set (h : BB w b l p e) (o : Nat) (u : Value) : (w.setCell ⟨b, o, none⟩ u).heap[b]? = some (.cells (#[.string l, .int .i64 p, .bool e].setIfInBounds o u) 52 (0, 0)) := by
  obtain ⟨hlt, hk⟩ := Array.getElem?_eq_some_iff.1 h
  show (w.heap.modify b _)[b]? = _
  rw [Array.getElem?_eq_getElem (by rw [Array.size_modify]; exact hlt), Array.getElem_modify_self, hk]
  rfl
theorem BB.set0 (h : BB w b l p e) (u : ByteArray) : BB (w.setCell ⟨b, 0, none⟩ (.string u)) b u p e := h.set 0 _
theorem BB.set1 (h : BB w b l p e) (u : Int) : BB (w.setCell ⟨b, 1, none⟩ (.int .i64 u)) b l u e := h.set 1 _
end

end Go.Proofs.Ytoofpgehkihbcaa
