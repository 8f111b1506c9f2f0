/-
  A list whose words are changed one by one in its place: plain mathematics, and rows of strings.
-/
import Derived.Test.YtoofpgehkihbcadGvR
import Derived.Test.YtoofpgehkihbcadWordsN
namespace Go.Proofs.Ytoofpgehkihbcad
open Go.RowKit
set_option linter.unusedVariables false

/-- the first j words have been changed -/
def mapTo (f : Txt → Txt) (ws : List Txt) (j : Nat) : List Txt := (ws.take j).map f ++ ws.drop j

theorem mapTo_zero (f : Txt → Txt) (ws : List Txt) : mapTo f ws 0 = ws := by simp [mapTo]
theorem mapTo_len (f : Txt → Txt) (ws : List Txt) (j : Nat) : (mapTo f ws j).length = ws.length := by simp [mapTo]; omega
theorem mapTo_at {f : Txt → Txt} {ws : List Txt} {j : Nat} {x : Txt} (h : ws[j]? = some x) : (mapTo f ws j)[j]? = some x := by
  have hl := (List.getElem?_eq_some_iff.1 h).1
  unfold mapTo
  rw [List.getElem?_append_right (by simp; omega)]
  simp only [List.length_map, List.length_take, List.getElem?_drop]
  rw [show j + (j - min j ws.length) = j by omega]
  exact h
theorem mapTo_set {f : Txt → Txt} {ws : List Txt} {j : Nat} {x : Txt} (h : ws[j]? = some x) : (mapTo f ws j).set j (f x) = mapTo f ws (j + 1) := by
  have hl := (List.getElem?_eq_some_iff.1 h).1
  unfold mapTo
  rw [List.set_append_right _ _ (by simp; omega), List.take_add_one, h]
  simp only [List.length_map, List.length_take, Nat.min_eq_left (Nat.le_of_lt hl), Nat.sub_self, Option.toList_some, List.map_append, List.map_cons, List.map_nil, List.append_assoc, List.singleton_append]
  rw [List.drop_eq_getElem_cons hl, List.set_cons_zero]
theorem mapTo_all (f : Txt → Txt) (ws : List Txt) (j : Nat) (hj : ws.length ≤ j) : mapTo f ws j = ws.map f := by
  unfold mapTo
  rw [List.take_of_length_le hj, List.drop_eq_nil_of_le hj, List.append_nil]

/-- words as cells -/
abbrev strR (ws : List Txt) : List Value := ws.map fun x => Value.string (bx x)

theorem strR_at {ws : List Txt} {j : Nat} {x : Txt} (h : ws[j]? = some x) : (strR ws)[j]? = some (.string (bx x)) := by simp [strR, h]
theorem strR_set (ws : List Txt) (j : Nat) (x : Txt) : (strR ws).set j (.string (bx x)) = strR (ws.set j x) := by simp [strR, List.map_set]

/-- a row of strings that is changed at a place -/
theorem row_change {w : World} {base g m c j : Nat} {f : Txt → Txt} {ws : List Txt} {x : Txt} (h : w.ownsRow base 9 1 (.slice (some ⟨g, 0, none⟩) m c) m (strR (mapTo f ws j))) (hx : ws[j]? = some x) :
    (w.setCell ⟨g, j, none⟩ (.string (bx (f x)))).ownsRow base 9 1 (.slice (some ⟨g, 0, none⟩) m c) m (strR (mapTo f ws (j + 1))) := by
  have := (h.stored j (.string (bx (f x)))).1
  rwa [strR_set, mapTo_set hx] at this

theorem row_some {w : World} {base n c : Nat} {a : Option Addr} {e : TypeId} {size : Nat} {xs : List Value} (h : w.ownsRow base e size (.slice a n c) n xs) (hn : 0 < n) : ∃ g, a = some ⟨g, 0, none⟩ ∧ base ≤ g := by
  rcases h.2 with ⟨_, h0⟩ | ⟨g, cap, cur, h', hb, _⟩
  · omega
  · injection h' with e1 _ _
    exact ⟨g, e1, hb⟩

/-- a store behind the boxes -/
theorem GvR.far {W w : World} {a : Option Addr} {n c g j : Nat} {t : List Nd} (h : GvR W w a n c t) (hg : W.heap.size + 1 < g) (v : Value) : GvR W (w.setCell ⟨g, j, none⟩ v) a n c t := by
  have hbb : Below (W.heap.size + 1 + 1) w (w.setCell ⟨g, j, none⟩ v) := (Below.refl _ _).setCell (p := ⟨g, j, none⟩) (by show _ ≤ g; omega) v
  have gv := h.gv
  exact ⟨⟨(hbb.cell (p := ⟨W.heap.size, 0, none⟩) (by show W.heap.size < _; omega)).trans gv.box, Nat.lt_of_lt_of_le gv.lt hbb.size, gv.bel.trans (hbb.mono (by omega)), gv.nds.keep (hbb.mono (by omega))⟩, box_under h.res hbb (by omega)⟩

end Go.Proofs.Ytoofpgehkihbcad
