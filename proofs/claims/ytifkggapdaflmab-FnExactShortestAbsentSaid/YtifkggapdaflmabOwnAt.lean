/-
  A slice of a row that the call owns, at whatever place of it: cut at its front, appended to.
-/
import Derived.Test.YtifkggapdaflmabBas
import Derived.Deep.AppendSrc
import Derived.Laws.OwnMore
namespace Go.Proofs.Ytifkggapdaflmab
open Go.RowKit
set_option linter.unusedVariables false

/-- the n cells from off on of block g are xs; there is room for c -/
structure OwnA (w : World) (base : Nat) (e : TypeId) (g off n c : Nat) (xs : List Value) : Prop where
  ge : base ≤ g
  lt : g < w.heap.size
  nc : n ≤ c
  cm : c ≤ maxLen
  len : xs.length = n
  row : ∃ cur : Array Value, w.heap[g]? = some (.cells cur e (0, 0)) ∧ cur.size = off + c ∧ (cur.toList.drop off).take n = xs

theorem OwnA.of_own {w : World} {base : Nat} {e : TypeId} {g n c : Nat} {xs : List Value} (h : w.ownsRow base e 1 (.slice (some ⟨g, 0, none⟩) n c) n xs) : OwnA w base e g 0 n c xs := by
  rcases h.2 with ⟨h', _⟩ | ⟨g', cap, cur, h', hb, hg, h1, h2, h3, h4⟩
  · cases h'
  · cases h'
    exact ⟨hb, (Array.getElem?_eq_some_iff.1 hg).1, h1, h2, by have := h.1; omega, cur, hg, by omega, by rw [List.drop_zero]; rw [Nat.mul_one] at h4; exact h4⟩

theorem OwnA.stay {w w' : World} {base : Nat} {e : TypeId} {g off n c : Nat} {xs : List Value} (h : OwnA w base e g off n c xs) (hb : Below w.heap.size w w') : OwnA w' base e g off n c xs := by
  obtain ⟨cur, h1, h2, h3⟩ := h.row
  exact ⟨h.ge, Nat.lt_of_lt_of_le h.lt hb.size, h.nc, h.cm, h.len, cur, (hb.block g h.lt).trans h1, h2, h3⟩

theorem OwnA.alloc {w : World} {base : Nat} {e : TypeId} {g off n c : Nat} {xs : List Value} (h : OwnA w base e g off n c xs) (o : Obj) : OwnA (w.alloc o) base e g off n c xs := h.stay ((Below.refl _ _).alloc (Nat.le_refl _) _)

theorem OwnA.at {w : World} {base : Nat} {e : TypeId} {g off n c : Nat} {xs : List Value} (h : OwnA w base e g off n c xs) {j : Nat} {u : Value} (hj : xs[j]? = some u) : w.cell? ⟨g, off + j, none⟩ = some u := by
  obtain ⟨cur, h1, h2, h3⟩ := h.row
  have hn : j < n := by rw [← h.len]; exact (List.getElem?_eq_some_iff.1 hj).1
  rw [← h3, List.getElem?_take_of_lt hn, List.getElem?_drop] at hj
  simp only [World.cell?, h1, Option.isSome_none, Bool.false_eq_true, if_false]
  rw [← Array.getElem?_toList]
  exact hj

theorem OwnA.cut {w : World} {base : Nat} {e : TypeId} {g off n c : Nat} {xs : List Value} (h : OwnA w base e g off (n + 1) (c + 1) xs) : OwnA w base e g (off + 1) n c (xs.drop 1) := by
  obtain ⟨cur, h1, h2, h3⟩ := h.row
  refine ⟨h.ge, h.lt, by have := h.nc; omega, by have := h.cm; omega, by have := h.len; simp; omega, cur, h1, by omega, ?_⟩
  rw [← h3, List.drop_take, List.drop_drop]
  congr 1

/-- one element more -/
theorem OwnA.app {P : Program} (t ty e : TypeId) (i : TypeInfo) (z : Value) (ht : P.underlying t = some (.slice e)) (hi : P.info? e = some i) (hz : i.zero = some z) (hsize : i.size = 1) (hby : i.bytes ≤ 100) (hzc : z.cells = #[z])
    {w : World} {base g off n c : Nat} {xs : List Value} (h : OwnA w base e g off n c xs) (a : Addr) (u : Value) (hu : w.cell? (a.add 0) = some u) (h1 : u.oneCell' = true) (hn : n ≤ 1000000) (hbase : base ≤ w.heap.size) :
    ∃ g' off' c' w', (Builtin.append_ #[t, t] ty #[.slice (some ⟨g, off, none⟩) n c, .slice (some a) 1 1]).run P w = .ok (.slice (some ⟨g', off', none⟩) (n + 1) c') w' ∧ OwnA w' base e g' off' (n + 1) c' (xs ++ [u]) ∧ w.grownBy w' (some g) ∧ (g' = g ∨ g' = w.heap.size) := by
  obtain ⟨cur, hc1, hc2, hc3⟩ := h.row
  have hcurl : cur.toList.length = off + c := by rw [Array.length_toList]; exact hc2
  have hsrc : Src P i.size t (.slice (some a) 1 1) 1 [u] w := Src.ofSlice w ht a 1 1 [u] (by rw [hsize]; rfl) (fun j v hj => by
    cases j with
    | zero => simp at hj; rw [← hj]; exact hu
    | succ j => simp at hj) (fun v hv => by rw [List.mem_singleton.1 hv]; exact h1)
  by_cases hroom : n + 1 ≤ c
  · have hr := run_append_room_src (P := P) w t t ty e i ht hi g off n c (.slice (some a) 1 1) 1 [u] hsrc hroom (fun j hj => by
      simp only [List.length_singleton] at hj
      simp only [World.cell?, hc1, Option.isSome_none, Bool.false_eq_true, if_false]
      rw [Array.getElem?_eq_getElem (by rw [hsize]; omega)]
      rfl) (fun j hj => by simp [World.frozen?, hc1])
    rw [hsize, Nat.mul_one] at hr
    refine ⟨g, off, c, _, hr, ?_, ?_, .inl rfl⟩
    · have hblk : (w.setCells g (off + n) [u]).heap[g]? = some (.cells (cur.setIfInBounds (off + n) u) e (0, 0)) := by
        simp [World.setCells, World.setCell, Array.getElem?_modify, hc1]
      refine ⟨h.ge, by have := h.lt; simpa [World.setCells, World.setCell] using this, hroom, h.cm, by rw [List.length_append, h.len]; rfl, _, hblk, by simpa using hc2, ?_⟩
      have hlt : n < ((cur.toList.set (off + n) u).drop off).length := by simp [hcurl]; omega
      have e1 : (cur.setIfInBounds (off + n) u).toList = cur.toList.set (off + n) u := by simp
      rw [e1, List.take_succ_eq_append_getElem hlt]
      congr 1
      · rw [List.drop_set, if_neg (by omega), show off + n - off = n by omega, List.take_set_of_le (Nat.le_refl _)]
        exact hc3
      · simp
    · refine ⟨rfl, rfl, rfl, by simp [World.setCells, World.setCell], fun k hk hne => ?_⟩
      have : g ≠ k := fun e => hne (by rw [e])
      simp [World.setCells, World.setCell, Array.getElem?_modify, this]
  · have hcn : c < n + 1 := by omega
    have hfst : (Builtin.firstCells i.size n (.slice (some ⟨g, off, none⟩) n c)).run P w.drew = .ok xs.toArray w.drew := by
      refine run_firstCells_some w.drew i.size n ⟨g, off, none⟩ n c xs (by rw [hsize, Nat.mul_one]; exact h.len) (fun j v hj => ?_)
      have e1 : (⟨g, off, none⟩ : Addr).add j = ⟨g, off + j, none⟩ := by cases j <;> simp [Addr.add]
      rw [e1]
      have := h.at hj
      simpa using this
    have hcm : grownCap w (n + 1) c e ≤ maxLen := grownCap_le_maxLen w (n + 1) c e (by unfold maxLen; omega)
    have hge := grownCap_ge w (n + 1) c e
    have hr := run_append_grow_src (P := P) w t t ty e i z ht hi hz (some ⟨g, off, none⟩) n c xs hfst (.slice (some a) 1 1) 1 [u] hsrc hcn (by omega) (by
      have hns := nextslicecap_le hcn
      have : Builtin.nextslicecap (n + 1) c * i.bytes ≤ (2 * (n + 1)) * 100 := Nat.mul_le_mul hns hby
      omega)
    refine ⟨w.heap.size, 0, _, _, hr, ?_, ⟨rfl, rfl, rfl, by simp, fun k hk _ => Below.heap_alloc w.drew _ k hk⟩, .inr rfl⟩
    refine ⟨hbase, by simp, hge, hcm, by rw [List.length_append, h.len]; rfl, _, heap_alloc_new w.drew _, ?_, ?_⟩
    · simp only [Array.size_append, List.size_toArray, size_zeroCells, hzc, List.length_append, h.len]
      simp
      omega
    · simp only [List.drop_zero, Array.toList_append, List.append_assoc]
      have : (xs ++ [u]).length = n + 1 := by rw [List.length_append, h.len]; rfl
      rw [← List.append_assoc, ← this]
      exact List.take_left

theorem wp_append_oa {P : Program} {w : World} {o : Oper} {ac : Act} {K : Act → World → Prop} {Q : Exit → Act → World → Prop} (s x : Operand) (t : TypeId)
    (ho : o.op = .call { callee := .builtin .append, args := #[s, x], argTypes := #[t, t] })
    (base : Nat) (e : TypeId) (i : TypeInfo) (z : Value) (ht : P.underlying t = some (.slice e)) (hi : P.info? e = some i) (hz : i.zero = some z) (hsize : i.size = 1) (hby : i.bytes ≤ 100) (hzc : z.cells = #[z])
    {g off n c : Nat} {xs : List Value} (hs : ac.eval s = .slice (some ⟨g, off, none⟩) n c) (h : OwnA w base e g off n c xs) (a : Addr) (u : Value) (hx : ac.eval x = .slice (some a) 1 1) (hu : w.cell? (a.add 0) = some u) (h1 : u.oneCell' = true) (hn : n ≤ 1000000) (hbase : base ≤ w.heap.size)
    (hk : ∀ g' off' c' w', OwnA w' base e g' off' (n + 1) c' (xs ++ [u]) → w.grownBy w' (some g) → (g' = g ∨ g' = w.heap.size) → K (ac.put o.dst (.slice (some ⟨g', off', none⟩) (n + 1) c')) w') : o.wp P ac w K Q := by
  obtain ⟨g', off', c', w', hr, h2, h3, h4⟩ := h.app t o.type e i z ht hi hz hsize hby hzc a u hu h1 hn hbase
  unfold Oper.wp execOp
  simp only [ho, resolve, invoke, builtin, Sem.run_bind, Sem.run_pure, Result.andThen_ok, List.map_toArray, List.map_cons, List.map_nil, hs, hx, hr]
  exact hk g' off' c' w' h2 h3 h4

theorem wpList_append_oa {P : Program} {w : World} {ops : Array Oper} {rest : List Oper} {o : Oper} {ac : Act} {Q : Exit → Act → World → Prop} (hgd : o.guard = none) (s x : Operand) (t : TypeId)
    (ho : o.op = .call { callee := .builtin .append, args := #[s, x], argTypes := #[t, t] })
    (base : Nat) (e : TypeId) (i : TypeInfo) (z : Value) (ht : P.underlying t = some (.slice e)) (hi : P.info? e = some i) (hz : i.zero = some z) (hsize : i.size = 1) (hby : i.bytes ≤ 100) (hzc : z.cells = #[z])
    {g off n c : Nat} {xs : List Value} (hs : ac.eval s = .slice (some ⟨g, off, none⟩) n c) (h : OwnA w base e g off n c xs) (a : Addr) (u : Value) (hx : ac.eval x = .slice (some a) 1 1) (hu : w.cell? (a.add 0) = some u) (h1 : u.oneCell' = true) (hn : n ≤ 1000000) (hbase : base ≤ w.heap.size)
    (hk : ∀ g' off' c' w', OwnA w' base e g' off' (n + 1) c' (xs ++ [u]) → w.grownBy w' (some g) → (g' = g ∨ g' = w.heap.size) → wpList P ops Q rest (ac.put o.dst (.slice (some ⟨g', off', none⟩) (n + 1) c')) w') : wpList P ops Q (o :: rest) ac w :=
  wpList_plain hgd fun _ hK => wp_append_oa s x t ho base e i z ht hi hz hsize hby hzc hs h a u hx hu h1 hn hbase fun g' off' c' w' h2 h3 h4 => hK _ _ (hk g' off' c' w' h2 h3 h4)

end Go.Proofs.Ytifkggapdaflmab
