/-
  Slices of nodes, and the reference's prefix of a node.
-/
import Derived.Test.YtfehfjnmkaifbabSet
import Derived.Laws.BytesArg
namespace Go.Proofs.Ytfehfjnmkaifbab
open Go.RowKit
set_option linter.unusedVariables false

/-- The slice (a, n, c) reads as the nodes t, in blocks below B. -/
structure Nds (B : Nat) (w : World) (a : Option Addr) (n c : Nat) (t : List Nd) : Prop where
  len : t.length = n
  cap : n ≤ c
  top : c ≤ 9223372036854775807
  spot : ∀ (i : Nat) (d : Nd), t[i]? = some d → ∃ b o, a = some ⟨b, o, none⟩ ∧ b < B ∧ w.cell? ⟨b, o + i * 3, none⟩ = some (.int .i64 d.l) ∧ w.cell? ⟨b, o + i * 3 + 1, none⟩ = some (.int .i64 d.p) ∧ w.cell? ⟨b, o + i * 3 + 2, none⟩ = some (.bool d.e)
  rng : ∀ d ∈ t, (-9223372036854775808 ≤ d.l ∧ d.l ≤ 9223372036854775807) ∧ -9223372036854775808 ≤ d.p ∧ d.p ≤ 9223372036854775807

theorem Nds.keep {B : Nat} {w w' : World} {a : Option Addr} {n c : Nat} {t : List Nd} (h : Nds B w a n c t) (hb : Below B w w') : Nds B w' a n c t :=
  ⟨h.len, h.cap, h.top, fun i d hd => by
    obtain ⟨b, o, ha, hB, h1, h2, h3⟩ := h.spot i d hd
    exact ⟨b, o, ha, hB, (hb.cell (p := ⟨b, o + i * 3, none⟩) hB).trans h1, (hb.cell (p := ⟨b, o + i * 3 + 1, none⟩) hB).trans h2, (hb.cell (p := ⟨b, o + i * 3 + 2, none⟩) hB).trans h3⟩, h.rng⟩

theorem Nds.mono {B B' : Nat} {w : World} {a : Option Addr} {n c : Nat} {t : List Nd} (h : Nds B w a n c t) (hb : B ≤ B') : Nds B' w a n c t :=
  ⟨h.len, h.cap, h.top, fun i d hd => by
    obtain ⟨b, o, ha, hB, h1, h2, h3⟩ := h.spot i d hd
    exact ⟨b, o, ha, by omega, h1, h2, h3⟩, h.rng⟩

theorem Nds.elem {B : Nat} {w : World} {a : Option Addr} {n c : Nat} {t : List Nd} (h : Nds B w a n c t) (k : Nat) (hk : k < n) :
    ∃ b o l p e, a = some ⟨b, o, none⟩ ∧ b < B ∧ t[k]? = some ⟨l, p, e⟩ ∧ (-9223372036854775808 ≤ l ∧ l ≤ 9223372036854775807) ∧ (-9223372036854775808 ≤ p ∧ p ≤ 9223372036854775807) ∧ w.cell? ⟨b, o + k * 3, none⟩ = some (.int .i64 l) ∧ w.cell? ⟨b, o + k * 3 + 1, none⟩ = some (.int .i64 p) ∧ w.cell? ⟨b, o + k * 3 + 2, none⟩ = some (.bool e) := by
  have hl := h.len
  have hs : t[k]? = some t[k] := List.getElem?_eq_getElem (by omega)
  obtain ⟨b, o, ha, hB, h1, h2, h3⟩ := h.spot k _ hs
  have hr := h.rng t[k] (List.getElem_mem _)
  exact ⟨b, o, t[k].l, t[k].p, t[k].e, ha, hB, hs, hr.1, hr.2, h1, h2, h3⟩

theorem l1In_any (x a b : Int) (w : World) : Calls Try.prog 70 #[.int .i64 x, .int .i64 a, .int .i64 b] w fun e w' => e = .returned (.bool (decide (a ≤ x ∧ x ≤ b))) ∧ w = w' := by
  by_cases h1 : a ≤ x
  · go_enter Try.func70, Try.ntmps70
    go_wp2
    go_ret
    exact ⟨ret_bool (decide_eq_decide.2 (by omega)), rfl⟩
  · go_enter Try.func70, Try.ntmps70
    go_wp2
    go_ret
    exact ⟨ret_bool (by simp; omega), rfl⟩

theorem l1In_yes {x a b : Int} (w : World) (h : a ≤ x ∧ x ≤ b) : Calls Try.prog 70 #[.int .i64 x, .int .i64 a, .int .i64 b] w fun e w' => e = .returned (.bool true) ∧ w = w' := by
  have := l1In_any x a b w
  rwa [decide_eq_true h] at this
theorem l1In_no {x a b : Int} (w : World) (h : ¬ (a ≤ x ∧ x ≤ b)) : Calls Try.prog 70 #[.int .i64 x, .int .i64 a, .int .i64 b] w fun e w' => e = .returned (.bool false) ∧ w = w' := by
  have := l1In_any x a b w
  rwa [decide_eq_false h] at this

theorem strs_below_nds {B : Nat} {w : World} {a : Option Addr} {n c : Nat} (t : List Nd) (h : Nds B w a n c t) : True := trivial

/-- the way up from a node: what is still above -/
def UpOk (t : List Nd) (i : Nat) (node : Int) (s : ByteArray) : Prop :=
  ∀ ps, Tells t t.length ps → ∀ x, ps[i]? = some x → ∃ (j : Nat) (y : Txt), node = (j : Int) ∧ ps[j]? = some y ∧ x = y ++ tx s

theorem UpOk.start {t : List Nd} {i : Nat} : UpOk t i (i : Int) ⟨#[]⟩ := fun ps _ x hx => ⟨i, x, rfl, hx, by simp⟩

theorem UpOk.bad {t : List Nd} {i : Nat} {node : Int} {s : ByteArray} {j : Nat} {l p : Int} {e : Bool} (h : UpOk t i node s) (hj : node = (j : Int)) (h0 : 0 < j) (hd : t[j]? = some ⟨l, p, e⟩) (hb : ¬ (0 ≤ l ∧ l ≤ 25) ∨ (j : Int) ≤ p) :
    ∀ ps, Tells t t.length ps → ∀ x, ps[i]? = some x → False := by
  intro ps ht x hx
  obtain ⟨j', y, e1, e2, e3⟩ := h ps ht x hx
  obtain ⟨k, z, c, hp, hk, hl, c0, c1, f1, f2⟩ := ht.step j _ (by omega) (List.getElem?_eq_some_iff.1 hd).1 hd
  simp only at hp hl
  omega

theorem UpOk.up {t : List Nd} {i : Nat} {node : Int} {s d : ByteArray} {j : Nat} {l p : Int} {e : Bool} (h : UpOk t i node s) (hj : node = (j : Int)) (h0 : 0 < j) (hd : t[j]? = some ⟨l, p, e⟩)
    (hdt : ∀ c : UInt8, l = (c.toNat : Int) - 97 → tx d = [c]) : UpOk t i p (d ++ s) := by
  intro ps ht x hx
  obtain ⟨j', y, e1, e2, e3⟩ := h ps ht x hx
  have : j' = j := by omega
  subst this
  obtain ⟨k, z, c, hp, hk, hl, c0, c1, f1, f2⟩ := ht.step j' _ (by omega) (List.getElem?_eq_some_iff.1 hd).1 hd
  rw [e2] at f2
  refine ⟨k, z, hp, f1, ?_⟩
  have : tx (d ++ s) = tx d ++ tx s := by simp
  rw [this, hdt c hl, e3, Option.some.inj f2]
  simp

theorem tx_nums {l : Int} {c : UInt8} (h : l = (c.toNat : Int) - 97) : tx (strOfNums [97 + l]) = [c] := by
  have e : 97 + l = (c.toNat : Int) := by omega
  rw [e]
  simp [strOfNums]

/-- what the walk up from a node says -/
def PreOf (t : List Nd) (i : Nat) (s : ByteArray) : Prop := ∀ ps, Tells t t.length ps → (∀ x ∈ ps, x.length ≤ 12) → ∀ x, ps[i]? = some x → tx s = x

set_option maxRecDepth 1000000 in
set_option maxHeartbeats 1000000 in
theorem l2Prefix_any (B : Nat) (a : Option Addr) (n c i : Nat) (t : List Nd) (w : World) (hB : B ≤ w.heap.size) (h : Nds B w a n c t) (hi : i < n) :
    Calls Try.prog 39 #[.agg #[.slice a n c], .int .i64 (i : Int)] w fun e w' => ∃ s, e = .returned (.string s) ∧ s.size ≤ 13 ∧ PreOf t i s ∧ Below w.heap.size w w' := by
  have L := Lib.hid h.len
  have C := h.cap
  have T := h.top
  have H := Lib.hid h
  have HB := Lib.hid hB
  clear h hB
  have hcv : ∀ (W : World) (l : Int), (convert 76 9 (.slice (some ⟨W.heap.size, 0, none⟩) 1 1)).run Try.prog (W.alloc (.cells #[.int .u8 (97 + l)] 5)) = .ok (.string (strOfNums [97 + l])) (W.alloc (.cells #[.int .u8 (97 + l)] 5)) := fun W l =>
    run_convert_bytes_arg _ 76 5 Try.underlying76 Try.underlying5 W.heap.size 0 1 1 [97 + l] rfl (fun i hi => by
      obtain rfl : i = 0 := by omega
      exact by simp) 9 Try.underlying9
  go_enter Try.func39, Try.ntmps39
  go_wp2
  go_loopw [1, 5] (fun p o wr => ∃ (node : Int) (s : ByteArray), p = .int .i64 node ∧ o = .string s ∧ -9223372036854775808 ≤ node ∧ node < n ∧ s.size ≤ 13 ∧ Hid (UpOk t i node s) ∧ Hid (Below w.heap.size w wr) ∧ wr.cell? ⟨w.heap.size, 0, none⟩ = some (.slice a n c) ∧ w.heap.size < wr.heap.size) (fun p _ _ => (intOf p).toNat)
  case atStart => exact ⟨i, ⟨#[]⟩, rfl, rfl, by omega, by omega, by show 0 ≤ 13; omega, Lib.hid UpOk.start, Lib.hid ((Below.refl _ _).alloc (Nat.le_refl _) _), by simp, by simp⟩
  case round =>
    obtain ⟨node, s, rfl, rfl, hn0, hn1, hs13, HU, HBw, hbox, hsz⟩ := hrel
    by_cases hpos : 0 < node
    · by_cases hs12 : s.size ≤ 12
      · obtain ⟨j, rfl⟩ : ∃ j : Nat, node = j := ⟨node.toNat, by omega⟩
        have hjn : j < n := by omega
        obtain ⟨b, o, l, p, e, rfl, hbB, hd, hl, hp, hc1, hc2, hc3⟩ := (H.out.keep (HBw.out.mono HB.out)).elem j hjn
        have HD := Lib.hid hd
        clear hd
        have cv := hcv (wr.alloc (.cells #[.int .i64 l, .int .i64 p, .bool e] 66)) l
        simp only [World.size_alloc] at cv
        have hbw := HBw.out.alloc HBw.out.size (.cells #[.int .i64 l, .int .i64 p, .bool e] 66)
        have HBn := Lib.hid hbw
        have HBm := Lib.hid (hbw.alloc hbw.size (.cells #[.int .u8 (97 + l)] 5))
        clear hcv hbw
        have hgo : (¬ (0 ≤ l ∧ l ≤ 25) ∨ (j : Int) ≤ p) ∨ (0 ≤ l ∧ l ≤ 25 ∧ p < (j : Int)) := by omega
        rcases hgo with hbad | ⟨h0, h25, hpj⟩
        · have HX := Lib.hid (HU.out.bad rfl (by omega) HD.out hbad)
          by_cases h0 : 0 ≤ l
          · by_cases h25 : l ≤ 25
            · have hpj : (j : Int) ≤ p := by omega
              clear hbad cv
              go_wp2
              go_ret
              exact ⟨_, rfl, by decide, fun ps h1 h2 x hx => (HX.out ps h1 x hx).elim, HBn.out⟩
            · clear hbad cv
              go_wp2
              go_ret
              exact ⟨_, rfl, by decide, fun ps h1 h2 x hx => (HX.out ps h1 x hx).elim, HBn.out⟩
          · clear hbad cv
            go_wp2
            go_ret
            exact ⟨_, rfl, by decide, fun ps h1 h2 x hx => (HX.out ps h1 x hx).elim, HBn.out⟩
        · obtain ⟨d, hd⟩ : ∃ d, strOfNums [97 + l] = d := ⟨_, rfl⟩
          have HU2 : Hid (UpOk t i p (d ++ s)) := Lib.hid (HU.out.up rfl (by omega) HD.out (fun c hc => by rw [← hd]; exact tx_nums hc))
          have hds : d.size ≤ 1 := by rw [← hd]; show (strOfNums [97 + l]).size ≤ 1; rw [strOfNums_size]; simp
          rw [hd] at cv
          clear hd
          have hpj' : ¬ ((j : Int) ≤ p) := by omega
          go_wp2
          go_roundw
          case rel => exact ⟨p, d ++ s, rfl, rfl, by omega, by omega, by rw [ByteArray.size_append]; omega, HU2, HBm, (World.cell?_alloc_lt _ _ _ (by simp; omega)).trans ((World.cell?_alloc_lt wr _ _ (by simpa using hsz)).trans hbox), by simp; omega⟩
          case measure => simp [intOf]; omega
      · have HX : Hid (∀ q : ByteArray, PreOf t i q) := Lib.hid (fun q ps h1 h2 x hx => by
          obtain ⟨j, y, _, hy, e⟩ := HU.out ps h1 x hx
          have := h2 x (at_mem hx)
          rw [e, List.length_append, tx_len] at this
          omega)
        by_cases hz : node = 0
        · omega
        · have hne : (node != 0) = true := by simp [hz]
          go_wp2
          go_ret
          exact ⟨_, rfl, by decide, HX.out _, HBw.out⟩
    · by_cases hz : node = 0
      · subst hz
        have HX : Hid (PreOf t i s) := Lib.hid (fun ps h1 h2 x hx => by
          obtain ⟨j, y, e0, hy, e⟩ := HU.out ps h1 x hx
          have : j = 0 := by omega
          subst this
          rw [h1.nil] at hy
          rw [e, ← Option.some.inj hy]
          rfl)
        go_wp2
        go_ret
        exact ⟨_, rfl, hs13, HX.out, HBw.out⟩
      · have hne : (node != 0) = true := by simp [hz]
        have HX : Hid (∀ q : ByteArray, PreOf t i q) := Lib.hid (fun q ps h1 h2 x hx => by
          obtain ⟨j, y, e0, hy, e⟩ := HU.out ps h1 x hx
          omega)
        go_wp2
        go_ret
        exact ⟨_, rfl, by decide, HX.out _, HBw.out⟩

end Go.Proofs.Ytfehfjnmkaifbab
