/-
  The contracts of the model's drawing cursor: what it gives lies within its bounds, and only its own block turns.
-/
import Derived.Test.YtlkajncgbnkkgaaDoorSl
import Derived.Deep.QuietTactic
import Derived.BigQuiet
import Derived.Lib.Hide
import Derived.WalkSmall
import Derived.Laws.BitsAllLaws
import Derived.Maps.AppendAt
namespace Go.Proofs.YtlkajncgbnkkgaaDoor
open Go.RowKit
set_option linter.unusedVariables false

/-- The slice reads as bytes. -/
structure Bytes (B : Nat) (w : World) (a : Option Addr) (n c : Nat) (l : List UInt8) : Prop where
  sl : Sl B w a n c (l.map fun x => Value.int .u8 (x.toNat : Int))

theorem Bytes.keep {B : Nat} {w w' : World} {a : Option Addr} {n c : Nat} {l : List UInt8} (h : Bytes B w a n c l) (hb : Below B w w') : Bytes B w' a n c l := ⟨h.sl.keep hb⟩
theorem Bytes.mono {B B' : Nat} {w : World} {a : Option Addr} {n c : Nat} {l : List UInt8} (h : Bytes B w a n c l) (hb : B ≤ B') : Bytes B' w a n c l := ⟨h.sl.mono hb⟩
theorem Bytes.len {B : Nat} {w : World} {a : Option Addr} {n c : Nat} {l : List UInt8} (h : Bytes B w a n c l) : l.length = n := by simpa using h.sl.len
theorem Bytes.elem {B : Nat} {w : World} {a : Option Addr} {n c : Nat} {l : List UInt8} (h : Bytes B w a n c l) (k : Nat) (hk : k < n) :
    ∃ b o x, a = some ⟨b, o, none⟩ ∧ b < B ∧ l[k]? = some x ∧ w.cell? ⟨b, o + k, none⟩ = some (.int .u8 (x.toNat : Int)) := by
  have hl := h.len
  have hs : l[k]? = some l[k] := List.getElem?_eq_getElem (by omega)
  obtain ⟨b, o, ha, hB, hc⟩ := h.sl.spot k (.int .u8 (l[k].toNat : Int)) (by rw [List.getElem?_map, hs]; rfl)
  exact ⟨b, o, l[k], ha, hB, hs, hc⟩

/-- What the argument's reading gives of a slice of bytes. -/
def IsBytes (w : World) (a : Option Addr) (len cap : Nat) (zs : List Int) : Prop :=
  (a = none ∧ len = 0 ∧ cap = 0 ∧ zs = []) ∨
  ∃ x, a = some x ∧ len ≤ cap ∧ cap ≤ maxLen ∧ zs.length = cap ∧ (∀ i, i < zs.length → w.cell? (x.add i) = some (.int .u8 (zs.getD i 0))) ∧ ∀ n ∈ zs, (Lit.int .u8 n).wf = true

theorem IsBytes.bytes {w : World} {a : Option Addr} {len cap : Nat} {zs : List Int} (h : IsBytes w a len cap zs) : Bytes w.heap.size w a len cap ((zs.take len).map fun z => UInt8.ofNat z.toNat) := by
  rcases h with ⟨rfl, rfl, rfl, rfl⟩ | ⟨x, rfl, hl, hm, hz, hc, hs⟩
  · exact ⟨⟨rfl, Nat.le_refl _, by omega, fun i u hu => by simp at hu⟩⟩
  · refine ⟨⟨by simp; omega, hl, by unfold maxLen at hm; omega, fun i u hu => ?_⟩⟩
    rw [List.getElem?_map, List.getElem?_map, Option.map_map, Option.map_eq_some_iff] at hu
    obtain ⟨z, hu, rfl⟩ := hu
    obtain ⟨hi, hu⟩ := List.getElem?_eq_some_iff.1 hu
    have hi' : i < zs.length := by simp at hi; omega
    have h1 := hc i hi'
    obtain ⟨b, o, sp⟩ := x
    have hsp : sp = none := by simpa [Addr.add] using World.cell?_spot (hc 0 (by omega))
    subst hsp
    have hadd : (Addr.add ⟨b, o, none⟩ i) = ⟨b, o + i, none⟩ := by cases i <;> simp [Addr.add]
    rw [hadd] at h1
    rw [List.getElem_take] at hu
    rw [List.getD_eq_getElem?_getD, List.getElem?_eq_getElem hi', Option.getD_some, hu] at h1
    have hz' := hs z (hu ▸ List.getElem_mem _)
    have hzb : 0 ≤ z ∧ z ≤ 255 := by simpa [Lit.wf, IntKind.min, IntKind.max, IntKind.signed, IntKind.bits] using hz'
    have e : ((UInt8.ofNat z.toNat).toNat : Int) = z := by
      rw [UInt8.toNat_ofNat']
      omega
    refine ⟨b, o, rfl, World.block_lt_of_cell? w _ h1, ?_⟩
    rw [h1]
    simp only [Function.comp_apply, e]

/-- Where one block alone has turned, all below it stands. -/
theorem bel_only {w w' : World} {b B : Nat} (h : w.grownBy w' (some b)) (hB : B ≤ b) (hb : b < w.heap.size) : Below B w w' :=
  (Below.refl B w).grown h (by omega) (fun k e => by cases e; exact hB)

/-- The cursor in block b: its code, its place, its seed. -/
structure Cur (w : World) (b : Nat) (a : Option Addr) (n c p : Nat) : Prop where
  code : w.cell? ⟨b, 0, none⟩ = some (.slice a n c)
  place : w.cell? ⟨b, 1, none⟩ = some (.int .i64 (p : Int))
  seed : ∃ sd : Int, w.cell? ⟨b, 2, none⟩ = some (.int .u64 sd)
  free1 : w.frozen? ⟨b, 1, none⟩ = false
  free2 : w.frozen? ⟨b, 2, none⟩ = false

theorem cur_lt {w : World} {b : Nat} {a : Option Addr} {n c p : Nat} (h : Cur w b a n c p) : b < w.heap.size := World.block_lt_of_cell? w _ h.code

def NextPost (w : World) (b : Nat) (a : Option Addr) (n c p : Nat) (e : Ending) (w' : World) : Prop :=
  ∃ r : Nat, e = .returned (.int .i64 (r : Int)) ∧ r ≤ 255 ∧ Cur w' b a n c (p + 1) ∧ w.grownBy w' (some b)

theorem only_drewN {a w : World} {row : Option Nat} (h : a.grownBy w row) (n : Nat) : a.grownBy (w.drewN n) row := ⟨h.os, h.tape, h.output, h.size, h.block⟩
theorem only_setCell {a w : World} {b o : Nat} (h : a.grownBy w (some b)) (v : Value) : a.grownBy (w.setCell ⟨b, o, none⟩ v) (some b) :=
  ⟨h.os, h.tape, h.output, by simpa [World.setCell] using h.size, fun i hi hne => (Below.heap_setCell w ⟨b, o, none⟩ v i (by rintro rfl; exact hne rfl)).trans (h.block i hi hne)⟩
theorem only_refl (w : World) (row : Option Nat) : w.grownBy w row := ⟨rfl, rfl, rfl, Nat.le_refl _, fun _ _ _ => rfl⟩

theorem cur_step {w : World} {b : Nat} {a : Option Addr} {n c p : Nat} (hC : Hid (Cur w b a n c p)) (q1 q2 : Nat) (X : Int) :
    Cur ((((w.drewN q1).setCell ⟨b, 1, none⟩ (.int .i64 ((p : Int) + 1))).setCell ⟨b, 2, none⟩ (.int .u64 X)).drewN q2) b a n c (p + 1) ∧
      w.grownBy ((((w.drewN q1).setCell ⟨b, 1, none⟩ (.int .i64 ((p : Int) + 1))).setCell ⟨b, 2, none⟩ (.int .u64 X)).drewN q2) (some b) := by
  obtain ⟨h0, h1, ⟨sd, h2⟩, f1, f2⟩ := hC.out
  refine ⟨⟨?_, ?_, ⟨X, ?_⟩, ?_, ?_⟩, only_drewN (only_setCell (only_setCell (only_drewN (only_refl w _) _) _) _) _⟩ <;> go_simp

theorem ret_num' {k : IntKind} {a b : Int} (h : a = b) : Ending.returned (.int k a) = .returned (.int k b) := by rw [h]

theorem and255 (E : Int) (h0 : 0 ≤ E) (h1 : E < 18446744073709551616) : wrap64 (bits BinOp.and IntKind.u64 E 255) = ((E.toNat &&& 255 : Nat) : Int) := by
  have h := u64_and E 255 h0 h1 (by omega) (by omega)
  rw [h]
  show wrap64 ((E.toNat &&& 255 : Nat) : Int) = _
  have h2 : E.toNat &&& 255 ≤ 255 := Nat.and_le_right
  exact IntWalk.wrap64_in _ ⟨by omega, by omega⟩

theorem wrap_div (n : Int) : 0 ≤ IntKind.u64.wrap n / 1099511627776 ∧ IntKind.u64.wrap n / 1099511627776 < 18446744073709551616 := by
  have e : IntKind.u64.wrap n = n % 18446744073709551616 := by simp [IntKind.wrap, IntKind.bits, IntKind.signed]
  rw [e]
  omega

set_option maxHeartbeats 1000000 in
theorem next_any (B b : Nat) (a : Option Addr) (n c p : Nat) (l : List UInt8) (w : World) (hB : B ≤ b) (hC : Cur w b a n c p) (hY : Bytes B w a n c l) (hn : n ≤ 1000000) (hp : p ≤ 1000000) :
    Calls Tryd.prog 33 #[.pointer (some ⟨b, 0, none⟩)] w (NextPost w b a n c p) := by
  have C0 := Lib.hid hC
  obtain ⟨h0, h1, ⟨sd, h2⟩, f1, f2⟩ := hC
  have HY := Lib.hid hY
  clear hY
  by_cases hlt : p < n
  · obtain ⟨cb, co, x, rfl, hcb, hx, hc⟩ := HY.out.elem p hlt
    clear hx
    have hxb : x.toNat ≤ 255 := by have := x.toNat_lt; omega
    have hi0 : (0 : Int) ≤ (p : Int) := by omega
    have hi1 : (p : Int) < (n : Int) := by omega
    have hne : cb ≠ b := by omega
    go_enter Tryd.func33, Tryd.ntmps33
    go_wp2
    go_quiet (fail)
    go_wp2
    go_quiet (fail)
    go_wp2
    go_quiet (fail)
    go_wp2
    go_ret
    exact ⟨x.toNat, rfl, hxb, cur_step C0 _ _ _⟩
  · have hi1 : ¬ (p : Int) < (n : Int) := by omega
    have hi2 : ¬ (p : Int) + 1 ≤ (n : Int) := by omega
    go_enter Tryd.func33, Tryd.ntmps33
    go_wp2
    go_quiet (fail)
    go_wp2
    go_quiet (fail)
    go_wp2
    go_ret
    exact ⟨_, ret_num' (and255 _ (wrap_div _).1 (wrap_div _).2), Nat.and_le_right, cur_step C0 _ _ _⟩

def PickPost (w : World) (b : Nat) (a : Option Addr) (n c p m : Nat) (e : Ending) (w' : World) : Prop :=
  ∃ r p' : Nat, e = .returned (.int .i64 (r : Int)) ∧ (r = 0 ∨ r < m) ∧ p' ≤ p + 2 ∧ Cur w' b a n c p' ∧ w.grownBy w' (some b)

theorem pick_end {w w1 w2 : World} {b : Nat} {a : Option Addr} {n c p m x : Nat} (hm : 1 < m) {p' : Nat} (hp : p' ≤ p + 2) (hC : Cur w2 b a n c p') (h1 : w.grownBy w1 (some b)) (h2 : w1.grownBy w2 (some b)) :
    PickPost w b a n c p m (.returned (.int .i64 ((x : Int) % (m : Int)))) w2 :=
  ⟨x % m, p', by rw [Int.natCast_emod], .inr (Nat.mod_lt _ (by omega)), hp, hC, h1.trans h2⟩

set_option maxHeartbeats 1000000 in
theorem pick_any (B b : Nat) (a : Option Addr) (n c p m : Nat) (l : List UInt8) (w : World) (hB : B ≤ b) (hC : Cur w b a n c p) (hY : Bytes B w a n c l) (hn : n ≤ 1000000) (hp : p ≤ 900000) (hm : m ≤ 65536) :
    Calls Tryd.prog 19 #[.pointer (some ⟨b, 0, none⟩), .int .i64 (m : Int)] w (PickPost w b a n c p m) := by
  have C0 := Lib.hid hC
  have Y0 := Lib.hid hY
  clear hC hY
  by_cases h1 : m ≤ 1
  · have q1 : (m : Int) ≤ 1 := by omega
    go_enter Tryd.func19, Tryd.ntmps19
    go_wp2_with fail
    go_ret
    exact ⟨0, p, rfl, .inl rfl, by omega, C0.out, only_refl _ _⟩
  · have q1 : ¬ (m : Int) ≤ 1 := by omega
    by_cases h2 : 200 < m
    · have q2 : (200 : Int) < (m : Int) := by omega
      go_enter Tryd.func19, Tryd.ntmps19
      go_wp2_with fail
      refine (next_any B b a n c p l w hB C0.out Y0.out hn (by omega)).mono ?_
      rintro e w1 ⟨r, rfl, hr, hC1, hg1⟩
      have C1 := Lib.hid hC1
      have Y1 := Lib.hid (Y0.out.keep (bel_only hg1 hB (cur_lt C0.out)))
      clear hC1
      go_wp2_with fail
      refine (next_any B b a n c (p + 1) l w1 hB C1.out Y1.out hn (by omega)).mono ?_
      rintro e w2 ⟨r2, rfl, hr2, hC2, hg2⟩
      have C2 := Lib.hid hC2
      clear hC2
      go_wp2_with fail
      go_ret
      exact pick_end (x := r * 256 + r2) (by omega) (by omega) C2.out hg1 hg2
    · have q2 : ¬ (200 : Int) < (m : Int) := by omega
      go_enter Tryd.func19, Tryd.ntmps19
      go_wp2_with fail
      refine (next_any B b a n c p l w hB C0.out Y0.out hn (by omega)).mono ?_
      rintro e w1 ⟨r, rfl, hr, hC1, hg1⟩
      have C1 := Lib.hid hC1
      clear hC1
      go_wp2_with fail
      go_ret
      exact pick_end (x := r) (by omega) (by omega) C1.out hg1 (only_refl _ _)

def OnePost (w : World) (b : Nat) (a : Option Addr) (n c p : Nat) (e : Ending) (w' : World) : Prop :=
  ∃ (t : Bool) (p' : Nat), e = .returned (.bool t) ∧ p' ≤ p + 2 ∧ Cur w' b a n c p' ∧ w.grownBy w' (some b)

theorem one_any (B b : Nat) (a : Option Addr) (n c p m : Nat) (l : List UInt8) (w : World) (hB : B ≤ b) (hC : Cur w b a n c p) (hY : Bytes B w a n c l) (hn : n ≤ 1000000) (hp : p ≤ 900000) (hm : m ≤ 65536) :
    Calls Tryd.prog 23 #[.pointer (some ⟨b, 0, none⟩), .int .i64 (m : Int)] w (OnePost w b a n c p) := by
  have C0 := Lib.hid hC
  have Y0 := Lib.hid hY
  clear hC hY
  go_enter Tryd.func23, Tryd.ntmps23
  go_wp2_with fail
  refine (pick_any B b a n c p m l w hB C0.out Y0.out hn hp hm).mono ?_
  rintro e w1 ⟨r, p', rfl, hr, hp', hC1, hg1⟩
  have C1 := Lib.hid hC1
  clear hC1
  go_wp2_with fail
  go_ret
  exact ⟨_, p', rfl, hp', C1.out, hg1⟩

def OfPost (w : World) (b : Nat) (a : Option Addr) (n c p : Nat) (ss : List ByteArray) (e : Ending) (w' : World) : Prop :=
  ∃ (s : ByteArray) (p' : Nat), e = .returned (.string s) ∧ s ∈ ss ∧ p' ≤ p + 2 ∧ Cur w' b a n c p' ∧ w.grownBy w' (some b)

theorem of_any (B b : Nat) (a : Option Addr) (n c p g m k : Nat) (ss : List ByteArray) (l : List UInt8) (w : World) (hB : B ≤ b) (hC : Cur w b a n c p) (hY : Bytes B w a n c l) (hn : n ≤ 1000000) (hp : p ≤ 900000) (hm : m ≤ 65536)
    (h0 : 0 < m) (hl : ss.length = m) (hg : g ≠ b) (hc : ∀ (i : Nat) s, ss[i]? = some s → w.cell? ⟨g, i, none⟩ = some (.string s)) :
    Calls Tryd.prog 24 #[.pointer (some ⟨b, 0, none⟩), .slice (some ⟨g, 0, none⟩) m k] w (OfPost w b a n c p ss) := by
  have C0 := Lib.hid hC
  have Y0 := Lib.hid hY
  have HC := Lib.hid hc
  have HL := Lib.hid hl
  clear hC hY hc hl
  go_enter Tryd.func24, Tryd.ntmps24
  go_wp2_with fail
  refine (pick_any B b a n c p m l w hB C0.out Y0.out hn hp hm).mono ?_
  rintro e w1 ⟨r, p', rfl, hr, hp', hC1, hg1⟩
  have C1 := Lib.hid hC1
  clear hC1
  have hrm : r < m := by omega
  have hlr : r < ss.length := by have := HL.out; omega
  obtain ⟨s, hs⟩ : ∃ s, ss[r]? = some s := ⟨_, List.getElem?_eq_getElem hlr⟩
  have hcell : w1.cell? ⟨g, r, none⟩ = some (.string s) := by
    have h1 := HC.out r s hs
    have hlt := World.block_lt_of_cell? w _ h1
    exact (World.cell?_of_block (a := ⟨g, r, none⟩) (hg1.block g hlt (by simpa using hg))).trans h1
  have HS := Lib.hid (List.mem_of_getElem? hs)
  clear hs
  have hi0 : (0 : Int) ≤ (r : Int) := by omega
  have hi1 : (r : Int) < (m : Int) := by omega
  go_wp2_with fail
  go_ret
  exact ⟨s, p', rfl, HS.out, hp', C1.out, hg1⟩

end Go.Proofs.YtlkajncgbnkkgaaDoor
