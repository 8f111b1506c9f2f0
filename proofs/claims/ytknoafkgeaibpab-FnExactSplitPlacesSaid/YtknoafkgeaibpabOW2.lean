/-
  A row that is made beside the reference's row of words, and stored into.
-/
import Derived.Test.YtknoafkgeaibpabOW
import Derived.Test.YtknoafkgeaibpabL3
namespace Go.Proofs.Ytknoafkgeaibpab
open Go.RowKit
set_option linter.unusedVariables false

/-- making n zeros, as one step -/
theorem make_run {P : Program} (t e : TypeId) (z : Value) (bytes : Nat) (ht : P.underlying t = some (.slice e)) (hi : (P.info? e).map (fun i => (i.zero, i.size, i.bytes)) = some (some z, 1, bytes)) (hz1 : z.cells = #[z]) (n : Nat) (hn : n ≤ 1000) (hb : bytes ≤ 100) :
    ∃ cz : Array Value, cz.size = n ∧ cz.toList = List.replicate n z ∧ ∀ W : World, (Instr.makeSlice t (.int .i64 (n : Int)) (.int .i64 (n : Int))).run P W = .ok (.slice (some ⟨W.heap.size, 0, none⟩) n n) (W.alloc (.cells cz e)) := by
  obtain ⟨i0, hi0, hz0, hs0, hb0⟩ := info_parts hi
  refine ⟨madeCells #[z] n, by rw [size_madeCells], toList_madeCells_one z n, fun W => ?_⟩
  have h63' : (n : Int) ≤ 9223372036854775807 := by omega
  have hb' : (i0.bytes : Int) * (n : Int) ≤ 281474976710656 := by
    rw [hb0]
    have : bytes * n ≤ 100 * 1000 := Nat.mul_le_mul hb hn
    have h : ((bytes * n : Nat) : Int) ≤ 281474976710656 := by omega
    rwa [Int.natCast_mul] at h
  have hr := run_make (P := P) W t e i0 z ht hi0 hz0 .i64 .i64 n n (by omega) (Int.le_refl _) hb' h63'
  simp only [Int.toNat_natCast, hs0, Nat.mul_one, hz1] at hr
  exact hr

theorem OW.after {base : Nat} {w : World} {e : TypeId} {n nn c : Nat} {a : Option Addr} {ws : List Txt} {cz : Array Value} (hb : base ≤ w.heap.size) (hn : nn ≤ 1000) (hcz : cz.size = nn)
    (hW : w.ownsRow base 9 1 (.slice a n c) n (ws.map (fun x => Value.string (bx x)))) : OW base (w.alloc (.cells cz e)) e 1 (.slice (some ⟨w.heap.size, 0, none⟩) nn nn) nn cz.toList a n c ws :=
  ⟨World.ownsRow_lit w cz nn hb (by unfold maxLen; omega) (by omega), hW.alloc _, by
    intro h
    have h1 : (Value.slice a n c).ownBlock = some w.heap.size := h.trans rfl
    have := (own_ge hW h1).2
    omega⟩

theorem OW.before {base : Nat} {w w2 : World} {e : TypeId} {n nn c : Nat} {a : Option Addr} {ws : List Txt} {cz : Array Value} (hb : base ≤ w.heap.size) (hn : nn ≤ 1000) (hcz : cz.size = nn) (hb2 : Below (w.alloc (.cells cz e)).heap.size (w.alloc (.cells cz e)) w2)
    (hW : w2.ownsRow (w.alloc (.cells cz e)).heap.size 9 1 (.slice a n c) n (ws.map (fun x => Value.string (bx x)))) : OW base w2 e 1 (.slice (some ⟨w.heap.size, 0, none⟩) nn nn) nn cz.toList a n c ws :=
  ⟨own_stay (World.ownsRow_lit w cz nn hb (by unfold maxLen; omega) (by omega)) hb2, own_down hW (by simp; omega), by
    intro h
    have h1 : (Value.slice a n c).ownBlock = some w.heap.size := h.trans rfl
    have := (own_ge hW h1).1
    simp at this
    omega⟩

/-- a store into the row -/
theorem OW.set {base : Nat} {w : World} {e : TypeId} {g m n c cc : Nat} {xs : List Value} {a : Option Addr} {ws : List Txt} (h : OW base w e 1 (.slice (some ⟨g, 0, none⟩) m cc) m xs a n c ws) (j : Nat) (u : Value) :
    OW base (w.setCell ⟨g, j, none⟩ u) e 1 (.slice (some ⟨g, 0, none⟩) m cc) m (xs.set j u) a n c ws :=
  ⟨(h.out.stored j u).1, h.row.kept (h.out.stored j u).2 (.inr h.dis), h.dis⟩

theorem OW.set_below {base : Nat} {w : World} {e : TypeId} {g m n c cc : Nat} {xs : List Value} {a : Option Addr} {ws : List Txt} (h : OW base w e 1 (.slice (some ⟨g, 0, none⟩) m cc) m xs a n c ws) (j : Nat) (u : Value) (hb : base ≤ w.heap.size) : Below base w (w.setCell ⟨g, j, none⟩ u) :=
  (Below.refl _ _).grown (h.out.stored j u).2 hb (fun k e => by injection e with e; rw [← e]; exact own_base h.out)

theorem OW.drew {base : Nat} {w : World} {e : TypeId} {size m n c : Nat} {v : Value} {xs : List Value} {a : Option Addr} {ws : List Txt} (h : OW base w e size v m xs a n c ws) : OW base w.drew e size v m xs a n c ws := ⟨h.out.drew, h.row.drew, h.dis⟩

/-- the words at the beginning of a rest, beside both rows -/
theorem matches_beside {base : Nat} {w : World} {e : TypeId} {size m n c : Nat} {v : Value} {xs : List Value} {a : Option Addr} {ws : List Txt} (h : OW base w e size v m xs a n c ws) (hasc : Asc ws) (hsh : ∀ x ∈ ws, x.length ≤ 12) (hn : n ≤ 40) {g : Nat} (hv : v.ownBlock = some g) (s : ByteArray) (hs : s.size ≤ 60) (k : Nat) (hk : k ≤ s.size) :
    Calls Try.prog 48 #[.slice a n c, .string s, .int .i64 (k : Int)] w fun en w' => ∃ a9 c9, en = .returned (.slice a9 (Mt ws ((tx s).drop k)).length c9) ∧ w'.ownsRow w.heap.size 3 1 (.slice a9 (Mt ws ((tx s).drop k)).length c9) (Mt ws ((tx s).drop k)).length (nums (Mt ws ((tx s).drop k))) ∧ OW base w' e size v m xs a n c ws ∧ (Value.slice a9 (Mt ws ((tx s).drop k)).length c9).ownBlock ≠ v.ownBlock ∧ Below w.heap.size w w' := by
  refine (l3Matches_any w.heap.size a n c ws s k w (Nat.le_refl _) (h.wds hsh) hasc hsh hn hs hk).mono ?_
  rintro en w' ⟨v9, rfl, hO, hb⟩
  obtain ⟨a9, c9, rfl, _⟩ := own_nums hO
  refine ⟨a9, c9, rfl, hO, h.on hb, ?_, hb⟩
  intro e9
  rw [hv] at e9
  have h1 := (own_ge hO e9).1
  have h2 := (own_ge h.out hv).2
  omega

end Go.Proofs.Ytknoafkgeaibpab
