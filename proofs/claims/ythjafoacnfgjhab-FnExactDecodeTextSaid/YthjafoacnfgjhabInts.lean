/-
  Lists of numbers that come in, and what the laws do with them: copies, equality.
-/
import Derived.Test.YthjafoacnfgjhabInfoI
import Derived.Test.YthjafoacnfgjhabBas
namespace Go.Proofs.Ythjafoacnfgjhab
open Go.RowKit
set_option linter.unusedVariables false

/-- numbers of whatever sign as cells -/
def ints (l : List Int) : List Value := l.map (Value.int .i64)

theorem ints_len (l : List Int) : (ints l).length = l.length := by simp [ints]
theorem ints_at {l : List Int} {k : Nat} {j : Int} (h : l[k]? = some j) : (ints l)[k]? = some (.int .i64 j) := by simp [ints, h]
theorem ints_app (l m : List Int) : ints (l ++ m) = ints l ++ ints m := by simp [ints]
theorem ints_nums (l : List Nat) : ints (l.map (fun (j : Nat) => (j : Int))) = nums l := by simp [ints, nums]

/-- What the argument's reading gives of a slice of numbers. -/
def IsInts (w : World) (a : Option Addr) (len cap : Nat) (zs : List Int) : Prop :=
  (a = none ∧ len = 0 ∧ cap = 0 ∧ zs = []) ∨
  ∃ x, a = some x ∧ len ≤ cap ∧ cap ≤ maxLen ∧ zs.length = cap ∧ (∀ i, i < zs.length → w.cell? (x.add i) = some (.int .i64 (zs.getD i 0))) ∧ ∀ n ∈ zs, (Lit.int .i64 n).wf = true

theorem IsInts.sl {w : World} {a : Option Addr} {len cap : Nat} {zs : List Int} (h : IsInts w a len cap zs) : Sl w.heap.size w a len cap (ints (zs.take len)) := by
  rcases h with ⟨rfl, rfl, rfl, rfl⟩ | ⟨x, rfl, hl, hm, hz, hc, hs⟩
  · exact ⟨rfl, Nat.le_refl _, by omega, fun i u hu => by simp [ints] at hu⟩
  · refine ⟨by simp [ints]; omega, hl, by unfold maxLen at hm; omega, fun i u hu => ?_⟩
    unfold ints at hu
    rw [List.getElem?_map, Option.map_eq_some_iff] at hu
    obtain ⟨z, hu, rfl⟩ := hu
    obtain ⟨hi, hu⟩ := List.getElem?_eq_some_iff.1 hu
    have hi' : i < zs.length := by simp at hi; omega
    have h1 := hc i hi'
    obtain ⟨b, o, sp⟩ := x
    have hsp : sp = none := by simpa [Addr.add] using World.cell?_spot (hc 0 (by omega))
    subst hsp
    have hadd : (Addr.add ⟨b, o, none⟩ i) = ⟨b, o + i, none⟩ := by cases i <;> simp [Addr.add]
    rw [hadd] at h1
    rw [List.getElem_take] at hu
    rw [List.getD_eq_getElem?_getD, List.getElem?_eq_getElem hi', Option.getD_some, hu] at h1
    exact ⟨b, o, rfl, World.block_lt_of_cell? w _ h1, h1⟩

theorem IsInts.wf {w : World} {a : Option Addr} {len cap : Nat} {zs : List Int} (h : IsInts w a len cap zs) : ∀ z ∈ zs.take len, -9223372036854775808 ≤ z ∧ z ≤ 9223372036854775807 := by
  intro z hz
  have hz' : z ∈ zs := List.mem_of_mem_take hz
  rcases h with ⟨rfl, rfl, rfl, rfl⟩ | ⟨x, rfl, hl, hm, _, hc, hs⟩
  · simp at hz'
  · have := hs z hz'
    simpa [Lit.wf, IntKind.min, IntKind.max, IntKind.signed, IntKind.bits] using this

/-- a list of numbers that came in -/
structure Ints (B : Nat) (w : World) (a : Option Addr) (n c : Nat) (zs : List Int) : Prop where
  sl : Sl B w a n c (ints zs)
  each : ∀ z ∈ zs, -9223372036854775808 ≤ z ∧ z ≤ 9223372036854775807

theorem IsInts.ints {w : World} {a : Option Addr} {len cap : Nat} {zs : List Int} (h : IsInts w a len cap zs) : Ints w.heap.size w a len cap (zs.take len) := ⟨h.sl, h.wf⟩
theorem Ints.keep {B : Nat} {w w' : World} {a : Option Addr} {n c : Nat} {zs : List Int} (h : Ints B w a n c zs) (hb : Below B w w') : Ints B w' a n c zs := ⟨h.sl.keep hb, h.each⟩
theorem Ints.mono {B B' : Nat} {w : World} {a : Option Addr} {n c : Nat} {zs : List Int} (h : Ints B w a n c zs) (hb : B ≤ B') : Ints B' w a n c zs := ⟨h.sl.mono hb, h.each⟩
theorem Ints.len {B : Nat} {w : World} {a : Option Addr} {n c : Nat} {zs : List Int} (h : Ints B w a n c zs) : zs.length = n := by have := h.sl.len; rwa [ints_len] at this
theorem Ints.elem {B : Nat} {w : World} {a : Option Addr} {n c : Nat} {zs : List Int} (h : Ints B w a n c zs) (k : Nat) (hk : k < n) :
    ∃ b o z, a = some ⟨b, o, none⟩ ∧ b < B ∧ zs[k]? = some z ∧ (-9223372036854775808 ≤ z ∧ z ≤ 9223372036854775807) ∧ w.cell? ⟨b, o + k, none⟩ = some (.int .i64 z) := by
  have hs : zs[k]? = some (zs[k]'(by have := h.len; omega)) := List.getElem?_eq_getElem (by have := h.len; omega)
  obtain ⟨b, o, ha, hB, hc⟩ := h.sl.spot k _ (ints_at hs)
  exact ⟨b, o, _, ha, hB, hs, h.each _ (List.getElem_mem _), hc⟩

theorem ints_of_own {w : World} {base n : Nat} {v : Value} {l : List Int} (h : w.ownsRow base 3 1 v n (ints l)) (he : ∀ z ∈ l, -9223372036854775808 ≤ z ∧ z ≤ 9223372036854775807) : ∃ a c, v = .slice a n c ∧ Ints w.heap.size w a n c l := by
  obtain ⟨a, c, rfl⟩ := own_slice h
  exact ⟨a, c, rfl, Sl.of_own h, he⟩
set_option maxHeartbeats 1000000 in
theorem eqIntZ_same (B : Nat) (a1 a2 : Option Addr) (m c d : Nat) (l : List Int) (w : World) (hB : B ≤ w.heap.size) (h1 : Sl B w a1 m c (ints l)) (h2 : Sl B w a2 m d (ints l)) :
    Calls Try.prog 17 #[.slice a1 m c, .slice a2 m d] w fun e w' => e = .returned (.bool true) ∧ Below w.heap.size w w' := by
  have L1 := Lib.hid h1.len
  have C1 := h1.cap
  have C2 := h2.cap
  have T1 := h1.top
  have T2 := h2.top
  have H1 := Lib.hid h1
  have H2 := Lib.hid h2
  clear h1 h2
  have hne : ((m : Int) != (m : Int)) = false := by simp
  go_enter Try.func17, Try.ntmps17
  go_wp2
  go_loopw [5] (fun i wr => ∃ k : Nat, k ≤ m ∧ i = .int .i64 k ∧ Hid (Below w.heap.size w wr)) (fun i _ => m - (intOf i).toNat)
  case atStart => exact ⟨0, Nat.zero_le _, rfl, Lib.hid (Below.refl _ _)⟩
  case round =>
    obtain ⟨k, hk, rfl, hb⟩ := hrel
    by_cases hlt : k < m
    · obtain ⟨j, hj⟩ : ∃ j, l[k]? = some j := ⟨_, List.getElem?_eq_getElem (by have := L1.out; rw [ints_len] at this; omega)⟩
      obtain ⟨b, o, rfl, _, hc⟩ := (H1.out.keep (hb.out.mono hB)).spot k _ (ints_at hj)
      obtain ⟨b', o', rfl, _, hc'⟩ := (H2.out.keep (hb.out.mono hB)).spot k _ (ints_at hj)
      clear hj
      have hi0 : (0 : Int) ≤ (k : Int) := by omega
      have hi1 : (k : Int) < (m : Int) := by omega
      have hq : (j != j) = false := by simp
      go_wp2
      go_quiet (fail)
      go_wp2
      go_roundw
      case rel => exact ⟨k + 1, by omega, by go_num, Lib.hid (below_drewN hb.out _)⟩
      case measure => simp [intOf]; omega
    · go_wp2
      go_ret
      exact ⟨rfl, hb.out⟩

/-- what has been copied after k rounds -/
def icopied (l : List Int) (n k : Nat) : List Value := ints (l.take k) ++ List.replicate (n - k) (.int .i64 0)

theorem icopied_zero (l : List Int) (n : Nat) : icopied l n 0 = List.replicate n (.int .i64 0) := by simp [icopied, ints]

theorem icopied_succ {l : List Int} {n k : Nat} {s : Int} (hl : l.length = n) (h : l[k]? = some s) : (icopied l n k).set k (.int .i64 s) = icopied l n (k + 1) := by
  obtain ⟨hk, e⟩ := List.getElem?_eq_some_iff.1 h
  unfold icopied ints
  rw [List.set_append_right _ _ (by simp; omega)]
  have e1 : k - ((l.take k).map (Value.int .i64)).length = 0 := by simp; omega
  rw [e1, List.take_succ_eq_append_getElem hk, e]
  obtain ⟨r, hr⟩ : ∃ r, n - k = r + 1 := ⟨n - k - 1, by omega⟩
  have e2 : n - (k + 1) = r := by omega
  rw [hr, e2, List.replicate_succ, List.set_cons_zero]
  simp

theorem icopied_all {l : List Int} {n : Nat} (hl : l.length = n) : icopied l n n = ints l := by
  unfold icopied
  rw [List.take_of_length_le (by omega)]
  simp

theorem icopied_at {l : List Int} {n k : Nat} (hl : l.length = n) (h : k < n) : (icopied l n k)[k]? = some (.int .i64 0) := by
  unfold icopied ints
  rw [List.getElem?_append_right (by simp; omega)]
  have e1 : k - ((l.take k).map (Value.int .i64)).length = 0 := by simp; omega
  rw [e1, List.getElem?_replicate, if_pos (by omega)]

set_option maxHeartbeats 400000 in
theorem toIntS_any (B : Nat) (a : Option Addr) (n c : Nat) (l : List Int) (w : World) (hB : B ≤ w.heap.size) (h : Ints B w a n c l) (hn : n ≤ 1048576) :
    Calls Try.prog 15 #[.slice a n c] w fun e w' => e = .returned (.slice (some ⟨w.heap.size, 0, none⟩) n n) ∧ Ints (w.heap.size + 1) w' (some ⟨w.heap.size, 0, none⟩) n n l ∧ w.heap.size < w'.heap.size ∧ Below w.heap.size w w' := by
  have L := Lib.hid h.len
  have C := h.sl.cap
  have T := h.sl.top
  have H := Lib.hid h
  clear h
  obtain ⟨i0, hi, hz0, hz1, hz2⟩ := info_parts infoI
  go_enter Try.func15, Try.ntmps15
  go_wp2_with (first | (at_make; refine wpList_make_full _ rfl _ _ 29 rfl w.heap.size 3 i0 (.int .i64 0) 1 Try.underlying29 hi hz0 hz1 .i64 .i64 _ _ n rfl rfl rfl rfl (by rw [hz2]; omega) (by unfold maxLen; omega) (Nat.le_refl _) ?_; intro w1 hown hgrow))
  have hlt1 : w.heap.size < w1.heap.size := own_lt hown
  have hown0 : w1.ownsRow w.heap.size 3 1 (.slice (some ⟨w.heap.size, 0, none⟩) n n) n (icopied l n 0) := by
    rw [icopied_zero]
    have e := toList_madeCells_one (.int .i64 0) n
    rw [Nat.mul_one] at hown
    exact e ▸ hown
  have hb1 : Below w.heap.size w w1 := (Below.refl _ _).grown hgrow (Nat.le_refl _) (fun k e => by cases e)
  clear hown hgrow
  go_loopw [4] (fun i wr => ∃ k : Nat, k ≤ n ∧ i = .int .i64 k ∧ wr.ownsRow w.heap.size 3 1 (.slice (some ⟨w.heap.size, 0, none⟩) n n) n (icopied l n k) ∧ Below w.heap.size w wr ∧ w.heap.size < wr.heap.size) (fun i _ => n - (intOf i).toNat)
  case atStart => exact ⟨0, Nat.zero_le _, rfl, hown0, hb1, hlt1⟩
  case round =>
    clear hown0 hb1 hlt1
    obtain ⟨k, hk, rfl, hown, hb, hlt2⟩ := hrel
    by_cases hlt : k < n
    · obtain ⟨b, o, s, rfl, hbB, hs, hsz, hc⟩ := (H.out.keep (hb.mono hB)).elem k hlt
      have HS := Lib.hid hs
      clear hs hsz
      have hf := hown.frozenAt k
      have hd := hown.cellAt k (by omega)
      rw [icopied_at (by have := L.out; omega) hlt] at hd
      have hst := (hown.stored k (.int .i64 s)).1
      rw [icopied_succ L.out HS.out] at hst
      have HST := Lib.hid hst
      clear hst
      have HO := Lib.hid hown
      clear hown
      go_wp2
      go_roundw
      case rel => exact ⟨k + 1, by omega, by go_num, HST.out, hb.setCell (p := ⟨w.heap.size, k, none⟩) (Nat.le_refl _) _, by simpa using hlt2⟩
      case measure => simp [intOf]; omega
    · have e : k = n := by omega
      subst e
      rw [icopied_all L.out] at hown
      have HO : Hid (Ints (w.heap.size + 1) wr (some ⟨w.heap.size, 0, none⟩) k k l) := Lib.hid (by
        have s := Sl.of_own hown
        refine ⟨⟨s.len, s.cap, s.top, fun i u hu => ?_⟩, H.out.each⟩
        obtain ⟨b, o, hb', _, hcc⟩ := s.spot i u hu
        simp only [Option.some.injEq, Addr.mk.injEq, and_true] at hb'
        obtain ⟨rfl, rfl⟩ := hb'
        exact ⟨_, _, rfl, Nat.lt_succ_self _, hcc⟩)
      clear hown
      go_wp2
      go_ret
      exact ⟨rfl, HO.out, hlt2, hb⟩

end Go.Proofs.Ythjafoacnfgjhab
