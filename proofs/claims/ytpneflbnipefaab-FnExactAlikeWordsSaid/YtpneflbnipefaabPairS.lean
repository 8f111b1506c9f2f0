/-
  The laws' own helpers on lists of pairs of numbers.
-/
import Derived.Test.YtpneflbnipefaabIntM
import Derived.Deep.RegionHeld3
namespace Go.Proofs.Ytpneflbnipefaab
open Go.RowKit
set_option linter.unusedVariables false

theorem infoP2 : (Try.prog.info? 63).map (fun i => (i.zero, i.size, i.bytes)) = some (some (.agg #[.int .i64 0, .int .i64 0]), 2, 16) := by kernel_rfl

/-- a slice of m pairs, whose numbers are xs one behind the other -/
structure FS (B : Nat) (w : World) (a : Option Addr) (m c : Nat) (xs : List Nat) : Prop where
  len : xs.length = 2 * m
  cap : m ≤ c
  top : c ≤ 9223372036854775807
  spot : ∀ (i : Nat) (u : Nat), xs[i]? = some u → ∃ b o, a = some ⟨b, o, none⟩ ∧ b < B ∧ w.cell? ⟨b, o + i, none⟩ = some (.int .i64 (u : Int))

theorem FS.keep {B : Nat} {w w' : World} {a : Option Addr} {m c : Nat} {xs : List Nat} (h : FS B w a m c xs) (hb : Below B w w') : FS B w' a m c xs :=
  ⟨h.len, h.cap, h.top, fun i u hu => by
    obtain ⟨b, o, e, h1, h2⟩ := h.spot i u hu
    exact ⟨b, o, e, h1, (hb.cell (p := ⟨b, o + i, none⟩) h1).trans h2⟩⟩

theorem FS.mono {B B' : Nat} {w : World} {a : Option Addr} {m c : Nat} {xs : List Nat} (h : FS B w a m c xs) (hb : B ≤ B') : FS B' w a m c xs :=
  ⟨h.len, h.cap, h.top, fun i u hu => by
    obtain ⟨b, o, e, h1, h2⟩ := h.spot i u hu
    exact ⟨b, o, e, Nat.lt_of_lt_of_le h1 hb, h2⟩⟩

theorem FS.pair {B : Nat} {w : World} {a : Option Addr} {m c : Nat} {xs : List Nat} (h : FS B w a m c xs) (k : Nat) (hk : k < m) : ∃ b o x y, a = some ⟨b, o, none⟩ ∧ b < B ∧ xs[k * 2]? = some x ∧ xs[k * 2 + 1]? = some y ∧ w.cell? ⟨b, o + k * 2, none⟩ = some (.int .i64 (x : Int)) ∧ w.cell? ⟨b, o + k * 2 + 1, none⟩ = some (.int .i64 (y : Int)) := by
  have hl := h.len
  obtain ⟨x, hx⟩ : ∃ x, xs[k * 2]? = some x := ⟨_, List.getElem?_eq_getElem (by omega)⟩
  obtain ⟨y, hy⟩ : ∃ y, xs[k * 2 + 1]? = some y := ⟨_, List.getElem?_eq_getElem (by omega)⟩
  obtain ⟨b, o, e, h1, h2⟩ := h.spot _ _ hx
  obtain ⟨b', o', e', _, h4⟩ := h.spot _ _ hy
  rw [e] at e'
  injection e' with e'
  injection e' with e1 e2
  subst e1 e2
  exact ⟨b, o, x, y, e, h1, hx, hy, h2, by rw [Nat.add_assoc]; exact h4⟩

theorem own_pairs {base : Nat} {w : World} {m : Nat} {v : Value} {xs : List Nat} (h : w.ownsRow base 63 2 v m (nums xs)) (hm : m ≤ 100000) : ∃ a c, v = .slice a m c ∧ FS w.heap.size w a m c xs := by
  have hl : xs.length = m * 2 := by have := h.1; rwa [nums_len] at this
  rcases h.2 with ⟨rfl, rfl⟩ | ⟨g, cap, cur, rfl, hb, hg, h1, h2, h3, h4⟩
  · exact ⟨none, 0, rfl, by omega, Nat.le_refl _, by omega, fun i u hu => by
      have := (List.getElem?_eq_some_iff.1 hu).1
      omega⟩
  · have hc : cap ≤ 9223372036854775807 := by unfold maxLen at h2; omega
    refine ⟨_, cap, rfl, by omega, h1, hc, fun i u hu => ⟨g, 0, rfl, (Array.getElem?_eq_some_iff.1 hg).1, ?_⟩⟩
    have hi := (List.getElem?_eq_some_iff.1 hu).1
    rw [Nat.zero_add, h.cellAt i (by omega)]
    exact nums_at hu

set_option maxRecDepth 1000000 in
set_option maxHeartbeats 1000000 in
theorem eqIntA2_same (x y : Int) (w : World) :
    Calls Try.prog 55 #[.agg #[.int .i64 x, .int .i64 y], .agg #[.int .i64 x, .int .i64 y]] w fun e w' => e = .returned (.bool true) ∧ Below w.heap.size w w' := by
  have hx : (x != x) = false := by simp
  have hy : (y != y) = false := by simp
  obtain ⟨w0, hw0⟩ : ∃ w0, (w.alloc (.cells #[.int .i64 x, .int .i64 y] 63)).alloc (.cells #[.int .i64 x, .int .i64 y] 63) = w0 := ⟨_, rfl⟩
  have hc0 : w0.cell? ⟨w.heap.size, 0, none⟩ = some (.int .i64 x) := by rw [← hw0]; simp
  have hc1 : w0.cell? ⟨w.heap.size, 1, none⟩ = some (.int .i64 y) := by rw [← hw0]; simp
  have hd0 : w0.cell? ⟨w.heap.size + 1, 0, none⟩ = some (.int .i64 x) := by
    rw [← hw0]
    exact (World.cell?_alloc_at (w := w.alloc (.cells #[.int .i64 x, .int .i64 y] 63)) _ _ _ _ (by simp)).trans rfl
  have hd1 : w0.cell? ⟨w.heap.size + 1, 1, none⟩ = some (.int .i64 y) := by
    rw [← hw0]
    exact (World.cell?_alloc_at (w := w.alloc (.cells #[.int .i64 x, .int .i64 y] 63)) _ _ _ _ (by simp)).trans rfl
  have HB0 : Hid (Below w.heap.size w w0) := Lib.hid (by rw [← hw0]; exact ((Below.refl _ _).alloc (Nat.le_refl _) _).alloc (by simp) _)
  have HW0 := Lib.hid hw0
  clear hw0
  go_enter Try.func55, Try.ntmps55
  go_wp2
  rw [HW0.out]
  have hl1 : w.heap.size + 1 < w0.heap.size := by rw [← HW0.out]; simp
  have HC := Lib.hid hc0
  have HC1 := Lib.hid hc1
  have HD := Lib.hid hd0
  have HD1 := Lib.hid hd1
  clear hc0 hc1 hd0 hd1
  go_loopw [5] (fun i wr => ∃ k : Nat, k ≤ 2 ∧ i = .int .i64 k ∧ Hid (Below w0.heap.size w0 wr)) (fun i _ => 2 - (intOf i).toNat)
  case atStart => exact ⟨0, by omega, rfl, Lib.hid (Below.refl _ _)⟩
  case round =>
    obtain ⟨k, hk, rfl, hb⟩ := hrel
    by_cases hlt : k < 2
    · have hc0 := (hb.out.cell (p := ⟨w.heap.size, 0, none⟩) (by show w.heap.size < _; omega)).trans HC.out
      have hc1 := (hb.out.cell (p := ⟨w.heap.size, 1, none⟩) (by show w.heap.size < _; omega)).trans HC1.out
      have hd0 := (hb.out.cell (p := ⟨w.heap.size + 1, 0, none⟩) hl1).trans HD.out
      have hd1 := (hb.out.cell (p := ⟨w.heap.size + 1, 1, none⟩) hl1).trans HD1.out
      have hk01 : k = 0 ∨ k = 1 := by omega
      rcases hk01 with rfl | rfl
      · go_wp2
        go_quiet (fail)
        go_wp2
        go_roundw
        case rel => exact ⟨1, by omega, rfl, Lib.hid (below_drewN hb.out _)⟩
        case measure => simp [intOf]
      · go_wp2
        go_quiet (fail)
        go_wp2
        go_roundw
        case rel => exact ⟨2, by omega, rfl, Lib.hid (below_drewN hb.out _)⟩
        case measure => simp [intOf]
    · have e : k = 2 := by omega
      subst e
      go_wp2
      go_ret
      exact ⟨rfl, HB0.out.trans (hb.out.mono (by have := HB0.out.size; omega))⟩

set_option maxRecDepth 1000000 in
set_option maxHeartbeats 1000000 in
theorem eqIntA2S_same (B : Nat) (a1 a2 : Option Addr) (m c d : Nat) (xs : List Nat) (w : World) (hB : B ≤ w.heap.size) (h1 : FS B w a1 m c xs) (h2 : FS B w a2 m d xs) (hm : m ≤ 100000) :
    Calls Try.prog 22 #[.slice a1 m c, .slice a2 m d] w fun e w' => e = .returned (.bool true) ∧ Below w.heap.size w w' := by
  have C1 := h1.cap
  have C2 := h2.cap
  have T1 := h1.top
  have T2 := h2.top
  have H1 := Lib.hid h1
  have H2 := Lib.hid h2
  have HBB := Lib.hid hB
  clear h1 h2 hB
  have hne : ((m : Int) != (m : Int)) = false := by simp
  go_enter Try.func22, Try.ntmps22
  go_wp2
  go_loopw [5] (fun i wr => ∃ k : Nat, k ≤ m ∧ i = .int .i64 k ∧ Hid (Below w.heap.size w wr)) (fun i _ => m - (intOf i).toNat)
  case atStart => exact ⟨0, Nat.zero_le _, rfl, Lib.hid (Below.refl _ _)⟩
  case round =>
    obtain ⟨k, hk, rfl, hb⟩ := hrel
    by_cases hlt : k < m
    · obtain ⟨b, o, x, y, rfl, hbB, hx, hy, hc0, hc1⟩ := (H1.out.keep (hb.out.mono HBB.out)).pair k hlt
      obtain ⟨b', o', x', y', rfl, hbB', hx', hy', hd0, hd1⟩ := (H2.out.keep (hb.out.mono HBB.out)).pair k hlt
      rw [hx] at hx'
      rw [hy] at hy'
      injection hx' with hx'
      injection hy' with hy'
      subst hx' hy'
      clear hx hy
      have hi0 : (0 : Int) ≤ (k : Int) := by omega
      have hi1 : (k : Int) < (m : Int) := by omega
      have hkm : (k : Int) * 2 = ((k * 2 : Nat) : Int) := by omega
      have cE := Lib.hid (fun W => eqIntA2_same (x : Int) (y : Int) W)
      have hlb : b < wr.heap.size := by have := HBB.out; have := hb.out.size; omega
      have hlb' : b' < wr.heap.size := by have := HBB.out; have := hb.out.size; omega
      go_wp2_with fail
      go_region_held3 (fun w' => w'.cell? ⟨b, o + k * 2, none⟩ = some (.int .i64 (x : Int)) ∧ w'.cell? ⟨b, o + k * 2 + 1, none⟩ = some (.int .i64 (y : Int)) ∧ w'.cell? ⟨b', o' + k * 2, none⟩ = some (.int .i64 (x : Int)) ∧ w'.cell? ⟨b', o' + k * 2 + 1, none⟩ = some (.int .i64 (y : Int)))
        (first
          | exact ⟨hc0, hc1, hd0, hd1⟩
          | exact ⟨(HB4.out.cell (p := ⟨b, _, none⟩) hlb).trans hc0, (HB4.out.cell (p := ⟨b, _, none⟩) hlb).trans hc1, (HB4.out.cell (p := ⟨b', _, none⟩) hlb').trans hd0, (HB4.out.cell (p := ⟨b', _, none⟩) hlb').trans hd1⟩)
        (first
          | (go_at_call 55; refine (cE.out _).mono ?_; rintro e w4 ⟨rfl, hb4⟩; have HB4 : Hid (Below wr.heap.size wr w4) := Lib.hid ((Below.refl _ _).drew.trans hb4); clear hb4))
      go_wp2
      go_roundw
      case rel => exact ⟨k + 1, by omega, by go_num, Lib.hid (hb.out.trans (HB4.out.mono hb.out.size))⟩
      case measure => simp [intOf]; omega
    · go_wp2
      go_ret
      exact ⟨rfl, hb.out⟩

set_option maxRecDepth 1000000 in
set_option maxHeartbeats 1000000 in
theorem markIntA2S_some (base g m c k0 : Nat) (l : List Nat) (w : World) (h : w.ownsRow base 63 2 (.slice (some ⟨g, 0, none⟩) m c) m (nums l)) (hbase : base ≤ w.heap.size) (hm : m ≤ 100000) (hk : k0 ≤ 10) :
    Calls Try.prog 23 #[.slice (some ⟨g, 0, none⟩) m c, .int .i64 (k0 : Int)] w fun e w' => e = .returned (.int .i64 ((k0 + 2 * m : Nat) : Int)) ∧
      w'.ownsRow base 63 2 (.slice (some ⟨g, 0, none⟩) m c) m (nums (mnums k0 (2 * m))) ∧ Below base w w' := by
  have hl0 : (nums l).length = 2 * m := by have := h.1; omega
  have L : Hid ((nums l).length = 2 * m) := Lib.hid hl0
  have LL : Hid (l.length = 2 * m) := Lib.hid (by rw [nums_len] at hl0; exact hl0)
  have HB := own_base h
  have HO0 := Lib.hid h
  clear h hl0
  go_enter Try.func23, Try.ntmps23
  go_wp2
  go_loopw [1, 5] (fun q i wr => ∃ j : Nat, j ≤ m ∧ i = .int .i64 j ∧ q = .int .i64 ((k0 + 2 * j : Nat) : Int) ∧ Hid (wr.ownsRow base 63 2 (.slice (some ⟨g, 0, none⟩) m c) m (mkd (nums l) k0 (2 * j))) ∧ Hid (Below base w wr)) (fun _ i _ => m - (intOf i).toNat)
  case atStart => exact ⟨0, Nat.zero_le _, rfl, rfl, Lib.hid (by simpa [mkd, mnums, nums] using HO0.out), Lib.hid (Below.refl _ _)⟩
  case round =>
    clear HO0
    obtain ⟨j, hj, rfl, rfl, HO, hb⟩ := hrel
    by_cases hlt : j < m
    · have hjm : (j : Int) < (m : Int) := by omega
      have hj0 : (0 : Int) ≤ (j : Int) := by omega
      go_wp2_with fail
      obtain ⟨wo, rfl⟩ : ∃ wo : World, wo = wr := ⟨_, rfl⟩
      go_loopw [1, 6] (fun q i wr => ∃ r : Nat, r ≤ 2 ∧ i = .int .i64 r ∧ q = .int .i64 ((k0 + (2 * j + r) : Nat) : Int) ∧ Hid (wr.ownsRow base 63 2 (.slice (some ⟨g, 0, none⟩) m c) m (mkd (nums l) k0 (2 * j + r))) ∧ Hid (Below base w wr)) (fun _ i _ => 2 - (intOf i).toNat)
      case atStart => exact ⟨0, by omega, rfl, rfl, HO, hb⟩
      case round =>
        clear HO hb
        obtain ⟨r, hr, rfl, rfl, HO, hb⟩ := hrel
        by_cases hlr : r < 2
        · have hr01 : r = 0 ∨ r = 1 := by omega
          rcases hr01 with rfl | rfl
          · have hf := HO.out.frozenAt (j * 2)
            obtain ⟨u0, hu0⟩ : ∃ u, (mkd (nums l) k0 (2 * j + 0))[j * 2]? = some u := ⟨_, List.getElem?_eq_getElem (by have := HO.out.1; omega)⟩
            have hd := (HO.out.cellAt (j * 2) (by omega)).trans hu0
            clear hu0
            obtain ⟨kk, hkk⟩ : ∃ kk : Int, ((k0 + (2 * j + 0) : Nat) : Int) = kk := ⟨_, rfl⟩
            have HS := Lib.hid (HO.out.stored (j * 2) (.int .i64 kk))
            have HS2 : Hid ((wr.setCell ⟨g, j * 2, none⟩ (.int .i64 kk)).ownsRow base 63 2 (.slice (some ⟨g, 0, none⟩) m c) m (mkd (nums l) k0 (2 * j + 1))) := Lib.hid (by
              have := HS.out.1
              rw [← hkk, show (mkd (nums l) k0 (2 * j + 0)).set (j * 2) (.int .i64 ((k0 + (2 * j + 0) : Nat) : Int)) = mkd (nums l) k0 (2 * j + 1) by
                rw [show j * 2 = 2 * j + 0 by omega]
                exact mkd_succ (by rw [L.out]; omega)] at this
              rw [← hkk]
              exact this)
            have HK := Lib.hid hkk
            have hkb : 0 ≤ kk ∧ kk ≤ 1000000 := by omega
            rw [hkk]
            clear hkk HS
            have e0 : (((0 : Nat) : Int)).toNat = 0 := by omega
            go_wp2_with fail
            go_roundw
            case rel => exact ⟨1, by omega, rfl, by rw [← HK.out]; go_num, HS2, Lib.hid (hb.out.setCell HB _)⟩
            case measure => simp [intOf]
          · have hf := HO.out.frozenAt (j * 2 + 1)
            obtain ⟨u0, hu0⟩ : ∃ u, (mkd (nums l) k0 (2 * j + 1))[j * 2 + 1]? = some u := ⟨_, List.getElem?_eq_getElem (by have := HO.out.1; omega)⟩
            have hd := (HO.out.cellAt (j * 2 + 1) (by omega)).trans hu0
            clear hu0
            obtain ⟨kk, hkk⟩ : ∃ kk : Int, ((k0 + (2 * j + 1) : Nat) : Int) = kk := ⟨_, rfl⟩
            have HS := Lib.hid (HO.out.stored (j * 2 + 1) (.int .i64 kk))
            have HS2 : Hid ((wr.setCell ⟨g, j * 2 + 1, none⟩ (.int .i64 kk)).ownsRow base 63 2 (.slice (some ⟨g, 0, none⟩) m c) m (mkd (nums l) k0 (2 * j + 2))) := Lib.hid (by
              have := HS.out.1
              rw [← hkk, show (mkd (nums l) k0 (2 * j + 1)).set (j * 2 + 1) (.int .i64 ((k0 + (2 * j + 1) : Nat) : Int)) = mkd (nums l) k0 (2 * j + 2) by
                rw [show j * 2 + 1 = 2 * j + 1 by omega]
                exact mkd_succ (by rw [L.out]; omega)] at this
              rw [← hkk]
              exact this)
            have HK := Lib.hid hkk
            have hkb : 0 ≤ kk ∧ kk ≤ 1000000 := by omega
            rw [hkk]
            clear hkk HS
            have e0 : (((1 : Nat) : Int)).toNat = 1 := by omega
            go_wp2_with fail
            go_roundw
            case rel => exact ⟨2, by omega, rfl, by rw [← HK.out]; go_num, HS2, Lib.hid (hb.out.setCell HB _)⟩
            case measure => simp [intOf]
        · have e : r = 2 := by omega
          subst e
          go_wp2_with fail
          go_roundw
          case rel => exact ⟨j + 1, by omega, by go_num, by congr 2, by rw [show 2 * (j + 1) = 2 * j + 2 by omega]; exact HO, hb⟩
          case measure => simp [intOf]; omega
    · have e : j = m := by omega
      subst e
      have HF : Hid (wr.ownsRow base 63 2 (.slice (some ⟨g, 0, none⟩) j c) j (nums (mnums k0 (2 * j)))) := Lib.hid (by have := HO.out; rw [mkd, List.drop_eq_nil_of_le (by rw [L.out]; exact Nat.le_refl _), List.append_nil] at this; exact this)
      go_wp2
      go_ret
      exact ⟨rfl, HF.out, hb.out⟩

set_option maxRecDepth 1000000 in
set_option maxHeartbeats 1000000 in
theorem heldIntA2S_any (B k0 m c : Nat) (a : Option Addr) (w : World) (h : FS B w a m c (mnums k0 (2 * m))) (hm : m ≤ 100000) (hk : k0 ≤ 10) :
    Calls Try.prog 24 #[.slice a m c, .int .i64 (k0 : Int)] w fun e w' => e = .returned (.int .i64 ((k0 + 2 * m : Nat) : Int)) ∧ w = w' := by
  have C := h.cap
  have T := h.top
  have H := Lib.hid h
  clear h
  go_enter Try.func24, Try.ntmps24
  go_wp2
  go_loop [1, 5] (fun q i => ∃ j : Nat, j ≤ m ∧ i = .int .i64 j ∧ q = .int .i64 ((k0 + 2 * j : Nat) : Int)) (fun _ i => m - (intOf i).toNat)
  case atStart => exact ⟨0, Nat.zero_le _, rfl, rfl⟩
  case round =>
    obtain ⟨j, hj, rfl, rfl⟩ := hrel
    by_cases hlt : j < m
    · have hjm : (j : Int) < (m : Int) := by omega
      have hj0 : (0 : Int) ≤ (j : Int) := by omega
      obtain ⟨b, o, x, y, rfl, hbB, hx, hy, hc0, hc1⟩ := H.out.pair j hlt
      rw [mnums_at (by omega)] at hx hy
      injection hx with hx
      injection hy with hy
      subst hx hy
      have HC0 := Lib.hid hc0
      have HC1 := Lib.hid hc1
      clear hc0 hc1
      go_wp2_with fail
      go_loop [1, 6] (fun q i => ∃ r : Nat, r ≤ 2 ∧ i = .int .i64 r ∧ q = .int .i64 ((k0 + (2 * j + r) : Nat) : Int)) (fun _ i => 2 - (intOf i).toNat)
      case atStart => exact ⟨0, by omega, rfl, rfl⟩
      case round =>
        obtain ⟨r, hr, rfl, rfl⟩ := hrel
        by_cases hlr : r < 2
        · have hr01 : r = 0 ∨ r = 1 := by omega
          rcases hr01 with rfl | rfl
          · obtain ⟨kk, hkk⟩ : ∃ kk : Int, ((k0 + (2 * j + 0) : Nat) : Int) = kk := ⟨_, rfl⟩
            have HK := Lib.hid hkk
            have hkb : 0 ≤ kk ∧ kk ≤ 1000000 := by omega
            have hd : w.cell? ⟨b, o + j * 2, none⟩ = some (.int .i64 kk) := by rw [HC0.out, ← hkk]; congr 3; omega
            rw [hkk]
            clear hkk
            have hq : (kk != kk) = false := by simp
            go_wp2_with fail
            go_round
            case rel => exact ⟨1, by omega, rfl, by rw [← HK.out]; go_num⟩
            case measure => simp [intOf]
          · obtain ⟨kk, hkk⟩ : ∃ kk : Int, ((k0 + (2 * j + 1) : Nat) : Int) = kk := ⟨_, rfl⟩
            have HK := Lib.hid hkk
            have hkb : 0 ≤ kk ∧ kk ≤ 1000000 := by omega
            have hd : w.cell? ⟨b, o + j * 2 + 1, none⟩ = some (.int .i64 kk) := by rw [HC1.out, ← hkk]; congr 3; omega
            rw [hkk]
            clear hkk
            have hq : (kk != kk) = false := by simp
            go_wp2_with fail
            go_round
            case rel => exact ⟨2, by omega, rfl, by rw [← HK.out]; go_num⟩
            case measure => simp [intOf]
        · have e : r = 2 := by omega
          subst e
          go_wp2_with fail
          go_round
          case rel => exact ⟨j + 1, by omega, by go_num, by congr 2⟩
          case measure => simp [intOf]; omega
    · have e : j = m := by omega
      subst e
      go_wp2
      go_ret
      exact ⟨rfl, rfl⟩

end Go.Proofs.Ytpneflbnipefaab
