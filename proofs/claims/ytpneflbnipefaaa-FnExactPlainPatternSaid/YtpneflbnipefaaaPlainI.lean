/-
  Plain patterns: the program's walk, with its closure that lets a star go.
-/
import Derived.RangeFuncBox
import Derived.WalkLawsBesides
import Derived.Test.YtpneflbnipefaaaPlainS
import Derived.Test.YtpneflbnipefaaaIter
namespace Go.Proofs.Ytpneflbnipefaaa
open Go.RowKit
set_option linter.unusedVariables false

theorem infoI32 : (Try.prog.info? 21).map (fun i => (i.zero, i.size, i.bytes)) = some (some (.int .i32 0), 1, 4) := by kernel_rfl

def runes (o : Txt) : List Value := o.map fun c => Value.int .i32 (c.toNat : Int)

/-- the signs that are written, in a row behind a box, and whether a star is held back -/
structure PW (L : Nat) (W : World) (o : Txt) (b : Bool) : Prop where
  row : ∃ g cap, Boxed W (L + 1) 31 (.slice (some ⟨g, 0, none⟩) o.length cap) ∧ W.ownsRow L 21 1 (.slice (some ⟨g, 0, none⟩) o.length cap) o.length (runes o) ∧ (g = L ∨ L + 4 ≤ g)
  held : Boxed W (L + 1 + 1) 4 (.bool b)
  size : L + 4 ≤ W.heap.size

theorem bxd_set {W : World} {B q : Nat} {t : TypeId} {v : Value} (u : Value) (hv : Boxed W B t v) (h : B ≠ q) : Boxed (W.setCell ⟨q, 0, none⟩ u) B t v := (Below.heap_setCell _ _ _ _ h).trans hv

theorem PW.on {L : Nat} {W W' : World} {o : Txt} {b : Bool} (h : PW L W o b) (hb : Below W.heap.size W W') : PW L W' o b := by
  obtain ⟨g, cap, h1, h2, h3⟩ := h.row
  exact ⟨⟨g, cap, (hb.block _ h1.lt).trans h1, own_stay h2 hb, h3⟩, (hb.block _ h.held.lt).trans h.held, Nat.le_trans h.size hb.size⟩

theorem PW.mark {L : Nat} {W : World} {o : Txt} {b : Bool} (h : PW L W o b) (b' : Bool) : PW L (W.setCell ⟨L + 1 + 1, 0, none⟩ (.bool b')) o b' ∧ (W.setCell ⟨L + 1 + 1, 0, none⟩ (.bool b')).heap[L + 3]? = W.heap[L + 3]? ∧ Below L W (W.setCell ⟨L + 1 + 1, 0, none⟩ (.bool b')) := by
  obtain ⟨g, cap, h1, h2, h3⟩ := h.row
  have hne : (Value.slice (some ⟨g, 0, none⟩) o.length cap).ownBlock ≠ some (L + 1 + 1) := by
    intro e
    have e2 : g = L + 1 + 1 := by simpa [Value.ownBlock] using e
    omega
  refine ⟨⟨⟨g, cap, bxd_set _ h1 (by omega), h2.kept (grownBy_setCell' W (L + 1 + 1) (.bool b')) (.inr (by first | exact hne | exact hne.symm)), h3⟩, h.held.set _, by have := h.size; simpa using this⟩, Below.heap_setCell _ _ _ _ (show L + 3 ≠ L + 1 + 1 by omega), (Below.refl _ _).setCell (p := ⟨L + 1 + 1, 0, none⟩) (by simp; omega) _⟩

theorem pw_app {L : Nat} {V w1 : World} {o : Txt} {b : Bool} {c : UInt8} {g cap g' cap' : Nat} (hs : L + 4 ≤ V.heap.size) (hv : Boxed V (L + 1) 31 (.slice (some ⟨g, 0, none⟩) o.length cap))
    (hrow : V.ownsRow L 21 1 (.slice (some ⟨g, 0, none⟩) o.length cap) o.length (runes o)) (hg : g = L ∨ L + 4 ≤ g) (hh : Boxed V (L + 1 + 1) 4 (.bool b))
    (hown' : w1.ownsRow L 21 1 (.slice (some ⟨g', 0, none⟩) (o.length + 1) cap') (o.length + 1) (runes o ++ [.int .i32 (c.toNat : Int)]))
    (hgrow : (V.alloc (.cells #[.int .i32 (c.toNat : Int)] 21)).grownBy w1 (Value.slice (some ⟨g, 0, none⟩) o.length cap).ownBlock)
    (hat : (Value.slice (some ⟨g', 0, none⟩) (o.length + 1) cap').ownBlock = (Value.slice (some ⟨g, 0, none⟩) o.length cap).ownBlock ∨ (Value.slice (some ⟨g', 0, none⟩) (o.length + 1) cap').ownBlock = some (V.alloc (.cells #[.int .i32 (c.toNat : Int)] 21)).heap.size) :
    PW L (w1.setCell ⟨L + 1, 0, none⟩ (.slice (some ⟨g', 0, none⟩) (o.length + 1) cap')) (o ++ [c]) b ∧ (w1.setCell ⟨L + 1, 0, none⟩ (.slice (some ⟨g', 0, none⟩) (o.length + 1) cap')).heap[L + 3]? = V.heap[L + 3]? ∧ Below L V (w1.setCell ⟨L + 1, 0, none⟩ (.slice (some ⟨g', 0, none⟩) (o.length + 1) cap')) := by
  obtain ⟨hv1, hv2, hr2, hk2, hb2⟩ := hv.appended (by decide) hrow (by omega) (by omega) hown' hgrow
  have hat' : g' = g ∨ g' = V.heap.size + 1 := by
    have h : (some g' : Option Nat) = some g ∨ some g' = some (V.alloc (.cells #[.int .i32 (c.toNat : Int)] 21)).heap.size := hat
    simpa using h
  have hgr : (V.alloc (.cells #[.int .i32 (c.toNat : Int)] 21)).grownBy w1 (some g) := hgrow
  have keep : ∀ k, k < V.heap.size → k ≠ g → k ≠ L + 1 → (w1.setCell ⟨L + 1, 0, none⟩ (.slice (some ⟨g', 0, none⟩) (o.length + 1) cap')).heap[k]? = V.heap[k]? := fun k h1 h2 h3 => by
    rw [Below.heap_setCell _ _ _ _ h3, hgr.block k (by simp; omega) (by simpa using h2), Below.heap_alloc _ _ _ h1]
  have hl : (o ++ [c]).length = o.length + 1 := by simp
  have hrn : runes (o ++ [c]) = runes o ++ [.int .i32 (c.toNat : Int)] := by simp [runes]
  refine ⟨⟨⟨g', cap', by rw [hl]; exact hv2, by rw [hl, hrn]; exact hr2, by omega⟩, (keep (L + 1 + 1) (by omega) (by omega) (by omega)).trans hh, Nat.le_trans hs hb2.size⟩, keep _ (by omega) (by omega) (by omega), hb2⟩

set_option maxRecDepth 1000000 in
set_option maxHeartbeats 2000000 in
theorem release_any (L : Nat) (o : Txt) (b : Bool) (W : World) (h : PW L W o b) (ho : o.length ≤ 100) :
    Calls Try.prog 27 #[.pointer (some ⟨L + 1 + 1, 0, none⟩), .pointer (some ⟨L + 1, 0, none⟩)] W fun e W' => e = .returned (.tuple #[]) ∧ PW L W' (plF (o, b)) false ∧ W'.heap[L + 3]? = W.heap[L + 3]? ∧ Below L W W' := by
  obtain ⟨i0, hii, hz0, hz1, hz2⟩ := info_parts infoI32
  obtain ⟨g, cap, hv, hrow, hg⟩ := h.row
  have hsz := h.size
  have hh := h.held
  have hc0 := hh.cell
  have hf0 := hh.frozen
  have H := Lib.hid h
  have HV := Lib.hid hv
  have HR := Lib.hid hrow
  have HH := Lib.hid hh
  have HGg := Lib.hid hg
  clear h hrow hg
  cases b
  · have HM := Lib.hid (H.out.mark false)
    go_enter Try.func27, Try.ntmps27
    go_wp2
    go_end0
    exact ⟨rfl, HM.out.1, HM.out.2.1, HM.out.2.2⟩
  · have hc := hv.cell
    clear hv
    obtain ⟨m, hm⟩ : ∃ m, o.length = m := ⟨_, rfl⟩
    have HMl := Lib.hid hm
    rw [hm] at hc HV HR ho
    clear hm
    go_enter Try.func27, Try.ntmps27
    go_wp2_with (first
      | (at_builtin; refine wpList_append_own_at _ rfl _ _ 31 rfl L 21 i0 (.int .i32 0) 1 4 Try.underlying31 hii hz0 hz1 hz2 rfl (by decide) _ _ _ rfl (HR.out.alloc _) ⟨W.heap.size, 0, none⟩ 1 1 [.int .i32 42] rfl rfl (cell_one_new _ _ _) (by simp [Value.oneCell']) (by unfold maxLen; omega) (by omega) (by simp; omega) ?_; intro v' w1 hown' hgrow _ hat; obtain ⟨g', cap', rfl⟩ := own_succ hown'; obtain ⟨hv1, _, _, _, _⟩ := HV.out.appended (by decide) HR.out (by omega) (by omega) hown' hgrow; have hc1' := hv1.cell; have hf1' := hv1.frozen; have HA : Hid (PW L (w1.setCell ⟨L + 1, 0, none⟩ (.slice (some ⟨g', 0, none⟩) (m + 1) cap')) (o ++ [42]) true ∧ (w1.setCell ⟨L + 1, 0, none⟩ (.slice (some ⟨g', 0, none⟩) (m + 1) cap')).heap[L + 3]? = W.heap[L + 3]? ∧ Below L W (w1.setCell ⟨L + 1, 0, none⟩ (.slice (some ⟨g', 0, none⟩) (m + 1) cap'))) := Lib.hid (by
            have hm := HMl.out
            subst hm
            exact pw_app (c := 42) hsz HV.out HR.out HGg.out HH.out hown' hgrow hat); have hcH := HA.out.1.held.cell; have hfH := HA.out.1.held.frozen; clear hown' hgrow hat hv1))
    have HM := Lib.hid (HA.out.1.mark false)
    go_end0
    exact ⟨rfl, HM.out.1, HM.out.2.1.trans HA.out.2.1, HA.out.2.2.trans HM.out.2.2⟩

theorem plT_in : ∀ (n : Nat) (x : Txt), x.length = n → ∀ c ∈ (plT x).1, c ∈ x ∨ c.toNat = 42 ∨ c.toNat = 63
  | 0, x, h, c, hc => by rw [List.length_eq_zero_iff.1 h] at hc; simp [plT] at hc
  | n + 1, x, h, c, hc => by
    obtain ⟨r, q, rfl⟩ : ∃ r q, x = r ++ [q] := by
      rcases List.eq_nil_or_concat x with h2 | ⟨r, q, h2⟩
      · rw [h2] at h; simp at h
      · exact ⟨r, q, by simpa using h2⟩
    have ih := plT_in n r (by simpa using h)
    rw [plT_snoc] at hc
    have lift : ∀ c ∈ (plT r).1, c ∈ r ++ [q] ∨ c.toNat = 42 ∨ c.toNat = 63 := fun c hc => (ih c hc).elim (fun h => .inl (List.mem_append.2 (.inl h))) .inr
    by_cases h42 : q.toNat = 42
    · rw [plS_star h42] at hc; exact lift c hc
    · by_cases h63 : q.toNat = 63
      · rw [plS_one h63] at hc
        rcases List.mem_append.1 hc with h | h
        · exact lift c h
        · rw [List.mem_singleton.1 h]; exact .inr (.inr rfl)
      · rw [plS_let h42 h63] at hc
        rcases List.mem_append.1 hc with h | h
        · unfold plF at h
          split at h
          · rcases List.mem_append.1 h with h | h
            · exact lift c h
            · rw [List.mem_singleton.1 h]; exact .inr (.inl rfl)
          · exact lift c h
        · rw [List.mem_singleton.1 h]; exact .inl (List.mem_append.2 (.inr (by simp)))

theorem encode_one (c : UInt8) (h : c.toNat < 128) : Utf8.encode (c.toNat : Int) = ⟨#[c]⟩ := by
  have hv : Utf8.valid (c.toNat : Int) = true := by unfold Utf8.valid; simp; omega
  unfold Utf8.encode
  simp [hv, h]

theorem runes_bytes : ∀ (o : Txt) (r : ByteArray), (∀ c ∈ o, c.toNat < 128) → ((o.map fun c => (c.toNat : Int)).foldl (fun r n => r ++ Utf8.encode n) r).data.toList = r.data.toList ++ o
  | [], r, _ => by simp
  | c :: o, r, h => by
    rw [List.map_cons, List.foldl_cons, encode_one c (h c List.mem_cons_self), runes_bytes o _ (fun d hd => h d (List.mem_cons_of_mem _ hd)), txt_app]
    simp

theorem runesBytes_is {o : Txt} {z : ByteArray} (h : ∀ c ∈ o, c.toNat < 128) (hz : z.data.toList = o) : runesBytes (o.map fun c => (c.toNat : Int)) = z := by
  have h1 := runes_bytes o ByteArray.empty h
  have h2 : (runesBytes (o.map fun c => (c.toNat : Int))).data.toList = z.data.toList := by
    unfold runesBytes
    rw [h1, hz]
    rfl
  obtain ⟨q, hq⟩ : ∃ q, runesBytes (o.map fun c => (c.toNat : Int)) = q := ⟨_, rfl⟩
  rw [hq] at h2 ⊢
  cases q
  cases z
  simp at h2
  rw [h2]

theorem pw_start (w : World) (s : ByteArray) : PW w.heap.size ((((w.alloc (.cells #[] 21)).alloc (.cells #[.slice (some ⟨w.heap.size, 0, none⟩) 0 0] 31)).alloc (.cells #[.bool false] 4)).iter s 0) [] false ∧ ((((w.alloc (.cells #[] 21)).alloc (.cells #[.slice (some ⟨w.heap.size, 0, none⟩) 0 0] 31)).alloc (.cells #[.bool false] 4)).iter s 0).heap[w.heap.size + 3]? = some (.stringIter s 0) ∧ Below w.heap.size w ((((w.alloc (.cells #[] 21)).alloc (.cells #[.slice (some ⟨w.heap.size, 0, none⟩) 0 0] 31)).alloc (.cells #[.bool false] 4)).iter s 0) := by
  have b0 := Boxed.new (w.alloc (.cells #[] 21)) 31 (.slice (some ⟨w.heap.size, 0, none⟩) 0 0)
  have b1 := Boxed.new ((w.alloc (.cells #[] 21)).alloc (.cells #[.slice (some ⟨w.heap.size, 0, none⟩) 0 0] 31)) 4 (.bool false)
  have o0 := World.ownsRow_lit (base := w.heap.size) (e := 21) (size := 1) w #[] 0 (Nat.le_refl _) (by unfold maxLen; omega) rfl
  simp only [World.size_alloc] at b0 b1
  refine ⟨⟨⟨w.heap.size, 0, (b0.alloc _).alloc _, ((o0.alloc _).alloc _).alloc _, .inl rfl⟩, b1.alloc _, by show _ ≤ ((((w.alloc _).alloc _).alloc _).alloc _).heap.size; simp⟩, ?_, ?_⟩
  · have := World.iter_heap (((w.alloc (.cells #[] 21)).alloc (.cells #[.slice (some ⟨w.heap.size, 0, none⟩) 0 0] 31)).alloc (.cells #[.bool false] 4)) s 0
    simpa using this
  · exact (((((Below.refl _ w).alloc (Nat.le_refl _) _).alloc (by simp) _).alloc (by simp; omega) _).alloc (by simp; omega) _)

end Go.Proofs.Ytpneflbnipefaaa
