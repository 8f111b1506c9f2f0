/-
  All beginnings of some words: what the reference gathers, and when a trie is closed.
-/
import Derived.Test.YtoofpgehkihbcadMade
import Derived.Test.YtoofpgehkihbcadWordsN
namespace Go.Proofs.Ytoofpgehkihbcad
open Go.RowKit
set_option linter.unusedVariables false

/-- all beginnings, ascending -/
def Clo (xs acc : List Txt) : Prop := Asc acc ∧ ∀ z, z ∈ acc ↔ ∃ y, y ∈ xs ∧ z <+: y

def clo (ws : List Txt) : List Txt := if ws = [] then [] else pres ws

theorem Clo.uniq {xs a b : List Txt} (h : Clo xs a) (g : Clo xs b) : a = b := asc_ext h.1 g.1 fun z => by rw [h.2, g.2]
theorem clo_clo (ws : List Txt) : Clo ws (clo ws) := by
  unfold clo
  split
  · rename_i h
    subst h
    exact ⟨List.Pairwise.nil, fun z => by simp⟩
  · rename_i h
    have hp := pres_pre ws
    refine ⟨hp.asc, fun z => ?_⟩
    rw [hp.mem]
    constructor
    · rintro (rfl | h2)
      · cases ws with
        | nil => exact absurd rfl h
        | cons w ws => exact ⟨w, List.mem_cons_self .., List.nil_prefix⟩
      · exact h2
    · exact fun h2 => .inr h2
theorem clo_of {xs acc : List Txt} (h : Clo xs acc) : acc = clo xs := h.uniq (clo_clo xs)
theorem clo_nil : clo [] = [] := rfl
theorem clo_pre {ws ps : List Txt} (h : Pre ws ps) (hne : ws ≠ []) : clo ws = ps := by
  unfold clo
  rw [if_neg hne]
  exact (h.uniq (pres_pre ws)).symm
theorem clo_isW {ws : List Txt} (hw : ∀ w ∈ ws, IsW w) : ∀ x ∈ clo ws, IsW x := fun x hx => by
  obtain ⟨y, hy, hp⟩ := ((clo_clo ws).2 x).1 hx
  exact ⟨Nat.le_trans hp.length_le (hw y hy).1, fun c hc => (hw y hy).2 c (hp.subset hc)⟩

/-- on the way: the first k words, and the beginnings of x with less than m letters -/
def CloTo (xs : List Txt) (k m : Nat) (x : Txt) (acc : List Txt) : Prop := Asc acc ∧ ∀ z, z ∈ acc ↔ (∃ y, y ∈ xs.take k ∧ z <+: y) ∨ (z <+: x ∧ z.length < m)

theorem CloTo.start (xs : List Txt) (x : Txt) : CloTo xs 0 0 x [] := ⟨List.Pairwise.nil, fun z => by simp⟩
theorem CloTo.enter {xs : List Txt} {k : Nat} {x y : Txt} {acc : List Txt} (h : CloTo xs k 0 y acc) : CloTo xs k 0 x acc := ⟨h.1, fun z => by rw [h.2]; simp⟩
theorem CloTo.more {xs : List Txt} {k m : Nat} {x : Txt} {acc : List Txt} (hm : m ≤ x.length) (h : CloTo xs k m x acc) : CloTo xs k (m + 1) x (put acc (x.take m)) := ⟨asc_put _ h.1, fun z => by
  rw [mem_put, h.2]
  constructor
  · rintro ((h1 | ⟨h1, h2⟩) | rfl)
    · exact .inl h1
    · exact .inr ⟨h1, by omega⟩
    · exact .inr ⟨List.take_prefix _ _, by rw [List.length_take]; omega⟩
  · rintro (h1 | ⟨h1, h2⟩)
    · exact .inl (.inl h1)
    · by_cases e : z.length = m
      · right
        rw [← e]
        exact List.prefix_iff_eq_take.1 h1
      · exact .inl (.inr ⟨h1, by omega⟩)⟩
theorem CloTo.leave {xs : List Txt} {k : Nat} {x y : Txt} {acc : List Txt} (hx : xs[k]? = some x) (h : CloTo xs k (x.length + 1) x acc) : CloTo xs (k + 1) 0 y acc := ⟨h.1, fun z => by
  rw [h.2, List.take_add_one, hx]
  constructor
  · rintro (⟨u, hu, hp⟩ | ⟨h1, _⟩)
    · exact .inl ⟨u, by simp [hu], hp⟩
    · exact .inl ⟨x, by simp, h1⟩
  · rintro (⟨u, hu, hp⟩ | ⟨_, h2⟩)
    · rcases List.mem_append.1 hu with hu | hu
      · exact .inl ⟨u, hu, hp⟩
      · simp at hu
        subst hu
        exact .inr ⟨hp, by have := hp.length_le; omega⟩
    · omega⟩
theorem CloTo.done {xs : List Txt} {k : Nat} {x : Txt} {acc : List Txt} (h : CloTo xs k 0 x acc) (hk : xs.length ≤ k) : Clo xs acc := ⟨h.1, fun z => by
  rw [h.2, List.take_of_length_le hk]
  simp⟩

set_option maxRecDepth 1000000 in
set_option maxHeartbeats 1000000 in
theorem l5Closed_any (B : Nat) (a : Option Addr) (n c : Nat) (xs : List Txt) (w : World) (hB : B ≤ w.heap.size) (h : Wds B w a n c xs) (hn : n ≤ 40) (hw : ∀ x ∈ xs, IsW x) :
    Calls Try.prog 25 #[.slice a n c] w fun e w' => ∃ a' c', e = .returned (.slice a' (clo xs).length c') ∧ Wds w'.heap.size w' a' (clo xs).length c' (clo xs) ∧ Below w.heap.size w w' := by
  have L := Lib.hid h.len
  have C := h.sl.cap
  have T := h.sl.top
  have H := Lib.hid h
  have HB := Lib.hid hB
  have HW := Lib.hid hw
  have HA0 : Hid (Wds (w.alloc (.cells #[] 9)).heap.size (w.alloc (.cells #[] 9)) (some ⟨w.heap.size, 0, none⟩) 0 0 []) := Lib.hid (wds_nil _ _ 9 _)
  have HB0 : Hid (Below w.heap.size w (w.alloc (.cells #[] 9))) := Lib.hid ((Below.refl _ _).alloc (Nat.le_refl _) _)
  clear h hB hw
  go_enter Try.func25, Try.ntmps25
  go_wp2
  go_loopw [3, 4] (fun p i wr => ∃ (k : Nat) (a' : Option Addr) (n' c' : Nat) (acc : List Txt), k ≤ n ∧ i = .int .i64 k ∧ p = .slice a' n' c' ∧ n' ≤ 13 * k ∧ n' ≤ c' ∧ Hid (Wds wr.heap.size wr a' n' c' acc) ∧ Hid (CloTo xs k 0 [] acc) ∧ Hid (Below w.heap.size w wr)) (fun _ i _ => n - (intOf i).toNat)
  case atStart => exact ⟨0, _, 0, 0, [], Nat.zero_le _, rfl, rfl, by omega, by omega, HA0, Lib.hid (CloTo.start _ _), HB0⟩
  case round =>
    clear HA0 HB0
    obtain ⟨k, a', n', c', acc, hk, rfl, rfl, hn', hc', HA, HP, HBw⟩ := hrel
    rename World => wo
    by_cases hlt : k < n
    · obtain ⟨b, o, t, rfl, hbB, ht, htz, hcw⟩ := H.out.elem k hlt
      have HT := Lib.hid ht
      have HC := Lib.hid hcw
      have hbw : b < w.heap.size := by have := HB.out; omega
      have hc : wo.cell? ⟨b, o + k, none⟩ = some (.string t) := (HBw.out.cell (p := ⟨b, o + k, none⟩) hbw).trans hcw
      have ht12 : t.size ≤ 12 := by have := (HW.out _ (at_mem ht)).1; rwa [tx_len] at this
      clear ht hcw
      go_wp2
      go_loopw [3, 5] (fun p i wr2 => ∃ (m : Nat) (a' : Option Addr) (n' c' : Nat) (acc : List Txt), m ≤ t.size + 1 ∧ i = .int .i64 m ∧ p = .slice a' n' c' ∧ n' ≤ 13 * k + m ∧ n' ≤ c' ∧ Hid (Wds wr2.heap.size wr2 a' n' c' acc) ∧ Hid (CloTo xs k m (tx t) acc) ∧ Hid (Below w.heap.size w wr2)) (fun _ i _ => t.size + 1 - (intOf i).toNat)
      case atStart => exact ⟨0, a', n', c', acc, by omega, rfl, rfl, by omega, hc', HA, Lib.hid HP.out.enter, HBw⟩
      case round =>
        obtain ⟨m, a2, n2, c2, acc2, hm2, rfl, rfl, hn2, hc2, HA2, HP2, HBw2⟩ := hrel
        have hc : wr.cell? ⟨b, o + k, none⟩ = some (.string t) := (HBw2.out.cell (p := ⟨b, o + k, none⟩) hbw).trans HC.out
        by_cases hle : m ≤ t.size
        · have cP := Lib.hid (l2Put_any wr.heap.size a2 n2 c2 acc2 (t.extract 0 m) wr (Nat.le_refl _) HA2.out (by rw [ByteArray.size_extract]; omega) (by omega))
          have HLen := Lib.hid (put_len acc2 (tx (t.extract 0 m)))
          have HL0 := Lib.hid HA2.out.len
          have HP3 : Hid (CloTo xs k (m + 1) (tx t) (put acc2 (tx (t.extract 0 m)))) := Lib.hid (by rw [tx_extract]; exact HP2.out.more (by rw [tx_len]; exact hle))
          go_wp2_with (first | (go_at_call 51; refine cP.out.mono ?_; rintro e w' ⟨a3, n3, c3, rfl, hW3, hB3⟩))
          have hl3 := hW3.len
          have hc3 := hW3.sl.cap
          have hlen := HLen.out
          have hl0 := HL0.out
          go_roundw
          case rel => exact ⟨m + 1, a3, n3, c3, _, by omega, by go_num, rfl, by omega, hc3, Lib.hid hW3, HP3, Lib.hid (HBw2.out.trans (hB3.mono HBw2.out.size))⟩
          case measure => simp [intOf]; omega
        · have e : m = t.size + 1 := by omega
          have HP3 : Hid (CloTo xs (k + 1) 0 [] acc2) := Lib.hid (by
            have := HP2.out
            rw [e, ← tx_len t] at this
            exact this.leave HT.out)
          clear e
          go_wp2
          go_roundw
          case rel => exact ⟨k + 1, a2, n2, c2, acc2, by omega, by go_num, rfl, by omega, hc2, HA2, HP3, HBw2⟩
          case measure => simp [intOf]; omega
    · have e : k = n := by omega
      subst e
      have HPre : Hid (acc = clo xs) := Lib.hid (clo_of (HP.out.done (by have := L.out; omega)))
      have hla := HA.out.len
      go_wp2
      go_ret
      have h1 := HA.out
      rw [HPre.out] at h1 hla
      subst hla
      exact ⟨_, _, rfl, h1, HBw.out⟩

/-- the trie is closed -/
noncomputable def isClo (t : List Nd) : Bool := decide ((clo (wordsOf t)).length = (wordsOf t).length)

theorem wordsOf_len {t : List Nd} {ps : List Txt} (h : Valid t ps) : (wordsOf t).length = ends t := by rw [wordsOf_eq h, h.wordsLen]

theorem clo_len {t : List Nd} {ps : List Txt} (h : Valid t ps) (h0 : 0 < ends t) : (clo (wordsOf t)).length = t.length := by
  rw [wordsOf_eq h, clo_pre h.pre, h.lenEq]
  intro e
  have := h.wordsLen
  rw [e] at this
  simp at this
  omega

theorem isClo_iff {t : List Nd} {ps : List Txt} (h : Valid t ps) : isClo t = decide (ends t = 0 ∨ ends t = t.length) := by
  unfold isClo
  rw [decide_eq_decide, wordsOf_len h]
  by_cases h0 : 0 < ends t
  · rw [clo_len h h0]
    omega
  · have e : ends t = 0 := by omega
    have : wordsOf t = [] := List.eq_nil_of_length_eq_zero (by rw [wordsOf_len h, e])
    rw [this, clo_nil, e]
    simp

end Go.Proofs.Ytoofpgehkihbcad
