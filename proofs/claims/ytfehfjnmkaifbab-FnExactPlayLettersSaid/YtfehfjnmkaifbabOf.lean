/-
  The reference's trie of words: all beginnings are put in order, then a node is made for each.
-/
import Derived.RangeFuncBox
import Derived.RangeFuncNested
import Derived.Test.YtfehfjnmkaifbabWords
namespace Go.Proofs.Ytfehfjnmkaifbab
open Go.RowKit
set_option linter.unusedVariables false

/-- the beginnings of the first k words and those of the next one that are shorter than m -/
def PreTo (xs : List Txt) (k m : Nat) (x : Txt) (acc : List Txt) : Prop :=
  Asc acc ∧ ∀ y, y ∈ acc ↔ y = [] ∨ (∃ v ∈ xs.take k, y <+: v) ∨ ∃ q, q < m ∧ y = x.take q

theorem PreTo.start (xs : List Txt) (x : Txt) : PreTo xs 0 0 x [[]] := ⟨by simp, fun y => by simp⟩

theorem PreTo.enter {xs : List Txt} {k : Nat} {x y : Txt} {acc : List Txt} (h : PreTo xs k 0 y acc) : PreTo xs k 1 x acc := ⟨h.1, fun z => by
  rw [h.2]
  constructor
  · rintro (h | h | ⟨q, hq, _⟩)
    · exact .inl h
    · exact .inr (.inl h)
    · omega
  · rintro (h | h | ⟨q, hq, e⟩)
    · exact .inl h
    · exact .inr (.inl h)
    · have : q = 0 := by omega
      subst this
      exact .inl (by simpa using e)⟩

theorem PreTo.more {xs : List Txt} {k m : Nat} {x : Txt} {acc : List Txt} (h : PreTo xs k m x acc) : PreTo xs k (m + 1) x (put acc (x.take m)) := ⟨asc_put _ h.1, fun z => by
  rw [mem_put, h.2]
  constructor
  · rintro ((h | h | ⟨q, hq, e⟩) | h)
    · exact .inl h
    · exact .inr (.inl h)
    · exact .inr (.inr ⟨q, by omega, e⟩)
    · exact .inr (.inr ⟨m, by omega, h⟩)
  · rintro (h | h | ⟨q, hq, e⟩)
    · exact .inl (.inl h)
    · exact .inl (.inr (.inl h))
    · by_cases hqm : q = m
      · subst hqm; exact .inr e
      · exact .inl (.inr (.inr ⟨q, by omega, e⟩))⟩

theorem PreTo.leave {xs : List Txt} {k : Nat} {x y : Txt} {acc : List Txt} (hx : xs[k]? = some x) (h : PreTo xs k (x.length + 1) x acc) : PreTo xs (k + 1) 0 y acc := ⟨h.1, fun z => by
  obtain ⟨hk, e⟩ := List.getElem?_eq_some_iff.1 hx
  rw [h.2, List.take_succ_eq_append_getElem hk, e]
  constructor
  · rintro (h | ⟨v, hv, h⟩ | ⟨q, hq, e⟩)
    · exact .inl h
    · exact .inr (.inl ⟨v, List.mem_append_left _ hv, h⟩)
    · exact .inr (.inl ⟨x, by simp, by rw [e]; exact List.take_prefix _ _⟩)
  · rintro (h | ⟨v, hv, h⟩ | ⟨q, hq, e⟩)
    · exact .inl h
    · rcases List.mem_append.1 hv with hv | hv
      · exact .inr (.inl ⟨v, hv, h⟩)
      · rw [List.mem_singleton] at hv
        rw [hv] at h
        exact .inr (.inr ⟨z.length, by have := List.IsPrefix.length_le h; omega, (List.prefix_iff_eq_take.1 h)⟩)
    · omega⟩

theorem PreTo.done {xs : List Txt} {k : Nat} {x : Txt} {acc : List Txt} (h : PreTo xs k 0 x acc) (hk : xs.length ≤ k) : Pre xs acc := ⟨h.1, fun z => by
  rw [h.2, List.take_of_length_le hk]
  constructor
  · rintro (h | h | ⟨q, hq, _⟩)
    · exact .inl h
    · exact .inr h
    · omega
  · rintro (h | h)
    · exact .inl h
    · exact .inr (.inl h)⟩

/-- the cells of nodes -/
def ndc : List Nd → List Value
  | [] => []
  | d :: t => .int .i64 d.l :: .int .i64 d.p :: .bool d.e :: ndc t

theorem ndc_app : ∀ s t : List Nd, ndc (s ++ t) = ndc s ++ ndc t
  | [], t => rfl
  | d :: s, t => by simp [ndc, ndc_app s t]
theorem ndc_len : ∀ t : List Nd, (ndc t).length = t.length * 3
  | [] => rfl
  | d :: t => by simp [ndc, ndc_len t]; omega
theorem ndc_at : ∀ {t : List Nd} {i : Nat} {d : Nd}, t[i]? = some d → (ndc t)[i * 3]? = some (.int .i64 d.l) ∧ (ndc t)[i * 3 + 1]? = some (.int .i64 d.p) ∧ (ndc t)[i * 3 + 2]? = some (.bool d.e)
  | [], i, d, h => by simp at h
  | d :: t, 0, d', h => by
    obtain rfl : d = d' := by simpa using h
    exact ⟨rfl, rfl, rfl⟩
  | d :: t, i + 1, d', h => by
    have := ndc_at (t := t) (i := i) (d := d') (by simpa using h)
    have e : (i + 1) * 3 = i * 3 + 3 := by omega
    rw [e]
    simpa [ndc] using this
theorem ndc_one : ∀ (t : List Nd), ∀ u ∈ ndc t, u.oneCell' = true
  | [], u, h => by simp [ndc] at h
  | d :: t, u, h => by
    simp only [ndc, List.mem_cons] at h
    rcases h with rfl | rfl | rfl | h
    · rfl
    · rfl
    · rfl
    · exact ndc_one t u h

/-- what a node may hold -/
def Fits (t : List Nd) : Prop := ∀ d ∈ t, (-9223372036854775808 ≤ d.l ∧ d.l ≤ 9223372036854775807) ∧ -9223372036854775808 ≤ d.p ∧ d.p ≤ 9223372036854775807

theorem own_nds {base : Nat} {w : World} {n : Nat} {v : Value} {t : List Nd} (h : w.ownsRow base 66 3 v n (ndc t)) (hx : Fits t) : ∃ a c, v = .slice a n c ∧ Nds w.heap.size w a n c t := by
  have hl : t.length = n := by have := h.1; rw [ndc_len] at this; omega
  obtain ⟨a, c, rfl⟩ := own_slice h
  refine ⟨a, c, rfl, ?_⟩
  rcases h.2 with ⟨h', h0⟩ | ⟨g, cap, cur, h', hb, hg, h1, h2, h3, h4⟩
  · simp only [Value.slice.injEq] at h'
    obtain ⟨rfl, rfl, rfl⟩ := h'
    exact ⟨hl, Nat.le_refl _, by omega, fun i u hu => by
      have := (List.getElem?_eq_some_iff.1 hu).1
      omega, hx⟩
  · have h'' := h'
    simp only [Value.slice.injEq] at h''
    obtain ⟨rfl, _, rfl⟩ := h''
    refine ⟨hl, h1, by unfold maxLen at h2; omega, fun i d hd => ⟨g, 0, rfl, (Array.getElem?_eq_some_iff.1 hg).1, ?_⟩, hx⟩
    have hi := (List.getElem?_eq_some_iff.1 hd).1
    obtain ⟨e1, e2, e3⟩ := ndc_at hd
    rw [Nat.zero_add]
    exact ⟨by rw [h.cellAt (i * 3) (by omega), e1], by rw [h.cellAt (i * 3 + 1) (by omega), e2], by rw [h.cellAt (i * 3 + 2) (by omega), e3]⟩

theorem box_stay {W W' : World} {B : Nat} {t : TypeId} {v : Value} (h : Boxed W B t v) (hb : Below W.heap.size W W') : Boxed W' B t v := (hb.block B h.lt).trans h

theorem box_under {W W' : World} {B n : Nat} {t : TypeId} {v : Value} (h : Boxed W B t v) (hb : Below n W W') (hn : B < n) : Boxed W' B t v := (hb.block B hn).trans h

theorem infoN : (Try.prog.info? 66).map (fun i => (i.zero, i.size, i.bytes)) = some (some (.agg #[.int .i64 0, .int .i64 0, .bool false]), 3, 24) := by kernel_rfl

theorem pre_fits {xs ps : List Txt} (hw : ∀ w ∈ xs, IsW w) (h : Pre xs ps) (hs : ps.length ≤ 481) : Fits (mkT xs ps) := by
  intro d hd
  unfold mkT at hd
  obtain ⟨x, hx, rfl⟩ := List.mem_map.1 hd
  unfold mkN
  split
  · exact ⟨⟨by show (-9223372036854775808 : Int) ≤ -1; omega, by show (-1 : Int) ≤ _; omega⟩, by show (-9223372036854775808 : Int) ≤ -1; omega, by show (-1 : Int) ≤ _; omega⟩
  · have h1 := (x.getLastD 0).toNat_lt
    have h2 : ps.idxOf x.dropLast ≤ ps.length := List.idxOf_le_length
    exact ⟨⟨by show (-9223372036854775808 : Int) ≤ (_ : Int) - 97; omega, by show (_ : Int) - 97 ≤ _; omega⟩, by show (-9223372036854775808 : Int) ≤ ((_ : Nat) : Int); omega, by show ((_ : Nat) : Int) ≤ _; omega⟩

theorem take_mk {t : List Nd} {j : Nat} {d : Nd} (h : t[j]? = some d) : t.take (j + 1) = t.take j ++ [d] := by
  obtain ⟨hj, e⟩ := List.getElem?_eq_some_iff.1 h
  rw [List.take_succ_eq_append_getElem hj, e]

theorem news_at {W : World} {B : Nat} {cs : Array Value} {t : TypeId} (hB : W.heap.size = B) : ∀ (j : Nat) (u : Value), cs.toList[j]? = some u → (W.alloc (.cells cs t)).cell? ((⟨B, 0, none⟩ : Addr).add j) = some u := by
  subst hB
  exact World.news_of_block (heap_alloc_new _ _)

def OfPost (w : World) (xs : List Txt) (e : Ending) (w' : World) : Prop :=
  ∃ a' n' c' ps, e = .returned (.agg #[.slice a' n' c']) ∧ Nds w'.heap.size w' a' n' c' (mkT xs ps) ∧ Pre xs ps ∧ ps.length ≤ 481 ∧ Below w.heap.size w w'

set_option maxHeartbeats 4000000 in
set_option maxRecDepth 100000 in
theorem l2Of_any (B : Nat) (a : Option Addr) (n c : Nat) (xs : List Txt) (w : World) (hB : B ≤ w.heap.size) (h : Wds B w a n c xs) (hn : n ≤ 40) (hw : ∀ x ∈ xs, IsW x) :
    Calls Try.prog 56 #[.slice a n c] w (OfPost w xs) := by
  have L := Lib.hid h.len
  have C := h.sl.cap
  have T := h.sl.top
  have H := Lib.hid h
  have HB := Lib.hid hB
  have HW := Lib.hid hw
  clear h hB hw
  obtain ⟨i0, hi, hz0, hz1, hz2⟩ := info_parts infoN
  go_enter Try.func56, Try.ntmps56
  go_wp2
  go_loopw [3, 4] (fun p i wr => ∃ (k : Nat) (a' : Option Addr) (n' c' : Nat) (acc : List Txt), k ≤ n ∧ i = .int .i64 k ∧ p = .slice a' n' c' ∧ n' ≤ 1 + 12 * k ∧ n' ≤ c' ∧ Hid (Wds wr.heap.size wr a' n' c' acc) ∧ Hid (PreTo xs k 0 [] acc) ∧ Hid (Below w.heap.size w wr) ∧ Hid (Boxed wr w.heap.size 30 (.slice none 0 0))) (fun _ i _ => n - (intOf i).toNat)
  case atStart => exact ⟨0, _, 1, 1, [[]], Nat.zero_le _, rfl, rfl, by omega, by omega, Lib.hid ⟨by have := sl_new (w.alloc (.cells #[.slice none 0 0] 30)) 9 (.string ⟨#[]⟩); simpa [bx] using this, by intro q hq; simp at hq; subst hq; show (0 : Nat) ≤ _; omega⟩, Lib.hid (PreTo.start _ _), Lib.hid (((Below.refl _ _).alloc (Nat.le_refl _) _).alloc (by simp) _), Lib.hid ((Boxed.new _ _ _).alloc _)⟩
  case round =>
    obtain ⟨k, a', n', c', acc, hk, rfl, rfl, hn', hc', HA, HP, HBw, HX⟩ := hrel
    rename World => wo
    by_cases hlt : k < n
    · obtain ⟨b, o, t, rfl, hbB, ht, htz, hcw⟩ := H.out.elem k hlt
      have HT := Lib.hid ht
      have HC := Lib.hid hcw
      have hbw : b < w.heap.size := by have := HB.out; omega
      have hc : wo.cell? ⟨b, o + k, none⟩ = some (.string t) := (HBw.out.cell (p := ⟨b, o + k, none⟩) hbw).trans hcw
      have ht12 : t.size ≤ 12 := by have := (HW.out _ (at_mem ht)).1; rwa [tx_len] at this
      clear ht hcw
      go_wp2
      go_loopw [3, 5] (fun p i wr2 => ∃ (m : Nat) (a' : Option Addr) (n' c' : Nat) (acc : List Txt), 1 ≤ m ∧ m ≤ t.size + 1 ∧ i = .int .i64 m ∧ p = .slice a' n' c' ∧ n' ≤ 12 * k + m ∧ n' ≤ c' ∧ Hid (Wds wr2.heap.size wr2 a' n' c' acc) ∧ Hid (PreTo xs k m (tx t) acc) ∧ Hid (Below w.heap.size w wr2) ∧ Hid (Boxed wr2 w.heap.size 30 (.slice none 0 0))) (fun _ i _ => t.size + 1 - (intOf i).toNat)
      case atStart => exact ⟨1, a', n', c', acc, Nat.le_refl _, by omega, rfl, rfl, by omega, hc', HA, Lib.hid HP.out.enter, HBw, HX⟩
      case round =>
        obtain ⟨m, a2, n2, c2, acc2, hm1, hm2, rfl, rfl, hn2, hc2, HA2, HP2, HBw2, HX2⟩ := hrel
        have hc : wr.cell? ⟨b, o + k, none⟩ = some (.string t) := (HBw2.out.cell (p := ⟨b, o + k, none⟩) hbw).trans HC.out
        by_cases hle : m ≤ t.size
        · have cP := Lib.hid (l2Put_any wr.heap.size a2 n2 c2 acc2 (t.extract 0 m) wr (Nat.le_refl _) HA2.out (by rw [ByteArray.size_extract]; omega) (by omega))
          have HLen := Lib.hid (put_len acc2 (tx (t.extract 0 m)))
          have HL0 := Lib.hid HA2.out.len
          have HP3 : Hid (PreTo xs k (m + 1) (tx t) (put acc2 (tx (t.extract 0 m)))) := Lib.hid (by rw [tx_extract]; exact HP2.out.more)
          go_wp2_with (first | (go_at_call 80; refine cP.out.mono ?_; rintro e w' ⟨a3, n3, c3, rfl, hW3, hB3⟩))
          have hl3 := hW3.len
          have hc3 := hW3.sl.cap
          have hlen := HLen.out
          have hl0 := HL0.out
          go_roundw
          case rel => exact ⟨m + 1, a3, n3, c3, _, by omega, by omega, by go_num, rfl, by omega, hc3, Lib.hid hW3, HP3, Lib.hid (HBw2.out.trans (hB3.mono HBw2.out.size)), Lib.hid (box_stay HX2.out hB3)⟩
          case measure => simp [intOf]; omega
        · have e : m = t.size + 1 := by omega
          have HP3 : Hid (PreTo xs (k + 1) 0 [] acc2) := Lib.hid (by
            have := HP2.out
            rw [e, ← tx_len t] at this
            exact this.leave HT.out)
          clear e
          go_wp2
          go_roundw
          case rel => exact ⟨k + 1, a2, n2, c2, acc2, by omega, by go_num, rfl, by omega, hc2, HA2, HP3, HBw2, HX2⟩
          case measure => simp [intOf]; omega
    · have e : k = n := by omega
      subst e
      have HPre : Hid (Pre xs acc) := Lib.hid (HP.out.done (by have := L.out; omega))
      have HLa := Lib.hid HA.out.len
      have hown0 := World.ownsRow_lit (base := wo.heap.size) (e := 66) (size := 3) wo #[] 0 (Nat.le_refl _) (by unfold maxLen; omega) rfl
      have HO0 := Lib.hid (hown0.alloc (.cells #[.slice (some ⟨wo.heap.size, 0, none⟩) 0 0] 30))
      clear hown0
      have hsz := HX.out.lt
      go_wp2
      go_loopw [7] (fun i wr2 => ∃ (j : Nat) (v : Value), j ≤ n' ∧ i = .int .i64 j ∧ Hid (wr2.ownsRow wo.heap.size 66 3 v j (ndc ((mkT xs acc).take j))) ∧ Hid (Boxed wr2 (wo.heap.size + 1) 30 v) ∧ Hid (Boxed wr2 w.heap.size 30 (.slice none 0 0)) ∧ Hid (Wds wo.heap.size wr2 a' n' c' acc) ∧ Hid (Below w.heap.size w wr2) ∧ wo.heap.size + 1 < wr2.heap.size) (fun i _ => n' - (intOf i).toNat)
      case atStart => exact ⟨0, _, Nat.zero_le _, rfl, Lib.hid (by simpa [ndc] using HO0.out), Lib.hid (by have := Boxed.new (wo.alloc (.cells #[] 66)) 30 (.slice (some ⟨wo.heap.size, 0, none⟩) 0 0); simpa using this), Lib.hid ((HX.out.alloc _).alloc _), Lib.hid (HA.out.keep (((Below.refl _ _).alloc (Nat.le_refl _) _).alloc (by simp) _)), Lib.hid ((HBw.out.alloc HBw.out.size _).alloc (by simp; omega) _), by simp⟩
      case round =>
        obtain ⟨j, v, hj, rfl, HO, HV, HX2, HA2, HBw2, hsz2⟩ := hrel
        have hvc := HV.out.cell
        have hvf := HV.out.frozen
        by_cases hlt2 : j < n'
        · obtain ⟨b, o, t, rfl, hbB, ht, htz, hc⟩ := HA2.out.elem j hlt2
          have HT := Lib.hid ht
          clear ht
          have cH := Lib.hid (l2Has_any B a k c xs t wr (Nat.le_trans HB.out HBw2.out.size) (H.out.keep (HBw2.out.mono HB.out)) htz)
          obtain ⟨r, hr⟩ : ∃ r, decide (tx t ∈ xs) = r := ⟨_, rfl⟩
          have HR := Lib.hid hr
          rw [hr] at cH
          clear hr
          have HPl : Hid (∀ (s' : ByteArray) (W : World), s'.size ≤ 9223372036854775807 → Below wr.heap.size wr W → Calls Try.prog 82 #[.slice (some ⟨b, o, none⟩) n' c', .string s'] W fun e w' => e = .returned (.int .i64 (plc acc (tx s'))) ∧ W = w') := Lib.hid (fun s' W hs' hW =>
            l2Place_any wo.heap.size _ n' c' acc s' W (by have := hW.size; omega) (HA2.out.keep (hW.mono (by omega))) hs')
          have HMk := Lib.hid (mkT_at (ws := xs) HT.out)
          by_cases hj0 : j = 0
          · have HM : Hid ((mkT xs acc)[j]? = some ⟨-1, -1, r⟩) := Lib.hid (by
              rw [HMk.out, ← HR.out]
              have : tx t = [] := by
                have h0 := HPre.out.zero
                have := HT.out
                rw [hj0, h0] at this
                exact (Option.some.inj this).symm
              unfold mkN
              rw [if_pos this])
            have HBn : Hid (Below wr.heap.size wr (wr.alloc (.cells #[.int .i64 (-1), .int .i64 (-1), .bool r] 66))) := Lib.hid ((Below.refl _ _).alloc (Nat.le_refl _) _)
            have hjz : j ≤ 0 := by omega
            have hji : ¬ ((0 : Int) < (j : Int)) := by omega
            clear hj0
            go_wp2_with (first
              | (go_at_call 81; refine cH.out.mono ?_; rintro e w' ⟨rfl, rfl⟩)
              | (at_builtin; refine wpList_append_own_at _ rfl _ _ 28 rfl wo.heap.size 66 i0 (.agg #[.int .i64 0, .int .i64 0, .bool false]) 3 24 Try.underlying28 hi hz0 hz1 hz2 rfl (by decide) _ _ _ rfl ((own_stay HO.out HBn.out).alloc _) ⟨wr.heap.size + 1, 0, none⟩ 1 1 [.int .i64 (-1), .int .i64 (-1), .bool r] rfl rfl (news_at (cs := #[.int .i64 (-1), .int .i64 (-1), .bool r]) (by simp)) (by simp [Value.oneCell']) (by unfold maxLen; omega) (by omega) (by simp; omega) ?_; intro v' w1 hown' hgrow _ hat; obtain ⟨a9, c9, rfl⟩ := own_slice hown'; obtain ⟨hv1, hv2, hr2, hk2, hb2⟩ := (box_stay HV.out HBn.out).appended (by decide) (own_stay HO.out HBn.out) (by simp; omega) (Nat.le_succ _) hown' hgrow; have hc1 := hv1.cell; have hf1 := hv1.frozen))
            go_roundw
            case rel => exact ⟨j + 1, _, by omega, by go_num, Lib.hid (by rw [take_mk HM.out, ndc_app]; exact hr2), Lib.hid hv2, Lib.hid (box_under HX2.out ((HBn.out.mono (by omega)).trans hb2) hsz), Lib.hid (HA2.out.keep ((HBn.out.mono (by omega)).trans hb2)), Lib.hid (HBw2.out.trans ((HBn.out.mono HBw2.out.size).trans (hb2.mono (by omega)))), hv2.lt⟩
            case measure => simp [intOf]; omega
          · obtain ⟨m, hts⟩ : ∃ m, t.size = m + 1 := ⟨t.size - 1, by
              have : t.size ≠ 0 := fun e => hj0 (asc_inj HPre.out.asc HT.out (by rw [HPre.out.zero, List.eq_nil_of_length_eq_zero (l := tx t) (by rw [tx_len, e])]))
              omega⟩
            have hlow : Low (tx t) := by
              rcases (HPre.out.mem _).1 (at_mem HT.out) with e | ⟨v, hv, hp⟩
              · rw [e]; intro c hc; cases hc
              · exact fun c hc => (HW.out v hv).2 c (hp.subset hc)
            have hlt' : m < t.size := by omega
            have hlo := (hlow t[m] (List.getElem_mem (l := tx t) (n := m) (by rw [tx_len]; exact hlt'))).1
            have hhi := (hlow t[m] (List.getElem_mem (l := tx t) (n := m) (by rw [tx_len]; exact hlt'))).2
            have HM : Hid ((mkT xs acc)[j]? = some ⟨(t[m].toNat : Int) - 97, plc acc (tx (t.extract 0 m)), r⟩) := Lib.hid (by
              rw [HMk.out, ← HR.out]
              have e1 : tx t = tx (t.extract 0 m) ++ [t[m]] := by
                rw [tx_extract]
                have := List.take_succ_eq_append_getElem (l := tx t) (i := m) (by rw [tx_len]; exact hlt')
                rw [List.take_of_length_le (by rw [tx_len]; omega)] at this
                exact this
              have hmem : tx (t.extract 0 m) ∈ acc := (HPre.out.mem _).2 (by
                rcases (HPre.out.mem _).1 (at_mem HT.out) with e | ⟨v, hv, hp⟩
                · rw [e] at e1; simp at e1
                · exact .inr ⟨v, hv, (by rw [e1] at hp; exact (List.prefix_append _ _).trans hp)⟩)
              unfold mkN plc
              rw [if_neg (by rw [e1]; simp), if_pos hmem]
              congr 1
              exact Nd.eq (by rw [e1]; simp) (by rw [e1]; simp) rfl)
            clear hlow
            have hm0 : (0 : Int) ≤ (m : Int) := by omega
            have hmu : m ≤ 9223372036854775807 := by omega
            have hji : ((0 : Int) < (j : Int)) := by omega
            have HBn : Hid (Below wr.heap.size wr (wr.alloc (.cells #[.int .i64 ((t[m].toNat : Int) - 97), .int .i64 (plc acc (tx (t.extract 0 m))), .bool r] 66))) := Lib.hid ((Below.refl _ _).alloc (Nat.le_refl _) _)
            go_wp2_with (first
              | (go_at_call 81; refine cH.out.mono ?_; rintro e w' ⟨rfl, rfl⟩)
              | (go_at_call 82; refine (HPl.out _ _ (by rw [ByteArray.size_extract]; omega) (by first | exact ((Below.refl _ _).alloc (Nat.le_refl _) _).setCell (by simp) _ | exact (Below.refl _ _).alloc (Nat.le_refl _) _)).mono ?_; rintro e w' ⟨rfl, rfl⟩)
              | (at_builtin; refine wpList_append_own_at _ rfl _ _ 28 rfl wo.heap.size 66 i0 (.agg #[.int .i64 0, .int .i64 0, .bool false]) 3 24 Try.underlying28 hi hz0 hz1 hz2 rfl (by decide) _ _ _ rfl ((own_stay HO.out HBn.out).alloc _) ⟨wr.heap.size + 1, 0, none⟩ 1 1 [.int .i64 ((t[m].toNat : Int) - 97), .int .i64 (plc acc (tx (t.extract 0 m))), .bool r] rfl rfl (news_at (cs := #[.int .i64 ((t[m].toNat : Int) - 97), .int .i64 (plc acc (tx (t.extract 0 m))), .bool r]) (by simp)) (by simp [Value.oneCell']) (by unfold maxLen; omega) (by omega) (by simp; omega) ?_; intro v' w1 hown' hgrow _ hat; obtain ⟨a9, c9, rfl⟩ := own_slice hown'; obtain ⟨hv1, hv2, hr2, hk2, hb2⟩ := (box_stay HV.out HBn.out).appended (by decide) (own_stay HO.out HBn.out) (by simp; omega) (Nat.le_succ _) hown' hgrow; have hc1 := hv1.cell; have hf1 := hv1.frozen))
            go_roundw
            case rel => exact ⟨j + 1, _, by omega, by go_num, Lib.hid (by rw [take_mk HM.out, ndc_app]; exact hr2), Lib.hid hv2, Lib.hid (box_under HX2.out ((HBn.out.mono (by omega)).trans hb2) hsz), Lib.hid (HA2.out.keep ((HBn.out.mono (by omega)).trans hb2)), Lib.hid (HBw2.out.trans ((HBn.out.mono HBw2.out.size).trans (hb2.mono (by omega)))), hv2.lt⟩
            case measure => simp [intOf]; omega
        · have hrc := HX2.out.cell
          have hrf := HX2.out.frozen
          have e : j = n' := by omega
          subst e
          obtain ⟨av, cv, rfl⟩ := own_slice HO.out
          have HF := Lib.hid (own_nds (HO.out.kept (grownBy_setCell' wr w.heap.size (.slice av j cv)) (.inr (HX2.out.not_row (by decide) HO.out).symm)) (fun d hd => pre_fits HW.out HPre.out (by have := HLa.out; omega) d (List.mem_of_mem_take hd)))
          have HE : Hid ((mkT xs acc).take j = mkT xs acc) := Lib.hid (List.take_of_length_le (by rw [mkT_len]; have := HLa.out; omega))
          have HBf := Lib.hid (HBw2.out.setCell (p := ⟨w.heap.size, 0, none⟩) (Nat.le_refl _) (.slice av j cv))
          go_wp2
          refine bodyPost_ret (v := .agg #[.slice av j cv]) (by simp [results, Try.results56, go_sem, hrc]) rfl ?_
          obtain ⟨a9, c9, h9, hN⟩ := HF.out
          rw [HE.out] at hN
          injection h9 with h9 _ h9'
          subst h9 h9'
          exact ⟨_, _, _, acc, rfl, hN, HPre.out, by have := HLa.out; omega, HBf.out⟩

end Go.Proofs.Ytfehfjnmkaifbab
