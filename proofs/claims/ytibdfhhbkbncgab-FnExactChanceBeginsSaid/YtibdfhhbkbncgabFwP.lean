/-
  The first words of a trie, found by one pass over its nodes: those that are not passed over.
-/
import Derived.Test.YtibdfhhbkbncgabMC
import Derived.Test.YtibdfhhbkbncgabKids
import Derived.RangeFuncFrom
import Derived.RangeFuncBox
import Derived.Test.YtibdfhhbkbncgabEach
import Derived.Test.YtibdfhhbkbncgabBehU
import Derived.Test.YtibdfhhbkbncgabMG
import Derived.Test.YtibdfhhbkbncgabIsTrie
namespace Go.Proofs.Ytibdfhhbkbncgab
set_option linter.unusedVariables false

/-- one word more: it is taken if it is not passed over -/
def fwS (bh : Nat → Nat) (s : List Txt × Nat) (q : Nat × Txt) : List Txt × Nat := if s.2 ≤ q.1 then (s.1 ++ [q.2], bh q.1) else s
def fwT (bh : Nat → Nat) (l : List (Nat × Txt)) : List Txt × Nat := l.foldl (fwS bh) ([], 0)
theorem fwT_snoc (bh : Nat → Nat) (l : List (Nat × Txt)) (q : Nat × Txt) : fwT bh (l ++ [q]) = fwS bh (fwT bh l) q := by simp [fwT]
theorem fwT_yes {bh : Nat → Nat} {l : List (Nat × Txt)} {q : Nat × Txt} (h : (fwT bh l).2 ≤ q.1) : fwT bh (l ++ [q]) = ((fwT bh l).1 ++ [q.2], bh q.1) := by rw [fwT_snoc, fwS, if_pos h]
theorem fwT_no {bh : Nat → Nat} {l : List (Nat × Txt)} {q : Nat × Txt} (h : ¬ (fwT bh l).2 ≤ q.1) : fwT bh (l ++ [q]) = fwT bh l := by rw [fwT_snoc, fwS, if_neg h]
theorem fwT_len (bh : Nat → Nat) (l : List (Nat × Txt)) : (fwT bh l).1.length ≤ l.length := by
  suffices h : ∀ (m : Nat) (l : List (Nat × Txt)), l.length = m → (fwT bh l).1.length ≤ m by exact h _ l rfl
  intro m
  induction m with
  | zero => intro l hl; rw [List.length_eq_zero_iff.1 hl]; simp [fwT]
  | succ m ih =>
    intro l hl
    obtain ⟨r, q, rfl⟩ : ∃ r q, l = r ++ [q] := by
      rcases List.eq_nil_or_concat l with h | ⟨r, q, h⟩
      · rw [h] at hl; simp at hl
      · exact ⟨r, q, by simpa using h⟩
    have h1 := ih r (by simpa using hl)
    by_cases h : (fwT bh r).2 ≤ q.1
    · rw [fwT_yes h]; simp; omega
    · rw [fwT_no h]; omega

/-- a text is a first word at its node -/
def FstN (t : List Nd) (ps : List Txt) (x : Txt) : Prop := ∀ y, y ∈ wds t ps → y <+: x → y = x

theorem shortest {t : List Nd} {ps : List Txt} {x : Txt} : ∀ (m : Nat) (y : Txt), y.length ≤ m → y ∈ wds t ps → y <+: x → ∃ z, z ∈ wds t ps ∧ z <+: x ∧ z.length ≤ y.length ∧ FstN t ps z
  | 0, y, hm, hy, hp => ⟨y, hy, hp, Nat.le_refl _, fun z hz hzp => hzp.eq_of_length (by have := hzp.length_le; omega)⟩
  | m + 1, y, hm, hy, hp => by
    by_cases hf : FstN t ps y
    · exact ⟨y, hy, hp, Nat.le_refl _, hf⟩
    · have : ∃ z, z ∈ wds t ps ∧ z <+: y ∧ z ≠ y := by
        apply Classical.byContradiction
        intro hn
        refine hf (fun z hz hzp => ?_)
        apply Classical.byContradiction
        intro hne
        exact hn ⟨z, hz, hzp, hne⟩
      obtain ⟨z, hz, hzp, hne⟩ := this
      have hlt : z.length < y.length := by
        have := hzp.length_le
        rcases Nat.lt_or_ge z.length y.length with h | h
        · exact h
        · exact absurd (hzp.eq_of_length (by omega)) hne
      obtain ⟨u, hu, hup, hul, huf⟩ := shortest m z (by omega) hz (hzp.trans hp)
      exact ⟨u, hu, hup, by omega, huf⟩

theorem fst_iff {t : List Nd} {ps : List Txt} (hv : Valid t ps) {j : Nat} {x : Txt} (hj : (wds t ps)[j]? = some x) : Fst (wds t ps) true j x ↔ FstN t ps x := by
  constructor
  · intro h y hy hp
    obtain ⟨i, hi⟩ := List.getElem?_of_mem hy
    by_cases e : i = j
    · subst e
      rw [hj] at hi
      exact (Option.some.inj hi).symm
    · exact absurd hp (by have := h i y e hi; simpa using this)
  · intro h i y hi hy
    simp
    intro hp
    have e := h y (at_mem hy) hp
    subst e
    exact hi (asc_inj hv.wordsAsc hy hj)

/-- what the pass has told before a node -/
structure FwI (t : List Nd) (ps : List Txt) (bh : Nat → Nat) (k : Nat) : Prop where
  list : (fwT bh (pls t ps k)).1 = frst (wds t ps) true (pls t ps k).length
  all : ∀ (i : Nat) (d : Nd) (x : Txt), i < k → t[i]? = some d → d.e = true → ps[i]? = some x → FstN t ps x → bh i ≤ (fwT bh (pls t ps k)).2
  one : (fwT bh (pls t ps k)).2 = 0 ∨ ∃ (i : Nat) (d : Nd) (x : Txt), i < k ∧ t[i]? = some d ∧ d.e = true ∧ ps[i]? = some x ∧ FstN t ps x ∧ (fwT bh (pls t ps k)).2 = bh i

theorem fwI {t : List Nd} {ps : List Txt} {bh : Nat → Nat} (hv : Valid t ps) (hb : ∀ i, i < t.length → Behind t ps i (bh i)) : ∀ k, k ≤ t.length → FwI t ps bh k
  | 0, _ => ⟨by simp [pls, frst, fwT], fun i d x h => by omega, .inl (by simp [pls, fwT])⟩
  | k + 1, hk => by
    have ih := fwI hv hb k (by omega)
    obtain ⟨d, hd⟩ : ∃ d, t[k]? = some d := ⟨_, List.getElem?_eq_getElem (by omega)⟩
    obtain ⟨x, hx⟩ : ∃ x, ps[k]? = some x := ⟨_, List.getElem?_eq_getElem (by have := hv.lenEq; omega)⟩
    cases he : d.e with
    | false =>
      rw [show FwI t ps bh (k + 1) ↔ FwI t ps bh (k + 1) from Iff.rfl]
      refine ⟨by rw [pls_miss hd hx he]; exact ih.list, fun i d2 y hi hd2 he2 hy hf => ?_, ?_⟩
      · rw [pls_miss hd hx he]
        by_cases e : i = k
        · subst e; rw [hd] at hd2; obtain rfl := Option.some.inj hd2; rw [he] at he2; cases he2
        · exact ih.all i d2 y (by omega) hd2 he2 hy hf
      · rw [pls_miss hd hx he]
        rcases ih.one with h | ⟨i, d2, y, h1, h2⟩
        · exact .inl h
        · exact .inr ⟨i, d2, y, by omega, h2⟩
    | true =>
      have hhit := pls_hit hd hx he
      have hj : (wds t ps)[(pls t ps k).length]? = some x := by
        obtain ⟨r, hr⟩ := pls_pre t ps (k + 1) t.length hk
        rw [← pls_all hv, hr, hhit, List.append_assoc, List.map_append, List.getElem?_append_right (by simp)]
        simp
      have hasc := hv.tells.asc
      have hmx : x ∈ wds t ps := at_mem hj
      have key : (fwT bh (pls t ps k)).2 ≤ k ↔ FstN t ps x := by
        constructor
        · intro hle y hy hp
          apply Classical.byContradiction
          intro hne
          obtain ⟨z, hz, hzp, hzl, hzf⟩ := shortest y.length y (Nat.le_refl _) hy hp
          obtain ⟨i, d2, hd2, hz2, he2⟩ := mem_wds.1 hz
          have hzx : z ≠ x := by
            intro e
            subst e
            have := hp.length_le
            exact hne (hp.eq_of_length (by omega))
          have hik := asc_pos hasc hz2 hx (bef_pre hzp hzx)
          have h1 := ih.all i d2 z hik hd2 he2 hz2 hzf
          have h2 := ((hb i (List.getElem?_eq_some_iff.1 hd2).1).iff hv.tells hz2 hx).1 hzp
          omega
        · intro hf
          rcases ih.one with h | ⟨i, d2, y, h1, h2, h3, h4, h5, h6⟩
          · omega
          · apply Classical.byContradiction
            intro hn
            have h7 := ((hb i (by omega)).iff hv.tells h4 hx).2 ⟨by omega, by omega⟩
            have h8 := hf y (mem_wds.2 ⟨i, d2, h2, h4, h3⟩) h7
            subst h8
            have := asc_inj hasc h4 hx
            omega
      by_cases hf : FstN t ps x
      · have hle := key.2 hf
        have e9 : fwT bh (pls t ps (k + 1)) = ((fwT bh (pls t ps k)).1 ++ [x], bh k) := by rw [hhit]; exact fwT_yes (q := (k, x)) hle
        refine ⟨?_, fun i d2 y hi hd2 he2 hy hf2 => ?_, .inr ⟨k, d, x, by omega, hd, he, hx, hf, by rw [e9]⟩⟩
        · rw [e9, hhit, List.length_append, show (pls t ps k).length + [(k, x)].length = (pls t ps k).length + 1 from rfl, frst_hit hj ((fst_iff hv hj).2 hf), ih.list]
        · rw [e9]
          by_cases e : i = k
          · subst e; exact Nat.le_refl _
          · have h1 := ih.all i d2 y (by omega) hd2 he2 hy hf2
            have h2 := (hb k (by omega)).lt
            show bh i ≤ bh k
            omega
      · have hle : ¬ (fwT bh (pls t ps k)).2 ≤ k := fun h => hf (key.1 h)
        have e9 : fwT bh (pls t ps (k + 1)) = fwT bh (pls t ps k) := by rw [hhit]; exact fwT_no (q := (k, x)) hle
        refine ⟨?_, fun i d2 y hi hd2 he2 hy hf2 => ?_, ?_⟩
        · rw [e9, hhit, List.length_append, show (pls t ps k).length + [(k, x)].length = (pls t ps k).length + 1 from rfl, frst_miss hj (fun h => hf ((fst_iff hv hj).1 h)), ih.list]
        · rw [e9]
          by_cases e : i = k
          · subst e
            rw [hx] at hy
            obtain rfl := Option.some.inj hy
            exact absurd hf2 hf
          · exact ih.all i d2 y (by omega) hd2 he2 hy hf2
        · rw [e9]
          rcases ih.one with h | ⟨i, d2, y, h1, h2⟩
          · exact .inl h
          · exact .inr ⟨i, d2, y, by omega, h2⟩

theorem fw_all {t : List Nd} {ps : List Txt} {bh : Nat → Nat} (hv : Valid t ps) (hb : ∀ i, i < t.length → Behind t ps i (bh i)) : (fwT bh (pls t ps t.length)).1 = frst (wds t ps) true (wds t ps).length := by
  rw [(fwI hv hb t.length (Nat.le_refl _)).list]
  congr 1
  rw [← pls_all hv, List.length_map]

end Go.Proofs.Ytibdfhhbkbncgab

namespace Go.Proofs.Ytibdfhhbkbncgab
open Go.RowKit Go.Shelf
set_option linter.unusedVariables false

attribute [local go_sem] Oper.semAt_some

theorem fw_behind_ex {t : List Nd} {ps : List Txt} {i : Nat} {x : Txt} (hx : ps[i]? = some x) (hl : ps.length = t.length) : ∀ (d m : Nat), t.length - m = d → i < m → m ≤ t.length → (∀ (j : Nat) (z : Txt), i < j → j < m → ps[j]? = some z → x <+: z) → ∃ b, Behind t ps i b
  | 0, m, hd, him, hm, ha => ⟨m, him, hm, fun y hy j z h1 h2 hz => by rw [hx] at hy; obtain rfl := Option.some.inj hy; exact ha j z h1 h2 hz, fun y u _ hu => by have := (List.getElem?_eq_some_iff.1 hu).1; omega⟩
  | d + 1, m, hd, him, hm, ha => by
    obtain ⟨y, hy⟩ : ∃ y, ps[m]? = some y := ⟨_, List.getElem?_eq_getElem (by omega)⟩
    by_cases h : x <+: y
    · refine fw_behind_ex hx hl d (m + 1) (by omega) (by omega) (by omega) (fun j z h1 h2 hz => ?_)
      by_cases e : j = m
      · subst e; rw [hy] at hz; obtain rfl := Option.some.inj hz; exact h
      · exact ha j z h1 (by omega) hz
    · exact ⟨m, him, hm, fun u hu j z h1 h2 hz => by rw [hx] at hu; obtain rfl := Option.some.inj hu; exact ha j z h1 h2 hz, fun u v hu hv => by rw [hx] at hu; obtain rfl := Option.some.inj hu; rw [hy] at hv; obtain rfl := Option.some.inj hv; exact h⟩

theorem behind_uniq {t : List Nd} {ps : List Txt} {i b b' : Nat} {x : Txt} (hx : ps[i]? = some x) (hl : ps.length = t.length) (h : Behind t ps i b) (h' : Behind t ps i b') : b = b' := by
  have lem : ∀ {b b' : Nat}, Behind t ps i b → Behind t ps i b' → ¬ b < b' := fun {b b'} h h' hlt => by
    have hle := h'.le
    obtain ⟨y, hy⟩ : ∃ y, ps[b]? = some y := ⟨_, List.getElem?_eq_getElem (by omega)⟩
    exact h.stop x y hx hy (h'.all x hx b y h.lt hlt hy)
  have h1 := lem h h'
  have h2 := lem h' h
  omega

open Classical in
noncomputable def bhOf (t : List Nd) (ps : List Txt) (i : Nat) : Nat := if h : ∃ b, Behind t ps i b then h.choose else 0
theorem bhOf_is {t : List Nd} {ps : List Txt} (hl : ps.length = t.length) {i : Nat} (hi : i < t.length) : Behind t ps i (bhOf t ps i) := by
  obtain ⟨x, hx⟩ : ∃ x, ps[i]? = some x := ⟨_, List.getElem?_eq_getElem (by omega)⟩
  have h : ∃ b, Behind t ps i b := fw_behind_ex hx hl (t.length - (i + 1)) (i + 1) rfl (by omega) (by omega) (fun j z h1 h2 => by omega)
  unfold bhOf
  rw [dif_pos h]
  exact h.choose_spec

theorem boxed_set {W : World} {B q : Nat} {t : TypeId} {v : Value} (u : Value) (hv : Boxed W B t v) (h : B ≠ q) : Boxed (W.setCell ⟨q, 0, none⟩ u) B t v := (Below.heap_setCell _ _ _ _ h).trans hv

noncomputable def fwW {t : List Nd} {ps : List Txt} (pre : List (EW t ps)) : List Txt := (fwT (bhOf t ps) (pre.map EW.val)).1
noncomputable def fwB {t : List Nd} {ps : List Txt} (pre : List (EW t ps)) : Nat := (fwT (bhOf t ps) (pre.map EW.val)).2
theorem fw_yes {t : List Nd} {ps : List Txt} {pre : List (EW t ps)} {y : EW t ps} (h : fwB pre ≤ y.i) : fwW (pre ++ [y]) = fwW pre ++ [y.x] ∧ fwB (pre ++ [y]) = bhOf t ps y.i := by
  unfold fwW fwB
  rw [List.map_append, List.map_singleton, fwT_yes (q := y.val) h]
  exact ⟨rfl, rfl⟩
theorem fw_no {t : List Nd} {ps : List Txt} {pre : List (EW t ps)} {y : EW t ps} (h : ¬ fwB pre ≤ y.i) : fwW (pre ++ [y]) = fwW pre ∧ fwB (pre ++ [y]) = fwB pre := by
  unfold fwW fwB
  rw [List.map_append, List.map_singleton, fwT_no (q := y.val) h]
  exact ⟨rfl, rfl⟩
theorem fwW_len {t : List Nd} {ps : List Txt} (pre : List (EW t ps)) : (fwW pre).length ≤ pre.length := by
  have := fwT_len (bhOf t ps) (pre.map EW.val)
  rw [List.length_map] at this
  exact this

set_option maxRecDepth 1000000 in
set_option maxHeartbeats 4000000 in
theorem firstWords_in (N : Nat) (hN3 : 3 ≤ N) (a : Option Addr) (n c : Nat) (t : List Nd) (ps : List Txt) (hv : Valid t ps) (hr : trieB t = true) (W : World) (hN : Nds W.heap.size W a n c t) (xs : List Txt) (hxs : listFirstWords t = xs) (tt : List Nd) (ok : Bool) (htt : tofT xs = tt) (hok : setOk xs = ok) :
    CallsIn Fence.wide N Try.prog 48 #[.agg #[.slice a n c]] W (TrieRes W tt ok) := by
  have h1 : 1 ≤ N := by omega
  have G1 := Lib.hid (GvR.start hN)
  have cT := Lib.hid (fun (W' : World) (G : GvR W W' a n c t) => isTrie_any W.heap.size a n c t W' G.size G.gv.nds)
  rw [hr] at cT
  have HV := Lib.hid hv
  have HLen := Lib.hid hN.len
  have hn481 : n ≤ 481 := by have := hv.size; have := hN.len; omega
  have HXs : Hid (∀ ys : List (EW t ps), ys.map EW.val = pls t ps t.length → fwW ys = xs) := Lib.hid (fun ys h => by
    unfold fwW
    rw [h, fw_all hv (fun i hi => bhOf_is hv.lenEq hi), ← hxs]
    unfold listFirstWords
    rw [wordsOf_eq hv])
  have HSh := Lib.hid (listFirstWords_short (t := t))
  rw [hxs] at HSh
  have HTT := Lib.hid htt
  have HOK := Lib.hid hok
  obtain ⟨i0, hi, hz0, hz1, hz2⟩ := info_parts infoS
  clear hN hv hr hxs htt hok
  have hbx := G1.out.box
  refine callsIn_of_wp_marks Try.func48 rfl trivial ?_ rfl
  simp only [Try.ntmps48, List.size_toArray, List.length_cons, List.length_nil, Nat.reduceAdd, Nat.reduceSub, Array.replicate_succ, Array.replicate_zero, List.push_toArray, List.append_toArray, List.nil_append, List.cons_append]
  gi_wp2_with (first
    | (refine ⟨trivial, ?_⟩; gi_at_call 44; refine (callsIn_wide.2 (cT.out _ G1.out)).mono ?_; rintro e w2 ⟨rfl, hb2⟩; have G2 := Lib.hid (G1.out.on hb2); have hbx2 := G2.out.box; have hbx3 := cellOld (.cells #[.int .i64 0] 3) (cellOld (.cells #[.slice (some ⟨w2.heap.size, 0, none⟩) 0 0] 47) (cellOld (.cells #[] 9) hbx2)); clear hb2 hbx)
    | (refine ⟨trivial, ?_⟩; gi_at_call 34; refine (eachWord_in (N - 1) a n c _).mono ?_; rintro e w3 ⟨rfl, rfl⟩))
  have hB0 : Below w2.heap.size w2 ((((w2.alloc (.cells #[] 9)).alloc (.cells #[.slice (some ⟨w2.heap.size, 0, none⟩) 0 0] 47)).alloc (.cells #[.int .i64 0] 3)).alloc (.cells #[.slice a n c] 31)) :=
    ((((Below.refl _ w2).alloc (Nat.le_refl _) _).alloc (by simp) _).alloc (by simp; omega) _).alloc (by simp; omega) _
  have b0 := Boxed.new (w2.alloc (.cells #[] 9)) 47 (.slice (some ⟨w2.heap.size, 0, none⟩) 0 0)
  have b1 := cellNew ((w2.alloc (.cells #[] 9)).alloc (.cells #[.slice (some ⟨w2.heap.size, 0, none⟩) 0 0] 47)) (.int .i64 0) 3
  have hown0 := World.ownsRow_lit (base := w2.heap.size) (e := 9) (size := 1) w2 #[] 0 (Nat.le_refl _) (by unfold maxLen; omega) rfl
  have u4 := (cellNew (((w2.alloc (.cells #[] 9)).alloc (.cells #[.slice (some ⟨w2.heap.size, 0, none⟩) 0 0] 47)).alloc (.cells #[.int .i64 0] 3)) (.slice a n c) 31).1
  simp only [World.size_alloc] at b0 b1 u4
  have c0 := (b0.alloc (.cells #[.int .i64 0] 3)).alloc (.cells #[.slice a n c] 31)
  have c1 := cellOld (.cells #[.slice a n c] 31) b1.1
  have c2 := frozenOld (.cells #[.slice a n c] 31) b1.1 b1.2
  have hown1 := ((hown0.alloc (.cells #[.slice (some ⟨w2.heap.size, 0, none⟩) 0 0] 47)).alloc (.cells #[.int .i64 0] 3)).alloc (.cells #[.slice a n c] 31)
  have hsz0 : ((((w2.alloc (.cells #[] 9)).alloc (.cells #[.slice (some ⟨w2.heap.size, 0, none⟩) 0 0] 47)).alloc (.cells #[.int .i64 0] 3)).alloc (.cells #[.slice a n c] 31)).heap.size = w2.heap.size + 4 := by simp
  clear b0 b1 hown0 hbx2 hbx3
  obtain ⟨w0, hw0⟩ : ∃ w0, (((w2.alloc (.cells #[] 9)).alloc (.cells #[.slice (some ⟨w2.heap.size, 0, none⟩) 0 0] 47)).alloc (.cells #[.int .i64 0] 3)).alloc (.cells #[.slice a n c] 31) = w0 := ⟨_, rfl⟩
  rw [hw0] at c0 c1 c2 u4 hown1 hsz0 hB0 ⊢
  clear hw0
  have HB0 := Lib.hid hB0
  have hres := G2.out.res.lt
  have HG2 : Hid (∀ W', Below w2.heap.size w2 W' → GvR W W' a n c t) := Lib.hid (fun W' h => G2.out.on h)
  obtain ⟨s, hs⟩ : ∃ s, w2.heap.size = s := ⟨_, rfl⟩
  have HSs := Lib.hid hs
  rw [hs] at c0 c1 c2 u4 hown1 hsz0 hB0 hres
  simp only [hs]
  have hnds : Nds s w0 a n c t := by have := (HG2.out w0 HB0.out).gv.nds; exact this.mono (by omega)
  clear hs
  have HS0 := Lib.hid hsz0
  refine wpIn_rangeFunc_ownF rfl h1 (gf := 59) (lb := #[.pointer (some ⟨s + 1 + 1 + 1, 0, none⟩)]) rfl trivial (enters_of Try.func59 (by kernel_rfl) rfl)
    (each_stops (N - 1) (by omega) (s + 1 + 1 + 1) s n c a t ps HV.out w0 (by omega) (by omega) u4 hnds) KeepE.trans (keepE_b (by omega) (by omega)) (Below.refl _ _) (fun _ => rfl)
    (fun pre W => ((∃ v, Boxed W (s + 1) 47 v ∧ W.ownsRow s 9 1 v (fwW pre).length ((fwW pre).map fun x => Value.string (bx x)) ∧ (∃ g cap, v = .slice (some ⟨g, 0, none⟩) (fwW pre).length cap ∧ (g = s ∨ s + 4 ≤ g))) ∧ Below s w0 W) ∧ (W.cell? ⟨s + 1 + 1, 0, none⟩ = some (.int .i64 (fwB pre : Nat)) ∧ W.frozen? ⟨s + 1 + 1, 0, none⟩ = false))
    (fun _ _ _ => False)
    (OwnFrom.and (OwnFrom.and (Own.from (holdsRow_own s (s + 1) 47 9 1 (fun pre : List (EW t ps) => (fwW pre).length) (fun pre : List (EW t ps) => (fwW pre).map fun x => Value.string (bx x)) (fun (pre : List (EW t ps)) v => ∃ g cap, v = .slice (some ⟨g, 0, none⟩) (fwW pre).length cap ∧ (g = s ∨ s + 4 ≤ g))) _) (ownFrom_below (by omega) (by omega))) (Own.from (fun q A B row hs hg hr => ⟨cell_kept hs.1 hg hr, (frozen_kept hs.1 hg hr).trans hs.2⟩) _))
    (fun _ _ _ _ _ hs _ _ => hs)
    ⟨⟨⟨_, c0, hown1, s, 0, rfl, .inl rfl⟩, Below.refl _ _⟩, c1, c2⟩
    (fun x => { tmps := #[.agg #[.slice a n c], .pointer (some ⟨W.heap.size, 0, none⟩), .pointer (some ⟨W.heap.size + 1, 0, none⟩), .bool false, .pointer (some ⟨s + 1, 0, none⟩), .pointer (some ⟨s + 1 + 1, 0, none⟩), .int .i64 (x.i : Int), .string (bx x.x), .agg #[.slice a n c], .bool true, .bool false, undef, .slice (some ⟨s, 0, none⟩) 0 0, .agg #[.slice a n c],
      .func (.func 59) #[] #[.pointer (some ⟨s + 1 + 1 + 1, 0, none⟩)], .int .i64 (x.i : Int), .string (bx x.x), undef, undef, undef, undef, undef, undef, undef, undef, undef, undef, undef, undef, undef, undef], defers := [] }) ?assign ?body ?done ?stop
  case assign =>
    intro l x W K hK
    gi_wp2
    exact hK
  case body =>
    clear c0 c1 c2 u4 hown1
    rintro l pre x V ⟨⟨⟨_, hv, hrow, g, cap, rfl, hg⟩, hB⟩, hc1, hf1⟩ hlt
    have hpl := fwW_len pre
    have hsz := hB.size
    have h1b : 1 ≤ N - 1 - 1 := by omega
    have hxn : x.i < n := by
      obtain ⟨d, hd, _⟩ := x.en
      have := (List.getElem?_eq_some_iff.1 hd).1
      have := HLen.out
      omega
    have HR := Lib.hid hrow
    have HVb := Lib.hid hv
    have HBw := Lib.hid hB
    have hvl := hv.lt
    have HGg := Lib.hid hg
    have HC1 := Lib.hid hc1
    have HF1 := Lib.hid hf1
    have HBl : Hid (Below w2.heap.size w2 V) := Lib.hid (HB0.out.trans (by rw [HSs.out]; exact hB))
    clear hrow hv hB hg
    obtain ⟨m, hm⟩ : ∃ m, (fwW pre).length = m := ⟨_, rfl⟩
    have HM := Lib.hid hm
    rw [hm] at HR hpl HVb
    clear hm
    have HBU : Hid (∀ W', Below w2.heap.size w2 W' → Calls Try.prog 77 #[.agg #[.slice a n c], .int .i64 (x.i : Int)] W' fun e w' => e = .returned (.int .i64 (bhOf t ps x.i : Nat)) ∧ Below W'.heap.size W' w') := Lib.hid (fun W' h => by
      have hG := (HG2.out W' h).gv.nds
      refine (behindUnder_any W.heap.size a n c x.i t ps W' ((HG2.out W' h).size) hG (by omega) HV.out.tells hxn).mono ?_
      rintro e w' ⟨b9, rfl, hb9, h9⟩
      rw [behind_uniq x.at' HV.out.lenEq hb9 (bhOf_is HV.out.lenEq (by have := HLen.out; omega))]
      exact ⟨rfl, h9⟩)
    obtain ⟨bx9, hbx9⟩ : ∃ bx9, bhOf t ps x.i = bx9 := ⟨_, rfl⟩
    rw [hbx9] at HBU
    have HBx9 := Lib.hid hbx9
    clear hbx9
    have HY := Lib.hid (fun h => fw_yes (pre := pre) (y := x) h)
    have HNo := Lib.hid (fun h => fw_no (pre := pre) (y := x) h)
    obtain ⟨b, hb⟩ : ∃ b, fwB pre = b := ⟨_, rfl⟩
    rw [hb] at HY HNo hc1 HC1
    by_cases hle : b ≤ x.i
    · have HYY := Lib.hid (HY.out hle)
      have hge : (b : Int) ≤ (x.i : Int) := by omega
      have hc := HVb.out.cell
      have hbt := (HG2.out V HBl.out).box
      clear HY HNo hb
      gi_wp2_with (first
        | (gi_at_builtin; refine wpListIn_append_own_at _ rfl _ _ 47 rfl s 9 i0 (.string ByteArray.empty) 1 16 Try.underlying47 hi hz0 hz1 hz2 rfl (by decide) _ _ _ rfl (HR.out.alloc _) ⟨V.heap.size, 0, none⟩ 1 1 [.string (bx x.x)] rfl rfl (cell_one_new _ _ _) (by simp [Value.oneCell']) (by unfold maxLen; omega) (by omega) (by simp; omega) ?_; intro v' w1 hown' hgrow _ hat; obtain ⟨g', cap', rfl⟩ := own_succ hown'; obtain ⟨hv1, hv2, hr2, hk2, hb2⟩ := HVb.out.appended (by decide) HR.out (by omega) (by omega) hown' hgrow; have hc1' := hv1.cell; have hf1' := hv1.frozen; have hat' : g' = g ∨ g' = V.heap.size + 1 := (by
              have h : (some g' : Option Nat) = some g ∨ some g' = some (V.alloc (.cells #[.string (bx x.x)] 9)).heap.size := hat
              simpa using h); have keep : ∀ k, k < V.heap.size → k ≠ g → k ≠ s + 1 → (w1.setCell ⟨s + 1, 0, none⟩ (.slice (some ⟨g', 0, none⟩) (m + 1) cap')).heap[k]? = V.heap[k]? := (fun k h1 h2 h3 => by
              have hgr : (V.alloc (.cells #[.string (bx x.x)] 9)).grownBy w1 (some g) := hgrow
              rw [Below.heap_setCell _ _ _ _ h3, hgr.block k (by simp; omega) (by simpa using h2), Below.heap_alloc _ _ _ h1]); have HKp := Lib.hid keep; have HB6 : Hid (Below w2.heap.size w2 (w1.setCell ⟨s + 1, 0, none⟩ (.slice (some ⟨g', 0, none⟩) (m + 1) cap'))) := Lib.hid (HBl.out.trans (by rw [HSs.out]; exact hb2)); have hbt6 := (HG2.out _ HB6.out).box; have HX6 := Lib.hid (And.intro hv2 (And.intro hr2 (And.intro hk2 hb2))); clear hv2 hr2 hk2 hb2 hgrow hat keep)
        | (refine ⟨trivial, ?_⟩; gi_at_call 77; refine (CallsIn.inRound l (callsIn_wide.2 (HBU.out _ HB6.out))).mono ?_; rintro e w7 ⟨rfl, hb7⟩; have HGe := HGg.out; have hs6 : V.heap.size ≤ (w1.setCell ⟨s + 1, 0, none⟩ (.slice (some ⟨g', 0, none⟩) (m + 1) cap')).heap.size := HX6.out.2.2.2.size; have hblk : w7.heap[s + 1 + 1]? = V.heap[s + 1 + 1]? := (hb7.block _ (by omega)).trans (HKp.out _ (by omega) (by omega) (by omega)); have hc7 := (World.cell?_of_block (a := ⟨s + 1 + 1, 0, none⟩) hblk).trans HC1.out; have hf7 := (World.frozen?_of_block (a := ⟨s + 1 + 1, 0, none⟩) hblk).trans HF1.out; have HB7 := Lib.hid hb7; clear hb7))
      have HGe := HGg.out
      have hs7 := HB7.out.size
      have hl : (fwW pre ++ [x.x]).length = m + 1 := by rw [List.length_append, HM.out]; rfl
      refine ⟨HX6.out.2.2.1.trans ((keepsOthers_of_below HB7.out).trans (KeepsOthers.setCell _ _ _)), ⟨?_, ?_⟩, ?_⟩
      · rw [Below.heap_setCell _ _ _ _ (show s + 1 + 1 + 1 ≠ s + 1 + 1 by omega)]
        exact (HB7.out.block _ (by omega)).trans (HKp.out _ (by omega) (by omega) (by omega))
      · exact (HX6.out.2.2.2.trans (HB7.out.mono (by omega))).setCell (p := ⟨s + 1 + 1, 0, none⟩) (by simp; omega) _
      · simp only [HYY.out.1, HYY.out.2]
        refine ⟨⟨⟨_, boxed_set _ (box_stay HX6.out.1 HB7.out) (by omega), ?_, g', cap', by rw [hl], by omega⟩, ?_⟩, ?_, ?_⟩
        · rw [hl]
          have hne : (Value.slice (some ⟨g', 0, none⟩) (m + 1) cap').ownBlock ≠ some (s + 1 + 1) := by
            intro e
            have e2 : g' = s + 1 + 1 := by simpa [Value.ownBlock] using e
            omega
          have h9 := (own_stay HX6.out.2.1 HB7.out).kept (grownBy_setCell' w7 (s + 1 + 1) (.int .i64 (bx9 : Int))) (.inr (by first | exact hne | exact hne.symm))
          simpa using h9
        · exact HBw.out.trans ((HX6.out.2.2.2.trans (HB7.out.mono (by omega))).setCell (p := ⟨s + 1 + 1, 0, none⟩) (by simp; omega) _)
        · rw [HBx9.out]
          exact World.cell?_setCell_same' _ _ _ (by rw [hc7]; rfl)
        · exact (World.frozen?_setCell _ _ _ _).trans hf7
    · have HNN := Lib.hid (HNo.out hle)
      have hge : ¬ (b : Int) ≤ (x.i : Int) := by omega
      clear HY HNo
      have hb8 := hb
      subst hb8
      gi_wp2
      refine ⟨KeepsOthers.refl _, KeepE.refl _ _ _, ?_⟩
      simp only [HNN.out.1, HNN.out.2]
      exact ⟨⟨⟨_, HVb.out, by rw [HM.out]; exact HR.out, g, ⟨cap, by rw [HM.out]⟩, HGg.out⟩, HBw.out⟩, HC1.out, HF1.out⟩
  case done =>
    rintro D ys V hD hys ⟨⟨⟨_, hv, hrow, g, cap, rfl, hg⟩, hB⟩, _⟩ hK
    have hc := hv.cell
    have HBD : Hid (Below w2.heap.size w2 V) := Lib.hid (HB0.out.trans (by rw [HSs.out]; exact hB))
    have G9 := Lib.hid (HG2.out V HBD.out)
    have hl9 := HXs.out ys hys
    rw [hl9] at hrow
    have cM : Hid (Calls Try.prog 78 #[.slice (some ⟨g, 0, none⟩) (fwW ys).length cap] V (TrieRes V tt ok)) := Lib.hid (by
      obtain ⟨a6, c6, e6, hW6⟩ := own_wds hrow HSh.out
      rw [hl9, e6, ← HTT.out, ← HOK.out]
      exact implTrieOf_any V.heap.size a6 _ c6 xs V (Nat.le_refl _) hW6)
    clear hrow hl9
    gi_wp2_with (refine ⟨trivial, ?_⟩; gi_at_call 78; refine (callsIn_wide.2 cM.out).mono ?_; rintro e w7 ⟨v7, rfl, hO7, hb7⟩; obtain ⟨a7, c7, rfl⟩ := own_slice hO7; have G7 := Lib.hid (G9.out.on hb7); have HO7 := Lib.hid hO7; have hrc := G7.out.res.cell; have hrf := G7.out.res.frozen; have hK7 := (hb7.block D (Array.getElem?_eq_some_iff.1 hK).1).trans hK; clear hO7)
    have hWD : W.heap.size ≤ D := by have := G2.out.size; have := HSs.out; omega
    have hK' := (KeepsOthers.setCell w7 ⟨W.heap.size + 1, 0, none⟩ (.slice a7 tt.length c7)).same D _ hK7 rfl
    have hc5 := cell_kept (World.cell?_setCell_same' w7 ⟨W.heap.size + 1, 0, none⟩ (.slice a7 tt.length c7) (by rw [hrc]; rfl)) (grownBy_putObj' _ D (.deferred none)) (fun r e => by cases e; exact ⟨_, hK', rfl⟩)
    obtain ⟨v9, e9, hO9, hb9⟩ := G7.out.own (ok := ok) HO7.out G9.out.size
    injection e9 with e9
    injection e9 with e9
    have e10 : Value.agg #[.slice a7 tt.length c7] = .agg #[v9] := by simpa using e9
    injection e10 with e10
    have e11 : Value.slice a7 tt.length c7 = v9 := by simpa using e10
    subst e11
    refine ⟨by simp, .inl ⟨_, _, rfl, run_takeDeferred hK', ?_⟩⟩
    refine ⟨.tuple #[.agg #[.slice a7 tt.length c7], .bool ok], ?_, _, rfl, ownsRow_putObj hO9 _ hK' rfl, hb9.trans (belowK_b (w := W) (Nat.le_refl _) _ D _ _ hWD hK' rfl rfl)⟩
    simp [results, Try.f48, go_sem, hc5]
  case stop =>
    rintro D c' pre W _ _ h _
    exact h.elim

set_option maxRecDepth 1000000 in
set_option maxHeartbeats 2000000 in
theorem firstWords_not (a : Option Addr) (n c : Nat) (t : List Nd) (hr : trieB t = false) (W : World) (hN : Nds W.heap.size W a n c t) :
    CallsIn Fence.wide 5 Try.prog 48 #[.agg #[.slice a n c]] W (TrieRes W [] false) := by
  have G1 := Lib.hid (GvR.start hN)
  have cT := Lib.hid (fun (W' : World) (G : GvR W W' a n c t) => isTrie_any W.heap.size a n c t W' G.size G.gv.nds)
  rw [hr] at cT
  clear hN hr
  have hbx := G1.out.box
  refine callsIn_of_wp_marks Try.func48 rfl trivial ?_ rfl
  simp only [Try.ntmps48, List.size_toArray, List.length_cons, List.length_nil, Nat.reduceAdd, Nat.reduceSub, Array.replicate_succ, Array.replicate_zero, List.push_toArray, List.append_toArray, List.nil_append, List.cons_append]
  gi_wp2_with (refine ⟨trivial, ?_⟩; gi_at_call 44; refine (callsIn_wide.2 (cT.out _ G1.out)).mono ?_; rintro e w2 ⟨rfl, hb2⟩; have G2 := Lib.hid (G1.out.on hb2); have hrc := G2.out.res.cell; have hrf := G2.out.res.frozen; clear hb2 hbx)
  have hc5 := World.cell?_setCell_same' w2 ⟨W.heap.size + 1, 0, none⟩ (.slice none 0 0) (by rw [hrc]; rfl)
  refine ⟨.tuple #[.agg #[.slice none 0 0], .bool false], ?_, G2.out.ownNo⟩
  simp [results, Try.f48, go_sem, hc5]

theorem implFirstWords_any (a : Option Addr) (n c : Nat) (t : List Nd) (W : World) (hN : Nds W.heap.size W a n c t) :
    Calls Try.prog 48 #[.agg #[.slice a n c]] W (TrieRes W (resT (trieB t) (listFirstWords t)) (resK (trieB t) (listFirstWords t))) := by
  refine (callsIn_wide (n := 5)).1 ?_
  cases hq : trieB t with
  | false =>
    rw [(resT_no _).1, (resT_no _).2]
    exact firstWords_not a n c t hq W hN
  | true =>
    obtain ⟨ps, hv⟩ := trieB_iff.1 hq
    rw [(resT_yes _).1, (resT_yes _).2]
    exact firstWords_in 5 (by omega) a n c t ps hv hq W hN _ rfl _ _ rfl rfl

end Go.Proofs.Ytibdfhhbkbncgab
