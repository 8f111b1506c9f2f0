/-
  Whether no word of a trie begins with another: the program's walk.
-/
import Derived.RangeFuncFrom
import Derived.Test.YtoofpgehkihbcacEach
import Derived.Test.YtoofpgehkihbcacAlone
import Derived.Test.YtoofpgehkihbcacIsTrie
namespace Go.Proofs.Ytoofpgehkihbcac
open Go.RowKit Go.Shelf
set_option linter.unusedVariables false

attribute [local go_sem] Oper.semAt_some

theorem pls_mem {t : List Nd} {ps : List Txt} {i : Nat} {d : Nd} {x : Txt} (h : t[i]? = some d) (hx : ps[i]? = some x) (he : d.e = true) : ∀ k, i < k → (i, x) ∈ pls t ps k
  | 0, hk => by omega
  | k + 1, hk => by
    by_cases c : i = k
    · subst c
      rw [pls_hit h hx he]
      exact List.mem_append.2 (.inr (by simp))
    · have ih := pls_mem h hx he k (by omega)
      show _ ∈ pls t ps k ++ _
      exact List.mem_append.2 (.inl ih)

/-- no other node is under a word's -/
def Aln {t : List Nd} {ps : List Txt} (y : EW t ps) : Prop := ∀ (m : Nat) (z : Txt), ps[m]? = some z → y.x <+: z → m = y.i

theorem aln_iff {t : List Nd} {ps : List Txt} (h : Tells t t.length ps) (y : EW t ps) {b : Nat} (hb : Behind t ps y.i b) : decide (b = y.i + 1) = true ↔ Aln y := by
  rw [decide_eq_true_eq]
  constructor
  · rintro rfl m z hz hp
    have := (hb.iff h y.at' hz).1 hp
    omega
  · intro ha
    have h1 := hb.lt
    by_cases c : b = y.i + 1
    · exact c
    · exfalso
      have hle := hb.le
      obtain ⟨_, z, _, hz⟩ := h.at (show y.i + 1 < t.length by omega)
      have := ha _ _ hz ((hb.iff h y.at' hz).2 ⟨by omega, by omega⟩)
      omega

theorem keepsOthers_of_below {W W' : World} (h : Below W.heap.size W W') : KeepsOthers W W' := ⟨h.size, fun l o hl _ => (h.block l (Array.getElem?_eq_some_iff.1 hl).1).trans hl⟩

theorem cellNew (W : World) (v : Value) (t : TypeId) : (W.alloc (.cells #[v] t)).cell? ⟨W.heap.size, 0, none⟩ = some v ∧ (W.alloc (.cells #[v] t)).frozen? ⟨W.heap.size, 0, none⟩ = false := ⟨World.cell?_alloc_new W _ t 0, World.frozen?_alloc_new W _ t 0⟩
theorem cellOld {W : World} {a : Addr} {v : Value} (o : Obj) (h : W.cell? a = some v) : (W.alloc o).cell? a = some v := cell_kept h (World.grownBy_alloc W o none) (fun r e => by cases e)
theorem frozenOld {W : World} {a : Addr} {v : Value} (o : Obj) (h : W.cell? a = some v) (hf : W.frozen? a = false) : (W.alloc o).frozen? a = false := (frozen_kept h (World.grownBy_alloc W o none) (fun r e => by cases e)).trans hf

theorem twoCells {W : World} {s : Nat} {u1 u2 : Value} (h1 : W.cell? ⟨s + 1, 0, none⟩ = some u1) (h2 : W.cell? ⟨s + 1 + 1, 0, none⟩ = some u2) (b1 b2 : Bool) :
    ((W.setCell ⟨s + 1, 0, none⟩ (.bool b1)).setCell ⟨s + 1 + 1, 0, none⟩ (.bool b2)).cell? ⟨s + 1, 0, none⟩ = some (.bool b1) ∧ ((W.setCell ⟨s + 1, 0, none⟩ (.bool b1)).setCell ⟨s + 1 + 1, 0, none⟩ (.bool b2)).cell? ⟨s + 1 + 1, 0, none⟩ = some (.bool b2) := by
  constructor
  · rw [World.cell?_setCell_far _ _ _ _ (by simp)]
    exact World.cell?_setCell_same' _ _ _ (by rw [h1]; rfl)
  · exact World.cell?_setCell_same' _ _ _ (by rw [World.cell?_setCell_far _ _ _ _ (by simp), h2]; rfl)

/-- the box of a trie at s, and the results' cells behind it -/
structure Res3 (s : Nat) (a : Option Addr) (n c : Nat) (W : World) : Prop where
  box : W.cell? ⟨s, 0, none⟩ = some (.slice a n c)
  r1 : W.cell? ⟨s + 1, 0, none⟩ = some (.bool false)
  f1 : W.frozen? ⟨s + 1, 0, none⟩ = false
  r2 : W.cell? ⟨s + 1 + 1, 0, none⟩ = some (.bool false)
  f2 : W.frozen? ⟨s + 1 + 1, 0, none⟩ = false
  lt : s + 1 + 1 < W.heap.size
theorem Res3.on {s : Nat} {a : Option Addr} {n c : Nat} {W W' : World} (h : Res3 s a n c W) (k : Below W.heap.size W W') : Res3 s a n c W' := by
  have := h.lt
  exact ⟨(World.cell?_of_block (a := ⟨s, 0, none⟩) (k.block s (by omega))).trans h.box, (World.cell?_of_block (a := ⟨s + 1, 0, none⟩) (k.block (s + 1) (by omega))).trans h.r1, (World.frozen?_of_block (a := ⟨s + 1, 0, none⟩) (k.block (s + 1) (by omega))).trans h.f1, (World.cell?_of_block (a := ⟨s + 1 + 1, 0, none⟩) (k.block (s + 1 + 1) (by omega))).trans h.r2, (World.frozen?_of_block (a := ⟨s + 1 + 1, 0, none⟩) (k.block (s + 1 + 1) (by omega))).trans h.f2, Nat.lt_of_lt_of_le h.lt k.size⟩
theorem Res3.own {β : Type} {s : Nat} {a : Option Addr} {n c : Nat} : Own (fun (_ : β) W => Res3 s a n c W) := fun _ A B row hs hg hr => ⟨cell_kept hs.box hg hr, cell_kept hs.r1 hg hr, (frozen_kept hs.r1 hg hr).trans hs.f1, cell_kept hs.r2 hg hr, (frozen_kept hs.r2 hg hr).trans hs.f2, Nat.lt_of_lt_of_le hs.lt hg.size⟩

set_option maxRecDepth 1000000 in
set_option maxHeartbeats 2000000 in
theorem isFree_in (N : Nat) (hN3 : 3 ≤ N) (a : Option Addr) (n c : Nat) (t : List Nd) (ps : List Txt) (hv : Valid t ps) (r v : Bool) (hr : trieB t = true) (hvv : v = true ↔ ∀ y : EW t ps, Aln y) (w : World) (hN : Nds w.heap.size w a n c t) :
    CallsIn Fence.wide N Try.prog 70 #[.agg #[.slice a n c]] w fun e w' => e = .returned (.tuple #[.bool v, .bool true]) ∧ Below w.heap.size w w' := by
  have h1 : 1 ≤ N := by omega
  have HN := Lib.hid hN
  have HV := Lib.hid hv
  have hn481 : n ≤ 481 := by have := hv.size; have := hN.len; omega
  have hW1 : ∃ W1, ((w.alloc (.cells #[.slice a n c] 28)).alloc (.cells #[.bool false] 4)).alloc (.cells #[.bool false] 4) = W1 := ⟨_, rfl⟩
  have hB0 : Below w.heap.size w (((w.alloc (.cells #[.slice a n c] 28)).alloc (.cells #[.bool false] 4)).alloc (.cells #[.bool false] 4)) := (((Below.refl _ w).alloc (Nat.le_refl _) _).alloc (by simp) _).alloc (by simp; omega) _
  have cTi : Hid (∀ (W' : World), Below w.heap.size w W' → Calls Try.prog 17 #[.agg #[.slice a n c]] W' fun e w' => e = .returned (.bool true) ∧ Below W'.heap.size W' w') := Lib.hid (fun W' k => by rw [← hr]; exact isTrie_any w.heap.size a n c t W' k.size (hN.keep k))
  have HB0 := Lib.hid hB0
  have q0 := cellNew w (.slice a n c) 28
  have q1 := cellNew (w.alloc (.cells #[.slice a n c] 28)) (.bool false) 4
  have q2 := cellNew ((w.alloc (.cells #[.slice a n c] 28)).alloc (.cells #[.bool false] 4)) (.bool false) 4
  simp only [World.size_alloc] at q1 q2
  have hQ0 : Res3 w.heap.size a n c (((w.alloc (.cells #[.slice a n c] 28)).alloc (.cells #[.bool false] 4)).alloc (.cells #[.bool false] 4)) := ⟨cellOld _ (cellOld _ q0.1), cellOld _ q1.1, frozenOld _ q1.1 q1.2, q2.1, q2.2, by simp⟩
  have HQ0 := Lib.hid hQ0
  clear hB0 hW1 hN hv hr q0 q1 q2 hQ0
  refine callsIn_of_wp_marks Try.func70 rfl trivial ?_ rfl
  simp only [Try.ntmps70, List.size_toArray, List.length_cons, List.length_nil, Nat.reduceAdd, Nat.reduceSub, Array.replicate_succ, Array.replicate_zero, List.push_toArray, List.append_toArray, List.nil_append, List.cons_append]
  gi_wp2_with (first
    | (refine ⟨trivial, ?_⟩; gi_at_call 17; refine (callsIn_wide.2 (cTi.out _ HB0.out)).mono ?_; rintro e w2 ⟨rfl, hb2⟩; have hQ2 := HQ0.out.on hb2; have HB2 := Lib.hid (HB0.out.trans (hb2.mono HB0.out.size)); have hbx := hQ2.box; clear hb2)
    | (refine ⟨trivial, ?_⟩; gi_at_call 131; refine (eachWord_in (N - 1) a n c _).mono ?_; rintro e w3 ⟨rfl, rfl⟩))
  have hB3 : Below w.heap.size w (w2.alloc (.cells #[.slice a n c] 28)) := HB2.out.alloc HB2.out.size _
  have hQ3 : Res3 w.heap.size a n c (w2.alloc (.cells #[.slice a n c] 28)) := hQ2.on ((Below.refl _ _).alloc (Nat.le_refl _) _)
  have hE3 := (cellNew w2 (.slice a n c) 28).1
  have hS3 : w2.heap.size < (w2.alloc (.cells #[.slice a n c] 28)).heap.size := by simp
  have hs2 := HB2.out.size
  obtain ⟨E, hE⟩ : ∃ E, w2.heap.size = E := ⟨_, rfl⟩
  rw [hE] at hE3 hS3 hs2 ⊢
  clear hE
  obtain ⟨W3, hW3⟩ : ∃ W3, w2.alloc (.cells #[.slice a n c] 28) = W3 := ⟨_, rfl⟩
  rw [hW3] at hB3 hQ3 hE3 hS3 ⊢
  have HB3 := Lib.hid hB3
  have HQ3 := Lib.hid hQ3
  have HE3 := Lib.hid (And.intro hE3 (And.intro hS3 hs2))
  clear hW3 hB3 hQ3 hE3 hS3 hs2 hbx hQ2 HB2 HB0 HQ0 cTi
  refine wpIn_rangeFunc_ownF rfl h1 (gf := 154) (lb := #[.pointer (some ⟨E, 0, none⟩)]) rfl trivial (enters_of Try.func154 (by kernel_rfl) rfl)
    (each_stops (N - 1) (by omega) E w.heap.size n c a t ps HV.out W3 HE3.out.2.1 (by have := HE3.out; omega) HE3.out.1 (HN.out.keep HB3.out)) KeepE.trans (keepE_b HE3.out.2.1 (by have := HE3.out; omega)) (Below.refl _ _) (fun _ => rfl)
    (fun pre W => (∀ y ∈ pre, Aln y) ∧ Below W3.heap.size W3 W)
    (fun c' pre W => (c' = .ret ∧ v = false ∧ W.cell? ⟨w.heap.size + 1, 0, none⟩ = some (.bool false) ∧ W.cell? ⟨w.heap.size + 1 + 1, 0, none⟩ = some (.bool true)) ∧ Below w.heap.size w W)
    (OwnFrom.and (Own.from (fun s A B row hs hg hr => hs) _) (ownFrom_below (Nat.le_refl _) (Nat.le_refl _)))
    (fun c' => OwnFrom.and (Own.from (fun s A B row hs hg hr => ⟨hs.1, hs.2.1, cell_kept hs.2.2.1 hg hr, cell_kept hs.2.2.2 hg hr⟩) _) (ownFrom_below (Nat.le_refl _) (by have := HE3.out; omega)))
    ⟨by simp, Below.refl _ _⟩
    (fun x => { tmps := #[.agg #[.slice a n c], .pointer (some ⟨w.heap.size, 0, none⟩), .pointer (some ⟨w.heap.size + 1, 0, none⟩), .pointer (some ⟨w.heap.size + 1 + 1, 0, none⟩), .int .i64 (x.i : Int), .agg #[.slice a n c], .bool true, .bool false, .agg #[.slice a n c], .func (.func 154) #[] #[.pointer (some ⟨E, 0, none⟩)], .int .i64 (x.i : Int), .string (bx x.x), undef, undef, undef, undef], defers := [] }) ?assign ?body ?done ?stop
  case assign =>
    intro l x W K hK
    gi_wp2
    exact hK
  case body =>
    rintro l pre x W ⟨hp, hB⟩ _
    have hxn : x.i < n := by
      obtain ⟨d, hd, _⟩ := x.en
      have := (List.getElem?_eq_some_iff.1 hd).1
      have hl := HN.out.len
      omega
    have hQ := HQ3.out.on hB
    have hBw := HB3.out.trans (hB.mono HB3.out.size)
    have cA : Hid (Calls Try.prog 136 #[.agg #[.slice a n c], .int .i64 (x.i : Int)] W fun e w' => ∃ q, e = .returned (.bool q) ∧ (q = true ↔ Aln x) ∧ Below W.heap.size W w') := Lib.hid ((isAlone_any w.heap.size a n c x.i t ps W hBw.size (HN.out.keep hBw) (by omega) HV.out.tells hxn).mono (fun e w' ⟨b, h5, h6, h7⟩ => ⟨_, h5, aln_iff HV.out.tells x h6, h7⟩))
    have HP := Lib.hid (And.intro hp (And.intro hB (And.intro hQ hBw)))
    have hbx := hQ.box
    have h1b : 1 ≤ N - 1 - 1 := by omega
    clear hp hB hQ hBw hxn
    gi_wp2_with (refine ⟨trivial, ?_⟩; gi_at_call 136; refine (CallsIn.inRound l (callsIn_wide.2 cA.out)).mono ?_; rintro e w4 ⟨q, rfl, hq, hb4⟩; have hQ4 := HP.out.2.2.1.on hb4; have hr1 := hQ4.r1; have hf1 := hQ4.f1; have hr2 := hQ4.r2; have hf2 := hQ4.f2; have Hq := Lib.hid (And.intro hq hb4); clear hq hb4; cases q)
    · exact ⟨(keepsOthers_of_below Hq.out.2).trans ((KeepsOthers.setCell _ _ _).trans (KeepsOthers.setCell _ _ _)), ⟨rfl, by
        cases v with
        | false => rfl
        | true => exact absurd (Hq.out.1.2 (hvv.1 rfl x)) (by simp), (twoCells hr1 hr2 false true).1, (twoCells hr1 hr2 false true).2⟩, ((HP.out.2.2.2.trans (Hq.out.2.mono HP.out.2.2.2.size)).setCell (p := ⟨w.heap.size + 1, 0, none⟩) (by simp) _).setCell (p := ⟨w.heap.size + 1 + 1, 0, none⟩) (by simp; omega) _⟩
    · refine ⟨keepsOthers_of_below Hq.out.2, KeepE.far ?_ HP.out.2.2.2.size Hq.out.2, fun y hy => ?_, HP.out.2.1.trans (Hq.out.2.mono HP.out.2.1.size)⟩
      · have h5 := HE3.out.2.1
        have h6 := HP.out.2.1.size
        omega
      · cases List.mem_append.1 hy with
        | inl h5 => exact HP.out.1 y h5
        | inr h5 =>
          obtain rfl := List.mem_singleton.1 h5
          exact Hq.out.1.1 trivial
  case done =>
    rintro D ys W hD hys ⟨hp, hB⟩ hK
    have hv1 : v = true := hvv.2 (fun y => by
      have hm : y.val ∈ ys.map EW.val := by
        rw [hys]
        obtain ⟨d, hd, he⟩ := y.en
        exact pls_mem hd y.at' he _ (List.getElem?_eq_some_iff.1 hd).1
      obtain ⟨y', hy, e⟩ := List.mem_map.1 hm
      have h7 := hp y' hy
      have e1 : y'.i = y.i := congrArg Prod.fst e
      have e2 : y'.x = y.x := congrArg Prod.snd e
      unfold Aln at h7 ⊢
      rw [e1, e2] at h7
      exact h7)
    subst hv1
    have hQ4 := HQ3.out.on hB
    have hr1 := hQ4.r1
    have hf1 := hQ4.f1
    have hr2 := hQ4.r2
    have hf2 := hQ4.f2
    have HBw := Lib.hid (HB3.out.trans (hB.mono HB3.out.size))
    clear hQ4 hB hp hys
    gi_wp2
    have hK' := ((KeepsOthers.setCell W ⟨w.heap.size + 1, 0, none⟩ (.bool true)).trans (KeepsOthers.setCell _ ⟨w.heap.size + 1 + 1, 0, none⟩ (.bool true))).same D _ hK rfl
    have ht := twoCells hr1 hr2 true true
    have hw3 := HB3.out.size
    refine ⟨by simp, .inl ⟨_, _, rfl, run_takeDeferred hK', ?_⟩⟩
    have hc5 := cell_kept ht.1 (grownBy_putObj' _ D (.deferred none)) (fun r e => by cases e; exact ⟨_, hK', rfl⟩)
    have hc6 := cell_kept ht.2 (grownBy_putObj' _ D (.deferred none)) (fun r e => by cases e; exact ⟨_, hK', rfl⟩)
    refine ⟨.tuple #[.bool true, .bool true], ?_, rfl, ((HBw.out.setCell (p := ⟨w.heap.size + 1, 0, none⟩) (by simp) _).setCell (p := ⟨w.heap.size + 1 + 1, 0, none⟩) (by simp; omega) _).trans (belowK_b (w := w) (Nat.le_refl _) _ D _ _ (by omega) hK' rfl rfl)⟩
    simp [results, Try.f70, go_sem, hc5, hc6]
  case stop =>
    rintro D c' pre W hD hpre ⟨⟨rfl, hv, hc1, hc2⟩, hB⟩ hK
    gi_wp2
    have hw3 := HB3.out.size
    have hp3 := HE3.out
    refine ⟨by simp, .inl ⟨_, _, rfl, run_takeDeferred hK, ?_⟩⟩
    have hc5 := cell_kept hc1 (grownBy_putObj' _ D (.deferred none)) (fun r e => by cases e; exact ⟨_, hK, rfl⟩)
    have hc6 := cell_kept hc2 (grownBy_putObj' _ D (.deferred none)) (fun r e => by cases e; exact ⟨_, hK, rfl⟩)
    refine ⟨.tuple #[.bool false, .bool true], ?_, by rw [hv], hB.trans (belowK_b (w := w) (Nat.le_refl _) W D _ _ (by omega) hK rfl rfl)⟩
    simp [results, Try.f70, go_sem, hc5, hc6]

end Go.Proofs.Ytoofpgehkihbcac
