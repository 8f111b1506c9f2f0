import Derived.Test.YtibdfhhbkbncgabKids
import Derived.Test.YtibdfhhbkbncgabMF
import Derived.Test.YtibdfhhbkbncgabOf
import Derived.Test.YtibdfhhbkbncgabME
import Derived.Deep.DeepCutAuto
import Derived.Test.YtibdfhhbkbncgabOwnTrie
import Derived.Test.YtibdfhhbkbncgabGvT

/-
  The text of a node and how long it can be: plain mathematics.
-/
namespace Go.Proofs.Ytibdfhhbkbncgab
set_option linter.unusedVariables false

/-- each node has a place behind all that is under it -/
theorem behind_ex {t : List Nd} {ps : List Txt} (h : Tells t t.length ps) {i : Nat} (hi : i < t.length) : ∃ b, Behind t ps i b := by
  obtain ⟨_, x, _, hx⟩ := h.at hi
  have key : ∀ (f k : Nat), t.length ≤ k + f → i < k → k ≤ t.length → (∀ (m : Nat) (z : Txt), i < m → m < k → ps[m]? = some z → x <+: z) → ∃ b, Behind t ps i b := by
    intro f
    induction f with
    | zero =>
      intro k hf hik hk ha
      refine ⟨k, hik, hk, fun x' hx' m z h1 h2 h3 => ?_, fun x' y' _ hy' => ?_⟩
      · rw [hx] at hx'
        rw [← Option.some.inj hx']
        exact ha m z h1 h2 h3
      · have := (List.getElem?_eq_some_iff.1 hy').1
        have := h.len
        omega
    | succ f ih =>
      intro k hf hik hk ha
      by_cases hkl : k < t.length
      · obtain ⟨_, y, _, hy⟩ := h.at hkl
        by_cases hp : x <+: y
        · refine ih (k + 1) (by omega) (by omega) (by omega) (fun m z h1 h2 h3 => ?_)
          by_cases e : m = k
          · subst e
            rw [hy] at h3
            rw [← Option.some.inj h3]
            exact hp
          · exact ha m z h1 (by omega) h3
        · refine ⟨k, hik, hk, fun x' hx' m z h1 h2 h3 => ?_, fun x' y' hx' hy' hh => ?_⟩
          · rw [hx] at hx'
            rw [← Option.some.inj hx']
            exact ha m z h1 h2 h3
          · rw [hx] at hx'
            rw [hy] at hy'
            rw [← Option.some.inj hx', ← Option.some.inj hy'] at hh
            exact hp hh
      · exact ih k (by omega) hik hk ha
  exact key t.length (i + 1) (by omega) (by omega) (by omega) (fun m z h1 h2 => by omega)

/-- the text of a node, with so much fuel -/
def txtOf (t : List Nd) : Nat → Nat → Txt
  | 0, _ => []
  | f + 1, i => match t[i]? with
    | none => []
    | some d => (if i = 0 then [] else [UInt8.ofNat (97 + d.l).toNat]) ++ (if d.e then [46] else []) ++
        (if (kidsTo t i t.length).length = 0 then [] else [40] ++ (kidsTo t i t.length).flatMap (txtOf t f) ++ [41])

/-- the texts of the kids among the first k nodes -/
def txtKids (t : List Nd) (f i k : Nat) : Txt := (kidsTo t i k).flatMap (txtOf t f)

theorem txtKids_low (t : List Nd) (f i : Nat) : txtKids t f i (i + 1) = [] := by simp [txtKids, kidsTo_low]

theorem txt_bound {t : List Nd} {ps : List Txt} (h : Tells t t.length ps) : ∀ (f i b : Nat), Behind t ps i b → (txtOf t f i).length ≤ 4 * (b - i)
  | 0, i, b, _ => by simp [txtOf]
  | f + 1, i, b, hb => by
    have hi : i < t.length := by have := hb.lt; have := hb.le; omega
    obtain ⟨d, x, hd, hx⟩ := h.at hi
    have hib := hb.lt
    -- the kids' texts, stretch by stretch
    have key : ∀ (g k : Nat), t.length ≤ k + g → i < k → k ≤ b → KidAt t ps i k → (txtKids t f i k).length ≤ 4 * (k - i - 1) → (txtKids t f i t.length).length ≤ 4 * (b - i - 1) := by
      intro g
      induction g with
      | zero =>
        intro k hg hik hkb _ hl
        have : k = t.length := by have := hb.le; omega
        rw [this] at hl
        have := hb.le
        omega
      | succ g ih =>
        intro k hg hik hkb hK hl
        by_cases hkl : k < t.length
        · obtain ⟨dk, y, hdk, hy⟩ := h.at hkl
          by_cases hp : dk.p = (i : Int)
          · obtain ⟨b2, hb2⟩ := behind_ex h hkl
            have hkb2 := hb2.lt
            obtain ⟨c, hyc⟩ := (par_iff h hx (by omega) hdk).1 hp
            have hb2b : b2 ≤ b := by
              by_cases hle : b2 ≤ b
              · exact hle
              · exfalso
                have hbl : b < t.length := by have := hb2.le; omega
                obtain ⟨_, z, _, hz⟩ := h.at hbl
                have hkb' : k ≠ b := by
                  rintro rfl
                  exact hb.stop x _ hx hyc (List.prefix_append _ _)
                have h1 := hb2.all _ hyc b z (by omega) (by omega) hz
                exact hb.stop x z hx hz ((List.prefix_append _ _).trans h1)
            have hkids : kidsTo t i b2 = kidsTo t i k ++ [k] := by
              rw [kidsTo_skip (k + 1) b2 (by omega) (fun m d h1 h2 h3 h4 => not_kid h hik hdk hp hb2 (by omega) h2 h3 h4.2), kidsTo_hit hdk hik hp]
            have hlen : (txtKids t f i b2).length ≤ 4 * (b2 - i - 1) := by
              have e : txtKids t f i b2 = txtKids t f i k ++ txtOf t f k := by
                unfold txtKids
                rw [hkids, List.flatMap_append]
                simp
              rw [e, List.length_append]
              have := txt_bound h f k b2 hb2
              omega
            exact ih b2 (by omega) (by omega) hb2b (kidAt_next h hik hdk hp hb2) hlen
          · have hsk : kidsTo t i t.length = kidsTo t i k := kidsTo_skip k t.length (by omega) (fun m d h1 h2 h3 h4 => no_more h hik hK hdk hp h1 h3 h4.2)
            have e : txtKids t f i t.length = txtKids t f i k := by unfold txtKids; rw [hsk]
            rw [e]
            omega
        · have e : k = t.length := by have := hb.le; omega
          rw [e] at hl
          have := hb.le
          omega
    have hk := key t.length (i + 1) (by omega) (by omega) (by omega) (kidAt_first h i) (by rw [txtKids_low]; simp)
    unfold txtKids at hk
    have hL1 : ((if i = 0 then [] else [UInt8.ofNat (97 + d.l).toNat] : Txt)).length ≤ 1 := by split <;> simp
    have hL2 : ((if d.e then [46] else [] : Txt)).length ≤ 1 := by split <;> simp
    have hL3 : ((if (kidsTo t i t.length).length = 0 then [] else [40] ++ (kidsTo t i t.length).flatMap (txtOf t f) ++ [41] : Txt)).length ≤ 4 * (b - i - 1) + 2 := by
      split
      · simp
      · simp only [List.length_append, List.length_cons, List.length_nil]
        omega
    have e : txtOf t (f + 1) i = ((if i = 0 then [] else [UInt8.ofNat (97 + d.l).toNat]) ++ (if d.e then [46] else []) ++
        (if (kidsTo t i t.length).length = 0 then [] else [40] ++ (kidsTo t i t.length).flatMap (txtOf t f) ++ [41])) := by
      simp only [txtOf, hd]
    rw [e]
    simp only [List.length_append] at hL1 hL2 hL3 ⊢
    omega

/-- what stands ahead of the kids' texts -/
def headOf (d : Nd) (i : Nat) : Txt := (if i = 0 then [] else [UInt8.ofNat (97 + d.l).toNat]) ++ (if d.e then [46] else [])

theorem txtOf_leaf {t : List Nd} {f i : Nat} {d : Nd} (hd : t[i]? = some d) (hk : kidsTo t i t.length = []) : txtOf t (f + 1) i = headOf d i := by
  simp [txtOf, hd, hk, headOf]
theorem txtOf_kids {t : List Nd} {f i : Nat} {d : Nd} (hd : t[i]? = some d) (hk : kidsTo t i t.length ≠ []) : txtOf t (f + 1) i = headOf d i ++ [40] ++ (kidsTo t i t.length).flatMap (txtOf t f) ++ [41] := by
  have h0 : ¬ (kidsTo t i t.length).length = 0 := fun h => hk (List.eq_nil_of_length_eq_zero h)
  simp [txtOf, hd, h0, headOf]

/-- the beginning of a text up to the k-th kid -/
def upTo (t : List Nd) (f i : Nat) (d : Nd) (k : Nat) : Txt := headOf d i ++ [40] ++ ((kidsTo t i t.length).take k).flatMap (txtOf t f)

theorem upTo_succ {t : List Nd} {f i k j : Nat} {d : Nd} (h : (kidsTo t i t.length)[k]? = some j) : upTo t f i d (k + 1) = upTo t f i d k ++ txtOf t f j := by
  obtain ⟨hk, e⟩ := List.getElem?_eq_some_iff.1 h
  unfold upTo
  rw [List.take_succ_eq_append_getElem hk, List.flatMap_append, e]
  simp
theorem upTo_all {t : List Nd} {f i k : Nat} {d : Nd} (hd : t[i]? = some d) (hk : kidsTo t i t.length ≠ []) (h : (kidsTo t i t.length).length ≤ k) : upTo t f i d k ++ [41] = txtOf t (f + 1) i := by
  rw [txtOf_kids hd hk]
  unfold upTo
  rw [List.take_of_length_le h]
theorem upTo_len {t : List Nd} {f i k : Nat} {d : Nd} (hd : t[i]? = some d) (hk : kidsTo t i t.length ≠ []) : (upTo t f i d k).length + 1 ≤ (txtOf t (f + 1) i).length := by
  rw [txtOf_kids hd hk]
  unfold upTo
  have e := List.take_append_drop k (kidsTo t i t.length)
  have : ((kidsTo t i t.length).flatMap (txtOf t f)).length = (((kidsTo t i t.length).take k).flatMap (txtOf t f)).length + (((kidsTo t i t.length).drop k).flatMap (txtOf t f)).length := by
    rw [← List.length_append, ← List.flatMap_append, e]
  simp only [List.length_append, List.length_cons, List.length_nil]
  omega

theorem txt_short {t : List Nd} {ps : List Txt} (h : Tells t t.length ps) (hn : t.length ≤ 481) {f i : Nat} (hi : i < t.length) : (txtOf t f i).length ≤ 2000 := by
  obtain ⟨b, hb⟩ := behind_ex h hi
  have := txt_bound h f i b hb
  have := hb.le
  omega

end Go.Proofs.Ytibdfhhbkbncgab

/-
  The kids of a node one after another, told by the next letter: plain mathematics.
-/
namespace Go.Proofs.Ytibdfhhbkbncgab
set_option linter.unusedVariables false

/-- all kids with letters below lo, and what is under them, stand before k; the others from k on -/
structure KH (t : List Nd) (ps : List Txt) (i : Nat) (x : Txt) (lo k : Nat) : Prop where
  lt : i < k
  le : k ≤ t.length
  all : ∀ (m : Nat) (z : Txt), i < m → m < k → ps[m]? = some z → x <+: z
  part : ∀ (c : UInt8) (m : Nat) (z : Txt), ps[m]? = some z → x ++ [c] <+: z → (c.toNat < lo ↔ m < k)

/-- all beginnings are there -/
def Shut (ps : List Txt) : Prop := ∀ (x : Txt) (c : UInt8), x ++ [c] ∈ ps → x ∈ ps

theorem Shut.up {ps : List Txt} (h : Shut ps) : ∀ (r y : Txt), y ++ r ∈ ps → y ∈ ps := by
  intro r
  obtain ⟨n, hn⟩ : ∃ n, r.length = n := ⟨_, rfl⟩
  induction n generalizing r with
  | zero =>
    intro y hy
    obtain rfl := List.length_eq_zero_iff.1 hn
    simpa using hy
  | succ n ih =>
    intro y hy
    have hne : r ≠ [] := by rintro rfl; simp at hn
    rw [← List.dropLast_concat_getLast hne, ← List.append_assoc] at hy
    exact ih r.dropLast (by simp [hn]) y (h _ _ hy)

theorem Shut.pre {ps : List Txt} (h : Shut ps) {y z : Txt} (hp : y <+: z) (hz : z ∈ ps) : y ∈ ps := by
  obtain ⟨r, rfl⟩ := hp
  exact h.up r y hz

theorem under_kid {x z : Txt} (h : x <+: z) (hne : x ≠ z) : ∃ f, x ++ [f] <+: z := by
  obtain ⟨r, rfl⟩ := h
  cases r with
  | nil => exact absurd (by simp) hne
  | cons f r => exact ⟨f, r, by simp⟩

theorem kid_same {x z : Txt} {c f : UInt8} (h : x ++ [c] <+: z) (k : x ++ [f] <+: z) : c = f := by
  obtain ⟨r, rfl⟩ := h
  obtain ⟨q, hq⟩ := k
  rw [List.append_assoc, List.append_assoc] at hq
  have : ([f] ++ q : Txt) = [c] ++ r := List.append_cancel_left hq
  simpa using (List.cons.inj this).1.symm

section
variable {t : List Nd} {ps : List Txt} {i k lo : Nat} {x : Txt}

theorem KH.start (h : Tells t t.length ps) (hx : ps[i]? = some x) : KH t ps i x 0 (i + 1) :=
  ⟨by omega, by have := h.len; have := (List.getElem?_eq_some_iff.1 hx).1; omega, fun m z h1 h2 => by omega, fun c m z hz hp => by
    have hb : bef x z = true := bef_pre ((List.prefix_append _ _).trans hp) (by
      rintro rfl
      have := hp.length_le
      simp at this
      omega)
    have := asc_pos h.asc hx hz hb
    omega⟩

theorem KH.kid (h : Tells t t.length ps) (hs : Shut ps) (hx : ps[i]? = some x) (hk : KH t ps i x lo k) {c : UInt8} (ho : IsNk ps x lo (some c)) : ps[k]? = some (x ++ [c]) := by
  obtain ⟨h1, h2, h3⟩ := ho
  obtain ⟨m, hm⟩ := mem_at h2
  have hkm : ¬ m < k := fun hlt => by
    have := (hk.part c m _ hm (List.prefix_refl _)).2 hlt
    omega
  rcases Nat.lt_or_eq_of_le (Nat.le_of_not_lt hkm) with hlt | rfl
  · exfalso
    have hkl : k < ps.length := by have := (List.getElem?_eq_some_iff.1 hm).1; omega
    obtain ⟨z, hz⟩ : ∃ z, ps[k]? = some z := ⟨_, List.getElem?_eq_getElem hkl⟩
    have b1 := asc_lt h.asc hx hz hk.lt
    have b2 := asc_lt h.asc hz hm hlt
    have hp := pre_between b1 b2 (List.prefix_append _ _)
    obtain ⟨f, hf⟩ := under_kid hp (bef_ne b1)
    have hfl : ¬ f.toNat < lo := fun hh => by
      have := (hk.part f k z hz hf).1 hh
      omega
    have hfm := hs.pre hf (at_mem hz)
    have hfc : ¬ f.toNat < c.toNat := fun hh => h3 f (by omega) hh hfm
    by_cases e : f = c
    · subst e
      by_cases e2 : x ++ [f] = z
      · rw [e2, bef_irrefl] at b2; cases b2
      · have := bef_pre hf e2
        rw [bef_asymm this] at b2
        cases b2
    · have hcf : c.toNat < f.toNat := by
        have : c.toNat ≠ f.toNat := fun hh => e (UInt8.toNat_inj.1 hh).symm
        omega
      obtain ⟨r, rfl⟩ := hf
      rw [List.append_assoc, bef_app] at b2
      have hne : ¬ f = c := e
      simp only [List.singleton_append, bef, if_neg hne, decide_eq_true_eq, UInt8.lt_iff_toNat_lt] at b2
      omega
  · exact hm

theorem KH.next (h : Tells t t.length ps) (hs : Shut ps) (hx : ps[i]? = some x) (hk : KH t ps i x lo k) {c : UInt8} (ho : IsNk ps x lo (some c)) {b : Nat} (hb : Behind t ps k b) : KH t ps i x (c.toNat + 1) b := by
  have hkc := hk.kid h hs hx ho
  obtain ⟨h1, h2, h3⟩ := ho
  have hlt := hk.lt
  have hkb := hb.lt
  refine ⟨by omega, hb.le, fun m z m1 m2 hz => ?_, fun f m z hz hf => ?_⟩
  · rcases Nat.lt_or_ge m k with hm | hm
    · exact hk.all m z m1 hm hz
    · exact (List.prefix_append _ _).trans ((hb.iff h hkc hz).2 ⟨hm, m2⟩)
  · have hp := hk.part f m z hz hf
    have hi := hb.iff h hkc hz
    have hfm := hs.pre hf (at_mem hz)
    by_cases hfl : f.toNat < lo
    · have := hp.1 hfl
      omega
    · have hfc : ¬ f.toNat < c.toNat := fun hh => h3 f (by omega) hh hfm
      by_cases e : f = c
      · subst e
        have := hi.1 hf
        omega
      · have : c.toNat ≠ f.toNat := fun hh => e (UInt8.toNat_inj.1 hh).symm
        constructor
        · intro; omega
        · intro hmb
          exact absurd (kid_same ((hi).2 ⟨by omega, hmb⟩) hf).symm e

theorem KH.stop (h : Tells t t.length ps) (hs : Shut ps) (hx : ps[i]? = some x) (hk : KH t ps i x lo k) (ho : IsNk ps x lo none) : Behind t ps i k :=
  ⟨hk.lt, hk.le, fun x' hx' m z m1 m2 hz => by
    rw [hx] at hx'
    rw [← Option.some.inj hx']
    exact hk.all m z m1 m2 hz, fun x' y' hx' hy' hp => by
    rw [hx] at hx'
    rw [← Option.some.inj hx'] at hp
    have b1 := asc_lt h.asc hx hy' hk.lt
    obtain ⟨f, hf⟩ := under_kid hp (bef_ne b1)
    have hfl : ¬ f.toNat < lo := fun hh => by
      have := (hk.part f k y' hy' hf).1 hh
      omega
    exact ho f (by omega) (hs.pre hf (at_mem hy'))⟩

end

end Go.Proofs.Ytibdfhhbkbncgab

/-
  The program's numbering of the twigs: the nodes are appended in the order of their texts.
-/
namespace Go.Proofs.Ytibdfhhbkbncgab
open Go.RowKit
set_option linter.unusedVariables false

/-- the nodes say what the twigs hold -/
def Match (t : List Nd) (ps : List Txt) (en : Txt → Bool) : Prop := ∀ (i : Nat) (x : Txt) (d : Nd), ps[i]? = some x → t[i]? = some d → d.l = letOf x ∧ d.e = en x

def NumPost (bT : Nat) (w : World) (v : Value) (t : List Nd) (ps : List Txt) (i : Nat) (e : Ending) (w' : World) : Prop :=
  ∃ b v', e = .returned v' ∧ Behind t ps i b ∧ w'.ownsRow bT 55 3 v' b (ndc (t.take b)) ∧ Grew w w' v v'

set_option maxRecDepth 1000000 in
set_option maxHeartbeats 2000000 in
theorem number_any (base bT : Nat) (ps : List Txt) (en : Txt → Bool) (A : Txt → Nat) (t : List Nd) (hT : Tells t t.length ps) (hM : Match t ps en) (hn : t.length ≤ 481) (hlow : ∀ x ∈ ps, A x < bT) :
    ∀ (f i : Nat) (x : Txt) (d : Nd) (v : Value) (w : World), t.length ≤ i + f → ps[i]? = some x → t[i]? = some d → bT ≤ w.heap.size → w.ownsRow bT 55 3 v i (ndc (t.take i)) → Twigs base w ps en A →
    Calls Try.prog 88 #[.pointer (some ⟨A x, 0, none⟩), v, .int .i64 d.p] w (NumPost bT w v t ps i)
  | 0, i, x, d, v, w, hf, hx, hd, _, _, _ => by
    have := (List.getElem?_eq_some_iff.1 hd).1
    omega
  | f + 1, i, x, d, v, w, hf, hx, hd, hbT, hown, htw => by
    have ih := Lib.hid (number_any base bT ps en A t hT hM hn hlow f)
    have HT := Lib.hid hT
    have hi := (List.getElem?_eq_some_iff.1 hd).1
    have hi481 : i < 481 := by omega
    have HX := Lib.hid hx
    have HD := Lib.hid hd
    have HB := Lib.hid hbT
    have HTw := Lib.hid htw
    have HLow := Lib.hid hlow
    have HN := Lib.hid hn
    have HF := Lib.hid hf
    have HS : Hid (Shut ps) := Lib.hid htw.closed
    obtain ⟨hml, hme⟩ := hM i x d hx hd
    obtain ⟨kp, np, hTB, hk0, _⟩ := htw.spot x (at_mem hx)
    have hc0 := hTB.c0
    have hc1 := hTB.c1
    have hc2 := hTB.c2
    rw [← hml] at hc0
    rw [← hme] at hc1
    have HK0 := Lib.hid hk0
    obtain ⟨a, c, rfl⟩ := own_slice hown
    have HO := Lib.hid hown
    have HRow : Hid (ndc (t.take i) ++ [.int .i64 d.l, .int .i64 d.p, .bool d.e] = ndc (t.take (i + 1))) := Lib.hid (by rw [take_mk hd, ndc_app]; rfl)
    obtain ⟨i0, hii, hz0, hz1, hz2⟩ := info_parts infoN
    have hltA : A x < w.heap.size := htw.lt (at_mem hx)
    have hneA : some (A x) ≠ Value.ownBlock (.slice a i c) := fun he => by
      have h1 := (hown.lt _ he.symm).1
      have h2 := hlow x (at_mem hx)
      omega
    clear hT hx hd hbT hown htw hml hme hTB hk0 hM hlow hn hf hi
    go_enter Try.func88, Try.ntmps88
    go_wp2
    go_region_held3 (fun w' => w'.cell? ⟨A x, 0, none⟩ = some (.int .i64 d.l) ∧ w'.cell? ⟨A x, 1, none⟩ = some (.bool d.e))
      (first
        | exact ⟨(hGr.cell ⟨A x, 0, none⟩ hltA hneA).trans hc0, (hGr.cell ⟨A x, 1, none⟩ hltA hneA).trans hc1⟩
        | exact ⟨(World.cell?_alloc_lt _ _ _ hltA).trans hc0, (World.cell?_alloc_lt _ _ _ hltA).trans hc1⟩
        | exact ⟨hc0, hc1⟩)
      (first
        | (refine step_append_row (by rfl) _ _ 29 (by rfl) bT 55 i0 (.agg #[.int .i64 0, .int .i64 0, .bool false]) 3 24 Try.underlying29 hii hz0 hz1 hz2 (by rfl) (by decide) _ _ _ (by rfl) (by exact HO.out.alloc _) ⟨_, 0, none⟩ 1 1 [.int .i64 d.l, .int .i64 d.p, .bool d.e] (by rfl) (by rfl) (by exact news_at (cs := #[.int .i64 d.l, .int .i64 d.p, .bool d.e]) (by rfl)) (by simp [Value.oneCell']) (by unfold maxLen; omega) (by omega) (by have := HB.out; simp; omega) ?_; intro v2 w2 hO2 hG2 hat2; have hGr : Grew w w2 (.slice a i c) v2 := Grew.app (o := .cells #[.int .i64 d.l, .int .i64 d.p, .bool d.e] 55) ⟨hG2.os, hG2.tape, hG2.output, hG2.size, hG2.block⟩ hat2; clear hG2 hat2))
    have HO2 : Hid (w2.ownsRow bT 55 3 v2 (i + 1) (ndc (t.take (i + 1)))) := Lib.hid (by rw [← HRow.out]; exact hO2)
    have HG2 := Lib.hid hGr
    have hc2' := (hGr.cell ⟨A x, 2, none⟩ hltA hneA).trans hc2
    have hB2 := (hGr.to HO.out HB.out)
    have HTw2 : Hid (Twigs base w2 ps en A) := Lib.hid (HTw.out.keep fun z hz => hB2.block _ (HLow.out z hz))
    have HB2 : Hid (bT ≤ w2.heap.size) := Lib.hid (Nat.le_trans HB.out hGr.grown.size)
    clear hO2 hGr hc0 hc1 hc2 hB2
    go_wp2
    clear hc2'
    go_loopg [1, 8] (t.length - (i + 1)) (fun g s1 s8 wr => ∃ (lo k : Nat) (v' : Value) (p : Option Addr), s8 = .pointer p ∧ v' = s1 ∧ Hid (g = t.length - k) ∧ Hid (LinkIs ps A x lo p) ∧ Hid (KH t ps i x lo k) ∧ Hid (wr.ownsRow bT 55 3 v' k (ndc (t.take k))) ∧ Hid (Grew w wr (.slice a i c) v') ∧ Hid (Twigs base wr ps en A) ∧ Hid (bT ≤ wr.heap.size))
    case atStart => exact ⟨0, i + 1, v2, kp, rfl, rfl, Lib.hid rfl, HK0, Lib.hid (KH.start HT.out HX.out), HO2, HG2, HTw2, HB2⟩
    case round =>
      obtain ⟨lo, k, v', p, rfl, rfl, HGk, HL, HKH, HOk, HGr, HTk, HBk⟩ := hrel
      obtain ⟨o, hnk, rfl⟩ := HL.out
      have HNk := Lib.hid hnk
      clear hnk
      cases o with
      | none =>
        have HBh := Lib.hid (HKH.out.stop HT.out HS.out HX.out HNk.out)
        simp only [Option.map_none]
        go_wp2
        go_ret
        exact ⟨k, _, rfl, HBh.out, HOk.out, HGr.out⟩
      | some c2 =>
        have hkc := HKH.out.kid HT.out HS.out HX.out HNk.out
        have hik := HKH.out.lt
        have hkl : k < t.length := by have := HT.out.len; have := (List.getElem?_eq_some_iff.1 hkc).1; omega
        obtain ⟨dk, _, hdk, _⟩ := HT.out.at hkl
        have hpk := (par_iff HT.out HX.out (by omega) hdk).2 ⟨c2, hkc⟩
        have HKc := Lib.hid hkc
        have cN := ih.out k (x ++ [c2]) dk v' wr (by have := HF.out; omega) hkc hdk HBk.out HOk.out HTk.out
        rw [hpk] at cN
        have HCN := Lib.hid cN
        clear cN hkc hdk hpk
        simp only [Option.map_some]
        go_wp2_with (go_at_call 88; refine HCN.out.mono ?_; rintro en3 w3 ⟨b, v3, rfl, hb3, hO3, hG3⟩; have HB3 := Lib.hid hb3; have HO3 := Lib.hid hO3; have HG3 := Lib.hid hG3; have HTw3 : Hid (Twigs base w3 ps en A) := Lib.hid (HTk.out.keep fun z hz => (hG3.to HOk.out HBk.out).block _ (HLow.out z hz)); clear hb3 hO3 hG3; obtain ⟨k3, n3, hTB3, _, hN3⟩ := HTw3.out.spot _ (at_mem HKc.out); have hc3 := hTB3.c3; have HN3 := Lib.hid hN3; clear hN3 hTB3)
        have hkb := HB3.out.lt
        go_roundg (t.length - b)
        case measure => rw [HGk.out]; omega
        case rel => exact ⟨c2.toNat + 1, b, v3, n3, rfl, rfl, Lib.hid rfl, Lib.hid (HN3.out x c2 rfl), Lib.hid (HKH.out.next HT.out HS.out HX.out HNk.out HB3.out), HO3, Lib.hid (HGr.out.trans HG3.out), HTw3, Lib.hid (Nat.le_trans HBk.out HG3.out.grown.size)⟩

end Go.Proofs.Ytibdfhhbkbncgab

/-
  The trie of a list of texts, as a row of nodes: plain mathematics.
-/
namespace Go.Proofs.Ytibdfhhbkbncgab
set_option linter.unusedVariables false

/-- all beginnings but the empty one -/
def begs (ws : List Txt) : List Txt := ws.flatMap fun w => (List.range w.length).map fun q => w.take (q + 1)

/-- all beginnings, ascending -/
def pres (ws : List Txt) : List Txt := (begs ws).foldl put [[]]

theorem mem_begs {ws : List Txt} {x : Txt} : x ∈ begs ws ↔ x ≠ [] ∧ ∃ w ∈ ws, x <+: w := by
  unfold begs
  simp only [List.mem_flatMap, List.mem_map, List.mem_range]
  constructor
  · rintro ⟨w, hw, q, hq, rfl⟩
    refine ⟨fun h => ?_, w, hw, List.take_prefix _ _⟩
    have := congrArg List.length h
    rw [List.length_take, List.length_nil] at this
    omega
  · rintro ⟨hne, w, hw, hp⟩
    have hl := hp.length_le
    have h0 : 0 < x.length := List.length_pos_iff.2 hne
    refine ⟨w, hw, x.length - 1, by omega, ?_⟩
    have e : x.length - 1 + 1 = x.length := by omega
    rw [e]
    exact (List.prefix_iff_eq_take.1 hp).symm

theorem pres_pre (ws : List Txt) : Pre ws (pres ws) := by
  have := foldl_put (begs ws) [[]] (by simp)
  refine ⟨this.1, fun x => ?_⟩
  unfold pres
  rw [this.2, mem_begs]
  simp only [List.mem_singleton]
  constructor
  · rintro (h | h)
    · exact .inl h
    · exact .inr h.2
  · rintro (h | h)
    · exact .inl h
    · by_cases e : x = []
      · exact .inl e
      · exact .inr ⟨e, h⟩

theorem foldl_len : ∀ (xs acc : List Txt), (xs.foldl put acc).length ≤ acc.length + xs.length
  | [], acc => by simp
  | y :: r, acc => by
    have h1 := foldl_len r (put acc y)
    have h2 := put_len acc y
    simp only [List.foldl_cons, List.length_cons]
    omega

theorem foldl_len' : ∀ (xs acc : List Txt), acc.length ≤ (xs.foldl put acc).length
  | [], acc => by simp
  | y :: r, acc => by
    have h1 := foldl_len' r (put acc y)
    have h2 := len_put acc y
    simp only [List.foldl_cons]
    omega

theorem begs_len : ∀ {ws : List Txt}, (∀ w ∈ ws, w.length ≤ 12) → (begs ws).length ≤ 12 * ws.length
  | [], _ => by simp [begs]
  | w :: r, h => by
    have h1 := begs_len (ws := r) (fun x hx => h x (List.mem_cons_of_mem _ hx))
    have h2 := h w List.mem_cons_self
    unfold begs at h1 ⊢
    simp only [List.flatMap_cons, List.length_append, List.length_map, List.length_range, List.length_cons]
    omega

theorem pre_few {ws ps : List Txt} (hw : ∀ w ∈ ws, IsW w) (hn : ws.length ≤ 40) (h : Pre ws ps) : ps.length ≤ 481 := by
  rw [h.uniq (pres_pre ws)]
  have h1 := foldl_len (begs ws) [[]]
  have h2 := begs_len (fun w hh => (hw w hh).1)
  unfold pres
  simp only [List.length_cons, List.length_nil] at h1
  omega

/-- the nodes of the trie of some words -/
def made (ws : List Txt) : List Nd := mkT ws (pres ws)

theorem made_of {ws ps : List Txt} (h : Pre ws ps) : mkT ws ps = made ws := by unfold made; rw [h.uniq (pres_pre ws)]

theorem made_valid {ws : List Txt} (ha : Asc ws) (hw : ∀ w ∈ ws, IsW w) (hn : ws.length ≤ 40) : Valid (made ws) (pres ws) :=
  mk_valid ha hw hn (pres_pre ws) (pre_few hw hn (pres_pre ws))

theorem made_isT {ws : List Txt} (ha : Asc ws) (hw : ∀ w ∈ ws, IsW w) (hn : ws.length ≤ 40) : IsT (made ws) := ⟨_, made_valid ha hw hn⟩

/-- a valid trie is that of its words -/
theorem made_wds {t : List Nd} {ps : List Txt} (h : Valid t ps) : made (wds t ps) = t := by rw [← made_of h.pre, h.made]

/-- the trie of a list, if it has one; no node else -/
def tofT (xs : List Txt) : List Nd := if setOk xs then made (setOf xs) else []

theorem tofT_yes {xs : List Txt} (h : setOk xs = true) : tofT xs = made (setOf xs) := if_pos h
theorem tofT_no {xs : List Txt} (h : setOk xs = false) : tofT xs = [] := by unfold tofT; rw [h]; rfl

theorem made_fits {ws : List Txt} (hw : ∀ w ∈ ws, IsW w) (hn : ws.length ≤ 40) : Fits (made ws) := pre_fits hw (pres_pre ws) (pre_few hw hn (pres_pre ws))
theorem tofT_fits (xs : List Txt) : Fits (tofT xs) := by
  cases h : setOk xs with
  | true => rw [tofT_yes h]; exact made_fits (setOk_words h).1 (setOk_words h).2
  | false => rw [tofT_no h]; intro d hd; cases hd
theorem tofT_len (xs : List Txt) : (tofT xs).length ≤ 481 := by
  cases h : setOk xs with
  | true =>
    rw [tofT_yes h]
    unfold made
    rw [mkT_len]
    exact pre_few (setOk_words h).1 (setOk_words h).2 (pres_pre _)
  | false => rw [tofT_no h]; simp

theorem setOf_take_len (xs : List Txt) (k : Nat) : (setOf (xs.take k)).length ≤ (setOf xs).length := by
  unfold setOf
  have : xs.foldl put [] = (xs.drop k).foldl put ((xs.take k).foldl put []) := by rw [← List.foldl_append, List.take_append_drop]
  rw [this]
  exact foldl_len' _ _

theorem setOk_many {xs : List Txt} {k : Nat} (h : 40 < (setOf (xs.take k)).length) : setOk xs = false := by
  unfold setOk
  rw [decide_eq_false_iff_not]
  rintro ⟨_, h2⟩
  have := setOf_take_len xs k
  omega

theorem put_len_new {l : List Txt} {w : Txt} (h : w ∉ l) : (put l w).length = l.length + 1 := by
  induction l with
  | nil => rfl
  | cons y r ih =>
    have h1 : y ≠ w := fun e => h (by simp [e])
    have h2 : w ∉ r := fun e => h (by simp [e])
    unfold put
    split
    · simp [ih h2]
    · simp

end Go.Proofs.Ytibdfhhbkbncgab

/-
  The program's trie of a list of texts.
-/
namespace Go.Proofs.Ytibdfhhbkbncgab
open Go.RowKit
set_option linter.unusedVariables false

/-- a trie that the call owns, and whether there is one -/
def TrieRes (w : World) (t : List Nd) (ok : Bool) (e : Ending) (w' : World) : Prop :=
  ∃ v, e = .returned (.tuple #[.agg #[v], .bool ok]) ∧ w'.ownsRow w.heap.size 55 3 v t.length (ndc t) ∧ Below w.heap.size w w'

theorem made_match {xs : List Txt} : Match (made (setOf xs)) (pres (setOf xs)) (fun z => decide (z ∈ xs)) := by
  intro i x d hx hd
  unfold made at hd
  rw [mkT_at hx] at hd
  obtain rfl := Option.some.inj hd
  constructor
  · unfold mkN letOf
    split <;> rfl
  · rw [mkN_e]
    exact decide_eq_decide.2 mem_setOf

theorem behind_root {t : List Nd} {ps : List Txt} (h : Tells t t.length ps) {b : Nat} (hb : Behind t ps 0 b) : b = t.length := by
  have h1 := hb.le
  by_cases hlt : b < t.length
  · obtain ⟨_, y, _, hy⟩ := h.at hlt
    exact absurd List.nil_prefix (hb.stop [] y h.nil hy)
  · omega

theorem root_p {t : List Nd} {k : Nat} {ps : List Txt} (h : Tells t k ps) : ∃ d, t[0]? = some d ∧ d.p = -1 := by
  obtain ⟨e, he⟩ := h.root
  exact ⟨_, he, rfl⟩

set_option maxRecDepth 1000000 in
set_option maxHeartbeats 2000000 in
theorem implTrieOf_any (B : Nat) (a : Option Addr) (n c : Nat) (xs : List Txt) (w : World) (hB : B ≤ w.heap.size) (h : Wds B w a n c xs) :
    Calls Try.prog 78 #[.slice a n c] w (TrieRes w (tofT xs) (setOk xs)) := by
  have L := Lib.hid h.len
  have C := h.sl.cap
  have T := h.sl.top
  have H := Lib.hid h
  have HB := Lib.hid hB
  clear h hB
  have HBx0 := Lib.hid (Boxed.new w 31 (.slice none 0 0))
  have HB0 : Hid (Below w.heap.size w (w.alloc (.cells #[.slice none 0 0] 31))) := Lib.hid ((Below.refl _ _).alloc (Nat.le_refl _) _)
  have HZ0 : Hid ((w.alloc (.cells #[.slice none 0 0] 31)).heap.size = w.heap.size + 1) := Lib.hid (by simp)
  obtain ⟨ok, hok⟩ : ∃ ok, setOk xs = ok := ⟨_, rfl⟩
  obtain ⟨tt, htt⟩ : ∃ tt, tofT xs = tt := ⟨_, rfl⟩
  rw [hok, htt]
  have HOK := Lib.hid hok
  have HTT := Lib.hid htt
  clear hok htt
  go_enter Try.func78, Try.ntmps78
  go_upto_region 1 with fail
  obtain ⟨W1, hW1⟩ : ∃ W1, w.alloc (.cells #[.slice none 0 0] 31) = W1 := ⟨_, rfl⟩
  rw [hW1] at HBx0 HB0 HZ0 ⊢
  clear hW1
  have HTw0 := Lib.hid (Twigs.start (base := w.heap.size + 1) W1 (by have := HZ0.out; omega) (fun z => decide (z ∈ xs.take 0)) (by simp))
  have HB1 : Hid (Below (w.heap.size + 1) W1 (W1.alloc (.cells #[.int .i64 (-1), .bool false, .pointer none, .pointer none] 111))) := Lib.hid ((Below.refl _ _).alloc (by have := HZ0.out; omega) _)
  go_wp2
  go_loopw [5, 12] (fun q i wr => ∃ (k : Nat) (ps : List Txt) (A : Txt → Nat), k ≤ n ∧ i = .int .i64 k ∧ q = .int .i64 ((setOf (xs.take k)).length : Int) ∧ (setOf (xs.take k)).length ≤ 40 ∧ Hid (A [] = W1.heap.size) ∧ Hid (Twigs (w.heap.size + 1) wr ps (fun z => decide (z ∈ xs.take k)) A) ∧ Hid (Asc ps) ∧ Hid (∀ y, y ∈ ps ↔ y = [] ∨ ∃ v ∈ xs.take k, y <+: v) ∧ Hid (∀ x ∈ xs.take k, IsW x) ∧ Hid (Below (w.heap.size + 1) W1 wr)) (fun _ i _ => n - (intOf i).toNat)
  case atStart => exact ⟨0, [[]], _, Nat.zero_le _, rfl, rfl, by show (setOf []).length ≤ 40; simp [setOf], Lib.hid rfl, HTw0, Lib.hid (by simp), Lib.hid (fun y => by simp), Lib.hid (by simp), HB1⟩
  case round =>
    obtain ⟨k, ps, A, hk, rfl, rfl, h40, HRt, HTw, HAs, HMem, HI, HBw⟩ := hrel
    have HBox := Lib.hid (box_under HBx0.out HBw.out (by omega))
    have HBwr : Hid (Below w.heap.size w wr) := Lib.hid (HB0.out.trans (HBw.out.mono (by omega)))
    have hrc := HBox.out.cell
    have hrf := HBox.out.frozen
    have hzr : w.heap.size + 1 ≤ wr.heap.size := by have := HBw.out.size; have := HZ0.out; omega
    obtain ⟨m, hm⟩ : ∃ m, (setOf (xs.take k)).length = m := ⟨_, rfl⟩
    have HM := Lib.hid hm
    rw [hm] at h40 ⊢
    clear hm
    by_cases hlt : k < n
    · obtain ⟨b, o, t, rfl, hbB, ht, htz, hc⟩ := Wds.elem (xs := xs) (H.out.keep (HBwr.out.mono HB.out)) k hlt
      have HT := Lib.hid ht
      have cW := Lib.hid (implIsWord_any t wr htz)
      obtain ⟨r, hr⟩ : ∃ r, okW t = r := ⟨_, rfl⟩
      have HR := Lib.hid hr
      rw [hr] at cW
      clear ht hr
      cases r with
      | false =>
        have HOk : Hid (setOk xs = false) := Lib.hid (setOk_bad HT.out (fun hw => by have := okW_iff.2 hw; rw [HR.out] at this; cases this))
        obtain rfl : ok = false := HOK.out.symm.trans HOk.out
        obtain rfl : tt = [] := HTT.out.symm.trans (tofT_no HOk.out)
        clear hrc hrf
        go_wp2_with (go_at_call 28; refine cW.out.mono ?_; rintro en w2 ⟨rfl, hb2⟩; have hrc := (box_stay HBox.out hb2).cell; have hrf := (box_stay HBox.out hb2).frozen; have HB2 := Lib.hid (HBwr.out.trans (hb2.mono (by omega))); clear hb2)
        refine bodyPost_ret (v := .tuple #[.agg #[.slice none 0 0], .bool false]) (by simp [results, Try.results78, go_sem, hrc]) rfl ⟨_, rfl, World.ownsRow_nil _ _ _ _, HB2.out.setCell (Nat.le_refl _) _⟩
      | true =>
        obtain ⟨r2, hr2⟩ : ∃ r2, decide (tx t ∈ xs.take k) = r2 := ⟨_, rfl⟩
        have HR2 := Lib.hid hr2
        have HSu := Lib.hid (setOf_succ HT.out)
        have HTk : Hid (xs.take (k + 1) = xs.take k ++ [tx t]) := Lib.hid (by
          obtain ⟨hkl, e⟩ := List.getElem?_eq_some_iff.1 HT.out
          rw [List.take_succ_eq_append_getElem hkl, e])
        have HI2 : Hid (∀ x ∈ xs.take (k + 1), IsW x) := Lib.hid (fun x hx => by
          rw [HTk.out] at hx
          rcases List.mem_append.1 hx with hx | hx
          · exact HI.out x hx
          · rw [List.mem_singleton.1 hx]; exact okW_iff.1 HR.out)
        have cP : Hid (∀ W, Below wr.heap.size wr W → Calls Try.prog 87 #[.pointer (some ⟨W1.heap.size, 0, none⟩), .string t] W fun e w' => ∃ ps' A', e = .returned (.bool (!r2)) ∧ Twigs (w.heap.size + 1) w' ps' (fun z => decide (z ∈ xs.take (k + 1))) A' ∧ Asc ps' ∧ (∀ y, y ∈ ps' ↔ y = [] ∨ ∃ v ∈ xs.take (k + 1), y <+: v) ∧ A' [] = W1.heap.size ∧ Below (w.heap.size + 1) W w') := Lib.hid (fun W hW => by
          have c0 := putTwig_any (w.heap.size + 1) W ps _ A (HTw.out.below (Nat.le_refl _) hW) (by have := hW.size; omega) HAs.out t HR.out (fun z hz => decide_eq_false (fun hm => hz ((HMem.out z).2 (.inr ⟨z, hm, List.prefix_refl _⟩))))
          rw [HRt.out] at c0
          refine c0.mono ?_
          rintro e w' ⟨ps', A', rfl, h1, h2, h3, h4, h5, _⟩
          refine ⟨ps', A', by simp only [hr2], h1.enEq (fun z _ => ?_), h2, fun y => ?_, h4.trans HRt.out, h5⟩
          · rw [HTk.out, Bool.eq_iff_iff]
            simp only [Bool.or_eq_true, decide_eq_true_eq, List.mem_append, List.mem_singleton]
            exact ⟨fun h => h.elim .inr .inl, fun h => h.elim .inr .inl⟩
          · rw [h3, HMem.out, HTk.out]
            constructor
            · rintro ((h | ⟨v, hv, hp⟩) | h)
              · exact .inl h
              · exact .inr ⟨v, List.mem_append_left _ hv, hp⟩
              · exact .inr ⟨tx t, by simp, h⟩
            · rintro (h | ⟨v, hv, hp⟩)
              · exact .inl (.inl h)
              · rcases List.mem_append.1 hv with hv | hv
                · exact .inl (.inr ⟨v, hv, hp⟩)
                · rw [List.mem_singleton] at hv
                  rw [hv] at hp
                  exact .inr hp)
        clear hr2
        cases r2 with
        | true =>
          have HM2 : Hid ((setOf (xs.take (k + 1))).length = m) := Lib.hid (by
            rw [HSu.out, put_mem (setOf_asc _) (mem_setOf.2 (by simpa using HR2.out)), HM.out])
          clear hrc hrf
          go_wp2_with (first
            | (go_at_call 28; refine cW.out.mono ?_; rintro en w2 ⟨rfl, hb2⟩; have HB2 := Lib.hid hb2; clear hb2)
            | (go_at_call 87; refine (cP.out _ HB2.out).mono ?_; rintro en3 w3 ⟨ps3, A3, rfl, hT3, hA3, hM3, hR3, hb3⟩; have HT3 := Lib.hid hT3; have HA3 := Lib.hid hA3; have HM3 := Lib.hid hM3; have HR3 := Lib.hid hR3; have HB3 := Lib.hid (HBw.out.trans ((HB2.out.mono hzr).trans hb3)); clear hT3 hA3 hM3 hR3 hb3))
          go_roundw
          case rel => exact ⟨k + 1, ps3, A3, by omega, by go_num, by rw [HM2.out], by rw [HM2.out]; exact h40, HR3, HT3, HA3, HM3, HI2, HB3⟩
          case measure => simp [intOf]; omega
        | false =>
          have HM2 : Hid ((setOf (xs.take (k + 1))).length = m + 1) := Lib.hid (by
            rw [HSu.out, put_len_new (fun hh => by have h1 := HR2.out; simp only [decide_eq_false_iff_not] at h1; exact h1 (mem_setOf.1 hh)), HM.out])
          clear hrc hrf
          by_cases hmany : m + 1 ≤ 40
          · go_wp2_with (first
              | (go_at_call 28; refine cW.out.mono ?_; rintro en w2 ⟨rfl, hb2⟩; have HB2 := Lib.hid hb2; clear hb2)
              | (go_at_call 87; refine (cP.out _ HB2.out).mono ?_; rintro en3 w3 ⟨ps3, A3, rfl, hT3, hA3, hM3, hR3, hb3⟩; have HT3 := Lib.hid hT3; have HA3 := Lib.hid hA3; have HM3 := Lib.hid hM3; have HR3 := Lib.hid hR3; have HB3 := Lib.hid (HBw.out.trans ((HB2.out.mono hzr).trans hb3)); clear hT3 hA3 hM3 hR3 hb3))
            go_roundw
            case rel => exact ⟨k + 1, ps3, A3, by omega, by go_num, by rw [HM2.out]; go_num, by rw [HM2.out]; exact hmany, HR3, HT3, HA3, HM3, HI2, HB3⟩
            case measure => simp [intOf]; omega
          · have HOk : Hid (setOk xs = false) := Lib.hid (setOk_many (k := k + 1) (by rw [HM2.out]; omega))
            obtain rfl : ok = false := HOK.out.symm.trans HOk.out
            obtain rfl : tt = [] := HTT.out.symm.trans (tofT_no HOk.out)
            go_wp2_with (first
              | (go_at_call 28; refine cW.out.mono ?_; rintro en w2 ⟨rfl, hb2⟩; have HB2 := Lib.hid hb2; clear hb2)
              | (go_at_call 87; refine (cP.out _ HB2.out).mono ?_; rintro en3 w3 ⟨ps3, A3, rfl, hT3, hA3, hM3, hR3, hb3⟩; have HB3 := Lib.hid (HBw.out.trans ((HB2.out.mono hzr).trans hb3)); clear hT3 hA3 hM3 hR3 hb3; have hrc := (box_under HBx0.out HB3.out (by omega)).cell; have hrf := (box_under HBx0.out HB3.out (by omega)).frozen))
            refine bodyPost_ret (v := .tuple #[.agg #[.slice none 0 0], .bool false]) (by simp [results, Try.results78, go_sem, hrc]) rfl ⟨_, rfl, World.ownsRow_nil _ _ _ _, (HB0.out.trans (HB3.out.mono (by omega))).setCell (Nat.le_refl _) _⟩
    · obtain rfl : k = n := by omega
      have hx : xs.take k = xs := List.take_of_length_le (by have := L.out; omega)
      rw [hx] at HTw HMem HI HM
      clear hx
      have HOk : Hid (setOk xs = true) := Lib.hid (by rw [setOk_all HI.out]; exact decide_eq_true (by rw [HM.out]; exact h40))
      obtain rfl : ok = true := HOK.out.symm.trans HOk.out
      obtain rfl : tt = made (setOf xs) := HTT.out.symm.trans (tofT_yes HOk.out)
      have HP : Hid (ps = pres (setOf xs)) := Lib.hid (Pre.uniq (ws := setOf xs) ⟨HAs.out, fun y => by
        rw [HMem.out]
        constructor
        · rintro (h | ⟨v, hv, hp⟩)
          · exact .inl h
          · exact .inr ⟨v, mem_setOf.2 hv, hp⟩
        · rintro (h | ⟨v, hv, hp⟩)
          · exact .inl h
          · exact .inr ⟨v, mem_setOf.1 hv, hp⟩⟩ (pres_pre _))
      have hval := made_valid (setOf_asc xs) (setOk_words HOk.out).1 (setOk_words HOk.out).2
      rw [HP.out] at HTw
      obtain ⟨d, hd, hdp⟩ := root_p hval.tells
      have cN := number_any (w.heap.size + 1) wr.heap.size (pres (setOf xs)) _ A (made (setOf xs)) hval.tells made_match hval.size (fun x hx => HTw.out.lt hx) (made (setOf xs)).length 0 [] d (.slice none 0 0) wr (by omega) hval.tells.nil hd (Nat.le_refl _) (by simpa [ndc] using World.ownsRow_nil wr wr.heap.size 55 3) HTw.out
      rw [HRt.out, hdp] at cN
      have HCN := Lib.hid cN
      have HV := Lib.hid hval
      clear cN hval hd hdp hrc hrf
      go_wp2_with (go_at_call 88; refine HCN.out.mono ?_; rintro en w2 ⟨b2, v2, rfl, hbh, hO2, hG2⟩; obtain rfl := behind_root HV.out.tells hbh; rw [List.take_length] at hO2; have hb2 := hG2.to (World.ownsRow_nil wr wr.heap.size 55 3) (Nat.le_refl _); obtain ⟨a2, c2, rfl⟩ := own_slice hO2; have HO2 := Lib.hid hO2; have HB2 := Lib.hid hb2; clear hbh hG2 hb2 hO2; have hrc := (box_stay HBox.out HB2.out).cell; have hrf := (box_stay HBox.out HB2.out).frozen)
      refine bodyPost_ret (v := .tuple #[.agg #[.slice a2 (made (setOf xs)).length c2], .bool true]) (by simp [results, Try.results78, go_sem, hrc]) rfl ⟨_, rfl, ?_, (HBwr.out.trans (HB2.out.mono (by omega))).setCell (Nat.le_refl _) _⟩
      exact (own_down HO2.out (by omega)).kept (grownBy_setCell' w2 w.heap.size _) (.inr ((box_stay HBox.out HB2.out).not_row (by decide) HO2.out).symm)

end Go.Proofs.Ytibdfhhbkbncgab

/-
  What functions answer that make a trie of a list.
-/
namespace Go.Proofs.Ytibdfhhbkbncgab
open Go.RowKit
set_option linter.unusedVariables false

/-- the trie of a list, behind a gate -/
def resT (g : Bool) (xs : List Txt) : List Nd := if g then tofT xs else []
def resK (g : Bool) (xs : List Txt) : Bool := g && setOk xs
theorem resT_no (xs : List Txt) : resT false xs = [] ∧ resK false xs = false := ⟨rfl, rfl⟩
theorem resT_yes (xs : List Txt) : resT true xs = tofT xs ∧ resK true xs = setOk xs := ⟨rfl, by simp [resK]⟩
theorem resT_fits (g : Bool) (xs : List Txt) : Fits (resT g xs) := by
  cases g with
  | false => intro d hd; cases hd
  | true => exact tofT_fits xs
theorem resT_len (g : Bool) (xs : List Txt) : (resT g xs).length ≤ 481 := by
  cases g with
  | false => simp [resT]
  | true => exact tofT_len xs

end Go.Proofs.Ytibdfhhbkbncgab

/-
  What stays while a function works on a trie that it was given, with a variable for the trie that it answers.
-/
namespace Go.Proofs.Ytibdfhhbkbncgab
open Go.RowKit
set_option linter.unusedVariables false

/-- W: when the function was entered; w: now -/
structure GvR (W w : World) (a : Option Addr) (n c : Nat) (t : List Nd) : Prop where
  gv : Gv W w a n c t
  res : Boxed w (W.heap.size + 1) 31 (.slice none 0 0)

theorem GvR.start {W : World} {a : Option Addr} {n c : Nat} {t : List Nd} (h : Nds W.heap.size W a n c t) : GvR W ((W.alloc (.cells #[.slice a n c] 31)).alloc (.cells #[.slice none 0 0] 31)) a n c t :=
  ⟨(Gv.start h).on ((Below.refl _ _).alloc (Nat.le_refl _) _), by simpa using Boxed.new (W.alloc (.cells #[.slice a n c] 31)) 31 (.slice none 0 0)⟩

theorem GvR.on {W w w' : World} {a : Option Addr} {n c : Nat} {t : List Nd} (h : GvR W w a n c t) (hb : Below w.heap.size w w') : GvR W w' a n c t := ⟨h.gv.on hb, box_stay h.res hb⟩

theorem GvR.box {W w : World} {a : Option Addr} {n c : Nat} {t : List Nd} (h : GvR W w a n c t) : w.cell? ⟨W.heap.size, 0, none⟩ = some (.slice a n c) := h.gv.box
theorem GvR.size {W w : World} {a : Option Addr} {n c : Nat} {t : List Nd} (h : GvR W w a n c t) : W.heap.size ≤ w.heap.size := h.gv.bel.size

/-- the world behind the store of the answer -/
theorem GvR.done {W w : World} {a : Option Addr} {n c : Nat} {t : List Nd} (h : GvR W w a n c t) (v : Value) : Below W.heap.size W (w.setCell ⟨W.heap.size + 1, 0, none⟩ v) := h.gv.bel.setCell (p := ⟨W.heap.size + 1, 0, none⟩) (Nat.le_succ _) _

theorem GvR.read {W w : World} {a b : Option Addr} {n c d : Nat} {t tt : List Nd} {ok : Bool} (h : GvR W w a n c t) (hN : Nds w.heap.size w b tt.length d tt) : ReadRes W tt ok (.returned (.tuple #[.agg #[.slice b tt.length d], .bool ok])) (w.setCell ⟨W.heap.size + 1, 0, none⟩ (.slice b tt.length d)) :=
  ⟨_, _, rfl, by have := hN.box h.res (.slice b tt.length d); simpa [World.setCell] using this, h.done _⟩

theorem GvR.readNo {W w : World} {a : Option Addr} {n c : Nat} {t : List Nd} (h : GvR W w a n c t) : ReadRes W [] false (.returned (.tuple #[.agg #[.slice none 0 0], .bool false])) (w.setCell ⟨W.heap.size + 1, 0, none⟩ (.slice none 0 0)) :=
  ⟨_, _, rfl, nds_nil _ _, h.done _⟩

theorem GvR.own {W w : World} {a b : Option Addr} {n c d base : Nat} {t tt : List Nd} {ok : Bool} (h : GvR W w a n c t) (hO : w.ownsRow base 55 3 (.slice b tt.length d) tt.length (ndc tt)) (hb : W.heap.size ≤ base) : TrieRes W tt ok (.returned (.tuple #[.agg #[.slice b tt.length d], .bool ok])) (w.setCell ⟨W.heap.size + 1, 0, none⟩ (.slice b tt.length d)) :=
  ⟨_, rfl, (own_down hO hb).kept (grownBy_setCell' w (W.heap.size + 1) _) (.inr (h.res.not_row (by decide) hO).symm), h.done _⟩

theorem GvR.ownNo {W w : World} {a : Option Addr} {n c : Nat} {t : List Nd} (h : GvR W w a n c t) : TrieRes W [] false (.returned (.tuple #[.agg #[.slice none 0 0], .bool false])) (w.setCell ⟨W.heap.size + 1, 0, none⟩ (.slice none 0 0)) :=
  ⟨_, rfl, World.ownsRow_nil _ _ _ _, h.done _⟩

end Go.Proofs.Ytibdfhhbkbncgab
