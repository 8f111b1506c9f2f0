import Derived.Test.YtibdfhhbkbncgabPut
import Derived.Deep.Heap
import Derived.Deep.LoopGhost
import Derived.Lib.OthersKept
import Derived.Test.YtibdfhhbkbncgabBas
import Derived.Deep.RegionHeld3
import Derived.Test.YtibdfhhbkbncgabME

/-
  The program's tree of linked blocks: what each block holds, told by the texts that lead to it.
-/
namespace Go.Proofs.Ytibdfhhbkbncgab
open Go.RowKit
set_option linter.unusedVariables false

/-- block b is a twig -/
def TB (w : World) (b : Nat) (l : Int) (e : Bool) (k n : Option Addr) : Prop := w.heap[b]? = some (.cells #[.int .i64 l, .bool e, .pointer k, .pointer n] 111 (0, 0))

section
variable {w w' : World} {b : Nat} {l : Int} {e : Bool} {k n : Option Addr}

theorem TB.lt (h : TB w b l e k n) : b < w.heap.size := (Array.getElem?_eq_some_iff.1 h).1
theorem TB.c0 (h : TB w b l e k n) : w.cell? ⟨b, 0, none⟩ = some (.int .i64 l) := by simp [World.cell?, show w.heap[b]? = _ from h]
theorem TB.c1 (h : TB w b l e k n) : w.cell? ⟨b, 1, none⟩ = some (.bool e) := by simp [World.cell?, show w.heap[b]? = _ from h]
theorem TB.c2 (h : TB w b l e k n) : w.cell? ⟨b, 2, none⟩ = some (.pointer k) := by simp [World.cell?, show w.heap[b]? = _ from h]
theorem TB.c3 (h : TB w b l e k n) : w.cell? ⟨b, 3, none⟩ = some (.pointer n) := by simp [World.cell?, show w.heap[b]? = _ from h]
theorem TB.free (h : TB w b l e k n) (o : Nat) : w.frozen? ⟨b, o, none⟩ = false := by simp [World.frozen?, show w.heap[b]? = _ from h]
theorem TB.keep (h : TB w b l e k n) (hb : w'.heap[b]? = w.heap[b]?) : TB w' b l e k n := hb.trans h
theorem TB.new (w : World) (l : Int) (e : Bool) (k n : Option Addr) : TB (w.alloc (.cells #[.int .i64 l, .bool e, .pointer k, .pointer n] 111)) w.heap.size l e k n := Deep.blk_alloc_new w _

theorem TB.set (h : TB w b l e k n) (o : Nat) (v : Value) : (w.setCell ⟨b, o, none⟩ v).heap[b]? = some (.cells (#[.int .i64 l, .bool e, .pointer k, .pointer n].setIfInBounds o v) 111 (0, 0)) := by
  obtain ⟨hlt, hk⟩ := Array.getElem?_eq_some_iff.1 h
  show (w.heap.modify b _)[b]? = _
  rw [Array.getElem?_eq_getElem (by rw [Array.size_modify]; exact hlt), Array.getElem_modify_self, hk]
  rfl
theorem TB.set1 (h : TB w b l e k n) (e' : Bool) : TB (w.setCell ⟨b, 1, none⟩ (.bool e')) b l e' k n := h.set 1 _
theorem TB.set2 (h : TB w b l e k n) (k' : Option Addr) : TB (w.setCell ⟨b, 2, none⟩ (.pointer k')) b l e k' n := h.set 2 _
theorem TB.set3 (h : TB w b l e k n) (n' : Option Addr) : TB (w.setCell ⟨b, 3, none⟩ (.pointer n')) b l e k n' := h.set 3 _
end

/-- the next letter behind x from lo on -/
def IsNk (ps : List Txt) (x : Txt) (lo : Nat) : Option UInt8 → Prop
  | none => ∀ c : UInt8, lo ≤ c.toNat → x ++ [c] ∉ ps
  | some c => lo ≤ c.toNat ∧ x ++ [c] ∈ ps ∧ ∀ d : UInt8, lo ≤ d.toNat → d.toNat < c.toNat → x ++ [d] ∉ ps

/-- a pointer to the next twig behind x from lo on -/
def LinkIs (ps : List Txt) (A : Txt → Nat) (x : Txt) (lo : Nat) (p : Option Addr) : Prop := ∃ o : Option UInt8, IsNk ps x lo o ∧ p = o.map fun c => ⟨A (x ++ [c]), 0, none⟩

/-- the letter of a twig -/
def letOf (x : Txt) : Int := if x = [] then -1 else ((x.getLastD 0).toNat : Int) - 97

theorem letOf_snoc (x : Txt) (c : UInt8) : letOf (x ++ [c]) = (c.toNat : Int) - 97 := by simp [letOf]

/-- what follows a twig -/
def NextIs (ps : List Txt) (A : Txt → Nat) (x : Txt) (n : Option Addr) : Prop := ∀ (y : Txt) (c : UInt8), x = y ++ [c] → LinkIs ps A y (c.toNat + 1) n

structure Twigs (base : Nat) (w : World) (ps : List Txt) (en : Txt → Bool) (A : Txt → Nat) : Prop where
  root : [] ∈ ps
  closed : ∀ (x : Txt) (c : UInt8), x ++ [c] ∈ ps → x ∈ ps
  low : ∀ x ∈ ps, base ≤ A x
  inj : ∀ x ∈ ps, ∀ y ∈ ps, A x = A y → x = y
  spot : ∀ x ∈ ps, ∃ k n, TB w (A x) (letOf x) (en x) k n ∧ LinkIs ps A x 0 k ∧ NextIs ps A x n

/-- the place of a link: a twig's own, or that of one of its kids -/
def lnk (A : Txt → Nat) (x : Txt) : Option UInt8 → Addr
  | none => ⟨A x, 2, none⟩
  | some d => ⟨A (x ++ [d]), 3, none⟩
def loOf : Option UInt8 → Nat
  | none => 0
  | some d => d.toNat + 1

section
variable {base : Nat} {w w' : World} {ps : List Txt} {en : Txt → Bool} {A : Txt → Nat}

theorem Twigs.keep (h : Twigs base w ps en A) (hb : ∀ x ∈ ps, w'.heap[A x]? = w.heap[A x]?) : Twigs base w' ps en A :=
  ⟨h.root, h.closed, h.low, h.inj, fun x hx => by
    obtain ⟨k, n, h1, h2, h3⟩ := h.spot x hx
    exact ⟨k, n, h1.keep (hb x hx), h2, h3⟩⟩

theorem Twigs.lt (h : Twigs base w ps en A) {x : Txt} (hx : x ∈ ps) : A x < w.heap.size := by
  obtain ⟨k, n, h1, _⟩ := h.spot x hx
  exact h1.lt

theorem Twigs.below (h : Twigs base w ps en A) {B : Nat} (hB : w.heap.size ≤ B) (hb : Below B w w') : Twigs base w' ps en A :=
  h.keep fun x hx => hb.block _ (Nat.lt_of_lt_of_le (h.lt hx) hB)

/-- what a link holds -/
theorem Twigs.link (h : Twigs base w ps en A) {x : Txt} (hx : x ∈ ps) {d : Option UInt8} (hd : ∀ e, d = some e → x ++ [e] ∈ ps) :
    ∃ p, LinkIs ps A x (loOf d) p ∧ w.cell? (lnk A x d) = some (.pointer p) ∧ w.frozen? (lnk A x d) = false := by
  cases d with
  | none =>
    obtain ⟨k, n, h1, h2, h3⟩ := h.spot x hx
    exact ⟨k, h2, h1.c2, h1.free 2⟩
  | some e =>
    obtain ⟨k, n, h1, h2, h3⟩ := h.spot _ (hd e rfl)
    exact ⟨n, h3 x e rfl, h1.c3, h1.free 3⟩

theorem Twigs.first (h : Twigs base w ps en A) {x : Txt} (hx : x ∈ ps) : w.cell? ⟨A x, 0, none⟩ = some (.int .i64 (letOf x)) := by
  obtain ⟨k, n, h1, _⟩ := h.spot x hx
  exact h1.c0

/-- a text that is put in -/
theorem isNk_put {x : Txt} {c : UInt8} {z : Txt} {lo : Nat} {o : Option UInt8} (h : IsNk ps z lo o) (hn : ¬ (z = x ∧ lo ≤ c.toNat ∧ ∀ d, o = some d → c.toNat < d.toNat)) : IsNk (put ps (x ++ [c])) z lo o := by
  have key : ∀ d : UInt8, z ++ [d] ∉ ps → z ++ [d] ∈ put ps (x ++ [c]) → z = x ∧ d = c := by
    intro d h1 h2
    rcases (mem_put _ _ _).1 h2 with h3 | h3
    · exact absurd h3 h1
    · have := List.append_inj' h3 rfl
      simpa using this
  cases o with
  | none =>
    intro d hd hm
    obtain ⟨e1, e2⟩ := key d (h d hd) hm
    subst e2
    exact hn ⟨e1, hd, fun _ h => by cases h⟩
  | some e =>
    obtain ⟨h1, h2, h3⟩ := h
    refine ⟨h1, (mem_put _ _ _).2 (.inl h2), fun d hd1 hd2 hm => ?_⟩
    obtain ⟨e1, e2⟩ := key d (h3 d hd1 hd2) hm
    subst e2
    exact hn ⟨e1, hd1, fun _ h => by cases h; exact hd2⟩

theorem isNk_new {x : Txt} {c : UInt8} {lo : Nat} {o : Option UInt8} (h : IsNk ps x lo o) (h1 : lo ≤ c.toNat) (h2 : ∀ d, o = some d → c.toNat < d.toNat) : IsNk (put ps (x ++ [c])) x lo (some c) := by
  refine ⟨h1, (mem_put _ _ _).2 (.inr rfl), fun d hd1 hd2 hm => ?_⟩
  rcases (mem_put _ _ _).1 hm with h3 | h3
  · cases o with
    | none => exact h d hd1 h3
    | some e =>
      have := h2 e rfl
      exact h.2.2 d hd1 (by omega) h3
  · have := List.append_inj' h3 rfl
    obtain rfl : d = c := by simpa using this
    omega

theorem isNk_from {x : Txt} {c : UInt8} {lo : Nat} {o : Option UInt8} (h : IsNk ps x lo o) (h1 : lo ≤ c.toNat + 1) (h2 : ∀ d, o = some d → c.toNat < d.toNat) (hc : x ++ [c] ∉ ps ∨ True) : IsNk ps x (c.toNat + 1) o := by
  cases o with
  | none => exact fun d hd => h d (by omega)
  | some e =>
    have := h2 e rfl
    exact ⟨by omega, h.2.1, fun d hd1 hd2 => h.2.2 d (by omega) hd2⟩

theorem isNk_hit {x : Txt} {f : UInt8} {lo : Nat} {o : Option UInt8} (h : IsNk ps x lo o) (hf : x ++ [f] ∈ ps) (hl : lo ≤ f.toNat) : ∃ g, o = some g ∧ g.toNat ≤ f.toNat := by
  cases o with
  | none => exact absurd hf (h f hl)
  | some g =>
    refine ⟨g, rfl, ?_⟩
    by_cases hg : g.toNat ≤ f.toNat
    · exact hg
    · exact absurd hf (h.2.2 f hl (by omega))

/-- one link alone turns -/
theorem link_other {x z : Txt} {c : UInt8} {d d2 o o2 : Option UInt8} (hd : ∀ e, d = some e → x ++ [e] ∈ ps) (hlo : loOf d ≤ c.toNat) (ho : IsNk ps x (loOf d) o) (hgt : ∀ e, o = some e → c.toNat < e.toNat)
    (hd2 : ∀ e, d2 = some e → z ++ [e] ∈ ps) (hne : ¬ (z = x ∧ d2 = d)) (h : IsNk ps z (loOf d2) o2) : IsNk (put ps (x ++ [c])) z (loOf d2) o2 := by
  refine isNk_put h ?_
  rintro ⟨rfl, h1, h2⟩
  cases d2 with
  | none =>
    cases d with
    | none => exact hne ⟨rfl, rfl⟩
    | some e =>
      obtain ⟨g, rfl, hg⟩ := isNk_hit h (hd e rfl) (Nat.zero_le _)
      have := h2 g rfl
      simp only [loOf] at hlo
      omega
  | some e2 =>
    cases d with
    | none =>
      obtain ⟨g, rfl, hg⟩ := isNk_hit ho (hd2 e2 rfl) (Nat.zero_le _)
      have := hgt g rfl
      simp only [loOf] at h1
      omega
    | some e =>
      have hee : e2.toNat ≠ e.toNat := fun he => hne ⟨rfl, by rw [UInt8.toNat_inj.1 he]⟩
      simp only [loOf] at h1 hlo h ho
      rcases Nat.lt_or_ge e2.toNat e.toNat with hl | hl
      · obtain ⟨g, rfl, hg⟩ := isNk_hit h (hd e rfl) (by omega)
        have := h2 g rfl
        omega
      · obtain ⟨g, rfl, hg⟩ := isNk_hit ho (hd2 e2 rfl) (by omega)
        have := hgt g rfl
        omega

/-- the places, with one more -/
def upd (A : Txt → Nat) (y : Txt) (b : Nat) : Txt → Nat := fun z => if z = y then b else A z

theorem upd_self (A : Txt → Nat) (y : Txt) (b : Nat) : upd A y b y = b := by simp [upd]
theorem upd_of {A : Txt → Nat} {y z : Txt} {b : Nat} (h : z ∈ ps) (hy : y ∉ ps) : upd A y b z = A z := if_neg (fun e : z = y => hy (e ▸ h))

theorem linkIs_upd {x : Txt} {y : Txt} {b : Nat} {lo : Nat} {o : Option UInt8} (hy : y ∉ ps) (h : IsNk ps x lo o) : (o.map fun c => (⟨A (x ++ [c]), 0, none⟩ : Addr)) = o.map fun c => ⟨upd A y b (x ++ [c]), 0, none⟩ := by
  cases o with
  | none => rfl
  | some g => simp [upd_of h.2.1 hy]

/-- a twig more -/
theorem Twigs.grow (h : Twigs base w ps en A) (hbase : base ≤ w.heap.size) {x : Txt} {c : UInt8} (hx : x ∈ ps) (hy : x ++ [c] ∉ ps) (hen : en (x ++ [c]) = false) {d o : Option UInt8} (hd : ∀ e, d = some e → x ++ [e] ∈ ps)
    (hlo : loOf d ≤ c.toNat) (ho : IsNk ps x (loOf d) o) (hgt : ∀ e, o = some e → c.toNat < e.toNat) {w1 : World}
    (hw1 : w1 = w.alloc (.cells #[.int .i64 ((c.toNat : Int) - 97), .bool false, .pointer none, .pointer (o.map fun e => ⟨A (x ++ [e]), 0, none⟩)] 111)) :
    Twigs base (w1.setCell (lnk A x d) (.pointer (some ⟨w.heap.size, 0, none⟩))) (put ps (x ++ [c])) en (upd A (x ++ [c]) w.heap.size) := by
  have hmem := mem_put ps (x ++ [c])
  have hup : ∀ z ∈ ps, upd A (x ++ [c]) w.heap.size z = A z := fun z hz => upd_of hz hy
  have hold : ∀ (z : Txt) k n, z ∈ ps → TB w (A z) (letOf z) (en z) k n → TB w1 (A z) (letOf z) (en z) k n := fun z k n hz ht => ht.keep (by rw [hw1]; exact Deep.blk_alloc_lt w _ _ (h.lt hz))
  have hlb : (lnk A x d).block < w.heap.size := by
    cases d with
    | none => exact h.lt hx
    | some e => exact h.lt (hd e rfl)
  refine ⟨(hmem _).2 (.inl h.root), fun z e hz => ?_, fun z hz => ?_, fun z1 hz1 z2 hz2 he => ?_, fun z hz => ?_⟩
  · rcases (hmem _).1 hz with hz | hz
    · exact (hmem _).2 (.inl (h.closed z e hz))
    · have := List.append_inj' hz rfl
      rw [this.1]
      exact (hmem _).2 (.inl hx)
  · rcases (hmem _).1 hz with hz | rfl
    · rw [hup z hz]; exact h.low z hz
    · rw [upd_self]; exact hbase
  · rcases (hmem _).1 hz1 with k1 | rfl
    · rcases (hmem _).1 hz2 with k2 | rfl
      · rw [hup _ k1, hup _ k2] at he
        exact h.inj _ k1 _ k2 he
      · rw [hup _ k1, upd_self] at he
        have := h.lt k1
        omega
    · rcases (hmem _).1 hz2 with k2 | rfl
      · rw [hup _ k2, upd_self] at he
        have := h.lt k2
        omega
      · rfl
  · rcases (hmem _).1 hz with hz | rfl
    · obtain ⟨k, n, h1, h2, h3⟩ := h.spot z hz
      have h1' := hold z k n hz h1
      rw [hup z hz]
      -- the links that do not turn
      have hk : ¬ (z = x ∧ (none : Option UInt8) = d) → LinkIs (put ps (x ++ [c])) (upd A (x ++ [c]) w.heap.size) z 0 k := fun hne => by
        obtain ⟨o2, hnk, hp⟩ := h2
        exact ⟨o2, link_other hd hlo ho hgt (d2 := none) (by simp) hne hnk, by rw [hp, linkIs_upd hy hnk]⟩
      have hn : (∀ e, d = some e → z ≠ x ++ [e]) → NextIs (put ps (x ++ [c])) (upd A (x ++ [c]) w.heap.size) z n := fun hne y' c' e' => by
        obtain ⟨o2, hnk, hp⟩ := h3 y' c' e'
        refine ⟨o2, link_other hd hlo ho hgt (d2 := some c') (fun e he => by cases he; rw [← e']; exact hz) ?_ hnk, by rw [hp, linkIs_upd hy hnk]⟩
        rintro ⟨rfl, rfl⟩
        exact hne c' rfl e'
      cases d with
      | none =>
        by_cases hzx : z = x
        · subst hzx
          refine ⟨_, n, h1'.set2 _, ⟨some c, isNk_new ho hlo hgt, ?_⟩, hn (by simp)⟩
          simp [upd_self]
        · refine ⟨k, n, h1'.keep (Deep.blk_setCell_other _ _ _ _ (fun e => hzx (h.inj z hz x hx e))), hk (fun hh => hzx hh.1), hn (by simp)⟩
      | some e =>
        by_cases hzx : z = x ++ [e]
        · subst hzx
          refine ⟨k, _, h1'.set3 _, hk (fun hh => by cases hh.2), fun y' c' e' => ?_⟩
          have := List.append_inj' e' rfl
          obtain ⟨rfl, e2⟩ := this
          obtain rfl : e = c' := by simpa using e2
          exact ⟨some c, isNk_new ho hlo hgt, by simp [upd_self]⟩
        · refine ⟨k, n, h1'.keep (Deep.blk_setCell_other _ _ _ _ (fun e' => hzx (h.inj z hz _ (hd e rfl) e'))), hk (fun hh => by cases hh.2), hn (fun e' he' => by cases he'; exact hzx)⟩
    · rw [upd_self, letOf_snoc, hen]
      refine ⟨none, o.map fun e => ⟨A (x ++ [e]), 0, none⟩, ?_, ⟨none, fun e _ hm => ?_, rfl⟩, fun y' c' e' => ?_⟩
      · refine TB.keep (w := w1) ?_ (Deep.blk_setCell_other _ _ _ _ (by omega))
        rw [hw1]
        exact TB.new w _ _ _ _
      · rcases (hmem _).1 hm with hm | hm
        · exact hy (h.closed _ e hm)
        · have := congrArg List.length hm
          simp at this
      · have := List.append_inj' e' rfl
        obtain ⟨rfl, e2⟩ := this
        obtain rfl : c = c' := by simpa using e2
        have hf := isNk_from ho (by omega) hgt (.inr trivial)
        exact ⟨o, isNk_put hf (fun hh => by omega), linkIs_upd hy hf⟩

/-- the flag of a word -/
theorem Twigs.mark (h : Twigs base w ps en A) {x : Txt} (hx : x ∈ ps) : Twigs base (w.setCell ⟨A x, 1, none⟩ (.bool true)) ps (fun z => decide (z = x) || en z) A := by
  refine ⟨h.root, h.closed, h.low, h.inj, fun z hz => ?_⟩
  obtain ⟨k, n, h1, h2, h3⟩ := h.spot z hz
  by_cases hzx : z = x
  · subst hzx
    exact ⟨k, n, by simpa using h1.set1 true, h2, h3⟩
  · refine ⟨k, n, ?_, h2, h3⟩
    have e : (decide (z = x) || en z) = en z := by simp [hzx]
    simp only [e]
    exact h1.keep (Deep.blk_setCell_other _ _ _ _ (fun e => hzx (h.inj z hz x hx e)))

theorem Twigs.enEq {en' : Txt → Bool} (h : Twigs base w ps en A) (he : ∀ x ∈ ps, en' x = en x) : Twigs base w ps en' A :=
  ⟨h.root, h.closed, h.low, h.inj, fun x hx => by rw [he x hx]; exact h.spot x hx⟩

end

/-- the root alone -/
theorem Twigs.start {base : Nat} (w : World) (hb : base ≤ w.heap.size) (en : Txt → Bool) (he : en [] = false) :
    Twigs base (w.alloc (.cells #[.int .i64 (-1), .bool false, .pointer none, .pointer none] 111)) [[]] en (fun _ => w.heap.size) :=
  ⟨List.mem_singleton.2 rfl, fun x c h => by simp at h, fun _ _ => hb, fun x hx y hy _ => by simp at hx hy; rw [hx, hy], fun x hx => by
    obtain rfl : x = [] := by simpa using hx
    refine ⟨none, none, ?_, ⟨none, fun c _ h => by simp at h, rfl⟩, fun y c e => by simp at e⟩
    rw [he]
    exact TB.new w _ _ _ _⟩

end Go.Proofs.Ytibdfhhbkbncgab

/-
  The program's search of a kid, which is put in if it is missing.
-/
namespace Go.Proofs.Ytibdfhhbkbncgab
open Go.RowKit
set_option linter.unusedVariables false

/-- no twig -/
def Spare (ps : List Txt) (A : Txt → Nat) (k : Nat) : Prop := ∀ z ∈ ps, A z ≠ k

/-- what is no twig stays as it is, and is no twig -/
def Stays (ps : List Txt) (A : Txt → Nat) (ps' : List Txt) (A' : Txt → Nat) (w w' : World) : Prop := ∀ k, k < w.heap.size → Spare ps A k → w'.heap[k]? = w.heap[k]? ∧ Spare ps' A' k

theorem Stays.refl (ps : List Txt) (A : Txt → Nat) (w : World) : Stays ps A ps A w w := fun _ _ h => ⟨rfl, h⟩

theorem Stays.trans {ps ps1 ps2 : List Txt} {A A1 A2 : Txt → Nat} {w w1 w2 : World} (h : Stays ps A ps1 A1 w w1) (k : Stays ps1 A1 ps2 A2 w1 w2) (hz : w.heap.size ≤ w1.heap.size) : Stays ps A ps2 A2 w w2 := fun j hj hs => by
  obtain ⟨h1, h2⟩ := h j hj hs
  obtain ⟨h3, h4⟩ := k j (Nat.lt_of_lt_of_le hj hz) h2
  exact ⟨h3.trans h1, h4⟩

theorem ret_ptr {a b : Option Addr} (h : b = a) : Ending.returned (.pointer a) = .returned (.pointer b) := by rw [h]

def KidPost (base : Nat) (w : World) (ps : List Txt) (en : Txt → Bool) (A : Txt → Nat) (x : Txt) (c : UInt8) (e : Ending) (w' : World) : Prop :=
  ∃ A', e = .returned (.pointer (some ⟨A' (x ++ [c]), 0, none⟩)) ∧ Twigs base w' (put ps (x ++ [c])) en A' ∧ (∀ z ∈ ps, A' z = A z) ∧ Below base w w' ∧ Stays ps A (put ps (x ++ [c])) A' w w'

theorem lnk_block {base : Nat} {w : World} {ps : List Txt} {en : Txt → Bool} {A : Txt → Nat} (h : Twigs base w ps en A) {x : Txt} (hx : x ∈ ps) {d : Option UInt8} (hd : ∀ e, d = some e → x ++ [e] ∈ ps) : base ≤ (lnk A x d).block ∧ (lnk A x d).block < w.heap.size := by
  cases d with
  | none => exact ⟨h.low x hx, h.lt hx⟩
  | some e => exact ⟨h.low _ (hd e rfl), h.lt (hd e rfl)⟩

set_option maxRecDepth 1000000 in
set_option maxHeartbeats 1000000 in
theorem kidBy_any (base : Nat) (w : World) (ps : List Txt) (en : Txt → Bool) (A : Txt → Nat) (h : Twigs base w ps en A) (hbase : base ≤ w.heap.size) (ha : Asc ps) (x : Txt) (hx : x ∈ ps) (c : UInt8) (h97 : 97 ≤ c.toNat) (h122 : c.toNat ≤ 122)
    (hen : x ++ [c] ∉ ps → en (x ++ [c]) = false) :
    Calls Try.prog 92 #[.pointer (some ⟨A x, 0, none⟩), .int .i64 ((c.toNat : Int) - 97)] w (KidPost base w ps en A x c) := by
  have H := Lib.hid h
  have HX := Lib.hid hx
  have HBs := Lib.hid hbase
  have HEn := Lib.hid hen
  have HA := Lib.hid ha
  clear h hx hbase hen ha
  obtain ⟨q, hq⟩ : ∃ q : Int, (c.toNat : Int) - 97 = q := ⟨_, rfl⟩
  have hq0 : 0 ≤ q := by omega
  have hq1 : q ≤ 25 := by omega
  rw [hq]
  have HQ := Lib.hid hq
  clear hq
  go_enter Try.func92, Try.ntmps92
  go_wp2
  go_loopg [5] 256 (fun g s wr => ∃ (d : Option UInt8) (L : Addr), s = .pointer (some L) ∧ Hid (lnk A x d = L) ∧ Hid (∀ e, d = some e → x ++ [e] ∈ ps ∧ e.toNat < c.toNat) ∧ Hid (g = 256 - loOf d) ∧ w = wr)
  case atStart => exact ⟨none, _, rfl, Lib.hid rfl, Lib.hid (by simp), Lib.hid rfl, rfl⟩
  case round =>
    obtain ⟨d, L, rfl, HL, HD, HG, rfl⟩ := hrel
    obtain ⟨p, ⟨o, hnk, hp⟩, hcell, hfr⟩ := H.out.link HX.out (d := d) (fun e he => (HD.out e he).1)
    rw [HL.out] at hcell hfr
    have HNk := Lib.hid hnk
    have hlo : loOf d ≤ c.toNat := by
      cases d with
      | none => exact Nat.zero_le _
      | some e => exact (HD.out e rfl).2
    clear hnk
    cases o with
    | none =>
      simp only [Option.map_none] at hp
      subst hp
      have hlb := (lnk_block H.out HX.out (d := d) (fun e he => (HD.out e he).1))
      rw [HL.out] at hlb
      have HNew := Lib.hid (H.out.grow HBs.out HX.out (c := c) (HNk.out c hlo) (HEn.out (HNk.out c hlo)) (fun e he => (HD.out e he).1) hlo HNk.out (by simp) rfl)
      rw [HL.out, HQ.out] at HNew
      simp only [Option.map_none] at HNew
      have HB2 : Hid (Below base w ((w.alloc (.cells #[.int .i64 q, .bool false, .pointer none, .pointer none] 111)).setCell L (.pointer (some ⟨w.heap.size, 0, none⟩)))) := Lib.hid (((Below.refl _ _).alloc HBs.out _).setCell hlb.1 _)
      have HUp : Hid (∀ z ∈ ps, upd A (x ++ [c]) w.heap.size z = A z) := Lib.hid (fun z hz => upd_of hz (HNk.out c hlo))
      have HSt : Hid (Stays ps A (put ps (x ++ [c])) (upd A (x ++ [c]) w.heap.size) w ((w.alloc (.cells #[.int .i64 q, .bool false, .pointer none, .pointer none] 111)).setCell L (.pointer (some ⟨w.heap.size, 0, none⟩)))) := Lib.hid (fun k hk hs => ⟨by
        have hlk : k ≠ L.block := fun e => by
          rw [← HL.out] at e
          cases d with
          | none => exact hs x HX.out e.symm
          | some f => exact hs _ (HD.out f rfl).1 e.symm
        rw [Deep.blk_setCell_other _ _ _ _ hlk, Deep.blk_alloc_lt _ _ _ hk], fun z hz => by
        rcases (mem_put _ _ _).1 hz with hz | rfl
        · rw [HUp.out z hz]; exact hs z hz
        · rw [upd_self]; omega⟩)
      have hc2 : (w.alloc (.cells #[.int .i64 q, .bool false, .pointer none, .pointer none] 111)).cell? L = some (.pointer none) := (World.cell?_alloc_lt w _ L hlb.2).trans hcell
      have hf2 : (w.alloc (.cells #[.int .i64 q, .bool false, .pointer none, .pointer none] 111)).frozen? L = false := (World.frozen?_alloc_old w _ _ (by omega)).trans hfr
      have hlbn : L.block ≠ w.heap.size := by omega
      clear hlb
      go_wp2
      go_ret
      exact ⟨upd A (x ++ [c]) w.heap.size, ret_ptr (by rw [upd_self]), HNew.out, HUp.out, HB2.out, HSt.out⟩
    | some e =>
      simp only [Option.map_some] at hp
      subst hp
      have he := HNk.out.2.1
      have hc0 := H.out.first he
      rw [letOf_snoc] at hc0
      obtain ⟨r, hr⟩ : ∃ r : Int, (e.toNat : Int) - 97 = r := ⟨_, rfl⟩
      rw [hr] at hc0
      have HE := Lib.hid he
      have HR := Lib.hid hr
      have he8 := e.toNat_lt
      have hr0 : -97 ≤ r := by omega
      have hr1 : r ≤ 255 := by omega
      clear he
      rcases Int.lt_trichotomy r q with hlt | heq | hgt
      · have hlt2 : e.toNat < c.toNat := by have := HQ.out; omega
        clear hr
        go_wp2
        go_roundg (256 - loOf (some e))
        case measure =>
          have h1 := HG.out
          have h2 := HNk.out.1
          simp only [loOf] at *
          omega
        case rel => exact ⟨some e, _, rfl, Lib.hid rfl, Lib.hid (fun e' he' => by cases he'; exact ⟨HE.out, hlt2⟩), Lib.hid rfl, rfl⟩
      · obtain rfl : e = c := UInt8.toNat_inj.1 (by have := HQ.out; omega)
        clear hr
        subst heq
        have HP := Lib.hid (put_mem HA.out HE.out)
        have hne : (r != r) = false := by simp
        go_wp2
        go_ret
        exact ⟨A, rfl, by rw [HP.out]; exact H.out, fun _ _ => rfl, Below.refl _ _, by rw [HP.out]; exact Stays.refl _ _ _⟩
      · have hgt2 : c.toNat < e.toNat := by have := HQ.out; omega
        have hgt' : ∀ f, some e = some f → c.toNat < f.toNat := fun f hf => by cases hf; exact hgt2
        have hy : x ++ [c] ∉ ps := HNk.out.2.2 c hlo hgt2
        have hlb := (lnk_block H.out HX.out (d := d) (fun e he => (HD.out e he).1))
        rw [HL.out] at hlb
        have HNew := Lib.hid (H.out.grow HBs.out HX.out (c := c) hy (HEn.out hy) (fun e he => (HD.out e he).1) hlo HNk.out hgt' rfl)
        rw [HL.out, HQ.out] at HNew
        simp only [Option.map_some] at HNew
        have HB2 : Hid (Below base w ((w.alloc (.cells #[.int .i64 q, .bool false, .pointer none, .pointer (some ⟨A (x ++ [e]), 0, none⟩)] 111)).setCell L (.pointer (some ⟨w.heap.size, 0, none⟩)))) := Lib.hid (((Below.refl _ _).alloc HBs.out _).setCell hlb.1 _)
        have HUp : Hid (∀ z ∈ ps, upd A (x ++ [c]) w.heap.size z = A z) := Lib.hid (fun z hz => upd_of hz hy)
        have HSt : Hid (Stays ps A (put ps (x ++ [c])) (upd A (x ++ [c]) w.heap.size) w ((w.alloc (.cells #[.int .i64 q, .bool false, .pointer none, .pointer (some ⟨A (x ++ [e]), 0, none⟩)] 111)).setCell L (.pointer (some ⟨w.heap.size, 0, none⟩)))) := Lib.hid (fun k hk hs => ⟨by
          have hlk : k ≠ L.block := fun e => by
            rw [← HL.out] at e
            cases d with
            | none => exact hs x HX.out e.symm
            | some f => exact hs _ (HD.out f rfl).1 e.symm
          rw [Deep.blk_setCell_other _ _ _ _ hlk, Deep.blk_alloc_lt _ _ _ hk], fun z hz => by
          rcases (mem_put _ _ _).1 hz with hz | rfl
          · rw [HUp.out z hz]; exact hs z hz
          · rw [upd_self]; omega⟩)
        have hc2 : (w.alloc (.cells #[.int .i64 q, .bool false, .pointer none, .pointer (some ⟨A (x ++ [e]), 0, none⟩)] 111)).cell? L = some (.pointer (some ⟨A (x ++ [e]), 0, none⟩)) := (World.cell?_alloc_lt w _ L hlb.2).trans hcell
        have hf2 : (w.alloc (.cells #[.int .i64 q, .bool false, .pointer none, .pointer (some ⟨A (x ++ [e]), 0, none⟩)] 111)).frozen? L = false := (World.frozen?_alloc_old w _ _ (by omega)).trans hfr
        have hlbn : L.block ≠ w.heap.size := by omega
        clear hlb hr hy hgt' hlbn
        have hlt : ¬ (r < q) := by omega
        have hne : (r != q) = true := by simp; omega
        go_wp2
        go_ret
        exact ⟨upd A (x ++ [c]) w.heap.size, ret_ptr (by rw [upd_self]), HNew.out, HUp.out, HB2.out, HSt.out⟩

end Go.Proofs.Ytibdfhhbkbncgab

/-
  The program's way of putting a word in below a twig.
-/
namespace Go.Proofs.Ytibdfhhbkbncgab
open Go.RowKit
set_option linter.unusedVariables false

theorem tx_take1 {s : ByteArray} {k : Nat} (h : k < s.size) : (tx s).take (k + 1) = (tx s).take k ++ [s[k]] := by
  rw [List.take_succ_eq_append_getElem (by rw [tx_len]; exact h)]
  rfl

def PutPost (base : Nat) (w : World) (ps : List Txt) (en : Txt → Bool) (A : Txt → Nat) (x : Txt) (e : Ending) (w' : World) : Prop :=
  ∃ ps' A', e = .returned (.bool (!en x)) ∧ Twigs base w' ps' (fun z => decide (z = x) || en z) A' ∧ Asc ps' ∧ (∀ y, y ∈ ps' ↔ y ∈ ps ∨ y <+: x) ∧ A' [] = A [] ∧ Below base w w' ∧ Stays ps A ps' A' w w'

set_option maxRecDepth 1000000 in
set_option maxHeartbeats 1000000 in
theorem putTwig_any (base : Nat) (w : World) (ps : List Txt) (en : Txt → Bool) (A : Txt → Nat) (h : Twigs base w ps en A) (hbase : base ≤ w.heap.size) (ha : Asc ps) (s : ByteArray) (hs : okW s = true) (hen : ∀ z, z ∉ ps → en z = false) :
    Calls Try.prog 87 #[.pointer (some ⟨A [], 0, none⟩), .string s] w (PutPost base w ps en A (tx s)) := by
  have H := Lib.hid h
  have HBs := Lib.hid hbase
  have HEn := Lib.hid hen
  have HA := Lib.hid ha
  have HW := Lib.hid (okW_iff.1 hs)
  have hs12 : s.size ≤ 12 := by have := HW.out.1; rwa [tx_len] at this
  have HSp : Hid (Spare ps A w.heap.size) := Lib.hid (fun z hz => by have := h.lt hz; omega)
  clear h hbase hen ha hs
  go_enter Try.func87, Try.ntmps87
  go_wp2
  go_loopw [0] (fun g wr => ∃ (k : Nat) (psk : List Txt) (Ak : Txt → Nat), k ≤ s.size ∧ g = .pointer (some ⟨Ak ((tx s).take k), 0, none⟩) ∧ Hid (Twigs base wr psk en Ak) ∧ Hid (Asc psk) ∧ Hid (∀ y, y ∈ psk ↔ y ∈ ps ∨ ∃ q, q ≤ k ∧ y = (tx s).take q) ∧ Hid (Ak [] = A []) ∧ Hid (Below base w wr) ∧ Hid (Stays ps A psk Ak w wr) ∧ Hid (wr.heap[w.heap.size]? = some (.stringIter s k)) ∧ Hid (Spare psk Ak w.heap.size) ∧ w.heap.size < wr.heap.size) (fun _ wr => s.size - wr.iterPos w.heap.size)
  case atStart =>
    refine ⟨0, ps, A, Nat.zero_le _, by rw [List.take_zero], Lib.hid (H.out.keep fun x hx => ?_), HA, Lib.hid (fun y => ?_), Lib.hid rfl, Lib.hid ((Below.refl _ _).alloc HBs.out _), Lib.hid (fun k hk hs => ⟨Deep.blk_alloc_lt _ _ _ hk, hs⟩), Lib.hid (World.iter_heap w s 0), HSp, by simp [World.iter]⟩
    · exact Deep.blk_alloc_lt _ _ _ (H.out.lt hx)
    · constructor
      · exact .inl
      · rintro (h | ⟨q, hq, e⟩)
        · exact h
        · obtain rfl : q = 0 := by omega
          rw [e, List.take_zero]
          exact H.out.root
  case round =>
    obtain ⟨k, psk, Ak, hk, rfl, HT, HAk, HMem, HRoot, HBw, HSt, HIt, HSk, hzw⟩ := hrel
    have hpos0 : wr.iterPos w.heap.size = k := by simp [World.iterPos, HIt.out]
    have HP0 := Lib.hid hpos0
    clear hpos0
    have HIn : Hid ((tx s).take k ∈ psk) := Lib.hid ((HMem.out _).2 (.inr ⟨k, Nat.le_refl _, rfl⟩))
    have HEk : Hid (∀ z, z ∉ psk → en z = false) := Lib.hid (fun z hz => HEn.out z (fun hh => hz ((HMem.out z).2 (.inl hh))))
    by_cases hlt : k < s.size
    · have hlow := HW.out.2 s[k] (by
        have : s[k] = (tx s)[k]'(by rw [tx_len]; exact hlt) := rfl
        rw [this]; exact List.getElem_mem _)
      have h128 : s[k].toNat < 128 := by omega
      have hnx := fun ty => Lib.run_next_ascii_at (P := Try.prog) wr w.heap.size s k ty HIt.out hlt h128
      have HTk := Lib.hid (tx_take1 hlt)
      obtain ⟨W1, hW1⟩ : ∃ W1, wr.iterAt w.heap.size s (k + 1) = W1 := ⟨_, rfl⟩
      have HI1 : Hid (W1.heap[w.heap.size]? = some (.stringIter s (k + 1))) := Lib.hid (by rw [← hW1]; exact Lib.iterAt_heap wr _ s k (k + 1) HIt.out)
      have HT1 : Hid (Twigs base W1 psk en Ak) := Lib.hid (by rw [← hW1]; exact HT.out.keep fun x hx => Lib.iterAt_other wr _ _ s (k + 1) (HSk.out x hx))
      have HBw1 : Hid (Below base w W1) := Lib.hid (by rw [← hW1]; exact Lib.below_iterAt HBw.out HBs.out s (k + 1))
      have HSt1 : Hid (Stays ps A psk Ak w W1) := Lib.hid (by
        rw [← hW1]
        intro j hj hs
        exact ⟨(Lib.iterAt_other wr _ j s (k + 1) (by omega)).trans (HSt.out j hj hs).1, (HSt.out j hj hs).2⟩)
      have hs1 : w.heap.size < W1.heap.size := (Array.getElem?_eq_some_iff.1 HI1.out).1
      simp only [hW1] at hnx
      clear hW1
      have cK := Lib.hid (kidBy_any base W1 psk en Ak HT1.out (by have := HBs.out; omega) HAk.out ((tx s).take k) HIn.out s[k] hlow.1 hlow.2 (HEk.out _))
      obtain ⟨cn, hcn⟩ : ∃ cn : Int, (s[k].toNat : Int) = cn := ⟨_, rfl⟩
      have hcb : 97 ≤ cn ∧ cn ≤ 122 := by omega
      rw [hcn] at cK
      simp only [hcn] at hnx
      clear hcn hlow h128
      go_wp2_with (first | (go_at_call 92; refine cK.out.mono ?_; rintro en2 w2 ⟨A2, rfl, hT2, hA2, hb2, hSt2⟩; have HT2 := Lib.hid hT2; have HA2 := Lib.hid hA2; have HB2 := Lib.hid hb2; have HSt2 := Lib.hid hSt2; clear hT2 hA2 hb2 hSt2))
      obtain ⟨hi2, hsp2⟩ := HSt2.out _ hs1 HSk.out
      have HI2 : Hid (w2.heap[w.heap.size]? = some (.stringIter s (k + 1))) := Lib.hid (hi2.trans HI1.out)
      have HS2 := Lib.hid hsp2
      have hz2 : w.heap.size < w2.heap.size := Nat.lt_of_lt_of_le hs1 HB2.out.size
      clear hi2 hsp2
      go_roundw
      case rel =>
        refine ⟨k + 1, _, A2, by omega, by rw [HTk.out], HT2, Lib.hid (asc_put _ HAk.out), Lib.hid (fun y => ?_), Lib.hid ?_, Lib.hid (HBw1.out.trans HB2.out), Lib.hid (HSt1.out.trans HSt2.out HBw1.out.size), HI2, HS2, hz2⟩
        · rw [mem_put, HMem.out, ← HTk.out]
          constructor
          · rintro ((h | ⟨q, hq, e⟩) | h)
            · exact .inl h
            · exact .inr ⟨q, by omega, e⟩
            · exact .inr ⟨k + 1, Nat.le_refl _, h⟩
          · rintro (h | ⟨q, hq, e⟩)
            · exact .inl (.inl h)
            · by_cases hqk : q ≤ k
              · exact .inl (.inr ⟨q, hqk, e⟩)
              · obtain rfl : q = k + 1 := by omega
                exact .inr e
        · rw [HA2.out _ HT1.out.root, HRoot.out]
      case measure =>
        have e1 : w2.iterPos w.heap.size = k + 1 := by simp [World.iterPos, HI2.out]
        rw [HP0.out, e1]
        omega
    · have hnx := fun ty => Lib.run_next_end_at (P := Try.prog) wr w.heap.size s k ty HIt.out hlt
      have HX : Hid ((tx s).take k = tx s) := Lib.hid (List.take_of_length_le (by rw [tx_len]; omega))
      have hin := HIn.out
      rw [HX.out] at hin
      obtain ⟨kp, np, hTB, _, _⟩ := HT.out.spot _ hin
      have hc1 := hTB.c1
      have hf1 := hTB.free 1
      rw [← HX.out] at hc1 hf1
      rw [HX.out] at hc1 hf1 ⊢
      obtain ⟨r, hr⟩ : ∃ r, en (tx s) = r := ⟨_, rfl⟩
      have HR := Lib.hid hr
      rw [hr] at hc1
      have HIn2 := Lib.hid hin
      have hlow := HT.out.low _ hin
      have HMark := Lib.hid (HT.out.mark hin)
      have HLow := Lib.hid hlow
      clear hr hin hTB hlow
      go_wp2
      go_ret
      refine ⟨psk, Ak, ret_bool (by rw [HR.out]), HMark.out, HAk.out, fun y => ?_, HRoot.out, HBw.out.setCell HLow.out _, fun j hj hs => ?_⟩
      · rw [HMem.out]
        constructor
        · rintro (h | ⟨q, _, e⟩)
          · exact .inl h
          · rw [e]; exact .inr (List.take_prefix _ _)
        · rintro (h | h)
          · exact .inl h
          · refine .inr ⟨y.length, ?_, List.prefix_iff_eq_take.1 h⟩
            have := h.length_le
            rw [tx_len] at this
            omega
      · obtain ⟨h1, h2⟩ := HSt.out j hj hs
        exact ⟨(Deep.blk_setCell_other _ _ _ _ (fun e => h2 _ HIn2.out e.symm)).trans h1, h2⟩

end Go.Proofs.Ytibdfhhbkbncgab

/-
  An append to a row that a call owns, at an operation of a region that draws its order.
-/
namespace Go.Proofs.Ytibdfhhbkbncgab
open Go.RowKit
set_option linter.unusedVariables false

theorem step_append_row {P : Program} {w : World} {ops : Array Oper} {o : Oper} {ac : Act} {K : Act → World → Prop} {Q : Exit → Act → World → Prop} {E : Prop} (hgd : o.guard = none) (s x : Operand) (t : TypeId)
    (ho : o.op = .call { callee := .builtin .append, args := #[s, x], argTypes := #[t, t] })
    (base : Nat) (e : TypeId) (i : TypeInfo) (z : Value) (size bytes : Nat) (ht : P.underlying t = some (.slice e)) (hi : P.info? e = some i) (hz : i.zero = some z)
    (hsize : i.size = size) (hby : i.bytes = bytes) (hzs : z.cells.size = size) (hsz : 0 < size)
    (v : Value) (n : Nat) (xs : List Value) (hs : ac.eval s = v) (hown : w.ownsRow base e size v n xs)
    (ad : Addr) (m c : Nat) (news : List Value) (hx : ac.eval x = .slice (some ad) m c) (hl : news.length = m * size) (hnews : ∀ j u, news[j]? = some u → w.cell? (ad.add j) = some u) (h1 : ∀ u ∈ news, u.oneCell' = true)
    (h63 : n + m ≤ maxLen) (hbytes : (n + m) * bytes ≤ 140737488355328) (hbase : base ≤ w.heap.size)
    (h : ∀ v' w', w'.ownsRow base e size v' (n + m) (xs ++ news) → w.grownBy w' v.ownBlock → (v'.ownBlock = v.ownBlock ∨ v'.ownBlock = some w.heap.size) → K (ac.put o.dst v') w') :
    if Region.wanted o (yielded ops ac.tmps) = true then Oper.wp P o ac w K Q else E := by
  have hw : Region.wanted o (yielded ops ac.tmps) = true := by simp [Region.wanted, hgd]
  rw [if_pos hw]
  obtain ⟨v', w', hr, h2, h3, _, h5⟩ := run_append_own_at (P := P) w base t o.type e i z size bytes ht hi hz hsize hby hzs hsz v n xs hown ad m c news hl hnews h1 h63 hbytes hbase
  unfold Oper.wp execOp
  simp only [ho, resolve, invoke, builtin, Sem.run_bind, Sem.run_pure, Result.andThen_ok, List.map_toArray, List.map_cons, List.map_nil, hs, hx, hr]
  exact h v' w' h2 h3 h5

end Go.Proofs.Ytibdfhhbkbncgab

/-
  An append to a row that a call owns, at an operation of a region that draws its order; beside what an append-like callee leaves.
-/

