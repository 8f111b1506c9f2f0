/-
  The program's tree of linked blocks: what each block holds, told by the texts that lead to it.
-/
import Derived.Test.YtmgieahachphmaaPut
import Derived.Deep.Heap
namespace Go.Proofs.Ytmgieahachphmaa
open Go.RowKit
set_option linter.unusedVariables false

/-- block b is a twig -/
def TB (w : World) (b : Nat) (l : Int) (e : Bool) (k n : Option Addr) : Prop := w.heap[b]? = some (.cells #[.int .i64 l, .bool e, .pointer k, .pointer n] 58 (0, 0))

section
variable {w w' : World} {b : Nat} {l : Int} {e : Bool} {k n : Option Addr}

theorem TB.lt (h : TB w b l e k n) : b < w.heap.size := (Array.getElem?_eq_some_iff.1 h).1
theorem TB.c0 (h : TB w b l e k n) : w.cell? ⟨b, 0, none⟩ = some (.int .i64 l) := by simp [World.cell?, show w.heap[b]? = _ from h]
theorem TB.c1 (h : TB w b l e k n) : w.cell? ⟨b, 1, none⟩ = some (.bool e) := by simp [World.cell?, show w.heap[b]? = _ from h]
theorem TB.c2 (h : TB w b l e k n) : w.cell? ⟨b, 2, none⟩ = some (.pointer k) := by simp [World.cell?, show w.heap[b]? = _ from h]
theorem TB.c3 (h : TB w b l e k n) : w.cell? ⟨b, 3, none⟩ = some (.pointer n) := by simp [World.cell?, show w.heap[b]? = _ from h]
theorem TB.free (h : TB w b l e k n) (o : Nat) : w.frozen? ⟨b, o, none⟩ = false := by simp [World.frozen?, show w.heap[b]? = _ from h]
theorem TB.keep (h : TB w b l e k n) (hb : w'.heap[b]? = w.heap[b]?) : TB w' b l e k n := hb.trans h
theorem TB.new (w : World) (l : Int) (e : Bool) (k n : Option Addr) : TB (w.alloc (.cells #[.int .i64 l, .bool e, .pointer k, .pointer n] 58)) w.heap.size l e k n := Deep.blk_alloc_new w _

theorem TB.set (h : TB w b l e k n) (o : Nat) (v : Value) : (w.setCell ⟨b, o, none⟩ v).heap[b]? = some (.cells (#[.int .i64 l, .bool e, .pointer k, .pointer n].setIfInBounds o v) 58 (0, 0)) := by
  obtain ⟨hlt, hk⟩ := Array.getElem?_eq_some_iff.1 h
  show (w.heap.modify b _)[b]? = _
  rw [Array.getElem?_eq_getElem (by rw [Array.size_modify]; exact hlt), Array.getElem_modify_self, hk]
  rfl
theorem TB.set1 (h : TB w b l e k n) (e' : Bool) : TB (w.setCell ⟨b, 1, none⟩ (.bool e')) b l e' k n := h.set 1 _
theorem TB.set2 (h : TB w b l e k n) (k' : Option Addr) : TB (w.setCell ⟨b, 2, none⟩ (.pointer k')) b l e k' n := h.set 2 _
theorem TB.set3 (h : TB w b l e k n) (n' : Option Addr) : TB (w.setCell ⟨b, 3, none⟩ (.pointer n')) b l e k n' := h.set 3 _
end

/-- the next letter behind x from lo on -/
def IsNk (ps : List Txt) (x : Txt) (lo : Nat) : Option UInt8 → Prop
  | none => ∀ c : UInt8, lo ≤ c.toNat → x ++ [c] ∉ ps
  | some c => lo ≤ c.toNat ∧ x ++ [c] ∈ ps ∧ ∀ d : UInt8, lo ≤ d.toNat → d.toNat < c.toNat → x ++ [d] ∉ ps

/-- a pointer to the next twig behind x from lo on -/
def LinkIs (ps : List Txt) (A : Txt → Nat) (x : Txt) (lo : Nat) (p : Option Addr) : Prop := ∃ o : Option UInt8, IsNk ps x lo o ∧ p = o.map fun c => ⟨A (x ++ [c]), 0, none⟩

/-- the letter of a twig -/
def letOf (x : Txt) : Int := if x = [] then -1 else ((x.getLastD 0).toNat : Int) - 97

theorem letOf_snoc (x : Txt) (c : UInt8) : letOf (x ++ [c]) = (c.toNat : Int) - 97 := by simp [letOf]

/-- what follows a twig -/
def NextIs (ps : List Txt) (A : Txt → Nat) (x : Txt) (n : Option Addr) : Prop := ∀ (y : Txt) (c : UInt8), x = y ++ [c] → LinkIs ps A y (c.toNat + 1) n

structure Twigs (base : Nat) (w : World) (ps : List Txt) (en : Txt → Bool) (A : Txt → Nat) : Prop where
  root : [] ∈ ps
  closed : ∀ (x : Txt) (c : UInt8), x ++ [c] ∈ ps → x ∈ ps
  low : ∀ x ∈ ps, base ≤ A x
  inj : ∀ x ∈ ps, ∀ y ∈ ps, A x = A y → x = y
  spot : ∀ x ∈ ps, ∃ k n, TB w (A x) (letOf x) (en x) k n ∧ LinkIs ps A x 0 k ∧ NextIs ps A x n

/-- the place of a link: a twig's own, or that of one of its kids -/
def lnk (A : Txt → Nat) (x : Txt) : Option UInt8 → Addr
  | none => ⟨A x, 2, none⟩
  | some d => ⟨A (x ++ [d]), 3, none⟩
def loOf : Option UInt8 → Nat
  | none => 0
  | some d => d.toNat + 1

section
variable {base : Nat} {w w' : World} {ps : List Txt} {en : Txt → Bool} {A : Txt → Nat}

theorem Twigs.keep (h : Twigs base w ps en A) (hb : ∀ x ∈ ps, w'.heap[A x]? = w.heap[A x]?) : Twigs base w' ps en A :=
  ⟨h.root, h.closed, h.low, h.inj, fun x hx => by
    obtain ⟨k, n, h1, h2, h3⟩ := h.spot x hx
    exact ⟨k, n, h1.keep (hb x hx), h2, h3⟩⟩

theorem Twigs.lt (h : Twigs base w ps en A) {x : Txt} (hx : x ∈ ps) : A x < w.heap.size := by
  obtain ⟨k, n, h1, _⟩ := h.spot x hx
  exact h1.lt

theorem Twigs.below (h : Twigs base w ps en A) {B : Nat} (hB : w.heap.size ≤ B) (hb : Below B w w') : Twigs base w' ps en A :=
  h.keep fun x hx => hb.block _ (Nat.lt_of_lt_of_le (h.lt hx) hB)

/-- what a link holds -/
theorem Twigs.link (h : Twigs base w ps en A) {x : Txt} (hx : x ∈ ps) {d : Option UInt8} (hd : ∀ e, d = some e → x ++ [e] ∈ ps) :
    ∃ p, LinkIs ps A x (loOf d) p ∧ w.cell? (lnk A x d) = some (.pointer p) ∧ w.frozen? (lnk A x d) = false := by
  cases d with
  | none =>
    obtain ⟨k, n, h1, h2, h3⟩ := h.spot x hx
    exact ⟨k, h2, h1.c2, h1.free 2⟩
  | some e =>
    obtain ⟨k, n, h1, h2, h3⟩ := h.spot _ (hd e rfl)
    exact ⟨n, h3 x e rfl, h1.c3, h1.free 3⟩

theorem Twigs.first (h : Twigs base w ps en A) {x : Txt} (hx : x ∈ ps) : w.cell? ⟨A x, 0, none⟩ = some (.int .i64 (letOf x)) := by
  obtain ⟨k, n, h1, _⟩ := h.spot x hx
  exact h1.c0

/-- a text that is put in -/
theorem isNk_put {x : Txt} {c : UInt8} {z : Txt} {lo : Nat} {o : Option UInt8} (h : IsNk ps z lo o) (hn : ¬ (z = x ∧ lo ≤ c.toNat ∧ ∀ d, o = some d → c.toNat < d.toNat)) : IsNk (put ps (x ++ [c])) z lo o := by
  have key : ∀ d : UInt8, z ++ [d] ∉ ps → z ++ [d] ∈ put ps (x ++ [c]) → z = x ∧ d = c := by
    intro d h1 h2
    rcases (mem_put _ _ _).1 h2 with h3 | h3
    · exact absurd h3 h1
    · have := List.append_inj' h3 rfl
      simpa using this
  cases o with
  | none =>
    intro d hd hm
    obtain ⟨e1, e2⟩ := key d (h d hd) hm
    subst e2
    exact hn ⟨e1, hd, fun _ h => by cases h⟩
  | some e =>
    obtain ⟨h1, h2, h3⟩ := h
    refine ⟨h1, (mem_put _ _ _).2 (.inl h2), fun d hd1 hd2 hm => ?_⟩
    obtain ⟨e1, e2⟩ := key d (h3 d hd1 hd2) hm
    subst e2
    exact hn ⟨e1, hd1, fun _ h => by cases h; exact hd2⟩

theorem isNk_new {x : Txt} {c : UInt8} {lo : Nat} {o : Option UInt8} (h : IsNk ps x lo o) (h1 : lo ≤ c.toNat) (h2 : ∀ d, o = some d → c.toNat < d.toNat) : IsNk (put ps (x ++ [c])) x lo (some c) := by
  refine ⟨h1, (mem_put _ _ _).2 (.inr rfl), fun d hd1 hd2 hm => ?_⟩
  rcases (mem_put _ _ _).1 hm with h3 | h3
  · cases o with
    | none => exact h d hd1 h3
    | some e =>
      have := h2 e rfl
      exact h.2.2 d hd1 (by omega) h3
  · have := List.append_inj' h3 rfl
    obtain rfl : d = c := by simpa using this
    omega

theorem isNk_from {x : Txt} {c : UInt8} {lo : Nat} {o : Option UInt8} (h : IsNk ps x lo o) (h1 : lo ≤ c.toNat + 1) (h2 : ∀ d, o = some d → c.toNat < d.toNat) (hc : x ++ [c] ∉ ps ∨ True) : IsNk ps x (c.toNat + 1) o := by
  cases o with
  | none => exact fun d hd => h d (by omega)
  | some e =>
    have := h2 e rfl
    exact ⟨by omega, h.2.1, fun d hd1 hd2 => h.2.2 d (by omega) hd2⟩

theorem isNk_hit {x : Txt} {f : UInt8} {lo : Nat} {o : Option UInt8} (h : IsNk ps x lo o) (hf : x ++ [f] ∈ ps) (hl : lo ≤ f.toNat) : ∃ g, o = some g ∧ g.toNat ≤ f.toNat := by
  cases o with
  | none => exact absurd hf (h f hl)
  | some g =>
    refine ⟨g, rfl, ?_⟩
    by_cases hg : g.toNat ≤ f.toNat
    · exact hg
    · exact absurd hf (h.2.2 f hl (by omega))

/-- one link alone turns -/
theorem link_other {x z : Txt} {c : UInt8} {d d2 o o2 : Option UInt8} (hd : ∀ e, d = some e → x ++ [e] ∈ ps) (hlo : loOf d ≤ c.toNat) (ho : IsNk ps x (loOf d) o) (hgt : ∀ e, o = some e → c.toNat < e.toNat)
    (hd2 : ∀ e, d2 = some e → z ++ [e] ∈ ps) (hne : ¬ (z = x ∧ d2 = d)) (h : IsNk ps z (loOf d2) o2) : IsNk (put ps (x ++ [c])) z (loOf d2) o2 := by
  refine isNk_put h ?_
  rintro ⟨rfl, h1, h2⟩
  cases d2 with
  | none =>
    cases d with
    | none => exact hne ⟨rfl, rfl⟩
    | some e =>
      obtain ⟨g, rfl, hg⟩ := isNk_hit h (hd e rfl) (Nat.zero_le _)
      have := h2 g rfl
      simp only [loOf] at hlo
      omega
  | some e2 =>
    cases d with
    | none =>
      obtain ⟨g, rfl, hg⟩ := isNk_hit ho (hd2 e2 rfl) (Nat.zero_le _)
      have := hgt g rfl
      simp only [loOf] at h1
      omega
    | some e =>
      have hee : e2.toNat ≠ e.toNat := fun he => hne ⟨rfl, by rw [UInt8.toNat_inj.1 he]⟩
      simp only [loOf] at h1 hlo h ho
      rcases Nat.lt_or_ge e2.toNat e.toNat with hl | hl
      · obtain ⟨g, rfl, hg⟩ := isNk_hit h (hd e rfl) (by omega)
        have := h2 g rfl
        omega
      · obtain ⟨g, rfl, hg⟩ := isNk_hit ho (hd2 e2 rfl) (by omega)
        have := hgt g rfl
        omega

/-- the places, with one more -/
def upd (A : Txt → Nat) (y : Txt) (b : Nat) : Txt → Nat := fun z => if z = y then b else A z

theorem upd_self (A : Txt → Nat) (y : Txt) (b : Nat) : upd A y b y = b := by simp [upd]
theorem upd_of {A : Txt → Nat} {y z : Txt} {b : Nat} (h : z ∈ ps) (hy : y ∉ ps) : upd A y b z = A z := if_neg (fun e : z = y => hy (e ▸ h))

theorem linkIs_upd {x : Txt} {y : Txt} {b : Nat} {lo : Nat} {o : Option UInt8} (hy : y ∉ ps) (h : IsNk ps x lo o) : (o.map fun c => (⟨A (x ++ [c]), 0, none⟩ : Addr)) = o.map fun c => ⟨upd A y b (x ++ [c]), 0, none⟩ := by
  cases o with
  | none => rfl
  | some g => simp [upd_of h.2.1 hy]

/-- a twig more -/
theorem Twigs.grow (h : Twigs base w ps en A) (hbase : base ≤ w.heap.size) {x : Txt} {c : UInt8} (hx : x ∈ ps) (hy : x ++ [c] ∉ ps) (hen : en (x ++ [c]) = false) {d o : Option UInt8} (hd : ∀ e, d = some e → x ++ [e] ∈ ps)
    (hlo : loOf d ≤ c.toNat) (ho : IsNk ps x (loOf d) o) (hgt : ∀ e, o = some e → c.toNat < e.toNat) {w1 : World}
    (hw1 : w1 = w.alloc (.cells #[.int .i64 ((c.toNat : Int) - 97), .bool false, .pointer none, .pointer (o.map fun e => ⟨A (x ++ [e]), 0, none⟩)] 58)) :
    Twigs base (w1.setCell (lnk A x d) (.pointer (some ⟨w.heap.size, 0, none⟩))) (put ps (x ++ [c])) en (upd A (x ++ [c]) w.heap.size) := by
  have hmem := mem_put ps (x ++ [c])
  have hup : ∀ z ∈ ps, upd A (x ++ [c]) w.heap.size z = A z := fun z hz => upd_of hz hy
  have hold : ∀ (z : Txt) k n, z ∈ ps → TB w (A z) (letOf z) (en z) k n → TB w1 (A z) (letOf z) (en z) k n := fun z k n hz ht => ht.keep (by rw [hw1]; exact Deep.blk_alloc_lt w _ _ (h.lt hz))
  have hlb : (lnk A x d).block < w.heap.size := by
    cases d with
    | none => exact h.lt hx
    | some e => exact h.lt (hd e rfl)
  refine ⟨(hmem _).2 (.inl h.root), fun z e hz => ?_, fun z hz => ?_, fun z1 hz1 z2 hz2 he => ?_, fun z hz => ?_⟩
  · rcases (hmem _).1 hz with hz | hz
    · exact (hmem _).2 (.inl (h.closed z e hz))
    · have := List.append_inj' hz rfl
      rw [this.1]
      exact (hmem _).2 (.inl hx)
  · rcases (hmem _).1 hz with hz | rfl
    · rw [hup z hz]; exact h.low z hz
    · rw [upd_self]; exact hbase
  · rcases (hmem _).1 hz1 with k1 | rfl
    · rcases (hmem _).1 hz2 with k2 | rfl
      · rw [hup _ k1, hup _ k2] at he
        exact h.inj _ k1 _ k2 he
      · rw [hup _ k1, upd_self] at he
        have := h.lt k1
        omega
    · rcases (hmem _).1 hz2 with k2 | rfl
      · rw [hup _ k2, upd_self] at he
        have := h.lt k2
        omega
      · rfl
  · rcases (hmem _).1 hz with hz | rfl
    · obtain ⟨k, n, h1, h2, h3⟩ := h.spot z hz
      have h1' := hold z k n hz h1
      rw [hup z hz]
      -- the links that do not turn
      have hk : ¬ (z = x ∧ (none : Option UInt8) = d) → LinkIs (put ps (x ++ [c])) (upd A (x ++ [c]) w.heap.size) z 0 k := fun hne => by
        obtain ⟨o2, hnk, hp⟩ := h2
        exact ⟨o2, link_other hd hlo ho hgt (d2 := none) (by simp) hne hnk, by rw [hp, linkIs_upd hy hnk]⟩
      have hn : (∀ e, d = some e → z ≠ x ++ [e]) → NextIs (put ps (x ++ [c])) (upd A (x ++ [c]) w.heap.size) z n := fun hne y' c' e' => by
        obtain ⟨o2, hnk, hp⟩ := h3 y' c' e'
        refine ⟨o2, link_other hd hlo ho hgt (d2 := some c') (fun e he => by cases he; rw [← e']; exact hz) ?_ hnk, by rw [hp, linkIs_upd hy hnk]⟩
        rintro ⟨rfl, rfl⟩
        exact hne c' rfl e'
      cases d with
      | none =>
        by_cases hzx : z = x
        · subst hzx
          refine ⟨_, n, h1'.set2 _, ⟨some c, isNk_new ho hlo hgt, ?_⟩, hn (by simp)⟩
          simp [upd_self]
        · refine ⟨k, n, h1'.keep (Deep.blk_setCell_other _ _ _ _ (fun e => hzx (h.inj z hz x hx e))), hk (fun hh => hzx hh.1), hn (by simp)⟩
      | some e =>
        by_cases hzx : z = x ++ [e]
        · subst hzx
          refine ⟨k, _, h1'.set3 _, hk (fun hh => by cases hh.2), fun y' c' e' => ?_⟩
          have := List.append_inj' e' rfl
          obtain ⟨rfl, e2⟩ := this
          obtain rfl : e = c' := by simpa using e2
          exact ⟨some c, isNk_new ho hlo hgt, by simp [upd_self]⟩
        · refine ⟨k, n, h1'.keep (Deep.blk_setCell_other _ _ _ _ (fun e' => hzx (h.inj z hz _ (hd e rfl) e'))), hk (fun hh => by cases hh.2), hn (fun e' he' => by cases he'; exact hzx)⟩
    · rw [upd_self, letOf_snoc, hen]
      refine ⟨none, o.map fun e => ⟨A (x ++ [e]), 0, none⟩, ?_, ⟨none, fun e _ hm => ?_, rfl⟩, fun y' c' e' => ?_⟩
      · refine TB.keep (w := w1) ?_ (Deep.blk_setCell_other _ _ _ _ (by omega))
        rw [hw1]
        exact TB.new w _ _ _ _
      · rcases (hmem _).1 hm with hm | hm
        · exact hy (h.closed _ e hm)
        · have := congrArg List.length hm
          simp at this
      · have := List.append_inj' e' rfl
        obtain ⟨rfl, e2⟩ := this
        obtain rfl : c = c' := by simpa using e2
        have hf := isNk_from ho (by omega) hgt (.inr trivial)
        exact ⟨o, isNk_put hf (fun hh => by omega), linkIs_upd hy hf⟩

/-- the flag of a word -/
theorem Twigs.mark (h : Twigs base w ps en A) {x : Txt} (hx : x ∈ ps) : Twigs base (w.setCell ⟨A x, 1, none⟩ (.bool true)) ps (fun z => decide (z = x) || en z) A := by
  refine ⟨h.root, h.closed, h.low, h.inj, fun z hz => ?_⟩
  obtain ⟨k, n, h1, h2, h3⟩ := h.spot z hz
  by_cases hzx : z = x
  · subst hzx
    exact ⟨k, n, by simpa using h1.set1 true, h2, h3⟩
  · refine ⟨k, n, ?_, h2, h3⟩
    have e : (decide (z = x) || en z) = en z := by simp [hzx]
    simp only [e]
    exact h1.keep (Deep.blk_setCell_other _ _ _ _ (fun e => hzx (h.inj z hz x hx e)))

theorem Twigs.enEq {en' : Txt → Bool} (h : Twigs base w ps en A) (he : ∀ x ∈ ps, en' x = en x) : Twigs base w ps en' A :=
  ⟨h.root, h.closed, h.low, h.inj, fun x hx => by rw [he x hx]; exact h.spot x hx⟩

end

/-- the root alone -/
theorem Twigs.start {base : Nat} (w : World) (hb : base ≤ w.heap.size) (en : Txt → Bool) (he : en [] = false) :
    Twigs base (w.alloc (.cells #[.int .i64 (-1), .bool false, .pointer none, .pointer none] 58)) [[]] en (fun _ => w.heap.size) :=
  ⟨List.mem_singleton.2 rfl, fun x c h => by simp at h, fun _ _ => hb, fun x hx y hy _ => by simp at hx hy; rw [hx, hy], fun x hx => by
    obtain rfl : x = [] := by simpa using hx
    refine ⟨none, none, ?_, ⟨none, fun c _ h => by simp at h, rfl⟩, fun y c e => by simp at e⟩
    rw [he]
    exact TB.new w _ _ _ _⟩

end Go.Proofs.Ytmgieahachphmaa
