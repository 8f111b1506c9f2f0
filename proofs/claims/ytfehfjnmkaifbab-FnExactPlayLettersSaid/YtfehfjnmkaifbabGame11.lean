/-
  The game of adding letters, plain mathematics: fatal and open nodes, who wins, in how many ways, how long; what the program knows of a node.
-/
import Derived.Test.YtfehfjnmkaifbabKids
namespace Go.Proofs.Ytfehfjnmkaifbab
set_option linter.unusedVariables false

/-- the node is fatal: a word of at least m letters ends there -/
def fatB (t : List Nd) (ps : List Txt) (m i : Nat) : Bool := (match t[i]? with | some d => d.e | none => false) && decide (m ≤ (ps.getD i []).length)

theorem fatB_at {t : List Nd} {ps : List Txt} {m i : Nat} {d : Nd} {x : Txt} (hd : t[i]? = some d) (hx : ps[i]? = some x) : fatB t ps m i = (d.e && decide (m ≤ x.length)) := by
  unfold fatB
  rw [hd]
  simp [List.getD, hx]

theorem fatB_root {t : List Nd} {ps : List Txt} {m : Nat} (h : Tells t t.length ps) (hm : 1 ≤ m) : fatB t ps m 0 = false := by
  obtain ⟨d, x, hd, hx⟩ := h.at h.pos
  have e := h.nil
  rw [e] at hx
  obtain rfl := Option.some.inj hx
  rw [fatB_at hd e]
  have : decide (m ≤ ([] : Txt).length) = false := decide_eq_false (by simp; omega)
  rw [this, Bool.and_false]

/-- the parent's place -/
def parN (t : List Nd) (i : Nat) : Nat := match t[i]? with | some d => d.p.toNat | none => 0

theorem parN_at {t : List Nd} {i : Nat} {d : Nd} (hd : t[i]? = some d) : parN t i = d.p.toNat := by unfold parN; rw [hd]

theorem parN_lt {t : List Nd} {ps : List Txt} (h : Tells t t.length ps) {i : Nat} (hi : 1 ≤ i) (hl : i < t.length) : parN t i < i := by
  obtain ⟨d, x, hd, hx⟩ := h.at hl
  obtain ⟨j, y, c, hp, hj, _⟩ := h.step i d hi hl hd
  rw [parN_at hd, hp]
  simpa using hj

/-- no fatal node is on the way, itself included -/
def opnF (t : List Nd) (ps : List Txt) (m : Nat) : Nat → Nat → Bool
  | 0, _ => true
  | f + 1, i => !fatB t ps m i && (decide (i = 0) || opnF t ps m f (parN t i))
def opn (t : List Nd) (ps : List Txt) (m i : Nat) : Bool := opnF t ps m (i + 1) i

theorem opnF_same {t : List Nd} {ps : List Txt} {m : Nat} (h : Tells t t.length ps) : ∀ (f g i : Nat), i < f → i < g → i < t.length → opnF t ps m f i = opnF t ps m g i
  | 0, _, i, h1, _, _ => absurd h1 (by omega)
  | _, 0, i, _, h2, _ => absurd h2 (by omega)
  | f + 1, g + 1, i, h1, h2, hl => by
    unfold opnF
    by_cases e : i = 0
    · simp [e]
    · have := parN_lt h (show 1 ≤ i by omega) hl
      rw [opnF_same h f g (parN t i) (by omega) (by omega) (by omega)]

theorem opn_root {t : List Nd} {ps : List Txt} {m : Nat} (h : Tells t t.length ps) (hm : 1 ≤ m) : opn t ps m 0 = true := by
  unfold opn opnF
  rw [fatB_root h hm]
  rfl

theorem opn_step {t : List Nd} {ps : List Txt} {m : Nat} (h : Tells t t.length ps) {i : Nat} (hi : 1 ≤ i) (hl : i < t.length) : opn t ps m i = (!fatB t ps m i && opn t ps m (parN t i)) := by
  have := parN_lt h hi hl
  show opnF t ps m (i + 1) i = _
  unfold opnF
  rw [decide_eq_false (show ¬ i = 0 by omega), Bool.false_or]
  unfold opn
  rw [opnF_same h i (parN t i + 1) (parN t i) (by omega) (by omega) (by omega)]

theorem opn_not {t : List Nd} {ps : List Txt} {m i : Nat} (h : opn t ps m i = true) : fatB t ps m i = false := by
  unfold opn opnF at h
  cases hf : fatB t ps m i with
  | false => rfl
  | true => rw [hf] at h; cases h

/-! who wins -/
def winF (t : List Nd) (ps : List Txt) (m : Nat) (oth : Bool) : Nat → Nat → Bool
  | 0, _ => false
  | f + 1, i => (kidsTo t i t.length).any fun k => (fatB t ps m k && oth) || (!fatB t ps m k && !winF t ps m oth f k)
def win (t : List Nd) (ps : List Txt) (m : Nat) (oth : Bool) (i : Nat) : Bool := winF t ps m oth (t.length - i) i

theorem kids_gt {t : List Nd} {i k : Nat} (h : k ∈ kidsTo t i t.length) : i < k ∧ k < t.length := by
  obtain ⟨h1, h2, _⟩ := mem_kidsTo.1 h
  exact ⟨h2, h1⟩

theorem kids_none {t : List Nd} {i : Nat} (h : t.length ≤ i + 1) : kidsTo t i t.length = [] := by
  rw [List.eq_nil_iff_forall_not_mem]
  intro k hk
  have := kids_gt hk
  omega

theorem any_same {l : List Nat} {p q : Nat → Bool} (h : ∀ k ∈ l, p k = q k) : l.any p = l.any q := by
  induction l with
  | nil => rfl
  | cons a l ih => rw [List.any_cons, List.any_cons, h a List.mem_cons_self, ih (fun k hk => h k (List.mem_cons_of_mem _ hk))]

theorem winF_same {t : List Nd} {ps : List Txt} {m : Nat} {oth : Bool} : ∀ (f g i : Nat), t.length - i ≤ f → t.length - i ≤ g → winF t ps m oth f i = winF t ps m oth g i
  | 0, 0, _, _, _ => rfl
  | 0, g + 1, i, h1, _ => by unfold winF; rw [kids_none (by omega)]; rfl
  | f + 1, 0, i, _, h2 => by unfold winF; rw [kids_none (by omega)]; rfl
  | f + 1, g + 1, i, h1, h2 => by
    unfold winF
    refine any_same fun k hk => ?_
    have := kids_gt hk
    rw [winF_same f g k (by omega) (by omega)]

theorem win_eq {t : List Nd} {ps : List Txt} {m : Nat} {oth : Bool} (i : Nat) : win t ps m oth i = (kidsTo t i t.length).any fun k => (fatB t ps m k && oth) || (!fatB t ps m k && !win t ps m oth k) := by
  unfold win
  rw [winF_same (t.length - i) (t.length - i + 1) i (by omega) (by omega)]
  show (kidsTo t i t.length).any _ = _
  refine any_same fun k hk => ?_
  have := kids_gt hk
  rw [winF_same (t.length - i) (t.length - k) k (by omega) (by omega)]

/-! in how many ways -/
def wayF (t : List Nd) (ps : List Txt) (m : Nat) : Nat → Nat → Nat
  | 0, _ => 1
  | f + 1, i => if kidsTo t i t.length = [] ∨ fatB t ps m i = true then 1 else ((kidsTo t i t.length).map (wayF t ps m f)).sum
def way (t : List Nd) (ps : List Txt) (m i : Nat) : Nat := wayF t ps m (t.length - i) i

theorem wayF_same {t : List Nd} {ps : List Txt} {m : Nat} : ∀ (f g i : Nat), t.length - i ≤ f → t.length - i ≤ g → wayF t ps m f i = wayF t ps m g i
  | 0, 0, _, _, _ => rfl
  | 0, g + 1, i, h1, _ => by unfold wayF; rw [if_pos (.inl (kids_none (by omega)))]
  | f + 1, 0, i, _, h2 => by unfold wayF; rw [if_pos (.inl (kids_none (by omega)))]
  | f + 1, g + 1, i, h1, h2 => by
    unfold wayF
    rw [List.map_congr_left fun k hk => (by have := kids_gt hk; exact wayF_same f g k (by omega) (by omega) : wayF t ps m f k = wayF t ps m g k)]

theorem way_one {t : List Nd} {ps : List Txt} {m i : Nat} (h : kidsTo t i t.length = [] ∨ fatB t ps m i = true) : way t ps m i = 1 := by
  unfold way
  cases t.length - i with
  | zero => rfl
  | succ f => unfold wayF; rw [if_pos h]

theorem way_sum {t : List Nd} {ps : List Txt} {m i : Nat} (h : ¬ (kidsTo t i t.length = [] ∨ fatB t ps m i = true)) : way t ps m i = ((kidsTo t i t.length).map (way t ps m)).sum := by
  unfold way
  rw [wayF_same (t.length - i) (t.length - i + 1) i (by omega) (by omega)]
  show (if _ then _ else _) = _
  rw [if_neg h]
  congr 1
  refine List.map_congr_left fun k hk => ?_
  have := kids_gt hk
  exact wayF_same _ _ k (by omega) (by omega)

theorem snoc_ind {α : Type} {p : List α → Prop} (nil : p []) (append_singleton : ∀ (l : List α) (a : α), p l → p (l ++ [a])) (l : List α) : p l := by
  have h : ∀ r : List α, p r.reverse := fun r => by
    induction r with
    | nil => exact nil
    | cons a r ih => rw [List.reverse_cons]; exact append_singleton _ _ ih
  have h2 := h l.reverse
  rwa [List.reverse_reverse] at h2

/-! how long: one letter of the reference's search -/
def stepL (wins good : Bool) (best : Int) (many : Nat) : Int := if (wins && good && (decide (best < 0) || decide ((many : Int) < best)) || !wins && decide (best < (many : Int))) = true then (many : Int) else best

def goodB (t : List Nd) (ps : List Txt) (m k : Nat) : Bool := !fatB t ps m k && !win t ps m false k

def lonF (t : List Nd) (ps : List Txt) (m : Nat) : Nat → Nat → Nat
  | 0, _ => 0
  | f + 1, i => if kidsTo t i t.length = [] ∨ fatB t ps m i = true then 0 else ((kidsTo t i t.length).foldl (fun b k => stepL (win t ps m false i) (goodB t ps m k) b (1 + lonF t ps m f k)) (-1)).toNat
def lon (t : List Nd) (ps : List Txt) (m i : Nat) : Nat := lonF t ps m (t.length - i) i

theorem foldl_same {α : Type} {l : List Nat} {p q : α → Nat → α} (h : ∀ k ∈ l, ∀ a, p a k = q a k) : ∀ a, l.foldl p a = l.foldl q a := by
  induction l with
  | nil => intro a; rfl
  | cons x l ih => intro a; rw [List.foldl_cons, List.foldl_cons, h x List.mem_cons_self, ih (fun k hk => h k (List.mem_cons_of_mem _ hk))]

theorem lonF_same {t : List Nd} {ps : List Txt} {m : Nat} : ∀ (f g i : Nat), t.length - i ≤ f → t.length - i ≤ g → lonF t ps m f i = lonF t ps m g i
  | 0, 0, _, _, _ => rfl
  | 0, g + 1, i, h1, _ => by unfold lonF; rw [if_pos (.inl (kids_none (by omega)))]
  | f + 1, 0, i, _, h2 => by unfold lonF; rw [if_pos (.inl (kids_none (by omega)))]
  | f + 1, g + 1, i, h1, h2 => by
    unfold lonF
    rw [foldl_same fun k hk a => (by have := kids_gt hk; rw [lonF_same f g k (by omega) (by omega)] : stepL (win t ps m false i) (goodB t ps m k) a (1 + lonF t ps m f k) = stepL (win t ps m false i) (goodB t ps m k) a (1 + lonF t ps m g k))]

theorem lon_none {t : List Nd} {ps : List Txt} {m i : Nat} (h : kidsTo t i t.length = [] ∨ fatB t ps m i = true) : lon t ps m i = 0 := by
  unfold lon
  cases t.length - i with
  | zero => rfl
  | succ f => unfold lonF; rw [if_pos h]

/-- the search's number behind some kids -/
def lonTo (t : List Nd) (ps : List Txt) (m : Nat) (w : Bool) (l : List Nat) : Int := l.foldl (fun b k => stepL w (goodB t ps m k) b (1 + lon t ps m k)) (-1)

theorem lon_fold {t : List Nd} {ps : List Txt} {m i : Nat} (h : ¬ (kidsTo t i t.length = [] ∨ fatB t ps m i = true)) : lon t ps m i = (lonTo t ps m (win t ps m false i) (kidsTo t i t.length)).toNat := by
  show lonF t ps m (t.length - i) i = _
  rw [lonF_same (t.length - i) (t.length - i + 1) i (by omega) (by omega)]
  show (if _ then _ else _) = _
  rw [if_neg h]
  congr 1
  refine foldl_same (fun k hk a => ?_) _
  have := kids_gt hk
  rw [lonF_same (t.length - i) (t.length - k) k (by omega) (by omega)]
  rfl

theorem stepL_cases (w g : Bool) (b : Int) (k : Nat) : stepL w g b k = b ∨ stepL w g b k = (k : Int) := by
  unfold stepL
  split
  · exact .inr rfl
  · exact .inl rfl

theorem lonTo_snoc (t : List Nd) (ps : List Txt) (m : Nat) (w : Bool) (l : List Nat) (k : Nat) : lonTo t ps m w (l ++ [k]) = stepL w (goodB t ps m k) (lonTo t ps m w l) (1 + lon t ps m k) := by
  unfold lonTo
  rw [List.foldl_append]
  rfl

theorem lonTo_le {t : List Nd} {ps : List Txt} {m : Nat} {w : Bool} {b : Nat} : ∀ (l : List Nat), (∀ k ∈ l, 1 + lon t ps m k ≤ b) → -1 ≤ lonTo t ps m w l ∧ lonTo t ps m w l ≤ b := by
  intro l
  induction l using snoc_ind with
  | nil => intro _; exact ⟨Int.le_refl _, by show (-1 : Int) ≤ b; omega⟩
  | append_singleton l k ih =>
    intro h
    have h1 := ih (fun j hj => h j (List.mem_append_left _ hj))
    have h2 := h k (by simp)
    rw [lonTo_snoc]
    rcases stepL_cases w (goodB t ps m k) (lonTo t ps m w l) (1 + lon t ps m k) with e | e <;> rw [e] <;> omega

theorem lon_le {t : List Nd} {ps : List Txt} {m : Nat} : ∀ (f i : Nat), t.length - i ≤ f → lon t ps m i ≤ t.length - 1 - i
  | f, i, hf => by
    by_cases h : kidsTo t i t.length = [] ∨ fatB t ps m i = true
    · rw [lon_none h]; omega
    · rw [lon_fold h]
      have h1 : ∃ k, k ∈ kidsTo t i t.length := List.exists_mem_of_ne_nil _ (fun e => h (.inl e))
      obtain ⟨k0, hk0⟩ := h1
      have h0 := kids_gt hk0
      have h2 := (lonTo_le (t := t) (ps := ps) (m := m) (w := win t ps m false i) (b := t.length - 1 - i) (kidsTo t i t.length) (fun k hk => by
        have h3 := kids_gt hk
        cases f with
        | zero => omega
        | succ f =>
          have h4 := lon_le (t := t) (ps := ps) (m := m) f k (by omega)
          omega)).2
      omega

/-! what the program knows of a node -/
structure Pro where
  wins : Bool
  lts : Nat
  ways : Nat
  next : Nat

def thr (a : Pro) (k : Nat) (b : Pro) : Pro :=
  if (!b.wins && !a.wins) = true then ⟨true, b.lts + 1, a.ways + b.ways, k⟩
  else if b.wins = false then ⟨a.wins, min a.lts (b.lts + 1), a.ways + b.ways, a.next⟩
  else if a.wins = false then ⟨a.wins, max a.lts (b.lts + 1), a.ways + b.ways, a.next⟩
  else ⟨a.wins, a.lts, a.ways + b.ways, a.next⟩

def proF (t : List Nd) (ps : List Txt) (m : Nat) (oth : Bool) : Nat → Nat → Pro
  | 0, i => if fatB t ps m i = true then ⟨!oth, 0, 1, 0⟩ else ⟨false, 0, 1, 0⟩
  | f + 1, i => if fatB t ps m i = true then ⟨!oth, 0, 1, 0⟩ else if kidsTo t i t.length = [] then ⟨false, 0, 1, 0⟩
    else (kidsTo t i t.length).foldl (fun a k => thr a k (proF t ps m oth f k)) ⟨false, 0, 0, (kidsTo t i t.length).headD 0⟩
def pro (t : List Nd) (ps : List Txt) (m : Nat) (oth : Bool) (i : Nat) : Pro := proF t ps m oth (t.length - i) i

theorem proF_same {t : List Nd} {ps : List Txt} {m : Nat} {oth : Bool} : ∀ (f g i : Nat), t.length - i ≤ f → t.length - i ≤ g → proF t ps m oth f i = proF t ps m oth g i
  | 0, 0, _, _, _ => rfl
  | 0, g + 1, i, h1, _ => by unfold proF; rw [if_pos (kids_none (i := i) (by omega))]
  | f + 1, 0, i, _, h2 => by unfold proF; rw [if_pos (kids_none (i := i) (by omega))]
  | f + 1, g + 1, i, h1, h2 => by
    unfold proF
    rw [foldl_same fun k hk a => (by have := kids_gt hk; rw [proF_same f g k (by omega) (by omega)] : thr a k (proF t ps m oth f k) = thr a k (proF t ps m oth g k))]

theorem pro_fat {t : List Nd} {ps : List Txt} {m i : Nat} {oth : Bool} (h : fatB t ps m i = true) : pro t ps m oth i = ⟨!oth, 0, 1, 0⟩ := by
  unfold pro
  cases t.length - i with
  | zero => unfold proF; rw [if_pos h]
  | succ f => unfold proF; rw [if_pos h]

theorem pro_end {t : List Nd} {ps : List Txt} {m i : Nat} {oth : Bool} (h : fatB t ps m i = false) (hk : kidsTo t i t.length = []) : pro t ps m oth i = ⟨false, 0, 1, 0⟩ := by
  unfold pro
  cases t.length - i with
  | zero => unfold proF; rw [if_neg (by rw [h]; simp)]
  | succ f => unfold proF; rw [if_neg (by rw [h]; simp), if_pos hk]

/-- what is known behind some kids -/
def thrTo (t : List Nd) (ps : List Txt) (m : Nat) (oth : Bool) (k0 : Nat) (l : List Nat) : Pro := l.foldl (fun a k => thr a k (pro t ps m oth k)) ⟨false, 0, 0, k0⟩

theorem thrTo_snoc (t : List Nd) (ps : List Txt) (m : Nat) (oth : Bool) (k0 : Nat) (l : List Nat) (k : Nat) : thrTo t ps m oth k0 (l ++ [k]) = thr (thrTo t ps m oth k0 l) k (pro t ps m oth k) := by
  unfold thrTo
  rw [List.foldl_append]
  rfl

theorem pro_thr {t : List Nd} {ps : List Txt} {m i : Nat} {oth : Bool} (h : fatB t ps m i = false) (hk : kidsTo t i t.length ≠ []) : pro t ps m oth i = thrTo t ps m oth ((kidsTo t i t.length).headD 0) (kidsTo t i t.length) := by
  show proF t ps m oth (t.length - i) i = _
  rw [proF_same (t.length - i) (t.length - i + 1) i (by omega) (by omega)]
  show (if _ then _ else _) = _
  rw [if_neg (by rw [h]; simp), if_neg hk]
  refine foldl_same (fun k hk a => ?_) _
  have := kids_gt hk
  rw [proF_same (t.length - i) (t.length - k) k (by omega) (by omega)]
  rfl

theorem thr_wins (a : Pro) (k : Nat) (b : Pro) : (thr a k b).wins = (a.wins || !b.wins) := by
  obtain ⟨w, l, y, x⟩ := a
  obtain ⟨w', l', y', x'⟩ := b
  cases w <;> cases w' <;> simp [thr]
theorem thr_ways (a : Pro) (k : Nat) (b : Pro) : (thr a k b).ways = a.ways + b.ways := by
  obtain ⟨w, l, y, x⟩ := a
  obtain ⟨w', l', y', x'⟩ := b
  cases w <;> cases w' <;> simp [thr]
theorem thr_next (a : Pro) (k : Nat) (b : Pro) : (thr a k b).next = if (!b.wins && !a.wins) = true then k else a.next := by
  obtain ⟨w, l, y, x⟩ := a
  obtain ⟨w', l', y', x'⟩ := b
  cases w <;> cases w' <;> simp [thr]
theorem thr_lts (a : Pro) (k : Nat) (b : Pro) : (thr a k b).lts = if b.wins = false then (if a.wins = false then b.lts + 1 else min a.lts (b.lts + 1)) else (if a.wins = false then max a.lts (b.lts + 1) else a.lts) := by
  obtain ⟨w, l, y, x⟩ := a
  obtain ⟨w', l', y', x'⟩ := b
  cases w <;> cases w' <;> simp [thr]

theorem thrTo_wins (t : List Nd) (ps : List Txt) (m : Nat) (oth : Bool) (k0 : Nat) (l : List Nat) : (thrTo t ps m oth k0 l).wins = l.any fun k => !(pro t ps m oth k).wins := by
  induction l using snoc_ind with
  | nil => rfl
  | append_singleton l k ih => rw [thrTo_snoc, thr_wins, ih, List.any_append]; simp

theorem thrTo_ways (t : List Nd) (ps : List Txt) (m : Nat) (oth : Bool) (k0 : Nat) (l : List Nat) : (thrTo t ps m oth k0 l).ways = (l.map fun k => (pro t ps m oth k).ways).sum := by
  induction l using snoc_ind with
  | nil => rfl
  | append_singleton l k ih => rw [thrTo_snoc, thr_ways, ih, List.map_append, List.sum_append]; simp

/-- who wins, by what is known -/
theorem pro_wins {t : List Nd} {ps : List Txt} {m : Nat} {oth : Bool} : ∀ (f i : Nat), t.length - i ≤ f → (pro t ps m oth i).wins = if fatB t ps m i = true then !oth else win t ps m oth i
  | f, i, hf => by
    by_cases h : fatB t ps m i = true
    · rw [pro_fat h, if_pos h]
    · have h0 : fatB t ps m i = false := by simpa using h
      rw [if_neg h]
      by_cases hk : kidsTo t i t.length = []
      · rw [pro_end h0 hk, win_eq, hk]; rfl
      · rw [pro_thr h0 hk, thrTo_wins, win_eq]
        refine any_same fun k hk => ?_
        have h3 := kids_gt hk
        cases f with
        | zero => omega
        | succ f =>
          rw [pro_wins f k (by omega)]
          cases fatB t ps m k <;> cases oth <;> simp

theorem pro_good {t : List Nd} {ps : List Txt} {m : Nat} (k : Nat) : (!(pro t ps m false k).wins) = goodB t ps m k := by
  rw [pro_wins _ k (Nat.le_refl _)]
  unfold goodB
  cases fatB t ps m k <;> simp

theorem pro_ways {t : List Nd} {ps : List Txt} {m : Nat} {oth : Bool} : ∀ (f i : Nat), t.length - i ≤ f → (pro t ps m oth i).ways = way t ps m i
  | f, i, hf => by
    by_cases h : fatB t ps m i = true
    · rw [pro_fat h, way_one (.inr h)]
    · have h0 : fatB t ps m i = false := by simpa using h
      by_cases hk : kidsTo t i t.length = []
      · rw [pro_end h0 hk, way_one (.inl hk)]
      · rw [pro_thr h0 hk, thrTo_ways, way_sum (by rintro (e | e); exact hk e; exact h e)]
        congr 1
        refine List.map_congr_left fun k hk => ?_
        have h3 := kids_gt hk
        cases f with
        | zero => omega
        | succ f => exact pro_ways f k (by omega)

/-- the search's number and the program's -/
def SameL (w : Bool) (b : Int) (a : Pro) (e : Bool) : Prop :=
  if w = true then (if a.wins = true then b = (a.lts : Int) else b = -1) else a.wins = false ∧ (if e = true then b = -1 ∧ a.lts = 0 else b = (a.lts : Int))

theorem sameL_step {w : Bool} {b : Int} {a p : Pro} {e : Bool} {k : Nat} (h : SameL w b a e) (hw : w = false → p.wins = true) : SameL w (stepL w (!p.wins) b (1 + p.lts)) (thr a k p) false := by
  obtain ⟨aw, al, ay, ax⟩ := a
  obtain ⟨pw, pl, py, px⟩ := p
  unfold SameL at h ⊢
  unfold stepL thr
  cases w with
  | false =>
    obtain rfl := hw rfl
    obtain ⟨rfl, h⟩ := h
    cases e with
    | true =>
      obtain ⟨rfl, rfl⟩ := h
      simp
      omega
    | false =>
      simp at h
      subst h
      simp
      split <;> omega
  | true =>
    cases aw with
    | false =>
      simp at h
      subst h
      cases pw with
      | false => simp; omega
      | true => simp
    | true =>
      simp at h
      subst h
      cases pw with
      | false =>
        simp
        by_cases hc : (1 : Int) + (pl : Int) < al
        · simp [hc]; omega
        · simp [hc]
          have : ¬ ((al : Int) < 0) := by omega
          omega
      | true => simp

theorem sameL_all {t : List Nd} {ps : List Txt} {m i k0 : Nat} (hl : ∀ k ∈ kidsTo t i t.length, (pro t ps m false k).lts = lon t ps m k) : ∀ l : List Nat, (∀ k ∈ l, k ∈ kidsTo t i t.length) →
    SameL (win t ps m false i) (lonTo t ps m (win t ps m false i) l) (thrTo t ps m false k0 l) (decide (l = [])) := by
  intro l
  induction l using snoc_ind with
  | nil => intro _; unfold SameL lonTo thrTo; cases win t ps m false i <;> simp
  | append_singleton l k ih =>
    intro h
    have h1 := ih (fun j hj => h j (List.mem_append_left _ hj))
    have hk := h k (by simp)
    have h2 := sameL_step (k := k) (p := pro t ps m false k) h1 (fun hw => by
      rw [win_eq, List.any_eq_false] at hw
      have h3 := hw k hk
      rw [pro_wins _ k (Nat.le_refl _)]
      revert h3
      cases fatB t ps m k <;> simp)
    rw [lonTo_snoc, thrTo_snoc, ← pro_good, ← hl k hk]
    rw [decide_eq_false (by simp)]
    exact h2

theorem pro_lts {t : List Nd} {ps : List Txt} {m : Nat} : ∀ (f i : Nat), t.length - i ≤ f → (pro t ps m false i).lts = lon t ps m i
  | f, i, hf => by
    by_cases h : fatB t ps m i = true
    · rw [pro_fat h, lon_none (.inr h)]
    · have h0 : fatB t ps m i = false := by simpa using h
      by_cases hk : kidsTo t i t.length = []
      · rw [pro_end h0 hk, lon_none (.inl hk)]
      · have hwn : (pro t ps m false i).wins = win t ps m false i := by rw [pro_wins _ i (Nat.le_refl _), if_neg h]
        rw [lon_fold (by rintro (e | e); exact hk e; exact h e)]
        have h2 := sameL_all (i := i) (k0 := (kidsTo t i t.length).headD 0) (ps := ps) (m := m) (fun k hk => by
          have h3 := kids_gt hk
          cases f with
          | zero => omega
          | succ f => exact pro_lts f k (by omega)) (kidsTo t i t.length) (fun k hk => hk)
        rw [← pro_thr h0 hk] at h2
        unfold SameL at h2
        rw [hwn, decide_eq_false hk] at h2
        cases hw : win t ps m false i with
        | true =>
          rw [hw] at h2
          simp at h2
          rw [h2]
          rfl
        | false =>
          rw [hw] at h2
          simp at h2
          rw [h2]
          rfl

/-- the first of the good kids, or the first kid -/
def nxt (t : List Nd) (ps : List Txt) (m i : Nat) : Nat := if fatB t ps m i = true then 0 else ((kidsTo t i t.length).find? (goodB t ps m)).getD ((kidsTo t i t.length).headD 0)

theorem thrTo_next (t : List Nd) (ps : List Txt) (m k0 : Nat) (l : List Nat) : (thrTo t ps m false k0 l).next = (l.find? (goodB t ps m)).getD k0 := by
  induction l using snoc_ind with
  | nil => rfl
  | append_singleton l k ih =>
    rw [thrTo_snoc, thr_next, thrTo_wins, pro_good, ih, List.find?_append]
    have e : (l.any fun k => !(pro t ps m false k).wins) = l.any (goodB t ps m) := any_same fun k _ => pro_good k
    rw [e]
    cases hf : l.find? (goodB t ps m) with
    | some j =>
      have : l.any (goodB t ps m) = true := List.any_eq_true.2 ⟨j, List.mem_of_find?_eq_some hf, by have := List.find?_some hf; simpa using this⟩
      rw [this]
      simp
    | none =>
      have : l.any (goodB t ps m) = false := by
        rw [List.any_eq_false]
        intro x hx
        have := List.find?_eq_none.1 hf x hx
        exact this
      rw [this]
      cases hg : goodB t ps m k <;> simp [hg]

theorem pro_next {t : List Nd} {ps : List Txt} {m : Nat} (i : Nat) : (pro t ps m false i).next = nxt t ps m i := by
  unfold nxt
  by_cases h : fatB t ps m i = true
  · rw [pro_fat h, if_pos h]
  · have h0 : fatB t ps m i = false := by simpa using h
    rw [if_neg h]
    by_cases hk : kidsTo t i t.length = []
    · rw [pro_end h0 hk, hk]; rfl
    · rw [pro_thr h0 hk, thrTo_next]

end Go.Proofs.Ytfehfjnmkaifbab
