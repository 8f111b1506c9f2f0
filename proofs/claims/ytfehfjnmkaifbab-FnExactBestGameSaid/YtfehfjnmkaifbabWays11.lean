/-
  The game of adding letters: there are no more ways than nodes.
-/
import Derived.Test.YtfehfjnmkaifbabGame11
namespace Go.Proofs.Ytfehfjnmkaifbab
set_option linter.unusedVariables false

theorem kidsTo_once (t : List Nd) (i : Nat) : ∀ k, (kidsTo t i k).Nodup
  | 0 => by simp [kidsTo]
  | k + 1 => by
    have ih := kidsTo_once t i k
    cases hd : t[k]? with
    | none =>
      have e : kidsTo t i (k + 1) = kidsTo t i k := by simp [kidsTo, hd]
      rw [e]; exact ih
    | some d =>
      by_cases hp : i < k ∧ d.p = (i : Int)
      · rw [kidsTo_hit hd hp.1 hp.2]
        refine List.nodup_append.2 ⟨ih, by simp, fun a ha b hb => ?_⟩
        have := (mem_kidsTo.1 ha).1
        have := List.mem_singleton.1 hb
        omega
      · rw [kidsTo_miss hd hp]; exact ih

theorem kid_txt {t : List Nd} {ps : List Txt} (h : Tells t t.length ps) {i k : Nat} (hk : k ∈ kidsTo t i t.length) : ∃ c : UInt8, ps[k]? = some (ps.getD i [] ++ [c]) := by
  obtain ⟨h1, h2, d, hd, hp⟩ := mem_kidsTo.1 hk
  obtain ⟨_, x, _, hx⟩ := h.at (show i < t.length by omega)
  obtain ⟨c, hc⟩ := (par_iff h hx (by omega) hd).1 hp
  refine ⟨c, ?_⟩
  rw [hc]
  simp [List.getD, hx]

def undP (ps : List Txt) (x : Txt) : Nat := ps.countP fun y => decide (x <+: y)

theorem sum_le_one {p : Nat → Bool} : ∀ {l : List Nat}, l.Nodup → (∀ a ∈ l, ∀ b ∈ l, p a = true → p b = true → a = b) → (l.map fun k => if p k = true then 1 else 0).sum ≤ 1
  | [], _, _ => by simp
  | a :: l, hn, hu => by
    obtain ⟨h1, h2⟩ := List.nodup_cons.1 hn
    have ih := sum_le_one (p := p) h2 (fun x hx y hy => hu x (List.mem_cons_of_mem _ hx) y (List.mem_cons_of_mem _ hy))
    rw [List.map_cons, List.sum_cons]
    by_cases ha : p a = true
    · rw [if_pos ha]
      have h0 : (l.map fun k => if p k = true then 1 else 0).sum = 0 := by
        have : ∀ k ∈ l, p k = false := fun k hk => by
          cases hpk : p k with
          | false => rfl
          | true => exact absurd (hu a List.mem_cons_self k (List.mem_cons_of_mem _ hk) ha hpk) (fun e => h1 (by rw [e]; exact hk))
        clear ih hu h1 h2 hn
        induction l with
        | nil => rfl
        | cons b l ih => rw [List.map_cons, List.sum_cons, ih (fun k hk => this k (List.mem_cons_of_mem _ hk)), this b List.mem_cons_self]; simp
      omega
    · rw [if_neg ha]; omega

theorem sum_add (f g : Nat → Nat) : ∀ l : List Nat, (l.map fun k => f k + g k).sum = (l.map f).sum + (l.map g).sum
  | [] => rfl
  | a :: l => by rw [List.map_cons, List.sum_cons, List.map_cons, List.sum_cons, List.map_cons, List.sum_cons, sum_add f g l]; omega

theorem sum_up {f g : Nat → Nat} : ∀ {l : List Nat}, (∀ k ∈ l, f k ≤ g k) → (l.map f).sum ≤ (l.map g).sum
  | [], _ => Nat.le_refl _
  | a :: l, h => by
    have h1 := sum_up (l := l) (fun k hk => h k (List.mem_cons_of_mem _ hk))
    have h2 := h a List.mem_cons_self
    rw [List.map_cons, List.sum_cons, List.map_cons, List.sum_cons]; omega

theorem undP_sum {q : Nat → Txt} {x : Txt} {l : List Nat} (hn : l.Nodup) (hx : ∀ k ∈ l, x <+: q k) (hu : ∀ a ∈ l, ∀ b ∈ l, ∀ y, q a <+: y → q b <+: y → a = b) : ∀ ys : List Txt, (l.map fun k => undP ys (q k)).sum ≤ undP ys x
  | [] => by
    have : (l.map fun k => undP [] (q k)).sum = 0 := by
      clear hn hx hu
      induction l with
      | nil => rfl
      | cons a l ih => rw [List.map_cons, List.sum_cons, ih]; rfl
    omega
  | y :: ys => by
    have ih := undP_sum hn hx hu ys
    have e : ∀ z, undP (y :: ys) z = undP ys z + if decide (z <+: y) = true then 1 else 0 := fun z => by unfold undP; rw [List.countP_cons]
    have e2 : (fun k => undP (y :: ys) (q k)) = fun k => undP ys (q k) + if decide (q k <+: y) = true then 1 else 0 := funext fun k => e _
    rw [e2, sum_add, e]
    have h1 := sum_le_one (p := fun k => decide (q k <+: y)) hn (fun a ha b hb h1 h2 => hu a ha b hb y (by simpa using h1) (by simpa using h2))
    by_cases hxy : x <+: y
    · rw [if_pos (by simpa using hxy)]
      exact Nat.add_le_add ih h1
    · rw [if_neg (by simpa using hxy)]
      have h0 : (l.map fun k => if decide (q k <+: y) = true then 1 else 0).sum ≤ (l.map fun _ => 0).sum := sum_up fun k hk => by
        rw [if_neg (by simpa using fun hq => hxy ((hx k hk).trans hq))]
        exact Nat.le_refl _
      have h00 : ∀ l : List Nat, (l.map fun _ => 0).sum = 0 := fun l => by
        induction l with
        | nil => rfl
        | cons a l ih => rw [List.map_cons, List.sum_cons, ih]
      rw [h00] at h0
      exact Nat.add_le_add ih h0

theorem undP_le (ps : List Txt) (x : Txt) : undP ps x ≤ ps.length := List.countP_le_length

theorem undP_pos {ps : List Txt} {x : Txt} (h : x ∈ ps) : 1 ≤ undP ps x := by
  exact List.countP_pos_iff.2 ⟨x, h, by simp⟩

theorem way_und {t : List Nd} {ps : List Txt} {m : Nat} (h : Tells t t.length ps) : ∀ (f i : Nat), t.length - i ≤ f → i < t.length → way t ps m i ≤ undP ps (ps.getD i [])
  | f, i, hf, hi => by
    obtain ⟨_, x, _, hx⟩ := h.at hi
    have hg : ps.getD i [] = x := by simp [List.getD, hx]
    by_cases hc : kidsTo t i t.length = [] ∨ fatB t ps m i = true
    · rw [way_one hc, hg]
      exact undP_pos (List.mem_of_getElem? hx)
    · rw [way_sum hc]
      refine Nat.le_trans (sum_up (g := fun k => undP ps (ps.getD k [])) fun k hk => ?_) (undP_sum (q := fun k => ps.getD k []) (kidsTo_once t i _) (fun k hk => ?_) (fun a ha b hb y hya hyb => ?_) ps)
      · have h3 := kids_gt hk
        cases f with
        | zero => omega
        | succ f => exact way_und h f k (by omega) h3.2
      · obtain ⟨c, hc⟩ := kid_txt h hk
        simp only [List.getD, hc, Option.getD_some]
        exact List.prefix_append _ _
      · obtain ⟨c, hca⟩ := kid_txt h ha
        obtain ⟨c2, hcb⟩ := kid_txt h hb
        simp only [List.getD, hca, hcb, Option.getD_some] at hya hyb
        obtain ⟨r1, e1⟩ := hya
        obtain ⟨r2, e2⟩ := hyb
        have e := (List.append_inj (e1.trans e2.symm) (by simp)).1
        unfold List.getD at hca hcb
        rw [e] at hca
        exact asc_inj h.asc hca hcb

theorem way_le {t : List Nd} {ps : List Txt} {m i : Nat} (h : Tells t t.length ps) (hi : i < t.length) : way t ps m i ≤ t.length := by
  have h1 := way_und (m := m) h _ i (Nat.le_refl _) hi
  have h2 := undP_le ps (ps.getD i [])
  have h3 := h.len
  omega

theorem sum_pre (f : Nat → Nat) (a b : List Nat) : (a.map f).sum ≤ ((a ++ b).map f).sum := by rw [List.map_append, List.sum_append]; omega

/-- what is known behind some kids stays small -/
theorem thrTo_small {t : List Nd} {ps : List Txt} {m i k0 : Nat} {oth : Bool} (h : Tells t t.length ps) (hi : i < t.length) (h0 : fatB t ps m i = false) {a b : List Nat} (hab : kidsTo t i t.length = a ++ b) : (thrTo t ps m oth k0 a).ways ≤ t.length := by
  have e : (a.map fun k => (pro t ps m oth k).ways) = a.map (way t ps m) := List.map_congr_left fun k _ => pro_ways _ k (Nat.le_refl _)
  rw [thrTo_ways, e]
  refine Nat.le_trans (sum_pre (way t ps m) a b) ?_
  rw [← hab]
  by_cases hk : kidsTo t i t.length = []
  · rw [hk]; simp
  · rw [← way_sum (by rintro (e | e); exact hk e; rw [h0] at e; cases e)]
    exact way_le h hi

theorem thrTo_lts_le {t : List Nd} {ps : List Txt} {m k0 b : Nat} {oth : Bool} : ∀ l : List Nat, (∀ k ∈ l, (pro t ps m oth k).lts + 1 ≤ b) → (thrTo t ps m oth k0 l).lts ≤ b := by
  intro l
  induction l using snoc_ind with
  | nil => intro _; exact Nat.zero_le _
  | append_singleton l k ih =>
    intro h
    have h1 := ih (fun j hj => h j (List.mem_append_left _ hj))
    have h2 := h k (by simp)
    rw [thrTo_snoc, thr_lts]
    split <;> split <;> omega

theorem pro_lts_le {t : List Nd} {ps : List Txt} {m : Nat} {oth : Bool} : ∀ (f i : Nat), t.length - i ≤ f → (pro t ps m oth i).lts ≤ t.length - 1 - i
  | f, i, hf => by
    by_cases h : fatB t ps m i = true
    · rw [pro_fat h]; exact Nat.zero_le _
    · have h0 : fatB t ps m i = false := by simpa using h
      by_cases hk : kidsTo t i t.length = []
      · rw [pro_end h0 hk]; exact Nat.zero_le _
      · rw [pro_thr h0 hk]
        refine thrTo_lts_le _ fun k hk => ?_
        have h3 := kids_gt hk
        cases f with
        | zero => omega
        | succ f =>
          have h4 := pro_lts_le (t := t) (ps := ps) (m := m) (oth := oth) f k (by omega)
          omega

theorem thrTo_short {t : List Nd} {ps : List Txt} {m i k0 : Nat} {oth : Bool} {a b : List Nat} (hab : kidsTo t i t.length = a ++ b) : (thrTo t ps m oth k0 a).lts ≤ t.length := by
  refine thrTo_lts_le _ fun k hk => ?_
  have h3 := kids_gt (i := i) (by rw [hab]; exact List.mem_append_left _ hk)
  have h4 := pro_lts_le (t := t) (ps := ps) (m := m) (oth := oth) _ k (Nat.le_refl _)
  omega

theorem thrTo_nextLt {t : List Nd} {ps : List Txt} {m k0 n : Nat} {oth : Bool} (h0 : k0 < n) : ∀ l : List Nat, (∀ k ∈ l, k < n) → (thrTo t ps m oth k0 l).next < n := by
  intro l
  induction l using snoc_ind with
  | nil => intro _; exact h0
  | append_singleton l k ih =>
    intro h
    have h1 := ih (fun j hj => h j (List.mem_append_left _ hj))
    have h2 := h k (by simp)
    rw [thrTo_snoc, thr_next]
    split <;> assumption

theorem pro_small {t : List Nd} {ps : List Txt} {m : Nat} {oth : Bool} (h : Tells t t.length ps) {i : Nat} (hi : i < t.length) : (pro t ps m oth i).lts ≤ t.length ∧ (pro t ps m oth i).ways ≤ t.length ∧ (pro t ps m oth i).next < t.length := by
  refine ⟨Nat.le_trans (pro_lts_le _ i (Nat.le_refl _)) (by omega), by rw [pro_ways _ i (Nat.le_refl _)]; exact way_le h hi, ?_⟩
  by_cases hf : fatB t ps m i = true
  · rw [pro_fat hf]; show 0 < _; omega
  · have h0 : fatB t ps m i = false := by simpa using hf
    by_cases hk : kidsTo t i t.length = []
    · rw [pro_end h0 hk]; show 0 < _; omega
    · rw [pro_thr h0 hk]
      refine thrTo_nextLt ?_ _ (fun k hk => (kids_gt hk).2)
      cases e : kidsTo t i t.length with
      | nil => exact absurd e hk
      | cons k l => exact (kids_gt (i := i) (by rw [e]; exact List.mem_cons_self)).2

end Go.Proofs.Ytfehfjnmkaifbab
