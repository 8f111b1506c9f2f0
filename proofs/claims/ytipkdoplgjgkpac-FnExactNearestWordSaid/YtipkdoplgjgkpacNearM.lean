/-
  A search through a trie for words that are near, cut where none can be: plain mathematics.
-/
import Derived.Test.YtipkdoplgjgkpacLab
import Derived.Test.YtipkdoplgjgkpacDp
namespace Go.Proofs.Ytipkdoplgjgkpac
set_option linter.unusedVariables false

/-- where the walk over a node's kids stands -/
structure KidPos (t : List Nd) (ps : List Txt) (i q j : Nat) : Prop where
  gt : i < q
  le : q ≤ t.length
  at' : KidAt t ps i q
  under : ∀ (x : Txt), ps[i]? = some x → ∀ (m : Nat) (z : Txt), i < m → m < q → ps[m]? = some z → x <+: z
  rest : kfr t i q = (kidsTo t i t.length).drop j

section
variable {t : List Nd} {ps : List Txt}

theorem KidPos.start (hv : Valid t ps) {i : Nat} (hi : i < t.length) : KidPos t ps i (i + 1) 0 :=
  ⟨by omega, by omega, kidAt_first hv.tells i, fun x hx m z h1 h2 => by omega, by rw [kfr_all]; rfl⟩

theorem KidPos.kid (hv : Valid t ps) {i q j : Nat} (h : KidPos t ps i q j) (hj : j < (kidsTo t i t.length).length) : ∃ d, t[q]? = some d ∧ d.p = (i : Int) := by
  have hle := h.le
  have hne : kfr t i q ≠ [] := by
    rw [h.rest]
    intro e
    have := congrArg List.length e
    rw [List.length_drop] at this
    simp at this
    omega
  by_cases e : q = t.length
  · subst e; exact absurd kfr_none hne
  · obtain ⟨d, hd⟩ : ∃ d, t[q]? = some d := ⟨_, List.getElem?_eq_getElem (by omega)⟩
    refine ⟨d, hd, ?_⟩
    apply Classical.byContradiction
    intro hp
    exact hne (kfr_end hv h.gt h.at' hd hp)

/-- the next kid stands there -/
theorem KidPos.at_kid (hv : Valid t ps) {i q j : Nat} (h : KidPos t ps i q j) (hj : j < (kidsTo t i t.length).length) : (kidsTo t i t.length)[j]? = some q := by
  obtain ⟨d, hd, hp⟩ := h.kid hv hj
  have hql := (List.getElem?_eq_some_iff.1 hd).1
  have hgt := h.gt
  obtain ⟨b, hb, _⟩ := kids_go hv (fun (_ : Unit) (_ : Nat) => some ()) (fun _ => ()) hql (fun k hk => by
    have hkl := (mem_kidsTo.1 hk).1
    obtain ⟨b, hb, _⟩ := unf_mch hv _ k (Nat.le_refl _) hkl _ (Nat.le_refl _)
    exact ⟨b, hb, rfl⟩)
  have h1 := kfr_kid hv h.gt hd hp hb
  rw [h.rest] at h1
  have h2 := congrArg (fun l => l[0]?) h1
  simpa using h2

theorem KidPos.step (hv : Valid t ps) {i q j b : Nat} (h : KidPos t ps i q j) (hj : j < (kidsTo t i t.length).length) (hb : Behind t ps q b) : KidPos t ps i b (j + 1) := by
  obtain ⟨d, hd, hp⟩ := h.kid hv hj
  have hgt := h.gt
  have hlt := hb.lt
  refine ⟨by omega, hb.le, kidAt_next hv.tells h.gt hd hp hb, fun x hx m z h1 h2 hz => ?_, ?_⟩
  · by_cases e1 : m < q
    · exact h.under x hx m z h1 e1 hz
    · obtain ⟨c, hk⟩ := (par_iff hv.tells hx (by omega) hd).1 hp
      by_cases e2 : m = q
      · subst e2
        rw [hz] at hk
        rw [Option.some.inj hk]
        exact List.prefix_append _ _
      · exact (List.prefix_append _ _).trans (hb.all _ hk m z (by omega) h2 hz)
  · have h1 := kfr_kid hv h.gt hd hp hb
    rw [h.rest] at h1
    have hd2 : (kidsTo t i t.length).drop (j + 1) = ((kidsTo t i t.length).drop j).tail := by rw [List.tail_drop]
    rw [hd2, h1, List.tail_cons]

theorem KidPos.fin (hv : Valid t ps) {i q j : Nat} (h : KidPos t ps i q j) (hj : (kidsTo t i t.length).length ≤ j) : Behind t ps i q := by
  have hle := h.le
  have he : kfr t i q = [] := by rw [h.rest]; exact List.drop_eq_nil_of_le hj
  refine ⟨h.gt, hle, fun x hx m z h1 h2 hz => h.under x hx m z h1 h2 hz, fun x y hx hy hpre => ?_⟩
  have hql := (List.getElem?_eq_some_iff.1 hy).1
  rw [hv.lenEq] at hql
  obtain ⟨d, hd⟩ : ∃ d, t[q]? = some d := ⟨_, List.getElem?_eq_getElem hql⟩
  have hp := h.at' x y d hx hy hd hpre
  have hm : q ∈ kfr t i q := kfr_mem.2 ⟨mem_kidsTo.2 ⟨hql, h.gt, d, hd, hp⟩, Nat.le_refl _⟩
  rw [he] at hm
  cases hm

theorem behind_ex (hv : Valid t ps) {i : Nat} (hi : i < t.length) : ∃ b, Behind t ps i b := by
  obtain ⟨b, hb, _⟩ := unf_mch hv _ i (Nat.le_refl _) hi _ (Nat.le_refl _)
  exact ⟨b, hb⟩
end

/-- the prefix of a node -/
def preA (ps : List Txt) (m : Nat) : Txt := ps[m]?.getD []
theorem preA_at {ps : List Txt} {m : Nat} {x : Txt} (h : ps[m]? = some x) : preA ps m = x := by simp [preA, h]

theorem lev_ext (s x z : Txt) : ∀ k j : Nat, j ≤ x.length → lev s (x ++ z) k j = lev s x k j
  | 0, j, _ => by rw [lev_o, lev_o]
  | k + 1, 0, _ => by rw [lev_z, lev_z]
  | k + 1, j + 1, h => by
    have hm : mism s (x ++ z) k j = mism s x k j := by
      unfold mism
      rw [List.getElem?_append_left (by omega)]
    rw [lev_ss, lev_ss, lev_ext s x z k j (by omega), lev_ext s x z k (j + 1) h, lev_ext s x z (k + 1) j (by omega), hm]

/-- where all of a row is beyond, all of the next one is -/
theorem lev_down (s x : Txt) (F : Int) (j : Nat) : ∀ K, (∀ k, k ≤ K → F < (lev s x k j : Int)) → ∀ k, k ≤ K → F < (lev s x k (j + 1) : Int) := by
  intro K h k
  induction k with
  | zero =>
    intro hk
    have h1 := h 0 (by omega)
    rw [lev_o] at h1 ⊢
    omega
  | succ k ih =>
    intro hk
    rw [lev_ss]
    have h1 := h k (by omega)
    have h2 := ih (by omega)
    have h3 := h (k + 1) hk
    omega

theorem lev_far (s x : Txt) (F : Int) : ∀ z : Txt, (∀ k, k ≤ s.length → F < (lev s x k x.length : Int)) → F < (lev s (x ++ z) s.length (x ++ z).length : Int) := by
  have main : ∀ (n : Nat) (z : Txt), z.length = n → (∀ k, k ≤ s.length → F < (lev s x k x.length : Int)) → ∀ k, k ≤ s.length → F < (lev s (x ++ z) k (x ++ z).length : Int) := by
    intro n
    induction n with
    | zero =>
      intro z hz h k hk
      obtain rfl := List.length_eq_zero_iff.1 hz
      rw [List.append_nil]
      exact h k hk
    | succ n ih =>
      intro z hz h
      obtain ⟨y, c, rfl⟩ : ∃ y c, z = y ++ [c] := by
        rcases List.eq_nil_or_concat z with h | ⟨r, q, h⟩
        · rw [h] at hz; simp at hz
        · exact ⟨r, q, by simpa using h⟩
      have hy : y.length = n := by simpa using hz
      have h1 := ih y hy h
      have h2 : ∀ k, k ≤ s.length → F < (lev s (x ++ y ++ [c]) k (x ++ y).length : Int) := fun k hk => by rw [lev_ext s (x ++ y) [c] k _ (Nat.le_refl _)]; exact h1 k hk
      have h3 := lev_down s (x ++ y ++ [c]) F (x ++ y).length s.length h2
      intro k hk
      have h4 := h3 k hk
      rw [show x ++ (y ++ [c]) = x ++ y ++ [c] from (List.append_assoc _ _ _).symm, List.length_append (as := x ++ y)]
      exact h4
  intro z h
  exact main z.length z rfl h s.length (Nat.le_refl _)

section
variable {σ : Type} (t : List Nd) (dist : Nat → Nat) (upd : σ → Nat → Nat → σ) (fr : σ → Int)

/-- a node is visited -/
def vis (s : σ) (m : Nat) : σ := if (ndA t m).e = true ∧ (dist m : Int) ≤ fr s then upd s m (dist m) else s
/-- the nodes from i to b are visited -/
def vfold (s : σ) (i b : Nat) : σ := (List.range' i (b - i)).foldl (vis t dist upd fr) s

theorem vfold_same (s : σ) (i : Nat) : vfold t dist upd fr s i i = s := by unfold vfold; rw [Nat.sub_self]; rfl
theorem vfold_app (s : σ) {i k b : Nat} (h1 : i ≤ k) (h2 : k ≤ b) : vfold t dist upd fr (vfold t dist upd fr s i k) k b = vfold t dist upd fr s i b := by
  unfold vfold
  rw [← List.foldl_append]
  congr 1
  have e : k = i + 1 * (k - i) := by omega
  conv => lhs; rhs; rw [e]
  rw [List.range'_append]
  congr 1
  omega
theorem vfold_one (s : σ) (i : Nat) : vfold t dist upd fr s i (i + 1) = vis t dist upd fr s i := by
  unfold vfold
  rw [show i + 1 - i = 1 from by omega]
  rfl
theorem vfold_ok (okS : σ → Nat → Prop) (ok1 : ∀ s0 i d, okS s0 i → okS (upd s0 i d) (i + 1)) (ok2 : ∀ s0 i j, okS s0 i → i ≤ j → okS s0 j) (s : σ) (i : Nat) (h : okS s i) : ∀ q, i ≤ q → okS (vfold t dist upd fr s i q) q
  | 0, hq => by obtain rfl : i = 0 := by omega
                rw [vfold_same]; exact h
  | q + 1, hq => by
    by_cases e : i = q + 1
    · subst e; rw [vfold_same]; exact h
    · rw [← vfold_app t dist upd fr s (show i ≤ q by omega) (Nat.le_succ q), vfold_one]
      have ih := vfold_ok okS ok1 ok2 s i h q (by omega)
      unfold vis
      split
      · exact ok1 _ _ _ ih
      · exact ok2 _ _ _ ih (Nat.le_succ q)
theorem vfold_skip (s : σ) (i : Nat) : ∀ b, (∀ m, i ≤ m → m < b → (ndA t m).e = true → fr s < (dist m : Int)) → vfold t dist upd fr s i b = s
  | 0, _ => by unfold vfold; simp
  | b + 1, h => by
    by_cases hle : i ≤ b
    · rw [← vfold_app t dist upd fr s hle (Nat.le_succ b), vfold_skip s i b (fun m h1 h2 => h m h1 (by omega)), vfold_one]
      unfold vis
      rw [if_neg]
      rintro ⟨h1, h2⟩
      have := h b hle (by omega) h1
      omega
    · unfold vfold
      rw [show b + 1 - i = 0 from by omega]
      rfl
end

end Go.Proofs.Ytipkdoplgjgkpac
