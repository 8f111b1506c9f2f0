/-
  Nodes with equal ends, and labels that tell them: plain mathematics.
-/
import Derived.Test.YtmgieahachphmabDoorKids
namespace Go.Proofs.YtmgieahachphmabDoor
set_option linter.unusedVariables false

/-- two nodes have equal ends: the same texts lead from them to words -/
def Eqv (t : List Nd) (ps : List Txt) (i k : Nat) : Prop := ∀ x y : Txt, ps[i]? = some x → ps[k]? = some y → ∀ z, (x ++ z ∈ wds t ps ↔ y ++ z ∈ wds t ps)

def ndA (t : List Nd) (i : Nat) : Nd := t[i]?.getD ⟨-1, -1, false⟩
theorem ndA_at {t : List Nd} {i : Nat} {d : Nd} (h : t[i]? = some d) : ndA t i = d := by simp [ndA, h]

/-- what is told of a node, by labels of its kids -/
def sg (t : List Nd) (L : Nat → Nat) (i : Nat) : Bool × List (Int × Nat) := ((ndA t i).e, (kidsTo t i t.length).map fun k => ((ndA t k).l, L k))

section
variable {t : List Nd} {ps : List Txt}

theorem kid_mem (hv : Valid t ps) {i k : Nat} {x : Txt} (hx : ps[i]? = some x) : k ∈ kidsTo t i t.length ↔ ∃ c : UInt8, ps[k]? = some (x ++ [c]) := by
  rw [mem_kidsTo]
  constructor
  · rintro ⟨h1, h2, d, hd, hp⟩
    exact (par_iff hv.tells hx (by omega) hd).1 hp
  · rintro ⟨c, hk⟩
    have hkl := (List.getElem?_eq_some_iff.1 hk).1
    rw [hv.lenEq] at hkl
    have hik := asc_pos hv.tells.asc hx hk (bef_longer x (by simp))
    obtain ⟨d, hd⟩ : ∃ d, t[k]? = some d := ⟨_, List.getElem?_eq_getElem hkl⟩
    exact ⟨hkl, hik, d, hd, (par_iff hv.tells hx (by omega) hd).2 ⟨c, hk⟩⟩

theorem kid_letter (hv : Valid t ps) {i k : Nat} {x : Txt} {c : UInt8} (hx : ps[i]? = some x) (hk : ps[k]? = some (x ++ [c])) : (ndA t k).l = (c.toNat : Int) - 97 := by
  have hkl := (List.getElem?_eq_some_iff.1 hk).1
  rw [hv.lenEq] at hkl
  have hik := asc_pos hv.tells.asc hx hk (bef_longer x (by simp))
  obtain ⟨d, hd⟩ : ∃ d, t[k]? = some d := ⟨_, List.getElem?_eq_getElem hkl⟩
  rw [ndA_at hd]
  exact ((kid_iff hv.tells hx (by omega) hd).2 hk).2

theorem kid_gt (hv : Valid t ps) {i k : Nat} (h : k ∈ kidsTo t i t.length) : i < k ∧ k < t.length := ⟨(mem_kidsTo.1 h).2.1, (mem_kidsTo.1 h).1⟩

theorem lead (hv : Valid t ps) {x z : Txt} {c : UInt8} (h : x ++ c :: z ∈ wds t ps) : ∃ k : Nat, ps[k]? = some (x ++ [c]) := by
  have := (hv.pre.mem (x ++ [c])).2 (.inr ⟨_, h, ⟨z, by simp⟩⟩)
  exact mem_at this

theorem led (hv : Valid t ps) {k : Nat} {x : Txt} {c : UInt8} (h : ps[k]? = some (x ++ [c])) : ∃ z, x ++ c :: z ∈ wds t ps := by
  rcases (hv.pre.mem _).1 (at_mem h) with e | ⟨w, hw, z, rfl⟩
  · simp at e
  · exact ⟨z, by simpa using hw⟩

theorem end_iff (hv : Valid t ps) {i : Nat} {x : Txt} (hx : ps[i]? = some x) : (ndA t i).e = true ↔ x ∈ wds t ps := by
  have hil := (List.getElem?_eq_some_iff.1 hx).1
  rw [hv.lenEq] at hil
  obtain ⟨d, hd⟩ : ∃ d, t[i]? = some d := ⟨_, List.getElem?_eq_getElem hil⟩
  rw [ndA_at hd, mem_wds]
  constructor
  · intro h
    exact ⟨i, d, hd, hx, h⟩
  · rintro ⟨j, d', hd', hj, he⟩
    obtain rfl := asc_inj hv.tells.asc hj hx
    rw [hd] at hd'
    rw [Option.some.inj hd']
    exact he

theorem bef_one {c d : UInt8} (h : bef [c] [d] = true) : (c.toNat : Int) < d.toNat := by
  simp only [bef] at h
  split at h
  · exact absurd h (by simp)
  · have := of_decide_eq_true h
    rw [UInt8.lt_iff_toNat_lt] at this
    omega

theorem kidsTo_up (t : List Nd) (i : Nat) : ∀ k, (kidsTo t i k).Pairwise fun x y => x < y
  | 0 => List.Pairwise.nil
  | k + 1 => by
    have ih := kidsTo_up t i k
    unfold kidsTo
    split
    · split
      · refine List.pairwise_append.2 ⟨ih, by simp, fun a ha b hb => ?_⟩
        rw [List.mem_singleton] at hb
        have := (mem_kidsTo.1 ha).1
        omega
      · simpa using ih
    · simpa using ih

/-- kids have ascending letters -/
theorem kids_lets (hv : Valid t ps) {i : Nat} (hi : i < t.length) : (kidsTo t i t.length).Pairwise fun a b => (ndA t a).l < (ndA t b).l := by
  obtain ⟨x, hx⟩ : ∃ x, ps[i]? = some x := ⟨_, List.getElem?_eq_getElem (by rw [hv.lenEq]; exact hi)⟩
  refine List.Pairwise.imp_of_mem ?_ (kidsTo_up t i t.length)
  intro a b ha hb hab
  obtain ⟨c, hc⟩ := (kid_mem hv hx).1 ha
  obtain ⟨d, hd⟩ := (kid_mem hv hx).1 hb
  rw [kid_letter hv hx hc, kid_letter hv hx hd]
  have h1 := asc_lt hv.tells.asc hc hd hab
  rw [bef_app] at h1
  have := bef_one h1
  omega

theorem keyed_ext : ∀ {a b : List (Int × Nat)}, a.Pairwise (fun p q => p.1 < q.1) → b.Pairwise (fun p q => p.1 < q.1) → (∀ x, x ∈ a ↔ x ∈ b) → a = b
  | [], [], _, _, _ => rfl
  | [], y :: b, _, _, h => by have := (h y).2 (by simp); simp at this
  | x :: a, [], _, _, h => by have := (h x).1 (by simp); simp at this
  | x :: a, y :: b, ha, hb, h => by
    rw [List.pairwise_cons] at ha hb
    have e : x = y := by
      have h1 := (h x).1 (by simp)
      have h2 := (h y).2 (by simp)
      rw [List.mem_cons] at h1 h2
      rcases h1 with h1 | h1
      · exact h1
      · rcases h2 with h2 | h2
        · exact h2.symm
        · have a1 := ha.1 y h2
          have a2 := hb.1 x h1
          omega
    subst e
    congr 1
    refine keyed_ext ha.2 hb.2 fun z => ?_
    have hz := h z
    rw [List.mem_cons, List.mem_cons] at hz
    constructor
    · intro m
      rcases hz.1 (.inr m) with e | e
      · have := ha.1 z m
        rw [e] at this
        omega
      · exact e
    · intro m
      rcases hz.2 (.inr m) with e | e
      · have := hb.1 z m
        rw [e] at this
        omega
      · exact e

theorem sg_sorted (hv : Valid t ps) (L : Nat → Nat) {i : Nat} (hi : i < t.length) : (sg t L i).2.Pairwise fun p q => p.1 < q.1 :=
  List.pairwise_map.2 (kids_lets hv hi)

/-- nodes are told the same just if they have equal ends -/
theorem sg_eqv (hv : Valid t ps) {L : Nat → Nat} {i k : Nat} (hi : i < t.length) (hk : k < t.length) (hL : ∀ a b, i < a → k < b → a < t.length → b < t.length → (L a = L b ↔ Eqv t ps a b)) : sg t L i = sg t L k ↔ Eqv t ps i k := by
  obtain ⟨x, hx⟩ : ∃ x, ps[i]? = some x := ⟨_, List.getElem?_eq_getElem (by rw [hv.lenEq]; exact hi)⟩
  obtain ⟨y, hy⟩ : ∃ y, ps[k]? = some y := ⟨_, List.getElem?_eq_getElem (by rw [hv.lenEq]; exact hk)⟩
  have ei := end_iff hv hx
  have ek := end_iff hv hy
  have step : ∀ {i k : Nat} {x y : Txt}, ps[i]? = some x → ps[k]? = some y → (∀ a b, i < a → k < b → a < t.length → b < t.length → (L a = L b ↔ Eqv t ps a b)) → (sg t L i).2 = (sg t L k).2 → ∀ (c : UInt8) (z : Txt), x ++ c :: z ∈ wds t ps → y ++ c :: z ∈ wds t ps := by
    intro i k x y hx hy hL he c z hz
    obtain ⟨a, ha⟩ := lead hv hz
    have hka := (kid_mem hv hx).2 ⟨c, ha⟩
    have hm : ((ndA t a).l, L a) ∈ (sg t L k).2 := by
      rw [← he]
      exact List.mem_map.2 ⟨a, hka, rfl⟩
    obtain ⟨b, hkb, eb⟩ := List.mem_map.1 hm
    obtain ⟨d, hb⟩ := (kid_mem hv hy).1 hkb
    simp only [Prod.mk.injEq] at eb
    have e1 := kid_letter hv hx ha
    have e2 := kid_letter hv hy hb
    have ec : c = d := UInt8.toNat_inj.1 (by have := eb.1; omega)
    subst ec
    have h9 := (hL a b (kid_gt hv hka).1 (kid_gt hv hkb).1 (kid_gt hv hka).2 (kid_gt hv hkb).2).1 eb.2.symm _ _ ha hb z
    simpa using h9.1 (by simpa using hz)
  constructor
  · intro he x' y' hx' hy' z
    rw [hx] at hx'
    rw [hy] at hy'
    obtain rfl := Option.some.inj hx'
    obtain rfl := Option.some.inj hy'
    have h1 : (ndA t i).e = (ndA t k).e := congrArg Prod.fst he
    cases z with
    | nil => simp only [List.append_nil]; rw [← ei, ← ek, h1]
    | cons c z => exact ⟨step hx hy hL (congrArg Prod.snd he) c z, step hy hx (fun a b h1 h2 h3 h4 => by rw [eq_comm, hL b a h2 h1 h4 h3]; exact ⟨fun h x y hx hy z => (h y x hy hx z).symm, fun h x y hx hy z => (h y x hy hx z).symm⟩) (congrArg Prod.snd he).symm c z⟩
  · intro he
    have h1 : (ndA t i).e = (ndA t k).e := by
      have := he x y hx hy []
      simp only [List.append_nil] at this
      rw [Bool.eq_iff_iff, ei, ek, this]
    have sub : ∀ {i k : Nat} {x y : Txt}, ps[i]? = some x → ps[k]? = some y → (∀ a b, i < a → k < b → a < t.length → b < t.length → (L a = L b ↔ Eqv t ps a b)) → Eqv t ps i k → ∀ p, p ∈ (sg t L i).2 → p ∈ (sg t L k).2 := by
      intro i k x y hx hy hL he p hp
      obtain ⟨a, hka, rfl⟩ := List.mem_map.1 hp
      obtain ⟨c, ha⟩ := (kid_mem hv hx).1 hka
      obtain ⟨z, hz⟩ := led hv ha
      obtain ⟨b, hb⟩ := lead hv ((he x y hx hy _).1 hz)
      have hkb := (kid_mem hv hy).2 ⟨c, hb⟩
      have e2 := (hL a b (kid_gt hv hka).1 (kid_gt hv hkb).1 (kid_gt hv hka).2 (kid_gt hv hkb).2).2 (fun x' y' hx' hy' z' => by
        rw [ha] at hx'
        rw [hb] at hy'
        obtain rfl := Option.some.inj hx'
        obtain rfl := Option.some.inj hy'
        simpa using he x y hx hy (c :: z'))
      refine List.mem_map.2 ⟨b, hkb, ?_⟩
      rw [kid_letter hv hx ha, kid_letter hv hy hb, e2]
    have h2 : (sg t L i).2 = (sg t L k).2 := keyed_ext (sg_sorted hv L hi) (sg_sorted hv L hk) fun p =>
      ⟨sub hx hy hL he p, sub hy hx (fun a b h1 h2 h3 h4 => by rw [eq_comm, hL b a h2 h1 h4 h3]; exact ⟨fun h x y hx hy z => (h y x hy hx z).symm, fun h x y hx hy z => (h y x hy hx z).symm⟩) (fun x y hx hy z => (he y x hy hx z).symm) p⟩
    exact Prod.ext h1 h2

/-- labels that are the same just for the same telling are the same just for equal ends -/
theorem lab_eqv (hv : Valid t ps) {L : Nat → Nat} (h : ∀ i k, i < t.length → k < t.length → (L i = L k ↔ sg t L i = sg t L k)) : ∀ i k, i < t.length → k < t.length → (L i = L k ↔ Eqv t ps i k) := by
  have main : ∀ m i k, i < t.length → k < t.length → (t.length - i) + (t.length - k) ≤ m → (L i = L k ↔ Eqv t ps i k) := by
    intro m
    induction m with
    | zero => intro i k hi hk hm; omega
    | succ m ih =>
      intro i k hi hk hm
      rw [h i k hi hk]
      exact sg_eqv hv hi hk (fun a b h1 h2 h3 h4 => ih a b h3 h4 (by omega))
  intro i k hi hk
  exact main _ i k hi hk (Nat.le_refl _)
end

/-- labels in the order in which they come first -/
def ordL (L : Nat → Nat) : Nat → List Nat
  | 0 => []
  | k + 1 => if L k ∈ ordL L k then ordL L k else ordL L k ++ [L k]

theorem ordL_succ (L : Nat → Nat) (k : Nat) : ordL L (k + 1) = if L k ∈ ordL L k then ordL L k else ordL L k ++ [L k] := rfl

theorem ordL_mem (L : Nat → Nat) : ∀ (k : Nat) (x : Nat), x ∈ ordL L k ↔ ∃ i, i < k ∧ L i = x
  | 0, x => by simp [ordL]
  | k + 1, x => by
    have ih := ordL_mem L k
    have h1 : (∃ i, i < k + 1 ∧ L i = x) ↔ (∃ i, i < k ∧ L i = x) ∨ L k = x := by
      constructor
      · rintro ⟨i, hi, e⟩
        by_cases h : i = k
        · subst h; exact .inr e
        · exact .inl ⟨i, by omega, e⟩
      · rintro (⟨i, hi, e⟩ | e)
        · exact ⟨i, by omega, e⟩
        · exact ⟨k, by omega, e⟩
    rw [h1, ← ih, ordL_succ]
    split
    · constructor
      · exact .inl
      · rintro (h | rfl) <;> assumption
    · rw [List.mem_append, List.mem_singleton]
      exact ⟨fun h => h.imp id Eq.symm, fun h => h.imp id Eq.symm⟩

theorem ordL_pre (L : Nat → Nat) (k : Nat) : ∀ m, k ≤ m → ordL L k <+: ordL L m
  | 0, h => by
    obtain rfl : k = 0 := by omega
    exact List.prefix_refl _
  | m + 1, h => by
    by_cases e : k = m + 1
    · subst e; exact List.prefix_refl _
    · refine (ordL_pre L k m (by omega)).trans ?_
      rw [ordL_succ]
      split
      · exact List.prefix_refl _
      · exact List.prefix_append _ _

theorem ordL_len (L : Nat → Nat) : ∀ k, (ordL L k).length ≤ k
  | 0 => by simp [ordL]
  | k + 1 => by
    have := ordL_len L k
    rw [ordL_succ]
    split
    · omega
    · simp; omega

theorem ordL_nodup (L : Nat → Nat) : ∀ k, (ordL L k).Nodup
  | 0 => by simp [ordL]
  | k + 1 => by
    have := ordL_nodup L k
    rw [ordL_succ]
    split
    · exact this
    · rename_i h
      refine List.nodup_append.2 ⟨this, by simp, fun a ha b hb => ?_⟩
      rw [List.mem_singleton] at hb
      subst hb
      intro e
      exact h (e ▸ ha)

theorem idx_pre {l m : List Nat} {x : Nat} (h : l <+: m) (hx : x ∈ l) : m.idxOf x = l.idxOf x := by
  obtain ⟨r, rfl⟩ := h
  rw [List.idxOf_append, if_pos hx]

theorem idx_new {l : List Nat} {x : Nat} (h : x ∉ l) : (l ++ [x]).idxOf x = l.length := by
  rw [List.idxOf_append, if_neg h]
  simp

/-- the number of a label among the first k -/
def numL (L : Nat → Nat) (k x : Nat) : Nat := (ordL L k).idxOf x

/-- labels that part the same nodes get the same numbers -/
theorem num_same {L M : Nat → Nat} : ∀ n, (∀ i k, i < n → k < n → (L i = L k ↔ M i = M k)) → (ordL L n).length = (ordL M n).length ∧ ∀ i, i < n → numL L n (L i) = numL M n (M i)
  | 0, _ => ⟨rfl, fun i hi => absurd hi (by omega)⟩
  | n + 1, h => by
    obtain ⟨h1, h2⟩ := num_same n (fun i k hi hk => h i k (by omega) (by omega))
    have hm : L n ∈ ordL L n ↔ M n ∈ ordL M n := by
      rw [ordL_mem, ordL_mem]
      constructor
      · rintro ⟨i, hi, e⟩; exact ⟨i, hi, (h i n (by omega) (by omega)).1 e⟩
      · rintro ⟨i, hi, e⟩; exact ⟨i, hi, (h i n (by omega) (by omega)).2 e⟩
    by_cases hc : L n ∈ ordL L n
    · have e1 : ordL L (n + 1) = ordL L n := by conv => lhs; unfold ordL
                                                rw [if_pos hc]
      have e2 : ordL M (n + 1) = ordL M n := by conv => lhs; unfold ordL
                                                rw [if_pos (hm.1 hc)]
      unfold numL at h2 ⊢
      rw [e1, e2]
      refine ⟨h1, fun i hi => ?_⟩
      by_cases e : i = n
      · subst e
        obtain ⟨j, hj, ej⟩ := (ordL_mem L i _).1 hc
        rw [← ej, h2 j hj, (h j i (by omega) (by omega)).1 ej]
      · exact h2 i (by omega)
    · have e1 : ordL L (n + 1) = ordL L n ++ [L n] := by conv => lhs; unfold ordL
                                                         rw [if_neg hc]
      have e2 : ordL M (n + 1) = ordL M n ++ [M n] := by conv => lhs; unfold ordL
                                                         rw [if_neg (fun h => hc (hm.2 h))]
      unfold numL at h2 ⊢
      rw [e1, e2]
      refine ⟨by simp [h1], fun i hi => ?_⟩
      by_cases e : i = n
      · subst e
        rw [idx_new hc, idx_new (fun h => hc (hm.2 h)), h1]
      · rw [idx_pre (List.prefix_append _ _) ((ordL_mem L n _).2 ⟨i, by omega, rfl⟩), idx_pre (List.prefix_append _ _) ((ordL_mem M n _).2 ⟨i, by omega, rfl⟩)]
        exact h2 i (by omega)

end Go.Proofs.YtmgieahachphmabDoor

/-! ### The labels of both functions, and the machine -/
namespace Go.Proofs.YtmgieahachphmabDoor
set_option linter.unusedVariables false

/-- one label is put -/
def setL (L : Nat → Nat) (i v : Nat) : Nat → Nat := fun j => if j = i then v else L j
theorem setL_same (L : Nat → Nat) (i v : Nat) : setL L i v i = v := by simp [setL]
theorem setL_other (L : Nat → Nat) {i j : Nat} (v : Nat) (h : j ≠ i) : setL L i v j = L j := by simp [setL, h]

theorem sg_far {t : List Nd} {L M : Nat → Nat} {j : Nat} (h : ∀ k, j < k → k < t.length → L k = M k) : sg t L j = sg t M j := by
  unfold sg
  congr 1
  refine List.map_congr_left fun k hk => ?_
  rw [h k (mem_kidsTo.1 hk).2.1 (mem_kidsTo.1 hk).1]

theorem sg_set {t : List Nd} (L : Nat → Nat) {i j : Nat} (v : Nat) (h : i ≤ j) : sg t (setL L i v) j = sg t L j :=
  sg_far fun k hk _ => setL_other L v (by omega)

/-- the reference takes a node's label from another one -/
def hitS (t : List Nd) (L : Nat → Nat) (i k : Nat) : Prop := i < k ∧ k < t.length ∧ L k = k ∧ sg t L i = sg t L k
instance (t : List Nd) (L : Nat → Nat) (i k : Nat) : Decidable (hitS t L i k) := by unfold hitS; infer_instance

/-- the greatest one that is hit below m -/
def pickS (t : List Nd) (L : Nat → Nat) (i : Nat) : Nat → Nat
  | 0 => i
  | m + 1 => if hitS t L i m then m else pickS t L i m

theorem pickS_hit {t : List Nd} {L : Nat → Nat} {i k : Nat} (h : hitS t L i k) : ∀ m, k < m → (∀ q, k < q → q < m → ¬ hitS t L i q) → pickS t L i m = k
  | 0, hk, _ => absurd hk (by omega)
  | m + 1, hk, hn => by
    unfold pickS
    by_cases e : k = m
    · subst e; rw [if_pos h]
    · rw [if_neg (hn m (by omega) (by omega))]
      exact pickS_hit h m (by omega) (fun q h1 h2 => hn q h1 (by omega))

theorem pickS_none {t : List Nd} {L : Nat → Nat} {i : Nat} : ∀ m, (∀ q, q < m → ¬ hitS t L i q) → pickS t L i m = i
  | 0, _ => rfl
  | m + 1, hn => by
    unfold pickS
    rw [if_neg (hn m (by omega))]
    exact pickS_none m (fun q h => hn q (by omega))

theorem pickS_or (t : List Nd) (L : Nat → Nat) (i : Nat) : ∀ m, (pickS t L i m = i ∧ ∀ q, q < m → ¬ hitS t L i q) ∨ hitS t L i (pickS t L i m)
  | 0 => .inl ⟨rfl, fun q h => absurd h (by omega)⟩
  | m + 1 => by
    unfold pickS
    by_cases h : hitS t L i m
    · rw [if_pos h]; exact .inr h
    · rw [if_neg h]
      rcases pickS_or t L i m with ⟨h1, h2⟩ | h1
      · refine .inl ⟨h1, fun q hq => ?_⟩
        by_cases e : q = m
        · subst e; exact h
        · exact h2 q (by omega)
      · exact .inr h1

/-- the labels behind the last m nodes -/
def labS (t : List Nd) : Nat → Nat → Nat
  | 0 => fun _ => 0
  | m + 1 => setL (labS t m) (t.length - 1 - m) (pickS t (labS t m) (t.length - 1 - m) t.length)

structure LabsOk (t : List Nd) (L : Nat → Nat) (m : Nat) : Prop where
  up : ∀ i, t.length - m ≤ i → i < t.length → i ≤ L i ∧ L i < t.length ∧ L (L i) = L i
  same : ∀ i k, t.length - m ≤ i → i < t.length → t.length - m ≤ k → k < t.length → (L i = L k ↔ sg t L i = sg t L k)

theorem labS_ok (t : List Nd) : ∀ m, m ≤ t.length → LabsOk t (labS t m) m
  | 0, _ => ⟨fun i h1 h2 => by omega, fun i k h1 h2 => by omega⟩
  | m + 1, hm => by
    have ih := labS_ok t m (by omega)
    obtain ⟨L, hL⟩ : ∃ L, labS t m = L := ⟨_, rfl⟩
    have e : labS t (m + 1) = setL L (t.length - 1 - m) (pickS t L (t.length - 1 - m) t.length) := by rw [← hL]; rfl
    rw [hL] at ih
    rw [e]
    obtain ⟨i, hi⟩ : ∃ i, t.length - 1 - m = i := ⟨_, rfl⟩
    rw [hi]
    obtain ⟨v, hv⟩ : ∃ v, pickS t L i t.length = v := ⟨_, rfl⟩
    have hor := pickS_or t L i t.length
    rw [hv] at hor ⊢
    have hvu : i ≤ v ∧ v < t.length ∧ (setL L i v) v = v := by
      rcases hor with ⟨rfl, h2⟩ | ⟨h1, h2, h3, h4⟩
      · exact ⟨Nat.le_refl _, by omega, setL_same _ _ _⟩
      · exact ⟨by omega, h2, by rw [setL_other L v (by omega)]; exact h3⟩
    have key : ∀ j, i < j → j < t.length → (v = L j ↔ sg t L i = sg t L j) := by
      intro j h1 h2
      have hu := ih.up j (by omega) h2
      have hs := ih.same j (L j) (by omega) h2 (by omega) hu.2.1
      have hs2 := hs.1 hu.2.2.symm
      rcases hor with ⟨rfl, hn⟩ | ⟨g1, g2, g3, g4⟩
      · refine ⟨fun e => by omega, fun e => ?_⟩
        exact absurd ⟨by omega, hu.2.1, hu.2.2, e.trans hs2⟩ (hn (L j) hu.2.1)
      · rw [g4, ← ih.same v j (by omega) g2 (by omega) h2, g3]
    refine ⟨fun j h1 h2 => ?_, fun a b h1 h2 h3 h4 => ?_⟩
    · by_cases ej : j = i
      · subst ej
        rw [setL_same]
        exact hvu
      · rw [setL_other L v ej]
        have hu := ih.up j (by omega) h2
        refine ⟨hu.1, hu.2.1, ?_⟩
        rw [setL_other L v (by omega)]
        exact hu.2.2
    · rw [sg_set L v (by omega), sg_set L v (by omega)]
      by_cases ea : a = i
      · subst ea
        by_cases eb : b = a
        · subst eb; simp
        · rw [setL_same, setL_other L v eb]
          exact key b (by omega) h4
      · by_cases eb : b = i
        · subst eb
          rw [setL_same, setL_other L v ea, eq_comm, key a (by omega) h2]
          exact eq_comm
        · rw [setL_other L v ea, setL_other L v eb]
          exact ih.same a b (by omega) h2 (by omega) h4

/-- the reference's labels -/
def lbS (t : List Nd) : Nat → Nat := labS t t.length

theorem lbS_eqv {t : List Nd} {ps : List Txt} (hv : Valid t ps) : ∀ i k, i < t.length → k < t.length → (lbS t i = lbS t k ↔ Eqv t ps i k) :=
  lab_eqv hv fun i k h1 h2 => (labS_ok t t.length (Nat.le_refl _)).same i k (by omega) h1 (by omega) h2

abbrev Sg := Bool × List (Int × Nat)

/-- what the program has found behind the last m nodes, and the numbers of these -/
def fnd (t : List Nd) : Nat → List Sg × (Nat → Nat)
  | 0 => ([], fun _ => 0)
  | m + 1 =>
    let F := (fnd t m).1
    let L := (fnd t m).2
    let i := t.length - 1 - m
    let s := sg t L i
    if s ∈ F then (F, setL L i (F.idxOf s)) else (F ++ [s], setL L i F.length)

structure FndOk (t : List Nd) (F : List Sg) (L : Nat → Nat) (m : Nat) : Prop where
  at' : ∀ i, t.length - m ≤ i → i < t.length → F[L i]? = some (sg t L i)
  nodup : F.Nodup
  all : ∀ j, j < F.length → ∃ i, t.length - m ≤ i ∧ i < t.length ∧ L i = j
  few : F.length ≤ m

theorem idx_some {F : List Sg} {s : Sg} (h : s ∈ F) : F[F.idxOf s]? = some s := by
  have hl := List.idxOf_lt_length_iff.2 h
  rw [List.getElem?_eq_getElem hl, List.getElem_idxOf hl]

theorem fnd_ok (t : List Nd) : ∀ m, m ≤ t.length → FndOk t (fnd t m).1 (fnd t m).2 m
  | 0, _ => ⟨fun i h1 h2 => by omega, List.nodup_nil, fun j h => by simp [fnd] at h, Nat.le_refl _⟩
  | m + 1, hm => by
    have ih := fnd_ok t m (by omega)
    obtain ⟨F, hF⟩ : ∃ F, (fnd t m).1 = F := ⟨_, rfl⟩
    obtain ⟨L, hL⟩ : ∃ L, (fnd t m).2 = L := ⟨_, rfl⟩
    obtain ⟨i, hi⟩ : ∃ i, t.length - 1 - m = i := ⟨_, rfl⟩
    have e : fnd t (m + 1) = if sg t L i ∈ F then (F, setL L i (F.idxOf (sg t L i))) else (F ++ [sg t L i], setL L i F.length) := by rw [← hF, ← hL, ← hi]; rfl
    rw [hF, hL] at ih
    rw [e]
    by_cases hc : sg t L i ∈ F
    · rw [if_pos hc]
      refine ⟨fun j h1 h2 => ?_, ih.nodup, fun j hj => ?_, by have := ih.few; show F.length ≤ m + 1; omega⟩
      · show F[setL L i _ j]? = some (sg t (setL L i _) j)
        rw [sg_set L _ (by omega)]
        by_cases ej : j = i
        · subst ej; rw [setL_same]; exact idx_some hc
        · rw [setL_other L _ ej]; exact ih.at' j (by omega) h2
      · obtain ⟨a, h1, h2, h3⟩ := ih.all j hj
        exact ⟨a, by omega, h2, by show setL L i _ a = j; rw [setL_other L _ (by omega)]; exact h3⟩
    · rw [if_neg hc]
      refine ⟨fun j h1 h2 => ?_, ?_, fun j hj => ?_, by have := ih.few; show (F ++ [_]).length ≤ m + 1; simp; omega⟩
      · show (F ++ [sg t L i])[setL L i F.length j]? = some (sg t (setL L i F.length) j)
        rw [sg_set L _ (by omega)]
        by_cases ej : j = i
        · subst ej; rw [setL_same]; simp
        · rw [setL_other L _ ej]
          have := ih.at' j (by omega) h2
          rw [List.getElem?_append_left (List.getElem?_eq_some_iff.1 this).1]
          exact this
      · refine List.nodup_append.2 ⟨ih.nodup, by simp, fun a ha b hb => ?_⟩
        rw [List.mem_singleton] at hb
        subst hb
        intro e
        exact hc (e ▸ ha)
      · have hj' : j < F.length + 1 := by simpa using hj
        by_cases ej : j = F.length
        · exact ⟨i, by omega, by omega, by show setL L i F.length i = j; rw [setL_same, ej]⟩
        · obtain ⟨a, h1, h2, h3⟩ := ih.all j (by omega)
          exact ⟨a, by omega, h2, by show setL L i _ a = j; rw [setL_other L _ (by omega)]; exact h3⟩

/-- the program's numbers, and what it has found -/
def lbI (t : List Nd) : Nat → Nat := (fnd t t.length).2
def fdI (t : List Nd) : List Sg := (fnd t t.length).1

theorem lbI_at (t : List Nd) {i : Nat} (h : i < t.length) : (fdI t)[lbI t i]? = some (sg t (lbI t) i) := (fnd_ok t t.length (Nat.le_refl _)).at' i (by omega) h
theorem lbI_same (t : List Nd) : ∀ i k, i < t.length → k < t.length → (lbI t i = lbI t k ↔ sg t (lbI t) i = sg t (lbI t) k) := by
  intro i k hi hk
  have h1 := lbI_at t hi
  have h2 := lbI_at t hk
  constructor
  · intro e
    rw [e, h2] at h1
    exact (Option.some.inj h1).symm
  · intro e
    rw [← e] at h2
    have hl1 := List.getElem?_eq_some_iff.1 h1
    have hl2 := List.getElem?_eq_some_iff.1 h2
    have hn := (fnd_ok t t.length (Nat.le_refl _)).nodup
    have g1 := hn.idxOf_getElem _ hl1.1
    have g2 := hn.idxOf_getElem _ hl2.1
    have e1 := hl1.2
    have e2 := hl2.2
    unfold fdI at e1 e2
    rw [e1] at g1
    rw [e2] at g2
    exact g1.symm.trans g2
theorem lbI_eqv {t : List Nd} {ps : List Txt} (hv : Valid t ps) : ∀ i k, i < t.length → k < t.length → (lbI t i = lbI t k ↔ Eqv t ps i k) := lab_eqv hv (lbI_same t)

theorem lb_both {t : List Nd} {ps : List Txt} (hv : Valid t ps) : ∀ i k, i < t.length → k < t.length → (lbI t i = lbI t k ↔ lbS t i = lbS t k) := fun i k hi hk => by rw [lbI_eqv hv i k hi hk, lbS_eqv hv i k hi hk]

/-- how many states -/
def many (t : List Nd) : Nat := (ordL (lbS t) t.length).length
/-- the state of a node -/
def stt (t : List Nd) (i : Nat) : Nat := numL (lbS t) t.length (lbS t i)

theorem many_I {t : List Nd} {ps : List Txt} (hv : Valid t ps) : (ordL (lbI t) t.length).length = many t := (num_same t.length (lb_both hv)).1
theorem stt_I {t : List Nd} {ps : List Txt} (hv : Valid t ps) {i : Nat} (h : i < t.length) : numL (lbI t) t.length (lbI t i) = stt t i := (num_same t.length (lb_both hv)).2 i h
/-- the program has found as many as there are labels -/
theorem fdI_len (t : List Nd) : (ordL (lbI t) t.length).length = (fdI t).length := by
  have hok := fnd_ok t t.length (Nat.le_refl _)
  have h1 := ordL_nodup (lbI t) t.length
  have hm : ∀ x, x ∈ ordL (lbI t) t.length ↔ x ∈ List.range (fdI t).length := by
    intro x
    rw [ordL_mem, List.mem_range]
    constructor
    · rintro ⟨i, hi, rfl⟩
      exact (List.getElem?_eq_some_iff.1 (lbI_at t hi)).1
    · intro hx
      obtain ⟨i, _, hi, e⟩ := hok.all x hx
      exact ⟨i, hi, e⟩
  have := (List.perm_ext_iff_of_nodup h1 List.nodup_range).2 hm
  rw [this.length_eq, List.length_range]

theorem stt_lt (t : List Nd) {i : Nat} (h : i < t.length) : stt t i < many t := List.idxOf_lt_length_iff.2 ((ordL_mem _ _ _).2 ⟨i, h, rfl⟩)
theorem stt_eqv {t : List Nd} {ps : List Txt} (hv : Valid t ps) {i k : Nat} (hi : i < t.length) (hk : k < t.length) : stt t i = stt t k ↔ Eqv t ps i k := by
  rw [← lbS_eqv hv i k hi hk]
  unfold stt numL
  constructor
  · intro e
    have h1 := (ordL_mem (lbS t) t.length (lbS t i)).2 ⟨i, hi, rfl⟩
    have h2 := (ordL_mem (lbS t) t.length (lbS t k)).2 ⟨k, hk, rfl⟩
    have l1 := List.idxOf_lt_length_iff.2 h1
    have l2 := List.idxOf_lt_length_iff.2 h2
    have g1 := List.getElem_idxOf l1
    have g2 := List.getElem_idxOf l2
    rw [← g1, ← g2]
    congr 1
  · intro e; rw [e]
theorem stt_all (t : List Nd) {s : Nat} (h : s < many t) : ∃ i, i < t.length ∧ stt t i = s := by
  obtain ⟨i, hi, e⟩ := (ordL_mem (lbS t) t.length ((ordL (lbS t) t.length)[s])).1 (List.getElem_mem h)
  refine ⟨i, hi, ?_⟩
  unfold stt numL
  rw [e]
  exact (ordL_nodup _ _).idxOf_getElem s h
theorem stt_zero (t : List Nd) (h : 0 < t.length) : stt t 0 = 0 := by
  obtain ⟨r, hr⟩ := ordL_pre (lbS t) 1 t.length h
  unfold stt numL
  rw [← hr]
  simp [ordL]

/-- the machine -/
def mch (t : List Nd) : List Sg := (List.range (many t)).map fun s => sg t (stt t) (((List.range t.length).find? fun i => stt t i == s).getD 0)

theorem mch_len (t : List Nd) : (mch t).length = many t := by simp [mch]

theorem sg_stt {t : List Nd} {ps : List Txt} (hv : Valid t ps) {i k : Nat} (hi : i < t.length) (hk : k < t.length) (h : stt t i = stt t k) : sg t (stt t) i = sg t (stt t) k :=
  (sg_eqv hv hi hk (fun a b _ _ ha hb => stt_eqv hv ha hb)).2 ((stt_eqv hv hi hk).1 h)

theorem mch_at {t : List Nd} {ps : List Txt} (hv : Valid t ps) {i : Nat} (hi : i < t.length) : (mch t)[stt t i]? = some (sg t (stt t) i) := by
  unfold mch
  rw [List.getElem?_map, List.getElem?_range (stt_lt t hi)]
  simp only [Option.map_some, Option.some.injEq]
  cases hf : (List.range t.length).find? fun j => stt t j == stt t i with
  | none =>
    have := List.find?_eq_none.1 hf i (List.mem_range.2 hi)
    simp at this
  | some j =>
    have h1 := List.find?_some hf
    have h2 := List.mem_range.1 (List.mem_of_find?_eq_some hf)
    exact sg_stt hv h2 hi (by simpa using h1)

/-- whatever has these states is the machine -/
theorem mch_uniq {t : List Nd} {ps : List Txt} (hv : Valid t ps) {M : List Sg} (hl : M.length = many t) (h : ∀ i, i < t.length → M[stt t i]? = some (sg t (stt t) i)) : M = mch t := by
  apply List.ext_getElem?
  intro s
  by_cases hs : s < many t
  · obtain ⟨i, hi, rfl⟩ := stt_all t hs
    rw [h i hi, mch_at hv hi]
  · rw [List.getElem?_eq_none (by omega), List.getElem?_eq_none (by rw [mch_len]; omega)]

end Go.Proofs.YtmgieahachphmabDoor

/-! ### A machine is gone through -/
namespace Go.Proofs.YtmgieahachphmabDoor
set_option linter.unusedVariables false

/-- a machine as it comes: its states' ends and edges -/
abbrev Ms := List (Bool × List (Int × Int))

def toZ (M : List Sg) : Ms := M.map fun s => (s.1, s.2.map fun e => (e.1, (e.2 : Int)))

def stA (m : Ms) (s : Int) : Bool × List (Int × Int) := m[s.toNat]?.getD (false, [])

/-- the nodes for all ways on from a state; they fail where they are more than a trie can have -/
def unf (m : Ms) : Nat → Int → List Nd → Int → Int → Option (List Nd)
  | 0, _, _, _, _ => none
  | f + 1, s, ns, l, p =>
    if s < 0 ∨ (m.length : Int) ≤ s ∨ ns.length = 481 then none
    else (stA m s).2.foldlM (fun acc e => unf m f e.2 acc e.1 ns.length) (ns ++ [⟨l, p, (stA m s).1⟩])

def chr (e : Int) : UInt8 := UInt8.ofNat (97 + e).toNat

/-- the texts from a state on, and how many ways have been gone -/
def wlk (m : Ms) : Nat → Int → Txt → Nat → List Txt × Nat
  | 0, _, _, g => ([], g)
  | f + 1, s, so, g =>
    (stA m s).2.foldl (fun acc e => if acc.2 ≤ 481 ∧ so.length < 12 then (acc.1 ++ (wlk m f e.2 (so ++ [chr e.1]) acc.2).1, (wlk m f e.2 (so ++ [chr e.1]) acc.2).2) else acc) (if (stA m s).1 then [so] else [], g + 1)

section
variable {t : List Nd} {ps : List Txt}

def isKid (t : List Nd) (i k : Nat) : Prop := ∃ d, t[k]? = some d ∧ i < k ∧ d.p = (i : Int)

/-- the kids from a place on -/
def kfr (t : List Nd) (i k : Nat) : List Nat := (kidsTo t i t.length).filter fun m => decide (k ≤ m)

theorem kfr_mem {i k m : Nat} : m ∈ kfr t i k ↔ m ∈ kidsTo t i t.length ∧ k ≤ m := by
  unfold kfr; rw [List.mem_filter]; simp

theorem up_ext : ∀ {a b : List Nat}, a.Pairwise (fun x y => x < y) → b.Pairwise (fun x y => x < y) → (∀ x, x ∈ a ↔ x ∈ b) → a = b
  | [], [], _, _, _ => rfl
  | [], y :: b, _, _, h => by have := (h y).2 (by simp); simp at this
  | x :: a, [], _, _, h => by have := (h x).1 (by simp); simp at this
  | x :: a, y :: b, ha, hb, h => by
    rw [List.pairwise_cons] at ha hb
    have e : x = y := by
      have h1 := (h x).1 (by simp)
      have h2 := (h y).2 (by simp)
      rw [List.mem_cons] at h1 h2
      rcases h1 with h1 | h1
      · exact h1
      · rcases h2 with h2 | h2
        · exact h2.symm
        · have a1 := ha.1 y h2
          have a2 := hb.1 x h1
          omega
    subst e
    congr 1
    refine up_ext ha.2 hb.2 fun z => ?_
    have hz := h z
    rw [List.mem_cons, List.mem_cons] at hz
    constructor
    · intro m
      rcases hz.1 (.inr m) with e | e
      · have := ha.1 z m
        omega
      · exact e
    · intro m
      rcases hz.2 (.inr m) with e | e
      · have := hb.1 z m
        omega
      · exact e

theorem kfr_up (t : List Nd) (i k : Nat) : (kfr t i k).Pairwise fun x y => x < y := (kidsTo_up t i t.length).filter _

theorem kfr_all (t : List Nd) (i : Nat) : kfr t i (i + 1) = kidsTo t i t.length := by
  unfold kfr
  rw [List.filter_eq_self]
  intro m hm
  have := (mem_kidsTo.1 hm).2.1
  simp; omega

/-- a kid, and those behind all that is under it -/
theorem kfr_kid (hv : Valid t ps) {i k b : Nat} {d : Nd} (hik : i < k) (hd : t[k]? = some d) (hp : d.p = (i : Int)) (hb : Behind t ps k b) : kfr t i k = k :: kfr t i b := by
  refine up_ext (kfr_up t i k) (List.pairwise_cons.2 ⟨fun m hm => ?_, kfr_up t i b⟩) fun m => ?_
  · have := (kfr_mem.1 hm).2
    have := hb.lt
    omega
  · rw [kfr_mem, List.mem_cons, kfr_mem, mem_kidsTo]
    have hkl := (List.getElem?_eq_some_iff.1 hd).1
    have hlt := hb.lt
    constructor
    · rintro ⟨⟨h1, h2, e, he, hpe⟩, h3⟩
      by_cases e1 : m = k
      · exact .inl e1
      · refine .inr ⟨⟨h1, h2, e, he, hpe⟩, ?_⟩
        by_cases e2 : m < b
        · exact absurd hpe (not_kid hv.tells hik hd hp hb (by omega) e2 he)
        · omega
    · rintro (rfl | ⟨h1, h2⟩)
      · exact ⟨⟨hkl, hik, d, hd, hp⟩, Nat.le_refl _⟩
      · exact ⟨h1, by omega⟩

theorem kfr_end (hv : Valid t ps) {i k : Nat} {d : Nd} (hik : i < k) (hK : KidAt t ps i k) (hd : t[k]? = some d) (hp : d.p ≠ (i : Int)) : kfr t i k = [] := by
  rw [List.eq_nil_iff_forall_not_mem]
  intro m hm
  obtain ⟨h1, h2⟩ := kfr_mem.1 hm
  obtain ⟨h3, h4, e, he, hpe⟩ := mem_kidsTo.1 h1
  exact no_more hv.tells hik hK hd hp h2 he hpe
theorem kfr_none {i : Nat} : kfr t i t.length = [] := by
  rw [List.eq_nil_iff_forall_not_mem]
  intro m hm
  obtain ⟨h1, h2⟩ := kfr_mem.1 hm
  have := (mem_kidsTo.1 h1).1
  omega

/-- going through the kids of a node, one by one: what is told of each, is told of all -/
theorem kids_go (hv : Valid t ps) {α : Type} (g : α → Nat → Option α) (st : Nat → α) {i : Nat} (hi : i < t.length) (hg : ∀ k, k ∈ kidsTo t i t.length → ∃ b, Behind t ps k b ∧ g (st k) k = some (st b)) :
    ∃ b, Behind t ps i b ∧ (kidsTo t i t.length).foldlM g (st (i + 1)) = some (st b) := by
  obtain ⟨x, hx⟩ : ∃ x, ps[i]? = some x := ⟨_, List.getElem?_eq_getElem (by rw [hv.lenEq]; exact hi)⟩
  have main : ∀ m k, t.length - k ≤ m → i < k → k ≤ t.length → KidAt t ps i k → (∀ (q : Nat) (z : Txt), i < q → q < k → ps[q]? = some z → x <+: z) → ∃ b, Behind t ps i b ∧ (kfr t i k).foldlM g (st k) = some (st b) := by
    intro m
    induction m with
    | zero =>
      intro k hm hik hk hK hall
      obtain rfl : k = t.length := by omega
      refine ⟨t.length, ⟨hik, Nat.le_refl _, fun x' hx' q z h1 h2 hz => ?_, fun x' y hx' hy => ?_⟩, ?_⟩
      · rw [hx] at hx'
        obtain rfl := Option.some.inj hx'
        exact hall q z h1 h2 hz
      · have := (List.getElem?_eq_some_iff.1 hy).1
        rw [hv.lenEq] at this
        omega
      · rw [kfr_none]; rfl
    | succ m ih =>
      intro k hm hik hk hK hall
      by_cases e : k = t.length
      · subst e
        exact ih t.length (by omega) hik hk hK hall
      · obtain ⟨d, y, hd, hy⟩ := hv.tells.at (show k < t.length by omega)
        by_cases hp : d.p = (i : Int)
        · obtain ⟨b, hb, hgb⟩ := hg k (mem_kidsTo.2 ⟨by omega, hik, d, hd, hp⟩)
          have hlt := hb.lt
          obtain ⟨c, hk'⟩ := (par_iff hv.tells hx (by omega) hd).1 hp
          have hy2 : y = x ++ [c] := by rw [hy] at hk'; exact Option.some.inj hk'
          obtain ⟨b', hb', hr⟩ := ih b (by omega) (by omega) hb.le (kidAt_next hv.tells hik hd hp hb) (fun q z h1 h2 hz => by
            by_cases e1 : q < k
            · exact hall q z h1 e1 hz
            · by_cases e2 : q = k
              · subst e2
                rw [hy] at hz
                rw [← Option.some.inj hz, hy2]
                exact List.prefix_append _ _
              · have := hb.all y hy q z (by omega) h2 hz
                rw [hy2] at this
                exact (List.prefix_append _ _).trans this)
          refine ⟨b', hb', ?_⟩
          rw [kfr_kid hv hik hd hp hb, List.foldlM_cons, hgb]
          exact hr
        · refine ⟨k, ⟨hik, by omega, fun x' hx' q z h1 h2 hz => ?_, fun x' y' hx' hy' hpre => ?_⟩, ?_⟩
          · rw [hx] at hx'
            obtain rfl := Option.some.inj hx'
            exact hall q z h1 h2 hz
          · exact hp (hK x' y' d hx' hy' hd hpre)
          · rw [kfr_end hv hik hK hd hp]; rfl
  obtain ⟨b, h1, h2⟩ := main _ (i + 1) (Nat.le_refl _) (by omega) (by omega) (kidAt_first hv.tells i) (fun q z h1 h2 => by omega)
  exact ⟨b, h1, by rw [← kfr_all]; exact h2⟩

theorem toZ_len (M : List Sg) : (toZ M).length = M.length := by simp [toZ]

theorem stA_mch (hv : Valid t ps) {i : Nat} (hi : i < t.length) : stA (toZ (mch t)) (stt t i) = ((ndA t i).e, (kidsTo t i t.length).map fun k => ((ndA t k).l, (stt t k : Int))) := by
  unfold stA toZ
  rw [Int.toNat_natCast, List.getElem?_map, mch_at hv hi]
  simp [sg, List.map_map, Function.comp_def]

theorem foldlM_map {α β γ : Type} (f : β → α) (g : γ → α → Option γ) : ∀ (l : List β) (c : γ), (l.map f).foldlM g c = l.foldlM (fun c b => g c (f b)) c
  | [], c => rfl
  | b :: l, c => by
    rw [List.map_cons, List.foldlM_cons, List.foldlM_cons]
    congr 1
    funext c'
    exact foldlM_map f g l c'

theorem foldlM_congr {β γ : Type} {g g' : γ → β → Option γ} : ∀ {l : List β} {c : γ}, (∀ c, ∀ b ∈ l, g c b = g' c b) → l.foldlM g c = l.foldlM g' c
  | [], c, _ => rfl
  | b :: l, c, h => by
    rw [List.foldlM_cons, List.foldlM_cons, h c b (by simp)]
    congr 1
    funext c'
    exact foldlM_congr fun c b hb => h c b (by simp [hb])

/-- the machine of a trie is unfolded to its nodes -/
theorem unf_mch (hv : Valid t ps) : ∀ (m i : Nat), t.length - i ≤ m → i < t.length → ∀ f, m ≤ f → ∃ b, Behind t ps i b ∧ unf (toZ (mch t)) f (stt t i) (t.take i) (ndA t i).l (ndA t i).p = some (t.take b) := by
  intro m
  induction m with
  | zero => intro i h1 h2; omega
  | succ m ih =>
    intro i h1 h2 f hf
    obtain ⟨f, rfl⟩ : ∃ q, f = q + 1 := ⟨f - 1, by omega⟩
    have hs := stt_lt t h2
    have hsz := hv.size
    have htake : t.take i ++ [⟨(ndA t i).l, (ndA t i).p, (ndA t i).e⟩] = t.take (i + 1) := by
      obtain ⟨d, hd⟩ : ∃ d, t[i]? = some d := ⟨_, List.getElem?_eq_getElem h2⟩
      rw [ndA_at hd, List.take_add_one, hd]
      rfl
    obtain ⟨b, hb, he⟩ := kids_go hv (fun acc k => unf (toZ (mch t)) f (stt t k) acc (ndA t k).l (i : Int)) (fun k => t.take k) h2 (fun k hk => by
      obtain ⟨g1, g2, d, g3, g4⟩ := mem_kidsTo.1 hk
      obtain ⟨b, hb, he⟩ := ih k (by omega) g1 f (by omega)
      rw [ndA_at g3, g4] at he
      exact ⟨b, hb, by rw [ndA_at g3]; exact he⟩)
    refine ⟨b, hb, ?_⟩
    unfold unf
    rw [if_neg (by rw [toZ_len, mch_len, List.length_take]; omega), stA_mch hv h2]
    simp only
    rw [htake, foldlM_map]
    have hl : ((t.take i).length : Int) = (i : Int) := by rw [List.length_take]; omega
    simp only [hl]
    exact he

/-- the words of the nodes from i to k -/
def mid (t : List Nd) (ps : List Txt) (i k : Nat) : List Txt := (List.range' i (k - i)).filterMap fun m => if (ndA t m).e then ps[m]? else none

theorem mid_app (t : List Nd) (ps : List Txt) {i k b : Nat} (h1 : i ≤ k) (h2 : k ≤ b) : mid t ps i b = mid t ps i k ++ mid t ps k b := by
  unfold mid
  rw [← List.filterMap_append]
  congr 1
  have e : k = i + 1 * (k - i) := by omega
  conv => rhs; rhs; rw [e]
  rw [List.range'_append]
  congr 1
  omega

theorem mid_succ {i k : Nat} {x : Txt} (h : i ≤ k) (hx : ps[k]? = some x) : mid t ps i (k + 1) = mid t ps i k ++ if (ndA t k).e then [x] else [] := by
  rw [mid_app t ps h (Nat.le_succ k)]
  congr 1
  unfold mid
  rw [show k + 1 - k = 1 from by omega]
  cases he : (ndA t k).e <;> simp [List.range', he, hx]

theorem mid_same (t : List Nd) (ps : List Txt) (i : Nat) : mid t ps i i = [] := by
  unfold mid; rw [Nat.sub_self]; rfl

theorem mid_wds (hl : ps.length = t.length) : ∀ k, k ≤ t.length → wds (t.take k) (ps.take k) = mid t ps 0 k
  | 0, _ => by rw [mid_same]; rfl
  | k + 1, h => by
    obtain ⟨d, hd⟩ : ∃ d, t[k]? = some d := ⟨_, List.getElem?_eq_getElem (by omega)⟩
    obtain ⟨x, hx⟩ : ∃ x, ps[k]? = some x := ⟨_, List.getElem?_eq_getElem (by omega)⟩
    rw [wds_succ hl hd hx, mid_succ (Nat.zero_le _) hx, mid_wds hl k (by omega), ndA_at hd]

theorem mid_all (hv : Valid t ps) : mid t ps 0 t.length = wds t ps := by
  rw [← mid_wds hv.lenEq t.length (Nat.le_refl _), List.take_of_length_le (Nat.le_refl _), List.take_of_length_le (by rw [hv.lenEq]; exact Nat.le_refl _)]

theorem mem_mid {i k : Nat} {w : Txt} : w ∈ mid t ps i k ↔ ∃ m, i ≤ m ∧ m < k ∧ (ndA t m).e = true ∧ ps[m]? = some w := by
  unfold mid
  rw [List.mem_filterMap]
  constructor
  · rintro ⟨m, hm, he⟩
    rw [List.mem_range'_1] at hm
    split at he
    · exact ⟨m, hm.1, by omega, by assumption, he⟩
    · cases he
  · rintro ⟨m, h1, h2, h3, h4⟩
    exact ⟨m, List.mem_range'_1.2 ⟨h1, by omega⟩, by rw [if_pos h3, h4]⟩

theorem foldlM_some {β γ : Type} (g : γ → β → γ) : ∀ (l : List β) (c : γ), l.foldlM (fun c b => some (g c b)) c = some (l.foldl g c)
  | [], c => rfl
  | b :: l, c => by rw [List.foldlM_cons, List.foldl_cons]; exact foldlM_some g l (g c b)

/-- the texts from a node's state on are those behind the node -/
theorem wlk_mch (hv : Valid t ps) : ∀ (m i : Nat), t.length - i ≤ m → i < t.length → ∀ (f : Nat) (so x : Txt) (g : Nat), ps[i]? = some x → so.length ≤ x.length → f + so.length = 13 → g + (t.length - i) ≤ 482 →
    ∃ b, Behind t ps i b ∧ wlk (toZ (mch t)) f (stt t i) so g = ((mid t ps i b).map fun w => so ++ w.drop x.length, g + (b - i)) := by
  intro m
  induction m with
  | zero => intro i h1 h2; omega
  | succ m ih =>
    intro i h1 h2 f so x g hx hso hf hg
    have hx12 := hv.short x (at_mem hx)
    obtain ⟨f, rfl⟩ : ∃ q, f = q + 1 := ⟨f - 1, by omega⟩
    obtain ⟨b, hb, he⟩ := kids_go hv (fun (acc : List Txt × Nat) k => some (if acc.2 ≤ 481 ∧ so.length < 12 then (acc.1 ++ (wlk (toZ (mch t)) f (stt t k) (so ++ [chr (ndA t k).l]) acc.2).1, (wlk (toZ (mch t)) f (stt t k) (so ++ [chr (ndA t k).l]) acc.2).2) else acc)) (fun k => ((mid t ps i k).map fun w => so ++ w.drop x.length, g + (k - i))) h2 (fun k hk => by
      have hk2 := mem_kidsTo.1 hk
      obtain ⟨c, hc⟩ := (kid_mem hv hx).1 hk
      have hlow := hv.tells.low k _ hc c (by simp)
      have hch : chr (ndA t k).l = c := by
        rw [kid_letter hv hx hc]
        unfold chr
        rw [show (97 + ((c.toNat : Int) - 97)).toNat = c.toNat from by omega]
        exact UInt8.ofNat_toNat
      have hc12 := hv.short _ (at_mem hc)
      rw [List.length_append, List.length_singleton] at hc12
      obtain ⟨b, hb, he⟩ := ih k (by omega) hk2.1 f (so ++ [c]) (x ++ [c]) (g + (k - i)) hc (by simp; omega) (by simp; omega) (by omega)
      have hlt := hb.lt
      refine ⟨b, hb, ?_⟩
      simp only [hch]
      rw [if_pos ⟨by omega, by omega⟩, he, mid_app t ps (show i ≤ k by omega) (show k ≤ b by omega), List.map_append]
      simp only [Option.some.injEq, Prod.mk.injEq]
      refine ⟨?_, by omega⟩
      congr 1
      refine List.map_congr_left fun w hw => ?_
      obtain ⟨q, q1, q2, q3, q4⟩ := mem_mid.1 hw
      have hpre : x ++ [c] <+: w := (hb.iff hv.tells hc q4).2 ⟨q1, q2⟩
      obtain ⟨r, rfl⟩ := hpre
      have e1 : (x ++ [c] ++ r).drop (x ++ [c]).length = r := List.drop_left
      rw [e1, List.append_assoc x, List.drop_left]
      simp)
    refine ⟨b, hb, ?_⟩
    rw [foldlM_some] at he
    have he := Option.some.inj he
    unfold wlk
    rw [stA_mch hv h2]
    simp only
    rw [List.foldl_map]
    have hst : (((mid t ps i (i + 1)).map fun w => so ++ w.drop x.length, g + (i + 1 - i)) : List Txt × Nat) = (if (ndA t i).e then [so] else [], g + 1) := by
      rw [mid_succ (Nat.le_refl i) hx, mid_same]
      cases (ndA t i).e <;> simp
    rw [hst] at he
    exact he

end

end Go.Proofs.YtmgieahachphmabDoor
