/-
  Reading a text as a row of nodes, sign by sign, and what comes of the text of a trie: plain mathematics.
-/
import Derived.Test.YtjcaikfejgeknabTxtOf
namespace Go.Proofs.Ytjcaikfejgeknab
set_option linter.unusedVariables false

/-- the node at a place ends a word -/
def endAt (ns : List Nd) (k : Nat) : List Nd := match ns[k]? with
  | some d => ns.set k ⟨d.l, d.p, true⟩
  | none => ns

/-- a sign is read -/
def rstep : Option (List Nd × Int) → Nat → Option (List Nd × Int)
  | none, _ => none
  | some (ns, op), c =>
    if c = 46 then some (endAt ns (ns.length - 1), op)
    else if c = 40 then some (ns, ((ns.length - 1 : Nat) : Int))
    else if c = 41 then (if op = -1 then none else (ns[op.toNat]?).map fun d => (ns, d.p))
    else if ns.length = 481 then none else some (ns ++ [⟨(c : Int) - 97, op, false⟩], op)

theorem rstep_none (c : Nat) : rstep none c = none := rfl
theorem rfold_none : ∀ cs : List Nat, cs.foldl rstep none = none
  | [] => rfl
  | c :: r => by rw [List.foldl_cons, rstep_none, rfold_none r]

/-- the signs of a text -/
def sgn (x : Txt) : List Nat := x.map UInt8.toNat
theorem sgn_app (x y : Txt) : sgn (x ++ y) = sgn x ++ sgn y := by simp [sgn]

def rd (st : Option (List Nd × Int)) (x : Txt) : Option (List Nd × Int) := (sgn x).foldl rstep st
theorem rd_app (st : Option (List Nd × Int)) (x y : Txt) : rd st (x ++ y) = rd (rd st x) y := by unfold rd; rw [sgn_app, List.foldl_append]
theorem rd_nil (st : Option (List Nd × Int)) : rd st [] = st := rfl

theorem rd_dot (ns : List Nd) (op : Int) : rd (some (ns, op)) [46] = some (endAt ns (ns.length - 1), op) := rfl
theorem rd_open (ns : List Nd) (op : Int) : rd (some (ns, op)) [40] = some (ns, ((ns.length - 1 : Nat) : Int)) := rfl
theorem rd_shut {ns : List Nd} {k : Nat} {d : Nd} (h : ns[k]? = some d) : rd (some (ns, (k : Int))) [41] = some (ns, d.p) := by
  have h1 : ¬ ((k : Int) = -1) := by omega
  simp [rd, sgn, rstep, h1, h]
theorem rd_letter {ns : List Nd} {op : Int} {c : UInt8} (h1 : 97 ≤ c.toNat) (h2 : ns.length ≠ 481) : rd (some (ns, op)) [c] = some (ns ++ [⟨(c.toNat : Int) - 97, op, false⟩], op) := by
  have e1 : ¬ c.toNat = 46 := by omega
  have e2 : ¬ c.toNat = 40 := by omega
  have e3 : ¬ c.toNat = 41 := by omega
  simp [rd, sgn, rstep, e1, e2, e3, h2]

theorem endAt_last (ns : List Nd) (l p : Int) (e : Bool) : endAt (ns ++ [⟨l, p, e⟩]) ns.length = ns ++ [⟨l, p, true⟩] := by
  simp [endAt]

theorem take_at {t : List Nd} {i : Nat} {d : Nd} (h : t[i]? = some d) : t.take (i + 1) = t.take i ++ [d] := by
  obtain ⟨hi, e⟩ := List.getElem?_eq_some_iff.1 h
  rw [List.take_succ_eq_append_getElem hi, e]

/-- the kids' texts from place k on -/
theorem rd_kids {t : List Nd} {ps : List Txt} (h : Tells t t.length ps) {f i b : Nat} {d : Nd} (hb : Behind t ps i b) (hd : t[i]? = some d)
    (ih : ∀ (j c : Nat), i < j → Behind t ps j c → ∀ (dj : Nd), t[j]? = some dj → rd (some (t.take j, dj.p)) (txtOf t f j) = some (t.take c, dj.p)) :
    ∀ (g k : Nat), t.length ≤ k + g → i < k → k ≤ b → KidAt t ps i k → rd (some (t.take (i + 1), (i : Int))) (txtKids t f i k) = some (t.take k, (i : Int)) →
      rd (some (t.take (i + 1), (i : Int))) (txtKids t f i t.length) = some (t.take b, (i : Int)) := by
  obtain ⟨_, x, _, hx⟩ := h.at (show i < t.length by have := hb.lt; have := hb.le; omega)
  intro g
  induction g with
  | zero =>
    intro k hg hik hkb _ hr
    have e1 : k = t.length := by have := hb.le; omega
    have e2 : b = t.length := by have := hb.le; omega
    rw [e1] at hr
    rw [e2]
    exact hr
  | succ g ihg =>
    intro k hg hik hkb hK hr
    by_cases hkl : k < t.length
    · obtain ⟨dk, y, hdk, hy⟩ := h.at hkl
      by_cases hp : dk.p = (i : Int)
      · obtain ⟨b2, hb2⟩ := behind_ex h hkl
        have hkb2 := hb2.lt
        obtain ⟨c, hyc⟩ := (par_iff h hx (by omega) hdk).1 hp
        have hb2b : b2 ≤ b := by
          by_cases hle : b2 ≤ b
          · exact hle
          · exfalso
            have hbl : b < t.length := by have := hb2.le; omega
            obtain ⟨_, z, _, hz⟩ := h.at hbl
            have hkb' : k ≠ b := by
              rintro rfl
              exact hb.stop x _ hx hyc (List.prefix_append _ _)
            have h1 := hb2.all _ hyc b z (by omega) (by omega) hz
            exact hb.stop x z hx hz ((List.prefix_append _ _).trans h1)
        have hkids : kidsTo t i b2 = kidsTo t i k ++ [k] := by
          rw [kidsTo_skip (k + 1) b2 (by omega) (fun m d h1 h2 h3 h4 => not_kid h hik hdk hp hb2 (by omega) h2 h3 h4.2), kidsTo_hit hdk hik hp]
        have e : txtKids t f i b2 = txtKids t f i k ++ txtOf t f k := by
          unfold txtKids
          rw [hkids, List.flatMap_append]
          simp
        refine ihg b2 (by omega) (by omega) hb2b (kidAt_next h hik hdk hp hb2) ?_
        rw [e, rd_app, hr]
        have := ih k b2 hik hb2 dk hdk
        rw [hp] at this
        exact this
      · have hsk : kidsTo t i t.length = kidsTo t i k := kidsTo_skip k t.length (by omega) (fun m d h1 h2 h3 h4 => no_more h hik hK hdk hp h1 h3 h4.2)
        have e : txtKids t f i t.length = txtKids t f i k := by unfold txtKids; rw [hsk]
        have ebk : b = k := by
          by_cases hlt : k < b
          · exfalso
            have h1 := hb.all x hx k y hik hlt hy
            exact hp (hK x y dk hx hy hdk h1)
          · omega
        rw [e, ebk]
        exact hr
    · have e1 : k = t.length := by have := hb.le; omega
      have e2 : b = t.length := by have := hb.le; omega
      rw [e1] at hr
      rw [e2]
      exact hr

/-- a node without kids stands alone -/
theorem behind_leaf {t : List Nd} {ps : List Txt} (h : Tells t t.length ps) {i b : Nat} (hb : Behind t ps i b) (hk : kidsTo t i t.length = []) : b = i + 1 := by
  have hlt := hb.lt
  have hle := hb.le
  by_cases e : b = i + 1
  · exact e
  · exfalso
    obtain ⟨_, x, _, hx⟩ := h.at (show i < t.length by omega)
    obtain ⟨d, y, hd, hy⟩ := h.at (show i + 1 < t.length by omega)
    have h1 := hb.all x hx (i + 1) y (by omega) (by omega) hy
    have h2 := kidAt_first h i x y d hx hy hd h1
    have : i + 1 ∈ kidsTo t i t.length := mem_kidsTo.2 ⟨by omega, by omega, d, hd, h2⟩
    rw [hk] at this
    cases this

/-- what is behind the head -/
theorem rd_body {t : List Nd} {ps : List Txt} (h : Tells t t.length ps) {f i b : Nat} {d : Nd} (hb : Behind t ps i b) (hd : t[i]? = some d)
    (ih : ∀ (j c : Nat), i < j → Behind t ps j c → ∀ (dj : Nd), t[j]? = some dj → rd (some (t.take j, dj.p)) (txtOf t f j) = some (t.take c, dj.p)) :
    rd (some (t.take (i + 1), d.p)) (if (kidsTo t i t.length).length = 0 then [] else [40] ++ (kidsTo t i t.length).flatMap (txtOf t f) ++ [41]) = some (t.take b, d.p) := by
  have hi : i < t.length := (List.getElem?_eq_some_iff.1 hd).1
  by_cases h0 : (kidsTo t i t.length).length = 0
  · rw [if_pos h0, rd_nil, behind_leaf h hb (List.eq_nil_of_length_eq_zero h0)]
  · rw [if_neg h0, rd_app, rd_app, rd_open]
    have el : (t.take (i + 1)).length - 1 = i := by rw [List.length_take]; omega
    have hk := rd_kids h hb hd ih t.length (i + 1) (by omega) (by omega) hb.lt (kidAt_first h i) (by rw [txtKids_low, rd_nil])
    unfold txtKids at hk
    rw [el, hk]
    exact rd_shut (by rw [List.getElem?_take, if_pos hb.lt]; exact hd)

theorem rd_text {t : List Nd} {ps : List Txt} (h : Tells t t.length ps) (hn : t.length ≤ 481) : ∀ (f i b : Nat), t.length ≤ i + f → 1 ≤ i → Behind t ps i b → ∀ (d : Nd), t[i]? = some d → rd (some (t.take i, d.p)) (txtOf t f i) = some (t.take b, d.p)
  | 0, i, b, hf, _, hb, d, hd => by have := (List.getElem?_eq_some_iff.1 hd).1; omega
  | f + 1, i, b, hf, h1, hb, d, hd => by
    have hi : i < t.length := (List.getElem?_eq_some_iff.1 hd).1
    obtain ⟨j, x, c, hp, hj, hl, c0, c1, e1, e2⟩ := h.step i d h1 hi hd
    have hlet : UInt8.ofNat (97 + d.l).toNat = c := by
      have : (97 + d.l).toNat = c.toNat := by omega
      rw [this]
      simp
    have htake : (t.take i).length = i := by rw [List.length_take]; omega
    have hhead : rd (some (t.take i, d.p)) ((if i = 0 then [] else [UInt8.ofNat (97 + d.l).toNat]) ++ (if d.e then [46] else [])) = some (t.take (i + 1), d.p) := by
      rw [if_neg (by omega), hlet, rd_app, rd_letter c0 (by omega), take_at hd]
      have ed : (⟨(c.toNat : Int) - 97, d.p, d.e⟩ : Nd) = d := Nd.eq hl.symm rfl rfl
      cases he : d.e with
      | false => rw [he] at ed; rw [if_neg (by simp), rd_nil, ed]
      | true =>
        rw [he] at ed
        rw [if_pos rfl, rd_dot]
        have e3 : (t.take i ++ [(⟨(c.toNat : Int) - 97, d.p, false⟩ : Nd)]).length - 1 = (t.take i).length := by simp
        rw [e3, endAt_last, ed]
    have e : txtOf t (f + 1) i = ((if i = 0 then [] else [UInt8.ofNat (97 + d.l).toNat]) ++ (if d.e then [46] else [])) ++
        (if (kidsTo t i t.length).length = 0 then [] else [40] ++ (kidsTo t i t.length).flatMap (txtOf t f) ++ [41]) := by
      simp only [txtOf, hd]
    rw [e, rd_app, hhead]
    exact rd_body h hb hd (fun j c hj hbj dj hdj => rd_text h hn f j c (by omega) (by omega) hbj dj hdj)

theorem behind_all {t : List Nd} {ps : List Txt} (h : Tells t t.length ps) : Behind t ps 0 t.length :=
  ⟨h.pos, Nat.le_refl _, fun x hx m z _ _ hz => by
    rw [h.nil] at hx
    rw [← Option.some.inj hx]
    exact List.nil_prefix, fun x y _ hy => by
    have := (List.getElem?_eq_some_iff.1 hy).1
    have := h.len
    omega⟩

/-- the text of a valid trie is read as that trie -/
theorem rd_whole {t : List Nd} {ps : List Txt} (hv : Valid t ps) : ∃ op, rd (some ([⟨-1, -1, false⟩], -1)) (txtOf t t.length 0) = some (t, op) := by
  have h := hv.tells
  obtain ⟨n, hn⟩ : ∃ n, t.length = n + 1 := ⟨t.length - 1, by have := h.pos; omega⟩
  obtain ⟨e, hr⟩ := h.root
  have e0 : txtOf t (n + 1) 0 = ((if e then [46] else [])) ++
      (if (kidsTo t 0 t.length).length = 0 then [] else [40] ++ (kidsTo t 0 t.length).flatMap (txtOf t n) ++ [41]) := by
    simp only [txtOf, hr, if_true, List.nil_append]
  have hhead : rd (some ([⟨-1, -1, false⟩], -1)) (if e then [46] else []) = some (t.take (0 + 1), -1) := by
    rw [take_at hr, List.take_zero, List.nil_append]
    cases e with
    | false => rw [if_neg (by simp), rd_nil]
    | true => rw [if_pos rfl, rd_dot]; rfl
  rw [hn, e0, rd_app, hhead]
  have := rd_body h (behind_all h) hr (f := n) (fun j c hj hbj dj hdj => rd_text h hv.size n j c (by omega) (by omega) hbj dj hdj)
  simp only at this
  exact ⟨-1, by rw [this, List.take_length]⟩

end Go.Proofs.Ytjcaikfejgeknab
