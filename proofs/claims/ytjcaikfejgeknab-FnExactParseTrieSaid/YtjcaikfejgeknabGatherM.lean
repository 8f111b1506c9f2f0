/-
  Gathering the words along a text, sign by sign, and what comes of the text of a trie: plain mathematics.
-/
import Derived.Test.YtjcaikfejgeknabReadM
namespace Go.Proofs.Ytjcaikfejgeknab
set_option linter.unusedVariables false

abbrev GS := List Txt × Txt × Txt

/-- a sign is read: the words so far, the path, the last letter -/
def gstep (st : GS) (c : UInt8) : GS :=
  if c = 46 then (st.1 ++ [st.2.1 ++ st.2.2], st.2.1, st.2.2)
  else if c = 40 then (st.1, st.2.1 ++ st.2.2, [])
  else if c = 41 then (if st.2.1 = [] then (st.1, st.2.1, []) else (st.1, st.2.1.dropLast, [st.2.1.getLastD 0]))
  else (st.1, st.2.1, [c])

def ga (st : GS) (x : Txt) : GS := x.foldl gstep st
theorem ga_app (st : GS) (x y : Txt) : ga st (x ++ y) = ga (ga st x) y := by unfold ga; rw [List.foldl_append]
theorem ga_nil (st : GS) : ga st [] = st := rfl
theorem ga_dot (ws : List Txt) (p l : Txt) : ga (ws, p, l) [46] = (ws ++ [p ++ l], p, l) := rfl
theorem ga_open (ws : List Txt) (p l : Txt) : ga (ws, p, l) [40] = (ws, p ++ l, []) := rfl
theorem ga_shut (ws : List Txt) (y : Txt) (c : UInt8) (l : Txt) : ga (ws, y ++ [c], l) [41] = (ws, y, [c]) := by simp [ga, gstep]
theorem ga_shut0 (ws : List Txt) (l : Txt) : ga (ws, [], l) [41] = (ws, [], []) := rfl
theorem ga_letter (ws : List Txt) (p l : Txt) {c : UInt8} (h : 97 ≤ c.toNat) : ga (ws, p, l) [c] = (ws, p, [c]) := by
  have e1 : ¬ c = 46 := by rintro rfl; exact absurd h (by decide)
  have e2 : ¬ c = 40 := by rintro rfl; exact absurd h (by decide)
  have e3 : ¬ c = 41 := by rintro rfl; exact absurd h (by decide)
  simp [ga, gstep, e1, e2, e3]

/-- the words of the first nodes -/
def wTo (t : List Nd) (ps : List Txt) (k : Nat) : List Txt := wds (t.take k) (ps.take k)

theorem ga_kids {t : List Nd} {ps : List Txt} (h : Tells t t.length ps) {f i b : Nat} {x : Txt} (hb : Behind t ps i b) (hx : ps[i]? = some x)
    (ih : ∀ (j c : Nat), i < j → Behind t ps j c → ∀ (y : Txt) (q : UInt8) (l : Txt), ps[j]? = some (y ++ [q]) → ga (wTo t ps j, y, l) (txtOf t f j) = (wTo t ps c, y, [q])) :
    ∀ (g k : Nat), t.length ≤ k + g → i < k → k ≤ b → KidAt t ps i k → (∃ l, ga (wTo t ps (i + 1), x, []) (txtKids t f i k) = (wTo t ps k, x, l)) →
      ∃ l, ga (wTo t ps (i + 1), x, []) (txtKids t f i t.length) = (wTo t ps b, x, l) := by
  intro g
  induction g with
  | zero =>
    intro k hg hik hkb _ hr
    have e1 : k = t.length := by have := hb.le; omega
    have e2 : b = t.length := by have := hb.le; omega
    rw [e1] at hr
    rw [e2]
    exact hr
  | succ g ihg =>
    intro k hg hik hkb hK hr
    by_cases hkl : k < t.length
    · obtain ⟨dk, y, hdk, hy⟩ := h.at hkl
      by_cases hp : dk.p = (i : Int)
      · obtain ⟨b2, hb2⟩ := behind_ex h hkl
        have hkb2 := hb2.lt
        obtain ⟨c, hyc⟩ := (par_iff h hx (by omega) hdk).1 hp
        have hb2b : b2 ≤ b := by
          by_cases hle : b2 ≤ b
          · exact hle
          · exfalso
            have hbl : b < t.length := by have := hb2.le; omega
            obtain ⟨_, z, _, hz⟩ := h.at hbl
            have hkb' : k ≠ b := by
              rintro rfl
              exact hb.stop x _ hx hyc (List.prefix_append _ _)
            have h1 := hb2.all _ hyc b z (by omega) (by omega) hz
            exact hb.stop x z hx hz ((List.prefix_append _ _).trans h1)
        have hkids : kidsTo t i b2 = kidsTo t i k ++ [k] := by
          rw [kidsTo_skip (k + 1) b2 (by omega) (fun m d h1 h2 h3 h4 => not_kid h hik hdk hp hb2 (by omega) h2 h3 h4.2), kidsTo_hit hdk hik hp]
        have e : txtKids t f i b2 = txtKids t f i k ++ txtOf t f k := by
          unfold txtKids
          rw [hkids, List.flatMap_append]
          simp
        refine ihg b2 (by omega) (by omega) hb2b (kidAt_next h hik hdk hp hb2) ?_
        obtain ⟨l, hl⟩ := hr
        exact ⟨[c], by rw [e, ga_app, hl]; exact ih k b2 hik hb2 x c l hyc⟩
      · have hsk : kidsTo t i t.length = kidsTo t i k := kidsTo_skip k t.length (by omega) (fun m d h1 h2 h3 h4 => no_more h hik hK hdk hp h1 h3 h4.2)
        have e : txtKids t f i t.length = txtKids t f i k := by unfold txtKids; rw [hsk]
        have ebk : b = k := by
          by_cases hlt : k < b
          · exfalso
            have h1 := hb.all x hx k y hik hlt hy
            exact hp (hK x y dk hx hy hdk h1)
          · omega
        rw [e, ebk]
        exact hr
    · have e1 : k = t.length := by have := hb.le; omega
      have e2 : b = t.length := by have := hb.le; omega
      rw [e1] at hr
      rw [e2]
      exact hr

/-- what is behind the head of a node -/
theorem ga_body {t : List Nd} {ps : List Txt} (h : Tells t t.length ps) {f i b : Nat} {p l : Txt} (hb : Behind t ps i b) (hx : ps[i]? = some (p ++ l)) (hl : l.length ≤ 1) (hpl : l = [] → p = [])
    (ih : ∀ (j c : Nat), i < j → Behind t ps j c → ∀ (y : Txt) (q : UInt8) (l : Txt), ps[j]? = some (y ++ [q]) → ga (wTo t ps j, y, l) (txtOf t f j) = (wTo t ps c, y, [q])) :
    ga (wTo t ps (i + 1), p, l) (if (kidsTo t i t.length).length = 0 then [] else [40] ++ (kidsTo t i t.length).flatMap (txtOf t f) ++ [41]) = (wTo t ps b, p, l) := by
  by_cases h0 : (kidsTo t i t.length).length = 0
  · rw [if_pos h0, ga_nil, behind_leaf h hb (List.eq_nil_of_length_eq_zero h0)]
  · rw [if_neg h0, ga_app, ga_app, ga_open]
    obtain ⟨l2, hk⟩ := ga_kids h hb hx ih t.length (i + 1) (by omega) (by omega) hb.lt (kidAt_first h i) ⟨[], by rw [txtKids_low, ga_nil]⟩
    unfold txtKids at hk
    rw [hk]
    cases l with
    | nil =>
      rw [hpl rfl, List.append_nil]
      exact ga_shut0 _ _
    | cons c r =>
      obtain rfl : r = [] := by simpa using hl
      exact ga_shut _ _ _ _

theorem ga_text {t : List Nd} {ps : List Txt} (h : Tells t t.length ps) : ∀ (f i b : Nat), t.length ≤ i + f → 1 ≤ i → Behind t ps i b → ∀ (y : Txt) (q : UInt8) (l : Txt), ps[i]? = some (y ++ [q]) → ga (wTo t ps i, y, l) (txtOf t f i) = (wTo t ps b, y, [q])
  | 0, i, b, hf, _, hb, y, q, l, hy => by have := (List.getElem?_eq_some_iff.1 hy).1; have := h.len; omega
  | f + 1, i, b, hf, h1, hb, y, q, l, hy => by
    have hi : i < t.length := by have := hb.lt; have := hb.le; omega
    obtain ⟨d, _, hd, _⟩ := h.at hi
    obtain ⟨j, x, c, hp, hj, hl, c0, c1, e1, e2⟩ := h.step i d h1 hi hd
    rw [hy] at e2
    have e3 := List.append_inj' (Option.some.inj e2) rfl
    obtain ⟨rfl, e4⟩ := e3
    obtain rfl : q = c := by simpa using e4
    have hlet : UInt8.ofNat (97 + d.l).toNat = q := by
      have : (97 + d.l).toNat = q.toNat := by omega
      rw [this]
      simp
    have hsu : wTo t ps (i + 1) = wTo t ps i ++ if d.e then [y ++ [q]] else [] := wds_succ h.len hd hy
    have hhead : ga (wTo t ps i, y, l) ((if i = 0 then [] else [UInt8.ofNat (97 + d.l).toNat]) ++ (if d.e then [46] else [])) = (wTo t ps (i + 1), y, [q]) := by
      rw [if_neg (by omega), hlet, ga_app, ga_letter _ _ _ c0, hsu]
      cases d.e with
      | false => rw [if_neg (by simp), ga_nil]; simp
      | true => rw [if_pos rfl, ga_dot]; simp
    have e : txtOf t (f + 1) i = ((if i = 0 then [] else [UInt8.ofNat (97 + d.l).toNat]) ++ (if d.e then [46] else [])) ++
        (if (kidsTo t i t.length).length = 0 then [] else [40] ++ (kidsTo t i t.length).flatMap (txtOf t f) ++ [41]) := by
      simp only [txtOf, hd]
    rw [e, ga_app, hhead]
    exact ga_body h hb hy (by simp) (by simp) (fun j c hj hbj y q l hy => ga_text h f j c (by omega) (by omega) hbj y q l hy)

/-- the words of the text of a valid trie are its words -/
theorem ga_whole {t : List Nd} {ps : List Txt} (hv : Valid t ps) : ∃ l, ga ([], [], []) (txtOf t t.length 0) = (wds t ps, [], l) := by
  have h := hv.tells
  obtain ⟨n, hn⟩ : ∃ n, t.length = n + 1 := ⟨t.length - 1, by have := h.pos; omega⟩
  obtain ⟨e, hr⟩ := h.root
  have e0 : txtOf t (n + 1) 0 = ((if e then [46] else [])) ++
      (if (kidsTo t 0 t.length).length = 0 then [] else [40] ++ (kidsTo t 0 t.length).flatMap (txtOf t n) ++ [41]) := by
    simp only [txtOf, hr, if_true, List.nil_append]
  have hsu : wTo t ps (0 + 1) = wTo t ps 0 ++ if e then [[]] else [] := wds_succ h.len hr h.nil
  have hw0 : wTo t ps 0 = [] := by simp [wTo, wds]
  have hhead : ga ([], [], []) (if e then [46] else []) = (wTo t ps (0 + 1), [], []) := by
    rw [hsu, hw0]
    cases e with
    | false => rw [if_neg (by simp), ga_nil]; rfl
    | true => rw [if_pos rfl, ga_dot]; rfl
  rw [hn, e0, ga_app, hhead]
  have := ga_body h (behind_all h) (p := []) (l := []) (f := n) h.nil (by simp) (fun _ => rfl) (fun j c hj hbj y q l hy => ga_text h n j c (by omega) (by omega) hbj y q l hy)
  refine ⟨[], ?_⟩
  rw [this]
  unfold wTo
  rw [List.take_length, List.take_of_length_le (by have := h.len; omega)]

end Go.Proofs.Ytjcaikfejgeknab
