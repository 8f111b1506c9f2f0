/-
  All words of two tries: both functions.
-/
import Derived.Test.YtoofpgehkihbcadGv2
import Derived.Test.YtoofpgehkihbcadBelW
import Derived.Test.YtoofpgehkihbcadConcat
namespace Go.Proofs.Ytoofpgehkihbcad
open Go.RowKit
set_option linter.unusedVariables false

noncomputable def joinL (t u : List Nd) : List Txt := wordsOf t ++ wordsOf u

set_option maxRecDepth 1000000 in
set_option maxHeartbeats 2000000 in
theorem specJoinTries_any (a : Option Addr) (n c : Nat) (t : List Nd) (b : Option Addr) (k d : Nat) (u : List Nd) (W : World) (hN : Nds W.heap.size W a n c t) (hM : Nds W.heap.size W b k d u) (hn : n ≤ 1048576) (hk : k ≤ 1048576) :
    Calls Try.prog 17 #[.agg #[.slice a n c], .agg #[.slice b k d]] W (ReadRes W (resT (trieB t && trieB u) (joinL t u)) (resK (trieB t && trieB u) (joinL t u))) := by
  have G1 := Lib.hid (Gv2R.start hN hM)
  have cT := Lib.hid (fun (W' : World) (G : Gv2R W W' a n c t b k d u) => l5Two_any W.heap.size a n c t b k d u W' G.size G.gv.nds G.gv.mds hn hk)
  have cA := Lib.hid (fun (W' : World) (G : Gv2R W W' a n c t b k d u) (ht : IsT t) => l2Words_ownW W.heap.size a n c t W' G.size G.gv.nds hn ht)
  have cB := Lib.hid (fun (W' : World) (G : Gv2R W W' a n c t b k d u) (ht : IsT u) => l2Words_ownW W.heap.size b k d u W' G.size G.gv.mds hk ht)
  have h40 := wordsOf_size t
  have h41 := wordsOf_size u
  obtain ⟨r, hr⟩ : ∃ r, (trieB t && trieB u) = r := ⟨_, rfl⟩
  have HR := Lib.hid hr
  rw [hr] at cT ⊢
  have HSh : Hid (∀ x ∈ joinL t u, x.length ≤ 9223372036854775807) := Lib.hid (fun x hx => by
    rcases List.mem_append.1 hx with hx | hx
    · have := wordsOf_short t x hx; omega
    · have := wordsOf_short u x hx; omega)
  have HMap : Hid ((wordsOf t).map (fun x => Value.string (bx x)) ++ (wordsOf u).map (fun x => Value.string (bx x)) = (joinL t u).map (fun x => Value.string (bx x))) := Lib.hid (by unfold joinL; rw [List.map_append])
  have HLn : Hid ((joinL t u).length = (wordsOf t).length + (wordsOf u).length) := Lib.hid (by unfold joinL; rw [List.length_append])
  obtain ⟨ws, hws⟩ : ∃ ws, wordsOf t = ws := ⟨_, rfl⟩
  obtain ⟨us, hus⟩ : ∃ us, wordsOf u = us := ⟨_, rfl⟩
  obtain ⟨xs, hxs⟩ : ∃ xs, joinL t u = xs := ⟨_, rfl⟩
  rw [hws] at cA h40 HMap HLn
  rw [hus] at cB h41 HMap HLn
  rw [hxs] at HSh HMap HLn ⊢
  obtain ⟨m1, hm1⟩ : ∃ m, ws.length = m := ⟨_, rfl⟩
  obtain ⟨m2, hm2⟩ : ∃ m, us.length = m := ⟨_, rfl⟩
  rw [hm1] at cA h40 HLn
  rw [hm2] at cB h41 HLn
  obtain ⟨tt, htt⟩ : ∃ tt, resT r xs = tt := ⟨_, rfl⟩
  obtain ⟨ok, hok⟩ : ∃ ok, resK r xs = ok := ⟨_, rfl⟩
  rw [htt, hok]
  have HTT := Lib.hid htt
  have HOK := Lib.hid hok
  have HL1 := Lib.hid hm1
  have HL2 := Lib.hid hm2
  clear hN hM hr hws hus hxs htt hok hm1 hm2
  obtain ⟨hbx, hby⟩ := G1.out.see
  obtain ⟨i0, hii, hz0, hz1, hz2⟩ := info_parts infoS
  go_enter Try.func17, Try.ntmps17
  go_wp2_with fail
  refine (cT.out _ G1.out).mono ?_
  rintro e w2 ⟨rfl, hb2⟩
  have G2 := Lib.hid (G1.out.on hb2)
  clear hbx hby hb2
  obtain ⟨hbx, hby⟩ := G2.out.see
  cases r with
  | false =>
    obtain rfl : tt = [] := HTT.out.symm
    obtain rfl : ok = false := HOK.out.symm
    have hrc := G2.out.res.cell
    have hrf := G2.out.res.frozen
    go_wp2_with fail
    exact bodyPost_ret (v := .tuple #[.agg #[.slice none 0 0], .bool false]) (by simp [results, Try.results17, go_sem, hrc]) rfl G2.out.readNo
  | true =>
    have HIt : Hid (IsT t ∧ IsT u) := Lib.hid (by
      have := HR.out
      rw [Bool.and_eq_true] at this
      exact ⟨trieB_iff.1 this.1, trieB_iff.1 this.2⟩)
    have cM : Hid (∀ (W' W'' : World) (v : Value), W'.heap.size ≤ W''.heap.size → W''.ownsRow W'.heap.size 9 1 v (m1 + m2) (ws.map (fun x => Value.string (bx x)) ++ us.map (fun x => Value.string (bx x))) → Calls Try.prog 31 #[v] W'' (ReadRes W'' tt ok)) := Lib.hid (fun W' W'' v hs hO => by
      rw [HMap.out, ← HLn.out] at hO
      obtain ⟨a5, c5, rfl, hW5⟩ := own_wds hO HSh.out
      rw [← HTT.out, ← HOK.out, (resT_yes xs).1, (resT_yes xs).2]
      exact l5Made_any W''.heap.size a5 _ c5 xs W'' (Nat.le_refl _) hW5 (by rw [HLn.out]; omega))
    have HOne1 : Hid (∀ u ∈ ws.map (fun x => Value.string (bx x)), u.oneCell' = true) := Lib.hid (fun u hu => by obtain ⟨x, _, rfl⟩ := List.mem_map.1 hu; rfl)
    have HOne2 : Hid (∀ q ∈ us.map (fun x => Value.string (bx x)), q.oneCell' = true) := Lib.hid (fun u hu => by obtain ⟨x, _, rfl⟩ := List.mem_map.1 hu; rfl)
    have HSh2 : Hid (∀ x ∈ us, x.length ≤ 9223372036854775807) := Lib.hid (fun x hx => HSh.out x (by
      have e : (ws ++ us).map (fun x => Value.string (bx x)) = xs.map (fun x => Value.string (bx x)) := by rw [List.map_append]; exact HMap.out
      have h3 : Value.string (bx x) ∈ xs.map (fun x => Value.string (bx x)) := by
        rw [← e]
        exact List.mem_map.2 ⟨x, List.mem_append.2 (.inr hx), rfl⟩
      obtain ⟨y, hy, hq⟩ := List.mem_map.1 h3
      injection hq with hq
      rw [← bx_inj hq]
      exact hy))
    have HGd : Hid (Gv2R W w2.drew a n c t b k d u) := Lib.hid (G2.out.on (Below.refl _ _).drew)
    go_wp2_with fail
    go_region_held3 (fun w' => w'.cell? ⟨W.heap.size, 0, none⟩ = some (.slice a n c) ∧ w'.cell? ⟨W.heap.size + 1, 0, none⟩ = some (.slice b k d))
      (first
        | with_reducible exact (hG6.gv.set _).see
        | with_reducible exact hG6.see
        | with_reducible exact hG5.see
        | with_reducible exact hG4.see
        | with_reducible exact hG3.see
        | with_reducible exact HGd.out.see)
      (first
        | (have hg := hG3; clear hg; go_at_call 26; refine (cB.out _ hG3 HIt.out.2).mono ?_; rintro e w4 ⟨v4, rfl, hO4, hb4⟩; have hG4 := hG3.on hb4; have hq4 := hq3.trans (hb4.mono hq3.size); obtain ⟨a4, c4, rfl, hW4⟩ := own_wds hO4 HSh2.out; have hO34 := own_stay hO3 hb4; clear hb4)
        | (go_at_call 26; refine (cA.out _ HGd.out HIt.out.1).mono ?_; rintro e w3 ⟨v3, rfl, hO3, hb3⟩; have hG3 := HGd.out.on hb3; have hq3 := hb3; clear hb3)
        | (refine step_append_sl (by rfl) _ _ 43 (by rfl) w2.drew.heap.size 9 i0 (.string ByteArray.empty) 16 Try.underlying43 hii hz0 hz1 hz2 (by rfl) _ _ _ (by rfl) (by exact hO34) (by rfl) (by have h9 := hW4.sl; rw [List.map_map] at h9; exact h9) HOne2.out (by unfold maxLen; omega) (by omega) (by exact hq4.size) ?_; intro v5 w5 hO5 hG5'; have hq5 := hq4.trans (below_grown hO34 (Nat.le_refl _) hq4.size hG5'); have hG5 := HGd.out.on hq5)
        | (go_at_call 31; refine (cM.out w2.drew _ _ (by exact hq5.size) (by exact hO5)).mono ?_; rintro e w6 ⟨a6, c6, rfl, hN6, hb6⟩; have hG6 := hG5.on hb6; have hrc := hG6.res.cell; have hrf := hG6.res.frozen))
    go_wp2
    exact bodyPost_ret (v := .tuple #[.agg #[.slice a6 tt.length c6], .bool ok]) (by simp [results, Try.results17, go_sem, hrc]) rfl (hG6.read hN6)

/-- all words of a valid trie, owned -/
theorem wordsBelow0_any (B : Nat) (a : Option Addr) (n c : Nat) (t : List Nd) (w : World) (hB : B ≤ w.heap.size) (h : Nds B w a n c t) (ht : IsT t) :
    Calls Try.prog 39 #[.agg #[.slice a n c], .int .i64 0] w fun e w' => ∃ v, e = .returned v ∧ w'.ownsRow w.heap.size 9 1 v (wordsOf t).length ((wordsOf t).map (fun x => Value.string (bx x))) ∧ Below w.heap.size w w' := by
  obtain ⟨ps, hv⟩ := ht
  have h1 := (isT_size ⟨ps, hv⟩).1
  refine (wordsBelow_any B a n c 0 t ps w hB h hv (by have := h.len; omega)).mono ?_
  rintro e w' ⟨v, b, h1, h2, h3, h4⟩
  rw [behind_root hv.tells h2, midw_all hv.lenEq, ← wordsOf_eq hv] at h3
  exact ⟨v, h1, h3, h4⟩

set_option maxRecDepth 1000000 in
set_option maxHeartbeats 2000000 in
theorem implJoinTries_any (a : Option Addr) (n c : Nat) (t : List Nd) (b : Option Addr) (k d : Nat) (u : List Nd) (W : World) (hN : Nds W.heap.size W a n c t) (hM : Nds W.heap.size W b k d u) :
    Calls Try.prog 18 #[.agg #[.slice a n c], .agg #[.slice b k d]] W (TrieRes W (resT (trieB t && trieB u) (joinL t u)) (resK (trieB t && trieB u) (joinL t u))) := by
  have G1 := Lib.hid (Gv2R.start hN hM)
  have cT := Lib.hid (fun (W' : World) (G : Gv2R W W' a n c t b k d u) => areTries_any W.heap.size a n c t b k d u W' G.size G.gv.nds G.gv.mds)
  have cA := Lib.hid (fun (W' : World) (G : Gv2R W W' a n c t b k d u) (ht : IsT t) => wordsBelow0_any W.heap.size a n c t W' G.size G.gv.nds ht)
  have cB := Lib.hid (fun (W' : World) (G : Gv2R W W' a n c t b k d u) (ht : IsT u) => wordsBelow0_any W.heap.size b k d u W' G.size G.gv.mds ht)
  have h40 := wordsOf_size t
  have h41 := wordsOf_size u
  obtain ⟨r, hr⟩ : ∃ r, (trieB t && trieB u) = r := ⟨_, rfl⟩
  have HR := Lib.hid hr
  rw [hr] at cT ⊢
  have HSh : Hid (∀ x ∈ joinL t u, x.length ≤ 9223372036854775807) := Lib.hid (fun x hx => by
    rcases List.mem_append.1 hx with hx | hx
    · have := wordsOf_short t x hx; omega
    · have := wordsOf_short u x hx; omega)
  have HSh1 : Hid (∀ x ∈ wordsOf t, x.length ≤ 9223372036854775807) := Lib.hid (fun x hx => by have := wordsOf_short t x hx; omega)
  have HSh2 : Hid (∀ x ∈ wordsOf u, x.length ≤ 9223372036854775807) := Lib.hid (fun x hx => by have := wordsOf_short u x hx; omega)
  have HMap : Hid ((wordsOf t).map (fun x => Value.string (bx x)) ++ (wordsOf u).map (fun x => Value.string (bx x)) = (joinL t u).map (fun x => Value.string (bx x))) := Lib.hid (by unfold joinL; rw [List.map_append])
  have HLn : Hid ((joinL t u).length = (wordsOf t).length + (wordsOf u).length) := Lib.hid (by unfold joinL; rw [List.length_append])
  obtain ⟨ws, hws⟩ : ∃ ws, wordsOf t = ws := ⟨_, rfl⟩
  obtain ⟨us, hus⟩ : ∃ us, wordsOf u = us := ⟨_, rfl⟩
  obtain ⟨xs, hxs⟩ : ∃ xs, joinL t u = xs := ⟨_, rfl⟩
  rw [hws] at cA h40 HMap HLn HSh1
  rw [hus] at cB h41 HMap HLn HSh2
  rw [hxs] at HSh HMap HLn ⊢
  obtain ⟨m1, hm1⟩ : ∃ m, ws.length = m := ⟨_, rfl⟩
  obtain ⟨m2, hm2⟩ : ∃ m, us.length = m := ⟨_, rfl⟩
  rw [hm1] at cA h40 HLn
  rw [hm2] at cB h41 HLn
  obtain ⟨tt, htt⟩ : ∃ tt, resT r xs = tt := ⟨_, rfl⟩
  obtain ⟨ok, hok⟩ : ∃ ok, resK r xs = ok := ⟨_, rfl⟩
  rw [htt, hok]
  have HTT := Lib.hid htt
  have HOK := Lib.hid hok
  clear hN hM hr hws hus hxs htt hok hm1 hm2
  obtain ⟨hbx, hby⟩ := G1.out.see
  go_enter Try.func18, Try.ntmps18
  go_wp2_with fail
  refine (cT.out _ G1.out).mono ?_
  rintro e w2 ⟨rfl, hb2⟩
  have G2 := Lib.hid (G1.out.on hb2)
  clear hbx hby hb2
  obtain ⟨hbx, hby⟩ := G2.out.see
  cases r with
  | false =>
    obtain rfl : tt = [] := HTT.out.symm
    obtain rfl : ok = false := HOK.out.symm
    have hrc := G2.out.res.cell
    have hrf := G2.out.res.frozen
    go_wp2_with fail
    exact bodyPost_ret (v := .tuple #[.agg #[.slice none 0 0], .bool false]) (by simp [results, Try.results18, go_sem, hrc]) rfl G2.out.ownNo
  | true =>
    have HIt : Hid (IsT t ∧ IsT u) := Lib.hid (by
      have := HR.out
      rw [Bool.and_eq_true] at this
      exact ⟨trieB_iff.1 this.1, trieB_iff.1 this.2⟩)
    have cM : Hid (∀ (W' W'' : World) (v : Value), W'.heap.size ≤ W''.heap.size → W''.ownsRow W'.heap.size 9 1 v (m1 + m2) (ws.map (fun x => Value.string (bx x)) ++ us.map (fun x => Value.string (bx x))) → Calls Try.prog 37 #[v] W'' (TrieRes W'' tt ok)) := Lib.hid (fun W' W'' v hs hO => by
      rw [HMap.out, ← HLn.out] at hO
      obtain ⟨a5, c5, rfl, hW5⟩ := own_wds hO HSh.out
      rw [← HTT.out, ← HOK.out, (resT_yes xs).1, (resT_yes xs).2]
      exact implTrieOf_any W''.heap.size a5 _ c5 xs W'' (Nat.le_refl _) hW5)
    have HOne1 : Hid (∀ u ∈ ws.map (fun x => Value.string (bx x)), u.oneCell' = true) := Lib.hid (fun u hu => by obtain ⟨x, _, rfl⟩ := List.mem_map.1 hu; rfl)
    have HOne2 : Hid (∀ q ∈ us.map (fun x => Value.string (bx x)), q.oneCell' = true) := Lib.hid (fun u hu => by obtain ⟨x, _, rfl⟩ := List.mem_map.1 hu; rfl)
    have cCat : Hid (∀ (W' : World) (a3 a4 : Option Addr) (c3 c4 : Nat), Wds W'.heap.size W' a3 m1 c3 ws → Wds W'.heap.size W' a4 m2 c4 us → Calls Try.prog 38 #[.slice (some ⟨W'.heap.size, 0, none⟩) 2 2] (W'.alloc (.cells #[.slice a3 m1 c3, .slice a4 m2 c4] 43)) fun e w' => ∃ v, e = .returned v ∧ w'.ownsRow W'.heap.size 9 1 v (m1 + m2) (ws.map (fun x => Value.string (bx x)) ++ us.map (fun x => Value.string (bx x))) ∧ Below W'.heap.size W' w') := Lib.hid (fun W' a3 a4 c3 c4 h3 h4 => by
      have hb : Below W'.heap.size W' (W'.alloc (.cells #[.slice a3 m1 c3, .slice a4 m2 c4] 43)) := (Below.refl _ _).alloc (Nat.le_refl _) _
      have s3 := (h3.keep hb).sl
      have s4 := (h4.keep hb).sl
      rw [List.map_map] at s3 s4
      refine (concat2_any W'.heap.size W'.heap.size m1 c3 m2 c4 a3 a4 _ _ (W'.alloc (.cells #[.slice a3 m1 c3, .slice a4 m2 c4] 43)) hb.size (by simp) s3 s4 (by simp) (by simp) HOne1.out HOne2.out (by omega) (by omega)).mono ?_
      rintro e w' ⟨v, h1, h2, h5⟩
      exact ⟨v, h1, own_down h2 hb.size, hb.trans (h5.mono hb.size)⟩)
    have HGd : Hid (Gv2R W w2.drew a n c t b k d u) := Lib.hid (G2.out.on (Below.refl _ _).drew)
    go_wp2_with fail
    go_region_held3 (fun w' => w'.cell? ⟨W.heap.size, 0, none⟩ = some (.slice a n c) ∧ w'.cell? ⟨W.heap.size + 1, 0, none⟩ = some (.slice b k d))
      (first
        | with_reducible exact (hG6.gv.set _).see
        | with_reducible exact hG6.see
        | with_reducible exact hG5.see
        | with_reducible exact (hG4.on ((Below.refl _ _).alloc (Nat.le_refl _) _)).see
        | with_reducible exact hG4.see
        | with_reducible exact hG3.see
        | with_reducible exact HGd.out.see)
      (first
        | (have hg := hG3; clear hg; go_at_call 39; refine (cB.out _ hG3 HIt.out.2).mono ?_; rintro e w4 ⟨v4, rfl, hO4, hb4⟩; have hG4 := hG3.on hb4; obtain ⟨a4, c4, rfl, hW4⟩ := own_wds hO4 HSh2.out; have hW34 := (hW3.keep hb4).mono hb4.size; clear hb4 hO4)
        | (go_at_call 39; refine (cA.out _ HGd.out HIt.out.1).mono ?_; rintro e w3 ⟨v3, rfl, hO3, hb3⟩; have hG3 := HGd.out.on hb3; obtain ⟨a3, c3, rfl, hW3⟩ := own_wds hO3 HSh1.out; clear hb3 hO3)
        | (go_at_call 38; refine (cCat.out _ _ _ _ _ hW34 hW4).mono ?_; rintro e w5 ⟨v5, rfl, hO5, hb5⟩; have hG5 := hG4.on hb5; have hq5 := hb5.size; clear hb5)
        | (go_at_call 37; refine (cM.out _ _ _ (by exact hq5) (by exact hO5)).mono ?_; rintro e w6 ⟨v6, rfl, hO6, hb6⟩; obtain ⟨a6, c6, rfl⟩ := own_slice hO6; have hG6 := hG5.on hb6; have hrc := hG6.res.cell; have hrf := hG6.res.frozen))
    go_wp2
    exact bodyPost_ret (v := .tuple #[.agg #[.slice a6 tt.length c6], .bool ok]) (by simp [results, Try.results18, go_sem, hrc]) rfl (hG6.own hO6 hG5.size)

theorem agreeJoinTries (t u : List Nd) (n k : Nat) (hn : n ≤ 1048576) (hk : k ≤ 1048576) : ∃ (tt : List Nd) (ok : Bool), Fits tt ∧ tt.length ≤ 481 ∧
    (∀ (W : World) (a b : Option Addr), Nds W.heap.size W a n n t → Nds W.heap.size W b k k u → Calls Try.prog 17 #[.agg #[.slice a n n], .agg #[.slice b k k]] W (ReadRes W tt ok)) ∧
    (∀ (W : World) (a b : Option Addr), Nds W.heap.size W a n n t → Nds W.heap.size W b k k u → Calls Try.prog 18 #[.agg #[.slice a n n], .agg #[.slice b k k]] W (TrieRes W tt ok)) :=
  ⟨_, _, resT_fits _ _, resT_len _ _, fun W a b hN hM => specJoinTries_any a n n t b k k u W hN hM hn hk, fun W a b hN hM => implJoinTries_any a n n t b k k u W hN hM⟩

end Go.Proofs.Ytoofpgehkihbcad
