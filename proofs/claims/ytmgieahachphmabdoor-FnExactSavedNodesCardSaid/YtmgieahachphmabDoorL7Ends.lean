/-
  The reference's labels of all nodes of a trie.
-/
import Derived.Test.YtmgieahachphmabDoorL7Alike
import Derived.Test.YtmgieahachphmabDoorL7Kids
import Derived.Deep.DeepCutAuto
import Derived.Deep.RegionHeld3
namespace Go.Proofs.YtmgieahachphmabDoor
open Go.RowKit
set_option linter.unusedVariables false

/-- a row that is made in a region that draws its order -/
theorem upon_make {P : Program} {w : World} {o : Oper} {ac : Act} {K : Act → World → Prop} {Q : Exit → Act → World → Prop} {kl kc : IntKind} {n : Nat} (t e : TypeId) (i : TypeInfo) (z : Value) (bytes : Nat) (ht : P.underlying t = some (.slice e)) (hi : P.info? e = some i) (hz : i.zero = some z) (hsize : i.size = 1) (hby : i.bytes = bytes) (hzc : z.cells = #[z]) (hb : bytes * n ≤ 281474976710656) (h63 : n ≤ maxLen)
    (h : ∀ w', w'.ownsRow w.heap.size e 1 (.slice (some ⟨w.heap.size, 0, none⟩) n n) n (List.replicate n z) → w.grownBy w' none → K (ac.put o.dst (.slice (some ⟨w.heap.size, 0, none⟩) n n)) w') :
    Oper.upon P o ac K Q (((Instr.makeSlice t (.int kl (n : Int)) (.int kc (n : Int))).run P w).andThen fun a w' => .ok (.value a) w') := by
  obtain ⟨w', hr, h1, h2⟩ := run_make_full (P := P) (w := w) w.heap.size t e i z 1 ht hi hz hsize kl kc n (by rw [hby]; exact hb) h63 (Nat.le_refl _)
  rw [hr]
  exact h w' (made_rep hzc h1) h2

/-- a block that none of the rows lies in -/
structure Far (g : Nat) (vs : List Value) (q : Nat) : Prop where
  ne : g ≠ q
  all : ∀ (i : Nat) (v : Value), vs[i]? = some v → v.ownBlock ≠ some q

section
variable {base g n q : Nat} {W W' : World} {vs : List Value} {ks : Nat → List Nat}
theorem RR.far (h : RR base W g n vs ks) (hq : q < base ∨ W.heap.size ≤ q) : Far g vs q := by
  refine ⟨fun e => ?_, fun i v hv e => ?_⟩
  · have := h.spot
    omega
  · have hi : i < n := by have := (List.getElem?_eq_some_iff.1 hv).1; have := h.out.1; omega
    obtain ⟨u, hu, hu2⟩ := h.row i hi
    rw [hv] at hu
    obtain rfl := Option.some.inj hu
    have := own_ge hu2 e
    omega

theorem RR.kept (h : RR base W g n vs ks) (F : Far g vs q) (hg : W.grownBy W' (some q)) : RR base W' g n vs ks :=
  ⟨h.out.kept hg (.inr (fun e => F.ne (by simpa [Value.ownBlock] using e))), fun i hi => by
    obtain ⟨v, h1, h2⟩ := h.row i hi
    exact ⟨v, h1, h2.kept hg (.inr (F.all i v h1))⟩, h.dis⟩
end

/-- the rows of kids and the row of labels -/
structure KE (W1 : World) (g q n : Nat) (vs : List Value) (ks : Nat → List Nat) (L : Nat → Nat) (W : World) : Prop where
  rr : RR W1.heap.size W g n vs ks
  far : Far g vs q
  row : W.ownsRow W1.heap.size 3 1 (.slice (some ⟨q, 0, none⟩) n n) n (lrow L n)
  bel : Below W1.heap.size W1 W

section
variable {W1 : World} {g q n : Nat} {vs : List Value} {ks : Nat → List Nat} {L : Nat → Nat} {W W' : World}
theorem KE.on (h : KE W1 g q n vs ks L W) (hb : Below W.heap.size W W') : KE W1 g q n vs ks L W' :=
  ⟨h.rr.on hb, h.far, own_stay h.row hb, h.bel.trans (hb.mono h.bel.size)⟩
theorem KE.set (h : KE W1 g q n vs ks L W) {i : Nat} (hi : i < n) (v : Nat) : KE W1 g q n vs ks (setL L i v) (W.setCell ⟨q, i, none⟩ (.int .i64 (v : Int))) := by
  have h1 := h.row.stored i (.int .i64 (v : Int))
  refine ⟨h.rr.kept h.far h1.2, h.far, ?_, h.bel.grown h1.2 h.bel.size (fun k e => ?_)⟩
  · have h2 := h1.1
    rw [lrow_set L n i v hi] at h2
    exact h2
  · have e2 : q = k := Option.some.inj e
    have h9 : W1.heap.size ≤ q ∧ q < W.heap.size := own_ge h.row rfl
    omega
theorem KE.at (h : KE W1 g q n vs ks L W) {i : Nat} (hi : i < n) : W.cell? ⟨q, i, none⟩ = some (.int .i64 ((L i : Nat) : Int)) ∧ W.frozen? ⟨q, i, none⟩ = false :=
  ⟨(h.row.cellAt i (by omega)).trans (lrow_at L hi), h.row.frozenAt i⟩
end

theorem lrow_zero (n : Nat) : lrow (fun _ => 0) n = List.replicate n (.int .i64 0) := by
  apply List.ext_getElem?
  intro j
  by_cases hj : j < n
  · rw [lrow_at _ hj, List.getElem?_replicate, if_pos hj]
    rfl
  · rw [List.getElem?_eq_none (by rw [lrow_len]; omega), List.getElem?_eq_none (by simp; omega)]

theorem labS_le (t : List Nd) : ∀ m j, m ≤ t.length → labS t m j ≤ t.length
  | 0, j, _ => Nat.zero_le _
  | m + 1, j, hm => by
    show setL (labS t m) (t.length - 1 - m) (pickS t (labS t m) (t.length - 1 - m) t.length) j ≤ t.length
    unfold setL
    split
    · rcases pickS_or t (labS t m) (t.length - 1 - m) t.length with ⟨h, _⟩ | h
      · rw [h]; omega
      · have := h.2.1; omega
    · exact labS_le t m j (by omega)

theorem setL_twice (L : Nat → Nat) (i u v : Nat) : setL (setL L i u) i v = setL L i v := by
  funext j
  unfold setL
  split <;> simp_all

theorem below_none {w w' : World} (h : w.grownBy w' none) : Below w.heap.size w w' := (Below.refl _ _).grown h (Nat.le_refl _) (fun k e => by cases e)

theorem KE.early {W1 w3 w2 : World} {g q n : Nat} {vs : List Value} {ks : Nat → List Nat} (hO3 : w3.ownsRow W1.heap.size 3 1 (.slice (some ⟨q, 0, none⟩) n n) n (List.replicate n (.int .i64 0))) (hb3 : Below W1.heap.size W1 w3) (hR2 : RR w3.heap.size w2 g n vs ks) (hb2 : Below w3.heap.size w3 w2) : KE W1 g q n vs ks (fun _ => 0) w2 :=
  ⟨hR2.down hb3.size, hR2.far (.inl (own_ge hO3 rfl).2), by rw [lrow_zero]; exact own_stay hO3 hb2, hb3.trans (hb2.mono hb3.size)⟩

theorem KE.late {W1 w3 w2 : World} {g n : Nat} {vs : List Value} {ks : Nat → List Nat} (hb2 : Below W1.heap.size W1 w2) (hR : RR W1.heap.size w2 g n vs ks) (hO3 : w3.ownsRow w2.heap.size 3 1 (.slice (some ⟨w2.heap.size, 0, none⟩) n n) n (List.replicate n (.int .i64 0))) (hg : w2.grownBy w3 none) : KE W1 g w2.heap.size n vs ks (fun _ => 0) w3 :=
  ⟨hR.on (below_none hg), hR.far (.inr (Nat.le_refl _)), by rw [lrow_zero]; exact own_down hO3 hb2.size, hb2.trans ((below_none hg).mono hb2.size)⟩

set_option maxRecDepth 1000000 in
set_option maxHeartbeats 4000000 in
theorem l7Ends_any (B : Nat) (a : Option Addr) (n c : Nat) (t : List Nd) (ps : List Txt) (hv : Valid t ps) (w : World) (hB : B ≤ w.heap.size) (h : Nds B w a n c t) :
    Calls Tryd.prog 50 #[.agg #[.slice a n c]] w fun e w' => ∃ g, e = .returned (.slice (some ⟨g, 0, none⟩) n n) ∧ w'.ownsRow w.heap.size 3 1 (.slice (some ⟨g, 0, none⟩) n n) n (lrow (lbS t) n) ∧ Below w.heap.size w w' := by
  have L := Lib.hid h.len
  have C := h.cap
  have T := h.top
  have HV := Lib.hid hv
  have hn481 : n ≤ 481 := by have := hv.size; have := h.len; omega
  have hn1 : 1 ≤ n := by have := hv.tells.pos; have := h.len; omega
  obtain ⟨j0, hji, hy0, hy1, hy2⟩ := info_parts infoI
  have hb1 : Below w.heap.size w (w.alloc (.cells #[.slice a n c] 33)) := (Below.refl _ _).alloc (Nat.le_refl _) _
  have hbx : (w.alloc (.cells #[.slice a n c] 33)).cell? ⟨w.heap.size, 0, none⟩ = some (.slice a n c) := by simp
  have hN1 := h.keep (hb1.mono hB)
  have HB1 := Lib.hid hb1
  have hsz1 : (w.alloc (.cells #[.slice a n c] 33)).heap.size = w.heap.size + 1 := by simp
  clear h
  go_enter Tryd.func50, Tryd.ntmps50
  go_upto_region 1 with fail
  obtain ⟨W1, hW1⟩ : ∃ W1, w.alloc (.cells #[.slice a n c] 33) = W1 := ⟨_, rfl⟩
  rw [hW1] at HB1 hN1 hsz1 hbx ⊢
  clear hW1 hb1
  have HN1 := Lib.hid hN1
  have hBW : B ≤ W1.heap.size := by omega
  have cK : Hid (∀ W, Below W1.heap.size W1 W → Calls Tryd.prog 65 #[.agg #[.slice a n c]] W fun e w' => ∃ g vs, e = .returned (.slice (some ⟨g, 0, none⟩) n n) ∧ RR W.heap.size w' g n vs (fun i => kidsTo t i n) ∧ Below W.heap.size W w') := Lib.hid (fun W hb => l7Kids_any B a n c t ps HV.out W (by have := hb.size; omega) (HN1.out.keep (hb.mono hBW)))
  have cA : Hid (∀ (W : World) (g q : Nat) (vs : List Value) (M : Nat → Nat) (i k : Nat), KE W1 g q n vs (fun i => kidsTo t i n) M W → (∀ j, j < n → M j ≤ 1000) → i < n → k < n → Calls Tryd.prog 79 #[.agg #[.slice a n c], .slice (some ⟨g, 0, none⟩) n n, .slice (some ⟨q, 0, none⟩) n n, .int .i64 (i : Int), .int .i64 (k : Int)] W fun e w' => e = .returned (.bool (decide (sg t M i = sg t M k))) ∧ Below W.heap.size W w') := Lib.hid (fun W g q vs M i k hK hM hi hk => l7Alike_any B W1.heap.size g q a n c t vs M i k W (by have := hK.bel.size; omega) (HN1.out.keep (hK.bel.mono hBW)) (by omega) hK.rr (Sl.of_own hK.row) hM hi hk)
  clear hN1 hv hB
  go_cut [3, 4] (fun s3 s4 wx => ∃ g q vs, s3 = .slice (some ⟨g, 0, none⟩) n n ∧ s4 = .slice (some ⟨q, 0, none⟩) n n ∧ Hid (KE W1 g q n vs (fun i => kidsTo t i n) (fun _ => 0) wx))
  case first =>
    have HBX : Hid (∀ W, Below W1.heap.size W1 W → W.cell? ⟨w.heap.size, 0, none⟩ = some (.slice a n c)) := Lib.hid (fun W hb => (hb.cell (p := ⟨w.heap.size, 0, none⟩) (by show w.heap.size < W1.heap.size; omega)).trans hbx)
    have h8 : 8 * n ≤ 281474976710656 := by omega
    have hmx : n ≤ maxLen := by unfold maxLen; omega
    have HD : Hid (Below W1.heap.size W1 W1.drew) := Lib.hid (Below.refl _ _).drew
    have HO : Hid (∀ w3, w3.ownsRow W1.drew.heap.size 3 1 (.slice (some ⟨W1.drew.heap.size, 0, none⟩) n n) n (List.replicate n (.int .i64 0)) → W1.drew.grownBy w3 none → w3.ownsRow W1.heap.size 3 1 (.slice (some ⟨W1.heap.size, 0, none⟩) n n) n (List.replicate n (.int .i64 0)) ∧ Below W1.heap.size W1 w3) := Lib.hid (fun w3 h1 h2 => ⟨h1, HD.out.trans (below_none h2)⟩)
    go_region_held3 (fun w' => w'.cell? ⟨w.heap.size, 0, none⟩ = some (.slice a n c))
      (first
        | exact HBX.out _ hK4.bel
        | exact HBX.out _ hb3
        | exact HBX.out _ hb2
        | exact hbx)
      (first
        | (go_at_call 65; (first
            | (refine (cK.out _ hb3).mono ?_; rintro e w2 ⟨g, vs, rfl, hR2, hb2⟩; have hK4 := KE.early hO3 hb3 hR2 hb2)
            | (refine (cK.out _ HD.out).mono ?_; rintro e w2 ⟨g, vs, rfl, hR2', hb2'⟩; have hb2 : Below W1.heap.size W1 w2 := HD.out.trans hb2'; have hR2 : RR W1.heap.size w2 g n vs (fun i => kidsTo t i n) := hR2')))
        | (refine upon_make 55 3 j0 (.int .i64 0) 8 Tryd.underlying55 hji hy0 hy1 hy2 rfl h8 hmx ?_; intro w3 hO3' hg3; (first
            | (have hK4 := KE.late hb2 hR2 hO3' hg3)
            | (obtain ⟨hO3, hb3⟩ := HO.out _ hO3' hg3))))
    all_goals
      go_wp2
      go_meet
      first
        | exact ⟨_, _, _, rfl, rfl, Lib.hid hK4⟩
        | exact ⟨_, _, _, rfl, by rw [← hsz1], Lib.hid hK4⟩
  case rest =>
    obtain ⟨g, q, vs, rfl, rfl, HK⟩ := hcut
    rename World => w3
    have HBX : Hid (∀ W, Below W1.heap.size W1 W → W.cell? ⟨w.heap.size, 0, none⟩ = some (.slice a n c)) := Lib.hid (fun W hb => (hb.cell (p := ⟨w.heap.size, 0, none⟩) (by show w.heap.size < W1.heap.size; omega)).trans hbx)
    have hW1s : w.heap.size ≤ W1.heap.size := by omega
    clear hbx cK hsz1 hBW
    go_wp2_with fail
    go_loopw [5, 6] (fun p5 p6 wr => ∃ r : Nat, r ≤ n ∧ p5 = .int .i64 ((r : Int) - 1) ∧ (∃ z : Value, p6 = z) ∧ Hid (KE W1 g q n vs (fun i => kidsTo t i n) (labS t (n - r)) wr)) (fun p5 _ _ => (intOf p5 + 1).toNat)
    case atStart => exact ⟨n, Nat.le_refl _, rfl, ⟨_, rfl⟩, Lib.hid (by rw [Nat.sub_self]; exact HK.out)⟩
    case round =>
      clear HK
      obtain ⟨r, hr, rfl, ⟨z, rfl⟩, HKr⟩ := hrel
      cases r with
      | zero =>
        have HF : Hid (KE W1 g q n vs (fun i => kidsTo t i n) (lbS t) ‹World›) := Lib.hid (by
          have h9 := HKr.out
          rw [Nat.sub_zero, ← L.out] at h9
          rw [← L.out]
          exact h9)
        go_wp2
        go_ret
        exact ⟨q, rfl, own_down HF.out.row hW1s, HB1.out.trans (HF.out.bel.mono hW1s)⟩
      | succ i =>
        have e1 : (((i + 1 : Nat) : Int) - 1) = (i : Int) := by omega
        rw [e1]
        clear e1
        have hi : i < n := by omega
        have HStep : Hid (∀ v, pickS t (labS t (n - (i + 1))) i n = v → labS t (n - i) = setL (labS t (n - (i + 1))) i v) := Lib.hid (fun v hv => by
          have e2 : n - i = (n - (i + 1)) + 1 := by omega
          have e3 : t.length - 1 - (n - (i + 1)) = i := by have := L.out; omega
          rw [e2]
          show setL (labS t (n - (i + 1))) (t.length - 1 - (n - (i + 1))) (pickS t (labS t (n - (i + 1))) (t.length - 1 - (n - (i + 1))) t.length) = _
          rw [e3, L.out, hv])
        have HLe : Hid (∀ j, j < n → labS t (n - (i + 1)) j ≤ 1000) := Lib.hid (fun j _ => Nat.le_trans (labS_le t _ j (by have := L.out; omega)) (by have := L.out; omega))
        obtain ⟨M, hM⟩ : ∃ M, labS t (n - (i + 1)) = M := ⟨_, rfl⟩
        obtain ⟨M', hM'⟩ : ∃ M', labS t (n - i) = M' := ⟨_, rfl⟩
        rw [hM] at HKr HStep HLe
        rw [hM'] at HStep
        have HM' := Lib.hid hM'
        clear hM hM'
        obtain ⟨hcD, hfz⟩ := HKr.out.at hi
        have HK2 := Lib.hid (HKr.out.set hi i)
        have hi0 : (0 : Int) ≤ (i : Int) := by omega
        have hi1 : (i : Int) < (n : Int) := by omega
        go_wp2_with fail
        obtain ⟨W2, hW2⟩ : ∃ W2, wr.setCell ⟨q, i, none⟩ (.int .i64 (i : Int)) = W2 := ⟨_, rfl⟩
        rw [hW2] at HK2 ⊢
        clear hW2 hcD hfz HKr
        go_loopw [6] (fun p6 wx => ∃ r2 : Nat, i + 1 ≤ r2 ∧ r2 ≤ n ∧ p6 = .int .i64 ((r2 : Int) - 1) ∧ Hid (∀ x, r2 ≤ x → x < n → ¬ hitS t M i x) ∧ Hid (KE W1 g q n vs (fun i => kidsTo t i n) (setL M i i) wx)) (fun p6 _ => (intOf p6 + 1).toNat)
        case atStart => exact ⟨n, by omega, Nat.le_refl _, rfl, Lib.hid (fun x h1 h2 => absurd h1 (by omega)), HK2⟩
        case round =>
          clear HK2
          obtain ⟨r2, hr1, hr2, rfl, HNo, HKx⟩ := hrel
          by_cases hlt : i + 1 < r2
          · obtain ⟨k, rfl⟩ : ∃ k, r2 = k + 1 := ⟨r2 - 1, by omega⟩
            have e1 : (((k + 1 : Nat) : Int) - 1) = (k : Int) := by omega
            rw [e1]
            clear e1
            have hik : (i : Int) < (k : Int) := by omega
            have hkn : k < n := by omega
            have hcK := (HKx.out.at hkn).1
            rw [setL_other M i (by omega)] at hcK
            have hk0 : (0 : Int) ≤ (k : Int) := by omega
            have hk1 : (k : Int) < (n : Int) := by omega
            have hbox := HBX.out _ HKx.out.bel
            by_cases hL : M k = k
            · rw [hL] at hcK
              have hkk : ((k : Int) == (k : Int)) = true := by simp
              obtain ⟨d, hd⟩ : ∃ d, decide (sg t M i = sg t M k) = d := ⟨_, rfl⟩
              have cA1 := Lib.hid (cA.out _ g q vs (setL M i i) i k HKx.out (fun j hj => by
                unfold setL
                split
                · omega
                · exact HLe.out j hj) hi hkn)
              rw [sg_set M i (Nat.le_refl i), sg_set M i (by omega), hd] at cA1
              have HD := Lib.hid hd
              have HLk := Lib.hid hL
              clear hd hL
              cases d with
              | true =>
                have HHit : Hid (M' = setL M i k) := Lib.hid (HStep.out k (pickS_hit ⟨by omega, by have := L.out; omega, HLk.out, of_decide_eq_true HD.out⟩ n hkn (fun x h1 h2 => HNo.out x h1 h2)))
                go_wp2_with (go_at_call 79; refine cA1.out.mono ?_; rintro e w5 ⟨rfl, hb5⟩; have HK5 := Lib.hid (HKx.out.on hb5); have hcF := HK5.out.at hi; have hcf1 := hcF.1; have hcf2 := hcF.2; clear hb5 hcF)
                exact ⟨⟨i, by omega, rfl, ⟨_, rfl⟩, Lib.hid (by
                  have h9 := HK5.out.set hi k
                  rw [setL_twice] at h9
                  rw [HM'.out, HHit.out]
                  exact h9)⟩, by simp only [intOf]; omega⟩
              | false =>
                go_wp2_with (go_at_call 79; refine cA1.out.mono ?_; rintro e w5 ⟨rfl, hb5⟩; have HK5 := Lib.hid (HKx.out.on hb5); clear hb5)
                exact ⟨⟨k, by omega, by omega, rfl, Lib.hid (fun x h1 h2 h => by
                  by_cases e : x = k
                  · subst e
                    exact absurd h.2.2.2 (of_decide_eq_false HD.out)
                  · exact HNo.out x (by omega) h2 h), HK5⟩, by simp only [intOf]; omega⟩
            · have hkk : (((M k : Nat) : Int) == (k : Int)) = false := by
                have : ((M k : Nat) : Int) ≠ (k : Int) := by omega
                simp [this]
              go_wp2_with fail
              exact ⟨⟨k, by omega, by omega, rfl, Lib.hid (fun x h1 h2 h => by
                by_cases e : x = k
                · subst e
                  exact absurd h.2.2.1 hL
                · exact HNo.out x (by omega) h2 h), HKx⟩, by simp only [intOf]; omega⟩
          · obtain rfl : r2 = i + 1 := by omega
            have e1 : (((i + 1 : Nat) : Int) - 1) = (i : Int) := by omega
            rw [e1]
            clear e1
            have HEnd : Hid (M' = setL M i i) := Lib.hid (HStep.out i (pickS_none n (fun x hx h => by
              by_cases hx2 : i + 1 ≤ x
              · exact HNo.out x hx2 hx h
              · have := h.1
                omega)))
            go_wp2_with fail
            exact ⟨⟨i, by omega, rfl, ⟨_, rfl⟩, Lib.hid (by
              rw [HM'.out, HEnd.out]
              exact HKx.out)⟩, by simp only [intOf]; omega⟩

end Go.Proofs.YtmgieahachphmabDoor
