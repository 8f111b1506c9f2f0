import Derived.Test.YtmgieahachphmabDoorL7Alike
import Derived.Test.YtmgieahachphmabDoorL7Ends
import Derived.Test.YtmgieahachphmabDoorL7Kids
import Derived.Test.YtmgieahachphmabDoorEdgesAt
import Derived.RangeFuncBox
import Derived.Deep.QuietTactic
import Derived.BigQuiet
import Derived.Deep.DeepCutAuto
import Derived.Test.YtmgieahachphmabDoorSA
import Derived.Test.YtmgieahachphmabDoorIsTrie
import Derived.Deep.RegionHeld3
import Derived.Deep.Fields

/-
  The places of labels in the order in which they come first: plain mathematics, and rows of numbers.
-/
namespace Go.Proofs.YtmgieahachphmabDoor
open Go.RowKit
set_option linter.unusedVariables false

/-- the place of a label among those of the first k nodes, or -1 -/
def plcL (L : Nat → Nat) (k x : Nat) : Int := if x ∈ ordL L k then ((ordL L k).idxOf x : Int) else -1
theorem plcL_zero (L : Nat → Nat) (x : Nat) : plcL L 0 x = -1 := by unfold plcL; rw [if_neg (by simp [ordL])]
theorem plcL_neg (L : Nat → Nat) (k x : Nat) : plcL L k x < 0 ↔ x ∉ ordL L k := by
  unfold plcL
  split
  · next h => exact ⟨fun h' => by omega, fun h' => absurd h h'⟩
  · next h => exact ⟨fun _ => h, fun _ => by omega⟩
theorem plcL_old {L : Nat → Nat} {k : Nat} (h : L k ∈ ordL L k) (x : Nat) : plcL L (k + 1) x = plcL L k x := by
  unfold plcL
  rw [ordL_succ, if_pos h]
theorem plcL_new {L : Nat → Nat} {k : Nat} (h : L k ∉ ordL L k) (x : Nat) : plcL L (k + 1) x = if x = L k then ((ordL L k).length : Int) else plcL L k x := by
  unfold plcL
  rw [ordL_succ, if_neg h]
  by_cases e : x = L k
  · subst e
    rw [if_pos rfl, if_pos (by simp), idx_new h]
  · rw [if_neg e]
    by_cases hx : x ∈ ordL L k
    · rw [if_pos (List.mem_append_left _ hx), if_pos hx, List.idxOf_append, if_pos hx]
    · rw [if_neg (by rw [List.mem_append, List.mem_singleton]; rintro (h | h) <;> contradiction), if_neg hx]
theorem many_new {L : Nat → Nat} {k : Nat} (h : L k ∉ ordL L k) : (ordL L (k + 1)).length = (ordL L k).length + 1 := by
  rw [ordL_succ, if_neg h]; simp
theorem many_old {L : Nat → Nat} {k : Nat} (h : L k ∈ ordL L k) : (ordL L (k + 1)).length = (ordL L k).length := by
  rw [ordL_succ, if_pos h]
theorem plcL_all {L : Nat → Nat} {n i : Nat} (h : i < n) : plcL L n (L i) = (numL L n (L i) : Int) := by
  unfold plcL numL
  rw [if_pos ((ordL_mem L n _).2 ⟨i, h, rfl⟩)]
/-- at a node the label is new just if its number is how many have come before -/
theorem num_new {L : Nat → Nat} {n i : Nat} (h : i < n) : numL L n (L i) = (ordL L i).length ↔ L i ∉ ordL L i := by
  unfold numL
  by_cases hm : L i ∈ ordL L i
  · rw [idx_pre (ordL_pre L i n (by omega)) hm]
    have := List.idxOf_lt_length_iff.2 hm
    exact ⟨fun e => by omega, fun e => absurd hm e⟩
  · have h1 : L i ∈ ordL L (i + 1) := (ordL_mem L (i + 1) _).2 ⟨i, by omega, rfl⟩
    rw [idx_pre (ordL_pre L (i + 1) n (by omega)) h1, ordL_succ, if_neg hm, idx_new hm]
    exact ⟨fun _ => hm, fun _ => rfl⟩

/-- a row of numbers, which may be below zero -/
def zrow (f : Nat → Int) (n : Nat) : List Value := (List.range n).map fun k => Value.int .i64 (f k)
theorem zrow_len (f : Nat → Int) (n : Nat) : (zrow f n).length = n := by simp [zrow]
theorem zrow_at (f : Nat → Int) {n k : Nat} (h : k < n) : (zrow f n)[k]? = some (.int .i64 (f k)) := by
  unfold zrow
  rw [List.getElem?_map, List.getElem?_range h]
  rfl
theorem zrow_set (f : Nat → Int) (n i : Nat) (v : Int) (h : i < n) : (zrow f n).set i (.int .i64 v) = zrow (fun j => if j = i then v else f j) n := by
  apply List.ext_getElem?
  intro j
  by_cases e : i = j
  · subst e
    rw [List.getElem?_set_self (by rw [zrow_len]; exact h), zrow_at _ h, if_pos rfl]
  · rw [List.getElem?_set_ne e]
    by_cases hj : j < n
    · rw [zrow_at _ hj, zrow_at _ hj, if_neg (fun h => e h.symm)]
    · rw [List.getElem?_eq_none (by rw [zrow_len]; omega), List.getElem?_eq_none (by rw [zrow_len]; omega)]
theorem zrow_zero (n : Nat) : zrow (fun _ => 0) n = List.replicate n (.int .i64 0) := by
  apply List.ext_getElem?
  intro j
  by_cases hj : j < n
  · rw [zrow_at _ hj, List.getElem?_replicate, if_pos hj]
  · rw [List.getElem?_eq_none (by rw [zrow_len]; omega), List.getElem?_eq_none (by simp; omega)]
theorem zrow_congr {f g : Nat → Int} {n : Nat} (h : ∀ j, j < n → f j = g j) : zrow f n = zrow g n :=
  List.map_congr_left fun j hj => by rw [h j (List.mem_range.1 hj)]
theorem lbS_lt (t : List Nd) {i : Nat} (h : i < t.length) : lbS t i < t.length := ((labS_ok t t.length (Nat.le_refl _)).up i (by omega) h).2.1

end Go.Proofs.YtmgieahachphmabDoor

/-
  The reference's machine of a trie: how many states it tells.
-/
namespace Go.Proofs.YtmgieahachphmabDoor
open Go.RowKit
set_option linter.unusedVariables false

theorem infoS7 : (Tryd.prog.info? 82).map (fun i => (i.zero, i.size, i.bytes)) = some (some (.agg #[.bool false, .slice none 0 0]), 2, 32) := by kernel_rfl

/-- the rows of kids and the row of labels -/
structure KL (W1 : World) (g q n : Nat) (vs : List Value) (ks : Nat → List Nat) (L : Nat → Nat) (W : World) : Prop where
  rr : RR W1.heap.size W g n vs ks
  row : W.ownsRow W1.heap.size 3 1 (.slice (some ⟨q, 0, none⟩) n n) n (lrow L n)
  bel : Below W1.heap.size W1 W
theorem KL.on {W1 W W' : World} {g q n : Nat} {vs : List Value} {ks : Nat → List Nat} {L : Nat → Nat} (h : KL W1 g q n vs ks L W) (hb : Below W.heap.size W W') : KL W1 g q n vs ks L W' :=
  ⟨h.rr.on hb, own_stay h.row hb, h.bel.trans (hb.mono h.bel.size)⟩

/-- the row of places -/
structure MQ (w3 : World) (n : Nat) (f : Nat → Int) (W : World) : Prop where
  bel : Below w3.heap.size w3 W
  place : W.ownsRow w3.heap.size 3 1 (.slice (some ⟨w3.heap.size, 0, none⟩) n n) n (zrow f n)
section
variable {w3 W W' : World} {n : Nat} {f : Nat → Int}
theorem MQ.on (h : MQ w3 n f W) (hb : Below W.heap.size W W') : MQ w3 n f W' := ⟨h.bel.trans (hb.mono h.bel.size), own_stay h.place hb⟩
theorem MQ.cong {f' : Nat → Int} (h : MQ w3 n f W) (e : ∀ j, j < n → f j = f' j) : MQ w3 n f' W := ⟨h.bel, by rw [← zrow_congr e]; exact h.place⟩
theorem MQ.at (h : MQ w3 n f W) {i : Nat} (hi : i < n) : W.cell? ⟨w3.heap.size, i, none⟩ = some (.int .i64 (f i)) ∧ W.frozen? ⟨w3.heap.size, i, none⟩ = false :=
  ⟨(h.place.cellAt i (by omega)).trans (zrow_at f hi), h.place.frozenAt i⟩
theorem MQ.set (h : MQ w3 n f W) {i : Nat} (hi : i < n) (v : Int) : MQ w3 n (fun j => if j = i then v else f j) (W.setCell ⟨w3.heap.size, i, none⟩ (.int .i64 v)) := by
  have h1 := h.place.stored i (.int .i64 v)
  refine ⟨h.bel.setCell (p := ⟨w3.heap.size, i, none⟩) (Nat.le_refl _) _, ?_⟩
  have h2 := h1.1
  rw [zrow_set f n i v hi] at h2
  exact h2
end

theorem take_at {P : Program} {md : Region.Mode} {ops : Array Oper} {Q : Exit → Act → World → Prop} {S : World → Prop} {i : Nat} {oi : Oper} {v : Value} {fuel : Nat} {listed : Array Bool} {a : Act} {w : World} (dst : Option Tmp) (hi : ops[i]? = some oi) (hd : oi.dst = dst)
    (hs : Region.noSelect ops = true) (hf : Region.free md ops listed i = true) (hr : (Region.ready md ops listed).contains i = true)
    (hQ : ∀ c a w, Q (.panic c) (a.put dst v) w → Q (.panic c) a w) (hy : YieldsIf P ops S oi v a) (hS : S w)
    (h : wpAnyH P md ops Q S fuel (listed.setIfInBounds i true) (a.put dst v) w) : wpAnyH P md ops Q S (fuel + 1) listed a w := by
  subst hd
  exact wpAnyH_take hi hs hf hr hQ hy hS h
theorem one_set {W : World} {g : Nat} {a b b' : Value} {e : TypeId} (h : W.heap[g]? = some (.cells #[a, b] e)) : (W.setCell ⟨g, 1, none⟩ b').heap[g]? = some (.cells #[a, b'] e) := by
  simp [World.setCell, Array.getElem?_modify, h]
theorem grown_to (W : World) (b o : Nat) (v : Value) : W.grownBy (W.setCell ⟨b, o, none⟩ v) (some b) :=
  ⟨rfl, rfl, rfl, by simp [World.setCell], fun k _ hk => Below.heap_setCell _ _ _ k (fun e => hk (by rw [e]))⟩
theorem own_not {W : World} {base size n k : Nat} {e t : TypeId} {v : Value} {xs : List Value} {cs : Array Value} {f : Nat × Nat} (h : W.ownsRow base e size v n xs) (hk : W.heap[k]? = some (.cells cs t f)) (hne : t ≠ e) : v.ownBlock ≠ some k := by
  rcases h.2 with ⟨h1, _⟩ | ⟨g1, cap1, cur1, h1, _, hc1, _⟩
  · subst h1; simp [Value.ownBlock]
  · subst h1
    intro e2
    have e3 : g1 = k := by simpa [Value.ownBlock] using e2
    subst e3
    rw [hc1] at hk
    injection hk with hk
    injection hk with _ h3
    exact hne h3.symm

/-- the row of places, and the states that have been told -/
structure MS (w3 : World) (n o m : Nat) (f : Nat → Int) (W : World) : Prop where
  q : MQ w3 n f W
  found : ∃ g cap xs, Boxed W o 28 (.slice (some ⟨g, 0, none⟩) m cap) ∧ W.ownsRow w3.heap.size 82 2 (.slice (some ⟨g, 0, none⟩) m cap) m xs
  ho : w3.heap.size ≤ o
theorem MS.on {w3 W W' : World} {n o m : Nat} {f : Nat → Int} (h : MS w3 n o m f W) (hb : Below W.heap.size W W') : MS w3 n o m f W' := by
  obtain ⟨g, cap, xs, h1, h2⟩ := h.found
  exact ⟨h.q.on hb, ⟨g, cap, xs, box_stay h1 hb, own_stay h2 hb⟩, h.ho⟩

set_option maxRecDepth 1000000 in
set_option maxHeartbeats 4000000 in
theorem l7Machine_any (B : Nat) (a : Option Addr) (n c : Nat) (t : List Nd) (ps : List Txt) (hv : Valid t ps) (w : World) (hB : B ≤ w.heap.size) (h : Nds B w a n c t) :
    Calls Tryd.prog 39 #[.agg #[.slice a n c]] w fun e w' => ∃ g cap, e = .returned (.agg #[.slice (some ⟨g, 0, none⟩) (many t) cap]) ∧ Below w.heap.size w w' := by
  have L := Lib.hid h.len
  have C := h.cap
  have T := h.top
  have HV := Lib.hid hv
  have hn481 : n ≤ 481 := by have := hv.size; have := h.len; omega
  obtain ⟨j0, hji, hy0, hy1, hy2⟩ := info_parts infoI
  have hb1 : Below w.heap.size w ((w.alloc (.cells #[.slice a n c] 33)).alloc (.cells #[.slice none 0 0] 28)) := ((Below.refl _ _).alloc (Nat.le_refl _) _).alloc (by simp) _
  have hbx : ((w.alloc (.cells #[.slice a n c] 33)).alloc (.cells #[.slice none 0 0] 28)).cell? ⟨w.heap.size, 0, none⟩ = some (.slice a n c) := by
    rw [World.cell?_alloc_lt _ _ _ (by simp)]
    simp
  have HBo : Hid (Boxed ((w.alloc (.cells #[.slice a n c] 33)).alloc (.cells #[.slice none 0 0] 28)) (w.heap.size + 1) 28 (.slice none 0 0)) := Lib.hid (by simpa using Boxed.new (w.alloc (.cells #[.slice a n c] 33)) 28 (.slice none 0 0))
  have hN1 := h.keep (hb1.mono hB)
  have HB1 := Lib.hid hb1
  have hsz1 : ((w.alloc (.cells #[.slice a n c] 33)).alloc (.cells #[.slice none 0 0] 28)).heap.size = w.heap.size + 2 := by simp
  clear h
  go_enter Tryd.func39, Tryd.ntmps39
  go_upto_region 1 with fail
  obtain ⟨W1, hW1⟩ : ∃ W1, (w.alloc (.cells #[.slice a n c] 33)).alloc (.cells #[.slice none 0 0] 28) = W1 := ⟨_, rfl⟩
  rw [hW1] at HB1 hN1 hsz1 hbx HBo ⊢
  clear hW1 hb1
  have HN1 := Lib.hid hN1
  have hBW : B ≤ W1.heap.size := by omega
  have cK : Hid (∀ W, Below W1.heap.size W1 W → Calls Tryd.prog 65 #[.agg #[.slice a n c]] W fun e w' => ∃ g vs, e = .returned (.slice (some ⟨g, 0, none⟩) n n) ∧ RR W.heap.size w' g n vs (fun i => kidsTo t i n) ∧ Below W.heap.size W w') := Lib.hid (fun W hb => l7Kids_any B a n c t ps HV.out W (by have := hb.size; omega) (HN1.out.keep (hb.mono hBW)))
  have cE : Hid (∀ W, Below W1.heap.size W1 W → Calls Tryd.prog 50 #[.agg #[.slice a n c]] W fun e w' => ∃ g, e = .returned (.slice (some ⟨g, 0, none⟩) n n) ∧ w'.ownsRow W.heap.size 3 1 (.slice (some ⟨g, 0, none⟩) n n) n (lrow (lbS t) n) ∧ Below W.heap.size W w') := Lib.hid (fun W hb => l7Ends_any B a n c t ps HV.out W (by have := hb.size; omega) (HN1.out.keep (hb.mono hBW)))
  clear hN1 hv
  go_cut [3, 4] (fun s3 s4 wx => ∃ g q vs, s3 = .slice (some ⟨g, 0, none⟩) n n ∧ s4 = .slice (some ⟨q, 0, none⟩) n n ∧ Hid (KL W1 g q n vs (fun i => kidsTo t i n) (lbS t) wx))
  case first =>
    have HBX : Hid (∀ W, Below W1.heap.size W1 W → W.cell? ⟨w.heap.size, 0, none⟩ = some (.slice a n c)) := Lib.hid (fun W hb => (hb.cell (p := ⟨w.heap.size, 0, none⟩) (by show w.heap.size < W1.heap.size; omega)).trans hbx)
    have HD : Hid (Below W1.heap.size W1 W1.drew) := Lib.hid (Below.refl _ _).drew
    go_region_held3 (fun w' => w'.cell? ⟨w.heap.size, 0, none⟩ = some (.slice a n c))
      (first
        | exact HBX.out _ hK4.bel
        | exact HBX.out _ hbK
        | exact HBX.out _ hbE
        | exact hbx)
      (first
        | (go_at_call 65; (first
            | (refine (cK.out _ hbE).mono ?_; rintro e w4 ⟨g, vs, rfl, hR4, hb4⟩; have hK4 : KL W1 g q n vs (fun i => kidsTo t i n) (lbS t) w4 := ⟨hR4.down hbE.size, own_stay hO hb4, hbE.trans (hb4.mono hbE.size)⟩)
            | (refine (cK.out _ HD.out).mono ?_; rintro e w2 ⟨g, vs, rfl, hR2', hb2'⟩; have hbK : Below W1.heap.size W1 w2 := HD.out.trans hb2'; have hR : RR W1.heap.size w2 g n vs (fun i => kidsTo t i n) := hR2')))
        | (go_at_call 50; (first
            | (refine (cE.out _ hbK).mono ?_; rintro e w4 ⟨q, rfl, hO4, hb4⟩; have hK4 : KL W1 g q n vs (fun i => kidsTo t i n) (lbS t) w4 := ⟨hR.on hb4, own_down hO4 hbK.size, hbK.trans (hb4.mono hbK.size)⟩)
            | (refine (cE.out _ HD.out).mono ?_; rintro e w2 ⟨q, rfl, hO2', hb2'⟩; have hbE : Below W1.heap.size W1 w2 := HD.out.trans hb2'; have hO : w2.ownsRow W1.heap.size 3 1 (.slice (some ⟨q, 0, none⟩) n n) n (lrow (lbS t) n) := hO2'))))
    all_goals
      go_wp2
      go_meet
      exact ⟨_, _, _, rfl, rfl, Lib.hid hK4⟩
  case rest =>
    obtain ⟨g, q, vs, rfl, rfl, HK⟩ := hcut
    rename World => w3
    have hz31 : W1.heap.size ≤ w3.heap.size := HK.out.bel.size
    have h8 : 8 * n ≤ 281474976710656 := by omega
    have hmx : n ≤ maxLen := by unfold maxLen; omega
    have HLt : Hid (∀ i, i < n → lbS t i < n) := Lib.hid (fun i hi => by have := lbS_lt t (i := i) (by have := L.out; omega); have := L.out; omega)
    have HC : Hid (∀ W, Below w3.heap.size w3 W → W.cell? ⟨w.heap.size, 0, none⟩ = some (.slice a n c) ∧ Nds B W a n c t ∧ KL W1 g q n vs (fun i => kidsTo t i n) (lbS t) W) := Lib.hid (fun W hb => ⟨((HK.out.bel.trans (hb.mono hz31)).cell (p := ⟨w.heap.size, 0, none⟩) (by show w.heap.size < W1.heap.size; omega)).trans hbx, HN1.out.keep ((HK.out.bel.trans (hb.mono hz31)).mono hBW), HK.out.on hb⟩)
    clear cK cE
    obtain ⟨Lb, hLb⟩ : ∃ Lb, lbS t = Lb := ⟨_, rfl⟩
    have HLb := Lib.hid hLb
    rw [hLb] at HLt HC HK
    clear hLb
    go_wp2_with fail
    refine upon_make 55 3 j0 (.int .i64 0) 8 Tryd.underlying55 hji hy0 hy1 hy2 rfl h8 hmx ?_
    intro w4 hO4 hg4
    have HQ0 : Hid (MQ w3 n (fun _ => 0) w4) := Lib.hid ⟨below_none hg4, by rw [zrow_zero]; exact hO4⟩
    clear hO4 hg4
    go_wp2_with fail
    go_loopw [7] (fun i wr => ∃ k, k ≤ n ∧ i = .int .i64 (k : Int) ∧ Hid (MQ w3 n (fun j => if j < k then -1 else 0) wr)) (fun i _ => n - (intOf i).toNat)
    case atStart => exact ⟨0, Nat.zero_le _, rfl, Lib.hid (HQ0.out.cong (fun j _ => by simp))⟩
    case round =>
      clear HQ0
      obtain ⟨k, hk, rfl, HQ⟩ := hrel
      by_cases hlt : k < n
      · obtain ⟨hc, hf⟩ := HQ.out.at hlt
        have hk0 : (0 : Int) ≤ (k : Int) := by omega
        have hk1 : (k : Int) < (n : Int) := by omega
        go_wp2
        go_roundw
        case rel => exact ⟨k + 1, hlt, by go_num, Lib.hid ((HQ.out.set hlt (-1)).cong (fun j _ => by by_cases e : j = k <;> simp [e] <;> (first | omega | (split <;> split <;> omega))))⟩
        case measure => simp [intOf]; omega
      · have e : k = n := by omega
        have HQ1 : Hid (MQ w3 n (plcL Lb 0) wr) := Lib.hid (HQ.out.cong (fun j hj => by rw [plcL_zero]; simp; omega))
        clear HQ e
        go_wp2_with fail
        go_loopw [6, 8] (fun m i wr => ∃ k, k ≤ n ∧ i = .int .i64 (k : Int) ∧ m = .int .i64 ((ordL Lb k).length : Int) ∧ Hid (MQ w3 n (plcL Lb k) wr)) (fun _ i _ => n - (intOf i).toNat)
        case atStart => exact ⟨0, Nat.zero_le _, rfl, rfl, HQ1⟩
        case round =>
          clear HQ1
          obtain ⟨k, hk, rfl, rfl, HQ⟩ := hrel
          by_cases hlt2 : k < n
          · have hK := (HC.out wr HQ.out.bel).2.2
            have hl := (hK.row.cellAt k (by omega)).trans (lrow_at Lb hlt2)
            have hlk := HLt.out k hlt2
            obtain ⟨hc, hf⟩ := HQ.out.at hlk
            have hk0 : (0 : Int) ≤ (k : Int) := by omega
            have hk1 : (k : Int) < (n : Int) := by omega
            have hl0 : (0 : Int) ≤ (Lb k : Int) := by omega
            have hl1 : (Lb k : Int) < (n : Int) := by omega
            have hm481 : (ordL Lb k).length ≤ 481 := by have := ordL_len Lb k; omega
            by_cases hm : Lb k ∈ ordL Lb k
            · have hneg : ¬ plcL Lb k (Lb k) < 0 := fun h => (plcL_neg Lb k _).1 h hm
              have HOl := Lib.hid hm
              obtain ⟨v, hv⟩ : ∃ v, plcL Lb k (Lb k) = v := ⟨_, rfl⟩
              rw [hv] at hc hneg
              clear hm hv
              go_wp2
              go_roundw
              case rel => exact ⟨k + 1, hlt2, by go_num, by rw [many_old HOl.out], Lib.hid (HQ.out.cong (fun j _ => (plcL_old HOl.out j).symm))⟩
              case measure => simp [intOf]; omega
            · have hneg : plcL Lb k (Lb k) < 0 := (plcL_neg Lb k _).2 hm
              have HNw := Lib.hid hm
              obtain ⟨v, hv⟩ : ∃ v, plcL Lb k (Lb k) = v := ⟨_, rfl⟩
              rw [hv] at hc hneg
              clear hm hv
              go_wp2
              go_roundw
              case rel => exact ⟨k + 1, hlt2, by go_num, by rw [many_new HNw.out]; go_num, Lib.hid ((HQ.out.set hlk _).cong (fun j _ => (plcL_new HNw.out j).symm))⟩
              case measure => simp [intOf]; omega
          · have e : k = n := by omega
            subst e
            have hzr : w3.heap.size ≤ wr.heap.size := HQ.out.bel.size
            have HO0 := Lib.hid (World.ownsRow_lit (base := w3.heap.size) (e := 82) (size := 2) wr #[] 0 hzr (by unfold maxLen; omega) rfl)
            have HBn : Hid (Boxed ((wr.alloc (.cells #[] 82)).alloc (.cells #[.slice (some ⟨wr.heap.size, 0, none⟩) 0 0] 28)) (wr.heap.size + 1) 28 (.slice (some ⟨wr.heap.size, 0, none⟩) 0 0)) := Lib.hid (by
              have h9 := Boxed.new (wr.alloc (.cells #[] 82)) 28 (.slice (some ⟨wr.heap.size, 0, none⟩) 0 0)
              rwa [World.size_alloc] at h9)
            have HM0 : Hid (MS w3 k (wr.heap.size + 1) (ordL Lb 0).length (plcL Lb k) ((wr.alloc (.cells #[] 82)).alloc (.cells #[.slice (some ⟨wr.heap.size, 0, none⟩) 0 0] 28))) := Lib.hid ⟨HQ.out.on (((Below.refl _ _).alloc (Nat.le_refl _) _).alloc (by simp) _), ⟨wr.heap.size, 0, [], HBn.out, HO0.out.alloc _⟩, by omega⟩
            obtain ⟨o, ho⟩ : ∃ o, wr.heap.size + 1 = o := ⟨_, rfl⟩
            have HOo := Lib.hid ho
            rename World => wq
            go_wp2_with fail
            go_loopw [10] (fun i wr => ∃ i', i' ≤ k ∧ i = .int .i64 (i' : Int) ∧ Hid (MS w3 k o (ordL Lb i').length (plcL Lb k) wr)) (fun i _ => k - (intOf i).toNat)
            case atStart => exact ⟨0, Nat.zero_le _, rfl, by rw [← HOo.out]; exact HM0⟩
            case round =>
              clear HM0 HO0 HQ
              obtain ⟨i, hi, rfl, HS⟩ := hrel
              have hzr : w3.heap.size ≤ wr.heap.size := HS.out.q.bel.size
              obtain ⟨g1, cap1, xs1, hbo, hro⟩ := HS.out.found
              have hbc := hbo.cell
              obtain ⟨m, hm⟩ : ∃ m, (ordL Lb i).length = m := ⟨_, rfl⟩
              have HM := Lib.hid hm
              have hm481 : m ≤ 481 := by have := ordL_len Lb i; omega
              rw [hm] at HS hbc hbo hro
              have HBn := Lib.hid hbo
              have HRn := Lib.hid hro
              clear hbo hro
              by_cases hlt3 : i < k
              · have hC := HC.out wr HS.out.q.bel
                have hK := hC.2.2
                have hl := (hK.row.cellAt i (by omega)).trans (lrow_at Lb hlt3)
                have hlk := HLt.out i hlt3
                have hc := (HS.out.q.at hlk).1
                rw [plcL_all hlt3] at hc
                have hi0 : (0 : Int) ≤ (i : Int) := by omega
                have hi1 : (i : Int) < (k : Int) := by omega
                have hl0 : (0 : Int) ≤ (Lb i : Int) := by omega
                have hl1 : (Lb i : Int) < (k : Int) := by omega
                have hNn := num_new (L := Lb) hlt3
                obtain ⟨u, hu⟩ : ∃ u, numL Lb k (Lb i) = u := ⟨_, rfl⟩
                rw [hu] at hc hNn
                rw [hm] at hNn
                clear hu hm hC hK
                by_cases hum : u = m
                · have hnew := hNn.1 hum
                  have HMn : Hid ((ordL Lb (i + 1)).length = m + 1) := Lib.hid (by rw [many_new hnew, HM.out])
                  clear hNn hnew
                  subst hum
                  go_wp2_with fail
                  go_quiet (fail)
                  obtain ⟨wc, hwc⟩ : ∃ wc, wr.drewN nq = wc := ⟨_, rfl⟩
                  have HBc : Hid (Below wr.heap.size wr wc) := Lib.hid (by rw [← hwc]; exact below_drewN (Below.refl _ _) _)
                  rw [hwc]
                  clear hwc hbc hl hc
                  have HSc := Lib.hid (HS.out.on HBc.out)
                  have hzc : w3.heap.size ≤ wc.heap.size := HSc.out.q.bel.size
                  obtain ⟨htx, hNd, hKc⟩ := HC.out wc HSc.out.q.bel
                  obtain ⟨b, o9, l9, p9, e9, rfl, hbB, htd, _, _, hcl9, hcp9, hce9⟩ := hNd.elem i hlt3
                  clear hcp9 hcl9
                  obtain ⟨vk, hvk, hok⟩ := hKc.rr.row i hlt3
                  obtain ⟨a3, c3, rfl⟩ := own_slice hok
                  have hkc := (hKc.rr.out.cellAt i (by omega)).trans hvk
                  have hgs := hKc.rr.spot.2
                  have hqs : W1.heap.size ≤ q ∧ q < wc.heap.size := own_ge hKc.row rfl
                  have hps : w3.heap.size ≤ w3.heap.size ∧ w3.heap.size < wc.heap.size := own_ge HSc.out.q.place rfl
                  have HKl : Hid (∀ x ∈ kidsTo t i k, x < k) := Lib.hid (fun x hx => (mem_kidsTo.1 hx).1)
                  obtain ⟨kl, hkl⟩ : ∃ kl, kidsTo t i k = kl := ⟨_, rfl⟩
                  rw [hkl] at hkc hok HKl
                  obtain ⟨mk, hmk⟩ : ∃ mk, kl.length = mk := ⟨_, rfl⟩
                  have HMk := Lib.hid hmk
                  have hmk481 : mk ≤ 481 := by have := kidsTo_le (t := t) (i := i) k; rw [hkl, hmk] at this; omega
                  rw [hmk] at hkc hok
                  have HSlk := Lib.hid (Sl.of_own hok)
                  clear hkl hmk hvk hok
                  obtain ⟨e0, he0, he1, he2, he3⟩ := info_parts infoE2
                  have HE0 : Hid (((wc.alloc (.cells #[] 84)).alloc (.cells #[.bool e9, .slice (some ⟨wc.heap.size, 0, none⟩) 0 0] 82)).ownsRow wc.heap.size 84 2 (.slice (some ⟨wc.heap.size, 0, none⟩) 0 0) 0 []) := Lib.hid ((World.ownsRow_lit (base := wc.heap.size) (e := 84) (size := 2) wc #[] 0 (Nat.le_refl _) (by unfold maxLen; omega) rfl).alloc _)
                  have HX0 : Hid (((wc.alloc (.cells #[] 84)).alloc (.cells #[.bool e9, .slice (some ⟨wc.heap.size, 0, none⟩) 0 0] 82)).heap[wc.heap.size + 1]? = some (.cells #[.bool e9, .slice (some ⟨wc.heap.size, 0, none⟩) 0 0] 82)) := Lib.hid (by
                    have h9 := heap_alloc_new (wc.alloc (.cells #[] 84)) (.cells #[.bool e9, .slice (some ⟨wc.heap.size, 0, none⟩) 0 0] 82)
                    rwa [World.size_alloc] at h9)
                  have HB0 : Hid (Below wc.heap.size wc ((wc.alloc (.cells #[] 84)).alloc (.cells #[.bool e9, .slice (some ⟨wc.heap.size, 0, none⟩) 0 0] 82))) := Lib.hid (((Below.refl _ _).alloc (Nat.le_refl _) _).alloc (by simp) _)
                  have hbB2 : b < wc.heap.size := by omega
                  go_wp2_with fail
                  go_loopw [12] (fun j wr => ∃ (j' g2 c2 : Nat) (xs2 : List Value), j' ≤ mk ∧ j = .int .i64 (j' : Int) ∧ Hid (wr.heap[wc.heap.size + 1]? = some (.cells #[.bool e9, .slice (some ⟨g2, 0, none⟩) j' c2] 82)) ∧ Hid (wr.ownsRow wc.heap.size 84 2 (.slice (some ⟨g2, 0, none⟩) j' c2) j' xs2) ∧ Hid (Below wc.heap.size wc wr)) (fun j _ => mk - (intOf j).toNat)
                  case atStart => exact ⟨0, _, 0, [], Nat.zero_le _, rfl, HX0, HE0, HB0⟩
                  case round =>
                    clear HX0 HE0 HB0
                    obtain ⟨j, g2, c2, xs2, hj, rfl, HX, HE, HBr⟩ := hrel
                    have hkr := (HBr.out.cell (p := ⟨g, i, none⟩) hgs).trans hkc
                    by_cases hltj : j < mk
                    · obtain ⟨x, hx⟩ : ∃ x, kl[j]? = some x := ⟨_, List.getElem?_eq_getElem (by rw [HMk.out]; exact hltj)⟩
                      have hxn := HKl.out x (at_memN hx)
                      obtain ⟨bk, ok, ek, hbk, hcx⟩ := HSlk.out.spot j _ (nums_at hx)
                      subst ek
                      obtain ⟨b2, o2, l2, p2, e2, hbe, _, _, _, _, hcl2, _, _⟩ := hNd.elem x hxn
                      cases hbe
                      have hlx := (hKc.row.cellAt x (by omega)).trans (lrow_at Lb hxn)
                      have hlx2 := HLt.out x hxn
                      have hpx := (HSc.out.q.at hlx2).1
                      obtain ⟨pv, hpv⟩ : ∃ pv, plcL Lb k (Lb x) = pv := ⟨_, rfl⟩
                      rw [hpv] at hpx
                      have hwl : w.heap.size < wc.heap.size := by omega
                      have HS6 : Hid (∀ W, Below wc.heap.size wc W → W.cell? ⟨w.heap.size, 0, none⟩ = some (.slice (some ⟨b, o9, none⟩) k c) ∧ W.cell? ⟨g, i, none⟩ = some (.slice (some ⟨bk, ok, none⟩) mk c3) ∧ W.cell? ⟨bk, ok + j, none⟩ = some (.int .i64 (x : Int)) ∧ W.cell? ⟨b, o9 + x * 3, none⟩ = some (.int .i64 l2) ∧ W.cell? ⟨q, x, none⟩ = some (.int .i64 (Lb x : Int)) ∧ W.cell? ⟨w3.heap.size, Lb x, none⟩ = some (.int .i64 pv)) := Lib.hid (fun W hb => ⟨(hb.cell (p := ⟨w.heap.size, 0, none⟩) hwl).trans htx, (hb.cell (p := ⟨g, i, none⟩) hgs).trans hkc, (hb.cell (p := ⟨bk, ok + j, none⟩) hbk).trans hcx, (hb.cell (p := ⟨b, o9 + x * 3, none⟩) hbB2).trans hcl2, (hb.cell (p := ⟨q, x, none⟩) hqs.2).trans hlx, (hb.cell (p := ⟨w3.heap.size, Lb x, none⟩) hps.2).trans hpx⟩)
                      have hj0 : (0 : Int) ≤ (j : Int) := by omega
                      have hj1 : (j : Int) < (mk : Int) := by omega
                      have hx0 : (0 : Int) ≤ (x : Int) := by omega
                      have hx1 : (x : Int) < (k : Int) := by omega
                      have hL0 : (0 : Int) ≤ (Lb x : Int) := by omega
                      have hL1 : (Lb x : Int) < (k : Int) := by omega
                      have hsbl : wc.heap.size + 1 < wr.heap.size := (Array.getElem?_eq_some_iff.1 HX.out).1
                      have HNot := own_not HE.out HX.out (by decide)
                      have hzr2 : wc.heap.size ≤ wr.heap.size := HBr.out.size
                      have hba : Below wc.heap.size wc (wr.alloc (.cells #[.int .i64 l2, .int .i64 pv] 84)).drew := (HBr.out.alloc hzr2 _).drew
                      have HOa : Hid ((wr.alloc (.cells #[.int .i64 l2, .int .i64 pv] 84)).drew.ownsRow wc.heap.size 84 2 (.slice (some ⟨g2, 0, none⟩) j c2) j xs2) := Lib.hid (own_stay (HE.out.alloc _) (Below.refl _ _).drew)
                      have HNa : Hid ((wr.alloc (.cells #[.int .i64 l2, .int .i64 pv] 84)).drew.heap[wr.heap.size]? = some (.cells #[.int .i64 l2, .int .i64 pv] 84)) := Lib.hid (heap_alloc_new wr _)
                      have hza : wc.heap.size ≤ (wr.alloc (.cells #[.int .i64 l2, .int .i64 pv] 84)).drew.heap.size := hba.size
                      have HXa : Hid ((wr.alloc (.cells #[.int .i64 l2, .int .i64 pv] 84)).drew.heap[wc.heap.size + 1]? = some (.cells #[.bool e9, .slice (some ⟨g2, 0, none⟩) j c2] 82)) := Lib.hid ((Below.heap_alloc _ _ _ hsbl).trans HX.out)
                      have HAft : Hid (∀ (v6 : Value) (w6 : World), w6.ownsRow wc.heap.size 84 2 v6 (j + 1) (xs2 ++ [.int .i64 l2, .int .i64 pv]) → (wr.alloc (.cells #[.int .i64 l2, .int .i64 pv] 84)).drew.grownBy w6 (Value.slice (some ⟨g2, 0, none⟩) j c2).ownBlock → Below wc.heap.size wc w6 ∧ w6.heap[wc.heap.size + 1]? = some (.cells #[.bool e9, .slice (some ⟨g2, 0, none⟩) j c2] 82)) := Lib.hid (fun v6 w6 h1 h2 => ⟨hba.trans (below_grown HOa.out (Nat.le_refl _) hza h2), (h2.block _ (Array.getElem?_eq_some_iff.1 HXa.out).1 (fun e => HNot e.symm)).trans HXa.out⟩)
                      have hc1 : wr.drew.cell? ⟨wc.heap.size + 1, 1, none⟩ = some (.slice (some ⟨g2, 0, none⟩) j c2) := by simp [World.cell?, show wr.drew.heap[wc.heap.size + 1]? = _ from HX.out]
                      have hc2 : wr.cell? ⟨wc.heap.size + 1, 1, none⟩ = some (.slice (some ⟨g2, 0, none⟩) j c2) := by simp [World.cell?, HX.out]
                      have hc3 : (wr.alloc (.cells #[.int .i64 l2, .int .i64 pv] 84)).cell? ⟨wc.heap.size + 1, 1, none⟩ = some (.slice (some ⟨g2, 0, none⟩) j c2) := by simp [World.cell?, show (wr.alloc (.cells #[.int .i64 l2, .int .i64 pv] 84)).heap[wc.heap.size + 1]? = _ from HXa.out]
                      have hc4 : (wr.alloc (.cells #[.int .i64 l2, .int .i64 pv] 84)).drew.cell? ⟨wc.heap.size + 1, 1, none⟩ = some (.slice (some ⟨g2, 0, none⟩) j c2) := hc3
                      clear hx hpv hcx hcl2 hlx hpx
                      go_wp2_with fail
                      refine wp_region_held_drew (S := fun W => Below wc.heap.size wc W) (by kernel_rfl) HBr.out.drew (fun hHeld => ?_)
                      refine take_at (i := 0) (oi := _) (v := .pointer (some ⟨wc.heap.size + 1, 1, none⟩)) (some 88) rfl rfl (by kernel_rfl) (by kernel_rfl) (by kernel_rfl) (fun _ _ _ h => h) (Or.inl ⟨by rfl, ?_⟩) hHeld ?_
                      · intro W hSw
                        obtain ⟨hs1, hs2, hs3, hs4, hs5, hs6⟩ := HS6.out W hSw
                        go_simp
                      simp only [Act.put, List.setIfInBounds_toArray]
                      refine take_at (i := 2) (oi := _) (v := .pointer (some ⟨w.heap.size, 0, none⟩)) (some 90) rfl rfl (by kernel_rfl) (by kernel_rfl) (by kernel_rfl) (fun _ _ _ h => h) (Or.inl ⟨by rfl, ?_⟩) hHeld ?_
                      · intro W hSw
                        obtain ⟨hs1, hs2, hs3, hs4, hs5, hs6⟩ := HS6.out W hSw
                        go_simp
                      simp only [Act.put]
                      refine take_at (i := 3) (oi := _) (v := .slice (some ⟨b, o9, none⟩) k c) (some 91) rfl rfl (by kernel_rfl) (by kernel_rfl) (by kernel_rfl) (fun _ _ _ h => h) (Or.inl ⟨by rfl, ?_⟩) hHeld ?_
                      · intro W hSw
                        obtain ⟨hs1, hs2, hs3, hs4, hs5, hs6⟩ := HS6.out W hSw
                        go_simp
                      simp only [Act.put]
                      refine take_at (i := 4) (oi := _) (v := .slice (some ⟨g, 0, none⟩) k k) (some 92) rfl rfl (by kernel_rfl) (by kernel_rfl) (by kernel_rfl) (fun _ _ _ h => h) (Or.inl ⟨by rfl, ?_⟩) hHeld ?_
                      · intro W hSw
                        obtain ⟨hs1, hs2, hs3, hs4, hs5, hs6⟩ := HS6.out W hSw
                        go_simp
                      simp only [Act.put]
                      refine take_at (i := 5) (oi := _) (v := .int .i64 (i : Int)) (some 93) rfl rfl (by kernel_rfl) (by kernel_rfl) (by kernel_rfl) (fun _ _ _ h => h) (Or.inl ⟨by rfl, ?_⟩) hHeld ?_
                      · intro W hSw
                        obtain ⟨hs1, hs2, hs3, hs4, hs5, hs6⟩ := HS6.out W hSw
                        go_simp
                      simp only [Act.put]
                      refine take_at (i := 6) (oi := _) (v := .pointer (some ⟨g, i, none⟩)) (some 94) rfl rfl (by kernel_rfl) (by kernel_rfl) (by kernel_rfl) (fun _ _ _ h => h) (Or.inl ⟨by rfl, ?_⟩) hHeld ?_
                      · intro W hSw
                        obtain ⟨hs1, hs2, hs3, hs4, hs5, hs6⟩ := HS6.out W hSw
                        go_simp
                      simp only [Act.put]
                      refine take_at (i := 7) (oi := _) (v := .slice (some ⟨bk, ok, none⟩) mk c3) (some 95) rfl rfl (by kernel_rfl) (by kernel_rfl) (by kernel_rfl) (fun _ _ _ h => h) (Or.inl ⟨by rfl, ?_⟩) hHeld ?_
                      · intro W hSw
                        obtain ⟨hs1, hs2, hs3, hs4, hs5, hs6⟩ := HS6.out W hSw
                        go_simp
                      simp only [Act.put]
                      refine take_at (i := 8) (oi := _) (v := .int .i64 (j : Int)) (some 96) rfl rfl (by kernel_rfl) (by kernel_rfl) (by kernel_rfl) (fun _ _ _ h => h) (Or.inl ⟨by rfl, ?_⟩) hHeld ?_
                      · intro W hSw
                        obtain ⟨hs1, hs2, hs3, hs4, hs5, hs6⟩ := HS6.out W hSw
                        go_simp
                      simp only [Act.put]
                      refine take_at (i := 9) (oi := _) (v := .pointer (some ⟨bk, ok + j, none⟩)) (some 97) rfl rfl (by kernel_rfl) (by kernel_rfl) (by kernel_rfl) (fun _ _ _ h => h) (Or.inl ⟨by rfl, ?_⟩) hHeld ?_
                      · intro W hSw
                        obtain ⟨hs1, hs2, hs3, hs4, hs5, hs6⟩ := HS6.out W hSw
                        go_simp
                      simp only [Act.put]
                      refine take_at (i := 10) (oi := _) (v := .int .i64 (x : Int)) (some 98) rfl rfl (by kernel_rfl) (by kernel_rfl) (by kernel_rfl) (fun _ _ _ h => h) (Or.inl ⟨by rfl, ?_⟩) hHeld ?_
                      · intro W hSw
                        obtain ⟨hs1, hs2, hs3, hs4, hs5, hs6⟩ := HS6.out W hSw
                        go_simp
                      simp only [Act.put]
                      refine take_at (i := 11) (oi := _) (v := .pointer (some ⟨b, o9 + x * 3, none⟩)) (some 99) rfl rfl (by kernel_rfl) (by kernel_rfl) (by kernel_rfl) (fun _ _ _ h => h) (Or.inl ⟨by rfl, ?_⟩) hHeld ?_
                      · intro W hSw
                        obtain ⟨hs1, hs2, hs3, hs4, hs5, hs6⟩ := HS6.out W hSw
                        go_simp
                      simp only [Act.put]
                      refine take_at (i := 12) (oi := _) (v := .pointer (some ⟨b, o9 + x * 3, none⟩)) (some 100) rfl rfl (by kernel_rfl) (by kernel_rfl) (by kernel_rfl) (fun _ _ _ h => h) (Or.inl ⟨by rfl, ?_⟩) hHeld ?_
                      · intro W hSw
                        obtain ⟨hs1, hs2, hs3, hs4, hs5, hs6⟩ := HS6.out W hSw
                        go_simp
                      simp only [Act.put]
                      refine take_at (i := 13) (oi := _) (v := .int .i64 l2) (some 101) rfl rfl (by kernel_rfl) (by kernel_rfl) (by kernel_rfl) (fun _ _ _ h => h) (Or.inl ⟨by rfl, ?_⟩) hHeld ?_
                      · intro W hSw
                        obtain ⟨hs1, hs2, hs3, hs4, hs5, hs6⟩ := HS6.out W hSw
                        go_simp
                      simp only [Act.put]
                      refine take_at (i := 14) (oi := _) (v := .slice (some ⟨w3.heap.size, 0, none⟩) k k) (some 102) rfl rfl (by kernel_rfl) (by kernel_rfl) (by kernel_rfl) (fun _ _ _ h => h) (Or.inl ⟨by rfl, ?_⟩) hHeld ?_
                      · intro W hSw
                        obtain ⟨hs1, hs2, hs3, hs4, hs5, hs6⟩ := HS6.out W hSw
                        go_simp
                      simp only [Act.put]
                      refine take_at (i := 15) (oi := _) (v := .slice (some ⟨q, 0, none⟩) k k) (some 103) rfl rfl (by kernel_rfl) (by kernel_rfl) (by kernel_rfl) (fun _ _ _ h => h) (Or.inl ⟨by rfl, ?_⟩) hHeld ?_
                      · intro W hSw
                        obtain ⟨hs1, hs2, hs3, hs4, hs5, hs6⟩ := HS6.out W hSw
                        go_simp
                      simp only [Act.put]
                      refine take_at (i := 16) (oi := _) (v := .slice (some ⟨g, 0, none⟩) k k) (some 104) rfl rfl (by kernel_rfl) (by kernel_rfl) (by kernel_rfl) (fun _ _ _ h => h) (Or.inl ⟨by rfl, ?_⟩) hHeld ?_
                      · intro W hSw
                        obtain ⟨hs1, hs2, hs3, hs4, hs5, hs6⟩ := HS6.out W hSw
                        go_simp
                      simp only [Act.put]
                      refine take_at (i := 17) (oi := _) (v := .int .i64 (i : Int)) (some 105) rfl rfl (by kernel_rfl) (by kernel_rfl) (by kernel_rfl) (fun _ _ _ h => h) (Or.inl ⟨by rfl, ?_⟩) hHeld ?_
                      · intro W hSw
                        obtain ⟨hs1, hs2, hs3, hs4, hs5, hs6⟩ := HS6.out W hSw
                        go_simp
                      simp only [Act.put]
                      refine take_at (i := 18) (oi := _) (v := .pointer (some ⟨g, i, none⟩)) (some 106) rfl rfl (by kernel_rfl) (by kernel_rfl) (by kernel_rfl) (fun _ _ _ h => h) (Or.inl ⟨by rfl, ?_⟩) hHeld ?_
                      · intro W hSw
                        obtain ⟨hs1, hs2, hs3, hs4, hs5, hs6⟩ := HS6.out W hSw
                        go_simp
                      simp only [Act.put]
                      refine take_at (i := 19) (oi := _) (v := .slice (some ⟨bk, ok, none⟩) mk c3) (some 107) rfl rfl (by kernel_rfl) (by kernel_rfl) (by kernel_rfl) (fun _ _ _ h => h) (Or.inl ⟨by rfl, ?_⟩) hHeld ?_
                      · intro W hSw
                        obtain ⟨hs1, hs2, hs3, hs4, hs5, hs6⟩ := HS6.out W hSw
                        go_simp
                      simp only [Act.put]
                      refine take_at (i := 20) (oi := _) (v := .int .i64 (j : Int)) (some 108) rfl rfl (by kernel_rfl) (by kernel_rfl) (by kernel_rfl) (fun _ _ _ h => h) (Or.inl ⟨by rfl, ?_⟩) hHeld ?_
                      · intro W hSw
                        obtain ⟨hs1, hs2, hs3, hs4, hs5, hs6⟩ := HS6.out W hSw
                        go_simp
                      simp only [Act.put]
                      refine take_at (i := 21) (oi := _) (v := .pointer (some ⟨bk, ok + j, none⟩)) (some 109) rfl rfl (by kernel_rfl) (by kernel_rfl) (by kernel_rfl) (fun _ _ _ h => h) (Or.inl ⟨by rfl, ?_⟩) hHeld ?_
                      · intro W hSw
                        obtain ⟨hs1, hs2, hs3, hs4, hs5, hs6⟩ := HS6.out W hSw
                        go_simp
                      simp only [Act.put]
                      refine take_at (i := 22) (oi := _) (v := .int .i64 (x : Int)) (some 110) rfl rfl (by kernel_rfl) (by kernel_rfl) (by kernel_rfl) (fun _ _ _ h => h) (Or.inl ⟨by rfl, ?_⟩) hHeld ?_
                      · intro W hSw
                        obtain ⟨hs1, hs2, hs3, hs4, hs5, hs6⟩ := HS6.out W hSw
                        go_simp
                      simp only [Act.put]
                      refine take_at (i := 23) (oi := _) (v := .pointer (some ⟨q, x, none⟩)) (some 111) rfl rfl (by kernel_rfl) (by kernel_rfl) (by kernel_rfl) (fun _ _ _ h => h) (Or.inl ⟨by rfl, ?_⟩) hHeld ?_
                      · intro W hSw
                        obtain ⟨hs1, hs2, hs3, hs4, hs5, hs6⟩ := HS6.out W hSw
                        go_simp
                      simp only [Act.put]
                      refine take_at (i := 24) (oi := _) (v := .int .i64 (Lb x : Int)) (some 112) rfl rfl (by kernel_rfl) (by kernel_rfl) (by kernel_rfl) (fun _ _ _ h => h) (Or.inl ⟨by rfl, ?_⟩) hHeld ?_
                      · intro W hSw
                        obtain ⟨hs1, hs2, hs3, hs4, hs5, hs6⟩ := HS6.out W hSw
                        go_simp
                      simp only [Act.put]
                      refine take_at (i := 25) (oi := _) (v := .pointer (some ⟨w3.heap.size, Lb x, none⟩)) (some 113) rfl rfl (by kernel_rfl) (by kernel_rfl) (by kernel_rfl) (fun _ _ _ h => h) (Or.inl ⟨by rfl, ?_⟩) hHeld ?_
                      · intro W hSw
                        obtain ⟨hs1, hs2, hs3, hs4, hs5, hs6⟩ := HS6.out W hSw
                        go_simp
                      simp only [Act.put]
                      refine take_at (i := 26) (oi := _) (v := .int .i64 pv) (some 114) rfl rfl (by kernel_rfl) (by kernel_rfl) (by kernel_rfl) (fun _ _ _ h => h) (Or.inl ⟨by rfl, ?_⟩) hHeld ?_
                      · intro W hSw
                        obtain ⟨hs1, hs2, hs3, hs4, hs5, hs6⟩ := HS6.out W hSw
                        go_simp
                      simp only [Act.put]
                      refine take_at (i := 27) (oi := _) (v := .agg #[.int .i64 l2, .int .i64 pv]) (some 115) rfl rfl (by kernel_rfl) (by kernel_rfl) (by kernel_rfl) (fun _ _ _ h => h) (Or.inl ⟨by rfl, ?_⟩) hHeld ?_
                      · intro W hSw
                        obtain ⟨hs1, hs2, hs3, hs4, hs5, hs6⟩ := HS6.out W hSw
                        go_simp
                      simp only [Act.put]
                      refine wpAnyH_ready (rs := [1, 28]) (by kernel_rfl) (by simp) ?_
                      refine AllReadyH.cons rfl (fun K hK => ?_) (AllReadyH.cons rfl (fun K hK => ?_) AllReadyH.nil)
                      · rw [if_pos (by rfl)]
                        go_simp
                        refine hK.out _ _ hHeld (fun hHeld => ?_)
                        clear hK K
                        try simp only [Act.put]
                        refine wpAnyH_ready (rs := [28]) (by kernel_rfl) (by simp) ?_
                        refine AllReadyH.cons rfl (fun K hK => ?_) AllReadyH.nil
                        rw [if_pos (by rfl)]
                        go_simp
                        refine hK.out _ _ hba (fun hHeld => ?_)
                        clear hK K
                        try simp only [Act.put]
                        refine wpAnyH_ready (rs := [29]) (by kernel_rfl) (by simp) ?_
                        refine AllReadyH.cons rfl (fun K hK => ?_) AllReadyH.nil
                        refine step_append_row rfl _ _ 80 rfl wc.heap.size 84 e0 (.agg #[.int .i64 0, .int .i64 0]) 2 16 Tryd.underlying80 he0 he1 he2 he3 rfl (by decide) (.slice (some ⟨g2, 0, none⟩) j c2) j xs2 rfl HOa.out ⟨wr.heap.size, 0, none⟩ 1 1 [.int .i64 l2, .int .i64 pv] rfl rfl (World.news_of_block HNa.out) (by simp [Value.oneCell']) (by unfold maxLen; omega) (by omega) hza ?_
                        intro v6 w6 hO6 hG6 hat6
                        obtain ⟨hb6, hx6⟩ := HAft.out v6 w6 hO6 hG6
                        obtain ⟨g6, c6, rfl⟩ := own_succ hO6
                        have hd1 : w6.cell? ⟨wc.heap.size + 1, 1, none⟩ = some (.slice (some ⟨g2, 0, none⟩) j c2) := by simp [World.cell?, hx6]
                        have hd2 : w6.frozen? ⟨wc.heap.size + 1, 1, none⟩ = false := by simp [World.frozen?, hx6]
                        refine hK.out _ _ hb6 (fun hHeld => ?_)
                        clear hK K
                        try simp only [Act.put]
                        refine take_at (i := 30) (oi := _) (v := .pointer (some ⟨wc.heap.size + 1, 1, none⟩)) (some 118) rfl rfl (by kernel_rfl) (by kernel_rfl) (by kernel_rfl) (fun _ _ _ h => h) (Or.inl ⟨by rfl, ?_⟩) hHeld ?_
                        · intro W hSw
                          go_simp
                        try simp only [Act.put]
                        refine wpAnyH_ready (rs := [31]) (by kernel_rfl) (by simp) ?_
                        refine AllReadyH.cons rfl (fun K hK => ?_) AllReadyH.nil
                        rw [if_pos (by rfl)]
                        go_simp
                        have hb7 : Below wc.heap.size wc (w6.setCell ⟨wc.heap.size + 1, 1, none⟩ (.slice (some ⟨g6, 0, none⟩) (j + 1) c6)) := hb6.setCell (p := ⟨wc.heap.size + 1, 1, none⟩) (Nat.le_succ _) _
                        refine hK.out _ _ hb7 (fun hHeld => ?_)
                        clear hK K
                        refine wpAnyH_done (by kernel_rfl) ?_ _
                        go_wp2
                        go_roundw
                        case rel => exact ⟨j + 1, g6, c6, _, hltj, by go_num, Lib.hid (one_set hx6), Lib.hid (hO6.kept (grown_to _ _ _ _) (.inr (own_not hO6 hx6 (by decide)))), Lib.hid hb7⟩
                        case measure => simp [intOf]; omega
                      · rw [if_pos (by rfl)]
                        go_simp
                        refine hK.out _ _ hba (fun hHeld => ?_)
                        clear hK K
                        try simp only [Act.put]
                        refine wpAnyH_ready (rs := [1]) (by kernel_rfl) (by simp) ?_
                        refine AllReadyH.cons rfl (fun K hK => ?_) AllReadyH.nil
                        rw [if_pos (by rfl)]
                        go_simp
                        refine hK.out _ _ hba (fun hHeld => ?_)
                        clear hK K
                        try simp only [Act.put]
                        refine wpAnyH_ready (rs := [29]) (by kernel_rfl) (by simp) ?_
                        refine AllReadyH.cons rfl (fun K hK => ?_) AllReadyH.nil
                        refine step_append_row rfl _ _ 80 rfl wc.heap.size 84 e0 (.agg #[.int .i64 0, .int .i64 0]) 2 16 Tryd.underlying80 he0 he1 he2 he3 rfl (by decide) (.slice (some ⟨g2, 0, none⟩) j c2) j xs2 rfl HOa.out ⟨wr.heap.size, 0, none⟩ 1 1 [.int .i64 l2, .int .i64 pv] rfl rfl (World.news_of_block HNa.out) (by simp [Value.oneCell']) (by unfold maxLen; omega) (by omega) hza ?_
                        intro v6 w6 hO6 hG6 hat6
                        obtain ⟨hb6, hx6⟩ := HAft.out v6 w6 hO6 hG6
                        obtain ⟨g6, c6, rfl⟩ := own_succ hO6
                        have hd1 : w6.cell? ⟨wc.heap.size + 1, 1, none⟩ = some (.slice (some ⟨g2, 0, none⟩) j c2) := by simp [World.cell?, hx6]
                        have hd2 : w6.frozen? ⟨wc.heap.size + 1, 1, none⟩ = false := by simp [World.frozen?, hx6]
                        refine hK.out _ _ hb6 (fun hHeld => ?_)
                        clear hK K
                        try simp only [Act.put]
                        refine take_at (i := 30) (oi := _) (v := .pointer (some ⟨wc.heap.size + 1, 1, none⟩)) (some 118) rfl rfl (by kernel_rfl) (by kernel_rfl) (by kernel_rfl) (fun _ _ _ h => h) (Or.inl ⟨by rfl, ?_⟩) hHeld ?_
                        · intro W hSw
                          go_simp
                        try simp only [Act.put]
                        refine wpAnyH_ready (rs := [31]) (by kernel_rfl) (by simp) ?_
                        refine AllReadyH.cons rfl (fun K hK => ?_) AllReadyH.nil
                        rw [if_pos (by rfl)]
                        go_simp
                        have hb7 : Below wc.heap.size wc (w6.setCell ⟨wc.heap.size + 1, 1, none⟩ (.slice (some ⟨g6, 0, none⟩) (j + 1) c6)) := hb6.setCell (p := ⟨wc.heap.size + 1, 1, none⟩) (Nat.le_succ _) _
                        refine hK.out _ _ hb7 (fun hHeld => ?_)
                        clear hK K
                        refine wpAnyH_done (by kernel_rfl) ?_ _
                        go_wp2
                        go_roundw
                        case rel => exact ⟨j + 1, g6, c6, _, hltj, by go_num, Lib.hid (one_set hx6), Lib.hid (hO6.kept (grown_to _ _ _ _) (.inr (own_not hO6 hx6 (by decide)))), Lib.hid hb7⟩
                        case measure => simp [intOf]; omega
                    · have e : j = mk := by omega
                      clear e
                      have HSr := Lib.hid (HSc.out.on HBr.out)
                      obtain ⟨g5, cap5, xs5, hbo5, hro5⟩ := HSr.out.found
                      have hfc := hbo5.cell
                      have HB5 := Lib.hid hbo5
                      have HR5 := Lib.hid hro5
                      have hs0 : wr.cell? ⟨wc.heap.size + 1, 0, none⟩ = some (.bool e9) := by simp [World.cell?, HX.out]
                      have hs1 : wr.cell? ⟨wc.heap.size + 1, 1, none⟩ = some (.slice (some ⟨g2, 0, none⟩) j c2) := by simp [World.cell?, HX.out]
                      have hzr2 : w3.heap.size ≤ wr.heap.size := HSr.out.q.bel.size
                      obtain ⟨s0, hs7, hs8, hs9, hs10⟩ := info_parts infoS7
                      have hnp : (Value.slice (some ⟨w3.heap.size, 0, none⟩) k k).ownBlock ≠ (Value.slice (some ⟨g5, 0, none⟩) u cap5).ownBlock := own_ne HR5.out HSr.out.q.place (by decide)
                      clear hbo5 hro5
                      go_wp2_with (at_builtin; go_loud (refine wpList_append_own_at _ rfl _ _ 26 rfl w3.heap.size 82 s0 (.agg #[.bool false, .slice none 0 0]) 2 32 Tryd.underlying26 hs7 hs8 hs9 hs10 rfl (by decide) _ _ _ rfl (HR5.out.alloc _) ⟨wr.heap.size, 0, none⟩ 1 1 [.bool e9, .slice (some ⟨g2, 0, none⟩) j c2] rfl rfl (World.news_of_block (heap_alloc_new _ _)) (by simp [Value.oneCell']) (by unfold maxLen; omega) (by omega) (by simp; omega) ?_); intro v7 w7 hown' hgrow _ hat; obtain ⟨g', cap', rfl⟩ := own_succ hown'; obtain ⟨hv1, hv2, hr2, hk2, hb2⟩ := HB5.out.appended (by decide) HR5.out hzr2 HSr.out.ho hown' hgrow; have hc7 := hv1.cell; have hf7 := hv1.frozen; have HP7 := Lib.hid ((HSr.out.q.place.alloc (.cells #[.bool e9, .slice (some ⟨g2, 0, none⟩) j c2] 82)).kept hgrow (.inr hnp)); have HV1 := Lib.hid hv1; have HV2 := Lib.hid hv2; have HR2 := Lib.hid hr2; have HB2 := Lib.hid hb2; clear hown' hgrow hat hv1 hv2 hr2 hk2 hb2)
                      go_roundw
                      case rel => exact ⟨i + 1, hlt3, by go_num, Lib.hid (by rw [HMn.out]; exact ⟨⟨HSr.out.q.bel.trans HB2.out, HP7.out.kept (grownBy_setCell' w7 o _) (.inr (HV1.out.not_row (by decide) HP7.out).symm)⟩, ⟨g', cap', _, HV2.out, HR2.out⟩, HSc.out.ho⟩)⟩
                      case measure => simp [intOf]; omega
                · have hold : Lb i ∈ ordL Lb i := Classical.byContradiction fun h => hum (hNn.2 h)
                  have HMo : Hid ((ordL Lb (i + 1)).length = m) := Lib.hid (by rw [many_old hold, HM.out])
                  have hne : ¬ ((u : Int) = (m : Int)) := by omega
                  clear hNn hold
                  go_wp2_with fail
                  go_quiet (fail)
                  go_wp2
                  go_roundw
                  case rel => exact ⟨i + 1, hlt3, by go_num, Lib.hid (by rw [HMo.out]; exact HS.out.on (below_drewN (Below.refl _ _) _))⟩
                  case measure => simp [intOf]; omega
              · have e : i = k := by omega
                have HMy : Hid (many t = m) := Lib.hid (by unfold many; rw [HLb.out, L.out, ← e, HM.out])
                have hBr := box_stay HBo.out (HK.out.bel.trans (HS.out.q.bel.mono hz31))
                have hrc := hBr.cell
                have hrf := hBr.frozen
                clear hm e
                go_wp2_with fail
                refine bodyPost_ret (v := .agg #[.slice (some ⟨g1, 0, none⟩) m cap1]) (by simp [results, Tryd.results39, go_sem, hrc]) rfl ⟨g1, cap1, by rw [HMy.out], ?_⟩
                exact ((HB1.out.trans ((HK.out.bel.trans (HS.out.q.bel.mono hz31)).mono (by omega))).setCell (p := ⟨w.heap.size + 1, 0, none⟩) (Nat.le_succ _) _)

end Go.Proofs.YtmgieahachphmabDoor

/-
  SavedNodes: both functions answer the same.
-/
namespace Go.Proofs.YtmgieahachphmabDoor
open Go.RowKit
set_option linter.unusedVariables false

noncomputable def savN (t : List Nd) (n : Nat) : Int := if trieB t = true then (n : Int) - (many t : Int) else 0
theorem many_le (t : List Nd) : many t ≤ t.length := ordL_len _ _

theorem field_states (a : Option Addr) (m c : Nat) (w : World) : (Instr.field 28 (.agg #[.slice a m c]) 0).run Tryd.prog w = .ok (.slice a m c) w := by kernel_rfl

set_option maxRecDepth 1000000 in
set_option maxHeartbeats 4000000 in
theorem specSaved_any (t : List Nd) (n : Nat) (hn : n ≤ 1048576) (W : World) (a : Option Addr) (hN : Nds W.heap.size W a n n t) :
    Calls Tryd.prog 19 #[.agg #[.slice a n n]] W fun e w' => e = .returned (.tuple #[.int .i64 (savN t n), .bool (trieB t)]) ∧ Below W.heap.size W w' := by
  have HB1 : Hid (Below W.heap.size W (W.alloc (.cells #[.slice a n n] 33))) := Lib.hid ((Below.refl _ _).alloc (Nat.le_refl _) _)
  have hbx : (W.alloc (.cells #[.slice a n n] 33)).cell? ⟨W.heap.size, 0, none⟩ = some (.slice a n n) := by simp
  have hlt : W.heap.size < (W.alloc (.cells #[.slice a n n] 33)).heap.size := by simp
  have HN := Lib.hid (hN.keep HB1.out)
  have L := Lib.hid hN.len
  have cT := Lib.hid (l2Trie_any W.heap.size a n n t (W.alloc (.cells #[.slice a n n] 33)) HB1.out.size HN.out hn)
  clear hN
  unfold savN
  cases hr : trieB t with
  | false =>
    rw [hr] at cT
    rw [if_neg (by simp)]
    clear hr
    go_enter Tryd.func19, Tryd.ntmps19
    go_wp2_with fail
    refine cT.out.mono ?_
    rintro e w2 ⟨rfl, hb2⟩
    go_wp2
    go_ret2
    exact ⟨rfl, HB1.out.trans (hb2.mono HB1.out.size)⟩
  | true =>
    rw [hr] at cT
    rw [if_pos rfl]
    obtain ⟨ps, hv⟩ := trieB_iff.1 hr
    clear hr
    have hml : many t ≤ n := by have := many_le t; have := L.out; omega
    have hn481 : n ≤ 481 := by have := hv.size; have := L.out; omega
    have cM : Hid (∀ V, Below (W.alloc (.cells #[.slice a n n] 33)).heap.size (W.alloc (.cells #[.slice a n n] 33)) V → Calls Tryd.prog 39 #[.agg #[.slice a n n]] V fun e w' => ∃ g cap, e = .returned (.agg #[.slice (some ⟨g, 0, none⟩) (many t) cap]) ∧ Below V.heap.size V w') := Lib.hid (fun V hb => l7Machine_any W.heap.size a n n t ps hv V (Nat.le_trans HB1.out.size hb.size) (HN.out.keep (hb.mono HB1.out.size)))
    obtain ⟨m, hm⟩ : ∃ m, many t = m := ⟨_, rfl⟩
    rw [hm] at cM hml
    have HM := Lib.hid hm
    have hwr : IntKind.i64.wrap ((n : Int) - (m : Int)) = (n : Int) - (m : Int) := by unfold IntKind.wrap; simp [IntKind.bits]; omega
    clear hm hv
    go_enter Tryd.func19, Tryd.ntmps19
    go_wp2_with fail
    refine cT.out.mono ?_
    rintro e w2 ⟨rfl, hb2⟩
    have hbx2 := (hb2.cell (p := ⟨W.heap.size, 0, none⟩) hlt).trans hbx
    have hz2 := hb2.size
    have hfs := field_states
    go_wp2_with fail
    go_region_held3 (fun w' => w'.cell? ⟨W.heap.size, 0, none⟩ = some (.slice a n n))
      (first
        | exact (hb3.cell (p := ⟨W.heap.size, 0, none⟩) (Nat.lt_of_lt_of_le hlt hz2)).trans hbx2
        | exact hbx2)
      (first | (go_at_call 39; refine (cM.out _ hb2.drew).mono ?_; rintro e w3 ⟨g, cap, rfl, hb3⟩))
    go_wp2
    go_ret2
    exact ⟨by rw [HM.out]; rfl, HB1.out.trans ((hb2.drew.trans ((show Below w2.heap.size w2.drew w3 from hb3).mono hz2)).mono HB1.out.size)⟩

set_option maxRecDepth 1000000 in
set_option maxHeartbeats 4000000 in
theorem implSaved_any (t : List Nd) (n : Nat) (hn : n ≤ 1048576) (W : World) (a : Option Addr) (hN : Nds W.heap.size W a n n t) (B0 : Nat) (hB0 : B0 ≤ W.heap.size) (htab : Lib.TabBelow Tryd.prog B0 W "internal/strconv.uint64pow10" .u64 Lib.pow10Tab) :
    Calls Tryd.prog 20 #[.agg #[.slice a n n]] W fun e w' => e = .returned (.tuple #[.int .i64 (savN t n), .bool (trieB t)]) ∧ Below W.heap.size W w' := by
  have HB1 : Hid (Below W.heap.size W (W.alloc (.cells #[.slice a n n] 33))) := Lib.hid ((Below.refl _ _).alloc (Nat.le_refl _) _)
  have hbx : (W.alloc (.cells #[.slice a n n] 33)).cell? ⟨W.heap.size, 0, none⟩ = some (.slice a n n) := by simp
  have hlt : W.heap.size < (W.alloc (.cells #[.slice a n n] 33)).heap.size := by simp
  have HN := Lib.hid (hN.keep HB1.out)
  have L := Lib.hid hN.len
  have cT := Lib.hid (isTrie_any W.heap.size a n n t (W.alloc (.cells #[.slice a n n] 33)) HB1.out.size HN.out)
  clear hN
  unfold savN
  cases hr : trieB t with
  | false =>
    rw [hr] at cT
    rw [if_neg (by simp)]
    clear hr
    go_enter Tryd.func20, Tryd.ntmps20
    go_wp2_with fail
    refine cT.out.mono ?_
    rintro e w2 ⟨rfl, hb2⟩
    go_wp2
    go_ret2
    exact ⟨rfl, HB1.out.trans (hb2.mono HB1.out.size)⟩
  | true =>
    rw [hr] at cT
    rw [if_pos rfl]
    obtain ⟨ps, hv⟩ := trieB_iff.1 hr
    clear hr
    have hml : many t ≤ n := by have := many_le t; have := L.out; omega
    have hn481 : n ≤ 481 := by have := hv.size; have := L.out; omega
    have hmf : (fdI t).length = many t := (fdI_len t).symm.trans (many_I hv)
    have cM : Hid (∀ V, Below (W.alloc (.cells #[.slice a n n] 33)).heap.size (W.alloc (.cells #[.slice a n n] 33)) V → Calls Tryd.prog 48 #[.agg #[.slice a n n]] V fun e w' => ∃ vf gn xs, e = .returned (.tuple #[vf, .slice (some ⟨gn, 0, none⟩) n n]) ∧ w'.ownsRow V.heap.size 3 1 (.slice (some ⟨gn, 0, none⟩) n n) n (lrow (lbI t) n) ∧ w'.ownsRow V.heap.size 82 2 vf (fdI t).length xs ∧ Below V.heap.size V w') := Lib.hid (fun V hb => by
      have hz1 := HB1.out.size
      have hz2 := hb.size
      have ht : Lib.TabBelow Tryd.prog V.heap.size V "internal/strconv.uint64pow10" .u64 Lib.pow10Tab := fun w' hw' => (htab.on ((HB1.out.trans (hb.mono hz1)).mono hB0)) w' (hw'.mono (by omega))
      exact callsIn_wide.1 (findStates_in 5 (Nat.le_refl _) V.heap.size a n n t ps hv V (Nat.le_refl _) ((HN.out.keep (hb.mono hz1)).mono (by omega)) ht))
    rw [hmf] at cM
    obtain ⟨m, hm⟩ : ∃ m, many t = m := ⟨_, rfl⟩
    rw [hm] at cM hml
    have HM := Lib.hid hm
    have hwr : IntKind.i64.wrap ((n : Int) - (m : Int)) = (n : Int) - (m : Int) := by unfold IntKind.wrap; simp [IntKind.bits]; omega
    clear hm hv hmf
    go_enter Tryd.func20, Tryd.ntmps20
    go_wp2_with fail
    refine cT.out.mono ?_
    rintro e w2 ⟨rfl, hb2⟩
    have hbx2 := (hb2.cell (p := ⟨W.heap.size, 0, none⟩) hlt).trans hbx
    have hz2 := hb2.size
    go_wp2_with fail
    refine (cM.out _ hb2).mono ?_
    rintro e w3 ⟨vf, gn, xs, rfl, _, hO3, hb3⟩
    obtain ⟨a3, c3, rfl⟩ := own_slice hO3
    have hbx3 := (hb3.cell (p := ⟨W.heap.size, 0, none⟩) (Nat.lt_of_lt_of_le hlt hz2)).trans hbx2
    clear hO3
    go_wp2
    go_ret2
    exact ⟨by rw [HM.out]; rfl, HB1.out.trans ((hb2.trans (hb3.mono hz2)).mono HB1.out.size)⟩

theorem agreeSavedNodes (t : List Nd) (n : Nat) (hn : n ≤ 1048576) : ∃ (v : Int) (ok : Bool),
    (∀ (W : World) (a : Option Addr), Nds W.heap.size W a n n t → Calls Tryd.prog 19 #[.agg #[.slice a n n]] W fun e w' => e = .returned (.tuple #[.int .i64 v, .bool ok]) ∧ Below W.heap.size W w') ∧
    (∀ (W : World) (a : Option Addr) (B0 : Nat), Nds W.heap.size W a n n t → B0 ≤ W.heap.size → Lib.TabBelow Tryd.prog B0 W "internal/strconv.uint64pow10" .u64 Lib.pow10Tab → Calls Tryd.prog 20 #[.agg #[.slice a n n]] W fun e w' => e = .returned (.tuple #[.int .i64 v, .bool ok]) ∧ Below W.heap.size W w') :=
  ⟨_, _, fun W a hN => specSaved_any t n hn W a hN, fun W a B0 hN hB0 htab => implSaved_any t n hn W a hN B0 hB0 htab⟩

end Go.Proofs.YtmgieahachphmabDoor
