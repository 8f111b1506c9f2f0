/-
  The program's search of a game, in the first game: what it knows of a node.
-/
import Derived.Test.YtfehfjnmkaifbabKnow11
import Derived.Test.YtfehfjnmkaifbabFat11
import Derived.Test.YtfehfjnmkaifbabKidsWalk
import Derived.Test.YtfehfjnmkaifbabNumsL
import Derived.Test.YtfehfjnmkaifbabBx11
import Derived.Deep.DeepCutAuto
namespace Go.Proofs.Ytfehfjnmkaifbab.los
open Go.RowKit Go.MapKept
set_option linter.unusedVariables false

set_option maxRecDepth 1000000 in
set_option maxHeartbeats 1000000 in
theorem endsAt_any (B : Nat) (a : Option Addr) (n c i m : Nat) (t : List Nd) (ps : List Txt) (w : World) (hB : B ≤ w.heap.size) (h : Nds B w a n c t) (hv : Valid t ps) (hi : i < n) (hm : m ≤ 6) :
    Calls Try.prog 130 #[.agg #[.slice a n c, .int .i64 (m : Int)], .int .i64 (i : Int)] w fun e w' => e = .returned (.tuple #[.bool (fatB t ps m i), .bool (fatB t ps m i)]) ∧ Below w.heap.size w w' := by
  have HB1 : Hid (Below w.heap.size w (w.alloc (.cells #[.slice a n c, .int .i64 (m : Int)] 80))) := Lib.hid ((Below.refl _ _).alloc (Nat.le_refl _) _)
  have cF := Lib.hid (isFatal_any B a n c i m t ps _ (Nat.le_trans hB HB1.out.size) (h.keep (HB1.out.mono hB)) hv hi hm)
  obtain ⟨q, hq⟩ : ∃ q, fatB t ps m i = q := ⟨_, rfl⟩
  rw [hq] at cF ⊢
  clear hq h hv
  go_enter Try.func130, Try.ntmps130
  go_wp2_with (first
    | (go_at_call 41; refine cF.out.mono ?_; rintro e2 w2 ⟨rfl, hb2⟩))
  go_ret2
  exact ⟨rfl, HB1.out.trans (hb2.mono HB1.out.size)⟩

/-- the three cells of the search: the trie, the rules, what is known -/
def obj (a : Option Addr) (n c m b : Nat) : Obj := .cells #[.slice a n c, .iface 80 (.agg #[.slice a n c, .int .i64 (m : Int)]), .map (some b)] 61
def olv (a : Option Addr) (n c m b : Nat) : Value := .agg #[.slice a n c, .iface 80 (.agg #[.slice a n c, .int .i64 (m : Int)]), .map (some b)]

/-- what a call of the search for a node leaves -/
def AtSays (t : List Nd) (ps : List Txt) (m n b : Nat) (W : World) (i : Nat) (K : Nat → Bool) (e : Ending) (W' : World) : Prop :=
  e = .returned (proV (pro t ps m false i)) ∧ ∃ K' : Nat → Bool, KnowIs W' b n (pro t ps m false) K' ∧ (∀ q, q < i → K' q = K q) ∧ W.grownBy W' (some b)

def AtOk (t : List Nd) (ps : List Txt) (B m n c b : Nat) (a : Option Addr) (i : Nat) : Prop :=
  ∀ (W : World) (K : Nat → Bool), Nds B W a n c t → KnowIs W b n (pro t ps m false) K → Calls Try.prog 36 #[olv a n c m b, .int .i64 (i : Int)] W (AtSays t ps m n b W i K)

/-- while the kids are gone through -/
structure TH (t : List Nd) (ps : List Txt) (B m n c b : Nat) (a : Option Addr) (W w : World) (p : Pro) (K : Nat → Bool) : Prop where
  box : w.heap[W.heap.size]? = some (obj a n c m b)
  res : w.heap[W.heap.size + 1]? = some (proO ⟨false, 0, 0, 0⟩)
  all : w.heap[W.heap.size + 2]? = some (proO p)
  kn : KnowIs w b n (pro t ps m false) K
  gb : W.grownBy w (some b)
  nds : Nds B w a n c t
  bB : B ≤ b
  bl : b < W.heap.size
  sz : W.heap.size + 2 < w.heap.size

theorem TH.on {t : List Nd} {ps : List Txt} {B m n c b : Nat} {a : Option Addr} {W w w' : World} {p : Pro} {K K' : Nat → Bool} (h : TH t ps B m n c b a W w p K) (hg : w.grownBy w' (some b)) (hk : KnowIs w' b n (pro t ps m false) K') : TH t ps B m n c b a W w' p K' := by
  have h1 := h.bl
  have h2 := h.sz
  have h3 := hg.size
  refine ⟨(hg.block _ (by omega) (by simp; omega)).trans h.box, (hg.block _ (by omega) (by simp; omega)).trans h.res, (hg.block _ (by omega) (by simp; omega)).trans h.all, hk, grown_trans h.gb hg, h.nds.keep ?_, h.bB, h.bl, by omega⟩
  have := h.bB
  exact (Below.refl _ _).grown hg (by omega) (fun q e => by injection e with e; omega)

theorem TH.alloc {t : List Nd} {ps : List Txt} {B m n c b : Nat} {a : Option Addr} {W w : World} {p : Pro} {K : Nat → Bool} (h : TH t ps B m n c b a W w p K) (o : Obj) : TH t ps B m n c b a W (w.alloc o) p K := by
  have hg : w.grownBy (w.alloc o) (some b) := ⟨rfl, rfl, rfl, by simp, fun i hi _ => Below.heap_alloc _ _ _ hi⟩
  exact h.on hg (h.kn.kept (Below.heap_alloc _ _ _ h.kn.lt))

/-- the sum is written -/
theorem TH.put {t : List Nd} {ps : List Txt} {B m n c b : Nat} {a : Option Addr} {W w w' : World} {p p' : Pro} {K : Nat → Bool} (h : TH t ps B m n c b a W w p K) (hb : w'.heap[W.heap.size + 2]? = some (proO p')) (hg : w.grownBy w' (some (W.heap.size + 2))) : TH t ps B m n c b a W w' p' K := by
  have h1 := h.bl
  have h2 := h.sz
  have h3 := hg.size
  have h4 := h.bB
  have h5 := h.gb
  exact ⟨(hg.block _ (by omega) (by simp)).trans h.box, (hg.block _ (by omega) (by simp)).trans h.res, hb, h.kn.kept (hg.block _ (by have := h.kn.lt; omega) (by simp; omega)), ⟨hg.os.trans h5.os, hg.tape.trans h5.tape, hg.output.trans h5.output, by omega, fun i hi hne => (hg.block i (by have := h5.size; omega) (by simp; omega)).trans (h5.block i hi hne)⟩, h.nds.keep ((Below.refl _ _).grown hg (by omega) (fun q e => by injection e with e; omega)), h.bB, h.bl, by omega⟩

theorem TH.row {t : List Nd} {ps : List Txt} {B m n c b : Nat} {a : Option Addr} {W w : World} {p : Pro} {K : Nat → Bool} (h : TH t ps B m n c b a W w p K) {g o : Nat} {v : Value} (hgl : g < W.heap.size) (hgb : g ≠ b) (hc : W.cell? ⟨g, o, none⟩ = some v) : w.cell? ⟨g, o, none⟩ = some v :=
  (World.cell?_of_block (a := ⟨g, o, none⟩) (h.gb.block g hgl (by simp; omega))).trans hc

theorem TH.cells {t : List Nd} {ps : List Txt} {B m n c b : Nat} {a : Option Addr} {W w : World} {p : Pro} {K : Nat → Bool} (h : TH t ps B m n c b a W w p K) :
    w.cell? ⟨W.heap.size, 0, none⟩ = some (.slice a n c) ∧ w.cell? ⟨W.heap.size, 1, none⟩ = some (.iface 80 (.agg #[.slice a n c, .int .i64 (m : Int)])) ∧ w.cell? ⟨W.heap.size, 2, none⟩ = some (.map (some b)) := by
  have := h.box
  unfold obj at this
  refine ⟨?_, ?_, ?_⟩ <;> simp [World.cell?, this]

set_option maxRecDepth 1000000 in
set_option maxHeartbeats 4000000 in
theorem through_any (B : Nat) (a : Option Addr) (n c i m b : Nat) (t : List Nd) (ps : List Txt) (hv : Valid t ps) (hl : t.length = n) (hf : fatB t ps m i = false) (ks : List Nat) (hks : kidsTo t i n = ks) (hne : ks ≠ []) (hAt : ∀ k, i < k → k < n → AtOk t ps B m n c b a k)
    (W : World) (K : Nat → Bool) (g o cap : Nat) (hN : Nds B W a n c t) (hK : KnowIs W b n (pro t ps m false) K) (hB : B ≤ b) (hrow : ∀ (j k : Nat), ks[j]? = some k → W.cell? ⟨g, o + j, none⟩ = some (.int .i64 (k : Int))) (hgb : g ≠ b) (hgl : g < W.heap.size) (hcap : ks.length ≤ cap) (htop : cap ≤ 9223372036854775807) :
    Calls Try.prog 74 #[olv a n c m b, .slice (some ⟨g, o, none⟩) ks.length cap] W fun e W' => e = .returned (proV (pro t ps m false i)) ∧ ∃ K' : Nat → Bool, KnowIs W' b n (pro t ps m false) K' ∧ (∀ q, q ≤ i → K' q = K q) ∧ W.grownBy W' (some b) := by
  subst hl
  have h481 := hv.size
  have hgt : ∀ k, k ∈ ks → i < k ∧ k < t.length := fun k hk => kids_gt (by rw [hks]; exact hk)
  have hiN : i < t.length := by
    cases ks with
    | nil => exact absurd rfl hne
    | cons x r => have := hgt x List.mem_cons_self; omega
  obtain ⟨k0, hk0⟩ : ∃ k0, ks[0]? = some k0 := by
    cases ks with
    | nil => exact absurd rfl hne
    | cons x r => exact ⟨x, rfl⟩
  have hpe : pro t ps m false i = thrTo t ps m false k0 ks := by
    have e := pro_thr (oth := false) hf (i := i) (by rw [hks]; exact hne)
    rw [hks] at e
    rw [e]
    cases ks with
    | nil => exact absurd rfl hne
    | cons x r => simp at hk0; rw [← hk0]; rfl
  have HPE := Lib.hid hpe
  have HKS := Lib.hid hks
  have HROW := Lib.hid hrow
  have HAT := Lib.hid hAt
  have HV := Lib.hid hv
  have HGT := Lib.hid hgt
  have HF := Lib.hid hf
  have hbl := hK.lt
  have hlen : ks.length ≤ 1000 := by have := kidsTo_le (t := t) (i := i) t.length; rw [hks] at this; omega
  obtain ⟨len, hle⟩ : ∃ len, ks.length = len := ⟨_, rfl⟩
  have HLE := Lib.hid hle
  have hpos : 0 < len := by
    rw [← hle]
    cases ks with
    | nil => exact absurd rfl hne
    | cons x r => simp
  have hr0 := hrow 0 k0 hk0
  rw [Nat.add_zero] at hr0
  have HT0 : Hid (TH t ps B m t.length c b a W (((W.alloc (obj a t.length c m b)).alloc (proO ⟨false, 0, 0, 0⟩)).alloc (proO ⟨false, 0, 0, k0⟩)) (thrTo t ps m false k0 (ks.take 0)) K) := Lib.hid (by
    have hg1 : W.grownBy (((W.alloc (obj a t.length c m b)).alloc (proO ⟨false, 0, 0, 0⟩)).alloc (proO ⟨false, 0, 0, k0⟩)) (some b) := ⟨rfl, rfl, rfl, by simp; omega, fun i hi _ => (Below.heap_alloc _ _ _ (by simp; omega)).trans ((Below.heap_alloc _ _ _ (by simp; omega)).trans (Below.heap_alloc _ _ _ hi))⟩
    refine ⟨?_, ?_, ?_, hK.kept ((Below.heap_alloc _ _ _ (by simp; omega)).trans ((Below.heap_alloc _ _ _ (by simp; omega)).trans (Below.heap_alloc _ _ _ hbl))), hg1, hN.keep ((Below.refl _ _).grown hg1 (by omega) (fun q e => by injection e with e; omega)), hB, hbl, by simp⟩
    · rw [Below.heap_alloc _ _ _ (by simp; omega), Below.heap_alloc _ _ _ (by simp)]
      exact heap_alloc_new W _
    · rw [Below.heap_alloc _ _ _ (by simp)]
      have := heap_alloc_new (W.alloc (obj a t.length c m b)) (proO ⟨false, 0, 0, 0⟩)
      rw [World.size_alloc] at this
      exact this
    · have := heap_alloc_new ((W.alloc (obj a t.length c m b)).alloc (proO ⟨false, 0, 0, 0⟩)) (proO ⟨false, 0, 0, k0⟩)
      rw [World.size_alloc, World.size_alloc] at this
      exact this)
  rw [hle] at hcap hlen ⊢
  rw [HPE.out]
  obtain ⟨pf, hpf⟩ : ∃ pf, thrTo t ps m false k0 ks = pf := ⟨_, rfl⟩
  rw [hpf]
  have HPF := Lib.hid hpf
  clear hpf hk0 hpe hks hrow hAt hv hgt hf hle hN hK hne
  unfold olv
  go_enter Try.func74, Try.ntmps74
  go_wp2
  change Hid (TH t ps B m t.length c b a W (((W.alloc (.cells #[.slice a t.length c, .iface 80 (.agg #[.slice a t.length c, .int .i64 (m : Int)]), .map (some b)] 61)).alloc (.cells #[.bool false, .int .i64 0, .int .i64 0, .int .i64 0] 56)).alloc (.cells #[.bool false, .int .i64 0, .int .i64 0, .int .i64 (k0 : Int)] 56)) (thrTo t ps m false k0 (ks.take 0)) K) at HT0
  obtain ⟨W3, hW3⟩ : ∃ W3, ((W.alloc (.cells #[.slice a t.length c, .iface 80 (.agg #[.slice a t.length c, .int .i64 (m : Int)]), .map (some b)] 61)).alloc (.cells #[.bool false, .int .i64 0, .int .i64 0, .int .i64 0] 56)).alloc (.cells #[.bool false, .int .i64 0, .int .i64 0, .int .i64 (k0 : Int)] 56) = W3 := ⟨_, rfl⟩
  rw [hW3] at HT0 ⊢
  clear hW3 hr0
  go_loopw [16] (fun q wr => ∃ (j : Nat) (K' : Nat → Bool), q = .int .i64 (j : Int) ∧ j ≤ len ∧ Hid (TH t ps B m t.length c b a W wr (thrTo t ps m false k0 (ks.take j)) K') ∧ Hid (∀ q, q ≤ i → K' q = K q)) (fun q _ => len - (intOf q).toNat)
  case atStart => exact ⟨0, K, rfl, Nat.zero_le _, HT0, Lib.hid (fun _ _ => rfl)⟩
  case round =>
    clear HT0
    obtain ⟨j, K', rfl, hj, HTH, HKq⟩ := hrel
    by_cases hjl : j < len
    · obtain ⟨k, hk⟩ : ∃ k, ks[j]? = some k := ⟨_, List.getElem?_eq_getElem (by rw [HLE.out]; exact hjl)⟩
      have hik := HGT.out k (List.mem_of_getElem? hk)
      have hck := HTH.out.row hgl hgb (HROW.out j k hk)
      obtain ⟨hc0, hc1, hc2⟩ := HTH.out.cells
      have hsp : ks.take (j + 1) = ks.take j ++ [k] := by
        obtain ⟨h1, h2⟩ := List.getElem?_eq_some_iff.1 hk
        rw [List.take_succ_eq_append_getElem h1, h2]
      have HTS : Hid (thrTo t ps m false k0 (ks.take (j + 1)) = thr (thrTo t ps m false k0 (ks.take j)) k (pro t ps m false k)) := Lib.hid (by rw [hsp, thrTo_snoc])
      have hps := pro_small (ps := ps) (m := m) (oth := false) HV.out.tells hik.2
      have hpa := thrTo_small (ps := ps) (m := m) (oth := false) (k0 := k0) (i := i) HV.out.tells hiN HF.out (a := ks.take j) (b := ks.drop j) (by rw [List.take_append_drop]; exact HKS.out)
      have hpl := thrTo_short (t := t) (ps := ps) (m := m) (oth := false) (k0 := k0) (i := i) (a := ks.take j) (b := ks.drop j) (by rw [List.take_append_drop]; exact HKS.out)
      have cA := Lib.hid (HAT.out k hik.1 hik.2 wr K' HTH.out.nds HTH.out.kn)
      unfold AtSays olv at cA
      obtain ⟨q, hq⟩ : ∃ q, pro t ps m false k = q := ⟨_, rfl⟩
      obtain ⟨p, hp⟩ : ∃ p, thrTo t ps m false k0 (ks.take j) = p := ⟨_, rfl⟩
      rw [hq] at cA HTS hps
      rw [hp] at HTS HTH hpa hpl
      obtain ⟨p1, p2, p3, p4⟩ := p
      obtain ⟨q1, q2, q3, q4⟩ := q
      simp only at hpa hpl hps
      clear hk hsp hq hp
      go_wp2_with fail
      refine cA.out.mono ?_
      rintro e w2 ⟨rfl, K2, hK2, hq2, hg2⟩
      have HT2 := Lib.hid (HTH.out.on hg2 hK2)
      have HT3 := Lib.hid (HT2.out.alloc (proO ⟨q1, q2, q3, q4⟩))
      have hz3 := heap_alloc_new w2 (proO ⟨q1, q2, q3, q4⟩)
      have hzne := HT2.out.sz
      clear hc0 hc1 hc2 hck hK2 hg2
      obtain ⟨y3, hy3⟩ : ∃ y3 : Nat, (p3 : Int) + (q3 : Int) = (y3 : Int) := ⟨p3 + q3, by omega⟩
      have hs3 : (0 : Int) ≤ (p3 : Int) + (q3 : Int) := by omega
      have hs4 : (p3 : Int) + (q3 : Int) ≤ 2000 := by omega
      have HY3 := Lib.hid hy3
      clear hy3
      unfold proV
      go_upto_region 6 with fail
      obtain ⟨w3, hw3⟩ : ∃ w3, w2.alloc (proO ⟨q1, q2, q3, q4⟩) = w3 := ⟨_, rfl⟩
      rw [hw3] at HT3 hz3
      simp only [proO] at hw3
      rw [hw3]
      obtain ⟨z, hz⟩ : ∃ z, w2.heap.size = z := ⟨_, rfl⟩
      rw [hz] at hz3 hzne ⊢
      have hzb : b < z := by rw [← hz]; exact HT2.out.kn.lt
      clear hw3 hz
      have HZ3 := Lib.hid hz3
      unfold proO at hz3
      obtain ⟨⟨hq0, hq1, hq2', hq3⟩, _⟩ := blk4 hz3
      have ha3 := HT3.out.all
      unfold proO at ha3
      obtain ⟨⟨ha0, ha1, ha2, haa3⟩, hf0, hf1, hf2, hf3⟩ := blk4 ha3
      simp only at hq0 hq1 hq2' hq3 ha0 ha1 ha2 haa3
      clear hz3 ha3
      go_upto_region 8 with fail
      have HT4 : Hid (TH t ps B m t.length c b a W (w3.setCell ⟨W.heap.size + 2, 2, none⟩ (.int .i64 ((p3 : Int) + (q3 : Int)))) ⟨p1, p2, y3, p4⟩ K2) := Lib.hid (by
        have h1 := (set4 HT3.out.all (.int .i64 ((p3 : Int) + (q3 : Int)))).2.2.1
        rw [HY3.out] at h1 ⊢
        exact HT3.out.put h1 (grown_set _ _ _ _))
      have HZ4 : Hid ((w3.setCell ⟨W.heap.size + 2, 2, none⟩ (.int .i64 ((p3 : Int) + (q3 : Int)))).heap[z]? = some (proO ⟨q1, q2, q3, q4⟩)) := Lib.hid ((Below.heap_setCell _ _ _ _ (by show z ≠ W.heap.size + 2; omega)).trans HZ3.out)
      obtain ⟨w4, hw4⟩ : ∃ w4, w3.setCell ⟨W.heap.size + 2, 2, none⟩ (.int .i64 ((p3 : Int) + (q3 : Int))) = w4 := ⟨_, rfl⟩
      rw [hw4] at HT4 HZ4 ⊢
      clear hw4 hq0 hq1 hq2' hq3 ha0 ha1 ha2 haa3 hf0 hf1 hf2 hf3 HT3 HZ3 HT2 hs3 hs4
      have hz4 := HZ4.out
      unfold proO at hz4
      obtain ⟨⟨hq0, hq1, hq2', hq3⟩, _⟩ := blk4 hz4
      have ha4 := HT4.out.all
      unfold proO at ha4
      obtain ⟨⟨ha0, ha1, ha2, haa3⟩, hf0, hf1, hf2, hf3⟩ := blk4 ha4
      simp only at hq0 hq1 hq2' hq3 ha0 ha1 ha2 haa3
      clear hz4 ha4
      have HQ2 : Hid (∀ q, q ≤ i → K2 q = K q) := Lib.hid (fun q hq => by rw [hq2 q (by omega)]; exact HKq.out q hq)
      have HY4 : Hid (p3 + q3 = y3) := Lib.hid (by have := HY3.out; omega)
      cases q1 with
      | false =>
        cases p1 with
        | false =>
          have HT5 : Hid (TH t ps B m t.length c b a W (((w4.setCell ⟨W.heap.size + 2, 0, none⟩ (.bool true)).setCell ⟨W.heap.size + 2, 1, none⟩ (.int .i64 ((q2 : Int) + 1))).setCell ⟨W.heap.size + 2, 3, none⟩ (.int .i64 (k : Int))) ⟨true, q2 + 1, y3, k⟩ K2) := Lib.hid (by
            have h1 := (set4 HT4.out.all (.bool true)).1
            have h2 := (set4 h1 (.int .i64 ((q2 : Int) + 1))).2.1
            have h3 := (set4 h2 (.int .i64 (k : Int))).2.2.2
            exact HT4.out.put h3 (grown_trans (grown_trans (grown_set _ _ _ _) (grown_set _ _ _ _)) (grown_set _ _ _ _)))
          go_wp2
          go_roundw
          case rel => exact ⟨j + 1, K2, by go_num, by omega, by rw [HTS.out]; simp only [thr, Bool.not_false, Bool.and_self, if_true]; rw [HY4.out]; exact HT5, HQ2⟩
          case measure => simp [intOf]; omega
        | true =>
          by_cases hmn : (q2 : Int) + 1 < (p2 : Int)
          · have HT5 : Hid (TH t ps B m t.length c b a W (w4.setCell ⟨W.heap.size + 2, 1, none⟩ (.int .i64 ((q2 : Int) + 1))) ⟨true, q2 + 1, y3, p4⟩ K2) := Lib.hid (by
              have h1 := (set4 HT4.out.all (.int .i64 ((q2 : Int) + 1))).2.1
              exact HT4.out.put h1 (grown_set _ _ _ _))
            go_wp2
            go_roundw
            case rel => exact ⟨j + 1, K2, by go_num, by omega, by rw [HTS.out]; simp only [thr, Bool.not_false, Bool.not_true, Bool.and_false, Bool.false_eq_true, if_false, if_true]; rw [HY4.out, Nat.min_eq_right (by omega)]; exact HT5, HQ2⟩
            case measure => simp [intOf]; omega
          · have HT5 : Hid (TH t ps B m t.length c b a W (w4.setCell ⟨W.heap.size + 2, 1, none⟩ (.int .i64 (p2 : Int))) ⟨true, p2, y3, p4⟩ K2) := Lib.hid (by
              have h1 := (set4 HT4.out.all (.int .i64 (p2 : Int))).2.1
              exact HT4.out.put h1 (grown_set _ _ _ _))
            go_wp2
            go_roundw
            case rel => exact ⟨j + 1, K2, by go_num, by omega, by rw [HTS.out]; simp only [thr, Bool.not_false, Bool.not_true, Bool.and_false, Bool.false_eq_true, if_false, if_true]; rw [HY4.out, Nat.min_eq_left (by omega)]; exact HT5, HQ2⟩
            case measure => simp [intOf]; omega
      | true =>
        cases p1 with
        | false =>
          by_cases hmx : (p2 : Int) < (q2 : Int) + 1
          · have HT5 : Hid (TH t ps B m t.length c b a W (w4.setCell ⟨W.heap.size + 2, 1, none⟩ (.int .i64 ((q2 : Int) + 1))) ⟨false, q2 + 1, y3, p4⟩ K2) := Lib.hid (by
              have h1 := (set4 HT4.out.all (.int .i64 ((q2 : Int) + 1))).2.1
              exact HT4.out.put h1 (grown_set _ _ _ _))
            go_wp2
            go_roundw
            case rel => exact ⟨j + 1, K2, by go_num, by omega, by rw [HTS.out]; simp only [thr, Bool.not_false, Bool.not_true, Bool.false_and, Bool.true_eq_false, Bool.false_eq_true, if_false, if_true]; rw [HY4.out, Nat.max_eq_right (by omega)]; exact HT5, HQ2⟩
            case measure => simp [intOf]; omega
          · have HT5 : Hid (TH t ps B m t.length c b a W (w4.setCell ⟨W.heap.size + 2, 1, none⟩ (.int .i64 (p2 : Int))) ⟨false, p2, y3, p4⟩ K2) := Lib.hid (by
              have h1 := (set4 HT4.out.all (.int .i64 (p2 : Int))).2.1
              exact HT4.out.put h1 (grown_set _ _ _ _))
            go_wp2
            go_roundw
            case rel => exact ⟨j + 1, K2, by go_num, by omega, by rw [HTS.out]; simp only [thr, Bool.not_false, Bool.not_true, Bool.false_and, Bool.true_eq_false, Bool.false_eq_true, if_false, if_true]; rw [HY4.out, Nat.max_eq_left (by omega)]; exact HT5, HQ2⟩
            case measure => simp [intOf]; omega
        | true =>
          go_wp2
          go_roundw
          case rel => exact ⟨j + 1, K2, by go_num, by omega, by rw [HTS.out]; simp only [thr, Bool.not_true, Bool.false_and, Bool.true_eq_false, Bool.false_eq_true, if_false]; rw [HY4.out]; exact HT4, HQ2⟩
          case measure => simp [intOf]; omega
    · have e : j = len := by omega
      subst e
      have hth := HTH.out
      rw [List.take_of_length_le (by rw [HLE.out]; exact Nat.le_refl _)] at hth
      rw [HPF.out] at hth
      clear HPF HPE
      obtain ⟨p1, p2, p3, p4⟩ := pf
      have ha := hth.all
      unfold proO at ha
      obtain ⟨⟨ha0, ha1, ha2, ha3⟩, _⟩ := blk4 ha
      have hr := hth.res
      unfold proO at hr
      obtain ⟨⟨hr0, hr1, hr2, hr3⟩, hf0, hf1, hf2, hf3⟩ := blk4 hr
      simp only at ha0 ha1 ha2 ha3 hr0 hr1 hr2 hr3
      have HTH2 := Lib.hid hth
      clear hth ha hr HTH
      go_wp2_with fail
      have hres := HTH2.out.res
      unfold proO at hres
      obtain ⟨hbf, hgf⟩ := set_all hres (.bool p1) (.int .i64 (p2 : Int)) (.int .i64 (p3 : Int)) (.int .i64 (p4 : Int))
      generalize ((((wr.setCell ⟨W.heap.size + 1, 0, none⟩ (.bool p1)).setCell ⟨W.heap.size + 1, 1, none⟩ (.int .i64 (p2 : Int))).setCell ⟨W.heap.size + 1, 2, none⟩ (.int .i64 (p3 : Int))).setCell ⟨W.heap.size + 1, 3, none⟩ (.int .i64 (p4 : Int))) = Wf at *
      obtain ⟨⟨g0, g1, g2, g3⟩, _⟩ := blk4 hbf
      refine bodyPost_ret (v := proV ⟨p1, p2, p3, p4⟩) (by simp [results, Try.results74, go_sem, g0, g1, g2, g3, proV]) rfl ⟨rfl, K', HTH2.out.kn.kept (hgf.block _ HTH2.out.kn.lt (fun e => by injection e with e; omega)), HKq.out, grown_far HTH2.out.gb hgf (by omega)⟩

/-- while a node is looked at -/
structure AH (t : List Nd) (ps : List Txt) (B m n c b : Nat) (a : Option Addr) (W w : World) (K : Nat → Bool) (v0 v1 v2 v3 : Value) : Prop where
  box : w.heap[W.heap.size]? = some (obj a n c m b)
  res : w.heap[W.heap.size + 1]? = some (proO ⟨false, 0, 0, 0⟩)
  kno : w.heap[W.heap.size + 2]? = some (.cells #[v0, v1, v2, v3] 56)
  kn : KnowIs w b n (pro t ps m false) K
  gb : W.grownBy w (some b)
  nds : Nds B w a n c t
  bB : B ≤ b
  bl : b < W.heap.size
  sz : W.heap.size + 2 < w.heap.size

theorem AH.on {t : List Nd} {ps : List Txt} {B m n c b : Nat} {a : Option Addr} {W w w' : World} {K K' : Nat → Bool} {v0 v1 v2 v3 : Value} (h : AH t ps B m n c b a W w K v0 v1 v2 v3) (hg : w.grownBy w' (some b)) (hk : KnowIs w' b n (pro t ps m false) K') : AH t ps B m n c b a W w' K' v0 v1 v2 v3 := by
  have h1 := h.bl
  have h2 := h.sz
  have h3 := hg.size
  refine ⟨(hg.block _ (by omega) (by simp; omega)).trans h.box, (hg.block _ (by omega) (by simp; omega)).trans h.res, (hg.block _ (by omega) (by simp; omega)).trans h.kno, hk, grown_trans h.gb hg, h.nds.keep ?_, h.bB, h.bl, by omega⟩
  have := h.bB
  exact (Below.refl _ _).grown hg (by omega) (fun q e => by injection e with e; omega)

theorem AH.bel {t : List Nd} {ps : List Txt} {B m n c b : Nat} {a : Option Addr} {W w w' : World} {K : Nat → Bool} {v0 v1 v2 v3 : Value} (h : AH t ps B m n c b a W w K v0 v1 v2 v3) (hb : Below w.heap.size w w') : AH t ps B m n c b a W w' K v0 v1 v2 v3 :=
  h.on (grown_bel (grown_self _ _) hb) (h.kn.kept (hb.block _ h.kn.lt))

theorem AH.put {t : List Nd} {ps : List Txt} {B m n c b : Nat} {a : Option Addr} {W w w' : World} {K : Nat → Bool} {v0 v1 v2 v3 u0 u1 u2 u3 : Value} (h : AH t ps B m n c b a W w K v0 v1 v2 v3) (hb : w'.heap[W.heap.size + 2]? = some (.cells #[u0, u1, u2, u3] 56)) (hg : w.grownBy w' (some (W.heap.size + 2))) : AH t ps B m n c b a W w' K u0 u1 u2 u3 := by
  have h1 := h.bl
  have h2 := h.sz
  have h3 := hg.size
  have h4 := h.bB
  have h5 := h.gb
  exact ⟨(hg.block _ (by omega) (by simp)).trans h.box, (hg.block _ (by omega) (by simp)).trans h.res, hb, h.kn.kept (hg.block _ (by have := h.kn.lt; omega) (by simp; omega)), grown_far h5 hg (by omega), h.nds.keep ((Below.refl _ _).grown hg (by omega) (fun q e => by injection e with e; omega)), h.bB, h.bl, by omega⟩

theorem AH.cells {t : List Nd} {ps : List Txt} {B m n c b : Nat} {a : Option Addr} {W w : World} {K : Nat → Bool} {v0 v1 v2 v3 : Value} (h : AH t ps B m n c b a W w K v0 v1 v2 v3) :
    w.cell? ⟨W.heap.size, 0, none⟩ = some (.slice a n c) ∧ w.cell? ⟨W.heap.size, 1, none⟩ = some (.iface 80 (.agg #[.slice a n c, .int .i64 (m : Int)])) ∧ w.cell? ⟨W.heap.size, 2, none⟩ = some (.map (some b)) := by
  have := h.box
  unfold obj at this
  refine ⟨?_, ?_, ?_⟩ <;> simp [World.cell?, this]

theorem AH.start {t : List Nd} {ps : List Txt} {B m n c b : Nat} {a : Option Addr} {W : World} {K : Nat → Bool} (hN : Nds B W a n c t) (hK : KnowIs W b n (pro t ps m false) K) (hB : B ≤ b) (q : Pro) : AH t ps B m n c b a W (((W.alloc (obj a n c m b)).alloc (proO ⟨false, 0, 0, 0⟩)).alloc (proO q)) K (.bool q.wins) (.int .i64 (q.lts : Int)) (.int .i64 (q.ways : Int)) (.int .i64 (q.next : Int)) := by
  have hbl := hK.lt
  have hg1 : W.grownBy (((W.alloc (obj a n c m b)).alloc (proO ⟨false, 0, 0, 0⟩)).alloc (proO q)) (some b) := grown_new (grown_new (grown_new (grown_self _ _) _) _) _
  refine ⟨?_, ?_, ?_, hK.kept ((Below.heap_alloc _ _ _ (by simp; omega)).trans ((Below.heap_alloc _ _ _ (by simp; omega)).trans (Below.heap_alloc _ _ _ hbl))), hg1, hN.keep ((Below.refl _ _).grown hg1 (by omega) (fun q e => by injection e with e; omega)), hB, hbl, by simp⟩
  · rw [Below.heap_alloc _ _ _ (by simp; omega), Below.heap_alloc _ _ _ (by simp)]
    exact heap_alloc_new W _
  · rw [Below.heap_alloc _ _ _ (by simp)]
    have := heap_alloc_new (W.alloc (obj a n c m b)) (proO ⟨false, 0, 0, 0⟩)
    rw [World.size_alloc] at this
    exact this
  · have := heap_alloc_new ((W.alloc (obj a n c m b)).alloc (proO ⟨false, 0, 0, 0⟩)) (proO q)
    rw [World.size_alloc, World.size_alloc] at this
    exact this

set_option maxRecDepth 1000000 in
set_option maxHeartbeats 4000000 in
theorem at_any (B : Nat) (a : Option Addr) (n c m b : Nat) (t : List Nd) (ps : List Txt) (hv : Valid t ps) (hl : t.length = n) (hm : m ≤ 6) (hB : B ≤ b) : ∀ (f i : Nat), n - i ≤ f → i < n → AtOk t ps B m n c b a i
  | 0, i, h0, hi => absurd h0 (by omega)
  | f + 1, i, hfi, hi => by
    intro W K hN hK
    have HV := Lib.hid hv
    have HL := Lib.hid hl
    have h481 := hv.size
    have HAT : Hid (∀ k, i < k → k < n → AtOk t ps B m n c b a k) := Lib.hid (fun k h1 h2 => at_any B a n c m b t ps hv hl hm hB f k (by omega) h2)
    have hlk := hK.look i hi (by omega)
    have hn1000 : n ≤ 1000 := by omega
    have hbl := hK.lt
    have hmt : ∀ (x : Value) (w : World), (callMethod (.iface 80 (.agg #[.slice a n c, .int .i64 (m : Int)])) "loop.example/g01243/impl.endsAt" #[x]).run Try.prog w = .ok (.enter 130 #[.agg #[.slice a n c, .int .i64 (m : Int)], x]) w := fun x w => by kernel_rfl
    have HS := Lib.hid (fun q => AH.start (m := m) hN hK hB q)
    obtain ⟨pi, hpi⟩ : ∃ pi, pro t ps m false i = pi := ⟨_, rfl⟩
    have HPI := Lib.hid hpi
    rw [hpi] at hlk
    unfold AtSays
    rw [hpi]
    clear hpi hN hv hl hfi
    cases hk : K i with
    | true =>
      rw [hk, if_pos rfl] at hlk
      obtain ⟨p1, p2, p3, p4⟩ := pi
      have hl2 : ∀ V : World, V.heap[b]? = W.heap[b]? → (Instr.lookup 59 (.map (some b)) (.int .i64 ((i : Nat) : Int)) true).run Try.prog V = .ok (.tuple #[proV ⟨p1, p2, p3, p4⟩, .bool true]) V := fun V hV => by
        have := (hK.kept hV).look i hi hn1000
        rw [hk, if_pos rfl, HPI.out] at this
        exact this
      unfold proV at hl2
      simp only at hl2
      have hq2 : (Instr.lookup 59 (.map (some b)) (.int .i64 ((i : Nat) : Int)) true).run Try.prog ((W.alloc (.cells #[.slice a n c, .iface 80 (.agg #[.slice a n c, .int .i64 (m : Int)]), .map (some b)] 61)).alloc (.cells #[.bool false, .int .i64 0, .int .i64 0, .int .i64 0] 56)) = .ok (.tuple #[.agg #[.bool p1, .int .i64 (p2 : Int), .int .i64 (p3 : Int), .int .i64 (p4 : Int)], .bool true]) ((W.alloc (.cells #[.slice a n c, .iface 80 (.agg #[.slice a n c, .int .i64 (m : Int)]), .map (some b)] 61)).alloc (.cells #[.bool false, .int .i64 0, .int .i64 0, .int .i64 0] 56)) := hl2 _ ((Below.heap_alloc _ _ _ (by simp; omega)).trans (Below.heap_alloc _ _ _ hbl))
      have hS1 := Lib.hid (HS.out ⟨p1, p2, p3, p4⟩)
      unfold olv
      clear hl2 hlk hK HS
      go_enter Try.func36, Try.ntmps36
      go_upto_region 2 with fail
      obtain ⟨V1, hV1⟩ : ∃ V1, ((W.alloc (obj a n c m b)).alloc (proO ⟨false, 0, 0, 0⟩)).alloc (proO ⟨p1, p2, p3, p4⟩) = V1 := ⟨_, rfl⟩
      rw [hV1] at hS1
      have hV2 : ((W.alloc (.cells #[.slice a n c, .iface 80 (.agg #[.slice a n c, .int .i64 (m : Int)]), .map (some b)] 61)).alloc (.cells #[.bool false, .int .i64 0, .int .i64 0, .int .i64 0] 56)).alloc (.cells #[.bool p1, .int .i64 (p2 : Int), .int .i64 (p3 : Int), .int .i64 (p4 : Int)] 56) = V1 := hV1
      rw [hV2]
      clear hV1 hV2 hq2
      obtain ⟨hb0, hb1, hb2⟩ := hS1.out.cells
      have hkno := hS1.out.kno
      obtain ⟨⟨hv0, hv1, hv2, hv3⟩, he0, he1, he2, he3⟩ := blk4 hkno
      have hres : V1.heap[W.heap.size + 1]? = some (.cells #[.bool false, .int .i64 0, .int .i64 0, .int .i64 0] 56) := hS1.out.res
      obtain ⟨⟨hr0, hr1, hr2, hr3⟩, hf0, hf1, hf2, hf3⟩ := blk4 hres
      clear hkno hres
      simp only at hv0 hv1 hv2 hv3
      go_wp2_with fail
      clear hb0 hb1 hb2 hv0 hv1 hv2 hv3 he0 he1 he2 he3 hr0 hr1 hr2 hr3 hf0 hf1 hf2 hf3
      obtain ⟨hbf, hgf⟩ := set_all (show V1.heap[W.heap.size + 1]? = some (.cells #[.bool false, .int .i64 0, .int .i64 0, .int .i64 0] 56) from hS1.out.res) (.bool p1) (.int .i64 (p2 : Int)) (.int .i64 (p3 : Int)) (.int .i64 (p4 : Int))
      generalize ((((V1.setCell ⟨W.heap.size + 1, 0, none⟩ (.bool p1)).setCell ⟨W.heap.size + 1, 1, none⟩ (.int .i64 (p2 : Int))).setCell ⟨W.heap.size + 1, 2, none⟩ (.int .i64 (p3 : Int))).setCell ⟨W.heap.size + 1, 3, none⟩ (.int .i64 (p4 : Int))) = Wf at *
      obtain ⟨⟨g0, g1, g2, g3⟩, _⟩ := blk4 hbf
      refine bodyPost_ret (v := proV (⟨p1, p2, p3, p4⟩)) (by simp [results, Try.results36, go_sem, g0, g1, g2, g3, proV]) rfl ⟨rfl, _, hS1.out.kn.kept (hgf.block _ hS1.out.kn.lt (fun e => by injection e with e; omega)), fun _ _ => rfl, grown_far hS1.out.gb hgf (by omega)⟩
    | false =>
      rw [hk, if_neg (by simp)] at hlk
      have hl2 : ∀ V : World, V.heap[b]? = W.heap[b]? → (Instr.lookup 59 (.map (some b)) (.int .i64 ((i : Nat) : Int)) true).run Try.prog V = .ok (.tuple #[proV ⟨false, 0, 0, 0⟩, .bool false]) V := fun V hV => by
        have := (hK.kept hV).look i hi hn1000
        rw [hk, if_neg (by simp)] at this
        exact this
      have hq2 : (Instr.lookup 59 (.map (some b)) (.int .i64 ((i : Nat) : Int)) true).run Try.prog ((W.alloc (.cells #[.slice a n c, .iface 80 (.agg #[.slice a n c, .int .i64 (m : Int)]), .map (some b)] 61)).alloc (.cells #[.bool false, .int .i64 0, .int .i64 0, .int .i64 0] 56)) = .ok (.tuple #[.agg #[.bool false, .int .i64 0, .int .i64 0, .int .i64 0], .bool false]) ((W.alloc (.cells #[.slice a n c, .iface 80 (.agg #[.slice a n c, .int .i64 (m : Int)]), .map (some b)] 61)).alloc (.cells #[.bool false, .int .i64 0, .int .i64 0, .int .i64 0] 56)) := hl2 _ ((Below.heap_alloc _ _ _ (by simp; omega)).trans (Below.heap_alloc _ _ _ hbl))
      have hS1 := Lib.hid (HS.out ⟨false, 0, 0, 0⟩)
      unfold olv
      clear hl2 hlk hK HS
      go_enter Try.func36, Try.ntmps36
      go_upto_region 2 with fail
      obtain ⟨V1, hV1⟩ : ∃ V1, ((W.alloc (obj a n c m b)).alloc (proO ⟨false, 0, 0, 0⟩)).alloc (proO ⟨false, 0, 0, 0⟩) = V1 := ⟨_, rfl⟩
      rw [hV1] at hS1
      have hV2 : ((W.alloc (.cells #[.slice a n c, .iface 80 (.agg #[.slice a n c, .int .i64 (m : Int)]), .map (some b)] 61)).alloc (.cells #[.bool false, .int .i64 0, .int .i64 0, .int .i64 0] 56)).alloc (.cells #[.bool false, .int .i64 0, .int .i64 0, .int .i64 0] 56) = V1 := hV1
      rw [hV2]
      clear hV1 hV2 hq2
      obtain ⟨hb0, hb1, hb2⟩ := hS1.out.cells
      have hkno := hS1.out.kno
      obtain ⟨⟨hv0, hv1, hv2, hv3⟩, he0, he1, he2, he3⟩ := blk4 hkno
      have hres : V1.heap[W.heap.size + 1]? = some (.cells #[.bool false, .int .i64 0, .int .i64 0, .int .i64 0] 56) := hS1.out.res
      obtain ⟨⟨hr0, hr1, hr2, hr3⟩, hf0, hf1, hf2, hf3⟩ := blk4 hres
      clear hkno hres
      go_upto_region 5 with fail
      have hS2 : Hid (AH t ps B m n c b a W ((((V1.setCell ⟨W.heap.size + 2, 0, none⟩ (.bool false)).setCell ⟨W.heap.size + 2, 1, none⟩ (.int .i64 0)).setCell ⟨W.heap.size + 2, 2, none⟩ (.int .i64 1)).setCell ⟨W.heap.size + 2, 3, none⟩ (.int .i64 0)) K (.bool false) (.int .i64 0) (.int .i64 1) (.int .i64 0)) := Lib.hid (by
        obtain ⟨h1, h2⟩ := set_all hS1.out.kno (.bool false) (.int .i64 0) (.int .i64 1) (.int .i64 0)
        exact hS1.out.put h1 h2)
      obtain ⟨V2, hV2⟩ : ∃ V2, ((((V1.setCell ⟨W.heap.size + 2, 0, none⟩ (.bool false)).setCell ⟨W.heap.size + 2, 1, none⟩ (.int .i64 0)).setCell ⟨W.heap.size + 2, 2, none⟩ (.int .i64 1)).setCell ⟨W.heap.size + 2, 3, none⟩ (.int .i64 0)) = V2 := ⟨_, rfl⟩
      rw [hV2] at hS2 ⊢
      clear hb0 hb1 hb2 hv0 hv1 hv2 hv3 he0 he1 he2 he3 hr0 hr1 hr2 hr3 hf0 hf1 hf2 hf3
      clear hV2 hS1
      have cE := Lib.hid (endsAt_any V2.heap.size a n c i m t ps V2 (Nat.le_refl _) (hS2.out.nds.mono (by have := hS2.out.bB; have := hS2.out.bl; have := hS2.out.sz; omega)) HV.out hi hm)
      obtain ⟨hb0, hb1, hb2⟩ := hS2.out.cells
      obtain ⟨fb, hfb⟩ : ∃ fb, fatB t ps m i = fb := ⟨_, rfl⟩
      rw [hfb] at cE
      have HFB := Lib.hid hfb
      clear hfb
      cases fb with
      | true =>
        have hpe := pro_fat (oth := false) HFB.out
        rw [HPI.out] at hpe
        subst hpe
        go_wp2_with fail
        refine cE.out.mono ?_
        rintro e3 V3 ⟨rfl, hb3⟩
        have HA3 := Lib.hid (hS2.out.bel hb3)
        clear hb0 hb1 hb2 hb3
        obtain ⟨hb0, hb1, hb2⟩ := HA3.out.cells
        have hkno := HA3.out.kno
        obtain ⟨⟨hv0, hv1, hv2, hv3⟩, he0, he1, he2, he3⟩ := blk4 hkno
        have hres : V3.heap[W.heap.size + 1]? = some (.cells #[.bool false, .int .i64 0, .int .i64 0, .int .i64 0] 56) := HA3.out.res
        obtain ⟨⟨hr0, hr1, hr2, hr3⟩, hf0, hf1, hf2, hf3⟩ := blk4 hres
        clear hkno hres
        go_upto_region 11 with fail
        have HA4 : Hid (AH t ps B m n c b a W (V3.setCell ⟨W.heap.size + 2, 0, none⟩ (.bool true)) K (.bool true) (.int .i64 0) (.int .i64 1) (.int .i64 0)) := Lib.hid (HA3.out.put (set4 HA3.out.kno (.bool true)).1 (grown_set _ _ _ _))
        obtain ⟨V4, hV4⟩ : ∃ V4, V3.setCell ⟨W.heap.size + 2, 0, none⟩ (.bool true) = V4 := ⟨_, rfl⟩
        rw [hV4] at HA4 ⊢
        clear hb0 hb1 hb2 hv0 hv1 hv2 hv3 he0 he1 he2 he3 hr0 hr1 hr2 hr3 hf0 hf1 hf2 hf3
        clear hV4
        obtain ⟨V8, hru, hk8, hg8⟩ := HA4.out.kn.update i hi hn1000 hk
        have hru2 : (Instr.mapUpdate 59 (.map (some b)) (.int .i64 (i : Int)) (.agg #[.bool true, .int .i64 0, .int .i64 1, .int .i64 0])).run Try.prog V4 = .ok () V8 := by
          rw [HPI.out] at hru
          exact hru
        have HA8 := Lib.hid (HA4.out.on hg8 hk8)
        clear hru hk8 hg8
        obtain ⟨hb0, hb1, hb2⟩ := HA4.out.cells
        have hkno := HA4.out.kno
        obtain ⟨⟨hv0, hv1, hv2, hv3⟩, he0, he1, he2, he3⟩ := blk4 hkno
        have hres : V4.heap[W.heap.size + 1]? = some (.cells #[.bool false, .int .i64 0, .int .i64 0, .int .i64 0] 56) := HA4.out.res
        obtain ⟨⟨hr0, hr1, hr2, hr3⟩, hf0, hf1, hf2, hf3⟩ := blk4 hres
        clear hkno hres
        obtain ⟨⟨kv0, kv1, kv2, kv3⟩, _⟩ := blk4 HA8.out.kno
        obtain ⟨⟨kr0, kr1, kr2, kr3⟩, kf0, kf1, kf2, kf3⟩ := blk4 (show V8.heap[W.heap.size + 1]? = some (.cells #[.bool false, .int .i64 0, .int .i64 0, .int .i64 0] 56) from HA8.out.res)
        go_wp2_with fail
        clear hb0 hb1 hb2 hv0 hv1 hv2 hv3 he0 he1 he2 he3 hr0 hr1 hr2 hr3 hf0 hf1 hf2 hf3 kv0 kv1 kv2 kv3 kr0 kr1 kr2 kr3 kf0 kf1 kf2 kf3 hru2
        obtain ⟨hbf, hgf⟩ := set_all (show V8.heap[W.heap.size + 1]? = some (.cells #[.bool false, .int .i64 0, .int .i64 0, .int .i64 0] 56) from HA8.out.res) (.bool true) (.int .i64 0) (.int .i64 1) (.int .i64 0)
        generalize ((((V8.setCell ⟨W.heap.size + 1, 0, none⟩ (.bool true)).setCell ⟨W.heap.size + 1, 1, none⟩ (.int .i64 0)).setCell ⟨W.heap.size + 1, 2, none⟩ (.int .i64 1)).setCell ⟨W.heap.size + 1, 3, none⟩ (.int .i64 0)) = Wf at *
        obtain ⟨⟨g0, g1, g2, g3⟩, _⟩ := blk4 hbf
        refine bodyPost_ret (v := proV (⟨true, 0, 1, 0⟩)) (by simp [results, Try.results36, go_sem, g0, g1, g2, g3, proV]) rfl ⟨rfl, _, HA8.out.kn.kept (hgf.block _ HA8.out.kn.lt (fun e => by injection e with e; omega)), fun q hq => (by show (K q || decide (q = i)) = K q; rw [decide_eq_false (by omega), Bool.or_false]), grown_far HA8.out.gb hgf (by omega)⟩
      | false =>
        have cK := Lib.hid (fun (V : World) (hV : AH t ps B m n c b a W V K (.bool false) (.int .i64 0) (.int .i64 1) (.int .i64 0)) => kidsAt_any V.heap.size a n c i t ps V (Nat.le_refl _) (hV.nds.mono (by have := hV.bB; have := hV.bl; have := hV.sz; omega)) hn1000 HV.out.tells hi)
        obtain ⟨ks, hks⟩ : ∃ ks, kidsTo t i n = ks := ⟨_, rfl⟩
        have HKS := Lib.hid hks
        rw [hks] at cK
        clear hks
        cases ks with
        | nil =>
          have hpe := pro_end (oth := false) HFB.out (by rw [HL.out]; exact HKS.out)
          rw [HPI.out] at hpe
          subst hpe
          go_wp2_with fail
          refine cE.out.mono ?_
          rintro e3 V3 ⟨rfl, hb3⟩
          have HA3 := Lib.hid (hS2.out.bel hb3)
          clear hb0 hb1 hb2 hb3
          obtain ⟨hb0, hb1, hb2⟩ := HA3.out.cells
          go_wp2_with fail
          refine (cK.out _ HA3.out).mono ?_
          rintro e4 V4 ⟨v4, rfl, hO4, hb4⟩
          have HA4 := Lib.hid (HA3.out.bel hb4)
          obtain ⟨a4, c4, rfl⟩ := own_slice hO4
          clear hO4 hb4 hb0 hb1 hb2
          go_upto_region 11 with fail
          obtain ⟨V8, hru, hk8, hg8⟩ := HA4.out.kn.update i hi hn1000 hk
          have hru2 : (Instr.mapUpdate 59 (.map (some b)) (.int .i64 (i : Int)) (.agg #[.bool false, .int .i64 0, .int .i64 1, .int .i64 0])).run Try.prog V4 = .ok () V8 := by
            rw [HPI.out] at hru
            exact hru
          have HA8 := Lib.hid (HA4.out.on hg8 hk8)
          clear hru hk8 hg8
          obtain ⟨hb0, hb1, hb2⟩ := HA4.out.cells
          have hkno := HA4.out.kno
          obtain ⟨⟨hv0, hv1, hv2, hv3⟩, he0, he1, he2, he3⟩ := blk4 hkno
          have hres : V4.heap[W.heap.size + 1]? = some (.cells #[.bool false, .int .i64 0, .int .i64 0, .int .i64 0] 56) := HA4.out.res
          obtain ⟨⟨hr0, hr1, hr2, hr3⟩, hf0, hf1, hf2, hf3⟩ := blk4 hres
          clear hkno hres
          obtain ⟨⟨kv0, kv1, kv2, kv3⟩, _⟩ := blk4 HA8.out.kno
          obtain ⟨⟨kr0, kr1, kr2, kr3⟩, kf0, kf1, kf2, kf3⟩ := blk4 (show V8.heap[W.heap.size + 1]? = some (.cells #[.bool false, .int .i64 0, .int .i64 0, .int .i64 0] 56) from HA8.out.res)
          go_wp2_with fail
          clear hb0 hb1 hb2 hv0 hv1 hv2 hv3 he0 he1 he2 he3 hr0 hr1 hr2 hr3 hf0 hf1 hf2 hf3 kv0 kv1 kv2 kv3 kr0 kr1 kr2 kr3 kf0 kf1 kf2 kf3 hru2
          obtain ⟨hbf, hgf⟩ := set_all (show V8.heap[W.heap.size + 1]? = some (.cells #[.bool false, .int .i64 0, .int .i64 0, .int .i64 0] 56) from HA8.out.res) (.bool false) (.int .i64 0) (.int .i64 1) (.int .i64 0)
          generalize ((((V8.setCell ⟨W.heap.size + 1, 0, none⟩ (.bool false)).setCell ⟨W.heap.size + 1, 1, none⟩ (.int .i64 0)).setCell ⟨W.heap.size + 1, 2, none⟩ (.int .i64 1)).setCell ⟨W.heap.size + 1, 3, none⟩ (.int .i64 0)) = Wf at *
          obtain ⟨⟨g0, g1, g2, g3⟩, _⟩ := blk4 hbf
          refine bodyPost_ret (v := proV (⟨false, 0, 1, 0⟩)) (by simp [results, Try.results36, go_sem, g0, g1, g2, g3, proV]) rfl ⟨rfl, _, HA8.out.kn.kept (hgf.block _ HA8.out.kn.lt (fun e => by injection e with e; omega)), fun q hq => (by show (K q || decide (q = i)) = K q; rw [decide_eq_false (by omega), Bool.or_false]), grown_far HA8.out.gb hgf (by omega)⟩
        | cons k0 kr =>
          have cT := Lib.hid (through_any B a n c i m b t ps HV.out HL.out HFB.out (k0 :: kr) HKS.out (by simp) HAT.out)
          rw [HPI.out] at cT
          obtain ⟨len, hle⟩ : ∃ len, (k0 :: kr).length = len := ⟨_, rfl⟩
          have hlp : 0 < len := by rw [← hle]; simp
          rw [hle] at cT cK
          have HLE := Lib.hid hle
          clear hle
          obtain ⟨p1, p2, p3, p4⟩ := pi
          go_wp2_with fail
          refine cE.out.mono ?_
          rintro e3 V3 ⟨rfl, hb3⟩
          have HA3 := Lib.hid (hS2.out.bel hb3)
          clear hb0 hb1 hb2 hb3
          obtain ⟨hb0, hb1, hb2⟩ := HA3.out.cells
          go_wp2_with fail
          refine (cK.out _ HA3.out).mono ?_
          rintro e4 V4 ⟨v4, rfl, hO4, hb4⟩
          have HA4 := Lib.hid (HA3.out.bel hb4)
          obtain ⟨a4, c4, rfl⟩ := own_slice hO4
          have hS4 := Sl.of_own hO4
          obtain ⟨g4, o4, ea4, hg4, hc4⟩ := hS4.spot 0 _ (nums_at (show (k0 :: kr)[0]? = some k0 from rfl))
          subst ea4
          have hge := (own_ge hO4 (g := g4) rfl).1
          have HR4 : Hid (∀ (j k : Nat), (k0 :: kr)[j]? = some k → V4.cell? ⟨g4, o4 + j, none⟩ = some (.int .i64 (k : Int))) := Lib.hid (fun j k hk => by
            obtain ⟨b9, o9, e9, _, h9⟩ := hS4.spot j _ (nums_at hk)
            injection e9 with e9
            injection e9 with e9 e10
            subst e9 e10
            exact h9)
          have hcap4 := hS4.cap
          have htop4 := hS4.top
          have hne4 : g4 ≠ b := by have := HA3.out.kn.lt; omega
          clear hO4 hb4 hc4 hS4 hb0 hb1 hb2
          obtain ⟨hb0, hb1, hb2⟩ := HA4.out.cells
          have cT4 := Lib.hid (cT.out V4 K g4 o4 c4 HA4.out.nds HA4.out.kn HA4.out.bB HR4.out hne4 hg4 hcap4 htop4)
          unfold olv at cT4
          go_wp2_with fail
          refine cT4.out.mono ?_
          rintro e5 V5 ⟨rfl, K5, hK5, hq5, hg5⟩
          have HA5 := Lib.hid (HA4.out.on hg5 hK5)
          have HK5 := Lib.hid hq5
          have hkf : K5 i = false := by rw [hq5 i (Nat.le_refl _)]; exact hk
          clear hK5 hq5 hg5 hb0 hb1 hb2
          obtain ⟨⟨hv0, hv1, hv2, hv3⟩, he0, he1, he2, he3⟩ := blk4 HA5.out.kno
          unfold proV
          go_upto_region 11 with fail
          have HA6 : Hid (AH t ps B m n c b a W ((((V5.setCell ⟨W.heap.size + 2, 0, none⟩ (.bool p1)).setCell ⟨W.heap.size + 2, 1, none⟩ (.int .i64 (p2 : Int))).setCell ⟨W.heap.size + 2, 2, none⟩ (.int .i64 (p3 : Int))).setCell ⟨W.heap.size + 2, 3, none⟩ (.int .i64 (p4 : Int))) K5 (.bool p1) (.int .i64 (p2 : Int)) (.int .i64 (p3 : Int)) (.int .i64 (p4 : Int))) := Lib.hid (by
            obtain ⟨h1, h2⟩ := set_all HA5.out.kno (.bool p1) (.int .i64 (p2 : Int)) (.int .i64 (p3 : Int)) (.int .i64 (p4 : Int))
            exact HA5.out.put h1 h2)
          obtain ⟨V6, hV6⟩ : ∃ V6, ((((V5.setCell ⟨W.heap.size + 2, 0, none⟩ (.bool p1)).setCell ⟨W.heap.size + 2, 1, none⟩ (.int .i64 (p2 : Int))).setCell ⟨W.heap.size + 2, 2, none⟩ (.int .i64 (p3 : Int))).setCell ⟨W.heap.size + 2, 3, none⟩ (.int .i64 (p4 : Int))) = V6 := ⟨_, rfl⟩
          rw [hV6] at HA6 ⊢
          clear hV6 hv0 hv1 hv2 hv3 he0 he1 he2 he3
          obtain ⟨V8, hru, hk8, hg8⟩ := HA6.out.kn.update i hi hn1000 hkf
          have hru2 : (Instr.mapUpdate 59 (.map (some b)) (.int .i64 (i : Int)) (.agg #[.bool p1, .int .i64 (p2 : Int), .int .i64 (p3 : Int), .int .i64 (p4 : Int)])).run Try.prog V6 = .ok () V8 := by
            rw [HPI.out] at hru
            exact hru
          have HA8 := Lib.hid (HA6.out.on hg8 hk8)
          clear hru hk8 hg8
          obtain ⟨hb0, hb1, hb2⟩ := HA6.out.cells
          have hkno := HA6.out.kno
          obtain ⟨⟨hv0, hv1, hv2, hv3⟩, he0, he1, he2, he3⟩ := blk4 hkno
          have hres : V6.heap[W.heap.size + 1]? = some (.cells #[.bool false, .int .i64 0, .int .i64 0, .int .i64 0] 56) := HA6.out.res
          obtain ⟨⟨hr0, hr1, hr2, hr3⟩, hf0, hf1, hf2, hf3⟩ := blk4 hres
          clear hkno hres
          obtain ⟨⟨kv0, kv1, kv2, kv3⟩, _⟩ := blk4 HA8.out.kno
          obtain ⟨⟨kr0, kr1, kr2, kr3⟩, kf0, kf1, kf2, kf3⟩ := blk4 (show V8.heap[W.heap.size + 1]? = some (.cells #[.bool false, .int .i64 0, .int .i64 0, .int .i64 0] 56) from HA8.out.res)
          go_wp2_with fail
          clear hb0 hb1 hb2 hv0 hv1 hv2 hv3 he0 he1 he2 he3 hr0 hr1 hr2 hr3 hf0 hf1 hf2 hf3 kv0 kv1 kv2 kv3 kr0 kr1 kr2 kr3 kf0 kf1 kf2 kf3 hru2
          obtain ⟨hbf, hgf⟩ := set_all (show V8.heap[W.heap.size + 1]? = some (.cells #[.bool false, .int .i64 0, .int .i64 0, .int .i64 0] 56) from HA8.out.res) (.bool p1) (.int .i64 (p2 : Int)) (.int .i64 (p3 : Int)) (.int .i64 (p4 : Int))
          generalize ((((V8.setCell ⟨W.heap.size + 1, 0, none⟩ (.bool p1)).setCell ⟨W.heap.size + 1, 1, none⟩ (.int .i64 (p2 : Int))).setCell ⟨W.heap.size + 1, 2, none⟩ (.int .i64 (p3 : Int))).setCell ⟨W.heap.size + 1, 3, none⟩ (.int .i64 (p4 : Int))) = Wf at *
          obtain ⟨⟨g0, g1, g2, g3⟩, _⟩ := blk4 hbf
          refine bodyPost_ret (v := proV (⟨p1, p2, p3, p4⟩)) (by simp [results, Try.results36, go_sem, g0, g1, g2, g3, proV]) rfl ⟨rfl, _, HA8.out.kn.kept (hgf.block _ HA8.out.kn.lt (fun e => by injection e with e; omega)), fun q hq => (by show (K5 q || decide (q = i)) = K q; rw [decide_eq_false (by omega), Bool.or_false]; exact HK5.out q (by omega)), grown_far HA8.out.gb hgf (by omega)⟩

end Go.Proofs.Ytfehfjnmkaifbab.los
