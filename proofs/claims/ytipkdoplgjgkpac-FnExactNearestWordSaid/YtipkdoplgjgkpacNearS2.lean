/-
  The program's search for near words, with the closure of NearestWord.
-/
import Derived.Test.YtipkdoplgjgkpacNearK
import Derived.Deep.RegionHeld3
import Derived.Deep.DeepCutAuto
import Derived.IntWalk
import Derived.Laws.EntriesVeiled
namespace Go.Proofs.Ytipkdoplgjgkpac.nearestWord
open Go.RowKit
set_option linter.unusedVariables false

abbrev tellV (u0 u1 : Value) : Value := .func (.func 59) #[] #[u0, u1]
abbrev srchV (q2 q3 q4 q5 q6 : Nat) : Value := .func (.func 88) #[] #[.pointer (some ⟨q2, 0, none⟩), .pointer (some ⟨q3, 0, none⟩), .pointer (some ⟨q4, 0, none⟩), .pointer (some ⟨q5, 0, none⟩), .pointer (some ⟨q6, 0, none⟩)]

/-- the search's own variables -/
structure SB (E : World → Nat → Prop) (B0 q2 q3 q4 q5 q6 : Nat) (u0 u1 : Value) (s : ByteArray) (a : Option Addr) (n c : Nat) (t : List Nd) (W : World) : Prop where
  bw : KB q4 E W q2 (.string s)
  bt : KB q4 E W q3 (.slice a n c)
  bf : KB q4 E W q5 (tellV u0 u1)
  br : KB q4 E W q6 (srchV q2 q3 q4 q5 q6)
  far : q4 < W.heap.size
  nds : Nds B0 W a n c t
  base : B0 ≤ W.heap.size
theorem SB.on {E : World → Nat → Prop} {B0 q2 q3 q4 q5 q6 : Nat} {u0 u1 : Value} {s : ByteArray} {a : Option Addr} {n c : Nat} {t : List Nd} {W W' : World} (h : SB E B0 q2 q3 q4 q5 q6 u0 u1 s a n c t W) (k : KX B0 q4 E W W') : SB E B0 q2 q3 q4 q5 q6 u0 u1 s a n c t W' :=
  ⟨h.bw.on k, h.bt.on k, h.bf.on k, h.br.on k, Nat.lt_of_lt_of_le h.far k.size, h.nds.keep k.bel, Nat.le_trans h.base k.size⟩

/-- the far cell -/
def FarC (q4 : Nat) (W : World) (F : Int) : Prop := W.cell? ⟨q4, 0, none⟩ = some (.int .i64 F) ∧ W.frozen? ⟨q4, 0, none⟩ = false
theorem FarC.below {q4 : Nat} {W W' : World} {F : Int} (h : FarC q4 W F) (hq : q4 < W.heap.size) (hb : Below W.heap.size W W') : FarC q4 W' F := ⟨(hb.cell (p := ⟨q4, 0, none⟩) hq).trans h.1, (hb.frozen (p := ⟨q4, 0, none⟩) hq).trans h.2⟩
theorem FarC.block {q4 : Nat} {W W' : World} {F : Int} (h : FarC q4 W F) (hb : W'.heap[q4]? = W.heap[q4]?) : FarC q4 W' F := ⟨(World.cell?_of_block (a := ⟨q4, 0, none⟩) hb).trans h.1, (World.frozen?_of_block (a := ⟨q4, 0, none⟩) hb).trans h.2⟩

noncomputable def dst (sl : Txt) (ps : List Txt) (m : Nat) : Nat := lev sl (preA ps m) sl.length (preA ps m).length

/-- what the search does from a node on -/
def Done {σ : Type} (t : List Nd) (ps : List Txt) (sl : Txt) (upd : σ → Nat → Nat → σ) (fr : σ → Int) (J : σ → World → Prop) (E : World → Nat → Prop) (B0 q4 i : Nat) (s0 : σ) (W : World) (e : Ending) (W' : World) : Prop :=
  e = .returned (.tuple #[]) ∧ ∃ b, Behind t ps i b ∧ J (vfold t (dst sl ps) upd fr s0 i b) W' ∧ FarC q4 W' (fr (vfold t (dst sl ps) upd fr s0 i b)) ∧ KX B0 q4 E W W'

set_option maxRecDepth 1000000 in
set_option maxHeartbeats 8000000 in
theorem search_any {σ : Type} (t : List Nd) (ps : List Txt) (hv : Valid t ps) (s : ByteArray) (nn : Nat) (hnn : s.size + 1 = nn) (hs : s.size ≤ 12) (hlow : ∀ k (h : k < s.size), (s[k]'h).toNat < 128)
    (upd : σ → Nat → Nat → σ) (fr : σ → Int) (J : σ → World → Prop) (E : World → Nat → Prop) (B0 q2 q3 q4 q5 q6 : Nat) (hq4 : B0 ≤ q4) (u0 u1 : Value) (a : Option Addr) (n c : Nat) (hO : Ops q4 J E) (okS : σ → Nat → Prop) (ok1 : ∀ s0 i d, okS s0 i → okS (upd s0 i d) (i + 1)) (ok2 : ∀ s0 i j, okS s0 i → i ≤ j → okS s0 j)
    (hT : ∀ (s0 : σ) (i d : Nat) (x : Txt) (W : World), okS s0 i → J s0 W → SB E B0 q2 q3 q4 q5 q6 u0 u1 s a n c t W → ps[i]? = some x → (ndA t i).e = true → d ≤ 100 → (d : Int) ≤ fr s0 → d = dst s.data.toList ps i → Calls Try.prog 59 #[.int .i64 (i : Int), .int .i64 (d : Int), u0, u1] W fun e W' => e = .returned (.int .i64 (fr (upd s0 i d))) ∧ J (upd s0 i d) W' ∧ KX B0 q4 E W W' ∧ W'.heap[q4]? = W.heap[q4]?) :
    ∀ (f i : Nat) (x : Txt) (s0 : σ) (ar : Option Addr) (cr : Nat) (W : World), 13 ≤ x.length + f → ps[i]? = some x → KR q4 E W ar nn cr (irow (fun k => lev s.data.toList x k x.length) nn) → SB E B0 q2 q3 q4 q5 q6 u0 u1 s a n c t W → J s0 W → okS s0 i → FarC q4 W (fr s0) →
    Calls Try.prog 88 #[.int .i64 (i : Int), .slice ar nn cr, .pointer (some ⟨q2, 0, none⟩), .pointer (some ⟨q3, 0, none⟩), .pointer (some ⟨q4, 0, none⟩), .pointer (some ⟨q5, 0, none⟩), .pointer (some ⟨q6, 0, none⟩)] W (Done t ps s.data.toList upd fr J E B0 q4 i s0 W) := by
  intro f
  induction f with
  | zero =>
    intro i x s0 ar cr W hf hx
    have := hv.short x (at_mem hx)
    omega
  | succ f ih =>
    intro i x s0 ar cr W hf hx hR hSB hJ hok hF
    have HOK := Lib.hid hok
    have HOKf : Hid (∀ q, i ≤ q → okS (vfold t (dst s.data.toList ps) upd fr s0 i q) q) := Lib.hid (fun q h => vfold_ok t (dst s.data.toList ps) upd fr okS ok1 ok2 s0 i hok q h)
    clear hok
    have IH := Lib.hid ih
    have HX := Lib.hid hx
    have HR := Lib.hid hR
    have HSB := Lib.hid hSB
    have HJ := Lib.hid hJ
    have HF := Lib.hid hF
    have HV := Lib.hid hv
    have HT := Lib.hid hT
    have HO := Lib.hid hO
    have hx12 := hv.short x (at_mem hx)
    have hin : i < t.length := by have := (List.getElem?_eq_some_iff.1 hx).1; have := hv.lenEq; omega
    have hn481 : n ≤ 481 := by have := hv.size; have := hSB.nds.len; omega
    have HLn : Hid (t.length = n) := Lib.hid hSB.nds.len
    have hin2 : i < n := by have := hSB.nds.len; omega
    obtain ⟨L, hL⟩ : ∃ L : Nat → Nat, (fun k => lev s.data.toList x k x.length) = L := ⟨_, rfl⟩
    have HLdef := Lib.hid hL
    have hLle : L s.size ≤ 100 := by rw [← hL]; have := lev_le s.data.toList x s.size x.length; show lev _ _ _ _ ≤ 100; omega
    rw [hL] at HR
    have HDi : Hid (dst s.data.toList ps i = L s.size) := Lib.hid (by rw [← hL]; unfold dst; rw [preA_at hx]; rfl)
    have HNN := Lib.hid hnn
    have HLow := Lib.hid hlow
    clear ih hx hR hSB hJ hF hv hT hO hL hnn hlow
    obtain ⟨br, or_, er, hbr, hcr⟩ := HR.out.sl.spot s.size _ (irow_at L (show s.size < nn by have := HNN.out; omega))
    subst er
    have CR := HR.out.sl.cap
    have TR := HR.out.sl.top
    obtain ⟨b, o, l, p, en, rfl, hbB, hd, hl, hp, hc1, hc2, hc3⟩ := HSB.out.nds.elem i hin2
    have HD := Lib.hid hd
    have CN := HSB.out.nds.cap
    have TN := HSB.out.nds.top
    have hcw := HSB.out.bw.cell
    have hct := HSB.out.bt.cell
    have hcf := HSB.out.bf.cell
    have hc4 := HF.out.1
    have hf4 := HF.out.2
    have hi0 : (0 : Int) ≤ (i : Int) := by omega
    have hi1 : (i : Int) < (n : Int) := by omega
    have hs0' : (0 : Int) ≤ (s.size : Int) := by omega
    have hs1' : (s.size : Int) < (nn : Int) := by have := HNN.out; omega
    obtain ⟨d0, hd0⟩ : ∃ d0, L s.size = d0 := ⟨_, rfl⟩
    rw [hd0] at hLle HDi
    have hcr0 : W.cell? ⟨br, or_ + s.size, none⟩ = some (.int .i64 (d0 : Int)) := by rw [← hd0]; exact hcr
    clear hd hcr hd0
    go_enter Try.func88, Try.ntmps88
    go_step3
    apply wp_seq_k; intro _ _
    go_cut [9] (fun s9 wx => s9 = .int .i64 (d0 : Int) ∧ Hid (SB E B0 q2 q3 q4 q5 q6 u0 u1 s (some ⟨b, o, none⟩) n c t wx) ∧ Hid (J (vfold t (dst s.data.toList ps) upd fr s0 i (i + 1)) wx) ∧ Hid (FarC q4 wx (fr (vfold t (dst s.data.toList ps) upd fr s0 i (i + 1)))) ∧ Hid (KX B0 q4 E W wx))
    case first =>
      have hnd := ndA_at HD.out
      have HVi : Hid (vfold t (dst s.data.toList ps) upd fr s0 i (i + 1) = if (ndA t i).e = true ∧ (d0 : Int) ≤ fr s0 then upd s0 i d0 else s0) := Lib.hid (by rw [vfold_one]; unfold vis; rw [HDi.out])
      obtain ⟨F, hF0⟩ : ∃ F, fr s0 = F := ⟨_, rfl⟩
      have HF0 := Lib.hid hF0
      rw [hF0] at hc4
      cases en with
      | false =>
        have HV2 : Hid (vfold t (dst s.data.toList ps) upd fr s0 i (i + 1) = s0) := Lib.hid (by rw [HVi.out, hnd, if_neg (by simp)])
        clear hF0 hnd
        go_wp2
        go_meet
        exact ⟨rfl, HSB, Lib.hid (by rw [HV2.out]; exact HJ.out), Lib.hid (by rw [HV2.out]; exact HF.out), Lib.hid (KX.refl _)⟩
      | true =>
        by_cases hle : (d0 : Int) ≤ F
        · have cT : Hid (Calls Try.prog 59 #[.int .i64 (i : Int), .int .i64 (d0 : Int), u0, u1] W fun e W' => e = .returned (.int .i64 (fr (upd s0 i d0))) ∧ J (upd s0 i d0) W' ∧ KX B0 q4 E W W' ∧ W'.heap[q4]? = W.heap[q4]?) := Lib.hid (HT.out s0 i d0 x W HOK.out HJ.out HSB.out HX.out (by rw [hnd]) (by omega) (by rw [hF0]; exact hle) HDi.out.symm)
          have HV2 : Hid (vfold t (dst s.data.toList ps) upd fr s0 i (i + 1) = upd s0 i d0) := Lib.hid (by rw [HVi.out, hnd, hF0, if_pos ⟨rfl, hle⟩])
          obtain ⟨s1, hs1⟩ : ∃ s1, upd s0 i d0 = s1 := ⟨_, rfl⟩
          rw [hs1] at cT HV2
          obtain ⟨F1, hF1⟩ : ∃ F1, fr s1 = F1 := ⟨_, rfl⟩
          have HF1 := Lib.hid hF1
          rw [hF1] at cT
          clear hF0 hnd hs1 hF1
          go_wp2_with fail
          refine cT.out.mono ?_
          rintro e W1 ⟨rfl, hJ1, hK1, hb1⟩
          have HK1 := Lib.hid hK1
          have HFa : Hid (FarC q4 W1 F) := Lib.hid (by have := HF.out; rw [HF0.out] at this; exact this.block hb1)
          have hc4' := HFa.out.1
          have hf4' := HFa.out.2
          have HJ2 := Lib.hid (HO.out.far s1 W1 (.int .i64 F1) hJ1)
          have HK2 : Hid (KX B0 q4 E W (W1.setCell ⟨q4, 0, none⟩ (.int .i64 F1))) := Lib.hid (hK1.trans (KX.of_far _ hq4 HJ2.out.2))
          clear hJ1 hK1 hb1
          go_wp2
          go_meet
          refine ⟨rfl, Lib.hid (HSB.out.on HK2.out), Lib.hid (by rw [HV2.out]; exact HJ2.out.1), Lib.hid ?_, HK2⟩
          rw [HV2.out, HF1.out]
          exact ⟨World.cell?_setCell_same' _ _ _ (by rw [HFa.out.1]; rfl), (World.frozen?_setCell _ _ _ _).trans HFa.out.2⟩
        · have HV2 : Hid (vfold t (dst s.data.toList ps) upd fr s0 i (i + 1) = s0) := Lib.hid (by rw [HVi.out, hF0, if_neg (fun h => hle h.2)])
          clear hF0 hnd
          go_wp2
          go_meet
          exact ⟨rfl, HSB, Lib.hid (by rw [HV2.out]; exact HJ.out), Lib.hid (by rw [HV2.out]; exact HF.out), Lib.hid (KX.refl _)⟩
    case rest =>
      obtain ⟨rfl, HSB1, HJ1, HF1, HK1⟩ := hcut
      rename World => W1
      have HR1 := Lib.hid (HR.out.on HK1.out)
      obtain ⟨ks, hks⟩ : ∃ ks, kidsTo t i t.length = ks := ⟨_, rfl⟩
      have hkn : kidsTo t i n = ks := by rw [← HLn.out]; exact hks
      have HKs := Lib.hid hks
      have cK := Lib.hid (kidsAt_any B0 (some ⟨b, o, none⟩) n c i t ps W1 HSB1.out.base HSB1.out.nds (by omega) HV.out.tells hin2)
      rw [hkn] at cK
      obtain ⟨m, hm⟩ : ∃ m, ks.length = m := ⟨_, rfl⟩
      have HM := Lib.hid hm
      rw [hm] at cK
      have hmn : m ≤ 481 := by have := kidsTo_le (t := t) (i := i) n; rw [hkn, hm] at this; omega
      have hct1 := HSB1.out.bt.cell
      have HEl := Lib.hid (fun b h => HO.out.lt _ W1 b HJ1.out h)
      clear hcw hct hcf hc4 hf4 hc1 hc2 hc3 hcr0 HSB HJ HF HR hks hkn hm
      go_wp2_with fail
      go_step3
      go_wp2_with fail
      refine cK.out.mono ?_
      rintro e W2 ⟨vk, rfl, hOk, hb2⟩
      obtain ⟨ak, ck, rfl⟩ := own_slice hOk
      have HJE := Lib.hid (HO.out.below _ W1 W2 HJ1.out hb2)
      have HK2 : Hid (KX B0 q4 E W1 W2) := Lib.hid (KX.of_below hb2 HSB1.out.base HJE.out.2)
      have HKr : Hid (KR q4 E W2 ak m ck (nums ks)) := Lib.hid (KR.own hOk HSB1.out.far (fun b hE => HEl.out b (HJE.out.2 b hE)))
      have HSB2 := Lib.hid (HSB1.out.on HK2.out)
      have HR2 := Lib.hid (HR1.out.on HK2.out)
      have HF2 : Hid (FarC q4 W2 (fr (vfold t (dst s.data.toList ps) upd fr s0 i (i + 1)))) := Lib.hid (HF1.out.below HSB1.out.far hb2)
      have HJ2 : Hid (J (vfold t (dst s.data.toList ps) upd fr s0 i (i + 1)) W2) := Lib.hid HJE.out.1
      have HKX2 : Hid (KX B0 q4 E W W2) := Lib.hid (HK1.out.trans HK2.out)
      have CKr := HKr.out.sl.cap
      have TKr := HKr.out.sl.top
      clear hOk hb2 hct1 HJE HK2 HSB1 HR1 HF1 HJ1 HK1 HEl cK
      have HKP : Hid (KidPos t ps i (i + 1) 0) := Lib.hid (KidPos.start HV.out hin)
      go_wp2_with fail
      go_loopw [11, 12, 14, 39] (fun v1 v2 v3 p wr => ∃ (j q : Nat), j ≤ m ∧ p = .int .i64 j ∧ (∃ v : Value, v1 = v) ∧ (∃ v : Value, v2 = v) ∧ (∃ v : Value, v3 = v) ∧ Hid (KidPos t ps i q j) ∧ Hid (J (vfold t (dst s.data.toList ps) upd fr s0 i q) wr) ∧ Hid (FarC q4 wr (fr (vfold t (dst s.data.toList ps) upd fr s0 i q))) ∧ Hid (KX B0 q4 E W wr) ∧ Hid (SB E B0 q2 q3 q4 q5 q6 u0 u1 s (some ⟨b, o, none⟩) n c t wr) ∧ Hid (KR q4 E wr (some ⟨br, or_, none⟩) nn cr (irow L nn)) ∧ Hid (KR q4 E wr ak m ck (nums ks))) (fun _ _ _ p _ => m - (intOf p).toNat)
      case atStart => exact ⟨0, i + 1, Nat.zero_le _, rfl, ⟨_, rfl⟩, ⟨_, rfl⟩, ⟨_, rfl⟩, HKP, HJ2, HF2, HKX2, HSB2, HR2, HKr⟩
      case round =>
        clear HKP HJ2 HF2 HKX2 HSB2 HR2 HKr
        obtain ⟨j, q, hj, rfl, ⟨v1, rfl⟩, ⟨v2, rfl⟩, ⟨v3, rfl⟩, HKP, HJ, HF, HKX, HSB, HR, HKr⟩ := hrel
        by_cases hlt : j < m
        · have hjl : j < (kidsTo t i t.length).length := by rw [HKs.out, HM.out]; exact hlt
          have hkq := HKP.out.at_kid HV.out hjl
          rw [HKs.out] at hkq
          obtain ⟨dq, hdq, hpq⟩ := HKP.out.kid HV.out hjl
          have hqn : q < n := by have := (List.getElem?_eq_some_iff.1 hdq).1; have := HLn.out; omega
          have hqi : i < q := HKP.out.gt
          obtain ⟨cc, hcc⟩ := (par_iff HV.out.tells HX.out (by omega) hdq).1 hpq
          have hlq := ((kid_iff HV.out.tells HX.out (by omega) hdq).2 hcc).2
          have hlow := HV.out.tells.low q _ hcc cc (by simp)
          obtain ⟨bk, ok_, ek, hbk, hck⟩ := HKr.out.sl.spot j _ (nums_at hkq)
          subst ek
          obtain ⟨b', o', l', p', en', e', hbB', hd', hl', hp', hc1', hc2', hc3'⟩ := HSB.out.nds.elem q hqn
          have eN : dq = ⟨l', p', en'⟩ := by rw [hdq] at hd'; exact Option.some.inj hd'
          injection e' with e'; injection e' with e' e''; subst e'; subst e''
          have HQ := Lib.hid hcc
          have hx12' := HV.out.short _ (at_mem hcc)
          rw [List.length_append, List.length_singleton] at hx12'
          obtain ⟨z, hz⟩ : ∃ z, cc.toNat = z := ⟨_, rfl⟩
          have HZ := Lib.hid hz
          have hlz : l' = (z : Int) - 97 := by rw [← hz, ← hlq, eN]
          rw [hz] at hlow
          have hw1 : IntKind.i64.wrap (97 + l') = (z : Int) := by rw [IntWalk.i64_in _ (by omega)]; omega
          have hw2 : IntKind.i32.wrap (z : Int) = (z : Int) := IntWalk.i32_in _ (by omega)
          have hcw := HSB.out.bw.cell
          have hct := HSB.out.bt.cell
          have hj0 : (0 : Int) ≤ (j : Int) := by omega
          have hj1 : (j : Int) < (m : Int) := by omega
          have hq0 : (0 : Int) ≤ (q : Int) := by omega
          have hq1 : (q : Int) < (n : Int) := by omega
          obtain ⟨G, hG⟩ : ∃ G : Nat → Nat, (fun k => lev s.data.toList (x ++ [cc]) k (x ++ [cc]).length) = G := ⟨_, rfl⟩
          have HGdef := Lib.hid hG
          have hGx : ∀ k, G k = lev s.data.toList (x ++ [cc]) k (x.length + 1) := fun k => by rw [← hG]; simp
          have hLx : ∀ k, L k = lev s.data.toList (x ++ [cc]) k x.length := fun k => by rw [← HLdef.out, lev_ext _ _ _ _ _ (Nat.le_refl _)]
          have cN : Hid (∀ W', Below wr.heap.size wr W' → Calls Try.prog 90 #[.slice (some ⟨br, or_, none⟩) nn cr, .string s, .int .i32 (z : Int)] W' fun e w' => e = .returned (.slice (some ⟨W'.heap.size, 0, none⟩) nn nn) ∧ w'.ownsRow W'.heap.size 3 1 (.slice (some ⟨W'.heap.size, 0, none⟩) nn nn) nn (irow G nn) ∧ Below W'.heap.size W' w') := Lib.hid (fun W' hb => nextRow_any wr.heap.size (some ⟨br, or_, none⟩) cr nn L G s z W' hb.size HNN.out hs HLow.out (HR.out.sl.keep hb)
            (fun k hk => by rw [hLx]; have := lev_le s.data.toList (x ++ [cc]) k x.length; have := HNN.out; omega)
            (fun k hk => by rw [hGx]; have := lev_le s.data.toList (x ++ [cc]) k (x.length + 1); have := HNN.out; omega)
            (by rw [hGx, hLx, lev_o, lev_o])
            (fun k h => by
              have hb1 : k < s.data.toList.length := by simpa using h
              have e1 : s.data.toList[k]? = some (s[k]'h) := by rw [List.getElem?_eq_getElem hb1]; rfl
              have e2 : (x ++ [cc])[x.length]? = some cc := by simp
              rw [hGx, hGx, hLx, hLx, lev_ss]
              have hmm : mism s.data.toList (x ++ [cc]) k x.length = if (s[k]'h).toNat = z then 0 else 1 := by
                unfold mism
                rw [e1, e2, ← HZ.out]
                by_cases e : (s[k]'h).toNat = cc.toNat
                · rw [if_pos e, if_pos (by rw [UInt8.toNat_inj.1 e])]
                · rw [if_neg e, if_neg (fun h => e (by rw [Option.some.inj h]))]
              rw [hmm]
              omega))
          clear hG hGx hLx hz hcc hlq hdq hd' hpq eN hkq hc2' hc3' hlz
          have HBd : Hid (Below wr.heap.size wr wr.drew) := Lib.hid (Below.refl _ _).drew
          go_wp2_with fail
          have HS3 : Hid (wr.drew.cell? ⟨q2, 0, none⟩ = some (.string s) ∧ wr.drew.cell? ⟨q3, 0, none⟩ = some (.slice (some ⟨b, o, none⟩) n c) ∧ wr.drew.cell? ⟨b, o + q * 3, none⟩ = some (.int .i64 l')) := Lib.hid ⟨hcw, hct, hc1'⟩
          go_region_held3 (fun w' => w'.cell? ⟨q2, 0, none⟩ = some (.string s) ∧ w'.cell? ⟨q3, 0, none⟩ = some (.slice (some ⟨b, o, none⟩) n c) ∧ w'.cell? ⟨b, o + q * 3, none⟩ = some (.int .i64 l'))
            (first
              | with_reducible exact ⟨hcw, hct, hc1'⟩
              | with_reducible exact HS3.out
              | exact ⟨(hb3.cell (p := ⟨q2, 0, none⟩) HSB.out.bw.lt).trans hcw, (hb3.cell (p := ⟨q3, 0, none⟩) HSB.out.bt.lt).trans hct, (hb3.cell (p := ⟨b, o + q * 3, none⟩) (Nat.lt_of_lt_of_le hbB' HSB.out.base)).trans hc1'⟩)
            (first
              | (go_at_call 90; refine (cN.out _ HBd.out).mono ?_; rintro e w3 ⟨rfl, hO3, hb3⟩))
          have HB3 : Hid (Below wr.heap.size wr w3) := Lib.hid (HBd.out.trans (hb3.mono (Nat.le_refl _)))
          have hsz3 : wr.drew.heap.size = wr.heap.size := rfl
          rw [hsz3] at hO3
          have HJE := Lib.hid (HO.out.below _ wr w3 HJ.out HB3.out)
          have HK3 : Hid (KX B0 q4 E wr w3) := Lib.hid (KX.of_below HB3.out HSB.out.base HJE.out.2)
          have HN3 : Hid (KR q4 E w3 (some ⟨wr.heap.size, 0, none⟩) nn nn (irow G nn)) := Lib.hid (KR.own hO3 HSB.out.far (fun b hE => HO.out.lt _ wr b HJ.out (HJE.out.2 b hE)))
          have HSB3 := Lib.hid (HSB.out.on HK3.out)
          have HR3 := Lib.hid (HR.out.on HK3.out)
          have HKr3 := Lib.hid (HKr.out.on HK3.out)
          have HF3 := Lib.hid (HF.out.below HSB.out.far HB3.out)
          have HJ3 := Lib.hid HJE.out.1
          have HKX3 := Lib.hid (HKX.out.trans HK3.out)
          have hc4 := HF3.out.1
          have hcs := HSB3.out.br.cell
          try simp only [hsz3]
          obtain ⟨g3, hg3⟩ : ∃ g3, wr.heap.size = g3 := ⟨_, rfl⟩
          rw [hg3] at HN3 ⊢
          clear hg3 hO3 hb3 hsz3 HJE HK3 HSB HR HKr HF HJ HKX HB3 HBd cN hcw hct hc1' hck
          obtain ⟨sq, hsq⟩ : ∃ sq, vfold t (dst s.data.toList ps) upd fr s0 i q = sq := ⟨_, rfl⟩
          have HSq := Lib.hid hsq
          rw [hsq] at HJ3 HF3 hc4
          obtain ⟨F, hF0⟩ : ∃ F, fr sq = F := ⟨_, rfl⟩
          have HF0 := Lib.hid hF0
          rw [hF0] at hc4
          clear hsq hF0
          go_wp2_with fail
          go_loop [14, 56] (fun v3 p => ∃ (k : Nat), k ≤ nn ∧ p = .int .i64 k ∧ (∃ v : Value, v3 = v) ∧ Hid (∀ k', k' < k → F < (G k' : Int))) (fun _ p => nn - (intOf p).toNat)
          case atStart => exact ⟨0, Nat.zero_le _, rfl, ⟨_, rfl⟩, Lib.hid (fun k' h => absurd h (by omega))⟩
          case round =>
            obtain ⟨k, hk, rfl, ⟨v3, rfl⟩, HA⟩ := hrel
            by_cases hlt2 : k < nn
            · obtain ⟨b9, o9, e9, hb9, hcg⟩ := HN3.out.sl.spot k _ (irow_at G hlt2)
              injection e9 with e9; injection e9 with e9 e9'; subst e9; subst e9'
              rw [Nat.zero_add] at hcg
              have hk0 : (0 : Int) ≤ (k : Int) := by omega
              have hk1 : (k : Int) < (nn : Int) := by omega
              obtain ⟨gk, hgk⟩ : ∃ gk, G k = gk := ⟨_, rfl⟩
              have HGk := Lib.hid hgk
              rw [hgk] at hcg
              clear hgk
              by_cases hle : (gk : Int) ≤ F
              · have cS := Lib.hid (IH.out q (x ++ [cc]) sq (some ⟨g3, 0, none⟩) nn w3 (by simp; omega) HQ.out (by rw [HGdef.out]; exact HN3.out) HSB3.out HJ3.out (by rw [← HSq.out]; exact HOKf.out q (by omega)) (by rw [HF0.out] at HF3 ⊢; exact HF3.out))
                go_wp2_with fail
                refine cS.out.mono ?_
                rintro e w5 ⟨rfl, b5, hb5, hJ5, hF5, hK5⟩
                have HJ5 : Hid (J (vfold t (dst s.data.toList ps) upd fr s0 i b5) w5) := Lib.hid (by rw [← HSq.out, vfold_app t _ upd fr s0 (by omega) (by have := hb5.lt; omega)] at hJ5; exact hJ5)
                have HF5 : Hid (FarC q4 w5 (fr (vfold t (dst s.data.toList ps) upd fr s0 i b5))) := Lib.hid (by rw [← HSq.out, vfold_app t _ upd fr s0 (by omega) (by have := hb5.lt; omega)] at hF5; exact hF5)
                have HP5 := Lib.hid (HKP.out.step HV.out hjl hb5)
                have HK5 := Lib.hid hK5
                clear hJ5 hF5 hK5 hb5
                go_wp2
                go_roundw
                case rel => exact ⟨j + 1, b5, by omega, by go_num, ⟨_, rfl⟩, ⟨_, rfl⟩, ⟨_, rfl⟩, HP5, HJ5, HF5, Lib.hid (HKX3.out.trans HK5.out), Lib.hid (HSB3.out.on HK5.out), Lib.hid (HR3.out.on HK5.out), Lib.hid (HKr3.out.on HK5.out)⟩
                case measure => simp [intOf]; omega
              · have HA2 : Hid (∀ k', k' < k + 1 → F < (G k' : Int)) := Lib.hid (fun k' h => by
                  by_cases e : k' = k
                  · subst e; rw [HGk.out]; omega
                  · exact HA.out k' (by omega))
                go_wp2
                go_round
                case rel => exact ⟨k + 1, by omega, by go_num, ⟨_, rfl⟩, HA2⟩
                case measure => simp [intOf]; omega
            · have hkn : k = nn := by omega
              obtain ⟨b5, hb5⟩ := behind_ex HV.out (show q < t.length by have := HLn.out; omega)
              have HSk : Hid (vfold t (dst s.data.toList ps) upd fr s0 i b5 = sq) := Lib.hid (by
                rw [← vfold_app t _ upd fr s0 (show i ≤ q by omega) (show q ≤ b5 by have := hb5.lt; omega), HSq.out]
                refine vfold_skip t _ upd fr sq q b5 (fun m' h1 h2 he => ?_)
                have hm' : m' < t.length := by have := hb5.le; omega
                obtain ⟨_, y, _, hy⟩ := HV.out.tells.at hm'
                obtain ⟨r, rfl⟩ := (hb5.iff HV.out.tells HQ.out hy).2 ⟨h1, h2⟩
                unfold dst
                rw [preA_at hy, HF0.out]
                refine lev_far s.data.toList (x ++ [cc]) F r (fun k' hk' => ?_)
                have hsl : s.data.toList.length = s.size := by simp
                have h9 := HA.out k' (by have := HNN.out; omega)
                rw [← HGdef.out] at h9
                exact h9)
              have HJ5 : Hid (J (vfold t (dst s.data.toList ps) upd fr s0 i b5) w3) := Lib.hid (by rw [HSk.out]; exact HJ3.out)
              have HF5 : Hid (FarC q4 w3 (fr (vfold t (dst s.data.toList ps) upd fr s0 i b5))) := Lib.hid (by rw [HSk.out]; exact HF3.out)
              have HP5 := Lib.hid (HKP.out.step HV.out hjl hb5)
              clear hb5 hkn
              go_wp2
              go_roundw
              case rel => exact ⟨j + 1, b5, by omega, by go_num, ⟨_, rfl⟩, ⟨_, rfl⟩, ⟨_, rfl⟩, HP5, HJ5, HF5, HKX3, HSB3, HR3, HKr3⟩
              case measure => simp [intOf]; omega
        · have HBh : Hid (Behind t ps i q) := Lib.hid (HKP.out.fin HV.out (by rw [HKs.out, HM.out]; omega))
          go_wp2
          try rw [Exit.noGoto_normal]
          go_end0
          exact ⟨rfl, q, HBh.out, HJ.out, HF.out, HKX.out⟩

set_option maxRecDepth 1000000 in
set_option maxHeartbeats 4000000 in
theorem searchNear_any {σ : Type} (t : List Nd) (ps : List Txt) (hv : Valid t ps) (s : ByteArray) (hs : s.size ≤ 12) (hlow : ∀ k (h : k < s.size), (s[k]'h).toNat < 128)
    (upd : σ → Nat → Nat → σ) (fr : σ → Int) (J : σ → World → Prop) (E : World → Nat → Prop) (B0 : Nat) (u0 u1 : Value) (a : Option Addr) (n c : Nat) (W : World) (hB : B0 ≤ W.heap.size) (hN : Nds B0 W a n c t) (hO : Ops (W.heap.size + 1 + 1) J E) (okS : σ → Nat → Prop) (ok1 : ∀ s0 i d, okS s0 i → okS (upd s0 i d) (i + 1)) (ok2 : ∀ s0 i j, okS s0 i → i ≤ j → okS s0 j)
    (hT : ∀ (s0 : σ) (i d : Nat) (x : Txt) (W' : World), okS s0 i → J s0 W' → SB E B0 (W.heap.size + 1) W.heap.size (W.heap.size + 1 + 1) (W.heap.size + 1 + 1 + 1) (W.heap.size + 1 + 1 + 1 + 1) u0 u1 s a n c t W' → ps[i]? = some x → (ndA t i).e = true → d ≤ 100 → (d : Int) ≤ fr s0 → d = dst s.data.toList ps i → Calls Try.prog 59 #[.int .i64 (i : Int), .int .i64 (d : Int), u0, u1] W' fun e W'' => e = .returned (.int .i64 (fr (upd s0 i d))) ∧ J (upd s0 i d) W'' ∧ KX B0 (W.heap.size + 1 + 1) E W' W'' ∧ W''.heap[W.heap.size + 1 + 1]? = W'.heap[W.heap.size + 1 + 1]?)
    (s0 : σ) (hJ : J s0 W) (hok : okS s0 0) (z : Int) (hz : fr s0 = z) :
    Calls Try.prog 51 #[.agg #[.slice a n c], .string s, .int .i64 z, tellV u0 u1] W fun e W' => e = .returned (.tuple #[]) ∧ J (vfold t (dst s.data.toList ps) upd fr s0 0 t.length) W' ∧ KX B0 (W.heap.size + 1 + 1) E W W' := by
  have hx0 := hv.tells.nil
  obtain ⟨nn, hnn⟩ : ∃ nn, s.size + 1 = nn := ⟨_, rfl⟩
  have cR := Lib.hid (fun w => firstRow_any s nn w hnn hs)
  obtain ⟨sv, hsv⟩ : ∃ sv, srchV (W.heap.size + 1) W.heap.size (W.heap.size + 1 + 1) (W.heap.size + 1 + 1 + 1) (W.heap.size + 1 + 1 + 1 + 1) = sv := ⟨_, rfl⟩
  obtain ⟨Wz, hWz⟩ : ∃ Wz, ((((W.alloc (.cells #[.slice a n c] 30)).alloc (.cells #[.string s] 9)).alloc (.cells #[.int .i64 z] 3)).alloc (.cells #[tellV u0 u1] 70)).alloc (.cells #[sv] 101) = Wz := ⟨_, rfl⟩
  have hb0 : Below W.heap.size W Wz := by rw [← hWz]; exact (((((Below.refl _ W).alloc (Nat.le_refl _) _).alloc (by simp) _).alloc (by simp; omega) _).alloc (by simp; omega) _).alloc (by simp; omega) _
  have hBs : Wz.heap.size = W.heap.size + 5 := by rw [← hWz]; simp
  have b0 : Boxed Wz W.heap.size 30 (.slice a n c) := by rw [← hWz]; exact ((((Boxed.new W _ _).alloc _).alloc _).alloc _).alloc _
  have b1 : Boxed Wz (W.heap.size + 1) 9 (.string s) := by
    rw [← hWz]
    have h := (((Boxed.new (W.alloc (.cells #[.slice a n c] 30)) 9 (.string s)).alloc (.cells #[.int .i64 z] 3)).alloc (.cells #[tellV u0 u1] 70)).alloc (.cells #[sv] 101)
    simpa only [World.size_alloc] using h
  have b2 : Boxed Wz (W.heap.size + 1 + 1) 3 (.int .i64 z) := by
    rw [← hWz]
    have h := ((Boxed.new ((W.alloc (.cells #[.slice a n c] 30)).alloc (.cells #[.string s] 9)) 3 (.int .i64 z)).alloc (.cells #[tellV u0 u1] 70)).alloc (.cells #[sv] 101)
    simpa only [World.size_alloc] using h
  have b3 : Boxed Wz (W.heap.size + 1 + 1 + 1) 70 (tellV u0 u1) := by
    rw [← hWz]
    have h := (Boxed.new (((W.alloc (.cells #[.slice a n c] 30)).alloc (.cells #[.string s] 9)).alloc (.cells #[.int .i64 z] 3)) 70 (tellV u0 u1)).alloc (.cells #[sv] 101)
    simpa only [World.size_alloc] using h
  have b4 : Boxed Wz (W.heap.size + 1 + 1 + 1 + 1) 101 sv := by
    rw [← hWz]
    have h := Boxed.new ((((W.alloc (.cells #[.slice a n c] 30)).alloc (.cells #[.string s] 9)).alloc (.cells #[.int .i64 z] 3)).alloc (.cells #[tellV u0 u1] 70)) 101 sv
    simpa only [World.size_alloc] using h
  have HBx := Lib.hid (And.intro b0 (And.intro b1 (And.intro b2 (And.intro b3 b4))))
  have HBz := Lib.hid hb0
  have HBs := Lib.hid hBs
  rw [← hsv] at HBx hWz
  have HWz := Lib.hid hWz
  have HV := Lib.hid hv
  have HT := Lib.hid hT
  have HO := Lib.hid hO
  have HJ := Lib.hid hJ
  have HN := Lib.hid hN
  have HZ := Lib.hid hz
  have HX0 := Lib.hid hx0
  have HNN := Lib.hid hnn
  have HOk := Lib.hid hok
  clear hWz hb0 b0 b1 b2 b3 b4 hBs hsv hv hT hO hJ hN hz hx0 hnn hok
  go_enter Try.func51, Try.ntmps51
  go_wp2_with fail
  rw [HWz.out]
  clear HWz
  obtain ⟨W5, hW5⟩ : ∃ W5, Wz = W5 := ⟨_, rfl⟩
  rw [hW5] at HBx HBz HBs ⊢
  clear hW5
  obtain ⟨L, hL⟩ : ∃ L, W.heap.size = L := ⟨_, rfl⟩
  have HLh := Lib.hid hL
  have HE9 : Hid (irow (fun k => lev s.data.toList [] k ([] : Txt).length) nn = irow (fun k => k) nn) := Lib.hid (congrArg (fun f => irow f nn) (funext (fun k => lev_z _ _ k)))
  have HJE := Lib.hid (HO.out.below s0 W W5 HJ.out HBz.out)
  have HE : Hid (∀ q, L ≤ q → ¬ E W5 q) := Lib.hid (fun q h e => by have := HO.out.lt s0 W q HJ.out (HJE.out.2 q e); omega)
  have HKX5 : Hid (KX B0 (W.heap.size + 1 + 1) E W W5) := Lib.hid (KX.of_below HBz.out hB HJE.out.2)
  have HN5 := Lib.hid (HN.out.keep (HBz.out.mono hB))
  have hB5 : B0 ≤ W5.heap.size := by rw [HBs.out]; omega
  simp only [hL] at HBx HBs HT HO HE HKX5 ⊢
  have HSB5 : Hid (SB E B0 (L + 1) L (L + 1 + 1) (L + 1 + 1 + 1) (L + 1 + 1 + 1 + 1) u0 u1 s a n c t W5) := Lib.hid (by
    have hsz := HBs.out
    obtain ⟨x0, x1, x2, x3, x4⟩ := HBx.out
    exact ⟨⟨x1.cell, by omega, HE.out _ (by omega), by omega⟩, ⟨x0.cell, by omega, HE.out _ (by omega), by omega⟩, ⟨x3.cell, by omega, HE.out _ (by omega), by omega⟩, ⟨x4.cell, by omega, HE.out _ (by omega), by omega⟩, by omega, HN5.out, hB5⟩)
  have HF5 : Hid (FarC (L + 1 + 1) W5 (fr s0)) := Lib.hid (by rw [HZ.out]; exact ⟨HBx.out.2.2.1.cell, HBx.out.2.2.1.frozen⟩)
  have HJ5 : Hid (J s0 W5) := Lib.hid HJE.out.1
  have hc6 := HBx.out.2.2.2.2.cell
  have hc2 := HBx.out.2.1.cell
  clear hL HBz HJE HJ HN HN5 HBs hB5
  have HC5 : Hid (W5.drew.cell? ⟨L + 1 + 1 + 1 + 1, 0, none⟩ = some (srchV (L + 1) L (L + 1 + 1) (L + 1 + 1 + 1) (L + 1 + 1 + 1 + 1)) ∧ W5.drew.cell? ⟨L + 1, 0, none⟩ = some (.string s)) := Lib.hid ⟨hc6, hc2⟩
  have HSd : Hid (SB E B0 (L + 1) L (L + 1 + 1) (L + 1 + 1 + 1) (L + 1 + 1 + 1 + 1) u0 u1 s a n c t W5) := HSB5
  go_wp2_with fail
  go_region_held3 (fun w' => w'.cell? ⟨L + 1 + 1 + 1 + 1, 0, none⟩ = some (srchV (L + 1) L (L + 1 + 1) (L + 1 + 1 + 1) (L + 1 + 1 + 1 + 1)) ∧ w'.cell? ⟨L + 1, 0, none⟩ = some (.string s))
    (first
      | with_reducible exact HC5.out
      | exact ⟨(hb6.cell (p := ⟨L + 1 + 1 + 1 + 1, 0, none⟩) HSB5.out.br.lt).trans hc6, (hb6.cell (p := ⟨L + 1, 0, none⟩) HSB5.out.bw.lt).trans hc2⟩
      | exact ⟨(hD7.2.2.br).cell, (hD7.2.2.bw).cell⟩)
    (first
      | (go_at_call 91; refine (cR.out _).mono ?_; rintro e w6 ⟨rfl, hO6, hb6⟩; have hb6' : Below W5.heap.size W5 w6 := (Below.refl _ _).drew.trans hb6; have hJ6 := HO.out.below s0 W5 w6 HJ5.out hb6'; have hK6 : KX B0 (L + 1 + 1) E W5 w6 := KX.of_below hb6' HSB5.out.base hJ6.2; have hS6 := HSB5.out.on hK6; have hF6 := HF5.out.below HSB5.out.far hb6'; have hR6 : KR (L + 1 + 1) E w6 (some ⟨W5.drew.heap.size, 0, none⟩) nn nn (irow (fun k => k) nn) := KR.own hO6 HSB5.out.far (fun b hE => HO.out.lt s0 W5 b HJ5.out (hJ6.2 b hE)))
      | (go_at_call 88; refine (search_any t ps HV.out s nn HNN.out hs hlow upd fr J E B0 (L + 1) L (L + 1 + 1) (L + 1 + 1 + 1) (L + 1 + 1 + 1 + 1) (by have := HLh.out; omega) u0 u1 a n c HO.out okS ok1 ok2 HT.out 13 0 [] s0 _ nn w6 (by simp) HX0.out (by rw [HE9.out]; exact hR6) hS6 hJ6.1 HOk.out hF6).mono ?_; rintro e w7 ⟨rfl, b7, hb7, hJ7, hF7, hK7⟩; have hD7 : J (vfold t (dst s.data.toList ps) upd fr s0 0 b7) w7 ∧ KX B0 (L + 1 + 1) E W w7 ∧ SB E B0 (L + 1) L (L + 1 + 1) (L + 1 + 1 + 1) (L + 1 + 1 + 1 + 1) u0 u1 s a n c t w7 := ⟨hJ7, (HKX5.out.trans hK6).trans hK7, hS6.on hK7⟩))
  have hb7n : b7 = t.length := by
    have h1 := hb7.le
    apply Classical.byContradiction
    intro hne
    obtain ⟨_, y, _, hy⟩ := HV.out.tells.at (show b7 < t.length by omega)
    exact hb7.stop [] y HX0.out hy (List.nil_prefix)
  have HD7 := Lib.hid hD7
  go_wp2
  go_end0
  exact ⟨rfl, by rw [← hb7n]; exact HD7.out.1, by have h9 := HD7.out.2.1; rw [← HLh.out] at h9; exact h9⟩

end Go.Proofs.Ytipkdoplgjgkpac.nearestWord
