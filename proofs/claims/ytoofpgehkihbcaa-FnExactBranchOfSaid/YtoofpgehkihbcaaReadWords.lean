/-
  The program's reading of the texts of a pressed tree, which may be of any form.
-/
import Derived.Test.YtoofpgehkihbcaaBrs
import Derived.Test.YtoofpgehkihbcaaPrT
import Derived.Test.YtoofpgehkihbcaaWord
import Derived.Test.YtoofpgehkihbcaaWords
import Derived.Test.YtoofpgehkihbcaaGrew
import Derived.Deep.QuietTactic
import Derived.BigQuiet
namespace Go.Proofs.Ytoofpgehkihbcaa
open Go.RowKit
set_option linter.unusedVariables false

/-- a branch that may be the next -/
def NextB (qs : List Txt) (k : Nat) (d : Br) : Prop := 1 ≤ k → IsW d.l ∧ ∃ (j : Nat) (x : Txt), d.p = (j : Int) ∧ j < k ∧ qs[j]? = some x

theorem told_zero (p : List Br) : ToldB p 0 [] := ⟨rfl, Nat.zero_le _, fun h => by omega, fun i d h1 h2 => by omega⟩

theorem told_root {p : List Br} (h : 0 < p.length) : ToldB p 1 [[]] := ⟨rfl, h, fun _ => rfl, fun i d h1 h2 => by omega⟩

theorem told_next {p : List Br} {k j : Nat} {qs : List Txt} {d : Br} {x : Txt} (h : ToldB p k qs) (hk : 1 ≤ k) (hd : p[k]? = some d) (hw : IsW d.l) (hp : d.p = (j : Int)) (hj : j < k) (hx : qs[j]? = some x) : ToldB p (k + 1) (qs ++ [x ++ d.l]) := by
  have hl := h.len
  refine ⟨by simp [hl], (List.getElem?_eq_some_iff.1 hd).1, fun _ => by rw [List.getElem?_append_left (by omega)]; exact h.nil hk, fun i d' h1 h2 hd' => ?_⟩
  by_cases e : i = k
  · subst e
    rw [hd] at hd'
    obtain rfl := Option.some.inj hd'
    exact ⟨hw, j, x, hp, hj, by rw [List.getElem?_append_left (by omega)]; exact hx, by rw [List.getElem?_append_right (by omega)]; simp [hl]⟩
  · obtain ⟨a1, j', x', a2, a3, a4, a5⟩ := h.step i d' h1 (by omega) hd'
    exact ⟨a1, j', x', a2, a3, by rw [List.getElem?_append_left (by omega)]; exact a4, by rw [List.getElem?_append_left (by omega)]; exact a5⟩

/-- no texts are told if one branch is wrong -/
theorem told_bad {p : List Br} {k : Nat} {d : Br} (hk : 1 ≤ k) (hd : p[k]? = some d) (hbad : d.p < 0 ∨ (k : Int) ≤ d.p ∨ ¬ IsW d.l) : ∀ qs, ¬ ToldB p p.length qs := fun qs hT => by
  obtain ⟨hw, j, x, h1, h2, _⟩ := hT.step k d hk (List.getElem?_eq_some_iff.1 hd).1 hd
  rcases hbad with h | h | h
  · omega
  · omega
  · exact h hw

theorem wdb_succ {p : List Br} {qs : List Txt} {k : Nat} {d : Br} {x : Txt} (hl : qs.length = k) (hd : p[k]? = some d) : wdb (p.take (k + 1)) (qs ++ [x]) = wdb (p.take k) qs ++ (if d.e then [x] else []) := by
  obtain ⟨hk, e⟩ := List.getElem?_eq_some_iff.1 hd
  rw [take_br hd, wdb_app _ _ _ _ (by rw [List.length_take]; omega)]
  simp [wdb]

theorem wdb_len : ∀ (t : List Br) (qs : List Txt), (wdb t qs).length ≤ t.length
  | [], qs => by simp [wdb]
  | d :: t, [] => by simp [wdb]
  | d :: t, x :: qs => by
    have := wdb_len t qs
    unfold wdb
    split <;> simp <;> omega

/-- what the reading answers -/
def ReadPost (w : World) (p : List Br) (e : Ending) (w' : World) : Prop :=
  (∃ v qs, e = .returned (.tuple #[v, .bool true]) ∧ ToldB p p.length qs ∧ 1 ≤ p.length ∧ p.length ≤ 81 ∧ w'.ownsRow w.heap.size 9 1 v (wdb p qs).length ((wdb p qs).map fun x => Value.string (bx x)) ∧ (∀ x ∈ wdb p qs, x.length ≤ 1000) ∧ Below w.heap.size w w') ∨
  (e = .returned (.tuple #[.slice none 0 0, .bool false]) ∧ (∀ qs, ToldB p p.length qs → p.length = 0 ∨ 81 < p.length) ∧ Below w.heap.size w w')

theorem cell_at1 {w : World} {B : Nat} (h : w.heap.size = B) (t : TypeId) (v : Value) : ∀ (j : Nat) (u : Value), [v][j]? = some u → (w.alloc (.cells #[v] t)).cell? ((⟨B, 0, none⟩ : Addr).add j) = some u := by
  subst h
  intro j u hu
  cases j with
  | zero =>
    simp only [List.getElem?_cons_zero, Option.some.injEq] at hu
    subst hu
    simp [Addr.add]
  | succ j => simp at hu

/-- two rows of texts, apart from each other -/
structure Two2 (base : Nat) (w : World) (v1 v2 : Value) (xs ys : List Txt) : Prop where
  o1 : w.ownsRow base 9 1 v1 xs.length (xs.map fun x => Value.string (bx x))
  o2 : w.ownsRow base 9 1 v2 ys.length (ys.map fun x => Value.string (bx x))
  sep : ∀ g, v1.ownBlock = some g → v2.ownBlock ≠ some g

theorem Two2.below {base : Nat} {w w' : World} {v1 v2 : Value} {xs ys : List Txt} (h : Two2 base w v1 v2 xs ys) (hb : Below w.heap.size w w') : Two2 base w' v1 v2 xs ys := ⟨own_stay h.o1 hb, own_stay h.o2 hb, h.sep⟩

theorem Two2.first {base : Nat} {w w' : World} {v1 v2 v' : Value} {xs ys : List Txt} {x : Txt} (h : Two2 base w v1 v2 xs ys) (ho : w'.ownsRow base 9 1 v' (xs.length + 1) ((xs.map fun x => Value.string (bx x)) ++ [.string (bx x)])) (hg : w.grownBy w' v1.ownBlock) (hat : v'.ownBlock = v1.ownBlock ∨ v'.ownBlock = some w.heap.size) : Two2 base w' v' v2 (xs ++ [x]) ys := by
  refine ⟨by simpa using ho, h.o2.kept hg ?_, fun g hg1 hg2 => ?_⟩
  · cases hv : v2.ownBlock with
    | none => exact .inl rfl
    | some k => exact .inr (fun e => h.sep k e.symm hv)
  · rcases hat with e | e
    · exact h.sep g (e ▸ hg1) hg2
    · rw [e] at hg1
      have := (h.o2.lt g hg2).2
      have := Option.some.inj hg1
      omega

theorem Two2.second {base : Nat} {w w' : World} {v1 v2 v' : Value} {xs ys : List Txt} {x : Txt} (h : Two2 base w v1 v2 xs ys) (ho : w'.ownsRow base 9 1 v' (ys.length + 1) ((ys.map fun x => Value.string (bx x)) ++ [.string (bx x)])) (hg : w.grownBy w' v2.ownBlock) (hat : v'.ownBlock = v2.ownBlock ∨ v'.ownBlock = some w.heap.size) : Two2 base w' v1 v' xs (ys ++ [x]) := by
  refine ⟨h.o1.kept hg ?_, by simpa using ho, fun g hg1 hg2 => ?_⟩
  · cases hv : v1.ownBlock with
    | none => exact .inl rfl
    | some k => exact .inr (fun e => h.sep k hv e.symm)
  · rcases hat with e | e
    · exact h.sep g hg1 (e ▸ hg2)
    · rw [e] at hg2
      have := (h.o1.lt g hg1).2
      have := Option.some.inj hg2
      omega

set_option maxRecDepth 1000000 in
set_option maxHeartbeats 4000000 in
theorem readWords_any (B : Nat) (a : Option Addr) (n c : Nat) (p : List Br) (w : World) (hB : B ≤ w.heap.size) (h : Brs B w a n c p) (hn : n ≤ 1048576) :
    Calls Try.prog 76 #[.agg #[.slice a n c]] w (ReadPost w p) := by
  have L := Lib.hid h.len
  have C := h.cap
  have T := h.top
  have H := Lib.hid h
  have HB := Lib.hid hB
  clear h hB
  have HB1 : Hid (Below w.heap.size w (w.alloc (.cells #[.slice a n c] 30))) := Lib.hid ((Below.refl _ _).alloc (Nat.le_refl _) _)
  by_cases hn0 : n = 0
  · have hb0 : ((n : Int) == 0) = true := by simp [hn0]
    have HX : Hid (∀ qs, ToldB p p.length qs → p.length = 0 ∨ 81 < p.length) := Lib.hid (fun qs hT => .inl (by rw [L.out]; exact hn0))
    clear hn0
    go_enter Try.func76, Try.ntmps76
    go_wp2
    go_ret2
    exact .inr ⟨rfl, HX.out, HB1.out⟩
  · have hb0 : ((n : Int) == 0) = false := by simp [hn0]
    by_cases hn81 : 81 < n
    · have HX : Hid (∀ qs, ToldB p p.length qs → p.length = 0 ∨ 81 < p.length) := Lib.hid (fun qs hT => .inr (by rw [L.out]; exact hn81))
      clear hn0
      go_enter Try.func76, Try.ntmps76
      go_wp2
      go_ret2
      exact .inr ⟨rfl, HX.out, HB1.out⟩
    · have hn81' : n ≤ 81 := by omega
      have hn1 : 1 ≤ n := by omega
      obtain ⟨i0, hii, hz0, hz1, hz2⟩ := info_parts infoS
      have HT0 : Hid (Two2 (w.heap.size + 1) (((w.alloc (.cells #[.slice a n c] 30)).alloc (.cells #[] 9)).alloc (.cells #[] 9)) (.slice (some ⟨w.heap.size + 1, 0, none⟩) 0 0) (.slice (some ⟨w.heap.size + 1 + 1, 0, none⟩) 0 0) [] []) := Lib.hid (by
        have h1 := World.ownsRow_lit (base := w.heap.size + 1) (e := 9) (size := 1) (w.alloc (.cells #[.slice a n c] 30)) #[] 0 (by simp) (by unfold maxLen; omega) rfl
        have h2 := World.ownsRow_lit (base := w.heap.size + 1) (e := 9) (size := 1) ((w.alloc (.cells #[.slice a n c] 30)).alloc (.cells #[] 9)) #[] 0 (by first | (simp; done) | (simp; omega)) (by unfold maxLen; omega) rfl
        simp only [World.size_alloc] at h1 h2
        refine ⟨by simpa using h1.alloc _, by simpa using h2, fun g hg1 hg2 => ?_⟩
        simp only [Value.ownBlock, Option.some.injEq] at hg1 hg2
        omega)
      have HB3 : Hid (Below w.heap.size w (((w.alloc (.cells #[.slice a n c] 30)).alloc (.cells #[] 9)).alloc (.cells #[] 9))) := Lib.hid ((HB1.out.alloc (by simp) _).alloc (by first | (simp; done) | (simp; omega)) _)
      clear hn0
      go_enter Try.func76, Try.ntmps76
      go_wp2
      go_loopw [4, 5, 24] (fun vp vw s wr => ∃ (k : Nat) (qs ys : List Txt) (v1 v2 : Value), k ≤ n ∧ s = .int .i64 k ∧ v1 = vp ∧ v2 = vw ∧ Hid (ToldB p k qs) ∧ Hid (wdb (p.take k) qs = ys) ∧ Hid (∀ x ∈ qs, x.length ≤ 12 * k) ∧ Hid (Two2 (w.heap.size + 1) wr v1 v2 qs ys) ∧ Hid (Below w.heap.size w wr) ∧ w.heap.size < wr.heap.size) (fun _ _ s _ => n - (intOf s).toNat)
      case atStart => exact ⟨0, [], [], _, _, Nat.zero_le _, rfl, rfl, rfl, Lib.hid (told_zero p), Lib.hid (by simp [wdb]), Lib.hid (by simp), HT0, HB3, by simp; omega⟩
      case round =>
        clear HT0 HB3 hb0 hn81
        obtain ⟨k, qs, ys, v1, v2, hk, rfl, rfl, rfl, HTo, HWd, HLn, HT, HBw, hsz⟩ := hrel
        have HBs := HBw.out.size
        by_cases hlt : k < n
        · obtain ⟨b, o, l, q, e, rfl, hbB, hd, hl, hq, hc1, hc2, hc3⟩ := (H.out.keep (HBw.out.mono HB.out)).elem k hlt
          have HD := Lib.hid hd
          have HQl := Lib.hid HTo.out.len
          have HYl : Hid (ys.length ≤ k) := Lib.hid (by rw [← HWd.out]; have := wdb_len (p.take k) qs; rw [List.length_take] at this; omega)
          have HNB := Lib.hid ((Below.refl wr.heap.size wr).alloc (Nat.le_refl _) (.cells #[.string l, .int .i64 q, .bool e] 52))
          have HTn := Lib.hid (HT.out.below HNB.out)
          have hl1 : qs.length ≤ 81 := by have := HQl.out; omega
          have hl2 : ys.length ≤ 81 := by have := HYl.out; omega
          have HLt1 := Lib.hid HT.out.o1.lt
          obtain ⟨a1, c1, rfl⟩ := own_slice HT.out.o1
          obtain ⟨a2, c2, rfl⟩ := own_slice HT.out.o2
          clear hd
          by_cases hk0 : k = 0
          · have hg0 : ¬ (0 < (k : Int)) := by omega
            have HTo2 : Hid (ToldB p (k + 1) (qs ++ [tx (⟨#[]⟩ : ByteArray)])) := Lib.hid (by
              have hq0 : qs = [] := List.eq_nil_of_length_eq_zero (by rw [HQl.out, hk0])
              rw [hq0, hk0]
              exact told_root (by rw [L.out]; omega))
            have HLn2 : Hid (∀ x ∈ qs ++ [tx (⟨#[]⟩ : ByteArray)], x.length ≤ 12 * (k + 1)) := Lib.hid (fun x hx => by
              rcases List.mem_append.1 hx with hx | hx
              · have := HLn.out x hx; omega
              · rw [List.mem_singleton.1 hx, tx_len]; show (0 : Nat) ≤ _; omega)
            have HTw := HTn
            have HBW := Lib.hid (HBw.out.trans (HNB.out.mono HBs))
            have HCe : Hid (∀ obj, ((wr.alloc (.cells #[.string l, .int .i64 q, .bool e] 52)).alloc obj).cell? ⟨wr.heap.size, 2, none⟩ = some (.bool e)) := Lib.hid (fun obj => by rw [World.cell?_alloc_lt _ _ _ (by simp)]; simp)
            clear hk0
            cases e with
            | true =>
              have HWd2 : Hid (wdb (p.take (k + 1)) (qs ++ [tx (⟨#[]⟩ : ByteArray)]) = ys ++ [tx (⟨#[]⟩ : ByteArray)]) := Lib.hid (by rw [wdb_succ HQl.out HD.out, HWd.out]; rfl)
              go_wp2_with (first
                | (at_builtin; refine wpList_append_own_at _ rfl _ _ 68 rfl (w.heap.size + 1) 9 i0 (.string ByteArray.empty) 1 16 Try.underlying68 hii hz0 hz1 hz2 rfl (by decide) _ _ _ rfl (HTw.out.o1.alloc _) ⟨_, 0, none⟩ 1 1 [.string (⟨#[]⟩ : ByteArray)] rfl rfl (cell_at1 (by first | rfl | (simp; done)) _ _) (by simp [Value.oneCell']) (by unfold maxLen; omega) (by omega) (by first | omega | (simp; omega)) ?_; intro v3 w3 hO3 hG3 _ hat3; have HT3 := Lib.hid ((HTw.out.below ((Below.refl _ _).alloc (Nat.le_refl _) _)).first (x := tx (⟨#[]⟩ : ByteArray)) (by rw [bx_tx]; exact hO3) hG3 hat3); have hce3 := (hG3.cell_far ⟨wr.heap.size, 2, none⟩ (by first | omega | (simp; omega)) (fun e => by have h9 := (HLt1.out wr.heap.size e.symm).2; omega)).trans (HCe.out _); have HB3 := Lib.hid (HBW.out.trans (((Below.refl w.heap.size _).alloc (by first | omega | (simp; omega)) _).trans (below_grown (HTw.out.o1.alloc _) (by omega) (by first | omega | (simp; omega)) hG3))); have hsz3 : wr.heap.size < w3.heap.size := (by have := hG3.size; simp at this; omega); clear hO3 hG3 hat3)
                | (at_builtin; refine wpList_append_own_at _ rfl _ _ 68 rfl (w.heap.size + 1) 9 i0 (.string ByteArray.empty) 1 16 Try.underlying68 hii hz0 hz1 hz2 rfl (by decide) _ _ _ rfl (HT3.out.o2.alloc _) ⟨_, 0, none⟩ 1 1 [.string (⟨#[]⟩ : ByteArray)] rfl rfl (cell_at1 (by first | rfl | (simp; done)) _ _) (by simp [Value.oneCell']) (by unfold maxLen; omega) (by omega) (by first | omega | (simp; omega)) ?_; intro v4 w4 hO4 hG4 _ hat4; have HT4 := Lib.hid ((HT3.out.below ((Below.refl _ _).alloc (Nat.le_refl _) _)).second (x := tx (⟨#[]⟩ : ByteArray)) (by rw [bx_tx]; exact hO4) hG4 hat4); have HB4 := Lib.hid (HB3.out.trans (((Below.refl w.heap.size _).alloc (by omega) _).trans (below_grown (HT3.out.o2.alloc _) (by omega) (by first | omega | (simp; omega)) hG4))); have hsz4 : wr.heap.size < w4.heap.size := (by have := hG4.size; simp at this; omega); clear hO4 hG4 hat4))
              go_roundw
              case rel => exact ⟨k + 1, qs ++ [tx (⟨#[]⟩ : ByteArray)], ys ++ [tx (⟨#[]⟩ : ByteArray)], _, _, by omega, by go_num, rfl, rfl, HTo2, HWd2, HLn2, HT4, HB4, by omega⟩
              case measure => simp [intOf]; omega
            | false =>
              have HWd2 : Hid (wdb (p.take (k + 1)) (qs ++ [tx (⟨#[]⟩ : ByteArray)]) = ys) := Lib.hid (by rw [wdb_succ HQl.out HD.out, HWd.out]; simp)
              go_wp2_with (at_builtin; refine wpList_append_own_at _ rfl _ _ 68 rfl (w.heap.size + 1) 9 i0 (.string ByteArray.empty) 1 16 Try.underlying68 hii hz0 hz1 hz2 rfl (by decide) _ _ _ rfl (HTw.out.o1.alloc _) ⟨_, 0, none⟩ 1 1 [.string (⟨#[]⟩ : ByteArray)] rfl rfl (cell_at1 (by first | rfl | (simp; done)) _ _) (by simp [Value.oneCell']) (by unfold maxLen; omega) (by omega) (by first | omega | (simp; omega)) ?_; intro v3 w3 hO3 hG3 _ hat3; have HT3 := Lib.hid ((HTw.out.below ((Below.refl _ _).alloc (Nat.le_refl _) _)).first (x := tx (⟨#[]⟩ : ByteArray)) (by rw [bx_tx]; exact hO3) hG3 hat3); have hce3 := (hG3.cell_far ⟨wr.heap.size, 2, none⟩ (by first | omega | (simp; omega)) (fun e => by have h9 := (HLt1.out wr.heap.size e.symm).2; omega)).trans (HCe.out _); have HB3 := Lib.hid (HBW.out.trans (((Below.refl w.heap.size _).alloc (by first | omega | (simp; omega)) _).trans (below_grown (HTw.out.o1.alloc _) (by omega) (by first | omega | (simp; omega)) hG3))); have hsz3 : wr.heap.size < w3.heap.size := (by have := hG3.size; simp at this; omega); clear hO3 hG3 hat3)
              go_roundw
              case rel => exact ⟨k + 1, qs ++ [tx (⟨#[]⟩ : ByteArray)], ys, _, _, by omega, by go_num, rfl, rfl, HTo2, HWd2, HLn2, HT3, HB3, by omega⟩
              case measure => simp [intOf]; omega
          · have hg0 : 0 < (k : Int) := by omega
            have cW := Lib.hid (fun w => implIsWord_any l w hl)
            by_cases hq0 : q < 0
            · have HNo : Hid (∀ qs, ToldB p p.length qs → p.length = 0 ∨ 81 < p.length) := Lib.hid (fun qs' hT => absurd hT (told_bad (by omega) HD.out (.inl hq0) qs'))
              go_wp2
              go_ret2
              exact .inr ⟨rfl, HNo.out, HBw.out.trans (HNB.out.mono HBs)⟩
            · by_cases hqk : (k : Int) ≤ q
              · have HNo : Hid (∀ qs, ToldB p p.length qs → p.length = 0 ∨ 81 < p.length) := Lib.hid (fun qs' hT => absurd hT (told_bad (by omega) HD.out (.inr (.inl hqk)) qs'))
                go_wp2
                go_ret2
                exact .inr ⟨rfl, HNo.out, HBw.out.trans (HNB.out.mono HBs)⟩
              · obtain ⟨j, rfl⟩ : ∃ j : Nat, q = j := ⟨q.toNat, by omega⟩
                have hjk : j < k := by omega
                obtain ⟨r, hr⟩ : ∃ r, okW l = r := ⟨_, rfl⟩
                rw [hr] at cW
                cases r with
                | false =>
                  have HNo : Hid (∀ qs, ToldB p p.length qs → p.length = 0 ∨ 81 < p.length) := Lib.hid (fun qs' hT => absurd hT (told_bad (by omega) HD.out (.inr (.inr (fun hw => by have := okW_iff.2 hw; rw [hr] at this; cases this))) qs'))
                  clear hr
                  go_wp2_with (go_at_call 34; refine (cW.out _).mono ?_; rintro e2 w2 ⟨rfl, hb2⟩; have HB2 := Lib.hid (HNB.out.trans (hb2.mono HNB.out.size)); clear hb2)
                  go_ret2
                  exact .inr ⟨rfl, HNo.out, HBw.out.trans (HB2.out.mono HBs)⟩
                | true =>
                  have hiw := okW_iff.1 hr
                  have hl12 : l.size ≤ 12 := by have := hiw.1; rwa [tx_len] at this
                  obtain ⟨x, hx⟩ : ∃ x, qs[j]? = some x := ⟨_, List.getElem?_eq_getElem (by rw [HQl.out]; exact hjk)⟩
                  have hjq : j < qs.length := by rw [HQl.out]; exact hjk
                  have HXl : Hid (x.length ≤ 12 * k) := Lib.hid (HLn.out x (at_mem hx))
                  obtain ⟨sx, hsx⟩ : ∃ s, bx x = s := ⟨_, rfl⟩
                  have hxs : x = tx sx := by rw [← hsx]; rfl
                  subst hxs
                  have hsx12 : sx.size ≤ 972 := by have := HXl.out; rw [tx_len] at this; omega
                  have HTo2 : Hid (ToldB p (k + 1) (qs ++ [tx (sx ++ l)])) := Lib.hid (by
                    have e0 : tx (sx ++ l) = tx sx ++ tx l := by simp
                    rw [e0]
                    exact told_next HTo.out (by omega) HD.out hiw rfl hjk hx)
                  have HLn2 : Hid (∀ y ∈ qs ++ [tx (sx ++ l)], y.length ≤ 12 * (k + 1)) := Lib.hid (fun y hy => by
                    rcases List.mem_append.1 hy with hy | hy
                    · have := HLn.out y hy; omega
                    · have := HXl.out
                      rw [tx_len] at this
                      rw [List.mem_singleton.1 hy, tx_len, ByteArray.size_append]
                      omega)
                  have HRd : Hid (∀ W, Two2 (w.heap.size + 1) W (.slice a1 qs.length c1) (.slice a2 ys.length c2) qs ys → ∃ g, a1 = some ⟨g, 0, none⟩ ∧ W.cell? ⟨g, j, none⟩ = some (.string sx)) := Lib.hid (fun W hW => by
                    rcases hW.o1.2 with ⟨e, h0⟩ | ⟨g, cap, cur, e, _⟩
                    · omega
                    · simp only [Value.slice.injEq] at e
                      refine ⟨g, e.1, ?_⟩
                      have h1 := hW.o1
                      rw [e.1] at h1
                      rw [h1.cellAt j (by omega), List.getElem?_map, hx]
                      simp only [Option.map_some]
                      rw [bx_tx])
                  clear hr hiw hx hsx hq0 hqk
                  go_wp2_with (go_at_call 34; refine (cW.out _).mono ?_; rintro e2 w2 ⟨rfl, hb2⟩; have HB2 := Lib.hid hb2; obtain ⟨g1, rfl, hgc⟩ := HRd.out w2 (HTn.out.below hb2); have hn0 := (hb2.cell (p := ⟨wr.heap.size, 0, none⟩) (by simp)).trans (show (wr.alloc (.cells #[.string l, .int .i64 (j : Int), .bool e] 52)).cell? ⟨wr.heap.size, 0, none⟩ = some (.string l) by simp); have hn1 := (hb2.cell (p := ⟨wr.heap.size, 1, none⟩) (by simp)).trans (show (wr.alloc (.cells #[.string l, .int .i64 (j : Int), .bool e] 52)).cell? ⟨wr.heap.size, 1, none⟩ = some (.int .i64 (j : Int)) by simp); have hn2 := (hb2.cell (p := ⟨wr.heap.size, 2, none⟩) (by simp)).trans (show (wr.alloc (.cells #[.string l, .int .i64 (j : Int), .bool e] 52)).cell? ⟨wr.heap.size, 2, none⟩ = some (.bool e) by simp); clear hb2)
                  go_quiet (fail)
                  have hbq : Below w2.heap.size w2 (w2.drewN nq) := below_drewN (Below.refl _ _) nq
                  obtain ⟨W5, hW5⟩ : ∃ W5, w2.drewN nq = W5 := ⟨_, rfl⟩
                  rw [hW5] at hbq ⊢
                  clear hW5
                  have HTw := Lib.hid ((HTn.out.below HB2.out).below hbq)
                  have HBW := Lib.hid (HBw.out.trans ((HNB.out.trans ((HB2.out.trans (hbq.mono HB2.out.size)).mono HNB.out.size)).mono HBs))
                  have hs2 : wr.heap.size < w2.heap.size := by have := HB2.out.size; simp at this; omega
                  have hs5 := hbq.size
                  have HCe : Hid (∀ obj, (W5.alloc obj).cell? ⟨wr.heap.size, 2, none⟩ = some (.bool e)) := Lib.hid (fun obj => by rw [World.cell?_alloc_lt _ _ _ (by show wr.heap.size < _; omega)]; exact (hbq.cell (p := ⟨wr.heap.size, 2, none⟩) (by show wr.heap.size < _; omega)).trans hn2)
                  clear hn0 hn1 hn2 hgc hbq
                  cases e with
                  | true =>
                    have HWd2 : Hid (wdb (p.take (k + 1)) (qs ++ [tx (sx ++ l)]) = ys ++ [tx (sx ++ l)]) := Lib.hid (by rw [wdb_succ HQl.out HD.out, HWd.out]; rfl)
                    go_wp2_with (first
                      | (at_builtin; refine wpList_append_own_at _ rfl _ _ 68 rfl (w.heap.size + 1) 9 i0 (.string ByteArray.empty) 1 16 Try.underlying68 hii hz0 hz1 hz2 rfl (by decide) _ _ _ rfl (HTw.out.o1.alloc _) ⟨_, 0, none⟩ 1 1 [.string (sx ++ l)] rfl rfl (cell_at1 (by first | rfl | (simp; done)) _ _) (by simp [Value.oneCell']) (by unfold maxLen; omega) (by omega) (by first | omega | (simp; omega)) ?_; intro v3 w3 hO3 hG3 _ hat3; have HT3 := Lib.hid ((HTw.out.below ((Below.refl _ _).alloc (Nat.le_refl _) _)).first (x := tx (sx ++ l)) (by rw [bx_tx]; exact hO3) hG3 hat3); have hce3 := (hG3.cell_far ⟨wr.heap.size, 2, none⟩ (by first | omega | (simp; omega)) (fun e => by have h9 := (HLt1.out wr.heap.size e.symm).2; omega)).trans (HCe.out _); have HB3 := Lib.hid (HBW.out.trans (((Below.refl w.heap.size _).alloc (by first | omega | (simp; omega)) _).trans (below_grown (HTw.out.o1.alloc _) (by omega) (by first | omega | (simp; omega)) hG3))); have hsz3 : wr.heap.size < w3.heap.size := (by have := hG3.size; simp at this; omega); clear hO3 hG3 hat3)
                      | (at_builtin; refine wpList_append_own_at _ rfl _ _ 68 rfl (w.heap.size + 1) 9 i0 (.string ByteArray.empty) 1 16 Try.underlying68 hii hz0 hz1 hz2 rfl (by decide) _ _ _ rfl (HT3.out.o2.alloc _) ⟨_, 0, none⟩ 1 1 [.string (sx ++ l)] rfl rfl (cell_at1 (by first | rfl | (simp; done)) _ _) (by simp [Value.oneCell']) (by unfold maxLen; omega) (by omega) (by first | omega | (simp; omega)) ?_; intro v4 w4 hO4 hG4 _ hat4; have HT4 := Lib.hid ((HT3.out.below ((Below.refl _ _).alloc (Nat.le_refl _) _)).second (x := tx (sx ++ l)) (by rw [bx_tx]; exact hO4) hG4 hat4); have HB4 := Lib.hid (HB3.out.trans (((Below.refl w.heap.size _).alloc (by omega) _).trans (below_grown (HT3.out.o2.alloc _) (by omega) (by first | omega | (simp; omega)) hG4))); have hsz4 : wr.heap.size < w4.heap.size := (by have := hG4.size; simp at this; omega); clear hO4 hG4 hat4))
                    go_roundw
                    case rel => exact ⟨k + 1, qs ++ [tx (sx ++ l)], ys ++ [tx (sx ++ l)], _, _, by omega, by go_num, rfl, rfl, HTo2, HWd2, HLn2, HT4, HB4, by omega⟩
                    case measure => simp [intOf]; omega
                  | false =>
                    have HWd2 : Hid (wdb (p.take (k + 1)) (qs ++ [tx (sx ++ l)]) = ys) := Lib.hid (by rw [wdb_succ HQl.out HD.out, HWd.out]; simp)
                    go_wp2_with (at_builtin; refine wpList_append_own_at _ rfl _ _ 68 rfl (w.heap.size + 1) 9 i0 (.string ByteArray.empty) 1 16 Try.underlying68 hii hz0 hz1 hz2 rfl (by decide) _ _ _ rfl (HTw.out.o1.alloc _) ⟨_, 0, none⟩ 1 1 [.string (sx ++ l)] rfl rfl (cell_at1 (by first | rfl | (simp; done)) _ _) (by simp [Value.oneCell']) (by unfold maxLen; omega) (by omega) (by first | omega | (simp; omega)) ?_; intro v3 w3 hO3 hG3 _ hat3; have HT3 := Lib.hid ((HTw.out.below ((Below.refl _ _).alloc (Nat.le_refl _) _)).first (x := tx (sx ++ l)) (by rw [bx_tx]; exact hO3) hG3 hat3); have hce3 := (hG3.cell_far ⟨wr.heap.size, 2, none⟩ (by first | omega | (simp; omega)) (fun e => by have h9 := (HLt1.out wr.heap.size e.symm).2; omega)).trans (HCe.out _); have HB3 := Lib.hid (HBW.out.trans (((Below.refl w.heap.size _).alloc (by first | omega | (simp; omega)) _).trans (below_grown (HTw.out.o1.alloc _) (by omega) (by first | omega | (simp; omega)) hG3))); have hsz3 : wr.heap.size < w3.heap.size := (by have := hG3.size; simp at this; omega); clear hO3 hG3 hat3)
                    go_roundw
                    case rel => exact ⟨k + 1, qs ++ [tx (sx ++ l)], ys, _, _, by omega, by go_num, rfl, rfl, HTo2, HWd2, HLn2, HT3, HB3, by omega⟩
                    case measure => simp [intOf]; omega
        · obtain rfl : k = n := by omega
          have HF : Hid (wdb p qs = ys) := Lib.hid (by rw [← HWd.out, List.take_of_length_le (by have := L.out; omega)])
          have HFin : Hid (ToldB p p.length qs ∧ 1 ≤ p.length ∧ p.length ≤ 81 ∧ (∀ x ∈ wdb p qs, x.length ≤ 1000)) := Lib.hid ⟨by rw [L.out]; exact HTo.out, by rw [L.out]; omega, by rw [L.out]; omega, fun x hx => by
            have hm : x ∈ qs := by
              have : ∀ (t : List Br) (r : List Txt), x ∈ wdb t r → x ∈ r := by
                intro t
                induction t with
                | nil => intro r h; simp [wdb] at h
                | cons d t ih =>
                  intro r h
                  cases r with
                  | nil => simp [wdb] at h
                  | cons y r =>
                    unfold wdb at h
                    split at h
                    · rcases List.mem_cons.1 h with e | h
                      · rw [e]; exact List.mem_cons_self
                      · exact List.mem_cons_of_mem _ (ih r h)
                    · exact List.mem_cons_of_mem _ (ih r h)
              exact this p qs hx
            have := HLn.out x hm
            omega⟩
          obtain ⟨a2, c2, rfl⟩ := own_slice HT.out.o2
          go_wp2
          go_ret2
          exact .inl ⟨_, qs, rfl, HFin.out.1, HFin.out.2.1, HFin.out.2.2.1, by rw [HF.out]; exact own_down HT.out.o2 (by omega), HFin.out.2.2.2, HBw.out⟩

end Go.Proofs.Ytoofpgehkihbcaa
