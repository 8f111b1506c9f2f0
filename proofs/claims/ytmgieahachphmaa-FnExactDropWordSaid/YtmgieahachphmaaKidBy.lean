/-
  The program's search of a kid, which is put in if it is missing.
-/
import Derived.Test.YtmgieahachphmaaTwig
import Derived.Deep.LoopGhost
namespace Go.Proofs.Ytmgieahachphmaa
open Go.RowKit
set_option linter.unusedVariables false

/-- no twig -/
def Spare (ps : List Txt) (A : Txt → Nat) (k : Nat) : Prop := ∀ z ∈ ps, A z ≠ k

/-- what is no twig stays as it is, and is no twig -/
def Stays (ps : List Txt) (A : Txt → Nat) (ps' : List Txt) (A' : Txt → Nat) (w w' : World) : Prop := ∀ k, k < w.heap.size → Spare ps A k → w'.heap[k]? = w.heap[k]? ∧ Spare ps' A' k

theorem Stays.refl (ps : List Txt) (A : Txt → Nat) (w : World) : Stays ps A ps A w w := fun _ _ h => ⟨rfl, h⟩

theorem Stays.trans {ps ps1 ps2 : List Txt} {A A1 A2 : Txt → Nat} {w w1 w2 : World} (h : Stays ps A ps1 A1 w w1) (k : Stays ps1 A1 ps2 A2 w1 w2) (hz : w.heap.size ≤ w1.heap.size) : Stays ps A ps2 A2 w w2 := fun j hj hs => by
  obtain ⟨h1, h2⟩ := h j hj hs
  obtain ⟨h3, h4⟩ := k j (Nat.lt_of_lt_of_le hj hz) h2
  exact ⟨h3.trans h1, h4⟩

theorem ret_ptr {a b : Option Addr} (h : b = a) : Ending.returned (.pointer a) = .returned (.pointer b) := by rw [h]

def KidPost (base : Nat) (w : World) (ps : List Txt) (en : Txt → Bool) (A : Txt → Nat) (x : Txt) (c : UInt8) (e : Ending) (w' : World) : Prop :=
  ∃ A', e = .returned (.pointer (some ⟨A' (x ++ [c]), 0, none⟩)) ∧ Twigs base w' (put ps (x ++ [c])) en A' ∧ (∀ z ∈ ps, A' z = A z) ∧ Below base w w' ∧ Stays ps A (put ps (x ++ [c])) A' w w'

theorem lnk_block {base : Nat} {w : World} {ps : List Txt} {en : Txt → Bool} {A : Txt → Nat} (h : Twigs base w ps en A) {x : Txt} (hx : x ∈ ps) {d : Option UInt8} (hd : ∀ e, d = some e → x ++ [e] ∈ ps) : base ≤ (lnk A x d).block ∧ (lnk A x d).block < w.heap.size := by
  cases d with
  | none => exact ⟨h.low x hx, h.lt hx⟩
  | some e => exact ⟨h.low _ (hd e rfl), h.lt (hd e rfl)⟩

set_option maxRecDepth 1000000 in
set_option maxHeartbeats 1000000 in
theorem kidBy_any (base : Nat) (w : World) (ps : List Txt) (en : Txt → Bool) (A : Txt → Nat) (h : Twigs base w ps en A) (hbase : base ≤ w.heap.size) (ha : Asc ps) (x : Txt) (hx : x ∈ ps) (c : UInt8) (h97 : 97 ≤ c.toNat) (h122 : c.toNat ≤ 122)
    (hen : x ++ [c] ∉ ps → en (x ++ [c]) = false) :
    Calls Try.prog 68 #[.pointer (some ⟨A x, 0, none⟩), .int .i64 ((c.toNat : Int) - 97)] w (KidPost base w ps en A x c) := by
  have H := Lib.hid h
  have HX := Lib.hid hx
  have HBs := Lib.hid hbase
  have HEn := Lib.hid hen
  have HA := Lib.hid ha
  clear h hx hbase hen ha
  obtain ⟨q, hq⟩ : ∃ q : Int, (c.toNat : Int) - 97 = q := ⟨_, rfl⟩
  have hq0 : 0 ≤ q := by omega
  have hq1 : q ≤ 25 := by omega
  rw [hq]
  have HQ := Lib.hid hq
  clear hq
  go_enter Try.func68, Try.ntmps68
  go_wp2
  go_loopg [5] 256 (fun g s wr => ∃ (d : Option UInt8) (L : Addr), s = .pointer (some L) ∧ Hid (lnk A x d = L) ∧ Hid (∀ e, d = some e → x ++ [e] ∈ ps ∧ e.toNat < c.toNat) ∧ Hid (g = 256 - loOf d) ∧ w = wr)
  case atStart => exact ⟨none, _, rfl, Lib.hid rfl, Lib.hid (by simp), Lib.hid rfl, rfl⟩
  case round =>
    obtain ⟨d, L, rfl, HL, HD, HG, rfl⟩ := hrel
    obtain ⟨p, ⟨o, hnk, hp⟩, hcell, hfr⟩ := H.out.link HX.out (d := d) (fun e he => (HD.out e he).1)
    rw [HL.out] at hcell hfr
    have HNk := Lib.hid hnk
    have hlo : loOf d ≤ c.toNat := by
      cases d with
      | none => exact Nat.zero_le _
      | some e => exact (HD.out e rfl).2
    clear hnk
    cases o with
    | none =>
      simp only [Option.map_none] at hp
      subst hp
      have hlb := (lnk_block H.out HX.out (d := d) (fun e he => (HD.out e he).1))
      rw [HL.out] at hlb
      have HNew := Lib.hid (H.out.grow HBs.out HX.out (c := c) (HNk.out c hlo) (HEn.out (HNk.out c hlo)) (fun e he => (HD.out e he).1) hlo HNk.out (by simp) rfl)
      rw [HL.out, HQ.out] at HNew
      simp only [Option.map_none] at HNew
      have HB2 : Hid (Below base w ((w.alloc (.cells #[.int .i64 q, .bool false, .pointer none, .pointer none] 58)).setCell L (.pointer (some ⟨w.heap.size, 0, none⟩)))) := Lib.hid (((Below.refl _ _).alloc HBs.out _).setCell hlb.1 _)
      have HUp : Hid (∀ z ∈ ps, upd A (x ++ [c]) w.heap.size z = A z) := Lib.hid (fun z hz => upd_of hz (HNk.out c hlo))
      have HSt : Hid (Stays ps A (put ps (x ++ [c])) (upd A (x ++ [c]) w.heap.size) w ((w.alloc (.cells #[.int .i64 q, .bool false, .pointer none, .pointer none] 58)).setCell L (.pointer (some ⟨w.heap.size, 0, none⟩)))) := Lib.hid (fun k hk hs => ⟨by
        have hlk : k ≠ L.block := fun e => by
          rw [← HL.out] at e
          cases d with
          | none => exact hs x HX.out e.symm
          | some f => exact hs _ (HD.out f rfl).1 e.symm
        rw [Deep.blk_setCell_other _ _ _ _ hlk, Deep.blk_alloc_lt _ _ _ hk], fun z hz => by
        rcases (mem_put _ _ _).1 hz with hz | rfl
        · rw [HUp.out z hz]; exact hs z hz
        · rw [upd_self]; omega⟩)
      have hc2 : (w.alloc (.cells #[.int .i64 q, .bool false, .pointer none, .pointer none] 58)).cell? L = some (.pointer none) := (World.cell?_alloc_lt w _ L hlb.2).trans hcell
      have hf2 : (w.alloc (.cells #[.int .i64 q, .bool false, .pointer none, .pointer none] 58)).frozen? L = false := (World.frozen?_alloc_old w _ _ (by omega)).trans hfr
      have hlbn : L.block ≠ w.heap.size := by omega
      clear hlb
      go_wp2
      go_ret
      exact ⟨upd A (x ++ [c]) w.heap.size, ret_ptr (by rw [upd_self]), HNew.out, HUp.out, HB2.out, HSt.out⟩
    | some e =>
      simp only [Option.map_some] at hp
      subst hp
      have he := HNk.out.2.1
      have hc0 := H.out.first he
      rw [letOf_snoc] at hc0
      obtain ⟨r, hr⟩ : ∃ r : Int, (e.toNat : Int) - 97 = r := ⟨_, rfl⟩
      rw [hr] at hc0
      have HE := Lib.hid he
      have HR := Lib.hid hr
      have he8 := e.toNat_lt
      have hr0 : -97 ≤ r := by omega
      have hr1 : r ≤ 255 := by omega
      clear he
      rcases Int.lt_trichotomy r q with hlt | heq | hgt
      · have hlt2 : e.toNat < c.toNat := by have := HQ.out; omega
        clear hr
        go_wp2
        go_roundg (256 - loOf (some e))
        case measure =>
          have h1 := HG.out
          have h2 := HNk.out.1
          simp only [loOf] at *
          omega
        case rel => exact ⟨some e, _, rfl, Lib.hid rfl, Lib.hid (fun e' he' => by cases he'; exact ⟨HE.out, hlt2⟩), Lib.hid rfl, rfl⟩
      · obtain rfl : e = c := UInt8.toNat_inj.1 (by have := HQ.out; omega)
        clear hr
        subst heq
        have HP := Lib.hid (put_mem HA.out HE.out)
        have hne : (r != r) = false := by simp
        go_wp2
        go_ret
        exact ⟨A, rfl, by rw [HP.out]; exact H.out, fun _ _ => rfl, Below.refl _ _, by rw [HP.out]; exact Stays.refl _ _ _⟩
      · have hgt2 : c.toNat < e.toNat := by have := HQ.out; omega
        have hgt' : ∀ f, some e = some f → c.toNat < f.toNat := fun f hf => by cases hf; exact hgt2
        have hy : x ++ [c] ∉ ps := HNk.out.2.2 c hlo hgt2
        have hlb := (lnk_block H.out HX.out (d := d) (fun e he => (HD.out e he).1))
        rw [HL.out] at hlb
        have HNew := Lib.hid (H.out.grow HBs.out HX.out (c := c) hy (HEn.out hy) (fun e he => (HD.out e he).1) hlo HNk.out hgt' rfl)
        rw [HL.out, HQ.out] at HNew
        simp only [Option.map_some] at HNew
        have HB2 : Hid (Below base w ((w.alloc (.cells #[.int .i64 q, .bool false, .pointer none, .pointer (some ⟨A (x ++ [e]), 0, none⟩)] 58)).setCell L (.pointer (some ⟨w.heap.size, 0, none⟩)))) := Lib.hid (((Below.refl _ _).alloc HBs.out _).setCell hlb.1 _)
        have HUp : Hid (∀ z ∈ ps, upd A (x ++ [c]) w.heap.size z = A z) := Lib.hid (fun z hz => upd_of hz hy)
        have HSt : Hid (Stays ps A (put ps (x ++ [c])) (upd A (x ++ [c]) w.heap.size) w ((w.alloc (.cells #[.int .i64 q, .bool false, .pointer none, .pointer (some ⟨A (x ++ [e]), 0, none⟩)] 58)).setCell L (.pointer (some ⟨w.heap.size, 0, none⟩)))) := Lib.hid (fun k hk hs => ⟨by
          have hlk : k ≠ L.block := fun e => by
            rw [← HL.out] at e
            cases d with
            | none => exact hs x HX.out e.symm
            | some f => exact hs _ (HD.out f rfl).1 e.symm
          rw [Deep.blk_setCell_other _ _ _ _ hlk, Deep.blk_alloc_lt _ _ _ hk], fun z hz => by
          rcases (mem_put _ _ _).1 hz with hz | rfl
          · rw [HUp.out z hz]; exact hs z hz
          · rw [upd_self]; omega⟩)
        have hc2 : (w.alloc (.cells #[.int .i64 q, .bool false, .pointer none, .pointer (some ⟨A (x ++ [e]), 0, none⟩)] 58)).cell? L = some (.pointer (some ⟨A (x ++ [e]), 0, none⟩)) := (World.cell?_alloc_lt w _ L hlb.2).trans hcell
        have hf2 : (w.alloc (.cells #[.int .i64 q, .bool false, .pointer none, .pointer (some ⟨A (x ++ [e]), 0, none⟩)] 58)).frozen? L = false := (World.frozen?_alloc_old w _ _ (by omega)).trans hfr
        have hlbn : L.block ≠ w.heap.size := by omega
        clear hlb hr hy hgt' hlbn
        have hlt : ¬ (r < q) := by omega
        have hne : (r != q) = true := by simp; omega
        go_wp2
        go_ret
        exact ⟨upd A (x ++ [c]) w.heap.size, ret_ptr (by rw [upd_self]), HNew.out, HUp.out, HB2.out, HSt.out⟩

end Go.Proofs.Ytmgieahachphmaa
