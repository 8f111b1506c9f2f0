/-
  The letters of nodes: the program's byte.
-/
import Derived.Test.YtfehfjnmkaifbabGame11
import Derived.Test.YtfehfjnmkaifbabGvT
namespace Go.Proofs.Ytfehfjnmkaifbab
open Go.RowKit
set_option linter.unusedVariables false

/-- the letter of a node -/
def letU (t : List Nd) (k : Nat) : UInt8 := match t[k]? with | some d => UInt8.ofNat (97 + d.l).toNat | none => 0

theorem letU_at {t : List Nd} {ps : List Txt} (h : Tells t t.length ps) {k : Nat} {d : Nd} (hk : 1 ≤ k) (hd : t[k]? = some d) : d.l = ((letU t k).toNat : Int) - 97 ∧ 97 ≤ (letU t k).toNat ∧ (letU t k).toNat ≤ 122 := by
  have hkl := (List.getElem?_eq_some_iff.1 hd).1
  obtain ⟨j, x, c, _, _, hl, c0, c1, _, _⟩ := h.step k d hk hkl hd
  have e : letU t k = c := by
    unfold letU
    rw [hd]
    simp only
    rw [hl, show (97 + ((c.toNat : Int) - 97)).toNat = c.toNat by omega]
    simp
  rw [e]
  exact ⟨hl, c0, c1⟩

/-- the letters with which the game is won -/
def wlt (t : List Nd) (ps : List Txt) (m : Nat) (l : List Nat) : Txt := (l.filter (goodB t ps m)).map (letU t)

theorem wlt_step {t : List Nd} {ps : List Txt} {m j k : Nat} {ks : List Nat} (hk : ks[j]? = some k) : wlt t ps m (ks.take (j + 1)) = wlt t ps m (ks.take j) ++ (if goodB t ps m k = true then [letU t k] else []) := by
  obtain ⟨h1, h2⟩ := List.getElem?_eq_some_iff.1 hk
  unfold wlt
  rw [List.take_succ_eq_append_getElem h1, List.filter_append, List.map_append, h2]
  congr 1
  cases h : goodB t ps m k <;> simp [h]

theorem wlt_len (t : List Nd) (ps : List Txt) (m : Nat) (l : List Nat) : (wlt t ps m l).length ≤ l.length := by
  unfold wlt
  rw [List.length_map]
  exact List.length_filter_le _ _

set_option maxRecDepth 1000000 in
set_option maxHeartbeats 1000000 in
theorem letterAt_any (B : Nat) (a : Option Addr) (n c k : Nat) (t : List Nd) (ps : List Txt) (w : World) (hB : B ≤ w.heap.size) (h : Nds B w a n c t) (ht : Tells t t.length ps) (hk1 : 1 ≤ k) (hk : k < n) :
    Calls Try.prog 48 #[.agg #[.slice a n c], .int .i64 (k : Int)] w fun e w' => e = .returned (.int .u8 ((letU t k).toNat : Int)) ∧ Below w.heap.size w w' := by
  have C := h.cap
  have T := h.top
  have HB1 : Hid (Below w.heap.size w (w.alloc (.cells #[.slice a n c] 30))) := Lib.hid ((Below.refl _ _).alloc (Nat.le_refl _) _)
  have HN := Lib.hid (h.keep (HB1.out.mono hB))
  obtain ⟨b, o, l, p, e, rfl, hbB, hd, hl, hp, hc1, hc2, hc3⟩ := HN.out.elem k hk
  have hlt := letU_at ht hk1 hd
  simp only at hlt hc1
  have HS : Hid (97 + l = ((letU t k).toNat : Int)) := Lib.hid (by omega)
  have h0 : 0 ≤ l := by omega
  have h25 : l ≤ 25 := by omega
  clear hd hc2 hc3 h hlt
  go_enter Try.func48, Try.ntmps48
  go_wp2
  go_ret
  exact ⟨by rw [← HS.out]; rfl, HB1.out⟩

end Go.Proofs.Ytfehfjnmkaifbab
