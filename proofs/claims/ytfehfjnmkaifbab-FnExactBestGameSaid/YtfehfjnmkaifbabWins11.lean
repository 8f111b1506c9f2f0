/-
  Who wins: the reference's search.
-/
import Derived.Test.YtfehfjnmkaifbabFat11
import Derived.Test.YtfehfjnmkaifbabGvT
import Derived.Test.YtfehfjnmkaifbabL2Kids
import Derived.Test.YtfehfjnmkaifbabClsQ
namespace Go.Proofs.Ytfehfjnmkaifbab
open Go.RowKit
set_option linter.unusedVariables false

/-- one kid's part in who wins -/
def winK (t : List Nd) (ps : List Txt) (m : Nat) (oth : Bool) (k : Nat) : Bool := (fatB t ps m k && oth) || (!fatB t ps m k && !win t ps m oth k)

theorem any_step {ks : List Nat} {p : Nat → Bool} {j k : Nat} (hk : ks[j]? = some k) : (ks.take (j + 1)).any p = ((ks.take j).any p || p k) := by
  obtain ⟨h1, h2⟩ := List.getElem?_eq_some_iff.1 hk
  rw [List.take_succ_eq_append_getElem h1, List.any_append, h2]
  simp

theorem any_hit {ks : List Nat} {p : Nat → Bool} {j k : Nat} (hk : ks[j]? = some k) (hp : p k = true) : ks.any p = true :=
  List.any_eq_true.2 ⟨k, List.mem_of_getElem? hk, hp⟩

set_option maxRecDepth 1000000 in
set_option maxHeartbeats 4000000 in
theorem l11Wins_any (B : Nat) (a : Option Addr) (n c m : Nat) (t : List Nd) (ps : List Txt) (oth : Bool) (hv : Valid t ps) (hl : t.length = n) (hm : m ≤ 6) : ∀ (f i : Nat), n - i ≤ f → i < n → ∀ w : World, B ≤ w.heap.size → Nds B w a n c t →
    Calls Try.prog 47 #[.agg #[.slice a n c], .int .i64 (i : Int), .int .i64 (m : Int), .bool oth] w fun e w' => e = .returned (.bool (win t ps m oth i)) ∧ Below w.heap.size w w'
  | 0, i, h0, hi => absurd h0 (by omega)
  | f + 1, i, hfi, hi => by
    intro w hB h
    have h481 := hv.size
    have G1 := Lib.hid (Gv.start (h.mono hB))
    have hsz0 := G1.out.bel.size
    have cK := Lib.hid (l2Kids_any w.heap.size a n c i t _ hsz0 G1.out.nds (by omega) hi)
    have IH : Hid (∀ k, i < k → k < n → ∀ V : World, Gv w V a n c t → Calls Try.prog 47 #[.agg #[.slice a n c], .int .i64 (k : Int), .int .i64 (m : Int), .bool oth] V fun e w' => e = .returned (.bool (win t ps m oth k)) ∧ Below V.heap.size V w') := Lib.hid (fun k h1 h2 V hG => l11Wins_any w.heap.size a n c m t ps oth hv hl hm f k (by omega) h2 V (Nat.le_of_lt hG.lt) hG.nds)
    have cF0 : Hid (∀ k, k < n → ∀ V : World, Gv w V a n c t → Calls Try.prog 38 #[.agg #[.slice a n c], .int .i64 (k : Int), .int .i64 (m : Int)] V fun e w' => e = .returned (.bool (fatB t ps m k)) ∧ Below V.heap.size V w') := Lib.hid (fun k h2 V hG => l11Fatal_any w.heap.size a n c k m t ps V (Nat.le_of_lt hG.lt) hG.nds hv h2 hm)
    have HWE : Hid (win t ps m oth i = (kidsTo t i n).any (winK t ps m oth)) := Lib.hid (by
      have := win_eq (t := t) (ps := ps) (m := m) (oth := oth) i
      rw [hl] at this
      exact this)
    have HGT : Hid (∀ k, k ∈ kidsTo t i n → i < k ∧ k < n) := Lib.hid (fun k hk => by rw [← hl] at hk ⊢; exact kids_gt hk)
    obtain ⟨ks, hks⟩ : ∃ ks, kidsTo t i n = ks := ⟨_, rfl⟩
    rw [hks] at cK HWE HGT
    obtain ⟨res, hres⟩ : ∃ res, win t ps m oth i = res := ⟨_, rfl⟩
    rw [hres] at HWE ⊢
    have hlen : ks.length ≤ 1000 := by have := kidsTo_le (t := t) (i := i) n; rw [hks] at this; omega
    obtain ⟨len, hle⟩ : ∃ len, ks.length = len := ⟨_, rfl⟩
    have HLE := Lib.hid hle
    rw [hle] at cK hlen
    clear hks hres hle h hv hfi
    go_enter Try.func47, Try.ntmps47
    go_wp2_with fail
    refine cK.out.mono ?_
    rintro e w2 ⟨v, rfl, hO, hb⟩
    obtain ⟨a9, c9, rfl, hS⟩ := own_nums hO
    have HS := Lib.hid hS
    have G2 := Lib.hid (G1.out.on hb)
    have C9 := hS.cap
    have T9 := hS.top
    clear hO hb hS
    go_wp2_with fail
    go_loopw [10] (fun q wr => ∃ j : Nat, q = .int .i64 (j : Int) ∧ j ≤ len ∧ Hid ((ks.take j).any (winK t ps m oth) = false) ∧ Hid (Below w2.heap.size w2 wr)) (fun q _ => len - (intOf q).toNat)
    case atStart => exact ⟨0, rfl, Nat.zero_le _, Lib.hid rfl, Lib.hid (Below.refl _ _)⟩
    case round =>
      obtain ⟨j, rfl, hj, HA, HBw⟩ := hrel
      by_cases hjl : j < len
      · obtain ⟨k, hk⟩ : ∃ k, ks[j]? = some k := ⟨_, List.getElem?_eq_getElem (by rw [HLE.out]; exact hjl)⟩
        have hik := HGT.out k (List.mem_of_getElem? hk)
        have hi0 : (0 : Int) ≤ (j : Int) := by omega
        have hi1 : (j : Int) < (len : Int) := by omega
        obtain ⟨b9, o9, e9, hb9, hr9⟩ := (HS.out.keep HBw.out).spot j _ (nums_at hk)
        subst e9
        have hR : Hid (∀ V, Below w2.heap.size w2 V → V.cell? ⟨w.heap.size, 0, none⟩ = some (.slice a n c) ∧ V.cell? ⟨b9, o9 + j, none⟩ = some (.int .i64 (k : Int))) := Lib.hid (fun V hV => ⟨(G2.out.on hV).box, by
          obtain ⟨b8, o8, e8, _, h8⟩ := (HS.out.keep hV).spot j _ (nums_at hk)
          injection e8 with e8
          injection e8 with e8 e10
          subst e8 e10
          exact h8⟩)
        have hbx := (hR.out _ HBw.out).1
        have HAS : Hid ((ks.take (j + 1)).any (winK t ps m oth) = winK t ps m oth k) := Lib.hid (by rw [any_step hk, HA.out, Bool.false_or])
        have HAH : Hid (winK t ps m oth k = true → res = true) := Lib.hid (fun hp => by rw [HWE.out]; exact any_hit hk hp)
        have cF : Hid (∀ V, Below w2.heap.size w2 V → Calls Try.prog 38 #[.agg #[.slice a n c], .int .i64 (k : Int), .int .i64 (m : Int)] V fun e w' => e = .returned (.bool (fatB t ps m k)) ∧ Below V.heap.size V w') := Lib.hid (fun V hV => cF0.out k hik.2 V (G2.out.on hV))
        have cW : Hid (∀ V, Below w2.heap.size w2 V → Calls Try.prog 47 #[.agg #[.slice a n c], .int .i64 (k : Int), .int .i64 (m : Int), .bool oth] V fun e w' => e = .returned (.bool (win t ps m oth k)) ∧ Below V.heap.size V w') := Lib.hid (fun V hV => IH.out k hik.1 hik.2 V (G2.out.on hV))
        have HWK : Hid (winK t ps m oth k = ((fatB t ps m k && oth) || (!fatB t ps m k && !win t ps m oth k))) := Lib.hid rfl
        obtain ⟨x, hx⟩ : ∃ x, fatB t ps m k = x := ⟨_, rfl⟩
        obtain ⟨y, hy⟩ : ∃ y, win t ps m oth k = y := ⟨_, rfl⟩
        obtain ⟨z, hz⟩ : ∃ z, winK t ps m oth k = z := ⟨_, rfl⟩
        rw [hx] at cF HWK
        rw [hy] at cW HWK
        rw [hz] at HAS HAH HWK
        clear hx hy hz hk hbx hr9
        have hS0 : Below w2.heap.size w2 wr.drew := HBw.out.trans ((Below.refl _ _).drew.mono HBw.out.size)
        have hne : Nonempty (Cls (Below w2.heap.size w2)) := ⟨⟨_, hS0⟩⟩
        have hm1 : ∀ q : Cls (Below w2.heap.size w2), q.w.cell? ⟨w.heap.size, 0, none⟩ = some (.slice a n c) := fun q => (hR.out q.w q.h).1
        have hm2 : ∀ q : Cls (Below w2.heap.size w2), q.w.cell? ⟨b9, o9 + j, none⟩ = some (.int .i64 (k : Int)) := fun q => (hR.out q.w q.h).2
        have cF2 : Hid (∀ q : Cls (Below w2.heap.size w2), Calls Try.prog 38 #[.agg #[.slice a n c], .int .i64 (k : Int), .int .i64 (m : Int)] q.w fun e w' => e = .returned (.bool x) ∧ Below w2.heap.size w2 w') := Lib.hid (fun q => (cF.out q.w q.h).mono fun e w' h => ⟨h.1, q.h.trans (h.2.mono q.h.size)⟩)
        have cW2 : Hid (∀ q : Cls (Below w2.heap.size w2), Calls Try.prog 47 #[.agg #[.slice a n c], .int .i64 (k : Int), .int .i64 (m : Int), .bool oth] q.w fun e w' => e = .returned (.bool y) ∧ Below w2.heap.size w2 w') := Lib.hid (fun q => (cW.out q.w q.h).mono fun e w' h => ⟨h.1, q.h.trans (h.2.mono q.h.size)⟩)
        clear cF cW hR
        cases x with
        | true =>
          cases oth with
          | true =>
            have HR : Hid (res = true) := Lib.hid (HAH.out HWK.out)
            clear HAS HAH
            go_wp2_with fail
            refine wp_region_cls (Below w2.heap.size w2) (by kernel_rfl) (by kernel_rfl) hS0 ?_
            repeat (go_big_quiet_step ((first
              | (go_at_call 38; exact cls_of (cF2.out _))
              | (go_at_call 47; exact cls_of (cW2.out _)))))
            refine wpQuiet_nil ?_
            intro _ hw'
            obtain ⟨wq, rfl⟩ := hw'
            have hq := wq.h
            go_wp2
            go_ret
            exact ⟨ret_bool HR.out.symm, G2.out.bel.trans (hq.mono (Nat.le_of_lt G2.out.lt))⟩
          | false =>
            have HR : Hid ((ks.take (j + 1)).any (winK t ps m _) = false) := Lib.hid (HAS.out.trans HWK.out)
            clear HAS HAH
            go_wp2_with fail
            refine wp_region_cls (Below w2.heap.size w2) (by kernel_rfl) (by kernel_rfl) hS0 ?_
            repeat (go_big_quiet_step ((first
              | (go_at_call 38; exact cls_of (cF2.out _))
              | (go_at_call 47; exact cls_of (cW2.out _)))))
            refine wpQuiet_nil ?_
            intro _ hw'
            obtain ⟨wq, rfl⟩ := hw'
            have hq := wq.h
            go_wp2
            go_roundw
            case rel => exact ⟨j + 1, by go_num, by omega, HR, Lib.hid hq⟩
            case measure => simp [intOf]; omega
        | false =>
          cases y with
          | true =>
            have HR : Hid ((ks.take (j + 1)).any (winK t ps m _) = false) := Lib.hid (HAS.out.trans HWK.out)
            clear HAS HAH
            go_wp2_with fail
            refine wp_region_cls (Below w2.heap.size w2) (by kernel_rfl) (by kernel_rfl) hS0 ?_
            repeat (go_big_quiet_step ((first
              | (go_at_call 38; exact cls_of (cF2.out _))
              | (go_at_call 47; exact cls_of (cW2.out _)))))
            refine wpQuiet_nil ?_
            intro _ hw'
            obtain ⟨wq, rfl⟩ := hw'
            have hq := wq.h
            go_wp2
            go_roundw
            case rel => exact ⟨j + 1, by go_num, by omega, HR, Lib.hid hq⟩
            case measure => simp [intOf]; omega
          | false =>
            have HR : Hid (res = true) := Lib.hid (HAH.out HWK.out)
            clear HAS HAH
            go_wp2_with fail
            refine wp_region_cls (Below w2.heap.size w2) (by kernel_rfl) (by kernel_rfl) hS0 ?_
            repeat (go_big_quiet_step ((first
              | (go_at_call 38; exact cls_of (cF2.out _))
              | (go_at_call 47; exact cls_of (cW2.out _)))))
            refine wpQuiet_nil ?_
            intro _ hw'
            obtain ⟨wq, rfl⟩ := hw'
            have hq := wq.h
            go_wp2
            go_ret
            exact ⟨ret_bool HR.out.symm, G2.out.bel.trans (hq.mono (Nat.le_of_lt G2.out.lt))⟩
      · have e : j = len := by omega
        subst e
        have HR : Hid (res = false) := Lib.hid (by rw [HWE.out, ← HA.out, List.take_of_length_le (by rw [HLE.out]; exact Nat.le_refl _)])
        go_wp2
        go_ret
        exact ⟨ret_bool HR.out.symm, G2.out.bel.trans (HBw.out.mono (Nat.le_of_lt G2.out.lt))⟩

end Go.Proofs.Ytfehfjnmkaifbab
