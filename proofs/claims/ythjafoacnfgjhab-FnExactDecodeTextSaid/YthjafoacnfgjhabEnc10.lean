/-
  Messages and their texts: plain mathematics, and the reference's EncodeMessage.
-/
import Derived.Test.YthjafoacnfgjhabCode10
namespace Go.Proofs.Ythjafoacnfgjhab
open Go.RowKit
set_option linter.unusedVariables false

/-- a message for a code of n sequences -/
def msgOk (n : Nat) (m : List Int) : Bool := decide (m.length ≤ 60 ∧ ∀ x ∈ m, 0 ≤ x ∧ x < (n : Int))
theorem msgOk_iff {n : Nat} {m : List Int} : msgOk n m = true ↔ m.length ≤ 60 ∧ ∀ x ∈ m, 0 ≤ x ∧ x < (n : Int) := by unfold msgOk; exact decide_eq_true_iff
theorem msgOk_long {n : Nat} {m : List Int} (h : ¬ m.length ≤ 60) : msgOk n m = false := by
  unfold msgOk
  exact decide_eq_false (fun g => h g.1)
theorem msgOk_bad {n : Nat} {m : List Int} {k : Nat} {x : Int} (hk : m[k]? = some x) (h : ¬ (0 ≤ x ∧ x < (n : Int))) : msgOk n m = false := by
  unfold msgOk
  exact decide_eq_false (fun g => h (g.2 x (List.mem_of_getElem? hk)))
/-- the first k symbols are of the code -/
def MsTo (n : Nat) (m : List Int) (k : Nat) : Prop := ∀ j x, j < k → m[j]? = some x → 0 ≤ x ∧ x < (n : Int)
theorem MsTo.zero (n : Nat) (m : List Int) : MsTo n m 0 := fun j x h => by omega
theorem MsTo.succ {n : Nat} {m : List Int} {k : Nat} (h : MsTo n m k) {x : Int} (hk : m[k]? = some x) (hx : 0 ≤ x ∧ x < (n : Int)) : MsTo n m (k + 1) := by
  intro j y hj hy
  by_cases e : j = k
  · subst e
    rw [hk] at hy
    cases hy
    exact hx
  · exact h j y (by omega) hy
theorem MsTo.ok {n : Nat} {m : List Int} {k : Nat} (h : MsTo n m k) (hk : m.length ≤ k) (h60 : m.length ≤ 60) : msgOk n m = true := by
  rw [msgOk_iff]
  refine ⟨h60, fun x hx => ?_⟩
  obtain ⟨j, hj⟩ := List.getElem?_of_mem hx
  have := (List.getElem?_eq_some_iff.1 hj).1
  exact h j x (by omega) hj

/-- the text of a message -/
def encT (cs : List Txt) (m : List Int) : Txt := (m.map fun x => cs.getD x.toNat []).flatten
theorem encT_nil (cs : List Txt) : encT cs [] = [] := rfl
theorem encT_succ {cs : List Txt} {m : List Int} {k : Nat} {x : Int} {y : Txt} (hk : m[k]? = some x) (hy : cs[x.toNat]? = some y) : encT cs (m.take (k + 1)) = encT cs (m.take k) ++ y := by
  unfold encT
  rw [take_snoc_at hk, List.map_append, List.flatten_append]
  simp [List.getD, hy]
theorem encT_len {cs : List Txt} (hc : ∀ (i : Nat) (y : Txt), cs[i]? = some y → y.length ≤ 14) : ∀ m : List Int, (encT cs m).length ≤ 14 * m.length
  | [] => by simp [encT]
  | x :: r => by
    have ih := encT_len hc r
    have h1 : (cs.getD x.toNat []).length ≤ 14 := by
      cases h : cs[x.toNat]? with
      | none => simp [List.getD, h]
      | some y => simpa [List.getD, h] using hc _ _ h
    have e : encT cs (x :: r) = cs.getD x.toNat [] ++ encT cs r := by simp [encT]
    rw [e, List.length_append, List.length_cons]
    omega
theorem code_short {ss : List ByteArray} (h : cdB (txl ss) = true) : ∀ (i : Nat) (y : Txt), (txl ss)[i]? = some y → y.length ≤ 14 := fun i y hi => ((cdB_iff.1 h).sq hi).2.1
theorem txl_inv {ss : List ByteArray} {i : Nat} (h : i < ss.length) : ∃ s, ss[i]? = some s ∧ (txl ss)[i]? = some (tx s) := by
  have hs : ss[i]? = some ss[i] := List.getElem?_eq_getElem h
  exact ⟨_, hs, txl_at hs⟩

noncomputable def encOk (ss : List ByteArray) (m : List Int) : Bool := cdB (txl ss) && msgOk ss.length m
noncomputable def encV (ss : List ByteArray) (m : List Int) : ByteArray := if encOk ss m = true then bx (encT (txl ss) m) else ⟨#[]⟩

theorem ret_sb {a b : ByteArray} {c : Bool} (h : a = b) : Ending.returned (.tuple #[.string a, .bool c]) = .returned (.tuple #[.string b, .bool c]) := by rw [h]

set_option maxRecDepth 1000000 in
set_option maxHeartbeats 2000000 in
theorem specEncode_any (a a' : Option Addr) (n c n' c' : Nat) (ss : List ByteArray) (m : List Int) (w : World) (h : Strs w.heap.size w a n c ss) (h' : Ints w.heap.size w a' n' c' m) :
    Calls Try.prog 21 #[.slice a n c, .slice a' n' c'] w fun e w' => e = .returned (.tuple #[.string (encV ss m), .bool (encOk ss m)]) ∧ Below w.heap.size w w' := by
  have cC0 := l10Code_any w.heap.size a n c ss w (Nat.le_refl _) h
  have L := Lib.hid h.len
  have L' := Lib.hid h'.len
  have C := h.sl.cap
  have T := h.sl.top
  have C' := h'.sl.cap
  have T' := h'.sl.top
  have H := Lib.hid h
  have H' := Lib.hid h'
  clear h h'
  by_cases hc : cdB (txl ss) = true
  · have HSh := Lib.hid (code_short hc)
    have hn12 : 1 ≤ n ∧ n ≤ 12 := by have h1 := (cdB_iff.1 hc).1; have h2 := (cdB_iff.1 hc).2.1; rw [txl_len, L.out] at h1 h2; exact ⟨h1, h2⟩
    have HOk : Hid (encOk ss m = msgOk n m) := Lib.hid (by unfold encOk; rw [hc, L.out]; simp)
    rw [hc] at cC0
    have cC := Lib.hid cC0
    by_cases hl : n' ≤ 60
    · obtain ⟨v, hv⟩ : ∃ v, encV ss m = v := ⟨_, rfl⟩
      obtain ⟨ok, hok⟩ : ∃ ok, encOk ss m = ok := ⟨_, rfl⟩
      have HV := Lib.hid hv
      have HK := Lib.hid hok
      rw [hv, hok]
      clear hv hok hc cC0
      go_enter Try.func21, Try.ntmps21
      go_wp2_with fail
      refine cC.out.mono ?_
      rintro e w1 ⟨rfl, hb1⟩
      have HB1 := Lib.hid hb1
      clear hb1
      go_wp2_with fail
      go_loopw [6, 7] (fun s i wr => ∃ (k : Nat) (q : ByteArray), k ≤ n' ∧ i = .int .i64 k ∧ s = .string q ∧ q.size ≤ 14 * k ∧ Hid (tx q = encT (txl ss) (m.take k)) ∧ Hid (MsTo n m k) ∧ Hid (Below w.heap.size w wr)) (fun _ i _ => n' - (intOf i).toNat)
      case atStart => exact ⟨0, ⟨#[]⟩, Nat.zero_le _, rfl, rfl, by decide, Lib.hid rfl, Lib.hid (MsTo.zero _ _), HB1⟩
      case round =>
        clear HB1
        obtain ⟨k, q, hk, rfl, rfl, hqs, HQ, HN, HB⟩ := hrel
        by_cases hlt : k < n'
        · obtain ⟨b', o', z, rfl, _, hs', _, hc'⟩ := (H'.out.keep HB.out).elem k hlt
          have HS' := Lib.hid hs'
          clear hs'
          have hk0 : (0 : Int) ≤ (k : Int) := by omega
          have hk1 : (k : Int) < (n' : Int) := by omega
          have cI0 := fun W => l1In_any z 0 ((n : Int) - 1) W
          by_cases hz : 0 ≤ z ∧ z < (n : Int)
          · rw [show decide (0 ≤ z ∧ z ≤ (n : Int) - 1) = true from decide_eq_true (by omega)] at cI0
            have cI := Lib.hid cI0
            obtain ⟨j, rfl⟩ : ∃ j : Nat, z = j := ⟨z.toNat, by omega⟩
            have hjn : j < n := by omega
            obtain ⟨b, o, s, rfl, _, hs, hsz, hcs⟩ := (H.out.keep HB.out).elem j hjn
            have HX : Hid (encT (txl ss) (m.take (k + 1)) = encT (txl ss) (m.take k) ++ tx s) := Lib.hid (encT_succ HS'.out (by simpa using txl_at hs))
            have HN2 := Lib.hid (HN.out.succ HS'.out hz)
            have hs14 : s.size ≤ 14 := by have := HSh.out j _ (txl_at hs); rwa [tx_len] at this
            have hj0 : (0 : Int) ≤ (j : Int) := by omega
            have hj1 : (j : Int) < (n : Int) := by omega
            clear hs hz cI0
            go_wp2_with (go_at_call 39; refine (cI.out _).mono ?_; rintro e w2 ⟨rfl, rfl⟩)
            try (go_quiet (fail))
            go_wp2
            go_roundw
            case rel => exact ⟨k + 1, q ++ s, by omega, by go_num, rfl, by simp; omega, Lib.hid (by rw [HX.out, ← HQ.out]; simp), HN2, by first | exact HB | exact Lib.hid (below_drewN HB.out _)⟩
            case measure => simp [intOf]; omega
          · rw [show decide (0 ≤ z ∧ z ≤ (n : Int) - 1) = false from decide_eq_false (by omega)] at cI0
            have cI := Lib.hid cI0
            have HF : Hid (ok = false ∧ v = ⟨#[]⟩) := Lib.hid (by
              have h1 : encOk ss m = false := by rw [HOk.out]; exact msgOk_bad HS'.out hz
              refine ⟨by rw [← HK.out, h1], ?_⟩
              rw [← HV.out]
              unfold encV
              rw [if_neg (by rw [h1]; decide)])
            clear hz cI0
            go_wp2_with (go_at_call 39; refine (cI.out _).mono ?_; rintro e w2 ⟨rfl, rfl⟩)
            go_ret2
            exact ⟨by rw [HF.out.1, HF.out.2]; rfl, HB.out⟩
        · have HF : Hid (ok = true ∧ v = q) := Lib.hid (by
            have h1 : encOk ss m = true := by rw [HOk.out]; exact HN.out.ok (by have := L'.out; omega) (by have := L'.out; omega)
            refine ⟨by rw [← HK.out, h1], ?_⟩
            rw [← HV.out]
            unfold encV
            rw [if_pos h1]
            apply tx_inj
            rw [tx_bx, HQ.out, List.take_of_length_le (by have := L'.out; omega)])
          go_wp2
          go_ret2
          exact ⟨by rw [HF.out.1, HF.out.2]; rfl, HB.out⟩
    · have h1 : encOk ss m = false := by rw [HOk.out]; exact msgOk_long (by have := L'.out; omega)
      have h2 : encV ss m = ⟨#[]⟩ := by unfold encV; rw [if_neg (by rw [h1]; decide)]
      rw [h1, h2]
      clear h1 h2 hc cC0
      go_enter Try.func21, Try.ntmps21
      go_wp2_with fail
      refine cC.out.mono ?_
      rintro e w1 ⟨rfl, hb1⟩
      have HB1 := Lib.hid hb1
      clear hb1
      go_wp2_with fail
      go_ret2
      exact ⟨rfl, HB1.out⟩
  · have hc' : cdB (txl ss) = false := by simpa using hc
    have h1 : encOk ss m = false := by unfold encOk; rw [hc']; simp
    have h2 : encV ss m = ⟨#[]⟩ := by unfold encV; rw [if_neg (by rw [h1]; decide)]
    rw [hc'] at cC0
    rw [h1, h2]
    have cC := Lib.hid cC0
    clear h1 h2 hc hc' cC0
    go_enter Try.func21, Try.ntmps21
    go_wp2_with fail
    refine cC.out.mono ?_
    rintro e w1 ⟨rfl, hb1⟩
    have HB1 := Lib.hid hb1
    clear hb1
    go_wp2_with fail
    go_ret2
    exact ⟨rfl, HB1.out⟩

end Go.Proofs.Ythjafoacnfgjhab
