/-
  The ends of a text in their order: the reference's places and the program's list.
-/
import Derived.Test.YtifkggapdaflmaaSortS
import Derived.Test.YtifkggapdaflmaaNumsB
import Derived.Test.YtifkggapdaflmaaBes
namespace Go.Proofs.Ytifkggapdaflmaa
open Go.RowKit
set_option linter.unusedVariables false

/-- the places from which ends go -/
def plo (n : Nat) (E : List Txt) : List Nat := E.map fun e => n - e.length
theorem plo_len (n : Nat) (E : List Txt) : (plo n E).length = E.length := by simp [plo]
theorem plo_snoc (n : Nat) (E : List Txt) (k : Nat) (e : Txt) (h : E[k]? = some e) : plo n (E.take (k + 1)) = plo n (E.take k) ++ [n - e.length] := by
  obtain ⟨hk, e1⟩ := List.getElem?_eq_some_iff.1 h
  unfold plo
  rw [List.take_succ_eq_append_getElem hk, e1, List.map_append]
  rfl

theorem endsTo_room (x : Txt) (k : Nat) : (puts (endsTo x k)).length ≤ k := by have := puts_len (endsTo x k); rw [endsTo_len] at this; exact this

set_option maxRecDepth 1000000 in
set_option maxHeartbeats 2000000 in
theorem l8Ends_any (s : ByteArray) (w : World) (h16 : s.size ≤ 16) :
    Calls Try.prog 38 #[.string s] w fun e w' => ∃ v, e = .returned v ∧ w'.ownsRow w.heap.size 3 1 v (plo s.size (endsO (tx s))).length (nums (plo s.size (endsO (tx s)))) ∧ Below w.heap.size w w' := by
  obtain ⟨i0, hii, hz0, hz1, hz2⟩ := info_parts infoI
  have HO0 : Hid (((w.alloc (.cells #[] 9)).alloc (.cells #[] 3)).heap[w.heap.size + 1]? = some (.cells #[] 3 (0, 0))) := Lib.hid (by have := heap_alloc_new (w.alloc (.cells #[] 9)) (.cells #[] 3); rwa [World.size_alloc] at this)
  have HB0 : Hid (Below w.heap.size w ((w.alloc (.cells #[] 9)).alloc (.cells #[] 3))) := Lib.hid (((Below.refl _ _).alloc (Nat.le_refl _) _).alloc (by simp) _)
  have hl40 := endsO_len (tx s)
  have HLn : Hid ((endsO (tx s)).length = s.size) := Lib.hid (by rw [hl40, tx_len])
  clear hl40
  go_enter Try.func38, Try.ntmps38
  go_wp2
  go_loopw [3, 5] (fun o i wr => ∃ (k n c : Nat) (a : Option Addr), k ≤ s.size ∧ i = .int .i64 k ∧ o = .slice a n c ∧ Hid (Wds wr.heap.size wr a n c (puts (endsTo (tx s) k))) ∧ Hid (wr.heap[w.heap.size + 1]? = some (.cells #[] 3 (0, 0))) ∧ Hid (Below w.heap.size w wr)) (fun _ i _ => s.size - (intOf i).toNat)
  case atStart => exact ⟨0, 0, 0, _, Nat.zero_le _, rfl, rfl, Lib.hid (wds_nil _ _ 0 _), HO0, HB0⟩
  case round =>
    clear HO0 HB0
    obtain ⟨k, n, c, a, hk, rfl, rfl, HW, HO, HB⟩ := hrel
    by_cases hlt : k < s.size
    · have hk0 : (0 : Int) ≤ (k : Int) := by omega
      have hk1 : (k : Int) ≤ (s.size : Int) := by omega
      have hz := (by rw [ByteArray.size_extract]; omega : (s.extract k s.size).size ≤ 9223372036854775807)
      have hn : n ≤ 5000000 := by
        have h1 := HW.out.len
        have h2 := endsTo_room (tx s) k
        omega
      have cP := Lib.hid (fun (W : World) (B : Nat) (hB : B ≤ W.heap.size) h => l2Put_any B a n c (puts (endsTo (tx s) k)) (s.extract k s.size) W hB h hz hn)
      have HN : Hid (put (puts (endsTo (tx s) k)) (tx (s.extract k s.size)) = puts (endsTo (tx s) (k + 1))) := Lib.hid (by rw [← puts_snoc, tx_from, endsTo_succ])
      clear hz
      go_wp2_with (go_at_call 45; refine (cP.out _ _ (Nat.le_refl _) HW.out).mono ?_; rintro e w2 ⟨a2, n2, c2, rfl, hW2, hb2⟩; have HW2 := Lib.hid hW2; have HO2 := Lib.hid ((hb2.block (w.heap.size + 1) (Array.getElem?_eq_some_iff.1 HO.out).1).trans HO.out); have HB2 := Lib.hid (HB.out.trans (hb2.mono HB.out.size)); clear hW2 hb2)
      go_roundw
      case rel => exact ⟨k + 1, n2, c2, a2, by omega, by go_num, rfl, Lib.hid (by rw [← HN.out]; exact HW2.out), HO2, HB2⟩
      case measure => simp [intOf]; omega
    · have HE : Hid (puts (endsTo (tx s) k) = endsO (tx s)) := Lib.hid (by unfold endsO endsL; rw [tx_len, show k = s.size by omega])
      have hn : n = s.size := by rw [← HLn.out, ← HE.out]; exact HW.out.len.symm
      have HN := Lib.hid hn
      have hn16 : n ≤ 16 := by omega
      have HW1 : Hid (Wds wr.heap.size wr a n c (endsO (tx s))) := Lib.hid (by rw [← HE.out]; exact HW.out)
      clear hn HW
      rename World => wo
      have hzo : w.heap.size + 1 < wo.heap.size := (Array.getElem?_eq_some_iff.1 HO.out).1
      have HOw : Hid (wo.ownsRow w.heap.size 3 1 (.slice (some ⟨w.heap.size + 1, 0, none⟩) 0 0) 0 []) := Lib.hid ⟨rfl, .inr ⟨_, 0, #[], rfl, by omega, HO.out, Nat.le_refl _, by unfold maxLen; omega, rfl, rfl⟩⟩
      have HBes : Hid (Bes wo.heap.size wo a n c (endsO (tx s)) (w.heap.size + 1)) := Lib.hid ⟨HW1.out, fun x hx hn => by
        obtain ⟨y, r, hyr⟩ := List.exists_cons_of_ne_nil hn
        obtain ⟨b, o', ha, hb, hc⟩ := HW1.out.sl.spot 0 (.string (bx y)) (by rw [hyr]; rfl)
        rw [hx] at ha
        injection ha with ha
        subst ha
        intro e
        simp only at e
        subst e
        have h1 := HO.out
        simp [World.cell?, h1] at hc⟩
      clear HW1
      go_wp2
      go_loopw [4, 6] (fun o i wr => ∃ (j g c2 : Nat), j ≤ n ∧ i = .int .i64 j ∧ o = .slice (some ⟨g, 0, none⟩) j c2 ∧ Hid (wr.ownsRow w.heap.size 3 1 (.slice (some ⟨g, 0, none⟩) j c2) j (nums (plo s.size ((endsO (tx s)).take j)))) ∧ Hid (Bes wo.heap.size wr a n c (endsO (tx s)) g) ∧ wo.heap.size ≤ wr.heap.size ∧ Hid (Below w.heap.size w wr)) (fun _ i _ => n - (intOf i).toNat)
      case atStart => exact ⟨0, w.heap.size + 1, 0, Nat.zero_le _, rfl, rfl, HOw, HBes, Nat.le_refl _, HB⟩
      case round =>
        clear HOw HBes HB HO
        obtain ⟨j, g, c2, hj, rfl, rfl, HO, HS, hzr, HB⟩ := hrel
        by_cases hlt2 : j < n
        · obtain ⟨b, o, t, rfl, hbB, hte, htz, hc⟩ := Wds.elem HS.out.wds j hlt2
          have HPl := Lib.hid (plo_snoc s.size _ j _ hte)
          have htl := (endsO_drop (List.mem_of_getElem? hte)).2
          rw [tx_len, tx_len] at htl
          obtain ⟨htl1, htl2⟩ := htl
          have HV : Hid (nums [s.size - t.size] = [Value.int .i64 ((s.size : Int) - (t.size : Int))]) := Lib.hid (by simp [nums]; omega)
          have hj0 : (0 : Int) ≤ (j : Int) := by omega
          have hj1 : (j : Int) < (n : Int) := by omega
          clear hte
          go_wp2_with (at_builtin; refine wpList_append_own_at _ rfl _ _ 30 rfl w.heap.size 3 i0 (.int .i64 0) 1 8 Try.underlying30 hii hz0 hz1 hz2 rfl (by decide) _ _ _ rfl (HO.out.alloc _) ⟨wr.heap.size, 0, none⟩ 1 1 [.int .i64 ((s.size : Int) - (t.size : Int))] rfl rfl (cell_one_new _ _ _) (by simp [Value.oneCell']) (by unfold maxLen; omega) (by omega) (by simp; omega) ?_; intro v3 w3 hO3 hG3 _ hat; obtain ⟨g', cap', rfl⟩ := own_succ hO3; have HO3 := Lib.hid hO3; have HG3 : Hid ((wr.alloc (.cells #[.int .i64 ((s.size : Int) - (t.size : Int))] 3)).grownBy w3 (some g)) := Lib.hid hG3; have HAt : Hid ((some g' : Option Nat) = some g ∨ some g' = some (wr.alloc (.cells #[.int .i64 ((s.size : Int) - (t.size : Int))] 3)).heap.size) := Lib.hid hat; clear hO3 hG3 hat)
          have hag : g' = g ∨ wo.heap.size ≤ g' := by
            rcases HAt.out with h | h
            · injection h with h; exact .inl h
            · injection h with h; rw [World.size_alloc] at h; exact .inr (by omega)
          have hz3 := HG3.out.size
          rw [World.size_alloc] at hz3
          have HB3 : Hid (Below w.heap.size w w3) := Lib.hid ((HB.out.alloc (by omega) _).trans (below_grown (HO.out.alloc _) (by omega) (by simp; omega) HG3.out))
          have HS3 := Lib.hid (HS.out.app hzr HG3.out hag)
          have hz3' : wo.heap.size ≤ w3.heap.size := by omega
          clear hz3 hag
          go_wp2
          go_roundw
          case rel => exact ⟨j + 1, g', cap', by omega, by go_num, rfl, Lib.hid (by rw [HPl.out, nums_app, tx_len, HV.out]; exact HO3.out), HS3, hz3', HB3⟩
          case measure => simp [intOf]; omega
        · have hjn : j = n := by omega
          have HF : Hid ((endsO (tx s)).take j = endsO (tx s)) := Lib.hid (List.take_of_length_le (by rw [HLn.out, ← HN.out]; omega))
          have HL2 : Hid ((plo s.size (endsO (tx s))).length = j) := Lib.hid (by rw [plo_len, HLn.out, ← HN.out, hjn])
          clear hjn
          go_wp2
          go_ret
          exact ⟨_, rfl, by rw [HL2.out]; have := HO.out; rwa [HF.out] at this, HB.out⟩

end Go.Proofs.Ytifkggapdaflmaa
