/-
  The program's edges for the kids of a node, by numbers of these.
-/
import Derived.Test.YtmgieahachphmabDoorL7Alike
import Derived.Test.YtmgieahachphmabDoorKidsWalk
import Derived.Test.YtmgieahachphmabDoorOX
import Derived.Test.YtmgieahachphmabDoorStepA
import Derived.Deep.RegionHeld3
namespace Go.Proofs.YtmgieahachphmabDoor
open Go.RowKit
set_option linter.unusedVariables false

theorem infoE2 : (Tryd.prog.info? 84).map (fun i => (i.zero, i.size, i.bytes)) = some (some (.agg #[.int .i64 0, .int .i64 0]), 2, 16) := by kernel_rfl

/-- edges as cells -/
def ecells (l : List (Int × Nat)) : List Value := l.flatMap fun p => [Value.int .i64 p.1, Value.int .i64 (p.2 : Int)]
theorem ecells_app (l m : List (Int × Nat)) : ecells (l ++ m) = ecells l ++ ecells m := by simp [ecells]
theorem ecells_one (x : Int) (y : Nat) : ecells [(x, y)] = [Value.int .i64 x, Value.int .i64 (y : Int)] := rfl
theorem ecells_len (l : List (Int × Nat)) : (ecells l).length = l.length * 2 := by
  induction l with
  | nil => rfl
  | cons p l ih => simp [ecells] at ih ⊢; omega

theorem lit_ownE {W : World} {o : Obj} : ((W.alloc o).alloc (.cells #[] 84)).ownsRow (W.heap.size + 1) 84 2 (.slice (some ⟨W.heap.size + 1, 0, none⟩) 0 0) 0 [] := by
  have := World.ownsRow_lit (base := W.heap.size + 1) (e := 84) (size := 2) (W.alloc o) #[] 0 (by simp) (by unfold maxLen; omega) rfl
  simpa using this

/-- an append of one edge, at an operation of a region that draws its order -/
theorem step_app_edge {w0 : World} {ops : Array Oper} {o : Oper} {ac : Act} {K : Act → World → Prop} {Q : Exit → Act → World → Prop} {E : Prop} {ty : TypeId} {base j nx : Nat} {v vx : Value} {xs xx : List Value} {te : TypeId} {l m : Int} (hgd : o.guard = none) (s x : Operand)
    (ho : o.op = .call { callee := .builtin .append, args := #[s, x], argTypes := #[80, 80] }) (hs : ac.eval s = v) (hx : ac.eval x = .slice (some ⟨w0.heap.size, 0, none⟩) 1 1)
    (hQ : cap.OX base w0 84 2 v j xs te vx nx xx) (hj : j ≤ 100000) (hbase : base ≤ w0.heap.size)
    (h : ∀ v' w', cap.OX base w' 84 2 v' (j + 1) (xs ++ [.int .i64 l, .int .i64 m]) te vx nx xx → Below base w0 w' → K (ac.put o.dst v') w') :
    if Region.wanted o (yielded ops ac.tmps) = true then Oper.wp Tryd.prog o ac (w0.alloc (.cells #[.int .i64 l, .int .i64 m] ty)) K Q else E := by
  obtain ⟨i0, hii, hz0, hz1, hz2⟩ := info_parts infoE2
  refine step_append_row hgd s x 80 ho base 84 i0 (.agg #[.int .i64 0, .int .i64 0]) 2 16 Tryd.underlying80 hii hz0 hz1 hz2 rfl (by decide) v j xs hs (hQ.out.alloc _) ⟨w0.heap.size, 0, none⟩ 1 1 [.int .i64 l, .int .i64 m] hx rfl (World.news_of_block (heap_alloc_new _ _)) (by simp [Value.oneCell']) (by unfold maxLen; omega) (by omega) (by simp; omega) ?_
  intro v' w' hO hG hat
  exact h v' w' (hQ.app hO hG hat) (hQ.below hbase hG)

set_option maxRecDepth 1000000 in
set_option maxHeartbeats 4000000 in
theorem edgesAt_any (B q : Nat) (a : Option Addr) (n c i : Nat) (t : List Nd) (ps : List Txt) (M : Nat → Nat) (w : World) (hB : B ≤ w.heap.size) (h : Nds B w a n c t) (hv : Valid t ps) (hi : i < n) (hS : Sl w.heap.size w (some ⟨q, 0, none⟩) n n (lrow M n)) :
    Calls Tryd.prog 77 #[.agg #[.slice a n c], .int .i64 (i : Int), .slice (some ⟨q, 0, none⟩) n n] w fun e w' => ∃ v, e = .returned v ∧ w'.ownsRow w.heap.size 84 2 v (sg t M i).2.length (ecells (sg t M i).2) ∧ Below w.heap.size w w' := by
  have L := Lib.hid h.len
  have C := h.cap
  have T := h.top
  have hn481 : n ≤ 481 := by have := hv.size; have := h.len; omega
  obtain ⟨i0, hii, hz0, hz1, hz2⟩ := info_parts infoE2
  have hb1 : Below w.heap.size w (w.alloc (.cells #[.slice a n c] 33)) := (Below.refl _ _).alloc (Nat.le_refl _) _
  have hbx : (w.alloc (.cells #[.slice a n c] 33)).cell? ⟨w.heap.size, 0, none⟩ = some (.slice a n c) := by simp
  have hsz1 : (w.alloc (.cells #[.slice a n c] 33)).heap.size = w.heap.size + 1 := by simp
  have hsz2 : ((w.alloc (.cells #[.slice a n c] 33)).alloc (.cells #[] 84)).heap.size = w.heap.size + 2 := by simp
  have hb2 : Below (w.heap.size + 1) (w.alloc (.cells #[.slice a n c] 33)) ((w.alloc (.cells #[.slice a n c] 33)).alloc (.cells #[] 84)) := (Below.refl _ _).alloc (by rw [hsz1]; exact Nat.le_refl _) _
  have hO2 := lit_ownE (W := w) (o := .cells #[.slice a n c] 33)
  have hbx2 := (hb2.cell (p := ⟨w.heap.size, 0, none⟩) (by show w.heap.size < w.heap.size + 1; omega)).trans hbx
  obtain ⟨W1, hW1⟩ : ∃ W1, (w.alloc (.cells #[.slice a n c] 33)).alloc (.cells #[] 84) = W1 := ⟨_, rfl⟩
  have hbw := hb1.trans (hb2.mono (by omega))
  have hN1 := h.keep (hbw.mono hB)
  have hS1 := hS.keep hbw
  rw [hW1] at hbx2 hO2 hN1 hS1 hsz2 hbw
  have cK := Lib.hid (kidsAt_any B a n c i t ps W1 (by omega) hN1 (by omega) hv.tells hi)
  obtain ⟨kl, hkl⟩ : ∃ kl, kidsTo t i n = kl := ⟨_, rfl⟩
  have HKl : Hid (∀ x ∈ kl, x < n) := Lib.hid (fun x hx => by rw [← hkl] at hx; exact (mem_kidsTo.1 hx).1)
  have hle : kl.length ≤ n := by rw [← hkl]; exact kidsTo_le n
  have HSg : Hid ((sg t M i).2 = kl.map fun k => ((ndA t k).l, M k)) := Lib.hid (by rw [← hkl, ← L.out]; rfl)
  rw [hkl] at cK
  have HC : Hid (∀ W, Below (w.heap.size + 1) W1 W → ∀ x, x < n → ∃ b o l, a = some ⟨b, o, none⟩ ∧ b < w.heap.size + 1 ∧ q < w.heap.size + 1 ∧ (ndA t x).l = l ∧ W.cell? ⟨w.heap.size, 0, none⟩ = some (.slice (some ⟨b, o, none⟩) n c) ∧ W.cell? ⟨b, o + x * 3, none⟩ = some (.int .i64 l) ∧ W.cell? ⟨q, x, none⟩ = some (.int .i64 ((M x : Nat) : Int))) := Lib.hid (fun W hb x hx => by
    obtain ⟨b, o, l, p, e, hab, hbl, hd, _, _, hc1, _, _⟩ := (hN1.keep (hb.mono (by omega))).elem x hx
    obtain ⟨b5, o5, e5, hql, hLx⟩ := (hS1.keep (hb.mono (by omega))).spot x _ (lrow_at M hx)
    injection e5 with e5
    injection e5 with e5 e6
    subst e5
    subst e6
    rw [Nat.zero_add] at hLx
    refine ⟨b, o, l, hab, by omega, by omega, by rw [ndA_at hd], ?_, hc1, hLx⟩
    rw [← hab]
    exact (hb.cell (p := ⟨w.heap.size, 0, none⟩) (by show w.heap.size < w.heap.size + 1; omega)).trans hbx2)
  have HO2 := Lib.hid hO2
  have HBW := Lib.hid hbw
  clear h hv hS hb1 hbx hsz1 hb2 hN1 hS1 hO2 hbw hB
  go_enter Tryd.func77, Tryd.ntmps77
  go_wp2_with fail
  clear hW1
  refine cK.out.mono ?_
  rintro e w2 ⟨vk, rfl, hOk, hbk⟩
  obtain ⟨ak, ck, rfl, hSk⟩ := own_nums hOk
  have Q0 := Lib.hid (cap.OX.later HO2.out hbk hOk)
  have HB2 : Hid (Below (w.heap.size + 1) W1 w2) := Lib.hid (hbk.mono (by omega))
  have HSk := Lib.hid hSk
  obtain ⟨m, hm⟩ : ∃ m, kl.length = m := ⟨_, rfl⟩
  rw [hm] at hle Q0 HSk ⊢
  have HM := Lib.hid hm
  clear hOk hbk hSk hm cK
  rename World => w2
  go_wp2_with fail
  go_loopw [7, 9, 15] (fun p7 p9 p15 wr => ∃ (j : Nat) (v : Value), j ≤ m ∧ p7 = v ∧ (∃ z : Value, p9 = z) ∧ p15 = .int .i64 (j : Int) ∧ Hid (cap.OX (w.heap.size + 1) wr 84 2 v j (ecells ((kl.take j).map fun k => ((ndA t k).l, M k))) 3 (.slice ak m ck) m (nums kl)) ∧ Hid (Below (w.heap.size + 1) W1 wr)) (fun _ _ p15 _ => m - (intOf p15).toNat)
  case atStart => exact ⟨0, _, Nat.zero_le _, rfl, ⟨_, rfl⟩, rfl, Q0, HB2⟩
  case round =>
    clear Q0 HB2
    obtain ⟨j, v, hj, rfl, ⟨z, rfl⟩, rfl, Q, HBr⟩ := hrel
    by_cases hlt : j < m
    · obtain ⟨x, hx⟩ : ∃ x, kl[j]? = some x := ⟨_, List.getElem?_eq_getElem (by rw [HM.out]; exact hlt)⟩
      have hxn := HKl.out x (at_memN hx)
      obtain ⟨bk, ok, ek, hbk, hcx⟩ := (Sl.of_own Q.out.ext).spot j _ (nums_at hx)
      subst ek
      obtain ⟨b, o, l, rfl, hbl, hql, hl, hbox, hcl, hcm⟩ := HC.out _ HBr.out x hxn
      have HL := Lib.hid hl
      obtain ⟨y, hy⟩ : ∃ y, M x = y := ⟨_, rfl⟩
      rw [hy] at hcm
      have HTk : Hid (ecells ((kl.take j).map fun k => ((ndA t k).l, M k)) ++ [.int .i64 l, .int .i64 (y : Int)] = ecells ((kl.take (j + 1)).map fun k => ((ndA t k).l, M k))) := Lib.hid (by
        have h1 : kl.take (j + 1) = kl.take j ++ [x] := by rw [List.take_add_one, hx]; rfl
        rw [h1, List.map_append, ecells_app]
        rw [← hl, ← hy]
        rfl)
      have HS3 : Hid (∀ W, Below (w.heap.size + 1) wr W → W.cell? ⟨w.heap.size, 0, none⟩ = some (.slice (some ⟨b, o, none⟩) n c) ∧ W.cell? ⟨b, o + x * 3, none⟩ = some (.int .i64 l) ∧ W.cell? ⟨q, x, none⟩ = some (.int .i64 (y : Int))) := Lib.hid (fun W hb => ⟨(hb.cell (p := ⟨w.heap.size, 0, none⟩) (by show w.heap.size < w.heap.size + 1; omega)).trans hbox, (hb.cell (p := ⟨b, o + x * 3, none⟩) hbl).trans hcl, (hb.cell (p := ⟨q, x, none⟩) hql).trans hcm⟩)
      have hszr : w.heap.size + 1 ≤ wr.heap.size := by have := HBr.out.size; omega
      have hszd : w.heap.size + 1 ≤ wr.drew.heap.size := hszr
      have HQd := Lib.hid (Q.out.on (Below.refl _ _).drew)
      have hj1 : j ≤ 100000 := by omega
      have hj0 : (0 : Int) ≤ (j : Int) := by omega
      have hj2 : (j : Int) < (m : Int) := by omega
      have hx0 : (0 : Int) ≤ (x : Int) := by omega
      have hx1 : (x : Int) < (n : Int) := by omega
      have HBd : Hid (Below (w.heap.size + 1) wr wr.drew) := Lib.hid (Below.refl _ _).drew
      clear hx hl hy hbl hql hbk
      go_wp2_with fail
      go_region_held3 (fun w' => w'.cell? ⟨w.heap.size, 0, none⟩ = some (.slice (some ⟨b, o, none⟩) n c) ∧ w'.cell? ⟨b, o + x * 3, none⟩ = some (.int .i64 l) ∧ w'.cell? ⟨q, x, none⟩ = some (.int .i64 (y : Int)))
        (first
          | exact HS3.out _ (HBd.out.trans hb5)
          | exact HS3.out _ HBd.out
          | exact HS3.out _ (HBd.out.alloc hszd _))
        (first
          | (refine step_app_edge rfl _ _ rfl rfl rfl HQd.out hj1 hszd ?_; intro v5 w5 hQ5 hb5))
      go_wp2
      go_roundw
      case rel => exact ⟨j + 1, v5, hlt, rfl, ⟨_, rfl⟩, by go_num, Lib.hid (by rw [← HTk.out]; exact hQ5), Lib.hid (HBr.out.trans (HBd.out.trans hb5))⟩
      case measure => simp [intOf]; omega
    · obtain rfl : j = m := by omega
      go_wp2
      go_ret
      refine ⟨_, rfl, ?_, HBW.out.trans (HBr.out.mono (by omega))⟩
      have h9 := own_down Q.out.out (show w.heap.size ≤ w.heap.size + 1 by omega)
      rw [← HM.out, List.take_length] at h9
      rw [HSg.out, List.length_map]
      exact h9

end Go.Proofs.YtmgieahachphmabDoor
