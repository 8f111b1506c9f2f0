/-
  The program's decoder, that goes to its beginning behind each symbol.
-/
import Derived.Test.YthjafoacnfgjhabDecI10
import Derived.Test.YthjafoacnfgjhabDecS10
import Derived.ScopeJumps
namespace Go.Proofs.Ythjafoacnfgjhab
open Go.RowKit
set_option linter.unusedVariables false

/-- the decoder's state: what has been decoded, what the reader has left -/
structure DS (cs : List Txt) (s : Txt) (P z0 : Nat) (w V : World) (o : List Nat) (f : Nat) (q : ByteArray) (m g d : Nat) : Prop where
  len : o.length = m
  at' : DecAt cs s o f (tx q)
  box : V.heap[P]? = some (.cells #[.string q] 60 (0, 0))
  row : V.ownsRow z0 3 1 (.slice (some ⟨g, 0, none⟩) m d) m (nums o)
  bel : Below P w V
  big : z0 ≤ V.heap.size

def dJ (cs : List Txt) (s : Txt) (P z0 : Nat) (w : World) (a : Option Addr) (n c : Nat) (a' : Act) (V : World) : Prop :=
  ∃ (o : List Nat) (f : Nat) (q : ByteArray) (m g d : Nat) (u6 u7 u8 u9 u10 u11 u12 u13 u14 u15 u16 u17 u18 u19 u20 u21 u22 u23 u24 u25 u26 u27 u28 u29 u30 u31 u32 u33 u34 u35 u36 u37 u38 : Value), a' = { tmps := #[.slice a n c, .func (.func 46) #[.pointer (some ⟨P, 0, none⟩)] #[], undef, undef, .slice none 0 0, .slice (some ⟨g, 0, none⟩) m d, u6, u7, u8, u9, u10, u11, u12, u13, u14, u15, u16, u17, u18, u19, u20, u21, u22, u23, u24, u25, u26, u27, u28, u29, u30, u31, u32, u33, u34, u35, u36, u37, u38], defers := [] } ∧ m + f = 60 ∧ Hid (DS cs s P z0 w V o f q m g d)

theorem box_cell {W : World} {b : Nat} {v : Value} {T : TypeId} (h : W.heap[b]? = some (.cells #[v] T (0, 0))) : W.cell? ⟨b, 0, none⟩ = some v := by simp [World.cell?, h]
theorem box_frozen {W : World} {b : Nat} {v : Value} {T : TypeId} (h : W.heap[b]? = some (.cells #[v] T (0, 0))) : W.frozen? ⟨b, 0, none⟩ = false := by simp [World.frozen?, h]
theorem box_set {W : World} {b : Nat} {v : Value} {T : TypeId} (h : W.heap[b]? = some (.cells #[v] T (0, 0))) (v' : Value) : (W.setCell ⟨b, 0, none⟩ v').heap[b]? = some (.cells #[v'] T (0, 0)) := by
  simp [World.setCell, Array.getElem?_modify, h]
theorem tx_app (x y : ByteArray) : tx (x ++ y) = tx x ++ tx y := by simp
theorem code_from {Pr : Program} {cd : Code} {Q : Exit → Act → World → Prop} {J : Act → World → Prop} {a0 : Act} {V0 : World} (h : ∀ a V, J a V → cd.wp Pr Q a V) (h0 : J a0 V0) : cd.wp Pr Q a0 V0 := h _ _ h0

set_option maxRecDepth 1000000 in
set_option maxHeartbeats 4000000 in
theorem decode_any (P : Nat) (a : Option Addr) (n c : Nat) (ss : List ByteArray) (s : ByteArray) (w : World) (h : Strs P w a n c ss) (hcd : Cd (txl ss)) (hP : P < w.heap.size) (hbx : w.heap[P]? = some (.cells #[.string s] 60 (0, 0))) (hs : s.size ≤ 840) :
    Calls Try.prog 45 #[.slice a n c, .func (.func 46) #[.pointer (some ⟨P, 0, none⟩)] #[]] w fun e w' => ∃ v, e = .returned v ∧ w'.ownsRow w.heap.size 3 1 v (dec (txl ss) 60 (tx s)).length (nums (dec (txl ss) 60 (tx s))) ∧ Below P w w' := by
  have L := Lib.hid h.len
  have C := h.sl.cap
  have T := h.sl.top
  have H := Lib.hid h
  have HCd := Lib.hid hcd
  have HBx := Lib.hid hbx
  obtain ⟨z0, hz0⟩ : ∃ z0, w.heap.size = z0 := ⟨_, rfl⟩
  have HZ := Lib.hid hz0
  clear h hcd hbx
  have hP' := hP
  rw [hz0] at hP ⊢
  clear hz0
  obtain ⟨i0, hii, hz0', hz1', hz2'⟩ := info_parts infoI
  go_enter Try.func45, Try.ntmps45
  go_wp2
  refine wp_scope_jumps 0 (dJ (txl ss) (tx s) P z0 w a n c) (fun a' _ => 60 - lenOf (a'.tmps.getD 5 undef)) rfl ?first ?pass
  case first =>
    go_wp2
    go_step3
    rename_i K hK
    refine hK _ _ ?_
    clear hK
    have HZ2 : Hid (z0 = w.heap.size) := Lib.hid HZ.out.symm
    refine code_from (J := dJ (txl ss) (tx s) P z0 w a n c) ?again ?hJ
    case hJ =>
      refine ⟨[], 60, s, 0, w.heap.size, 0, _, _, _, _, _, _, _, _, _, _, _, _, _, _, _, _, _, _, _, _, _, _, _, _, _, _, _, _, _, _, _, _, _, rfl, rfl, Lib.hid ⟨rfl, DecAt.start _ _, ?_, ?_, ?_, ?_⟩⟩
      · rw [Below.heap_alloc _ _ _ hP']
        exact HBx.out
      · rw [HZ2.out]
        exact World.ownsRow_lit w #[] 0 (Nat.le_refl _) (by unfold maxLen; omega) rfl
      · exact (Below.refl _ _).alloc (Nat.le_of_lt hP') _
      · rw [HZ2.out]; simp
    case again =>
      rintro a' V ⟨o, f, q, m, g, d, u6, u7, u8, u9, u10, u11, u12, u13, u14, u15, u16, u17, u18, u19, u20, u21, u22, u23, u24, u25, u26, u27, u28, u29, u30, u31, u32, u33, u34, u35, u36, u37, u38, rfl, hmf, HD⟩
      dsimp only
      have D := Lib.hid HD.out
      have hm60 : m ≤ 60 := by omega
      have HL := Lib.hid (HD.out.len)
      by_cases hm : m = 60
      · have hq0 : ((m : Int) == 60) = true := by rw [hm]; rfl
        have HE : Hid (dec (txl ss) 60 (tx s) = o) := Lib.hid (HD.out.at'.stop (.inr (by omega)))
        clear hm
        go_wp2
        simp only [Exit.jump]
        go_ret
        exact ⟨_, rfl, by rw [HE.out, HL.out]; exact D.out.row, D.out.bel⟩
      · have hq0 : ((m : Int) == 60) = false := by simp; omega
        obtain ⟨f', rfl⟩ : ∃ f', f = f' + 1 := ⟨f - 1, by omega⟩
        have hqs : q.size ≤ 840 := by have := (D.out.at'.left).2; rw [tx_len, tx_len] at this; omega
        rename World => wo
        clear hm
        go_wp2
        go_loopw [4, 5, 6, 15] (fun s4 s5 sv iv wr => ∃ (p : Nat) (x q' : ByteArray), s4 = .slice none 0 0 ∧ s5 = .slice (some ⟨g, 0, none⟩) m d ∧ p ≤ 14 ∧ p ≤ q.size ∧ iv = .int .i64 (p : Int) ∧ sv = .string x ∧ x.size = p ∧ q'.size + p = q.size ∧ Hid (tx x = (tx q).take p) ∧ Hid (tx q' = (tx q).drop p) ∧ Hid (NoSq (txl ss) (tx q) p) ∧ Hid (wr.heap[P]? = some (.cells #[.string q'] 60 (0, 0))) ∧ Hid (wr.ownsRow z0 3 1 (.slice (some ⟨g, 0, none⟩) m d) m (nums o)) ∧ Hid (Below P w wr) ∧ z0 ≤ wr.heap.size) (fun _ _ _ iv _ => 14 - (intOf iv).toNat)
        case atStart => exact ⟨0, ⟨#[]⟩, q, rfl, rfl, by omega, by omega, rfl, rfl, rfl, by omega, Lib.hid (by simp), Lib.hid (by simp), Lib.hid (NoSq.zero HCd.out _), Lib.hid D.out.box, Lib.hid D.out.row, Lib.hid D.out.bel, D.out.big⟩
        case round =>
          obtain ⟨p, x, q', rfl, rfl, hp14, hpq, rfl, rfl, hxs, hqp, HX, HQ, HN, HBx2, HO, HB, hbig⟩ := hrel
          have hcell := box_cell HBx2.out
          have hfroz := box_frozen HBx2.out
          by_cases hp : p < 14
          · have hpi : (p : Int) < 14 := by omega
            by_cases he : 1 ≤ q'.size
            · have cN := Lib.hid (next_yes P q' wr hcell hfroz he (by omega))
              have HX2 : Hid (tx (x ++ q'.extract 0 1) = (tx q).take (p + 1)) := Lib.hid (by
                have e1 : tx (x ++ q'.extract 0 1) = tx x ++ tx (q'.extract 0 1) := tx_app _ _
                rw [e1, tx_extract, HX.out, HQ.out]
                rw [List.take_add])
              have HQ2 : Hid (tx (q'.extract 1 q'.size) = (tx q).drop (p + 1)) := Lib.hid (by
                rw [tx_from10, HQ.out, List.drop_drop])
              have hx2s : (x ++ q'.extract 0 1).size = p + 1 := by rw [← tx_len, HX2.out, List.length_take, tx_len]; omega
              have hq2s : (q'.extract 1 q'.size).size + (p + 1) = q.size := by rw [← tx_len, HQ2.out, List.length_drop, tx_len]; omega
              have hsg1 : (q'.extract 0 1).size ≤ 1 := by rw [ByteArray.size_extract]; omega
              obtain ⟨x2, hx2⟩ : ∃ x2, x ++ q'.extract 0 1 = x2 := ⟨_, rfl⟩
              obtain ⟨q2, hq2⟩ : ∃ q2, q'.extract 1 q'.size = q2 := ⟨_, rfl⟩
              obtain ⟨sg, hsg⟩ : ∃ sg, q'.extract 0 1 = sg := ⟨_, rfl⟩
              rw [hsg] at hx2 hsg1
              rw [hsg, hx2] at HX2 hx2s
              rw [hq2] at HQ2 hq2s cN
              rw [hsg] at cN
              have HBx3 : Hid ((wr.setCell ⟨P, 0, none⟩ (.string q2)).heap[P]? = some (.cells #[.string q2] 60 (0, 0))) := Lib.hid (box_set HBx2.out _)
              have HO3 : Hid ((wr.setCell ⟨P, 0, none⟩ (.string q2)).ownsRow z0 3 1 (.slice (some ⟨g, 0, none⟩) m d) m (nums o)) := Lib.hid (own_heap HO.out (fun g' h1 _ => Below.heap_setCell wr ⟨P, 0, none⟩ _ g' (by simp; omega)))
              have HB3 : Hid (Below P w (wr.setCell ⟨P, 0, none⟩ (.string q2))) := Lib.hid (HB.out.setCell (p := ⟨P, 0, none⟩) (Nat.le_refl _) _)
              have hbig3 : z0 ≤ (wr.setCell ⟨P, 0, none⟩ (.string q2)).heap.size := by simpa using hbig
              clear he hsg hq2 hcell hfroz
              obtain ⟨W3, hW3⟩ : ∃ W3, wr.setCell ⟨P, 0, none⟩ (.string q2) = W3 := ⟨_, rfl⟩
              rw [hW3] at HBx3 HO3 HB3 hbig3 cN
              clear hW3
              have cI := Lib.hid (indexStr_any P a n c ss x2 W3 (by omega) (H.out.keep HB3.out))
              clear HO HB hbig
              go_wp2_with (first
                | (go_at_call 46; refine cN.out.mono ?_; rintro e w3 ⟨rfl, rfl⟩))
              refine cI.out.mono ?_
              rintro e w4 ⟨⟨j, rfl, hj⟩, rfl⟩
              have HJ := Lib.hid hj
              clear hj
              by_cases hj0 : 0 ≤ j
              · have hfnd : ∃ i : Nat, j = (i : Int) ∧ (txl ss)[i]? = some (tx x2) := by
                  rcases HJ.out with ⟨h1, _⟩ | h
                  · omega
                  · exact h
                obtain ⟨i, rfl, hi⟩ := hfnd
                have hp1 : tx x2 <+: tx q := found_pre hi HX2.out
                have HD2 := Lib.hid (D.out.at'.step (sym_some HCd.out hi hp1) hi)
                have hlx : (tx x2).length = p + 1 := by rw [tx_len]; exact hx2s
                have HQ3 : Hid ((tx q).drop (tx x2).length = tx q2) := Lib.hid (by rw [hlx]; exact HQ2.out.symm)
                have HN3 : Hid (nums (o ++ [i]) = nums o ++ [.int .i64 (i : Int)]) := Lib.hid (by rw [nums_app]; rfl)
                have hin : i < n := by have := (List.getElem?_eq_some_iff.1 hi).1; rw [txl_len, L.out] at this; exact this
                clear hi hp1 hlx
                go_wp2_with (first
                  | (at_builtin; refine wpList_append_own_at _ rfl _ _ 29 rfl z0 3 i0 (.int .i64 0) 1 8 Try.underlying29 hii hz0' hz1' hz2' rfl (by decide) _ _ _ rfl (HO3.out.alloc _) ⟨w3.heap.size, 0, none⟩ 1 1 [.int .i64 (i : Int)] rfl rfl (cell_one_new _ _ _) (by simp [Value.oneCell']) (by unfold maxLen; omega) (by omega) (by simp; omega) ?_; intro v4 w4 hO4 hG4 _ _; obtain ⟨g', cap', rfl⟩ := own_succ hO4; have HO4 := Lib.hid hO4; have HG4 := Lib.hid hG4; clear hO4 hG4))
                have HD4 : Hid (DS (txl ss) (tx s) P z0 w w4 (o ++ [i]) f' q2 (m + 1) g' cap') := Lib.hid (by
                  have hgz := own_base HO3.out
                  refine ⟨by rw [List.length_append, HL.out]; rfl, by rw [← HQ3.out]; exact HD2.out, ?_, by rw [HN3.out]; exact HO4.out, ?_, ?_⟩
                  · exact (HG4.out.block P (by simp; omega) (by show some P ≠ some g; simp; omega)).trans ((Below.heap_alloc _ _ _ (by omega)).trans HBx3.out)
                  · exact (HB3.out.alloc (by omega) _).trans (below_grown (HO3.out.alloc _) (by omega) (by simp; omega) HG4.out)
                  · have := HG4.out.size; simp at this; omega)
                go_step3
                exact ⟨rfl, ⟨o ++ [i], f', q2, m + 1, g', cap', _, _, _, _, _, _, _, _, _, _, _, _, _, _, _, _, _, _, _, _, _, _, _, _, _, _, _, _, _, _, _, _, _, rfl, by omega, HD4⟩⟩
              · have HN4 : Hid (NoSq (txl ss) (tx q) (p + 1)) := Lib.hid (HN.out.succ (by rw [tx_len]; omega) (fun k y hy => by
                  rcases HJ.out with ⟨_, h⟩ | ⟨i, h, _⟩
                  · rw [← HX2.out]; exact h k y hy
                  · omega))
                go_wp2
                go_roundw
                case rel => exact ⟨p + 1, x2, q2, rfl, rfl, by omega, by omega, by go_num, rfl, hx2s, hq2s, HX2, HQ2, HN4, HBx3, HO3, HB3, hbig3⟩
                case measure => simp [intOf]; omega
            · have cN := Lib.hid (next_no P q' wr hcell he)
              have HE : Hid (dec (txl ss) 60 (tx s) = o) := Lib.hid (D.out.at'.stop (.inl (HN.out.end_ (by rw [tx_len]; omega))))
              clear he
              go_wp2_with (go_at_call 46; refine cN.out.mono ?_; rintro e w3 ⟨rfl, rfl⟩)
              simp only [Exit.jump]
              go_ret
              exact ⟨_, rfl, by rw [HE.out, HL.out]; exact HO.out, HB.out⟩
          · have hpi : ¬ (p : Int) < 14 := by omega
            have HE : Hid (dec (txl ss) 60 (tx s) = o) := Lib.hid (D.out.at'.stop (.inl (HN.out.all HCd.out (by omega))))
            go_wp2
            simp only [Exit.jump]
            go_ret
            exact ⟨_, rfl, by rw [HE.out, HL.out]; exact HO.out, HB.out⟩
  case pass =>
    rintro a' V ⟨o, f, q, m, g, d, u6, u7, u8, u9, u10, u11, u12, u13, u14, u15, u16, u17, u18, u19, u20, u21, u22, u23, u24, u25, u26, u27, u28, u29, u30, u31, u32, u33, u34, u35, u36, u37, u38, rfl, hmf, HD⟩
    dsimp only
    have D := Lib.hid HD.out
    have hm60 : m ≤ 60 := by omega
    have HL := Lib.hid (HD.out.len)
    by_cases hm : m = 60
    · have hq0 : ((m : Int) == 60) = true := by rw [hm]; rfl
      have HE : Hid (dec (txl ss) 60 (tx s) = o) := Lib.hid (HD.out.at'.stop (.inr (by omega)))
      clear hm
      go_wp2
      simp only [Exit.jump]
      go_ret
      exact ⟨_, rfl, by rw [HE.out, HL.out]; exact D.out.row, D.out.bel⟩
    · have hq0 : ((m : Int) == 60) = false := by simp; omega
      obtain ⟨f', rfl⟩ : ∃ f', f = f' + 1 := ⟨f - 1, by omega⟩
      have hqs : q.size ≤ 840 := by have := (D.out.at'.left).2; rw [tx_len, tx_len] at this; omega
      rename World => wo
      clear hm
      go_wp2
      go_loopw [4, 5, 6, 15] (fun s4 s5 sv iv wr => ∃ (p : Nat) (x q' : ByteArray), s4 = .slice none 0 0 ∧ s5 = .slice (some ⟨g, 0, none⟩) m d ∧ p ≤ 14 ∧ p ≤ q.size ∧ iv = .int .i64 (p : Int) ∧ sv = .string x ∧ x.size = p ∧ q'.size + p = q.size ∧ Hid (tx x = (tx q).take p) ∧ Hid (tx q' = (tx q).drop p) ∧ Hid (NoSq (txl ss) (tx q) p) ∧ Hid (wr.heap[P]? = some (.cells #[.string q'] 60 (0, 0))) ∧ Hid (wr.ownsRow z0 3 1 (.slice (some ⟨g, 0, none⟩) m d) m (nums o)) ∧ Hid (Below P w wr) ∧ z0 ≤ wr.heap.size) (fun _ _ _ iv _ => 14 - (intOf iv).toNat)
      case atStart => exact ⟨0, ⟨#[]⟩, q, rfl, rfl, by omega, by omega, rfl, rfl, rfl, by omega, Lib.hid (by simp), Lib.hid (by simp), Lib.hid (NoSq.zero HCd.out _), Lib.hid D.out.box, Lib.hid D.out.row, Lib.hid D.out.bel, D.out.big⟩
      case round =>
        obtain ⟨p, x, q', rfl, rfl, hp14, hpq, rfl, rfl, hxs, hqp, HX, HQ, HN, HBx2, HO, HB, hbig⟩ := hrel
        have hcell := box_cell HBx2.out
        have hfroz := box_frozen HBx2.out
        by_cases hp : p < 14
        · have hpi : (p : Int) < 14 := by omega
          by_cases he : 1 ≤ q'.size
          · have cN := Lib.hid (next_yes P q' wr hcell hfroz he (by omega))
            have HX2 : Hid (tx (x ++ q'.extract 0 1) = (tx q).take (p + 1)) := Lib.hid (by
              have e1 : tx (x ++ q'.extract 0 1) = tx x ++ tx (q'.extract 0 1) := tx_app _ _
              rw [e1, tx_extract, HX.out, HQ.out]
              rw [List.take_add])
            have HQ2 : Hid (tx (q'.extract 1 q'.size) = (tx q).drop (p + 1)) := Lib.hid (by
              rw [tx_from10, HQ.out, List.drop_drop])
            have hx2s : (x ++ q'.extract 0 1).size = p + 1 := by rw [← tx_len, HX2.out, List.length_take, tx_len]; omega
            have hq2s : (q'.extract 1 q'.size).size + (p + 1) = q.size := by rw [← tx_len, HQ2.out, List.length_drop, tx_len]; omega
            have hsg1 : (q'.extract 0 1).size ≤ 1 := by rw [ByteArray.size_extract]; omega
            obtain ⟨x2, hx2⟩ : ∃ x2, x ++ q'.extract 0 1 = x2 := ⟨_, rfl⟩
            obtain ⟨q2, hq2⟩ : ∃ q2, q'.extract 1 q'.size = q2 := ⟨_, rfl⟩
            obtain ⟨sg, hsg⟩ : ∃ sg, q'.extract 0 1 = sg := ⟨_, rfl⟩
            rw [hsg] at hx2 hsg1
            rw [hsg, hx2] at HX2 hx2s
            rw [hq2] at HQ2 hq2s cN
            rw [hsg] at cN
            have HBx3 : Hid ((wr.setCell ⟨P, 0, none⟩ (.string q2)).heap[P]? = some (.cells #[.string q2] 60 (0, 0))) := Lib.hid (box_set HBx2.out _)
            have HO3 : Hid ((wr.setCell ⟨P, 0, none⟩ (.string q2)).ownsRow z0 3 1 (.slice (some ⟨g, 0, none⟩) m d) m (nums o)) := Lib.hid (own_heap HO.out (fun g' h1 _ => Below.heap_setCell wr ⟨P, 0, none⟩ _ g' (by simp; omega)))
            have HB3 : Hid (Below P w (wr.setCell ⟨P, 0, none⟩ (.string q2))) := Lib.hid (HB.out.setCell (p := ⟨P, 0, none⟩) (Nat.le_refl _) _)
            have hbig3 : z0 ≤ (wr.setCell ⟨P, 0, none⟩ (.string q2)).heap.size := by simpa using hbig
            clear he hsg hq2 hcell hfroz
            obtain ⟨W3, hW3⟩ : ∃ W3, wr.setCell ⟨P, 0, none⟩ (.string q2) = W3 := ⟨_, rfl⟩
            rw [hW3] at HBx3 HO3 HB3 hbig3 cN
            clear hW3
            have cI := Lib.hid (indexStr_any P a n c ss x2 W3 (by omega) (H.out.keep HB3.out))
            clear HO HB hbig
            go_wp2_with (first
              | (go_at_call 46; refine cN.out.mono ?_; rintro e w3 ⟨rfl, rfl⟩))
            refine cI.out.mono ?_
            rintro e w4 ⟨⟨j, rfl, hj⟩, rfl⟩
            have HJ := Lib.hid hj
            clear hj
            by_cases hj0 : 0 ≤ j
            · have hfnd : ∃ i : Nat, j = (i : Int) ∧ (txl ss)[i]? = some (tx x2) := by
                rcases HJ.out with ⟨h1, _⟩ | h
                · omega
                · exact h
              obtain ⟨i, rfl, hi⟩ := hfnd
              have hp1 : tx x2 <+: tx q := found_pre hi HX2.out
              have HD2 := Lib.hid (D.out.at'.step (sym_some HCd.out hi hp1) hi)
              have hlx : (tx x2).length = p + 1 := by rw [tx_len]; exact hx2s
              have HQ3 : Hid ((tx q).drop (tx x2).length = tx q2) := Lib.hid (by rw [hlx]; exact HQ2.out.symm)
              have HN3 : Hid (nums (o ++ [i]) = nums o ++ [.int .i64 (i : Int)]) := Lib.hid (by rw [nums_app]; rfl)
              have hin : i < n := by have := (List.getElem?_eq_some_iff.1 hi).1; rw [txl_len, L.out] at this; exact this
              clear hi hp1 hlx
              go_wp2_with (first
                | (at_builtin; refine wpList_append_own_at _ rfl _ _ 29 rfl z0 3 i0 (.int .i64 0) 1 8 Try.underlying29 hii hz0' hz1' hz2' rfl (by decide) _ _ _ rfl (HO3.out.alloc _) ⟨w3.heap.size, 0, none⟩ 1 1 [.int .i64 (i : Int)] rfl rfl (cell_one_new _ _ _) (by simp [Value.oneCell']) (by unfold maxLen; omega) (by omega) (by simp; omega) ?_; intro v4 w4 hO4 hG4 _ _; obtain ⟨g', cap', rfl⟩ := own_succ hO4; have HO4 := Lib.hid hO4; have HG4 := Lib.hid hG4; clear hO4 hG4))
              have HD4 : Hid (DS (txl ss) (tx s) P z0 w w4 (o ++ [i]) f' q2 (m + 1) g' cap') := Lib.hid (by
                have hgz := own_base HO3.out
                refine ⟨by rw [List.length_append, HL.out]; rfl, by rw [← HQ3.out]; exact HD2.out, ?_, by rw [HN3.out]; exact HO4.out, ?_, ?_⟩
                · exact (HG4.out.block P (by simp; omega) (by show some P ≠ some g; simp; omega)).trans ((Below.heap_alloc _ _ _ (by omega)).trans HBx3.out)
                · exact (HB3.out.alloc (by omega) _).trans (below_grown (HO3.out.alloc _) (by omega) (by simp; omega) HG4.out)
                · have := HG4.out.size; simp at this; omega)
              go_step3
              exact ⟨rfl, ⟨o ++ [i], f', q2, m + 1, g', cap', _, _, _, _, _, _, _, _, _, _, _, _, _, _, _, _, _, _, _, _, _, _, _, _, _, _, _, _, _, _, _, _, _, rfl, by omega, HD4⟩, by simp [lenOf]; omega⟩
            · have HN4 : Hid (NoSq (txl ss) (tx q) (p + 1)) := Lib.hid (HN.out.succ (by rw [tx_len]; omega) (fun k y hy => by
                rcases HJ.out with ⟨_, h⟩ | ⟨i, h, _⟩
                · rw [← HX2.out]; exact h k y hy
                · omega))
              go_wp2
              go_roundw
              case rel => exact ⟨p + 1, x2, q2, rfl, rfl, by omega, by omega, by go_num, rfl, hx2s, hq2s, HX2, HQ2, HN4, HBx3, HO3, HB3, hbig3⟩
              case measure => simp [intOf]; omega
          · have cN := Lib.hid (next_no P q' wr hcell he)
            have HE : Hid (dec (txl ss) 60 (tx s) = o) := Lib.hid (D.out.at'.stop (.inl (HN.out.end_ (by rw [tx_len]; omega))))
            clear he
            go_wp2_with (go_at_call 46; refine cN.out.mono ?_; rintro e w3 ⟨rfl, rfl⟩)
            simp only [Exit.jump]
            go_ret
            exact ⟨_, rfl, by rw [HE.out, HL.out]; exact HO.out, HB.out⟩
        · have hpi : ¬ (p : Int) < 14 := by omega
          have HE : Hid (dec (txl ss) 60 (tx s) = o) := Lib.hid (D.out.at'.stop (.inl (HN.out.all HCd.out (by omega))))
          go_wp2
          simp only [Exit.jump]
          go_ret
          exact ⟨_, rfl, by rw [HE.out, HL.out]; exact HO.out, HB.out⟩

end Go.Proofs.Ythjafoacnfgjhab
