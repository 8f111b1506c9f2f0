/-
  The beginnings of sequences: the reference's and the program's BranchesOf.
-/
import Derived.Maps.OwnIn
import Derived.Maps.OwnSet
import Derived.Maps.Ext
import Derived.Test.YthjafoacnfgjhabPutW
import Derived.Test.YthjafoacnfgjhabCode10
namespace Go.Proofs.Ythjafoacnfgjhab
open Go.RowKit Go.MapKept
set_option linter.unusedVariables false

theorem put_new : ∀ {l : List Txt} {w : Txt}, w ∉ l → (put l w).length = l.length + 1
  | [], w, _ => rfl
  | x :: r, w, h => by
    unfold put
    by_cases hb : bef x w = true
    · rw [if_pos hb, List.length_cons, put_new (fun hm => h (by simp [hm])), List.length_cons]
    · rw [if_neg hb, if_neg (fun e => h (by simp [e])), List.length_cons, List.length_cons]

/-- the texts of a list, each once, in order -/
def snl (l : List Txt) : List Txt := l.foldl put []
theorem snl_snoc (l : List Txt) (x : Txt) : snl (l ++ [x]) = put (snl l) x := by simp [snl]
theorem asc_foldl : ∀ (l a : List Txt), Asc a → Asc (l.foldl put a)
  | [], a, h => h
  | x :: r, a, h => asc_foldl r (put a x) (asc_put x h)
theorem asc_snl (l : List Txt) : Asc (snl l) := asc_foldl l [] List.Pairwise.nil
theorem foldl_len : ∀ (l a : List Txt), (l.foldl put a).length ≤ a.length + l.length
  | [], a => by simp
  | x :: r, a => by
    have h1 := foldl_len r (put a x)
    have h2 := put_len a x
    simp only [List.foldl_cons, List.length_cons]
    omega
theorem snl_len (l : List Txt) : (snl l).length ≤ l.length := by have := foldl_len l []; simpa [snl] using this

/-- the beginnings of a text of less than k letters -/
def bgs (x : Txt) (k : Nat) : List Txt := (List.range k).map fun j => x.take j
/-- the beginnings that have been met at place k of text i -/
def prel (cs : List Txt) (i k : Nat) : List Txt := (cs.take i).flatMap (fun x => bgs x x.length) ++ bgs (cs.getD i []) k
theorem prel_zero (cs : List Txt) : prel cs 0 0 = [] := by simp [prel, bgs]
theorem prel_step {cs : List Txt} {i : Nat} {x : Txt} (h : cs[i]? = some x) (k : Nat) : prel cs i (k + 1) = prel cs i k ++ [x.take k] := by
  unfold prel bgs
  rw [List.range_succ, List.map_append, ← List.append_assoc]
  simp [List.getD, h]
theorem prel_next {cs : List Txt} {i : Nat} {x : Txt} (h : cs[i]? = some x) : prel cs (i + 1) 0 = prel cs i x.length := by
  unfold prel
  rw [take_snoc_at h, List.flatMap_append]
  simp [bgs, List.getD, h]
theorem prel_len {cs : List Txt} (hc : ∀ (i : Nat) (y : Txt), cs[i]? = some y → y.length ≤ 14) : ∀ i k, k ≤ 14 → (prel cs i k).length ≤ 14 * i + 14 := by
  intro i k hk
  have h1 : ∀ i, ((cs.take i).flatMap (fun x => bgs x x.length)).length ≤ 14 * i := by
    intro i
    induction i with
    | zero => simp
    | succ j ih =>
      by_cases hj : j < cs.length
      · have hx : cs[j]? = some cs[j] := List.getElem?_eq_getElem hj
        rw [take_snoc_at hx, List.flatMap_append, List.length_append]
        have h2 := hc j _ hx
        have h3 : ([cs[j]].flatMap (fun x => bgs x x.length)).length = cs[j].length := by simp [bgs]
        omega
      · rw [List.take_of_length_le (by omega)]
        rw [List.take_of_length_le (by omega)] at ih
        omega
  have h2 := h1 i
  unfold prel
  rw [List.length_append]
  have : (bgs (cs.getD i []) k).length = k := by simp [bgs]
  omega

noncomputable def brV (ss : List ByteArray) : Int := if cdB (txl ss) = true then ((snl (prel (txl ss) ss.length 0)).length : Int) else 0

set_option maxRecDepth 1000000 in
set_option maxHeartbeats 2000000 in
theorem specBranches_any (a : Option Addr) (n c : Nat) (ss : List ByteArray) (w : World) (h : Strs w.heap.size w a n c ss) :
    Calls Try.prog 10 #[.slice a n c] w fun e w' => e = .returned (.tuple #[.int .i64 (brV ss), .bool (cdB (txl ss))]) ∧ Below w.heap.size w w' := by
  have cC0 := l10Code_any w.heap.size a n c ss w (Nat.le_refl _) h
  have L := Lib.hid h.len
  have C := h.sl.cap
  have T := h.sl.top
  have H := Lib.hid h
  clear h
  by_cases hc : cdB (txl ss) = true
  · have HSh := Lib.hid (fun (i : Nat) (y : Txt) (hi : (txl ss)[i]? = some y) => ((cdB_iff.1 hc).sq hi).2.1)
    have hn12 : 1 ≤ n ∧ n ≤ 12 := by have h1 := (cdB_iff.1 hc).1; have h2 := (cdB_iff.1 hc).2.1; rw [txl_len, L.out] at h1 h2; exact ⟨h1, h2⟩
    have hv : brV ss = ((snl (prel (txl ss) n 0)).length : Int) := by unfold brV; rw [if_pos hc, L.out]
    rw [hc] at cC0
    rw [hc]
    obtain ⟨v, hvv⟩ : ∃ v, brV ss = v := ⟨_, rfl⟩
    rw [hvv] at hv ⊢
    have HV := Lib.hid hv
    have cC := Lib.hid cC0
    clear hc cC0 hv hvv
    go_enter Try.func10, Try.ntmps10
    go_wp2_with fail
    refine cC.out.mono ?_
    rintro e w1 ⟨rfl, hb1⟩
    have HB1 := Lib.hid hb1
    clear hb1
    go_wp2_with fail
    have HW0 : Hid (Wds (w1.alloc (.cells #[] 9)).heap.size (w1.alloc (.cells #[] 9)) (some ⟨w1.heap.size, 0, none⟩) 0 0 (snl (prel (txl ss) 0 0))) := Lib.hid (by rw [prel_zero]; exact ⟨⟨rfl, Nat.le_refl _, by omega, fun i u hu => by simp [snl] at hu⟩, fun s hs => by simp [snl] at hs⟩)
    have HB2 : Hid (Below w.heap.size w (w1.alloc (.cells #[] 9))) := Lib.hid (HB1.out.alloc HB1.out.size _)
    go_loopw [4, 5] (fun o i wr => ∃ (k m d : Nat) (g : Option Addr), k ≤ n ∧ i = .int .i64 k ∧ o = .slice g m d ∧ Hid (Wds wr.heap.size wr g m d (snl (prel (txl ss) k 0))) ∧ Hid (Below w.heap.size w wr)) (fun _ i _ => n - (intOf i).toNat)
    case atStart => exact ⟨0, 0, 0, _, Nat.zero_le _, rfl, rfl, HW0, HB2⟩
    case round =>
      clear HW0 HB2 HB1
      obtain ⟨k, m, d, g, hk, rfl, rfl, HW, HB⟩ := hrel
      by_cases hlt : k < n
      · obtain ⟨b, o, s, rfl, _, hs, hsz, hcs⟩ := (H.out.keep HB.out).elem k hlt
        have HS := Lib.hid hs
        have hs14 : s.size ≤ 14 := by have := HSh.out k _ (txl_at hs); rwa [tx_len] at this
        have hk0 : (0 : Int) ≤ (k : Int) := by omega
        have hk1 : (k : Int) < (n : Int) := by omega
        clear hs hcs
        rename World => wo
        go_wp2
        go_loopw [4, 6] (fun o i wr => ∃ (j m d : Nat) (g : Option Addr), j ≤ s.size ∧ i = .int .i64 j ∧ o = .slice g m d ∧ Hid (Wds wr.heap.size wr g m d (snl (prel (txl ss) k j))) ∧ Hid (Below w.heap.size w wr)) (fun _ i _ => s.size - (intOf i).toNat)
        case atStart => exact ⟨0, m, d, g, Nat.zero_le _, rfl, rfl, HW, HB⟩
        case round =>
          clear HW HB
          obtain ⟨j, m, d, g, hj, rfl, rfl, HW, HB⟩ := hrel
          obtain ⟨b', o', s', he, _, hs', _, hcs⟩ := (H.out.keep HB.out).elem k hlt
          rw [HS.out] at hs'
          simp only [Option.some.injEq, Addr.mk.injEq, and_true] at he hs'
          obtain ⟨rfl, rfl⟩ := he
          subst hs'
          by_cases hjl : j < s.size
          · have hj0 : (0 : Int) ≤ (j : Int) := by omega
            have hj1 : (j : Int) ≤ (s.size : Int) := by omega
            have hm : m ≤ 1000 := by
              have h1 := HW.out.len
              have h2 := snl_len (prel (txl ss) k j)
              have h3 := prel_len HSh.out k j (by omega)
              omega
            have HX : Hid (snl (prel (txl ss) k (j + 1)) = put (snl (prel (txl ss) k j)) (tx (s.extract 0 j))) := Lib.hid (by rw [prel_step (txl_at HS.out), snl_snoc, tx_extract])
            have cP := Lib.hid (l2Put_any wr.heap.size g m d _ (s.extract 0 j) wr (Nat.le_refl _) HW.out (by rw [ByteArray.size_extract]; omega) (by omega))
            go_wp2_with (go_at_call 31; refine cP.out.mono ?_; rintro e w3 ⟨a3, n3, c3, rfl, hW3, hb3⟩; have HW3 := Lib.hid hW3; have HB3 := Lib.hid (HB.out.trans (hb3.mono HB.out.size)); clear hW3 hb3)
            go_roundw
            case rel => exact ⟨j + 1, n3, c3, a3, by omega, by go_num, rfl, Lib.hid (by rw [HX.out]; exact HW3.out), HB3⟩
            case measure => simp [intOf]; omega
          · have HN : Hid (prel (txl ss) (k + 1) 0 = prel (txl ss) k j) := Lib.hid (by
              have e : j = (tx s).length := by rw [tx_len]; omega
              rw [e]
              exact prel_next (txl_at HS.out))
            go_wp2
            go_roundw
            case rel => exact ⟨k + 1, m, d, g, by omega, by go_num, rfl, Lib.hid (by rw [HN.out]; exact HW.out), HB⟩
            case measure => simp [intOf]; omega
      · have e : k = n := by omega
        subst e
        have HM : Hid ((m : Int) = v) := Lib.hid (by rw [HV.out, HW.out.len])
        go_wp2
        go_ret2
        exact ⟨by first | exact congrArg (fun z => Ending.returned (.tuple #[.int .i64 z, .bool true])) HM.out | rw [← HM.out], HB.out⟩
  · have hc' : cdB (txl ss) = false := by simpa using hc
    have hv : brV ss = 0 := by unfold brV; rw [if_neg hc]
    rw [hc'] at cC0
    rw [hc', hv]
    have cC := Lib.hid cC0
    clear hc hc' cC0 hv
    go_enter Try.func10, Try.ntmps10
    go_wp2_with fail
    refine cC.out.mono ?_
    rintro e w1 ⟨rfl, hb1⟩
    have HB1 := Lib.hid hb1
    clear hb1
    go_wp2_with fail
    go_ret2
    exact ⟨rfl, HB1.out⟩

/-- block b is a set of at most n texts that has just those of xs, each once -/
def CntIs (W : World) (b n : Nat) (xs : List Txt) : Prop :=
  ∃ D : DataW Unit, W.ownsMap Try.prog 9 (plainElem Try.prog 4) b n D ∧ Maps.size D = xs.length ∧ ∀ x : Txt, x.length ≤ maxLen → Maps.has D (.string x) = decide (x ∈ xs)
theorem CntIs.lt {W : World} {b n : Nat} {ws : List Txt} (h : CntIs W b n ws) : b < W.heap.size := by
  obtain ⟨D, hD, _⟩ := h
  exact hD.lt
theorem CntIs.kept {W W' : World} {b n : Nat} {ws : List Txt} (h : CntIs W b n ws) (hb : W'.heap[b]? = W.heap[b]?) : CntIs W' b n ws := by
  obtain ⟨D, ⟨es, clock, h1, h2, h3, h4⟩, h5⟩ := h
  exact ⟨D, ⟨es, clock, hb.trans h1, h2, h3, h4⟩, h5⟩
theorem CntIs.made (W : World) : CntIs (W.alloc (.map #[] 0)) W.heap.size 0 [] :=
  ⟨.map [], World.ownsMap_made W _ _ _, rfl, fun x _ => rfl⟩
theorem CntIs.update {W : World} {b n : Nat} {ws : List Txt} (h : CntIs W b n ws) (hn : n < maxLen) (s : ByteArray) (hx : s.size ≤ maxLen) (ha : Asc ws) :
    ∃ W', (Instr.mapUpdate 46 (.map (some b)) (.string s) (.bool true)).run Try.prog W = .ok () W' ∧ CntIs W' b (n + 1) (put ws (tx s)) ∧ W.grownBy W' (some b) := by
  obtain ⟨D, hD, hs, h5⟩ := h
  have hT : Maps.Tidy D := hD.tidy (Maps.string_keyed Try.underlying9)
  have hkey : keyOf Try.prog 9 (.string s) = some (.string (tx s)) := WideMaps.keyOf_string_mk (P := Try.prog) Try.underlying9 (s := s) hx
  obtain ⟨W', hr, hO, hg⟩ := hD.update (Maps.string_keyed Try.underlying9) Try.underlying46 hn hkey (plainElem_bool Try.underlying4 true)
  refine ⟨W', hr, ⟨_, hO, ?_, fun y hy => ?_⟩, hg⟩
  · rw [Maps.size_put hT, h5 (tx s) (by rw [tx_len]; exact hx), hs]
    by_cases e : tx s ∈ ws
    · rw [if_pos (by rw [decide_eq_true e]), put_mem ha e]
    · rw [if_neg (by rw [decide_eq_false e]; decide), put_new e]
  · by_cases e : y = tx s
    · subst e
      rw [Maps.has_put_same hT.isMap (by simp [WideAt.IsKeyLit])]
      symm
      rw [decide_eq_true_eq, mem_put]
      exact .inr rfl
    · rw [Maps.has_put_other (by intro h; cases h; exact e rfl), h5 y hy]
      rw [decide_eq_decide, mem_put]
      exact ⟨fun h => .inl h, fun h => h.elim id (fun h => absurd h e)⟩
theorem CntIs.len {W : World} {b n : Nat} {ws : List Txt} (h : CntIs W b n ws) (ty : TypeId) : (Builtin.len_ #[46] ty #[.map (some b)]).run Try.prog W = .ok (.int .i64 (ws.length : Int)) W := by
  obtain ⟨D, hD, hs, _⟩ := h
  rw [hD.len Try.underlying46 ty, hs]

end Go.Proofs.Ythjafoacnfgjhab
