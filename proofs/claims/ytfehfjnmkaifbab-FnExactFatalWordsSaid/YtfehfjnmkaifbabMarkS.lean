/-
  The contracts of the laws' marks: the text of a mark, marking a list of strings, asking whether the marks are held.
-/
import Derived.Test.YtfehfjnmkaifbabStrsEq
import Derived.Laws.BytesArg
import Derived.Deep.RegionHeld3
namespace Go.Proofs.Ytfehfjnmkaifbab
open Go.RowKit
set_option linter.unusedVariables false

/-- the digits of j ahead of m, at most f of them -/
def mtl : Nat → Nat → ByteArray → ByteArray
  | 0, _, m => m
  | f + 1, j, m => if j = 0 then m else mtl f (j / 10) (strOfNums [48 + (j : Int) % 10] ++ m)

theorem mtl_zero (f : Nat) (m : ByteArray) : mtl f 0 m = m := by cases f <;> simp [mtl]
theorem mtl_succ (f j : Nat) (m : ByteArray) (h : 0 < j) : mtl (f + 1) j m = mtl f (j / 10) (strOfNums [48 + (j : Int) % 10] ++ m) := by
  rw [mtl, if_neg (by omega)]

/-- the text of the mark k -/
def mt (k : Nat) : ByteArray := if k = 0 then ⟨#[109, 48]⟩ else ⟨#[109]⟩ ++ mtl k k ⟨#[]⟩

theorem mt_zero : mt 0 = ⟨#[109, 48]⟩ := rfl
theorem mt_pos {k : Nat} (h : 0 < k) : mt k = ⟨#[109]⟩ ++ mtl k k ⟨#[]⟩ := if_neg (by omega)

theorem ret_str {a b : ByteArray} (h : b = a) : Ending.returned (.string a) = .returned (.string b) := by rw [h]

set_option maxHeartbeats 1000000 in
theorem markText_any (k : Nat) (w : World) (hk : k ≤ 1000000000) :
    Calls Try.prog 45 #[.int .i64 (k : Int)] w fun e w' => e = .returned (.string (mt k)) ∧ Below w.heap.size w w' := by
  by_cases h0 : k = 0
  · subst h0
    go_enter Try.func45, Try.ntmps45
    go_wp2
    go_ret
    exact ⟨ret_str mt_zero, Below.refl _ _⟩
  · have h1 : ¬ ((k : Int) ≤ 0) := by omega
    have HP := Lib.hid (mt_pos (show 0 < k by omega))
    have hcv : ∀ (W : World) (j : Nat), (convert 76 9 (.slice (some ⟨W.heap.size, 0, none⟩) 1 1)).run Try.prog (W.alloc (.cells #[.int .u8 (48 + (j : Int) % 10)] 5)) = .ok (.string (strOfNums [48 + (j : Int) % 10])) (W.alloc (.cells #[.int .u8 (48 + (j : Int) % 10)] 5)) := fun W j =>
      run_convert_bytes_arg _ 76 5 Try.underlying76 Try.underlying5 W.heap.size 0 1 1 [48 + (j : Int) % 10] rfl (fun i hi => by
        obtain rfl : i = 0 := by omega
        exact by simp) 9 Try.underlying9
    go_enter Try.func45, Try.ntmps45
    go_wp2
    go_loopw [0, 3] (fun n o wr => ∃ (j f : Nat) (m : ByteArray), n = .int .i64 j ∧ o = .string m ∧ j ≤ 1000000000 ∧ m.size + f ≤ 1000000000 ∧ j ≤ f ∧ Hid (mtl f j m = mtl k k ⟨#[]⟩) ∧ Below w.heap.size w wr) (fun n _ _ => (intOf n).toNat)
    case atStart => exact ⟨k, k, ⟨#[]⟩, rfl, rfl, hk, by show 0 + k ≤ _; omega, Nat.le_refl _, Lib.hid rfl, Below.refl _ _⟩
    case round =>
      obtain ⟨j, f, m, rfl, rfl, hj, hm, hjf, HM, hb⟩ := hrel
      by_cases hp : 0 < j
      · have hp' : (0 : Int) < (j : Int) := by omega
        obtain ⟨f', rfl⟩ : ∃ f', f = f' + 1 := ⟨f - 1, by omega⟩
        have HN := Lib.hid ((mtl_succ f' j m hp).symm.trans HM.out)
        obtain ⟨d, hd⟩ : ∃ d, strOfNums [48 + (j : Int) % 10] = d := ⟨_, rfl⟩
        have hds : d.size = 1 := by rw [← hd]; rfl
        have hds' : d.size ≤ 1 := by omega
        have cv := hcv wr j
        rw [hd] at cv
        rw [hd] at HN
        clear hd hcv hds
        go_wp2
        go_roundw
        case rel => exact ⟨j / 10, f', d ++ m, by go_num, rfl, by omega, by rw [ByteArray.size_append]; omega, by omega, HN, hb.alloc hb.size _⟩
        case measure => simp [intOf]; omega
      · have hp' : ¬ (0 : Int) < (j : Int) := by omega
        have e : j = 0 := by omega
        subst e
        have HE : Hid (mt k = ⟨#[109]⟩ ++ m) := Lib.hid (by rw [HP.out, ← HM.out, mtl_zero])
        clear hcv
        go_wp2
        go_ret
        exact ⟨ret_str HE.out, hb⟩

/-- n marks from k on -/
def marks (k n : Nat) : List ByteArray := (List.range n).map fun i => mt (k + i)
theorem marks_len (k n : Nat) : (marks k n).length = n := by simp [marks]
theorem marks_at {k n i : Nat} (h : i < n) : (marks k n)[i]? = some (mt (k + i)) := by simp [marks, h]

/-- the cells after j marks -/
def marked (xs : List Value) (k j : Nat) : List Value := (marks k j).map Value.string ++ xs.drop j
theorem marked_zero (xs : List Value) (k : Nat) : marked xs k 0 = xs := by simp [marked, marks]
theorem marked_succ {xs : List Value} {k j : Nat} (h : j < xs.length) : (marked xs k j).set j (.string (mt (k + j))) = marked xs k (j + 1) := by
  unfold marked
  rw [List.set_append_right _ _ (by simp [marks])]
  have e : j - ((marks k j).map Value.string).length = 0 := by simp [marks]
  rw [e, List.drop_eq_getElem_cons h, List.set_cons_zero]
  unfold marks
  rw [List.range_succ]
  simp
theorem marked_all {xs : List Value} {k n : Nat} (h : xs.length = n) : marked xs k n = (marks k n).map Value.string := by
  unfold marked
  rw [List.drop_eq_nil_of_le (by omega), List.append_nil]
theorem marked_at {xs : List Value} {k j : Nat} (h : j < xs.length) : (marked xs k j)[j]? = some xs[j] := by
  unfold marked
  rw [List.getElem?_append_right (by simp [marks])]
  have e : j - ((marks k j).map Value.string).length = 0 := by simp [marks]
  rw [e, List.drop_eq_getElem_cons h]
  rfl

set_option maxHeartbeats 1000000 in
theorem markStringS_any (base g n c k : Nat) (xs : List Value) (w : World) (h : w.ownsRow base 9 1 (.slice (some ⟨g, 0, none⟩) n c) n xs) (hbase : base ≤ w.heap.size) (hn : n ≤ 10000000) (hk : k ≤ 10000000) :
    Calls Try.prog 18 #[.slice (some ⟨g, 0, none⟩) n c, .int .i64 (k : Int)] w fun e w' => e = .returned (.int .i64 ((k + n : Nat) : Int)) ∧
      w'.ownsRow base 9 1 (.slice (some ⟨g, 0, none⟩) n c) n ((marks k n).map Value.string) ∧ Below base w w' := by
  have L : Hid (xs.length = n) := Lib.hid (by have := h.1; simpa using this)
  have HB := own_base h
  go_enter Try.func18, Try.ntmps18
  go_wp2
  go_loopw [1, 5] (fun q i wr => ∃ j : Nat, j ≤ n ∧ i = .int .i64 j ∧ q = .int .i64 ((k + j : Nat) : Int) ∧ wr.ownsRow base 9 1 (.slice (some ⟨g, 0, none⟩) n c) n (marked xs k j) ∧ Below base w wr) (fun _ i _ => n - (intOf i).toNat)
  case atStart => exact ⟨0, Nat.zero_le _, rfl, rfl, by rw [marked_zero]; exact h, Below.refl _ _⟩
  case round =>
    clear h
    obtain ⟨j, hj, rfl, rfl, hown, hb⟩ := hrel
    by_cases hlt : j < n
    · have hsz := own_lt hown
      have cM := Lib.hid (markText_any (k + j) wr (by omega))
      have HOW := Lib.hid hown
      have hbs := hb.size
      clear hown
      go_wp2_with (go_at_call 45; refine cM.out.mono ?_; rintro e w1 ⟨rfl, hb1⟩; have hf := (own_keep HOW.out hb1).frozenAt j; have hd := (own_keep HOW.out hb1).cellAt j (by omega); rw [marked_at (by rw [L.out]; exact hlt)] at hd)
      have hst := ((own_keep HOW.out hb1).stored j (.string (mt (k + j)))).1
      rw [marked_succ (by rw [L.out]; exact hlt)] at hst
      go_roundw
      case rel => exact ⟨j + 1, by omega, by go_num, by go_num, hst, (hb.trans (hb1.mono (by omega))).setCell (p := ⟨g, j, none⟩) HB _⟩
      case measure => simp [intOf]; omega
    · have e : j = n := by omega
      subst e
      have HOW : Hid (wr.ownsRow base 9 1 (.slice (some ⟨g, 0, none⟩) j c) j ((marks k j).map Value.string)) := Lib.hid (by rw [← marked_all L.out]; exact hown)
      clear hown
      go_wp2
      go_ret
      exact ⟨rfl, HOW.out, hb⟩

set_option maxHeartbeats 1000000 in
theorem heldStringS_any (B k n c : Nat) (a : Option Addr) (w : World) (hB : B ≤ w.heap.size) (h : Strs B w a n c (marks k n)) (hn : n ≤ 10000000) (hk : k ≤ 10000000) :
    Calls Try.prog 19 #[.slice a n c, .int .i64 (k : Int)] w fun e w' => e = .returned (.int .i64 ((k + n : Nat) : Int)) ∧ Below w.heap.size w w' := by
  have C := h.sl.cap
  have T := h.sl.top
  have H := Lib.hid h
  clear h
  go_enter Try.func19, Try.ntmps19
  go_wp2
  go_loopw [1, 5] (fun q i wr => ∃ j : Nat, j ≤ n ∧ i = .int .i64 j ∧ q = .int .i64 ((k + j : Nat) : Int) ∧ Below w.heap.size w wr) (fun _ i _ => n - (intOf i).toNat)
  case atStart => exact ⟨0, Nat.zero_le _, rfl, rfl, Below.refl _ _⟩
  case round =>
    obtain ⟨j, hj, rfl, rfl, hb⟩ := hrel
    by_cases hlt : j < n
    · obtain ⟨b, o, s, rfl, hbB, hs, hsz, hc⟩ := (H.out.keep (hb.mono hB)).elem j hlt
      rw [marks_at hlt] at hs
      obtain rfl : mt (k + j) = s := by simpa using hs
      clear hs
      have hi0 : (0 : Int) ≤ (j : Int) := by omega
      have hi1 : (j : Int) < (n : Int) := by omega
      have hbs := hb.size
      have hkj : k + j ≤ 1000000000 := by omega
      have hq : ((mt (k + j)).toList == (mt (k + j)).toList) = true := by simp
      go_wp2
      go_region_held3 (fun w' => w'.cell? ⟨b, o + j, none⟩ = some (.string (mt (k + j))) ∧ Below w.heap.size w w')
        (first
          | exact ⟨by simpa using hc, hb.drew⟩
          | (have hbd := hb.drew
             exact ⟨(hb1.cell (p := ⟨b, o + j, none⟩) (by simp; omega)).trans (by simpa using hc), hbd.trans (hb1.mono (by simp; omega))⟩))
        (first | (go_at_call 45; refine (markText_any (k + j) _ hkj).mono ?_; rintro e w1 ⟨rfl, hb1⟩))
      have hbd := hb.drew
      have hbe := hbd.trans (hb1.mono (by simp; omega))
      go_wp2
      go_roundw
      case rel => exact ⟨j + 1, by omega, by go_num, by go_num, hbe⟩
      case measure => simp [intOf]; omega
    · have e : j = n := by omega
      subst e
      go_wp2
      go_ret
      exact ⟨rfl, hb⟩

end Go.Proofs.Ytfehfjnmkaifbab
