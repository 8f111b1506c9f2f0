/-
  The program reads a text as a row of nodes.
-/
import Derived.Test.YtjcaikfejgeknabReadM
import Derived.Test.YtjcaikfejgeknabLawTrie
import Derived.Lib.OthersKept
import Derived.Deep.Heap
namespace Go.Proofs.Ytjcaikfejgeknab
open Go.RowKit
set_option linter.unusedVariables false

theorem wide_pos (s : ByteArray) (pos : Nat) (h : pos < s.size) : 1 ≤ (Utf8.decode s pos).2 := by
  by_cases ha : (s[pos]'h).toNat < 128
  · rw [decode_ascii s pos h ha]; exact Nat.le_refl _
  · exact (decode_high s pos h (by omega)).2

/-- what is still to be read from a place on -/
def rdAt (s : ByteArray) : Nat → Nat → Option (List Nd × Int) → Option (List Nd × Int)
  | 0, _, st => st
  | f + 1, pos, st => if pos < s.size then rdAt s f (pos + (Utf8.decode s pos).2) (rstep st (Utf8.decode s pos).1) else st

theorem rdAt_end {s : ByteArray} : ∀ (f pos : Nat) (st : Option (List Nd × Int)), ¬ pos < s.size → rdAt s f pos st = st
  | 0, _, _, _ => rfl
  | f + 1, pos, st, h => by rw [rdAt, if_neg h]

theorem rdAt_more {s : ByteArray} : ∀ (f pos : Nat) (st : Option (List Nd × Int)), s.size ≤ pos + f → ∀ g, rdAt s (f + g) pos st = rdAt s f pos st
  | 0, pos, st, h, g => by rw [rdAt_end _ _ _ (by omega)]; rfl
  | f + 1, pos, st, h, g => by
    rw [Nat.add_right_comm, rdAt, rdAt]
    split
    · rename_i hlt
      have := wide_pos s pos hlt
      exact rdAt_more f _ _ (by omega) g
    · rfl

theorem rdAt_none {s : ByteArray} : ∀ (f pos : Nat), rdAt s f pos none = none
  | 0, _ => rfl
  | f + 1, pos => by
    rw [rdAt]
    split
    · rw [rstep_none]; exact rdAt_none f _
    · rfl

/-- from a place on -/
def rest (s : ByteArray) (pos : Nat) (st : Option (List Nd × Int)) : Option (List Nd × Int) := rdAt s (s.size - pos) pos st

theorem rest_end {s : ByteArray} {pos : Nat} {st : Option (List Nd × Int)} (h : ¬ pos < s.size) : rest s pos st = st := rdAt_end _ _ _ h
theorem rest_step {s : ByteArray} {pos : Nat} {st : Option (List Nd × Int)} (h : pos < s.size) : rest s pos st = rest s (pos + (Utf8.decode s pos).2) (rstep st (Utf8.decode s pos).1) := by
  unfold rest
  have hw := wide_pos s pos h
  obtain ⟨f, hf⟩ : ∃ f, s.size - pos = f + 1 := ⟨s.size - pos - 1, by omega⟩
  rw [hf, rdAt, if_pos h]
  have e : f = (s.size - (pos + (Utf8.decode s pos).2)) + (f - (s.size - (pos + (Utf8.decode s pos).2))) := by omega
  rw [e]
  exact rdAt_more _ _ _ (by omega) _
theorem rest_none {s : ByteArray} {pos : Nat} : rest s pos none = none := rdAt_none _ _

theorem rest_ascii {s : ByteArray} (ha : ∀ c ∈ tx s, c.toNat < 128) : ∀ (m pos : Nat) (st : Option (List Nd × Int)), s.size = pos + m → rest s pos st = rd st ((tx s).drop pos)
  | 0, pos, st, h => by rw [rest_end (by omega), tx_end (by omega), rd_nil]
  | m + 1, pos, st, h => by
    have hlt : pos < s.size := by omega
    have hb : (s[pos]'hlt).toNat < 128 := ha _ (by
      have : s[pos] = (tx s)[pos]'(by rw [tx_len]; exact hlt) := rfl
      rw [this]; exact List.getElem_mem _)
    rw [rest_step hlt, decode_ascii s pos hlt hb, rest_ascii ha m (pos + 1) _ (by omega), tx_drop hlt]
    rfl

def start0 : Option (List Nd × Int) := some ([⟨-1, -1, false⟩], -1)
/-- the nodes that are read -/
def nodesOf : Option (List Nd × Int) → List Nd
  | some (ns, _) => ns
  | none => []
def rdT (s : ByteArray) : List Nd := nodesOf (rest s 0 start0)

/-- what is read keeps its form -/
structure RGood (ns : List Nd) (op : Int) : Prop where
  pos : 1 ≤ ns.length
  le : ns.length ≤ 481
  o1 : -1 ≤ op
  o2 : op < (ns.length : Int)
  each : ∀ d ∈ ns, (-97 ≤ d.l ∧ d.l ≤ 2147483647) ∧ -1 ≤ d.p ∧ d.p < (ns.length : Int)

theorem RGood.fits {ns : List Nd} {op : Int} (h : RGood ns op) : Fits ns := fun d hd => by
  have h1 := h.each d hd
  have h2 := h.le
  exact ⟨⟨by omega, by omega⟩, by omega, by omega⟩

theorem RGood.start : RGood [⟨-1, -1, false⟩] (-1) := ⟨by simp, by simp, by omega, by simp, fun d hd => by
  rw [List.mem_singleton] at hd
  subst hd
  exact ⟨⟨by show (-97 : Int) ≤ -1; omega, by show (-1 : Int) ≤ _; omega⟩, by show (-1 : Int) ≤ -1; omega, by show (-1 : Int) < _; simp⟩⟩

theorem endAt_at {ns : List Nd} {k : Nat} {d : Nd} (h : ns[k]? = some d) : endAt ns k = ns.set k ⟨d.l, d.p, true⟩ := by unfold endAt; rw [h]

theorem RGood.dot {ns : List Nd} {op : Int} (h : RGood ns op) {k : Nat} {d : Nd} (hd : ns[k]? = some d) : RGood (ns.set k ⟨d.l, d.p, true⟩) op :=
  ⟨by rw [List.length_set]; exact h.pos, by rw [List.length_set]; exact h.le, h.o1, by rw [List.length_set]; exact h.o2, fun q hq => by
    rw [List.length_set]
    rcases List.mem_or_eq_of_mem_set hq with hq | rfl
    · exact h.each q hq
    · exact h.each d (List.mem_iff_getElem?.2 ⟨k, hd⟩)⟩

theorem RGood.opn {ns : List Nd} {op : Int} (h : RGood ns op) {m : Nat} (hm : ns.length = m + 1) : RGood ns (m : Int) := ⟨h.pos, h.le, by omega, by omega, h.each⟩

theorem RGood.shut {ns : List Nd} {op : Int} (h : RGood ns op) {k : Nat} {d : Nd} (hd : ns[k]? = some d) : RGood ns d.p :=
  ⟨h.pos, h.le, (h.each d (List.mem_iff_getElem?.2 ⟨k, hd⟩)).2.1, (h.each d (List.mem_iff_getElem?.2 ⟨k, hd⟩)).2.2, h.each⟩

theorem RGood.app {ns : List Nd} {op : Int} (h : RGood ns op) {l : Int} (hl : -97 ≤ l ∧ l ≤ 2147483647) (hn : ns.length < 481) : RGood (ns ++ [⟨l, op, false⟩]) op :=
  ⟨by simp, by simp; omega, h.o1, by have := h.o2; simp; omega, fun d hd => by
    have h1 := h.o1
    have h2 := h.o2
    rcases List.mem_append.1 hd with hd | hd
    · have := h.each d hd
      simp only [List.length_append, List.length_cons, List.length_nil]
      omega
    · rw [List.mem_singleton] at hd
      subst hd
      simp only [List.length_append, List.length_cons, List.length_nil]
      omega⟩

theorem ndc_dot : ∀ {t : List Nd} {k : Nat} {d : Nd}, t[k]? = some d → (ndc t).set (k * 3 + 2) (.bool true) = ndc (t.set k ⟨d.l, d.p, true⟩)
  | [], k, d, h => by simp at h
  | q :: t, 0, d, h => by
    obtain rfl : q = d := by simpa using h
    rfl
  | q :: t, k + 1, d, h => by
    have ih := ndc_dot (t := t) (k := k) (d := d) (by simpa using h)
    have e : (k + 1) * 3 + 2 = k * 3 + 2 + 3 := by omega
    rw [e]
    simpa [ndc] using ih

theorem own_form {base : Nat} {w : World} {e : TypeId} {size m : Nat} {v : Value} {xs : List Value} (h : w.ownsRow base e size v (m + 1) xs) : ∃ g c, v = .slice (some ⟨g, 0, none⟩) (m + 1) c := own_succ h

theorem own_iter {base : Nat} {w : World} {e : TypeId} {size n : Nat} {v : Value} {xs : List Value} (h : w.ownsRow base e size v n xs) {k : Nat} {s : ByteArray} {p : Nat} (hk : w.heap[k]? = some (.stringIter s p)) : some k ≠ v.ownBlock := by
  rcases h.2 with ⟨rfl, _⟩ | ⟨g, cap, cur, rfl, _, hg, _⟩
  · simp [Value.ownBlock]
  · intro e'
    have : k = g := by simpa [Value.ownBlock] using e'
    subst this
    rw [hk] at hg
    cases hg

theorem own_iterAt {base : Nat} {w : World} {e : TypeId} {size n : Nat} {v : Value} {xs : List Value} (h : w.ownsRow base e size v n xs) {k : Nat} {s : ByteArray} {p q : Nat} (hk : w.heap[k]? = some (.stringIter s p)) : (w.iterAt k s q).ownsRow base e size v n xs := by
  have hne := own_iter h hk
  refine ⟨h.1, ?_⟩
  rcases h.2 with h' | ⟨g, cap, cur, rfl, hb, hg, h3⟩
  · exact .inl h'
  · refine .inr ⟨g, cap, cur, rfl, hb, ?_, h3⟩
    rw [Lib.iterAt_other w k g s q (fun e => hne (by simp [Value.ownBlock, e]))]
    exact hg

/-- what stays while the text is read -/
structure RStay (w wr : World) (s : ByteArray) (pos : Nat) (v : Value) (ns : List Nd) : Prop where
  bel : Below w.heap.size w wr
  box : Boxed wr w.heap.size 30 (.slice none 0 0)
  iter : wr.heap[w.heap.size + 1 + 1]? = some (.stringIter s pos)
  own : wr.ownsRow (w.heap.size + 1) 70 3 v ns.length (ndc ns)

section
variable {w wr : World} {s : ByteArray} {pos : Nat} {v : Value} {ns : List Nd}

theorem RStay.on (h : RStay w wr s pos v ns) (q : Nat) : RStay w (wr.iterAt (w.heap.size + 1 + 1) s q) s q v ns :=
  ⟨Lib.below_iterAt h.bel (by omega) s q, (Lib.iterAt_other wr _ w.heap.size s q (by omega)).trans h.box, Lib.iterAt_heap wr _ s pos q h.iter, own_iterAt h.own h.iter⟩

theorem RStay.dot {g m c : Nat} {d : Nd} (h : RStay w wr s pos (.slice (some ⟨g, 0, none⟩) (m + 1) c) ns) (hm : ns.length = m + 1) (hd : ns[m]? = some d) :
    RStay w (wr.setCell ⟨g, m * 3 + 2, none⟩ (.bool true)) s pos (.slice (some ⟨g, 0, none⟩) (m + 1) c) (ns.set m ⟨d.l, d.p, true⟩) := by
  have hg := own_ge h.own (g := g) rfl
  have hne := own_iter h.own h.iter
  have hO := h.own
  rw [hm] at hO
  have hs := (hO.stored (m * 3 + 2) (.bool true)).1
  rw [ndc_dot hd] at hs
  refine ⟨h.bel.setCell (p := ⟨g, m * 3 + 2, none⟩) (by show w.heap.size ≤ g; omega) _, (Deep.blk_setCell_other _ _ _ _ (by show w.heap.size ≠ g; omega)).trans h.box, (Deep.blk_setCell_other _ _ _ _ (fun e => hne (by simp only [Value.ownBlock]; rw [e]))).trans h.iter, ?_⟩
  rw [List.length_set, hm]
  exact hs

theorem RStay.app {v2 : Value} {w2 : World} {o : Obj} {d : Nd} (h : RStay w wr s pos v ns) (hown : w2.ownsRow (w.heap.size + 1) 70 3 v2 (ns.length + 1) (ndc ns ++ [.int .i64 d.l, .int .i64 d.p, .bool d.e]))
    (hg : (wr.alloc o).grownBy w2 v.ownBlock) : RStay w w2 s pos v2 (ns ++ [d]) := by
  have hgr : wr.grownBy w2 v.ownBlock := (World.grownBy_alloc wr o _).trans hg
  have hsz := h.box.lt
  refine ⟨h.bel.trans ((Below.refl _ _).grown hgr h.bel.size fun k hk => ?_), h.box.kept hgr (h.box.not_row (by decide) h.own), (hgr.block _ (Array.getElem?_eq_some_iff.1 h.iter).1 (own_iter h.own h.iter)).trans h.iter, ?_⟩
  · have := (h.own.lt k hk).1
    omega
  · have e : ndc (ns ++ [d]) = ndc ns ++ [.int .i64 d.l, .int .i64 d.p, .bool d.e] := by rw [ndc_app]; rfl
    rw [e, List.length_append]
    exact hown
end

def ReadPost (w : World) (t : List Nd) (e : Ending) (w' : World) : Prop :=
  ∃ v, e = .returned (.agg #[v]) ∧ w'.ownsRow w.heap.size 70 3 v t.length (ndc t) ∧ Fits t ∧ t.length ≤ 481 ∧ Below w.heap.size w w'

set_option maxRecDepth 1000000 in
set_option maxHeartbeats 4000000 in
theorem readTrie_any (s : ByteArray) (w : World) (hs : s.size ≤ 9223372036854775807) :
    Calls Try.prog 89 #[.string s] w (ReadPost w (rdT s)) := by
  obtain ⟨tt, htt⟩ : ∃ tt, rdT s = tt := ⟨_, rfl⟩
  rw [htt]
  have HTT : Hid (nodesOf (rest s 0 start0) = tt) := Lib.hid htt
  clear htt
  obtain ⟨i0, hii, hz0, hz1, hz2⟩ := info_parts infoN
  have HS0 : Hid (RStay w (((w.alloc (.cells #[.slice none 0 0] 30)).alloc (.cells #[.int .i64 (-1), .int .i64 (-1), .bool false] 70)).iter s 0) s 0 (.slice (some ⟨w.heap.size + 1, 0, none⟩) 1 1) [⟨-1, -1, false⟩]) := Lib.hid (by
    have hO := World.ownsRow_lit (base := w.heap.size + 1) (e := 70) (size := 3) (w.alloc (.cells #[.slice none 0 0] 30)) #[.int .i64 (-1), .int .i64 (-1), .bool false] 1 (by simp) (by unfold maxLen; omega) rfl
    refine ⟨((((Below.refl _ _).alloc (Nat.le_refl _) _).alloc (by simp) _).alloc (by simp; omega) _), ((Boxed.new w _ _).alloc _).alloc _, ?_, ?_⟩
    · have := World.iter_heap ((w.alloc (.cells #[.slice none 0 0] 30)).alloc (.cells #[.int .i64 (-1), .int .i64 (-1), .bool false] 70)) s 0
      simpa using this
    · have := hO.alloc (.stringIter s 0)
      simpa [ndc, World.iter] using this)
  go_enter Try.func89, Try.ntmps89
  go_wp2
  go_loopw [3, 4] (fun v o wr => ∃ (k : Nat) (v' : Value) (m : Nat) (ns : List Nd) (op : Int), v' = v ∧ o = .int .i64 op ∧ Hid (ns.length = m + 1) ∧ m < 481 ∧ -1 ≤ op ∧ op ≤ m ∧ Hid (RGood ns op) ∧ Hid (RStay w wr s k v' ns) ∧ Hid (nodesOf (rest s k (some (ns, op))) = tt)) (fun _ _ wr => s.size - wr.iterPos (w.heap.size + 1 + 1))
  case atStart => exact ⟨0, _, 0, [⟨-1, -1, false⟩], -1, rfl, rfl, Lib.hid rfl, by omega, by omega, by omega, Lib.hid RGood.start, HS0, HTT⟩
  case round =>
    clear HS0 HTT
    obtain ⟨k, v', m, ns, op, rfl, rfl, HM, hm, ho1, ho2, HG, HSt, HR⟩ := hrel
    have hpos0 : wr.iterPos (w.heap.size + 1 + 1) = k := by simp [World.iterPos, HSt.out.iter]
    have HP0 := Lib.hid hpos0
    clear hpos0
    have hO := HSt.out.own
    rw [HM.out] at hO
    obtain ⟨g, c, rfl⟩ := own_form hO
    by_cases hlt : k < s.size
    · have hnx := fun ty => Lib.run_next_any_at (P := Try.prog) wr (w.heap.size + 1 + 1) s k ty HSt.out.iter hlt
      have hw1 := wide_pos s k hlt
      have hq1 := decode_le s k
      have HR1 := Lib.hid HR.out
      rw [rest_step hlt] at HR1
      obtain ⟨q, hq⟩ : ∃ q, (Utf8.decode s k).1 = q := ⟨_, rfl⟩
      obtain ⟨k2, hk2⟩ : ∃ k2, k + (Utf8.decode s k).2 = k2 := ⟨_, rfl⟩
      rw [hq] at hq1
      rw [hq, hk2] at HR1
      simp only [hq, hk2] at hnx
      have hkk : k < k2 := by omega
      have HS1 := Lib.hid (HSt.out.on k2)
      obtain ⟨W1, hW1⟩ : ∃ W1, wr.iterAt (w.heap.size + 1 + 1) s k2 = W1 := ⟨_, rfl⟩
      rw [hW1] at HS1
      simp only [hW1] at hnx
      have HMs : Hid (∀ W, RStay w W s k2 (.slice (some ⟨g, 0, none⟩) (m + 1) c) ns ∨ True → True) := Lib.hid (fun _ _ => trivial)
      have hpos1 : ∀ (W : World) (v9 : Value) (ns9 : List Nd), RStay w W s k2 v9 ns9 → W.iterPos (w.heap.size + 1 + 1) = k2 := fun W v9 ns9 h => by simp [World.iterPos, h.iter]
      have HP1 := Lib.hid hpos1
      clear hq hk2 hW1 hw1 hpos1 hO HMs
      have hq0 : (0 : Int) ≤ (q : Int) := by omega
      have hq2 : (q : Int) ≤ 2147483647 := by omega
      have hO := HS1.out.own
      rw [HM.out] at hO
      have hrc := HS1.out.box.cell
      have hrf := HS1.out.box.frozen
      by_cases h46 : q = 46
      · subst h46
        obtain ⟨d, hd⟩ : ∃ d, ns[m]? = some d := ⟨_, List.getElem?_eq_getElem (by rw [HM.out]; omega)⟩
        have hx2 := hO.cellAt (m * 3 + 2) (by omega)
        rw [(ndc_at hd).2.2] at hx2
        have hf2 := hO.frozenAt (m * 3 + 2)
        have HS2 := Lib.hid (HS1.out.dot HM.out hd)
        have HR2 : Hid (nodesOf (rest s k2 (some (ns.set m ⟨d.l, d.p, true⟩, op))) = tt) := Lib.hid (by
          have := HR1.out
          have e : rstep (some (ns, op)) 46 = some (endAt ns (ns.length - 1), op) := rfl
          rw [e, HM.out, Nat.add_sub_cancel, endAt_at hd] at this
          exact this)
        have HG2 := Lib.hid (HG.out.dot hd)
        have HM2 : Hid ((ns.set m ⟨d.l, d.p, true⟩).length = m + 1) := Lib.hid (by rw [List.length_set]; exact HM.out)
        clear hO hd hrc hrf
        go_wp2
        go_roundw
        case rel => exact ⟨k2, _, m, _, op, rfl, rfl, HM2, hm, ho1, ho2, HG2, HS2, HR2⟩
        case measure => rw [HP0.out, HP1.out _ _ _ HS2.out]; omega
      · by_cases h40 : q = 40
        · subst h40
          have HR2 : Hid (nodesOf (rest s k2 (some (ns, (m : Int)))) = tt) := Lib.hid (by
            have := HR1.out
            have e : rstep (some (ns, op)) 40 = some (ns, ((ns.length - 1 : Nat) : Int)) := rfl
            rw [e, HM.out, Nat.add_sub_cancel] at this
            exact this)
          have HG2 := Lib.hid (HG.out.opn HM.out)
          clear hO hrc hrf h46
          go_wp2
          go_roundw
          case rel => exact ⟨k2, _, m, ns, m, rfl, by first | rfl | go_num, HM, hm, by omega, by omega, HG2, HS1, HR2⟩
          case measure => rw [HP0.out, HP1.out _ _ _ HS1.out]; omega
        · by_cases h41 : q = 41
          · subst h41
            by_cases hop : op = -1
            · subst hop
              obtain rfl : tt = [] := by
                have := HR1.out
                have e : rstep (some (ns, -1)) 41 = none := rfl
                rw [e, rest_none] at this
                exact this.symm
              have HBf := Lib.hid HS1.out.bel
              clear hO h46 h40
              go_wp2
              refine bodyPost_ret (v := .agg #[.slice none 0 0]) (by simp [results, Try.results89, go_sem, hrc]) rfl ⟨_, rfl, World.ownsRow_nil _ _ _ _, (fun d hd => by cases hd), by simp, HBf.out.setCell (p := ⟨w.heap.size, 0, none⟩) (Nat.le_refl _) _⟩
            · obtain ⟨j, rfl⟩ : ∃ j : Nat, op = j := ⟨op.toNat, by omega⟩
              have hjm : j < m + 1 := by omega
              obtain ⟨d, hd⟩ : ∃ d, ns[j]? = some d := ⟨_, List.getElem?_eq_getElem (by rw [HM.out]; omega)⟩
              have hx1 := hO.cellAt (j * 3 + 1) (by omega)
              rw [(ndc_at hd).2.1] at hx1
              have HG2 := Lib.hid (HG.out.shut hd)
              have hp1 := HG2.out.o1
              have hp2 := HG2.out.o2
              rw [HM.out] at hp2
              have HR2 : Hid (nodesOf (rest s k2 (some (ns, d.p))) = tt) := Lib.hid (by
                have := HR1.out
                have e : rstep (some (ns, (j : Int))) 41 = some (ns, d.p) := by
                  have h1 : ¬ ((j : Int) = -1) := by omega
                  simp [rstep, h1, hd]
                rw [e] at this
                exact this)
              have hb1 : ((j : Int) == -1) = false := by first | (simp; done) | (simp; omega)
              have hj0 : (0 : Int) ≤ (j : Int) := by omega
              have hj1 : (j : Int) < (m : Int) + 1 := by omega
              clear hO hd hrc hrf h46 h40 hop
              go_wp2
              go_roundw
              case rel => exact ⟨k2, _, m, ns, d.p, rfl, rfl, HM, hm, hp1, by omega, HG2, HS1, HR2⟩
              case measure => rw [HP0.out, HP1.out _ _ _ HS1.out]; omega
          · have t1 : ((q : Int) == 46) = false := by simp; omega
            have t2 : ((q : Int) == 40) = false := by simp; omega
            have t3 : ((q : Int) == 41) = false := by simp; omega
            have HE : Hid (rstep (some (ns, op)) q = if ns.length = 481 then none else some (ns ++ [⟨(q : Int) - 97, op, false⟩], op)) := Lib.hid (by simp [rstep, h46, h40, h41])
            clear h46 h40 h41
            by_cases hfull : m = 480
            · subst hfull
              obtain rfl : tt = [] := by
                have := HR1.out
                rw [HE.out, HM.out, if_pos rfl, rest_none] at this
                exact this.symm
              have HBf := Lib.hid HS1.out.bel
              clear hO
              go_wp2
              refine bodyPost_ret (v := .agg #[.slice none 0 0]) (by simp [results, Try.results89, go_sem, hrc]) rfl ⟨_, rfl, World.ownsRow_nil _ _ _ _, (fun d hd => by cases hd), by simp, HBf.out.setCell (p := ⟨w.heap.size, 0, none⟩) (Nat.le_refl _) _⟩
            · have hb1 : ((m : Int) + 1 == 481) = false := by simp; omega
              have HR2 : Hid (nodesOf (rest s k2 (some (ns ++ [⟨(q : Int) - 97, op, false⟩], op))) = tt) := Lib.hid (by
                have := HR1.out
                rw [HE.out, HM.out, if_neg (by omega)] at this
                exact this)
              have HG2 := Lib.hid (HG.out.app (l := (q : Int) - 97) (by omega) (by rw [HM.out]; omega))
              have HM2 : Hid ((ns ++ [(⟨(q : Int) - 97, op, false⟩ : Nd)]).length = m + 1 + 1) := Lib.hid (by rw [List.length_append, HM.out]; rfl)
              have hzz := HS1.out.box.lt
              have HO := Lib.hid hO
              clear hO hrc hrf
              go_wp2_with (at_builtin; refine wpList_append_own_at _ rfl _ _ 28 rfl (w.heap.size + 1) 70 i0 (.agg #[.int .i64 0, .int .i64 0, .bool false]) 3 24 Try.underlying28 hii hz0 hz1 hz2 rfl (by decide) _ _ _ rfl (HO.out.alloc _) ⟨_, 0, none⟩ 1 1 [.int .i64 ((q : Int) - 97), .int .i64 op, .bool false] rfl rfl (news_at (cs := #[.int .i64 ((q : Int) - 97), .int .i64 op, .bool false]) rfl) (by simp [Value.oneCell']) (by unfold maxLen; omega) (by omega) (by simp; omega) ?_; intro v2 w2 hO2 hG2 _ hat2; have HS2 := Lib.hid (HS1.out.app (d := ⟨(q : Int) - 97, op, false⟩) (by rw [HM.out]; exact hO2) hG2); clear hO2 hG2 hat2)
              go_roundw
              case rel => exact ⟨k2, v2, m + 1, _, op, rfl, rfl, HM2, by omega, ho1, by omega, HG2, HS2, HR2⟩
              case measure => rw [HP0.out, HP1.out _ _ _ HS2.out]; omega
    · have hnx := fun ty => Lib.run_next_end_at (P := Try.prog) wr (w.heap.size + 1 + 1) s k ty HSt.out.iter hlt
      obtain rfl : ns = tt := by
        have := HR.out
        rw [rest_end hlt] at this
        exact this
      have hrc := HSt.out.box.cell
      have hrf := HSt.out.box.frozen
      have HBf := Lib.hid HSt.out.bel
      clear hO
      go_wp2
      refine bodyPost_ret (v := .agg #[.slice (some ⟨g, 0, none⟩) (m + 1) c]) (by simp [results, Try.results89, go_sem, hrc]) rfl ⟨_, rfl, ?_, HG.out.fits, HG.out.le, HBf.out.setCell (p := ⟨w.heap.size, 0, none⟩) (Nat.le_refl _) _⟩
      have hO := HSt.out.own
      exact (own_down hO (by omega)).kept (grownBy_setCell' wr w.heap.size _) (.inr (HSt.out.box.not_row (by decide) hO).symm)

end Go.Proofs.Ytjcaikfejgeknab
