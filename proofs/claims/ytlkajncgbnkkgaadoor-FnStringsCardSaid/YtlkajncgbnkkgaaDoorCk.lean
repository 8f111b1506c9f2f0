/-
  The checksum as a plain function on bytes, and its bounds.
-/
namespace Go.Proofs.YtlkajncgbnkkgaaDoor.ck

def ck (l : List UInt8) : Int := l.foldl (fun h c => (41 * h + (c.toNat : Int) + 1) % 999979) 7

theorem ck_snoc (l : List UInt8) (c : UInt8) : ck (l ++ [c]) = (41 * ck l + (c.toNat : Int) + 1) % 999979 := by
  simp [ck, List.foldl_append]

theorem ck_bd (l : List UInt8) : 0 ≤ ck l ∧ ck l < 999979 := by
  rcases List.eq_nil_or_concat l with rfl | ⟨r, c, rfl⟩
  · exact ⟨by decide, by decide⟩
  · rw [List.concat_eq_append, ck_snoc]
    omega

theorem take_snoc (s : ByteArray) (k : Nat) (h : k < s.size) : s.data.toList.take (k + 1) = s.data.toList.take k ++ [s[k]] := by
  rw [List.take_succ_eq_append_getElem (by simpa using h)]; rfl

theorem ck_take (s : ByteArray) (k : Nat) (h : k < s.size) : ck (s.data.toList.take (k + 1)) = (41 * ck (s.data.toList.take k) + (s[k].toNat : Int) + 1) % 999979 := by
  rw [take_snoc s k h, ck_snoc]

theorem byte_bd (s : ByteArray) (k : Nat) (h : k < s.size) : 0 ≤ (s[k].toNat : Int) ∧ (s[k].toNat : Int) < 256 := by
  have := s[k].toNat_lt
  omega

end Go.Proofs.YtlkajncgbnkkgaaDoor.ck
