/-
  What the rows' lists say of the library's two errors of reading a number.
-/
import Derived.Test.YtlkajncgbnkkgaaDoorLaidTabs
import Derived.Stop.LaidErr
import Derived.WalkSmall
namespace Go.Proofs.YtlkajncgbnkkgaaDoor
open Go.RowKit

theorem gES : Tryd.prog.globalNamed "strconv.ErrSyntax" = some 0 := by kernel_rfl
theorem gESType : (Tryd.prog.globals[0]?).map (·.type) = some 46 := by kernel_rfl
theorem gER : Tryd.prog.globalNamed "strconv.ErrRange" = some 1 := by kernel_rfl
theorem gERType : (Tryd.prog.globals[1]?).map (·.type) = some 46 := by kernel_rfl
theorem cellsErr : Tryd.prog.cellsOf 87 = 1 := by kernel_rfl
theorem cellsStr : Tryd.prog.cellsOf 9 = 1 := by kernel_rfl
theorem starErr : "*" ++ "errors.errorString" = "*errors.errorString" := by decide
theorem rowErr (u : TypeId) (h : Tryd.prog.typeName? 3 u = some "*errors.errorString") : u = 85 :=
  typeName_ptr_named (nm := "errors.errorString") (by rw [starErr]; kernel_rfl) (by kernel_rfl) (by decide) u (by rw [starErr]; exact h)

theorem errs_of {W : World} {r : List (String × DataW Unit)} (h : laidMet Tryd.prog (("strconv.ErrRange", Rows.laid_strconv_ErrRange) :: ("strconv.ErrSyntax", Rows.laid_strconv_ErrSyntax) :: r) W) :
    (∃ t p, W.var? Tryd.prog "strconv.ErrSyntax" = some #[.iface t p]) ∧ ∃ t p, W.var? Tryd.prog "strconv.ErrRange" = some #[.iface t p] := by
  obtain ⟨a0, s0, hv0, -, -, -⟩ := laid_sentinel h gER gERType Tryd.underlying46 rowErr Tryd.underlying85 Tryd.underlying87 rfl rfl Tryd.underlying9 cellsErr cellsStr
  obtain ⟨a1, s1, hv1, -, -, -⟩ := laid_sentinel (laidMet_tail h) gES gESType Tryd.underlying46 rowErr Tryd.underlying85 Tryd.underlying87 rfl rfl Tryd.underlying9 cellsErr cellsStr
  exact ⟨⟨_, _, hv1⟩, ⟨_, _, hv0⟩⟩

/-- The two errors are there. -/
structure Errs (W : World) : Prop where
  bad : ∃ t p, W.var? Tryd.prog "strconv.ErrSyntax" = some #[.iface t p]
  far : ∃ t p, W.var? Tryd.prog "strconv.ErrRange" = some #[.iface t p]

theorem Errs.keep {W W' : World} (h : Errs W) (hb : Below W.heap.size W W') : Errs W' := by
  obtain ⟨⟨t, p, h1⟩, ⟨t', p', h2⟩⟩ := h
  have l1 := World.block_lt_of_cell? W _ (World.var?_cell gES h1 0)
  have l2 := World.block_lt_of_cell? W _ (World.var?_cell gER h2 0)
  exact ⟨⟨t, p, var?_below hb gES l1 h1⟩, ⟨t', p', var?_below hb gER l2 h2⟩⟩

end Go.Proofs.YtlkajncgbnkkgaaDoor
