import Derived.Test.YtjnmoddcodnadaaGreatDoorG44
import Derived.Test.YtjnmoddcodnadaaGreatDoorG37
import Derived.Stop.LaidErr
import Derived.MakeChecks
import Derived.Shelf.Vars
set_option linter.unusedVariables false
set_option linter.unusedSimpArgs false
namespace Go.Proofs.YtjnmoddcodnadaaGreatDoor
open Go.ChangeShapes Go.WideShapes Go.ChangeAt Go.RowKit Go.Annal Go.Deep
theorem laidPlain : (Rows.refusedRow.laid.all fun x => x.2.handleName?.isNone) = true := by kernel_rfl
theorem tabs_of {W : World} (hL : laidMetH Tryz.prog Rows.refusedRow.laid W) (hS : W.ShapedOpen Tryz.prog) : Tabs W := by
  rw [Go.MakeChecks.laidMetH_plain _ _ _ laidPlain] at hL
  have h1 : laidMet Tryz.prog [("math/bits.deBruijn32tab", Rows.laid_math_bits_deBruijn32tab), ("math/bits.deBruijn64tab", Rows.laid_math_bits_deBruijn64tab), ("internal/strconv.uint64pow10", Lib.tabData .u64 Lib.pow10Tab), ("strconv.ErrRange", Rows.laid_strconv_ErrRange), ("strconv.ErrSyntax", Rows.laid_strconv_ErrSyntax)] W := hL
  have h3 := h1.tail.tail
  have h4 := h3.tail
  have h5 := h4.tail
  have hst : "*" ++ "errors.errorString" = "*errors.errorString" := by decide
  have hrow : ∀ u, Tryz.prog.typeName? 3 u = some "*errors.errorString" → u = 274 := fun u h =>
    typeName_ptr_named (nm := "errors.errorString") (by rw [hst]; kernel_rfl) (by kernel_rfl) (by decide) u (by rw [hst]; exact h)
  obtain ⟨m, hm⟩ := cell_of_shapedOpen_int (P := Tryz.prog) (g := 0) (t := 3) (zero := #[.int .i64 0]) hS (of_decide_eq_true (by kernel_rfl)) (by kernel_rfl) rfl (by kernel_rfl) (by kernel_rfl) Tryz.underlying3
  refine ⟨Lib.tabIs_of_head (g := 3) (t := 278) (e := 248) (n := 20) (by kernel_rfl) (by kernel_rfl) Tryz.underlying278 Tryz.underlying248 (by kernel_rfl) (by kernel_rfl) h3, ?_, ?_, ?_⟩
  · obtain ⟨a, s, hv, _⟩ := laid_sentinel (g := 1) (ti := 72) (tp := 274) (te := 276) (ts := 9) h5 (by kernel_rfl) (by kernel_rfl) Tryz.underlying72 hrow Tryz.underlying274 Tryz.underlying276 rfl rfl Tryz.underlying9 (by kernel_rfl) (by kernel_rfl)
    exact ⟨_, _, hv⟩
  · obtain ⟨a, s, hv, _⟩ := laid_sentinel (g := 2) (ti := 72) (tp := 274) (te := 276) (ts := 9) h4 (by kernel_rfl) (by kernel_rfl) Tryz.underlying72 hrow Tryz.underlying274 Tryz.underlying276 rfl rfl Tryz.underlying9 (by kernel_rfl) (by kernel_rfl)
    exact ⟨_, _, hv⟩
  · obtain ⟨cs, hh, hs, _⟩ := hS.1 0 #[.int .i64 0] 3 (of_decide_eq_true (by kernel_rfl)) (by kernel_rfl)
    have hg : Tryz.prog.globalNamed "internal/bytealg.MaxLen" = some 0 := by kernel_rfl
    obtain ⟨l⟩ := cs
    match l, hs with
    | [v], _ =>
      have : v = .int .i64 m := by
        have h := blk_cell' hh (o := 0) (v := v) rfl
        rw [h] at hm
        exact Option.some.inj hm
      refine ⟨m, ?_⟩
      unfold World.var?
      rw [hg]
      simp [hh, this]
end Go.Proofs.YtjnmoddcodnadaaGreatDoor
