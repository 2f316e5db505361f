/-
  That the row's listed variables hold what the program's text lays in them gives the library's table of powers of ten, as the contracts of this layer ask for it.
-/
import Derived.Test.YtiifjegjmhbhkaaDoorNumTxt
import Derived.MakeChecks
import Derived.LaidMore
import Derived.Stop.LaidErr
namespace Go.Proofs.YtiifjegjmhbhkaaDoor.Num
open Go.RowKit Gly
set_option linter.unusedSimpArgs false
set_option linter.unusedVariables false

theorem pow_datum : (Rows.laid_internal_strconv_uint64pow10 : DataW Unit) = Lib.tabData .u64 Lib.pow10Tab := by kernel_rfl
theorem tab_of_laid (W : World) (h : laidMetH Tryd.prog Rows.numberScansRow.laid W) : Tab W := by
  rw [MakeChecks.laidMetH_plain _ _ _ (by kernel_rfl)] at h
  have h1 : laidMet Tryd.prog ((tabN, Rows.laid_internal_strconv_uint64pow10) :: [("unicode/utf8.acceptRanges", Rows.laid_unicode_utf8_acceptRanges), ("unicode/utf8.first", Rows.laid_unicode_utf8_first)]) W := laidMet.tail (laidMet.tail h)
  rw [pow_datum] at h1
  exact Lib.tabIs_of_head (g := 0) (t := 107) (e := 91) (n := 20) (by kernel_rfl) (by kernel_rfl) (by kernel_rfl) (by kernel_rfl) (by kernel_rfl) (by kernel_rfl) h1
end Go.Proofs.YtiifjegjmhbhkaaDoor.Num
