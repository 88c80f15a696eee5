/- lag: closed evaluations for the law's examples. -/
import Derived.Test.YtjidllaaokdjhaaNF
namespace Go.Proofs.Ytjidllaaokdjhaa
open Go.RowKit Go.Shelf

theorem wkMost : mostR [3, 4, 4] 7 = (11, 0) := by kernel_rfl
theorem wkLeast : leastR [[0, 2, 4], [0, 2, 4]] 5 = (4, 0) := by kernel_rfl
theorem wkRate : rateR [3, 4, 4] true = ((4, 3), 0) := by kernel_rfl
theorem wkBreak1 : breakR [3, 4, 4] [3, 1, 0, 3, 1, 0] = (0, 0, 5) := by kernel_rfl
theorem wkBreak2 : breakR [3, 4, 4] [3, 1, 1, 0] = (0, 3, 0) := by kernel_rfl
theorem wkCurveA : curveF [3, 4, 4] = 0 := by kernel_rfl
theorem wkCurveB : curveF [0, 2, 4] = 0 := by kernel_rfl
theorem wkRowR : rowF [3, 1, 0, 3, 1, 0] = 0 := by kernel_rfl
theorem wkCame : difL (mostL [3, 4, 4] 6) 6 = [3, 1, 0, 3, 1, 0] := by kernel_rfl
theorem wkAdded : difL (addL (totF [3, 1, 0, 3, 1, 0]) [0, 2, 4]) 6 = [0, 2, 2, 0, 2, 2] := by kernel_rfl
theorem wkCheckAdded : checkAddedR [0, 2, 4] [3, 1, 0, 3, 1, 0] [0, 1, 3, 0, 2, 2] = 18 := by kernel_rfl
theorem wkSeen : seenR [3, 1, 0, 3, 1, 0] [0, 2, 2, 0, 2, 2] = (3, 2, 0) := by kernel_rfl
end Go.Proofs.Ytjidllaaokdjhaa
