/- lag: closed evaluations of the bounds of the law's examples. -/
import Derived.Test.YtjidllaaokdjhaaNF
namespace Go.Proofs.Ytjidllaaokdjhaa
open Go.RowKit Go.Shelf

theorem wkBoard : boardE [3, 4, 5] [[0, 2, 4]] = 18 := by kernel_rfl
theorem wkBoard2 : boardE [3, 4, 4] [[0, 2, 4]] = 0 := by kernel_rfl
theorem wkBoard3 : boardE [3, 4, 4] [[0, 2, 4], [0, 2, 4]] = 0 := by kernel_rfl
theorem wkWait : waitV [3, 4, 4] [[0, 2, 4], [0, 2, 4]] = (4, 0) := by kernel_rfl
theorem wkLate : lateV [3, 4, 4] [[0, 2, 4]] = (2, 0) := by kernel_rfl
theorem wkWait2 : waitV [3, 4, 5] [[0, 2, 4]] = (0, 18) := by kernel_rfl
theorem wkBehind : behR 3 [3, 4, 4] [[0, 2, 4]] 3 = [4, 5, 7] := by kernel_rfl
end Go.Proofs.Ytjidllaaokdjhaa
