/- Parts of a proof: OD OE OF OG. -/
import Derived.Test.YtfidkgpimlpdbaaF6

/- odds: isFraction to Round. -/
namespace Go.Proofs.Ytfidkgpimlpdbaa
open Go.RowKit Go.Shelf

theorem pb1 {x y : Int} (hx : -3000000000 ≤ x ∧ x ≤ 3000000000) (hy : -3000000000 ≤ y ∧ y ≤ 3000000000) : -9223372036854775808 ≤ x * y ∧ x * y ≤ 9223372036854775807 := by
  have h := Int.natAbs_mul x y
  have h2 : x.natAbs * y.natAbs ≤ 3000000000 * 3000000000 := Nat.mul_le_mul (by omega) (by omega)
  omega
theorem pc1 {x y : Int} (hx : -3000000000 ≤ x ∧ x ≤ 3000000000) (hy : -3000000000 ≤ y ∧ y ≤ 3000000000) : -9223372036854775807 ≤ x * y ∧ x * y ≤ 9223372036854775807 := by
  have h := Int.natAbs_mul x y
  have h2 : x.natAbs * y.natAbs ≤ 3000000000 * 3000000000 := Nat.mul_le_mul (by omega) (by omega)
  omega
theorem pd1 {x y : Int} (hx : -90000000000 ≤ x ∧ x ≤ 90000000000) (hy : -100000000 ≤ y ∧ y ≤ 100000000) : -9223372036854775807 ≤ x * y ∧ x * y ≤ 9223372036854775807 := by
  have h := Int.natAbs_mul x y
  have h2 : x.natAbs * y.natAbs ≤ 90000000000 * 100000000 := Nat.mul_le_mul (by omega) (by omega)
  omega
theorem pd2 {x y : Int} (hx : -100000000 ≤ x ∧ x ≤ 100000000) (hy : -90000000000 ≤ y ∧ y ≤ 90000000000) : -9223372036854775807 ≤ x * y ∧ x * y ≤ 9223372036854775807 := by
  rw [Int.mul_comm]
  exact pd1 hy hx
theorem pb0 {x y : Int} (hx : -2000000000 ≤ x ∧ x ≤ 2000000000) (hy : -2000000000 ≤ y ∧ y ≤ 2000000000) : -4000000000000000000 ≤ x * y ∧ x * y ≤ 4000000000000000000 := by
  have h := Int.natAbs_mul x y
  have h2 : x.natAbs * y.natAbs ≤ 2000000000 * 2000000000 := Nat.mul_le_mul (by omega) (by omega)
  omega
theorem pb2 {x y z : Int} (hx : -2000000000 ≤ x ∧ x ≤ 2000000000) (hy : -2000000000 ≤ y ∧ y ≤ 2000000000) (hz : -4000000000000000000 ≤ z ∧ z ≤ 4000000000000000000) : -9223372036854775808 ≤ x * y + z ∧ x * y + z ≤ 9223372036854775807 := by
  have := pb0 hx hy
  omega
theorem pb3 {x y u v : Int} (hx : -2000000000 ≤ x ∧ x ≤ 2000000000) (hy : -2000000000 ≤ y ∧ y ≤ 2000000000) (hu : -2000000000 ≤ u ∧ u ≤ 2000000000) (hv : -2000000000 ≤ v ∧ v ≤ 2000000000) : -9223372036854775808 ≤ x * y - u * v ∧ x * y - u * v ≤ 9223372036854775807 := by
  have := pb0 hx hy
  have := pb0 hu hv
  omega
theorem pc3 {x y u v : Int} (hx : -2000000000 ≤ x ∧ x ≤ 2000000000) (hy : -2000000000 ≤ y ∧ y ≤ 2000000000) (hu : -2000000000 ≤ u ∧ u ≤ 2000000000) (hv : -2000000000 ≤ v ∧ v ≤ 2000000000) : -9223372036854775807 ≤ x * y - u * v ∧ x * y - u * v ≤ 9223372036854775807 := by
  have := pb0 hx hy
  have := pb0 hu hv
  omega
theorem pcp {x y : Int} (hx : 0 < x ∧ x ≤ 3000000000) (hy : 0 < y ∧ y ≤ 3000000000) : 0 < x * y ∧ x * y ≤ 9223372036854775807 := by
  have := Int.mul_pos hx.1 hy.1
  have := pc1 (x := x) (y := y) (by omega) (by omega)
  omega
def isFracF (n d : Int) : Bool := decide (1 ≤ d ∧ d ≤ 1000000) && decide (0 ≤ n ∧ n ≤ 1000 * d)
theorem frac_iff {n d : Int} : isFracF n d = true ↔ (1 ≤ d ∧ d ≤ 1000000) ∧ 0 ≤ n ∧ n ≤ 1000 * d := by simp [isFracF]
def stepF (s : Int) : Bool := decide (1 ≤ s ∧ s ≤ 100)
def placeF (n d s : Int) : Int := if isFracF n d = false then 3 else if stepF s = false then 2 else 0
theorem place_ok {n d s : Int} (h : placeF n d s = 0) : ((1 ≤ d ∧ d ≤ 1000000) ∧ 0 ≤ n ∧ n ≤ 1000 * d) ∧ 1 ≤ s ∧ s ≤ 100 := by
  unfold placeF at h
  split at h
  · cases h
  · rename_i h1
    split at h
    · cases h
    · rename_i h2
      exact ⟨frac_iff.1 (by simpa using h1), by simpa [stepF] using h2⟩
def refusesF (l h : Int) : Bool := !(decide (0 ≤ l ∧ l ≤ 1000000) && decide (0 ≤ h ∧ h ≤ 1000000)) || decide (l > h)
def runF (m r : Int) : Bool := decide (0 ≤ r ∧ r ≤ m - 1)
def beyondF (n d : Int) : Bool := !decide (0 ≤ n ∧ n ≤ 190) || !decide (1 ≤ d ∧ d ≤ 10)
set_option maxRecDepth 20000 in
theorem isFraction_any (w : World) (n d : Int) :
    Calls Try.prog 71 #[.agg #[.int .i64 n, .int .i64 d]] w fun e w' => e = .returned (.bool (isFracF n d)) ∧ Below w.heap.size w w' := by
  refine enter 16 Try.func71 (by kernel_rfl) fun hA => ?_
  refine runS hA 11 [.k 0] xn on (by kernel_rfl) fun w1 hA => ?_
  have hwi := within_c w1 w1.heap.size 1 1000000 (some ⟨w.heap.size + 1, 0, none⟩) 1 1 [d] (ints1 (hA.at_.ok ⟨w.heap.size + 1, .cells #[.int .i64 d] 2 (0, 0)⟩ (List.mem_of_getElem? (i := 1) (by kernel_rfl)))) (Nat.le_refl _)
  rw [within1] at hwi
  refine callB hA [] on (hwi) (by kernel_rfl) fun w2 hb2 hA => ?_
  refine runS hA 1 [.t 0] xn on (by kernel_rfl) fun w3 hA => ?_
  by_cases ht1 : 1 ≤ (d : Int) ∧ (d : Int) ≤ 1000000
  case pos =>
    refine runS hA 6 [.g true, .g true, .k 0, .g true, .v (.int .i64 (1000 * d)), .g true, .g true, .k 0, .g true] xn (oc (show Value.bool (decide (1 ≤ (d : Int) ∧ (d : Int) ≤ 1000000)) = .bool true by rw [show decide (1 ≤ (d : Int) ∧ (d : Int) ≤ 1000000) = true from decide_eq_true ht1] <;> rfl) (oc (rfl : Value.bool true = .bool true) (oc (rfl : Value.bool true = .bool true) (oc (show Value.int .i64 (IntKind.i64.wrap (1000 * d)) = .int .i64 (1000 * d) from wrp (by first | omega | exact pb1 (by omega) (by omega) | exact pb2 (by omega) (by omega) (by omega) | exact pb3 (by omega) (by omega) (by omega) (by omega))) (oc (rfl : Value.bool true = .bool true) (oc (rfl : Value.bool true = .bool true) (oc (rfl : Value.bool true = .bool true) on))))))) (by kernel_rfl) fun w4 hA => ?_
    have hwi := within_c w4 w4.heap.size 0 (1000 * d) (some ⟨w2.heap.size, 0, none⟩) 1 1 [n] (ints1 (hA.at_.ok ⟨w2.heap.size, .cells #[.int .i64 n] 2 (0, 0)⟩ (List.mem_of_getElem? (i := 2) (by kernel_rfl)))) (Nat.le_refl _)
    rw [within1] at hwi
    refine callB hA [] on (hwi) (by kernel_rfl) fun w5 hb5 hA => ?_
    refine runS hA 5 [] xn on (by kernel_rfl) fun w6 hA => ?_
    exact ret (v := .bool (decide (0 ≤ (n : Int) ∧ (n : Int) ≤ (1000 * d)))) hA [] (by kernel_rfl) ⟨by simp [isFracF, ht1], hA.below⟩
  case neg =>
    refine runS hA 12 (List.replicate 7 (.g false)) xn (oc (show Value.bool (decide (1 ≤ (d : Int) ∧ (d : Int) ≤ 1000000)) = .bool false by rw [show decide (1 ≤ (d : Int) ∧ (d : Int) ≤ 1000000) = false from decide_eq_false ht1] <;> rfl) (oc (rfl : Value.bool false = .bool false) (oc (rfl : Value.bool false = .bool false) (oc (rfl : Value.bool false = .bool false) (oc (rfl : Value.bool false = .bool false) (oc (rfl : Value.bool false = .bool false) (oc (rfl : Value.bool false = .bool false) on))))))) (by kernel_rfl) fun w4 hA => ?_
    exact ret (v := .bool false) hA [] (by kernel_rfl) ⟨by simp [isFracF, ht1], hA.below⟩
set_option maxRecDepth 20000 in
theorem isStep_any (w : World) (s : Int) (_hs : -9223372036854775808 ≤ s ∧ s ≤ 9223372036854775807) :
    Calls Try.prog 77 #[.int .i64 s] w fun e w' => e = .returned (.bool (stepF s)) ∧ Below w.heap.size w w' := by
  refine enter 6 Try.func77 (by kernel_rfl) fun hA => ?_
  refine runS hA 9 [] xn on (by kernel_rfl) fun w1 hA => ?_
  have hwi := within_c w1 w1.heap.size 1 100 (some ⟨w.heap.size, 0, none⟩) 1 1 [s] (ints1 (hA.at_.ok ⟨w.heap.size, .cells #[.int .i64 s] 2 (0, 0)⟩ (List.mem_of_getElem? (i := 0) (by kernel_rfl)))) (Nat.le_refl _)
  rw [within1] at hwi
  refine callB hA [] on (hwi) (by kernel_rfl) fun w2 hb2 hA => ?_
  refine runS hA 4 [] xn on (by kernel_rfl) fun w3 hA => ?_
  exact ret (v := .bool (decide (1 ≤ (s : Int) ∧ (s : Int) ≤ 100))) hA [] (by kernel_rfl) ⟨by rfl, hA.below⟩
set_option maxRecDepth 20000 in
theorem checkPlace_any (w : World) (n d s : Int) (hs : -9223372036854775808 ≤ s ∧ s ≤ 9223372036854775807) :
    Calls Try.prog 62 #[.agg #[.int .i64 n, .int .i64 d], .int .i64 s] w fun e w' => e = .returned (.int .i64 (placeF n d s)) ∧ Below w.heap.size w w' := by
  refine enter 11 Try.func62 (by kernel_rfl) fun hA => ?_
  refine runS hA 10 [.k 0, .k 0] xn on (by kernel_rfl) fun w1 hA => ?_
  refine callB hA [] on (isFraction_any w1 n d ) (by kernel_rfl) fun w2 hb2 hA => ?_
  refine runS hA 3 [.t 0] xn on (by kernel_rfl) fun w3 hA => ?_
  have hq9 := Bool.eq_false_or_eq_true ((isFracF n d))
  rcases hq9 with ht1 | ht1
  ·
    refine runS hA 7 [.b false] xn (oc (show Value.bool (!(isFracF n d)) = .bool false by rw [ht1] <;> rfl) on) (by kernel_rfl) fun w4 hA => ?_
    refine callB hA [] on (isStep_any w4 s (by omega)) (by kernel_rfl) fun w5 hb5 hA => ?_
    refine runS hA 3 [.t 0] xn on (by kernel_rfl) fun w6 hA => ?_
    have hq9 := Bool.eq_false_or_eq_true ((stepF s))
    rcases hq9 with ht2 | ht2
    ·
      refine runS hA 9 [.b false] xn (oc (show Value.bool (!(stepF s)) = .bool false by rw [ht2] <;> rfl) on) (by kernel_rfl) fun w7 hA => ?_
      exact ret (v := .int .i64 0) hA [] (by kernel_rfl) ⟨by simp [placeF, ht1, ht2], hA.below⟩
    ·
      refine runS hA 8 [.b true] xn (oc (show Value.bool (!(stepF s)) = .bool true by rw [ht2] <;> rfl) on) (by kernel_rfl) fun w7 hA => ?_
      exact ret (v := .int .i64 2) hA [] (by kernel_rfl) ⟨by simp [placeF, ht1, ht2], hA.below⟩
  ·
    refine runS hA 8 [.b true] xn (oc (show Value.bool (!(isFracF n d)) = .bool true by rw [ht1] <;> rfl) on) (by kernel_rfl) fun w4 hA => ?_
    exact ret (v := .int .i64 3) hA [] (by kernel_rfl) ⟨by simp [placeF, ht1], hA.below⟩
set_option maxRecDepth 20000 in
theorem refuses_any (w : World) (l h : Int) :
    Calls Try.prog 82 #[.agg #[.int .i64 l, .int .i64 h]] w fun e w' => e = .returned (.bool (refusesF l h)) ∧ Below w.heap.size w w' := by
  refine enter 17 Try.func82 (by kernel_rfl) fun hA => ?_
  refine runS hA 13 [.k 0, .k 0] xn on (by kernel_rfl) fun w1 hA => ?_
  have hwi := within_c w1 w1.heap.size 0 1000000 (some ⟨w.heap.size + 1, 0, none⟩) 2 2 [l, h] (ints2 (hA.at_.ok ⟨w.heap.size + 1, .cells #[.int .i64 l, .int .i64 h] 2 (0, 0)⟩ (List.mem_of_getElem? (i := 1) (by kernel_rfl)))) (Nat.le_refl _)
  rw [within2] at hwi
  refine callB hA [] on (hwi) (by kernel_rfl) fun w2 hb2 hA => ?_
  refine runS hA 2 [.t 0] xn on (by kernel_rfl) fun w3 hA => ?_
  by_cases ht1 : (0 ≤ l ∧ l ≤ 1000000) ∧ 0 ≤ h ∧ h ≤ 1000000
  case pos =>
    refine runS hA 10 [.g false, .g false, .k 0, .g false, .g false, .k 0, .g false] xn (oc (show Value.bool (!(decide ((0 ≤ l ∧ l ≤ 1000000) ∧ 0 ≤ h ∧ h ≤ 1000000))) = .bool false by rw [show decide ((0 ≤ l ∧ l ≤ 1000000) ∧ 0 ≤ h ∧ h ≤ 1000000) = true from decide_eq_true ht1] <;> rfl) (oc (rfl : Value.bool false = .bool false) (oc (rfl : Value.bool false = .bool false) (oc (rfl : Value.bool false = .bool false) (oc (rfl : Value.bool false = .bool false) on))))) (by kernel_rfl) fun w4 hA => ?_
    exact ret (v := .bool (decide ((l : Int) > (h : Int)))) hA [] (by kernel_rfl) ⟨by simp [refusesF, ht1] <;> omega, hA.below⟩
  case neg =>
    refine runS hA 10 (List.replicate 5 (.g true)) xn (oc (show Value.bool (!(decide ((0 ≤ l ∧ l ≤ 1000000) ∧ 0 ≤ h ∧ h ≤ 1000000))) = .bool true by rw [show decide ((0 ≤ l ∧ l ≤ 1000000) ∧ 0 ≤ h ∧ h ≤ 1000000) = false from decide_eq_false ht1] <;> rfl) (oc (rfl : Value.bool true = .bool true) (oc (rfl : Value.bool true = .bool true) (oc (rfl : Value.bool true = .bool true) (oc (rfl : Value.bool true = .bool true) on))))) (by kernel_rfl) fun w4 hA => ?_
    exact ret (v := .bool true) hA [] (by kernel_rfl) ⟨by simp [refusesF] <;> omega, hA.below⟩
set_option maxRecDepth 20000 in
theorem isRunner_any (w : World) (m : Int) (A : Option Addr) (n c : Nat) (mv : Value) (r : Int) (hm : -1000 ≤ m ∧ m ≤ 1000) (_hr : -9223372036854775808 ≤ r ∧ r ≤ 9223372036854775807) :
    Calls Try.prog 84 #[.agg #[.int .i64 m, .slice A n c, mv], .int .i64 r] w fun e w' => e = .returned (.bool (runF m r)) ∧ Below w.heap.size w w' := by
  refine enter 12 Try.func84 (by kernel_rfl) fun hA => ?_
  refine runS hA 14 [.k 0, .v (.int .i64 (m - 1))] xn (oc (show Value.int .i64 (IntKind.i64.wrap (m - 1)) = .int .i64 (m - 1) from wrp (by omega)) on) (by kernel_rfl) fun w1 hA => ?_
  have hwi := within_c w1 w1.heap.size 0 (m - 1) (some ⟨w.heap.size + 1, 0, none⟩) 1 1 [r] (ints1 (hA.at_.ok ⟨w.heap.size + 1, .cells #[.int .i64 r] 2 (0, 0)⟩ (List.mem_of_getElem? (i := 1) (by kernel_rfl)))) (Nat.le_refl _)
  rw [within1] at hwi
  refine callB hA [] on (hwi) (by kernel_rfl) fun w2 hb2 hA => ?_
  refine runS hA 4 [] xn on (by kernel_rfl) fun w3 hA => ?_
  exact ret (v := .bool (decide (0 ≤ (r : Int) ∧ (r : Int) ≤ (m - 1)))) hA [] (by kernel_rfl) ⟨by rfl, hA.below⟩
set_option maxRecDepth 20000 in
theorem isStray_any (w : World) (m : Int) (A : Option Addr) (n c : Nat) (mv : Value) (qr qn qd : Int) (ql : Bool) (hm : -1000 ≤ m ∧ m ≤ 1000) (hr : -9223372036854775808 ≤ qr ∧ qr ≤ 9223372036854775807) :
    Calls Try.prog 107 #[.agg #[.int .i64 m, .slice A n c, mv], .agg #[.int .i64 qr, .int .i64 qn, .int .i64 qd, .bool ql]] w fun e w' => e = .returned (.bool (!runF m qr)) ∧ Below w.heap.size w w' := by
  refine enter 10 Try.func107 (by kernel_rfl) fun hA => ?_
  refine runS hA 12 [.k 0, .k 0, .k 0, .k 1] xn on (by kernel_rfl) fun w1 hA => ?_
  refine callB hA [] on (isRunner_any w1 m A n c mv qr (by omega) (by omega)) (by kernel_rfl) fun w2 hb2 hA => ?_
  refine runS hA 5 [] xn on (by kernel_rfl) fun w3 hA => ?_
  exact ret (v := .bool (!(runF m qr))) hA [] (by kernel_rfl) ⟨by rfl, hA.below⟩
set_option maxRecDepth 20000 in
theorem isBeyond_any (w : World) (qr qn qd : Int) (ql : Bool) :
    Calls Try.prog 108 #[.agg #[.int .i64 qr, .int .i64 qn, .int .i64 qd, .bool ql]] w fun e w' => e = .returned (.bool (beyondF qn qd)) ∧ Below w.heap.size w w' := by
  refine enter 15 Try.func108 (by kernel_rfl) fun hA => ?_
  refine runS hA 11 [.k 0] xn on (by kernel_rfl) fun w1 hA => ?_
  have hwi := within_c w1 w1.heap.size 0 190 (some ⟨w.heap.size + 1, 0, none⟩) 1 1 [qn] (ints1 (hA.at_.ok ⟨w.heap.size + 1, .cells #[.int .i64 qn] 2 (0, 0)⟩ (List.mem_of_getElem? (i := 1) (by kernel_rfl)))) (Nat.le_refl _)
  rw [within1] at hwi
  refine callB hA [] on (hwi) (by kernel_rfl) fun w2 hb2 hA => ?_
  refine runS hA 2 [.t 0] xn on (by kernel_rfl) fun w3 hA => ?_
  by_cases ht1 : 0 ≤ (qn : Int) ∧ (qn : Int) ≤ 190
  case pos =>
    refine runS hA 3 [.g false, .g false, .k 0, .g false] xn (oc (show Value.bool (!(decide (0 ≤ (qn : Int) ∧ (qn : Int) ≤ 190))) = .bool false by rw [show decide (0 ≤ (qn : Int) ∧ (qn : Int) ≤ 190) = true from decide_eq_true ht1] <;> rfl) (oc (rfl : Value.bool false = .bool false) (oc (rfl : Value.bool false = .bool false) on))) (by kernel_rfl) fun w4 hA => ?_
    have hwi := within_c w4 w4.heap.size 1 10 (some ⟨w2.heap.size, 0, none⟩) 1 1 [qd] (ints1 (hA.at_.ok ⟨w2.heap.size, .cells #[.int .i64 qd] 2 (0, 0)⟩ (List.mem_of_getElem? (i := 2) (by kernel_rfl)))) (Nat.le_refl _)
    rw [within1] at hwi
    refine callB hA [] on (hwi) (by kernel_rfl) fun w5 hb5 hA => ?_
    refine runS hA 6 [.g false] xn (oc (rfl : Value.bool false = .bool false) on) (by kernel_rfl) fun w6 hA => ?_
    exact ret (v := .bool (!(decide (1 ≤ (qd : Int) ∧ (qd : Int) ≤ 10)))) hA [] (by kernel_rfl) ⟨by simp [beyondF, ht1], hA.below⟩
  case neg =>
    refine runS hA 10 (List.replicate 5 (.g true)) xn (oc (show Value.bool (!(decide (0 ≤ (qn : Int) ∧ (qn : Int) ≤ 190))) = .bool true by rw [show decide (0 ≤ (qn : Int) ∧ (qn : Int) ≤ 190) = false from decide_eq_false ht1] <;> rfl) (oc (rfl : Value.bool true = .bool true) (oc (rfl : Value.bool true = .bool true) (oc (rfl : Value.bool true = .bool true) (oc (rfl : Value.bool true = .bool true) on))))) (by kernel_rfl) fun w4 hA => ?_
    exact ret (v := .bool true) hA [] (by kernel_rfl) ⟨by simp [beyondF, ht1], hA.below⟩
def bndF (n d : Int) : Rt := ratF d (n + d)
theorem bnd_ok {n d : Int} (hn : 0 ≤ n ∧ n ≤ 190) (hd : 1 ≤ d ∧ d ≤ 10) : 0 ≤ (bndF n d).1 ∧ (bndF n d).1 ≤ d ∧ 0 < (bndF n d).2 ∧ (bndF n d).2 ≤ n + d := by
  have h1 := rat_pos (n := d) (d := n + d) (by omega)
  have h2 := rat_nonneg (n := d) (d := n + d) (by omega) (by omega)
  exact ⟨h2.1, h2.2, h1.1, h1.2⟩
/-- Whether a quote is fair for a chance. -/
def fairF (n d : Int) (lay : Bool) (x y : Int) : Bool := if lay then !decide (x * (bndF n d).2 < (bndF n d).1 * y) else !decide ((bndF n d).1 * y < x * (bndF n d).2)
set_option maxRecDepth 20000 in
theorem bound_any (w : World) (qr qn qd : Int) (ql : Bool) (hn : 0 ≤ qn ∧ qn ≤ 190) (hd : 1 ≤ qd ∧ qd ≤ 10) :
    Calls Try.prog 115 #[.agg #[.int .i64 qr, .int .i64 qn, .int .i64 qd, .bool ql]] w fun e w' => e = .returned (.agg #[.int .i64 ((bndF qn qd).1), .int .i64 ((bndF qn qd).2)]) ∧ Below w.heap.size w w' := by
  refine enter 11 Try.func115 (by kernel_rfl) fun hA => ?_
  refine runS hA 15 [.k 0, .k 0, .k 0, .v (.int .i64 (qn + qd))] xn (oc (show Value.int .i64 (IntKind.i64.wrap (qn + qd)) = .int .i64 (qn + qd) from wrp (by omega)) on) (by kernel_rfl) fun w1 hA => ?_
  refine callB hA [] on (ratio_any w1 qd (qn + qd) (by omega) (by omega)) (by kernel_rfl) fun w2 hb2 hA => ?_
  refine runS hA 4 [.k 1, .k 1] xn on (by kernel_rfl) fun w3 hA => ?_
  exact ret (v := .agg #[.int .i64 ((ratF qd (qn + qd)).1), .int .i64 ((ratF qd (qn + qd)).2)]) hA [.k 1, .k 1] (by kernel_rfl) ⟨by rfl, hA.below⟩
set_option maxRecDepth 20000 in
theorem isFair_any (w : World) (qr qn qd : Int) (ql : Bool) (x y : Int) (hn : 0 ≤ qn ∧ qn ≤ 190) (hd : 1 ≤ qd ∧ qd ≤ 10) (hx : -2000000000000000 ≤ x ∧ x ≤ 2000000000000000) (hy : -2000000000000000 ≤ y ∧ y ≤ 2000000000000000) :
    Calls Try.prog 97 #[.agg #[.int .i64 qr, .int .i64 qn, .int .i64 qd, .bool ql], .agg #[.int .i64 x, .int .i64 y]] w fun e w' => e = .returned (.bool (fairF qn qd ql x y)) ∧ Below w.heap.size w w' := by
  have hb := bnd_ok hn hd
  have p1 : -400000000000000000 ≤ x * (bndF qn qd).2 ∧ x * (bndF qn qd).2 ≤ 400000000000000000 := by
    have h := Int.natAbs_mul x (bndF qn qd).2
    have h2 : x.natAbs * (bndF qn qd).2.natAbs ≤ 2000000000000000 * 200 := Nat.mul_le_mul (by omega) (by omega)
    omega
  have p2 : -20000000000000000 ≤ (bndF qn qd).1 * y ∧ (bndF qn qd).1 * y ≤ 20000000000000000 := by
    have h := Int.natAbs_mul (bndF qn qd).1 y
    have h2 : (bndF qn qd).1.natAbs * y.natAbs ≤ 10 * 2000000000000000 := Nat.mul_le_mul (by omega) (by omega)
    omega
  refine enter 17 Try.func97 (by kernel_rfl) fun hA => ?_
  refine runS hA 14 [.k 0, .t 0] xn on (by kernel_rfl) fun w1 hA => ?_
  have hq9 := Bool.eq_false_or_eq_true (ql)
  rcases hq9 with ht1 | ht1
  ·
    refine runS hA 2 [.b true] xn (oc (show Value.bool ql = .bool true by rw [ht1] <;> rfl) on) (by kernel_rfl) fun w2 hA => ?_
    refine draw hA [true, true] [0, 1, 2, 3, 4, 5] (by kernel_rfl) (by kernel_rfl) fun hA => ?_
    refine runS hA 2 ([.t 0, .k 1, .k 1, .t 1] ++ List.replicate 4 (.k 0)) xn on (by kernel_rfl) fun w3 hA => ?_
    have hA0D2 := hA
    refine latK hA0D2 [2, 3, 4, 5] (γ := Unit) (fun _ => [(2, .pointer (some ⟨w.heap.size, 0, none⟩)), (3, .pointer (some ⟨w.heap.size + 1, 0, none⟩)), (4, .bool (!(decide (x * ((bndF qn qd).2) < ((bndF qn qd).1) * y))))]) (fun _ => [⟨w.heap.size, .cells #[.int .i64 qr, .int .i64 qn, .int .i64 qd, .bool ql] 74 (0, 0)⟩, ⟨w.heap.size + 1, .cells #[.int .i64 x, .int .i64 y] 23 (0, 0)⟩]) (fun _ => []) (fun _ _ => True) (fun hD22_3 => ?_) ?_
    ·
      refine latS hA0D2 [2] (γ := Unit) (fun _ => [(2, .pointer (some ⟨w.heap.size, 0, none⟩)), (3, .pointer (some ⟨w.heap.size + 1, 0, none⟩)), (4, .bool false), (7, .agg #[.int .i64 x, .int .i64 y]), (8, .agg #[.int .i64 qr, .int .i64 qn, .int .i64 qd, .bool ql]), (9, .agg #[.int .i64 ((bndF qn qd).1), .int .i64 ((bndF qn qd).2)])]) (fun _ => [⟨w.heap.size, .cells #[.int .i64 qr, .int .i64 qn, .int .i64 qd, .bool ql] 74 (0, 0)⟩, ⟨w.heap.size + 1, .cells #[.int .i64 x, .int .i64 y] 23 (0, 0)⟩]) (fun _ => []) (fun _ _ => True) ?_ (fun hD22 => ?_)
      · rintro _ wl4 _ hA
        refine callB hA [] on (less_any wl4 x y ((bndF qn qd).1) ((bndF qn qd).2) (by first | omega | exact pc1 (by omega) (by omega) | exact pd1 (by omega) (by omega) | exact pd2 (by omega) (by omega)) (by first | omega | exact pc1 (by omega) (by omega) | exact pd1 (by omega) (by omega) | exact pd2 (by omega) (by omega))) (by kernel_rfl) fun w105 hb105 hA => ?_
        refine runS hA 2 [.t 4, .t 5] xn on (by kernel_rfl) fun w106 hA => ?_
        exact joinE hD22_3 () trivial [0, 1] hA rfl (by kernel_rfl) (by decide)
      replace hA := hA0D2
      refine callB hA [] on (bound_any w3 qr qn qd ql (by omega) (by omega)) (by kernel_rfl) fun w5 hb5 hA => ?_
      exact joinE hD22 () trivial [0, 1] hA rfl (by kernel_rfl) (by decide)
    rintro _ w54 _ hA
    refine runS hA 4 [.b true] xn on (by kernel_rfl) fun w55 hA => ?_
    exact ret (v := .bool (!(decide (x * ((bndF qn qd).2) < ((bndF qn qd).1) * y)))) hA [] (by kernel_rfl) ⟨by simp [fairF, ht1], hA.below⟩
  ·
    refine runS hA 4 [.b false] xn (oc (show Value.bool ql = .bool false by rw [ht1] <;> rfl) on) (by kernel_rfl) fun w2 hA => ?_
    refine draw hA [true, true] [0, 1, 2, 3, 4, 5] (by kernel_rfl) (by kernel_rfl) fun hA => ?_
    refine runS hA 2 ([.t 0] ++ List.replicate 4 (.k 0) ++ [.t 2, .k 1, .k 1]) xn on (by kernel_rfl) fun w3 hA => ?_
    have hA0D3 := hA
    refine latK hA0D3 [1, 3, 4, 5] (γ := Unit) (fun _ => [(4, .bool (!(decide (((bndF qn qd).1) * y < x * ((bndF qn qd).2)))))]) (fun _ => [⟨w.heap.size, .cells #[.int .i64 qr, .int .i64 qn, .int .i64 qd, .bool ql] 74 (0, 0)⟩, ⟨w.heap.size + 1, .cells #[.int .i64 x, .int .i64 y] 23 (0, 0)⟩]) (fun _ => []) (fun _ _ => True) (fun hD31_3 => ?_) ?_
    ·
      refine latS hA0D3 [1] (γ := Unit) (fun _ => [(2, .pointer (some ⟨w.heap.size, 0, none⟩)), (3, .pointer (some ⟨w.heap.size + 1, 0, none⟩)), (4, .bool false), (12, .agg #[.int .i64 qr, .int .i64 qn, .int .i64 qd, .bool ql]), (13, .agg #[.int .i64 ((bndF qn qd).1), .int .i64 ((bndF qn qd).2)]), (14, .agg #[.int .i64 x, .int .i64 y])]) (fun _ => [⟨w.heap.size, .cells #[.int .i64 qr, .int .i64 qn, .int .i64 qd, .bool ql] 74 (0, 0)⟩, ⟨w.heap.size + 1, .cells #[.int .i64 x, .int .i64 y] 23 (0, 0)⟩]) (fun _ => []) (fun _ _ => True) ?_ (fun hD31 => ?_)
      · rintro _ wl4 _ hA
        refine callB hA [] on (less_any wl4 ((bndF qn qd).1) ((bndF qn qd).2) x y (by first | omega | exact pc1 (by omega) (by omega) | exact pd1 (by omega) (by omega) | exact pd2 (by omega) (by omega)) (by first | omega | exact pc1 (by omega) (by omega) | exact pd1 (by omega) (by omega) | exact pd2 (by omega) (by omega))) (by kernel_rfl) fun w105 hb105 hA => ?_
        refine runS hA 2 [.t 4, .t 5] xn on (by kernel_rfl) fun w106 hA => ?_
        exact joinE hD31_3 () trivial [0, 1] hA rfl (by kernel_rfl) (by decide)
      replace hA := hA0D3
      refine callB hA [] on (bound_any w3 qr qn qd ql (by omega) (by omega)) (by kernel_rfl) fun w5 hb5 hA => ?_
      exact joinE hD31 () trivial [0, 1] hA rfl (by kernel_rfl) (by decide)
    rintro _ w54 _ hA
    refine runS hA 3 [.b true] xn on (by kernel_rfl) fun w55 hA => ?_
    exact ret (v := .bool (!(decide (((bndF qn qd).1) * y < x * ((bndF qn qd).2))))) hA [] (by kernel_rfl) ⟨by simp [fairF, ht1], hA.below⟩
def proofF (r1 r2 s a b c d : Int) : Bool :=
  if ¬ ((1 ≤ b ∧ b ≤ s) ∧ 1 ≤ d ∧ d ≤ s) then false
  else if ¬ ((0 ≤ a ∧ a ≤ 1001 * b) ∧ 0 ≤ c ∧ c ≤ 1001 * d) then false
  else !decide (r1 * b < a * r2) && decide (r1 * d < c * r2) && decide (c * b = a * d + 1) && decide (b + d > s)
set_option maxRecDepth 20000 in
theorem areProof_any (w : World) (r1 r2 s a b c d : Int) (hr : (1 ≤ r2 ∧ r2 ≤ 1000000) ∧ 0 ≤ r1 ∧ r1 ≤ 1000 * r2) (hs : 1 ≤ s ∧ s ≤ 100) :
    Calls Try.prog 70 #[.agg #[.int .i64 r1, .int .i64 r2], .int .i64 s, .agg #[.int .i64 a, .int .i64 b], .agg #[.int .i64 c, .int .i64 d]] w fun e w' => e = .returned (.bool (proofF r1 r2 s a b c d)) ∧ Below w.heap.size w w' := by
  refine enter 67 Try.func70 (by kernel_rfl) fun hA => ?_
  refine runS hA 17 [.k 1, .k 2] xn on (by kernel_rfl) fun w1 hA => ?_
  have hwi := within_c w1 w1.heap.size 1 s (some ⟨w.heap.size + 3, 0, none⟩) 2 2 [b, d] (ints2 (hA.at_.ok ⟨w.heap.size + 3, .cells #[.int .i64 b, .int .i64 d] 2 (0, 0)⟩ (List.mem_of_getElem? (i := 3) (by kernel_rfl)))) (Nat.le_refl _)
  rw [within2] at hwi
  refine callB hA [] on (hwi) (by kernel_rfl) fun w2 hb2 hA => ?_
  refine runS hA 3 [.t 0] xn on (by kernel_rfl) fun w3 hA => ?_
  by_cases ht1 : (1 ≤ b ∧ b ≤ s) ∧ 1 ≤ d ∧ d ≤ s
  case pos =>
    refine runS hA 12 [.b false, .k 1, .v (.int .i64 (1001 * b)), .k 1] xn (oc (show Value.bool (!(decide ((1 ≤ b ∧ b ≤ s) ∧ 1 ≤ d ∧ d ≤ s))) = .bool false by rw [show decide ((1 ≤ b ∧ b ≤ s) ∧ 1 ≤ d ∧ d ≤ s) = true from decide_eq_true ht1] <;> rfl) (oc (show Value.int .i64 (IntKind.i64.wrap (1001 * b)) = .int .i64 (1001 * b) from wrp (by first | omega | exact pb1 (by omega) (by omega) | exact pb2 (by omega) (by omega) (by omega) | exact pb3 (by omega) (by omega) (by omega) (by omega))) on)) (by kernel_rfl) fun w4 hA => ?_
    have hwi := within_c w4 w4.heap.size 0 (1001 * b) (some ⟨w2.heap.size, 0, none⟩) 1 1 [a] (ints1 (hA.at_.ok ⟨w2.heap.size, .cells #[.int .i64 a] 2 (0, 0)⟩ (List.mem_of_getElem? (i := 4) (by kernel_rfl)))) (Nat.le_refl _)
    rw [within1] at hwi
    refine callB hA [] on (hwi) (by kernel_rfl) fun w5 hb5 hA => ?_
    refine runS hA 2 [.t 0] xn on (by kernel_rfl) fun w6 hA => ?_
    by_cases ht2 : 0 ≤ (a : Int) ∧ (a : Int) ≤ (1001 * b)
    case pos =>
      refine runS hA 6 [.g false, .g false, .k 2, .g false, .v (.int .i64 (1001 * d)), .g false, .g false, .k 2, .g false] xn (oc (show Value.bool (!(decide (0 ≤ (a : Int) ∧ (a : Int) ≤ (1001 * b)))) = .bool false by rw [show decide (0 ≤ (a : Int) ∧ (a : Int) ≤ (1001 * b)) = true from decide_eq_true ht2] <;> rfl) (oc (rfl : Value.bool false = .bool false) (oc (rfl : Value.bool false = .bool false) (oc (show Value.int .i64 (IntKind.i64.wrap (1001 * d)) = .int .i64 (1001 * d) from wrp (by first | omega | exact pb1 (by omega) (by omega) | exact pb2 (by omega) (by omega) (by omega) | exact pb3 (by omega) (by omega) (by omega) (by omega))) (oc (rfl : Value.bool false = .bool false) (oc (rfl : Value.bool false = .bool false) (oc (rfl : Value.bool false = .bool false) on))))))) (by kernel_rfl) fun w7 hA => ?_
      have hwi := within_c w7 w7.heap.size 0 (1001 * d) (some ⟨w5.heap.size, 0, none⟩) 1 1 [c] (ints1 (hA.at_.ok ⟨w5.heap.size, .cells #[.int .i64 c] 2 (0, 0)⟩ (List.mem_of_getElem? (i := 5) (by kernel_rfl)))) (Nat.le_refl _)
      rw [within1] at hwi
      refine callB hA [] on (hwi) (by kernel_rfl) fun w8 hb8 hA => ?_
      refine runS hA 4 [.g false, .t 0] xn (oc (rfl : Value.bool false = .bool false) on) (by kernel_rfl) fun w9 hA => ?_
      by_cases ht3 : 0 ≤ (c : Int) ∧ (c : Int) ≤ (1001 * d)
      case pos =>
        refine runS hA 7 [.b false, .k 0, .k 0, .k 1, .k 1] xn (oc (show Value.bool (!(decide (0 ≤ (c : Int) ∧ (c : Int) ≤ (1001 * d)))) = .bool false by rw [show decide (0 ≤ (c : Int) ∧ (c : Int) ≤ (1001 * d)) = true from decide_eq_true ht3] <;> rfl) on) (by kernel_rfl) fun w10 hA => ?_
        refine callB hA [] on (less_any w10 r1 r2 a b (by first | omega | exact pc1 (by omega) (by omega) | exact pd1 (by omega) (by omega) | exact pd2 (by omega) (by omega)) (by first | omega | exact pc1 (by omega) (by omega) | exact pd1 (by omega) (by omega) | exact pd2 (by omega) (by omega))) (by kernel_rfl) fun w11 hb11 hA => ?_
        refine runS hA 2 [.t 0] xn on (by kernel_rfl) fun w12 hA => ?_
        by_cases ht4 : r1 * b < a * r2
        case pos =>
          refine runS hA 31 (List.replicate 22 (.g false)) xn (oc (show Value.bool (!(decide (r1 * b < a * r2))) = .bool false by rw [show decide (r1 * b < a * r2) = true from decide_eq_true ht4] <;> rfl) (oc (rfl : Value.bool false = .bool false) (oc (rfl : Value.bool false = .bool false) (oc (rfl : Value.bool false = .bool false) (oc (rfl : Value.bool false = .bool false) (oc (rfl : Value.bool false = .bool false) (oc (rfl : Value.bool false = .bool false) (oc (rfl : Value.bool false = .bool false) (oc (rfl : Value.bool false = .bool false) (oc (rfl : Value.bool false = .bool false) (oc (rfl : Value.bool false = .bool false) (oc (rfl : Value.bool false = .bool false) (oc (rfl : Value.bool false = .bool false) (oc (rfl : Value.bool false = .bool false) (oc (rfl : Value.bool false = .bool false) (oc (rfl : Value.bool false = .bool false) (oc (rfl : Value.bool false = .bool false) (oc (rfl : Value.bool false = .bool false) (oc (rfl : Value.bool false = .bool false) (oc (rfl : Value.bool false = .bool false) (oc (rfl : Value.bool false = .bool false) (oc (rfl : Value.bool false = .bool false) on)))))))))))))))))))))) (by kernel_rfl) fun w13 hA => ?_
          exact ret (v := .bool false) hA [] (by kernel_rfl) ⟨by simp [proofF, ht1, ht2, ht3, ht4], hA.below⟩
        case neg =>
          refine runS hA 2 [.g true, .k 0, .k 0, .g true, .k 2, .k 2] xn (oc (show Value.bool (!(decide (r1 * b < a * r2))) = .bool true by rw [show decide (r1 * b < a * r2) = false from decide_eq_false ht4] <;> rfl) (oc (rfl : Value.bool true = .bool true) on)) (by kernel_rfl) fun w13 hA => ?_
          refine callB hA [] on (less_any w13 r1 r2 c d (by first | omega | exact pc1 (by omega) (by omega) | exact pd1 (by omega) (by omega) | exact pd2 (by omega) (by omega)) (by first | omega | exact pc1 (by omega) (by omega) | exact pd1 (by omega) (by omega) | exact pd2 (by omega) (by omega))) (by kernel_rfl) fun w14 hb14 hA => ?_
          refine runS hA 2 [.t 0] xn on (by kernel_rfl) fun w15 hA => ?_
          by_cases ht5 : r1 * d < c * r2
          case pos =>
            refine runS hA 14 [.g true, .g true, .k 2, .g true, .g true, .k 1, .g true, .v (.int .i64 (c * b)), .g true, .g true, .k 1, .g true, .g true, .k 2, .g true, .v (.int .i64 (a * d)), .g true, .v (.int .i64 ((a * d) + 1)), .g true, .t 0] xn (oc (dec_t ht5) (oc (rfl : Value.bool true = .bool true) (oc (rfl : Value.bool true = .bool true) (oc (rfl : Value.bool true = .bool true) (oc (rfl : Value.bool true = .bool true) (oc (show Value.int .i64 (IntKind.i64.wrap (c * b)) = .int .i64 (c * b) from wrp (by first | omega | exact pb1 (by omega) (by omega) | exact pb2 (by omega) (by omega) (by omega) | exact pb3 (by omega) (by omega) (by omega) (by omega))) (oc (rfl : Value.bool true = .bool true) (oc (rfl : Value.bool true = .bool true) (oc (rfl : Value.bool true = .bool true) (oc (rfl : Value.bool true = .bool true) (oc (rfl : Value.bool true = .bool true) (oc (show Value.int .i64 (IntKind.i64.wrap (a * d)) = .int .i64 (a * d) from wrp (by first | omega | exact pb1 (by omega) (by omega) | exact pb2 (by omega) (by omega) (by omega) | exact pb3 (by omega) (by omega) (by omega) (by omega))) (oc (rfl : Value.bool true = .bool true) (oc (show Value.int .i64 (IntKind.i64.wrap ((a * d) + 1)) = .int .i64 ((a * d) + 1) from wrp (by first | omega | exact pb1 (by omega) (by omega) | exact pb2 (by omega) (by omega) (by omega) | exact pb3 (by omega) (by omega) (by omega) (by omega))) (oc (rfl : Value.bool true = .bool true) on))))))))))))))) (by kernel_rfl) fun w16 hA => ?_
            by_cases ht6 : (c * b) = (((a * d) + 1) : Int)
            case pos =>
              refine runS hA 12 [.g true, .g true, .k 1, .g true, .g true, .k 2, .g true, .v (.int .i64 (b + d)), .g true, .g true] xn (oc (eq_t ht6) (oc (rfl : Value.bool true = .bool true) (oc (rfl : Value.bool true = .bool true) (oc (rfl : Value.bool true = .bool true) (oc (rfl : Value.bool true = .bool true) (oc (show Value.int .i64 (IntKind.i64.wrap (b + d)) = .int .i64 (b + d) from wrp (by first | omega | exact pb1 (by omega) (by omega) | exact pb2 (by omega) (by omega) (by omega) | exact pb3 (by omega) (by omega) (by omega) (by omega))) (oc (rfl : Value.bool true = .bool true) (oc (rfl : Value.bool true = .bool true) on)))))))) (by kernel_rfl) fun w17 hA => ?_
              exact ret (v := .bool (decide ((b + d : Int) > (s : Int)))) hA [] (by kernel_rfl) ⟨by simp [proofF, ht1, ht2, ht3, ht4, ht5, ht6], hA.below⟩
            case neg =>
              refine runS hA 12 (List.replicate 7 (.g false)) xn (oc (eq_f ht6) (oc (rfl : Value.bool false = .bool false) (oc (rfl : Value.bool false = .bool false) (oc (rfl : Value.bool false = .bool false) (oc (rfl : Value.bool false = .bool false) (oc (rfl : Value.bool false = .bool false) (oc (rfl : Value.bool false = .bool false) on))))))) (by kernel_rfl) fun w17 hA => ?_
              exact ret (v := .bool false) hA [] (by kernel_rfl) ⟨by simp [proofF, ht1, ht2, ht3, ht4, ht5, ht6], hA.below⟩
          case neg =>
            refine runS hA 26 (List.replicate 19 (.g false)) xn (oc (dec_f ht5) (oc (rfl : Value.bool false = .bool false) (oc (rfl : Value.bool false = .bool false) (oc (rfl : Value.bool false = .bool false) (oc (rfl : Value.bool false = .bool false) (oc (rfl : Value.bool false = .bool false) (oc (rfl : Value.bool false = .bool false) (oc (rfl : Value.bool false = .bool false) (oc (rfl : Value.bool false = .bool false) (oc (rfl : Value.bool false = .bool false) (oc (rfl : Value.bool false = .bool false) (oc (rfl : Value.bool false = .bool false) (oc (rfl : Value.bool false = .bool false) (oc (rfl : Value.bool false = .bool false) (oc (rfl : Value.bool false = .bool false) (oc (rfl : Value.bool false = .bool false) (oc (rfl : Value.bool false = .bool false) (oc (rfl : Value.bool false = .bool false) (oc (rfl : Value.bool false = .bool false) on))))))))))))))))))) (by kernel_rfl) fun w16 hA => ?_
            exact ret (v := .bool false) hA [] (by kernel_rfl) ⟨by simp [proofF, ht1, ht2, ht3, ht4, ht5], hA.below⟩
      case neg =>
        refine runS hA 8 [.b true] xn (oc (show Value.bool (!(decide (0 ≤ (c : Int) ∧ (c : Int) ≤ (1001 * d)))) = .bool true by rw [show decide (0 ≤ (c : Int) ∧ (c : Int) ≤ (1001 * d)) = false from decide_eq_false ht3] <;> rfl) on) (by kernel_rfl) fun w10 hA => ?_
        exact ret (v := .bool false) hA [] (by kernel_rfl) ⟨by simp [proofF, ht1, ht2, ht3], hA.below⟩
    case neg =>
      refine runS hA 19 (List.replicate 8 (.g true)) xn (oc (show Value.bool (!(decide (0 ≤ (a : Int) ∧ (a : Int) ≤ (1001 * b)))) = .bool true by rw [show decide (0 ≤ (a : Int) ∧ (a : Int) ≤ (1001 * b)) = false from decide_eq_false ht2] <;> rfl) (oc (rfl : Value.bool true = .bool true) (oc (rfl : Value.bool true = .bool true) (oc (rfl : Value.bool true = .bool true) (oc (rfl : Value.bool true = .bool true) (oc (rfl : Value.bool true = .bool true) (oc (rfl : Value.bool true = .bool true) (oc (rfl : Value.bool true = .bool true) on)))))))) (by kernel_rfl) fun w7 hA => ?_
      exact ret (v := .bool false) hA [] (by kernel_rfl) ⟨by simp [proofF, ht1, ht2], hA.below⟩
  case neg =>
    refine runS hA 8 [.b true] xn (oc (show Value.bool (!(decide ((1 ≤ b ∧ b ≤ s) ∧ 1 ≤ d ∧ d ≤ s))) = .bool true by rw [show decide ((1 ≤ b ∧ b ≤ s) ∧ 1 ≤ d ∧ d ≤ s) = false from decide_eq_false ht1] <;> rfl) on) (by kernel_rfl) fun w4 hA => ?_
    exact ret (v := .bool false) hA [] (by kernel_rfl) ⟨by simp [proofF, ht1], hA.below⟩
def chkNearF (r1 r2 s a b c d : Int) : Int := if placeF r1 r2 s ≠ 0 then placeF r1 r2 s else if proofF r1 r2 s a b c d = false then 14 else 0
set_option maxRecDepth 20000 in
theorem CheckNear_any (w : World) (r1 r2 s a b c d : Int) (hs : -9223372036854775808 ≤ s ∧ s ≤ 9223372036854775807) :
    Calls Try.prog 20 #[.agg #[.int .i64 r1, .int .i64 r2], .int .i64 s, .agg #[.int .i64 a, .int .i64 b], .agg #[.int .i64 c, .int .i64 d]] w fun e w' => e = .returned (.int .i64 (chkNearF r1 r2 s a b c d)) ∧ Below w.heap.size w w' := by
  refine enter 22 Try.func20 (by kernel_rfl) fun hA => ?_
  refine runS hA 13 [.k 0, .k 0] xn on (by kernel_rfl) fun w1 hA => ?_
  refine callB hA [] on (checkPlace_any w1 r1 r2 s (by omega)) (by kernel_rfl) fun w2 hb2 hA => ?_
  refine runS hA 9 [.t 0] xn on (by kernel_rfl) fun w3 hA => ?_
  by_cases ht1 : (placeF r1 r2 s) = (0 : Int)
  case pos =>
    refine runS hA 10 [.b false, .k 0, .k 0, .k 1, .k 1, .k 2, .k 2] xn (oc (ne_f ht1) on) (by kernel_rfl) fun w4 hA => ?_
    refine callB hA [] on (areProof_any w4 r1 r2 s a b c d ((place_ok ht1).1) ((place_ok ht1).2)) (by kernel_rfl) fun w5 hb5 hA => ?_
    refine runS hA 3 [.t 0] xn on (by kernel_rfl) fun w6 hA => ?_
    have hq9 := Bool.eq_false_or_eq_true ((proofF r1 r2 s a b c d))
    rcases hq9 with ht2 | ht2
    ·
      refine runS hA 9 [.b false] xn (oc (show Value.bool (!(proofF r1 r2 s a b c d)) = .bool false by rw [ht2] <;> rfl) on) (by kernel_rfl) fun w7 hA => ?_
      exact ret (v := .int .i64 0) hA [] (by kernel_rfl) ⟨by simp [chkNearF, ht1, ht2], hA.below⟩
    ·
      refine runS hA 8 [.b true] xn (oc (show Value.bool (!(proofF r1 r2 s a b c d)) = .bool true by rw [ht2] <;> rfl) on) (by kernel_rfl) fun w7 hA => ?_
      exact ret (v := .int .i64 14) hA [] (by kernel_rfl) ⟨by simp [chkNearF, ht1, ht2], hA.below⟩
  case neg =>
    refine runS hA 9 [.b true] xn (oc (ne_t ht1) on) (by kernel_rfl) fun w4 hA => ?_
    exact ret (v := .int .i64 (placeF r1 r2 s)) hA [] (by kernel_rfl) ⟨by simp [chkNearF, ht1], hA.below⟩
end Go.Proofs.Ytfidkgpimlpdbaa

/- odds: gaps. -/
namespace Go.Proofs.Ytfidkgpimlpdbaa
open Go.RowKit Go.Shelf

def gapS (r1 r2 : Int) : Nat → Int × Int × Int × Int
  | 0 => (r1 / r2, 1, r1 / r2 + 1, 1)
  | k + 1 => match gapS r1 r2 k with
    | (a, b, c, d) => if r1 * (b + d) < (a + c) * r2 then (a, b, a + c, b + d) else (a + c, b + d, c, d)
structure GapI (r1 r2 : Int) (k : Nat) (a b c d : Int) : Prop where
  lo : a * r2 ≤ r1 * b
  hi : r1 * d < c * r2
  det : c * b = a * d + 1
  b1 : 1 ≤ b
  d1 : 1 ≤ d
  sum : (k : Int) + 2 ≤ b + d
  a0 : 0 ≤ a
  a1 : a ≤ 1000 * b
  c0 : 0 ≤ c
  c1 : c ≤ 1001 * d
theorem gap_inv {r1 r2 : Int} (h2 : 1 ≤ r2) (h1 : 0 ≤ r1) (h3 : r1 ≤ 1000 * r2) : ∀ k a b c d, gapS r1 r2 k = (a, b, c, d) → GapI r1 r2 k a b c d
  | 0, a, b, c, d, h => by
    cases h
    have e := Int.mul_ediv_add_emod r1 r2
    have m0 := Int.emod_nonneg r1 (show r2 ≠ 0 by omega)
    have m1 := Int.emod_lt_of_pos r1 (show 0 < r2 by omega)
    have q0 := Int.ediv_nonneg h1 (show 0 ≤ r2 by omega)
    have q1 : r1 / r2 ≤ 1000 := by
      have := Int.ediv_le_ediv (show 0 < r2 by omega) h3
      rwa [Int.mul_ediv_cancel _ (show r2 ≠ 0 by omega)] at this
    rw [Int.mul_comm r2] at e
    refine ⟨by omega, ?_, by omega, by omega, by omega, by omega, q0, by omega, by omega, by omega⟩
    rw [Int.add_mul]
    omega
  | k + 1, a, b, c, d, h => by
    unfold gapS at h
    generalize hg : gapS r1 r2 k = t at h
    obtain ⟨a', b', c', d'⟩ := t
    obtain ⟨i1, i2, i3, i4, i5, i6, i7, i8, i9, i10⟩ := gap_inv h2 h1 h3 k a' b' c' d' hg
    simp only at h
    split at h
    · rename_i hlt
      cases h
      rw [Int.mul_add] at hlt
      refine ⟨i1, by rw [Int.mul_add]; exact hlt, by rw [Int.add_mul, Int.mul_add]; omega, i4, by omega, by omega, i7, i8, by omega, by omega⟩
    · rename_i hlt
      cases h
      have hlo : (a' + c) * r2 ≤ r1 * (b' + d) := Int.not_lt.1 hlt
      have ha1 : a' + c ≤ 1000 * (b' + d) := by
        have h9 := Int.mul_le_mul_of_nonneg_right h3 (show 0 ≤ b' + d by omega)
        refine Int.le_of_mul_le_mul_right (a := r2) ?_ (by omega)
        rw [Int.mul_right_comm]
        exact Int.le_trans hlo h9
      rw [Int.mul_add, Int.add_mul] at hlt
      refine ⟨by rw [Int.add_mul, Int.mul_add]; omega, i2, by rw [Int.mul_add, Int.add_mul]; omega, by omega, i5, by omega, by omega, ha1, i9, i10⟩
def gapSum (r1 r2 : Int) (k : Nat) : Int := (gapS r1 r2 k).2.1 + (gapS r1 r2 k).2.2.2
def encG (r1 r2 : Int) (k : Nat) : Array Value := #[.agg #[.int .i64 (gapS r1 r2 k).1, .int .i64 (gapS r1 r2 k).2.1], .agg #[.int .i64 (gapS r1 r2 k).2.2.1, .int .i64 (gapS r1 r2 k).2.2.2]]
theorem Keep.cellC {n₀ : Nat} {C X : Nat → Prop} {w w' : World} {p : Addr} {v : Value} (h : Keep n₀ C X w w') (hb : p.block < n₀ ∨ C p.block) (hv : w.cell? p = some v) : w'.cell? p = some v := by
  rcases hb with hb | hb
  · exact (h.below.cell hb).trans hv
  · have hh : w'.heap[p.block]? = w.heap[p.block]? := by
      cases ho : w.heap[p.block]? with
      | none => unfold World.cell? at hv; rw [ho] at hv; cases hv
      | some o => exact h.same _ o ho (.inr hb)
    unfold World.cell? at hv ⊢
    rw [hh]
    exact hv
set_option maxRecDepth 20000 in
theorem gaps1_it (w : World) (n₀ bx : Nat) (r1 r2 : Int) (C : Nat → Prop) (hr : (1 ≤ r2 ∧ r2 ≤ 1000000000) ∧ 0 ≤ r1 ∧ r1 ≤ 9000000000 ∧ r1 ≤ 1000 * r2) (hn₀ : n₀ ≤ w.heap.size) (hbl : bx < w.heap.size) (hCb : bx < n₀ ∨ C bx)
    (hx1 : w.cell? ⟨bx, 0, none⟩ = some (.int .i64 r1)) (hx2 : w.cell? ⟨bx, 1, none⟩ = some (.int .i64 r2)) :
    IterB Try.prog 121 #[.pointer (some ⟨bx, 0, none⟩)] (encG r1 r2) n₀ C (fun pre k => k = pre.length) (fun pre => ∀ j, j < pre.length → gapSum r1 r2 j ≤ 100) w := by
  intro l U Ux W hb hU hUx hBd hY h0
  have hbW : Below (cutW w n₀).heap.size (cutW w n₀) W := cut_below hn₀ (hb.mono hn₀)
  have hzb := hb.size
  have hdv : 0 ≤ r1 / r2 ∧ r1 / r2 ≤ 1000 := by
    have q0 := Int.ediv_nonneg (show 0 ≤ r1 by omega) (show 0 ≤ r2 by omega)
    have := Int.ediv_le_ediv (show 0 < r2 by omega) hr.2.2.2
    rw [Int.mul_ediv_cancel _ (show r2 ≠ 0 by omega)] at this
    exact ⟨q0, this⟩
  have hr1 : W.cell? ⟨bx, 0, none⟩ = some (.int .i64 r1) := (hb.cell hbl).trans hx1
  have hr2 : W.cell? ⟨bx, 1, none⟩ = some (.int .i64 r2) := (hb.cell (p := ⟨bx, 1, none⟩) hbl).trans hx2
  refine enterK 36 Try.func121 (by kernel_rfl) (At.plain hbW) fun hA => ?_
  replace hA := hA.allK [] (by kernel_rfl)
  have hA0 := hA.atK [] (by kernel_rfl)
  refine runS hA 3 [] xn on (by kernel_rfl) fun w1 hA => ?_
  have hszw1_1 : w1.heap.size = W.heap.size := hA.at_.size.trans (by kernel_rfl)
  refine opv (v := .int .i64 r1) hA [] on (s := ldSem 2 (.pointer (some ⟨bx, 0, none⟩))) (by kernel_rfl) (ld_run [.x (.int .i64 r1)] (xc (a := ⟨bx, 0, none⟩) (cell_lt (others_cell hA0 hA.at_ hr1 (by simp))) xn) (by kernel_rfl)) fun hA => ?_
  refine runS hA 1 [] xn on (by kernel_rfl) fun w2 hA => ?_
  have hszw2_2 : w2.heap.size = w1.heap.size := hA.at_.size.trans (by kernel_rfl)
  refine opv (v := .int .i64 r2) hA [] on (s := ldSem 2 (.pointer (some ⟨bx, 1, none⟩))) (by kernel_rfl) (ld_run [.x (.int .i64 r2)] (xc (a := ⟨bx, 1, none⟩) (cell_lt (others_cell hA0 hA.at_ hr2 (by simp))) xn) (by kernel_rfl)) fun hA => ?_
  refine runS hA 17 [.v (.int .i64 (r1 / r2)), .z, .k 0, .k 0, .k 0, .v (.int .i64 ((r1 / r2) + 1)), .k 1, .k 1] xn (oc (show r2 ≠ (0 : Int) by first | omega | exact pb1 (by omega) (by omega) | exact pb2 (by omega) (by omega) (by omega) | exact pb3 (by omega) (by omega) (by omega) (by omega)) (oc (show Value.int .i64 (IntKind.i64.wrap (Int.tdiv r1 r2)) = .int .i64 (r1 / r2) from wrq (by first | omega | exact pb1 (by omega) (by omega) | exact pb2 (by omega) (by omega) (by omega) | exact pb3 (by omega) (by omega) (by omega) (by omega))) (oc (show Value.int .i64 (IntKind.i64.wrap ((r1 / r2) + 1)) = .int .i64 ((r1 / r2) + 1) from wrp (by first | omega | exact pb1 (by omega) (by omega) | exact pb2 (by omega) (by omega) (by omega) | exact pb3 (by omega) (by omega) (by omega) (by omega))) on))) (by kernel_rfl) fun w3 hA => ?_
  have hq9 : ∃ q, q = w2.heap.size := ⟨_, rfl⟩
  obtain ⟨la, hla⟩ := hq9
  have hq9 : ∃ q, q = w2.heap.size + 1 := ⟨_, rfl⟩
  obtain ⟨lb, hlb⟩ := hq9
  have hAk := hA.atK [⟨w2.heap.size, .cells #[.int .i64 (r1 / r2), .int .i64 1] 23 (0, 0)⟩, ⟨w2.heap.size + 1, .cells #[.int .i64 ((r1 / r2) + 1), .int .i64 1] 23 (0, 0)⟩] (by kernel_rfl)
  have hzl : w3.heap.size = w2.heap.size + 2 := hA.at_.size.trans (by kernel_rfl)
  have hq9 : ∃ X : Nat → Prop, X = fun q => q = la ∨ q = lb := ⟨_, rfl⟩
  obtain ⟨X0, hX0⟩ := hq9
  have hXa : X0 la := by rw [hX0]; exact .inl rfl
  have hXb : X0 lb := by rw [hX0]; exact .inr rfl
  have hXa9 : X0 (w2.heap.size) := by rw [← hla]; exact hXa
  have hXb9 : X0 (w2.heap.size + 1) := by rw [← hlb]; exact hXb
  have hbxn : bx < W.heap.size := Nat.lt_of_lt_of_le hbl hzb
  have hX9 : ∀ q, X0 q → W.heap.size ≤ q ∧ q < w3.heap.size := fun q hq => by rw [hX0] at hq; rcases hq with rfl | rfl <;> omega
  have hU1 : U [] X0 w3 := hU _ _ _ _ _ h0 (st_others hA0 hA.at_ rfl (by omega) (fun kb hk => nomatch hk)) ⟨fun _ h => h.elim, fun q hq => .inr (hX9 q hq).1⟩
  have hs1 : w3.cell? ⟨bx, 0, none⟩ = some (.int .i64 r1) := others_cell hA0 hA.at_ hr1 (by simp)
  have hs2 : w3.cell? ⟨bx, 1, none⟩ = some (.int .i64 r2) := others_cell hA0 hA.at_ hr2 (by simp)
  replace hA := hA.bare
  have hzW0 : W.heap.size ≤ w3.heap.size := by omega
  refine loop (γ := Nat × List Nat × Int × Int × Int × Int) (fun ⟨k, pre, a, b, c, d⟩ => [(0, .func (.yield l) #[] #[]), (1, .pointer (some ⟨bx, 0, none⟩)), (3, .pointer (some ⟨w2.heap.size, 0, none⟩)), (4, .pointer (some ⟨w2.heap.size + 1, 0, none⟩))]) (fun ⟨k, pre, a, b, c, d⟩ => [⟨w2.heap.size, .cells #[.int .i64 a, .int .i64 b] 23 (0, 0)⟩, ⟨w2.heap.size + 1, .cells #[.int .i64 c, .int .i64 d] 23 (0, 0)⟩]) (fun _ => []) (fun g ⟨k, pre, a, b, c, d⟩ wr => pre.length = k ∧ k ≤ 99 ∧ g = 100 - k ∧ gapS r1 r2 k = (a, b, c, d) ∧ b + d ≤ 200 ∧ U pre X0 wr ∧ wr.cell? ⟨bx, 0, none⟩ = some (.int .i64 r1) ∧ wr.cell? ⟨bx, 1, none⟩ = some (.int .i64 r2) ∧ w3.heap.size ≤ wr.heap.size) 100 ⟨0, [], r1 / r2, 1, r1 / r2 + 1, 1⟩ [true, true] hA (by kernel_rfl) (⟨rfl, by omega, rfl, rfl, by omega, hU1, hs1, hs2, Nat.le_refl _⟩) ?_
  rintro _ ⟨k, pre, a, b, c, d⟩ wr ⟨hpl, hk9, rfl, hg, hsum, hUk, hq1, hq2, hzr⟩ J hJ hA
  have hI := gap_inv (show 1 ≤ r2 by omega) (show 0 ≤ r1 by omega) (show r1 ≤ 1000 * r2 by omega) k a b c d hg
  obtain ⟨i1, i2, i3, i4, i5, i6, i7, i8, i9, i10⟩ := hI
  replace hA := hA.allK [⟨w2.heap.size, .cells #[.int .i64 a, .int .i64 b] 23 (0, 0)⟩, ⟨w2.heap.size + 1, .cells #[.int .i64 c, .int .i64 d] 23 (0, 0)⟩] (by kernel_rfl)
  have hAr := hA.atK [⟨w2.heap.size, .cells #[.int .i64 a, .int .i64 b] 23 (0, 0)⟩, ⟨w2.heap.size + 1, .cells #[.int .i64 c, .int .i64 d] 23 (0, 0)⟩] (by kernel_rfl)
  refine runS hA 6 [.k 0, .k 0, .k 1, .k 1] xn on (by kernel_rfl) fun w4 hA => ?_
  have hszw4_3 : w4.heap.size = wr.heap.size := hA.at_.size.trans (by kernel_rfl)
  have hUY : U pre X0 w4 := hU _ _ _ _ _ hUk (st_others hAr hA.at_ rfl (by omega) (fun kb hk => by simp at hk; rcases hk with rfl | rfl; exact hXa9; exact hXb9)) (Grows.refl _ _)
  have hc1 : w4.cell? ⟨bx, 0, none⟩ = some (.int .i64 r1) := others_cell hAr hA.at_ hq1 (fun hm => by simp at hm; omega)
  have hc2 : w4.cell? ⟨bx, 1, none⟩ = some (.int .i64 r2) := others_cell hAr hA.at_ hq2 (fun hm => by simp at hm; omega)
  have hy9 := hY pre k X0 w4 hUY hpl.symm (by omega) (fun q hq => by have := hX9 q hq; omega)
  rw [show encG r1 r2 k = #[.agg #[.int .i64 a, .int .i64 b], .agg #[.int .i64 c, .int .i64 d]] by simp only [encG, hg]] at hy9
  refine yieldS (kn' := [⟨w2.heap.size, .cells #[.int .i64 a, .int .i64 b] 23 (0, 0)⟩, ⟨w2.heap.size + 1, .cells #[.int .i64 c, .int .i64 d] 23 (0, 0)⟩]) (l := l) (n₀ := n₀) (B := W.heap.size) (X := X0) (C := C) (T := fun w' => U (pre ++ [k]) X0 w') (F := fun w' => Ux (pre ++ [k]) X0 w') hA [] on [true, true] rfl (by kernel_rfl) (cut_size hn₀).symm (hy9) (fun kb hk => .inl (by simp at hk; rcases hk with rfl | rfl; exact hXa9; exact hXb9)) (fun wy hT hkp hA => ?_) (fun wy hT hkp hA => ?_)
  ·
    have hzy := hkp.below.size
    have hAy := hA.atK [⟨w2.heap.size, .cells #[.int .i64 a, .int .i64 b] 23 (0, 0)⟩, ⟨w2.heap.size + 1, .cells #[.int .i64 c, .int .i64 d] 23 (0, 0)⟩] (by kernel_rfl)
    have hbd9 := hBd _ _ _ hT k (by rw [List.length_append]; simp; omega)
    have hsum2 : b + d ≤ 100 := by unfold gapSum at hbd9; rw [hg] at hbd9; exact hbd9
    have hs1 : wy.cell? ⟨bx, 0, none⟩ = some (.int .i64 r1) := hkp.cellC hCb hc1
    have hs2 : wy.cell? ⟨bx, 1, none⟩ = some (.int .i64 r2) := hkp.cellC hCb hc2
    refine runS hA 25 [.k 0, .k 1, .v (.int .i64 (a + c)), .k 0, .k 1, .v (.int .i64 (b + d)), .k 2, .k 2] xn (oc (show Value.int .i64 (IntKind.i64.wrap (a + c)) = .int .i64 (a + c) from wrp (by first | omega | exact pb1 (by omega) (by omega) | exact pb2 (by omega) (by omega) (by omega) | exact pb3 (by omega) (by omega) (by omega) (by omega))) (oc (show Value.int .i64 (IntKind.i64.wrap (b + d)) = .int .i64 (b + d) from wrp (by first | omega | exact pb1 (by omega) (by omega) | exact pb2 (by omega) (by omega) (by omega) | exact pb3 (by omega) (by omega) (by omega) (by omega))) on)) (by kernel_rfl) fun w5 hA => ?_
    have hszw5_4 : w5.heap.size = wy.heap.size + 1 := hA.at_.size.trans (by kernel_rfl)
    refine opv (v := .agg #[.int .i64 r1, .int .i64 r2]) hA [] on (s := ldSem 23 (.pointer (some ⟨bx, 0, none⟩))) (by kernel_rfl) (ld_run [.x (.int .i64 r1), .x (.int .i64 r2)] (xc (a := ⟨bx, 1, none⟩) (cell_lt (others_cell hAy hA.at_ hs2 (fun hm => by simp at hm; omega))) (xc (a := ⟨bx, 0, none⟩) (cell_lt (others_cell hAy hA.at_ hs1 (fun hm => by simp at hm; omega))) xn)) (by kernel_rfl)) fun hA => ?_
    refine runS hA 1 [.k 2, .k 2] xn on (by kernel_rfl) fun w6 hA => ?_
    have hszw6_5 : w6.heap.size = w5.heap.size := hA.at_.size.trans (by kernel_rfl)
    refine callB hA [] on (less_any w6 r1 r2 (a + c) (b + d) (by first | omega | exact pc1 (by omega) (by omega) | exact pd1 (by omega) (by omega) | exact pd2 (by omega) (by omega)) (by first | omega | exact pc1 (by omega) (by omega) | exact pd1 (by omega) (by omega) | exact pd2 (by omega) (by omega))) (by kernel_rfl) fun w7 hb7 hA => ?_
    have hcs9 := hb7.size
    by_cases ht1 : r1 * (b + d) < (a + c) * r2
    case pos =>
      refine runS hA 8 [.b true, .k 2, .k 2, .k 1, .k 1] xn (oc (dec_t ht1) on) (by kernel_rfl) fun w8 hA => ?_
      have hszw8_6 : w8.heap.size = w7.heap.size := hA.at_.size.trans (by kernel_rfl)
      have hUz := hU _ _ _ _ _ hT (st_others hAy hA.at_ rfl (by omega) (fun kb hk => by simp at hk; rcases hk with rfl | rfl; exact hXa9; exact hXb9)) (Grows.refl _ _)
      have hn1 : w8.cell? ⟨bx, 0, none⟩ = some (.int .i64 r1) := others_cell hAy hA.at_ hs1 (fun hm => by simp at hm; omega)
      have hn2 : w8.cell? ⟨bx, 1, none⟩ = some (.int .i64 r2) := others_cell hAy hA.at_ hs2 (fun hm => by simp at hm; omega)
      have hgn : gapS r1 r2 (k + 1) = (a, b, a + c, b + d) := by simp only [gapS, hg]; rw [if_pos ht1]
      exact again hJ (100 - (k + 1)) (⟨k + 1, pre ++ [k], a, b, a + c, b + d⟩) [true, true, false] hA.bare (by omega) (by kernel_rfl) ⟨by rw [List.length_append]; simp; omega, by omega, rfl, hgn, by omega, hUz, hn1, hn2, by omega⟩
    case neg =>
      refine runS hA 8 [.b false, .k 2, .k 2, .k 0, .k 0] xn (oc (dec_f ht1) on) (by kernel_rfl) fun w8 hA => ?_
      have hszw8_6 : w8.heap.size = w7.heap.size := hA.at_.size.trans (by kernel_rfl)
      have hUz := hU _ _ _ _ _ hT (st_others hAy hA.at_ rfl (by omega) (fun kb hk => by simp at hk; rcases hk with rfl | rfl; exact hXa9; exact hXb9)) (Grows.refl _ _)
      have hn1 : w8.cell? ⟨bx, 0, none⟩ = some (.int .i64 r1) := others_cell hAy hA.at_ hs1 (fun hm => by simp at hm; omega)
      have hn2 : w8.cell? ⟨bx, 1, none⟩ = some (.int .i64 r2) := others_cell hAy hA.at_ hs2 (fun hm => by simp at hm; omega)
      have hgn : gapS r1 r2 (k + 1) = (a + c, b + d, c, d) := by simp only [gapS, hg]; rw [if_neg ht1]
      exact again hJ (100 - (k + 1)) (⟨k + 1, pre ++ [k], a + c, b + d, c, d⟩) [true, true, false] hA.bare (by omega) (by kernel_rfl) ⟨by rw [List.length_append]; simp; omega, by omega, rfl, hgn, by omega, hUz, hn1, hn2, by omega⟩
  ·
    have hzy := hkp.below.size
    have hAy := hA.atK [⟨w2.heap.size, .cells #[.int .i64 a, .int .i64 b] 23 (0, 0)⟩, ⟨w2.heap.size + 1, .cells #[.int .i64 c, .int .i64 d] 23 (0, 0)⟩] (by kernel_rfl)
    refine runS hA 5 [] xn on (by kernel_rfl) fun w5 hA => ?_
    refine leave hA (by kernel_rfl) fun hA => ?_
    refine runS hA 1 [] xn on (by kernel_rfl) fun w6 hA => ?_
    have hszw6_4 : w6.heap.size = wy.heap.size := hA.at_.size.trans (by kernel_rfl)
    have hUz := hUx _ _ _ _ _ hT (st_others hAy hA.at_ rfl (by omega) (fun kb hk => by simp at hk; rcases hk with rfl | rfl; exact hXa9; exact hXb9)) (Grows.refl _ _)
    exact ret (v := .tuple #[]) hA [] (by kernel_rfl) ⟨⟨_, rfl⟩, X0, _, hUz⟩
end Go.Proofs.Ytfidkgpimlpdbaa

/- odds: gaps, neighbours, Near. -/
namespace Go.Proofs.Ytfidkgpimlpdbaa
open Go.RowKit Go.Shelf

theorem gap_le {r1 r2 : Int} (h2 : 1 ≤ r2) (h1 : 0 ≤ r1) (h3 : r1 ≤ 1000 * r2) {k : Nat} (h : ∀ j, j < k → gapSum r1 r2 j ≤ 100) : gapSum r1 r2 k ≤ 200 := by
  cases k with
  | zero => show (1 : Int) + 1 ≤ 200; omega
  | succ k =>
    have hs := h k (by omega)
    unfold gapSum at hs ⊢
    unfold gapS
    generalize hg : gapS r1 r2 k = t at hs ⊢
    obtain ⟨a, b, c, d⟩ := t
    obtain ⟨-, -, -, i4, i5, -, -, -, -, -⟩ := gap_inv h2 h1 h3 k a b c d hg
    simp only at hs ⊢
    split <;> simp only <;> omega
/-- The first gap whose Den are together above a step. -/
def nbK (r1 r2 s : Int) : Nat := ((List.range 100).find? fun k => decide (gapSum r1 r2 k > s)).getD 0
def nbF (r1 r2 s : Int) : Int × Int × Int × Int := gapS r1 r2 (nbK r1 r2 s)
theorem nbK_is {r1 r2 s : Int} {k : Nat} (hk : k < 100) (h : gapSum r1 r2 k > s) (hb : ∀ j, j < k → gapSum r1 r2 j ≤ s) : nbK r1 r2 s = k := by
  unfold nbK
  rw [List.find?_range_eq_some.2 ⟨by simpa using h, by simpa using hk, fun j hj => by have := hb j hj; simp; omega⟩]
  rfl
set_option maxRecDepth 20000 in
theorem gaps_any (w : World) (r1 r2 : Int) :
    Calls Try.prog 99 #[.agg #[.int .i64 r1, .int .i64 r2]] w fun e w' => ∃ bx, e = .returned (.func (.func 121) #[] #[.pointer (some ⟨bx, 0, none⟩)]) ∧ Below w.heap.size w w' ∧ w.heap.size ≤ bx ∧ bx < w'.heap.size ∧ w'.cell? ⟨bx, 0, none⟩ = some (.int .i64 r1) ∧ w'.cell? ⟨bx, 1, none⟩ = some (.int .i64 r2) := by
  refine enter 4 Try.func99 (by kernel_rfl) fun hA => ?_
  refine runS hA 13 [] xn on (by kernel_rfl) fun w1 hA => ?_
  have hok := hA.at_.ok ⟨w.heap.size, .cells #[.int .i64 r1, .int .i64 r2] 23 (0, 0)⟩ (List.mem_of_getElem? (i := 0) (by kernel_rfl))
  have hlt := hA.at_.lt (kb := ⟨w.heap.size, .cells #[.int .i64 r1, .int .i64 r2] 23 (0, 0)⟩) (List.mem_of_getElem? (i := 0) (by kernel_rfl))
  exact ret (v := .func (.func 121) #[] #[.pointer (some ⟨w.heap.size, 0, none⟩)]) hA [] (by kernel_rfl) ⟨_, rfl, hA.below, Nat.le_refl _, hlt, cell_of_obj hok rfl rfl, cell_of_obj hok rfl rfl⟩
set_option maxRecDepth 20000 in
theorem neighbours_any (w : World) (r1 r2 s : Int) (hr : (1 ≤ r2 ∧ r2 ≤ 1000000000) ∧ 0 ≤ r1 ∧ r1 ≤ 9000000000 ∧ r1 ≤ 1000 * r2) (hs : 1 ≤ s ∧ s ≤ 100) :
    Calls Try.prog 63 #[.agg #[.int .i64 r1, .int .i64 r2], .int .i64 s] w fun e w' => e = .returned (.tuple #[.agg #[.int .i64 (nbF r1 r2 s).1, .int .i64 (nbF r1 r2 s).2.1], .agg #[.int .i64 (nbF r1 r2 s).2.2.1, .int .i64 (nbF r1 r2 s).2.2.2]]) ∧ Below w.heap.size w w' := by
  refine enterM 19 Try.func63 (by kernel_rfl) fun hA => ?_
  refine runS hA 12 [.k 0, .k 0] xn on (by kernel_rfl) fun w1 hA => ?_
  have hszw1_1 : w1.heap.size = w.heap.size + 4 := hA.at_.size.trans (by kernel_rfl)
  refine call hA [] on (gaps_any w1 r1 r2) (by kernel_rfl) (by rintro e v ⟨bx, rfl, hbw, hbx0, hbx1, hx1, hx2⟩; exact hbw) ?_
  rintro e w2 ⟨bx, rfl, hbw, hbx0, hbx1, hx1, hx2⟩
  refine ⟨_, rfl, fun hA => ?_⟩
  replace hA := hA.allK [⟨w.heap.size, .cells #[.int .i64 r1, .int .i64 r2] 23 (0, 0)⟩, ⟨w.heap.size + 1, .cells #[.int .i64 s] 3 (0, 0)⟩, ⟨w.heap.size + 2, .cells #[.int .i64 0, .int .i64 0] 23 (0, 0)⟩, ⟨w.heap.size + 3, .cells #[.int .i64 0, .int .i64 0] 23 (0, 0)⟩] (by kernel_rfl)
  have hA2 := hA.atK [⟨w.heap.size, .cells #[.int .i64 r1, .int .i64 r2] 23 (0, 0)⟩, ⟨w.heap.size + 1, .cells #[.int .i64 s] 3 (0, 0)⟩, ⟨w.heap.size + 2, .cells #[.int .i64 0, .int .i64 0] 23 (0, 0)⟩, ⟨w.heap.size + 3, .cells #[.int .i64 0, .int .i64 0] 23 (0, 0)⟩] (by kernel_rfl)
  refine runS hA 3 [] xn on (by kernel_rfl) fun w3 hA => ?_
  have hz3 : w3.heap.size = w2.heap.size := hA.at_.size.trans (by kernel_rfl)
  have hb3 : Below w2.heap.size w2 w3 := below_all hA2 (hA.atK [⟨w.heap.size, .cells #[.int .i64 r1, .int .i64 r2] 23 (0, 0)⟩, ⟨w.heap.size + 1, .cells #[.int .i64 s] 3 (0, 0)⟩, ⟨w.heap.size + 2, .cells #[.int .i64 0, .int .i64 0] 23 (0, 0)⟩, ⟨w.heap.size + 3, .cells #[.int .i64 0, .int .i64 0] 23 (0, 0)⟩] (by kernel_rfl)) rfl (Nat.le_of_eq hz3.symm)
  replace hA := hA.bare
  have hzw := hbw.size
  have hr9 : 1 ≤ r2 ∧ 0 ≤ r1 ∧ r1 ≤ 1000 * r2 := ⟨hr.1.1, hr.2.1, hr.2.2.2⟩
  refine rangeX (γ := Int × Int × Int × Int) (α := Nat) 0 (fun ⟨x0, x1, y0, y1⟩ => [⟨w.heap.size, .cells #[.int .i64 r1, .int .i64 r2] 23 (0, 0)⟩, ⟨w.heap.size + 1, .cells #[.int .i64 s] 3 (0, 0)⟩, ⟨w.heap.size + 2, .cells #[.int .i64 x0, .int .i64 x1] 23 (0, 0)⟩, ⟨w.heap.size + 3, .cells #[.int .i64 y0, .int .i64 y1] 23 (0, 0)⟩]) (fun _ => []) (fun pre ⟨x0, x1, y0, y1⟩ => ∀ j, j < pre.length → gapSum r1 r2 j ≤ s) (fun pre ⟨x0, x1, y0, y1⟩ => ∃ k : Nat, pre.length = k + 1 ∧ (x0, x1, y0, y1) = gapS r1 r2 k ∧ gapSum r1 r2 k > s ∧ ∀ j, j < k → gapSum r1 r2 j ≤ s) (fun k ⟨x0, x1, y0, y1⟩ => (x0, x1, y0, y1) = gapS r1 r2 k) (fun k z => [(3, .pointer (some ⟨w.heap.size + 1, 0, none⟩)), (4, .pointer (some ⟨w.heap.size + 2, 0, none⟩)), (5, .pointer (some ⟨w.heap.size + 3, 0, none⟩))]) (fun _ _ => []) [true, true, true, true] ⟨0, 0, 0, 0⟩ 2 hA rfl (by kernel_rfl) (fun _ _ => rfl) (gaps1_it w3 w.heap.size bx r1 r2 (fun q => q = bx) hr (by omega) (by omega) (.inr rfl) ((hb3.cell hbx1).trans hx1) ((hb3.cell (p := ⟨bx, 1, none⟩) hbx1).trans hx2)) (fun pre _ h j hj => Int.le_trans (h j hj) hs.2) (fun _ => rfl) (Nat.le_refl _) (fun q hq => by rw [hq]; omega) (fun kb hk hc => by simp only [List.nil_append, List.mem_cons, List.not_mem_nil, or_false] at hk; rcases hk with rfl | rfl | rfl | rfl <;> dsimp only at hc <;> omega) (fun _ _ h => nomatch h) (fun g kb hk => by simp only [List.mem_cons, List.not_mem_nil, or_false] at hk; rcases hk with rfl | rfl | rfl | rfl <;> dsimp only <;> omega) (fun _ _ _ h => nomatch h) (fun j hj => absurd hj (by simp)) (fun _ _ => rfl) ?_ ?_ ?_
  · rintro l pre k ⟨x0, x1, y0, y1⟩ rows W J hrel hel hJ hA
    refine runS hA 8 [.k 2, .k 2, .k 3, .k 3] xn on (by kernel_rfl) fun w4 hA => ?_
    exact rend (fun a' W' h1 h2 h3 h4 => hJ (gapS r1 r2 k) a' W' hrel rfl rfl h1 h2 h3 h4) [true, true, true, true] hA (by kernel_rfl)
  · rintro l pre k ⟨x0, x1, y0, y1⟩ z prot W J Jx hrel hel hasg hsz hJ hJx hA
    have hle := gap_le hr9.1 hr9.2.1 hr9.2.2 (k := k) (fun j hj => Int.le_trans (hrel j (by rw [← hel]; exact hj)) hs.2)
    have hgi := gap_inv hr9.1 hr9.2.1 hr9.2.2 k x0 x1 y0 y1 hasg.symm
    have i4 := hgi.b1
    have i5 := hgi.d1
    have hsm : gapSum r1 r2 k = x1 + y1 := by unfold gapSum; rw [← hasg]
    rw [hsm] at hle
    refine runS hA 12 [.k 2, .k 3, .v (.int .i64 (x1 + y1)), .k 1, .t 0] xn (oc (show Value.int .i64 (IntKind.i64.wrap (x1 + y1)) = .int .i64 (x1 + y1) from wrp (by first | omega | exact pb1 (by omega) (by omega) | exact pb2 (by omega) (by omega) (by omega) | exact pb3 (by omega) (by omega) (by omega) (by omega))) on) (by kernel_rfl) fun w5 hA => ?_
    by_cases ht1 : (x1 + y1 : Int) > (s : Int)
    case pos =>
      refine runS hA 3 [.b true] xn (oc (dec_t ht1) on) (by kernel_rfl) fun w6 hA => ?_
      exact rexitX (fun a' W' h2 h3 h4 => hJx ⟨x0, x1, y0, y1⟩ a' W' ⟨k, by rw [List.length_append, ← hel]; rfl, hasg, by rw [hsm]; omega, fun j hj => hrel j (by rw [← hel]; exact hj)⟩ h2 h3 h4) [true, true, true, true] hA (by kernel_rfl)
    case neg =>
      refine runS hA 3 [.b false] xn (oc (dec_f ht1) on) (by kernel_rfl) fun w6 hA => ?_
      exact rendX (fun a' W' h2 h3 h4 => hJ ⟨x0, x1, y0, y1⟩ a' W' (fun j hj => by rcases Nat.lt_succ_iff_lt_or_eq.1 (show j < pre.length + 1 by rw [List.length_append] at hj; exact hj) with h | h; exact hrel j h; rw [h, ← hel, hsm]; omega) h2 h3 h4) [true, true, true, true] hA (by kernel_rfl)
  · rintro D pre ⟨x0, x1, y0, y1⟩ W hrel hD hA
    obtain ⟨k, hpl, hg, hgt, hlt⟩ := hrel
    have hgi := gap_inv hr9.1 hr9.2.1 hr9.2.2 k x0 x1 y0 y1 hg.symm
    have hk99 : k < 100 := by
      rcases k with _ | j
      · omega
      · generalize hgj : gapS r1 r2 j = t9; obtain ⟨a9, b9, c9, d9⟩ := t9
        have h8 := (gap_inv hr9.1 hr9.2.1 hr9.2.2 j a9 b9 c9 d9 hgj).sum; have h9 := hlt j (by omega); unfold gapSum at h9; rw [hgj] at h9; simp only at h9; omega
    have hnb : nbF r1 r2 s = (x0, x1, y0, y1) := by unfold nbF; rw [nbK_is hk99 hgt hlt, hg]
    refine runS hA 3 [] xn on (by kernel_rfl) fun w4 hA => ?_
    refine draw hA [true, true, false, false, true] [0, 1, 2, 3] (by kernel_rfl) (by kernel_rfl) fun hA => ?_
    have hA0R := hA
    refine latK hA0R [0, 1, 2, 3] (γ := Unit) (fun _ => [(4, .pointer (some ⟨w.heap.size + 2, 0, none⟩)), (5, .pointer (some ⟨w.heap.size + 3, 0, none⟩))]) (fun _ => [⟨w.heap.size, .cells #[.int .i64 r1, .int .i64 r2] 23 (0, 0)⟩, ⟨w.heap.size + 1, .cells #[.int .i64 s] 3 (0, 0)⟩, ⟨w.heap.size + 2, .cells #[.int .i64 x0, .int .i64 x1] 23 (0, 0)⟩, ⟨w.heap.size + 3, .cells #[.int .i64 y0, .int .i64 y1] 23 (0, 0)⟩, ⟨D, .deferred (some [])⟩]) (fun _ => []) (fun _ _ => True) (fun hR0_1_2_3 => ?_) ?_
    ·
      refine latS hA0R [0, 1, 2] (γ := Unit) (fun _ => [(4, .pointer (some ⟨w.heap.size + 2, 0, none⟩)), (5, .pointer (some ⟨w.heap.size + 3, 0, none⟩)), (17, .agg #[.int .i64 x0, .int .i64 x1]), (18, .agg #[.int .i64 y0, .int .i64 y1])]) (fun _ => [⟨w.heap.size, .cells #[.int .i64 r1, .int .i64 r2] 23 (0, 0)⟩, ⟨w.heap.size + 1, .cells #[.int .i64 s] 3 (0, 0)⟩, ⟨w.heap.size + 2, .cells #[.int .i64 x0, .int .i64 x1] 23 (0, 0)⟩, ⟨w.heap.size + 3, .cells #[.int .i64 y0, .int .i64 y1] 23 (0, 0)⟩, ⟨D, .deferred (some [])⟩]) (fun _ => []) (fun _ _ => True) ?_ (fun hR0_1_2 => ?_)
      · rintro _ wl5 _ hA
        refine runS hA 1 [.h 3, .k 3, .k 3] xn on (by kernel_rfl) fun w106 hA => ?_
        exact joinE hR0_1_2_3 () trivial [0, 1, 2, 3, 4] hA rfl (by kernel_rfl) (by decide)
      refine latS hA0R [0, 2] (γ := Unit) (fun _ => [(4, .pointer (some ⟨w.heap.size + 2, 0, none⟩)), (5, .pointer (some ⟨w.heap.size + 3, 0, none⟩)), (17, .agg #[.int .i64 x0, .int .i64 x1])]) (fun _ => [⟨w.heap.size, .cells #[.int .i64 r1, .int .i64 r2] 23 (0, 0)⟩, ⟨w.heap.size + 1, .cells #[.int .i64 s] 3 (0, 0)⟩, ⟨w.heap.size + 2, .cells #[.int .i64 x0, .int .i64 x1] 23 (0, 0)⟩, ⟨w.heap.size + 3, .cells #[.int .i64 y0, .int .i64 y1] 23 (0, 0)⟩, ⟨D, .deferred (some [])⟩]) (fun _ => []) (fun _ _ => True) ?_ (fun hR0_2 => ?_)
      · rintro _ wl6 _ hA
        refine runS hA 1 [.h 1, .k 3, .k 3] xn on (by kernel_rfl) fun w107 hA => ?_
        exact joinE hR0_1_2 () trivial [0, 1, 2, 3, 4] hA rfl (by kernel_rfl) (by decide)
      refine latS hA0R [0, 1] (γ := Unit) (fun _ => [(4, .pointer (some ⟨w.heap.size + 2, 0, none⟩)), (5, .pointer (some ⟨w.heap.size + 3, 0, none⟩)), (17, .agg #[.int .i64 x0, .int .i64 x1]), (18, .agg #[.int .i64 y0, .int .i64 y1])]) (fun _ => [⟨w.heap.size, .cells #[.int .i64 r1, .int .i64 r2] 23 (0, 0)⟩, ⟨w.heap.size + 1, .cells #[.int .i64 s] 3 (0, 0)⟩, ⟨w.heap.size + 2, .cells #[.int .i64 x0, .int .i64 x1] 23 (0, 0)⟩, ⟨w.heap.size + 3, .cells #[.int .i64 y0, .int .i64 y1] 23 (0, 0)⟩, ⟨D, .deferred (some [])⟩]) (fun _ => []) (fun _ _ => True) ?_ (fun hR0_1 => ?_)
      · rintro _ wl7 _ hA
        refine runS hA 1 [.h 2, .k 2, .k 2] xn on (by kernel_rfl) fun w108 hA => ?_
        exact joinE hR0_1_2 () trivial [0, 1, 2, 3, 4] hA rfl (by kernel_rfl) (by decide)
      refine latS hA0R [1] (γ := Unit) (fun _ => [(4, .pointer (some ⟨w.heap.size + 2, 0, none⟩)), (5, .pointer (some ⟨w.heap.size + 3, 0, none⟩)), (18, .agg #[.int .i64 y0, .int .i64 y1])]) (fun _ => [⟨w.heap.size, .cells #[.int .i64 r1, .int .i64 r2] 23 (0, 0)⟩, ⟨w.heap.size + 1, .cells #[.int .i64 s] 3 (0, 0)⟩, ⟨w.heap.size + 2, .cells #[.int .i64 x0, .int .i64 x1] 23 (0, 0)⟩, ⟨w.heap.size + 3, .cells #[.int .i64 y0, .int .i64 y1] 23 (0, 0)⟩, ⟨D, .deferred (some [])⟩]) (fun _ => []) (fun _ _ => True) ?_ (fun hR1 => ?_)
      · rintro _ wl8 _ hA
        refine runS hA 1 [.h 0, .k 2, .k 2] xn on (by kernel_rfl) fun w109 hA => ?_
        exact joinE hR0_1 () trivial [0, 1, 2, 3, 4] hA rfl (by kernel_rfl) (by decide)
      refine latS hA0R [0] (γ := Unit) (fun _ => [(4, .pointer (some ⟨w.heap.size + 2, 0, none⟩)), (5, .pointer (some ⟨w.heap.size + 3, 0, none⟩)), (17, .agg #[.int .i64 x0, .int .i64 x1])]) (fun _ => [⟨w.heap.size, .cells #[.int .i64 r1, .int .i64 r2] 23 (0, 0)⟩, ⟨w.heap.size + 1, .cells #[.int .i64 s] 3 (0, 0)⟩, ⟨w.heap.size + 2, .cells #[.int .i64 x0, .int .i64 x1] 23 (0, 0)⟩, ⟨w.heap.size + 3, .cells #[.int .i64 y0, .int .i64 y1] 23 (0, 0)⟩, ⟨D, .deferred (some [])⟩]) (fun _ => []) (fun _ _ => True) ?_ (fun hR0 => ?_)
      · rintro _ wl9 _ hA
        refine manyS hA 1 [2] (by kernel_rfl) ⟨fun hA => ?_, fun hA => ?_, trivial⟩
        ·
          refine runS hA 1 [.k 3, .k 3] xn on (by kernel_rfl) fun w110 hA => ?_
          exact joinE hR0_1 () trivial [0, 1, 2, 3, 4] hA rfl (by kernel_rfl) (by decide)
        ·
          refine runS hA 1 [.k 2, .k 2] xn on (by kernel_rfl) fun w110 hA => ?_
          exact joinE hR0_2 () trivial [0, 1, 2, 3, 4] hA rfl (by kernel_rfl) (by decide)
      replace hA := hA0R
      refine manyS hA 0 [1] (by kernel_rfl) ⟨fun hA => ?_, fun hA => ?_, trivial⟩
      ·
        refine runS hA 1 [.k 2, .k 2] xn on (by kernel_rfl) fun w10 hA => ?_
        exact joinE hR0 () trivial [0, 1, 2, 3, 4] hA rfl (by kernel_rfl) (by decide)
      ·
        refine runS hA 1 [.k 3, .k 3] xn on (by kernel_rfl) fun w10 hA => ?_
        exact joinE hR1 () trivial [0, 1, 2, 3, 4] hA rfl (by kernel_rfl) (by decide)
    rintro _ w59 _ hA
    refine runS hA 3 [.b true] xn on (by kernel_rfl) fun w60 hA => ?_
    refine retM (kn' := [⟨w.heap.size, .cells #[.int .i64 r1, .int .i64 r2] 23 (0, 0)⟩, ⟨w.heap.size + 1, .cells #[.int .i64 s] 3 (0, 0)⟩, ⟨w.heap.size + 2, .cells #[.int .i64 x0, .int .i64 x1] 23 (0, 0)⟩, ⟨w.heap.size + 3, .cells #[.int .i64 y0, .int .i64 y1] 23 (0, 0)⟩]) (v := .tuple #[.agg #[.int .i64 x0, .int .i64 x1], .agg #[.int .i64 y0, .int .i64 y1]]) [4] hA [.k 2, .k 2, .k 3, .k 3] (by kernel_rfl) (fun w' hA' => ?_)
    exact ⟨by rw [hnb], hA'.below⟩
end Go.Proofs.Ytfidkgpimlpdbaa

/- odds: Near, Round, Simplest. -/
namespace Go.Proofs.Ytfidkgpimlpdbaa
open Go.RowKit Go.Shelf

def nearA (r1 r2 s : Int) : Int × Int × Int × Int := if placeF r1 r2 s = 0 then nbF r1 r2 s else (0, 0, 0, 0)
set_option maxRecDepth 20000 in
theorem Near_any (w : World) (r1 r2 s : Int) (hs : -9223372036854775808 ≤ s ∧ s ≤ 9223372036854775807) :
    Calls Try.prog 16 #[.agg #[.int .i64 r1, .int .i64 r2], .int .i64 s] w fun e w' => e = .returned (.tuple #[.agg #[.int .i64 ((nearA r1 r2 s).1), .int .i64 ((nearA r1 r2 s).2.1)], .agg #[.int .i64 ((nearA r1 r2 s).2.2.1), .int .i64 ((nearA r1 r2 s).2.2.2)], .int .i64 (placeF r1 r2 s)]) ∧ Below w.heap.size w w' := by
  refine enter 26 Try.func16 (by kernel_rfl) fun hA => ?_
  refine runS hA 13 [.k 0, .k 0] xn on (by kernel_rfl) fun w1 hA => ?_
  refine callB hA [] on (checkPlace_any w1 r1 r2 s (by omega)) (by kernel_rfl) fun w2 hb2 hA => ?_
  refine runS hA 9 [.t 0] xn on (by kernel_rfl) fun w3 hA => ?_
  by_cases ht1 : (placeF r1 r2 s) = (0 : Int)
  case pos =>
    refine runS hA 7 [.b false, .k 0, .k 0] xn (oc (ne_f ht1) on) (by kernel_rfl) fun w4 hA => ?_
    refine callB hA [] on (neighbours_any w4 r1 r2 s ((by have hp := place_ok ht1; omega)) ((by have hp := place_ok ht1; omega))) (by kernel_rfl) fun w5 hb5 hA => ?_
    refine runS hA 10 [.k 3, .k 3, .k 4, .k 4] xn on (by kernel_rfl) fun w6 hA => ?_
    refine draw hA [true, false, false, true, true] [0, 1, 2, 3, 4] (by kernel_rfl) (by kernel_rfl) fun hA => ?_
    refine runS hA 2 [.t 0, .k 1, .k 1, .t 1, .k 2, .k 2] xn on (by kernel_rfl) fun w7 hA => ?_
    have hA0D2 := hA
    refine latK hA0D2 [2, 3, 4] (γ := Unit) (fun _ => [(4, .pointer (some ⟨w.heap.size + 1, 0, none⟩)), (5, .pointer (some ⟨w.heap.size + 2, 0, none⟩)), (6, .int .i64 0)]) (fun _ => [⟨w.heap.size, .cells #[.int .i64 r1, .int .i64 r2] 23 (0, 0)⟩, ⟨w.heap.size + 1, .cells #[.int .i64 ((nbF r1 r2 s).1), .int .i64 ((nbF r1 r2 s).2.1)] 23 (0, 0)⟩, ⟨w.heap.size + 2, .cells #[.int .i64 ((nbF r1 r2 s).2.2.1), .int .i64 ((nbF r1 r2 s).2.2.2)] 23 (0, 0)⟩, ⟨w5.heap.size, .cells #[.int .i64 ((nbF r1 r2 s).1), .int .i64 ((nbF r1 r2 s).2.1)] 23 (0, 0)⟩, ⟨w5.heap.size + 1, .cells #[.int .i64 ((nbF r1 r2 s).2.2.1), .int .i64 ((nbF r1 r2 s).2.2.2)] 23 (0, 0)⟩]) (fun _ => []) (fun _ _ => True) (fun hD22_3 => ?_) ?_
    ·
      refine latS hA0D2 [2] (γ := Unit) (fun _ => [(4, .pointer (some ⟨w.heap.size + 1, 0, none⟩)), (5, .pointer (some ⟨w.heap.size + 2, 0, none⟩)), (6, .int .i64 0), (8, .pointer (some ⟨w5.heap.size, 0, none⟩)), (9, .pointer (some ⟨w5.heap.size + 1, 0, none⟩)), (24, .agg #[.int .i64 ((nbF r1 r2 s).1), .int .i64 ((nbF r1 r2 s).2.1)]), (25, .agg #[.int .i64 ((nbF r1 r2 s).2.2.1), .int .i64 ((nbF r1 r2 s).2.2.2)])]) (fun _ => [⟨w.heap.size, .cells #[.int .i64 r1, .int .i64 r2] 23 (0, 0)⟩, ⟨w.heap.size + 1, .cells #[.int .i64 ((nbF r1 r2 s).1), .int .i64 ((nbF r1 r2 s).2.1)] 23 (0, 0)⟩, ⟨w.heap.size + 2, .cells #[.int .i64 0, .int .i64 0] 23 (0, 0)⟩, ⟨w5.heap.size, .cells #[.int .i64 ((nbF r1 r2 s).1), .int .i64 ((nbF r1 r2 s).2.1)] 23 (0, 0)⟩, ⟨w5.heap.size + 1, .cells #[.int .i64 ((nbF r1 r2 s).2.2.1), .int .i64 ((nbF r1 r2 s).2.2.2)] 23 (0, 0)⟩]) (fun _ => []) (fun _ _ => True) ?_ (fun hD22 => ?_)
      · rintro _ wl8 _ hA
        refine runS hA 2 [.h 3, .k 2, .k 2, .t 4] xn on (by kernel_rfl) fun w109 hA => ?_
        exact joinE hD22_3 () trivial [0, 1, 2, 3, 4] hA rfl (by kernel_rfl) (by decide)
      replace hA := hA0D2
      refine runS hA 1 [.h 2, .k 1, .k 1] xn on (by kernel_rfl) fun w9 hA => ?_
      exact joinE hD22 () trivial [0, 1, 2, 3, 4] hA rfl (by kernel_rfl) (by decide)
    rintro _ w58 _ hA
    refine runS hA 3 [.b true] xn on (by kernel_rfl) fun w59 hA => ?_
    exact ret (v := .tuple #[.agg #[.int .i64 ((nbF r1 r2 s).1), .int .i64 ((nbF r1 r2 s).2.1)], .agg #[.int .i64 ((nbF r1 r2 s).2.2.1), .int .i64 ((nbF r1 r2 s).2.2.2)], .int .i64 0]) hA [.k 1, .k 1, .k 2, .k 2] (by kernel_rfl) ⟨by simp [nearA, ht1], hA.below⟩
  case neg =>
    refine runS hA 13 [.b true, .k 1, .k 1, .k 2, .k 2] xn (oc (ne_t ht1) on) (by kernel_rfl) fun w4 hA => ?_
    exact ret (v := .tuple #[.agg #[.int .i64 0, .int .i64 0], .agg #[.int .i64 0, .int .i64 0], .int .i64 (placeF r1 r2 s)]) hA [.k 1, .k 1, .k 2, .k 2] (by kernel_rfl) ⟨by simp [nearA, ht1], hA.below⟩
theorem dist_bd {a b c d : Int} (hb : 0 < b) (hd : 0 < d) (h : -(b * d) ≤ a * d - c * b ∧ a * d - c * b ≤ b * d) (hm : b * d ≤ 100000000) : (0 ≤ (distF a b c d).1 ∧ (distF a b c d).1 ≤ 100000000) ∧ 0 < (distF a b c d).2 ∧ (distF a b c d).2 ≤ 100000000 := by
  have h0 := Int.mul_pos hb hd
  have h1 := Int.mul_comm b d
  unfold distF
  split
  · have p := rat_pos (n := c * b - a * d) (d := d * b) (by omega)
    have q := rat_nonneg (n := c * b - a * d) (d := d * b) (by omega) (by omega)
    omega
  · have p := rat_pos (n := a * d - c * b) (d := b * d) (by omega)
    have q := rat_nonneg (n := a * d - c * b) (d := b * d) (by omega) (by omega)
    omega
def nearB (r1 r2 a b c d : Int) : Bool := decide ((distF a b r1 r2).1 * (distF c d r1 r2).2 < (distF c d r1 r2).1 * (distF a b r1 r2).2)
/-- A fraction on the ladder that is near. -/
structure Nr (r1 r2 a b : Int) : Prop where
  a0 : 0 ≤ a ∧ a ≤ 200000
  b0 : 1 ≤ b ∧ b ≤ 100
  near : -(b * r2) ≤ a * r2 - r1 * b ∧ a * r2 - r1 * b ≤ b * r2
theorem Nr.mul {r1 r2 a b : Int} (h : Nr r1 r2 a b) (h2 : 1 ≤ r2 ∧ r2 ≤ 1000000) : 0 < b * r2 ∧ b * r2 ≤ 100000000 := by
  have h1 := Int.mul_pos (show 0 < b by have := h.b0; omega) (show 0 < r2 by omega)
  have h3 := Int.mul_le_mul h.b0.2 h2.2 (by omega) (by decide)
  omega
set_option maxRecDepth 20000 in
theorem round1_any (w : World) (r1 r2 a b c d : Int) (bx : Nat) (hr : (1 ≤ r2 ∧ r2 ≤ 1000000) ∧ 0 ≤ r1 ∧ r1 ≤ 1000000000) (na : Nr r1 r2 a b) (nc : Nr r1 r2 c d) (hb : bx < w.heap.size) (hx1 : w.cell? ⟨bx, 0, none⟩ = some (.int .i64 r1)) (hx2 : w.cell? ⟨bx, 1, none⟩ = some (.int .i64 r2)) :
    Calls Try.prog 66 #[.agg #[.int .i64 a, .int .i64 b], .agg #[.int .i64 c, .int .i64 d], .pointer (some ⟨bx, 0, none⟩)] w fun e w' => e = .returned (.bool (nearB r1 r2 a b c d)) ∧ Below w.heap.size w w' := by
  have ha1 := na.a0
  have ha2 := na.b0
  have ha3 := na.near
  have ha4 := na.mul hr.1
  have hc1 := nc.a0
  have hc2 := nc.b0
  have hc3 := nc.near
  have hc4 := nc.mul hr.1
  have d1 := dist_bd (a := a) (b := b) (c := r1) (d := r2) (by omega) (by omega) ha3 ha4.2
  have d2 := dist_bd (a := c) (b := d) (c := r1) (d := r2) (by omega) (by omega) hc3 hc4.2
  refine enter 13 Try.func66 (by kernel_rfl) fun hA => ?_
  refine runS hA 8 [] xn on (by kernel_rfl) fun w1 hA => ?_
  refine draw hA [true, true] [0, 1, 2, 3, 4, 5, 6, 7] (by kernel_rfl) (by kernel_rfl) fun hA => ?_
  refine runS hA 4 [.t 0, .k 0, .k 0, .t 1, .x (.int .i64 r1), .x (.int .i64 r2), .t 3, .k 1, .k 1, .t 4, .x (.int .i64 r1), .x (.int .i64 r2)] (xc (a := ⟨bx, 0, none⟩) ⟨hb, hx1⟩ (xc (a := ⟨bx, 1, none⟩) ⟨hb, hx2⟩ (xc (a := ⟨bx, 0, none⟩) ⟨hb, hx1⟩ (xc (a := ⟨bx, 1, none⟩) ⟨hb, hx2⟩ xn)))) on (by kernel_rfl) fun w2 hA => ?_
  have hA0D1 := hA
  refine latK hA0D1 [2, 5, 6, 7] (γ := Unit) (fun _ => [(5, .bool (decide (((distF a b r1 r2).1) * ((distF c d r1 r2).2) < ((distF c d r1 r2).1) * ((distF a b r1 r2).2))))]) (fun _ => [⟨w.heap.size, .cells #[.int .i64 a, .int .i64 b] 23 (0, 0)⟩, ⟨w.heap.size + 1, .cells #[.int .i64 c, .int .i64 d] 23 (0, 0)⟩]) (fun _ => []) (fun _ _ => True) (fun hD12_5_6 => ?_) ?_
  ·
    refine latS hA0D1 [2, 5] (γ := Unit) (fun _ => [(2, .pointer (some ⟨bx, 0, none⟩)), (3, .pointer (some ⟨w.heap.size, 0, none⟩)), (4, .pointer (some ⟨w.heap.size + 1, 0, none⟩)), (5, .bool false), (6, .agg #[.int .i64 a, .int .i64 b]), (7, .agg #[.int .i64 r1, .int .i64 r2]), (8, .agg #[.int .i64 ((distF a b r1 r2).1), .int .i64 ((distF a b r1 r2).2)]), (9, .agg #[.int .i64 c, .int .i64 d]), (10, .agg #[.int .i64 r1, .int .i64 r2]), (11, .agg #[.int .i64 ((distF c d r1 r2).1), .int .i64 ((distF c d r1 r2).2)])]) (fun _ => [⟨w.heap.size, .cells #[.int .i64 a, .int .i64 b] 23 (0, 0)⟩, ⟨w.heap.size + 1, .cells #[.int .i64 c, .int .i64 d] 23 (0, 0)⟩]) (fun _ => []) (fun _ _ => True) ?_ (fun hD12_5 => ?_)
    · rintro _ wl3 _ hA
      refine callB hA [] on (less_any wl3 ((distF a b r1 r2).1) ((distF a b r1 r2).2) ((distF c d r1 r2).1) ((distF c d r1 r2).2) (by first | omega | exact pc1 (by omega) (by omega) | exact pd1 (by omega) (by omega) | exact pd2 (by omega) (by omega)) (by first | omega | exact pc1 (by omega) (by omega) | exact pd1 (by omega) (by omega) | exact pd2 (by omega) (by omega))) (by kernel_rfl) fun w104 hb104 hA => ?_
      refine runS hA 1 [.t 7] xn on (by kernel_rfl) fun w105 hA => ?_
      exact joinE hD12_5_6 () trivial [0, 1] hA rfl (by kernel_rfl) (by decide)
    refine latS hA0D1 [2] (γ := Unit) (fun _ => [(2, .pointer (some ⟨bx, 0, none⟩)), (3, .pointer (some ⟨w.heap.size, 0, none⟩)), (4, .pointer (some ⟨w.heap.size + 1, 0, none⟩)), (5, .bool false), (6, .agg #[.int .i64 a, .int .i64 b]), (7, .agg #[.int .i64 r1, .int .i64 r2]), (8, .agg #[.int .i64 ((distF a b r1 r2).1), .int .i64 ((distF a b r1 r2).2)]), (9, .agg #[.int .i64 c, .int .i64 d]), (10, .agg #[.int .i64 r1, .int .i64 r2])]) (fun _ => [⟨w.heap.size, .cells #[.int .i64 a, .int .i64 b] 23 (0, 0)⟩, ⟨w.heap.size + 1, .cells #[.int .i64 c, .int .i64 d] 23 (0, 0)⟩]) (fun _ => []) (fun _ _ => True) ?_ (fun hD12 => ?_)
    · rintro _ wl4 _ hA
      refine callB hA [] on (distance_any wl4 c d r1 r2 (by first | omega | exact pc1 (by omega) (by omega) | exact pd1 (by omega) (by omega) | exact pd2 (by omega) (by omega)) (by first | omega | exact pc1 (by omega) (by omega) | exact pd1 (by omega) (by omega) | exact pd2 (by omega) (by omega)) (by first | omega | exact pc3 (by omega) (by omega) (by omega) (by omega)) (by first | omega | exact pcp (by omega) (by omega))) (by kernel_rfl) fun w105 hb105 hA => ?_
      exact joinE hD12_5 () trivial [0, 1] hA rfl (by kernel_rfl) (by decide)
    replace hA := hA0D1
    refine callB hA [] on (distance_any w2 a b r1 r2 (by first | omega | exact pc1 (by omega) (by omega) | exact pd1 (by omega) (by omega) | exact pd2 (by omega) (by omega)) (by first | omega | exact pc1 (by omega) (by omega) | exact pd1 (by omega) (by omega) | exact pd2 (by omega) (by omega)) (by first | omega | exact pc3 (by omega) (by omega) (by omega) (by omega)) (by first | omega | exact pcp (by omega) (by omega))) (by kernel_rfl) fun w5 hb5 hA => ?_
    exact joinE hD12 () trivial [0, 1] hA rfl (by kernel_rfl) (by decide)
  rintro _ w54 _ hA
  refine runS hA 3 [.b true] xn on (by kernel_rfl) fun w55 hA => ?_
  exact ret (v := .bool (decide (((distF a b r1 r2).1) * ((distF c d r1 r2).2) < ((distF c d r1 r2).1) * ((distF a b r1 r2).2)))) hA [] (by kernel_rfl) ⟨by rfl, hA.below⟩
def bestF (r1 r2 a b c d : Int) : Rt := if nearB r1 r2 c d a b then (c, d) else (a, b)
set_option maxRecDepth 20000 in
theorem best2_any (w : World) (r1 r2 a b c d : Int) (bx g : Nat) (hg : w.heap[g]? = some (.cells #[.int .i64 a, .int .i64 b, .int .i64 c, .int .i64 d] 23 (0, 0))) (hr : (1 ≤ r2 ∧ r2 ≤ 1000000) ∧ 0 ≤ r1 ∧ r1 ≤ 1000000000) (na : Nr r1 r2 a b) (nc : Nr r1 r2 c d) (hb : bx < w.heap.size) (hx1 : w.cell? ⟨bx, 0, none⟩ = some (.int .i64 r1)) (hx2 : w.cell? ⟨bx, 1, none⟩ = some (.int .i64 r2)) :
    Calls Try.prog 69 #[.func (.func 66) #[] #[.pointer (some ⟨bx, 0, none⟩)], .slice (some ⟨g, 0, none⟩) 2 2] w fun e w' => e = .returned (.agg #[.int .i64 (bestF r1 r2 a b c d).1, .int .i64 (bestF r1 r2 a b c d).2]) ∧ Below w.heap.size w w' := by
  refine enter 25 Try.func69 (by kernel_rfl) fun hA => ?_
  have hgl : g < w.heap.size := (Array.getElem?_eq_some_iff.1 hg).1
  refine runS hA 24 [.x (.int .i64 a), .x (.int .i64 b), .k 1, .k 1, .i] (xc (a := ⟨g, 0, none⟩) ⟨hgl, cell_of_obj hg rfl rfl⟩ (xc (a := ⟨g, 1, none⟩) ⟨hgl, cell_of_obj hg rfl rfl⟩ xn)) (oc (show (0 : Int) ≤ (1 : Int) ∧ (1 : Int) ≤ (2 : Int) ∧ (2 : Int) ≤ (2 : Int) ∧ (2 : Int) ≤ (2 : Int) by omega) on) (by kernel_rfl) fun w1 hA => ?_
  refine loop (γ := Nat × Int × Int) (fun ⟨k, x, y⟩ => [(0, .func (.func 66) #[] #[.pointer (some ⟨bx, 0, none⟩)]), (4, .pointer (some ⟨w.heap.size, 0, none⟩)), (5, .pointer (some ⟨w.heap.size + 1, 0, none⟩)), (12, .slice (some ⟨g, 2, none⟩) 1 1), (13, .int .i64 1), (14, .int .i64 (k : Int))]) (fun ⟨k, x, y⟩ => [⟨w.heap.size, .cells #[.int .i64 0, .int .i64 0] 23 (0, 0)⟩, ⟨w.heap.size + 1, .cells #[.int .i64 x, .int .i64 y] 23 (0, 0)⟩]) (fun _ => []) (fun g ⟨k, x, y⟩ wr => g = 1 - k ∧ ((k = 0 ∧ x = a ∧ y = b) ∨ (k = 1 ∧ (x, y) = bestF r1 r2 a b c d))) 1 ⟨0, a, b⟩ [true, true] hA (by kernel_rfl) (⟨rfl, .inl ⟨rfl, rfl, rfl⟩⟩) ?_
  rintro _ ⟨k, x, y⟩ wr ⟨rfl, (⟨rfl, rfl, rfl⟩ | ⟨rfl, hxy⟩)⟩ J hJ hA
  ·
    refine runS hA 24 ([.x (.int .i64 c), .x (.int .i64 d)] ++ List.replicate 4 (.k 2) ++ [.k 1, .k 1]) (xc (a := ⟨g, 2, none⟩) ⟨hgl, cell_of_obj hg rfl rfl⟩ (xc (a := ⟨g, 3, none⟩) ⟨hgl, cell_of_obj hg rfl rfl⟩ xn)) on (by kernel_rfl) fun w2 hA => ?_
    refine callB hA [] on (round1_any w2 r1 r2 c d x y bx hr nc na (Nat.lt_of_lt_of_le hb hA.size) ((hA.below.cell hb).trans hx1) ((hA.below.cell (p := ⟨bx, 1, none⟩) hb).trans hx2)) (by kernel_rfl) fun w3 hb3 hA => ?_
    have hq9 := Bool.eq_false_or_eq_true ((nearB r1 r2 c d x y))
    rcases hq9 with ht1 | ht1
    ·
      refine runS hA 13 [.b true, .k 2, .k 2, .k 1, .k 1, .v (.int .i64 1)] xn (oc (show Value.bool (nearB r1 r2 c d x y) = .bool true by rw [ht1] <;> rfl) (oc (show (.int .i64 1 : Value) = .int .i64 1 from rfl) on)) (by kernel_rfl) fun w4 hA => ?_
      exact again hJ 0 ⟨1, c, d⟩ [true, true, false] hA (by omega) (by kernel_rfl) ⟨rfl, .inr ⟨rfl, by unfold bestF; simp [ht1]⟩⟩
    ·
      refine runS hA 10 [.b false, .v (.int .i64 1)] xn (oc (show Value.bool (nearB r1 r2 c d x y) = .bool false by rw [ht1] <;> rfl) (oc (show (.int .i64 1 : Value) = .int .i64 1 from rfl) on)) (by kernel_rfl) fun w4 hA => ?_
      exact again hJ 0 ⟨1, x, y⟩ [true, true, false] hA (by omega) (by kernel_rfl) ⟨rfl, .inr ⟨rfl, by unfold bestF; simp [ht1]⟩⟩
  ·
    refine runS hA 9 [] xn on (by kernel_rfl) fun w2 hA => ?_
    refine leave hA (by kernel_rfl) fun hA => ?_
    refine runS hA 9 [.k 1, .k 1, .k 0, .k 0] xn on (by kernel_rfl) fun w3 hA => ?_
    exact ret (v := .agg #[.int .i64 x, .int .i64 y]) hA [.k 0, .k 0] (by kernel_rfl) ⟨by rw [← hxy], hA.below⟩
def roundA (r1 r2 s : Int) : Rt := if placeF r1 r2 s = 0 then bestF r1 r2 (nbF r1 r2 s).1 (nbF r1 r2 s).2.1 (nbF r1 r2 s).2.2.1 (nbF r1 r2 s).2.2.2 else (0, 0)
end Go.Proofs.Ytfidkgpimlpdbaa
