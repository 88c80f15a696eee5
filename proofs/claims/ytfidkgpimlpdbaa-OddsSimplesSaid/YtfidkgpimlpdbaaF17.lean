/- Parts of a proof: OAF OAG OAH. -/
import Derived.Test.YtfidkgpimlpdbaaF16

/- odds: the reference's small functions. -/
namespace Go.Proofs.Ytfidkgpimlpdbaa
open Go.RowKit Go.Shelf

set_option maxRecDepth 20000 in
theorem of_any (w : World) (n d : Int) :
    Calls Try.prog 50 #[.int .i64 n, .int .i64 d] w fun e w' => e = .returned (.agg #[.int .i64 n, .int .i64 d]) ∧ Below w.heap.size w w' := by
  refine enter 8 Try.func50 (by kernel_rfl) fun hA => ?_
  refine runS hA 14 [.k 0, .k 0] xn on (by kernel_rfl) fun w1 hA => ?_
  exact ret (v := .agg #[.int .i64 n, .int .i64 d]) hA [.k 0, .k 0] (by kernel_rfl) ⟨by rfl, hA.below⟩
set_option maxRecDepth 20000 in
theorem quote_any (w : World) (r n d : Int) (lay : Bool) :
    Calls Try.prog 58 #[.int .i64 r, .int .i64 n, .int .i64 d, .bool lay] w fun e w' => e = .returned (.agg #[.int .i64 r, .int .i64 n, .int .i64 d, .bool lay]) ∧ Below w.heap.size w w' := by
  refine enter 14 Try.func58 (by kernel_rfl) fun hA => ?_
  refine runS hA 16 (List.replicate 4 (.k 0)) xn on (by kernel_rfl) fun w1 hA => ?_
  exact ret (v := .agg #[.int .i64 r, .int .i64 n, .int .i64 d, .bool lay]) hA (List.replicate 4 (.k 0)) (by kernel_rfl) ⟨by rfl, hA.below⟩
set_option maxRecDepth 20000 in
theorem rless_any (w : World) (a b c d : Int) (h1 : -9223372036854775807 ≤ a * d ∧ a * d ≤ 9223372036854775807) (h2 : -9223372036854775807 ≤ c * b ∧ c * b ≤ 9223372036854775807) :
    Calls Try.prog 49 #[.agg #[.int .i64 a, .int .i64 b], .agg #[.int .i64 c, .int .i64 d]] w fun e w' => e = .returned (.bool (decide (a * d < c * b))) ∧ Below w.heap.size w w' := by
  refine enter 16 Try.func49 (by kernel_rfl) fun hA => ?_
  refine runS hA 24 [.k 0, .k 1, .v (.int .i64 (a * d)), .k 1, .k 0, .v (.int .i64 (c * b))] xn (oc (show Value.int .i64 (IntKind.i64.wrap (a * d)) = .int .i64 (a * d) from wrp (by omega)) (oc (show Value.int .i64 (IntKind.i64.wrap (c * b)) = .int .i64 (c * b) from wrp (by omega)) on)) (by kernel_rfl) fun w1 hA => ?_
  exact ret (v := .bool (decide ((a * d : Int) < (c * b : Int)))) hA [] (by kernel_rfl) ⟨by rfl, hA.below⟩
set_option maxRecDepth 20000 in
theorem risFraction_any (w : World) (n d : Int) :
    Calls Try.prog 51 #[.agg #[.int .i64 n, .int .i64 d]] w fun e w' => e = .returned (.bool (isFracF n d)) ∧ Below w.heap.size w w' := by
  refine enter 24 Try.func51 (by kernel_rfl) fun hA => ?_
  refine runS hA 12 [.k 0, .t 0] xn on (by kernel_rfl) fun w1 hA => ?_
  by_cases ht1 : (d : Int) ≥ (1 : Int)
  case pos =>
    refine runS hA 5 [.g true, .g true, .k 0, .g true, .t 0] xn (oc (dec_t ht1) (oc (rfl : Value.bool true = .bool true) (oc (rfl : Value.bool true = .bool true) on))) (by kernel_rfl) fun w2 hA => ?_
    by_cases ht2 : (d : Int) ≤ (1000000 : Int)
    case pos =>
      refine runS hA 5 [.g true, .g true, .k 0, .g true, .t 0] xn (oc (dec_t ht2) (oc (rfl : Value.bool true = .bool true) (oc (rfl : Value.bool true = .bool true) on))) (by kernel_rfl) fun w3 hA => ?_
      by_cases ht3 : (n : Int) ≥ (0 : Int)
      case pos =>
        refine runS hA 11 [.g true, .g true, .k 0, .g true, .g true, .k 0, .g true, .v (.int .i64 (1000 * d)), .g true] xn (oc (dec_t ht3) (oc (rfl : Value.bool true = .bool true) (oc (rfl : Value.bool true = .bool true) (oc (rfl : Value.bool true = .bool true) (oc (rfl : Value.bool true = .bool true) (oc (show Value.int .i64 (IntKind.i64.wrap (1000 * d)) = .int .i64 (1000 * d) from wrp (by first | omega | exact pb1 (by omega) (by omega) | exact pb2 (by omega) (by omega) (by omega) | exact pb3 (by omega) (by omega) (by omega) (by omega))) (oc (rfl : Value.bool true = .bool true) on))))))) (by kernel_rfl) fun w4 hA => ?_
        exact ret (v := .bool (decide ((n : Int) ≤ (1000 * d : Int)))) hA [] (by kernel_rfl) ⟨by simp [isFracF, ht1, ht2, ht3], hA.below⟩
      case neg =>
        refine runS hA 11 (List.replicate 6 (.g false)) xn (oc (dec_f ht3) (oc (rfl : Value.bool false = .bool false) (oc (rfl : Value.bool false = .bool false) (oc (rfl : Value.bool false = .bool false) (oc (rfl : Value.bool false = .bool false) (oc (rfl : Value.bool false = .bool false) on)))))) (by kernel_rfl) fun w4 hA => ?_
        exact ret (v := .bool false) hA [] (by kernel_rfl) ⟨by simp [isFracF, ht1, ht2, ht3], hA.below⟩
    case neg =>
      refine runS hA 16 (List.replicate 9 (.g false)) xn (oc (dec_f ht2) (oc (rfl : Value.bool false = .bool false) (oc (rfl : Value.bool false = .bool false) (oc (rfl : Value.bool false = .bool false) (oc (rfl : Value.bool false = .bool false) (oc (rfl : Value.bool false = .bool false) (oc (rfl : Value.bool false = .bool false) (oc (rfl : Value.bool false = .bool false) (oc (rfl : Value.bool false = .bool false) on))))))))) (by kernel_rfl) fun w3 hA => ?_
      exact ret (v := .bool false) hA [] (by kernel_rfl) ⟨by simp [isFracF, ht1, ht2], hA.below⟩
  case neg =>
    refine runS hA 21 (List.replicate 12 (.g false)) xn (oc (dec_f ht1) (oc (rfl : Value.bool false = .bool false) (oc (rfl : Value.bool false = .bool false) (oc (rfl : Value.bool false = .bool false) (oc (rfl : Value.bool false = .bool false) (oc (rfl : Value.bool false = .bool false) (oc (rfl : Value.bool false = .bool false) (oc (rfl : Value.bool false = .bool false) (oc (rfl : Value.bool false = .bool false) (oc (rfl : Value.bool false = .bool false) (oc (rfl : Value.bool false = .bool false) (oc (rfl : Value.bool false = .bool false) on)))))))))))) (by kernel_rfl) fun w2 hA => ?_
    exact ret (v := .bool false) hA [] (by kernel_rfl) ⟨by simp [isFracF, ht1], hA.below⟩
set_option maxRecDepth 20000 in
theorem asked_any (w : World) (n d s : Int) :
    Calls Try.prog 64 #[.agg #[.int .i64 n, .int .i64 d], .int .i64 s] w fun e w' => e = .returned (.int .i64 (placeF n d s)) ∧ Below w.heap.size w w' := by
  refine enter 14 Try.func64 (by kernel_rfl) fun hA => ?_
  refine runS hA 10 [.k 0, .k 0] xn on (by kernel_rfl) fun w1 hA => ?_
  refine callB hA [] on (risFraction_any w1 n d ) (by kernel_rfl) fun w2 hb2 hA => ?_
  refine runS hA 3 [.t 0] xn on (by kernel_rfl) fun w3 hA => ?_
  have hq9 := Bool.eq_false_or_eq_true ((isFracF n d))
  rcases hq9 with ht1 | ht1
  ·
    refine runS hA 9 [.b false, .t 0] xn (oc (show Value.bool (!(isFracF n d)) = .bool false by rw [ht1] <;> rfl) on) (by kernel_rfl) fun w4 hA => ?_
    by_cases ht2 : (s : Int) < (1 : Int)
    case pos =>
      refine runS hA 13 [.g true, .g true] xn (oc (dec_t ht2) (oc (rfl : Value.bool true = .bool true) on)) (by kernel_rfl) fun w5 hA => ?_
      exact ret (v := .int .i64 2) hA [] (by kernel_rfl) ⟨by simp [placeF, stepF, ht1] <;> omega, hA.below⟩
    case neg =>
      refine runS hA 5 [.g false, .g false, .t 0] xn (oc (dec_f ht2) (oc (rfl : Value.bool false = .bool false) on)) (by kernel_rfl) fun w5 hA => ?_
      by_cases ht3 : (s : Int) > (100 : Int)
      case pos =>
        refine runS hA 8 [.b true] xn (oc (dec_t ht3) on) (by kernel_rfl) fun w6 hA => ?_
        exact ret (v := .int .i64 2) hA [] (by kernel_rfl) ⟨by simp [placeF, stepF, ht1, ht3] <;> omega, hA.below⟩
      case neg =>
        refine runS hA 9 [.b false] xn (oc (dec_f ht3) on) (by kernel_rfl) fun w6 hA => ?_
        exact ret (v := .int .i64 0) hA [] (by kernel_rfl) ⟨by simp [placeF, stepF, ht1, ht2, ht3] <;> omega, hA.below⟩
  ·
    refine runS hA 8 [.b true] xn (oc (show Value.bool (!(isFracF n d)) = .bool true by rw [ht1] <;> rfl) on) (by kernel_rfl) fun w4 hA => ?_
    exact ret (v := .int .i64 3) hA [] (by kernel_rfl) ⟨by simp [placeF, ht1] <;> omega, hA.below⟩
set_option maxRecDepth 20000 in
theorem up_any (w : World) (a b : Int) (ha : 0 ≤ a ∧ a ≤ 4000000000000000000) (hb : 1 ≤ b ∧ b ≤ 1000000000) :
    Calls Try.prog 73 #[.int .i64 a, .int .i64 b] w fun e w' => e = .returned (.int .i64 ((a + b - 1) / b)) ∧ Below w.heap.size w w' := by
  refine enter 11 Try.func73 (by kernel_rfl) fun hA => ?_
  refine runS hA 17 [.v (.int .i64 (a + b)), .v (.int .i64 ((a + b) - 1)), .v (.int .i64 (((a + b) - 1) / b)), .z] xn (oc (show Value.int .i64 (IntKind.i64.wrap (a + b)) = .int .i64 (a + b) from wrp (by omega)) (oc (show Value.int .i64 (IntKind.i64.wrap ((a + b) - 1)) = .int .i64 ((a + b) - 1) from wrp (by omega)) (oc (show b ≠ (0 : Int) by omega) (oc (show Value.int .i64 (IntKind.i64.wrap (Int.tdiv ((a + b) - 1) b)) = .int .i64 (((a + b) - 1) / b) from wrq (by omega)) on)))) (by kernel_rfl) fun w1 hA => ?_
  exact ret (v := .int .i64 (((a + b) - 1) / b)) hA [] (by kernel_rfl) ⟨by rfl, hA.below⟩
theorem gcd_max {n d : Int} : gcdZ (max n (-n)) d = gcdZ n d := by
  unfold gcdZ
  rcases Int.le_total n 0 with h | h
  · rw [show max n (-n) = -n by omega, Int.neg_gcd]
  · rw [show max n (-n) = n by omega]
set_option maxRecDepth 20000 in
theorem rfraction_any (w : World) (n d : Int) (hn : -9223372036854775807 ≤ n ∧ n ≤ 9223372036854775807) (hd : 0 < d ∧ d ≤ 9223372036854775807) :
    Calls Try.prog 52 #[.int .i64 n, .int .i64 d] w fun e w' => e = .returned (.agg #[.int .i64 ((ratF n d).1), .int .i64 ((ratF n d).2)]) ∧ Below w.heap.size w w' := by
  refine enter 25 Try.func52 (by kernel_rfl) fun hA => ?_
  refine runS hA 18 [.v (.int .i64 (-n)), .v (.int .i64 (max n (-n)))] xn (oc (show Value.int .i64 (IntKind.i64.wrap (0 - n)) = .int .i64 (-n) from wrn (by omega)) (oc (show Value.int .i64 (if (-n) > n then -n else n) = .int .i64 (max n (-n)) from mxq) on)) (by kernel_rfl) fun w1 hA => ?_
  refine loop (γ := Int × Int) (fun ⟨x, y⟩ => [(0, .int .i64 n), (1, .int .i64 d), (4, .pointer (some ⟨w.heap.size, 0, none⟩)), (5, .int .i64 x), (6, .int .i64 y)]) (fun ⟨x, y⟩ => [⟨w.heap.size, .cells #[.int .i64 0, .int .i64 0] 23 (0, 0)⟩]) (fun _ => []) (fun g ⟨x, y⟩ wr => g = y.natAbs ∧ (0 ≤ x ∧ x ≤ 9223372036854775807) ∧ (0 ≤ y ∧ y ≤ 9223372036854775807) ∧ gcdZ x y = gcdZ n d) d.natAbs ⟨max n (-n), d⟩ [true] hA (by kernel_rfl) (⟨rfl, by omega, by omega, gcd_max⟩) ?_
  rintro _ ⟨x, y⟩ wr ⟨rfl, hx, hy, hg⟩ J hJ hA
  by_cases h0 : y > 0
  case neg =>
    obtain rfl : y = 0 := by omega
    refine runS hA 10 [] xn on (by kernel_rfl) fun w2 hA => ?_
    refine leave hA (by kernel_rfl) fun hA => ?_
    have hgp := gcdZ_pos (a := n) hd.1
    have hxg : x = gcdZ n d := by rw [← hg, gcdZ_zero]; omega
    refine revals hA (rc 5 (show .int .i64 x = .int .i64 (gcdZ n d) by rw [hxg]) rn) (by kernel_rfl) fun hA => ?_
    refine runS hA 3 [] xn on (by kernel_rfl) fun w3 hA => ?_
    refine draw hA [false] [0, 1, 2, 3, 4, 5, 6, 7] (by kernel_rfl) (by kernel_rfl) fun hA => ?_
    refine runS hA 11 [.t 0, .t 1, .t 2, .v (.int .i64 (Int.tdiv n (gcdZ n d))), .z, .t 3, .t 4, .t 5, .v (.int .i64 (Int.tdiv d (gcdZ n d))), .z, .t 6, .h 7, .k 0, .k 0, .b true] xn (oc (show (gcdZ n d) ≠ (0 : Int) by omega) (oc (show Value.int .i64 (IntKind.i64.wrap (Int.tdiv n (gcdZ n d))) = .int .i64 (Int.tdiv n (gcdZ n d)) from wrt (by omega)) (oc (show (gcdZ n d) ≠ (0 : Int) by omega) (oc (show Value.int .i64 (IntKind.i64.wrap (Int.tdiv d (gcdZ n d))) = .int .i64 (Int.tdiv d (gcdZ n d)) from wrt (by omega)) on)))) (by kernel_rfl) fun w4 hA => ?_
    exact ret (v := .agg #[.int .i64 (Int.tdiv n (gcdZ n d)), .int .i64 (Int.tdiv d (gcdZ n d))]) hA [.k 0, .k 0] (by kernel_rfl) ⟨by rw [(rat_tdiv n d).1, (rat_tdiv n d).2], hA.below⟩
  case pos =>
    refine runS hA 11 [.b true] xn (oc (dec_t h0) on) (by kernel_rfl) fun w2 hA => ?_
    refine draw hA [true] [0, 1, 2, 3, 4, 5] (by kernel_rfl) (by kernel_rfl) fun hA => ?_
    refine runS hA 8 [.t 0, .t 1, .t 2, .t 3, .v (.int .i64 (Int.tmod x y)), .z, .t 4, .t 5, .b true] xn (oc (show y ≠ (0 : Int) by omega) (oc (show (.int .i64 (Int.tmod x y) : Value) = .int .i64 (Int.tmod x y) from rfl) on)) (by kernel_rfl) fun w3 hA => ?_
    have hm := Int.natAbs_tmod x y
    have hl := Nat.mod_lt x.natAbs (show 0 < y.natAbs by omega)
    have hn := Int.tmod_nonneg y hx.1
    exact again hJ ((Int.tmod x y).natAbs) (⟨y, Int.tmod x y⟩) [true] hA (by omega) (by kernel_rfl) (⟨rfl, by omega, by omega, by rw [gcdZ_step (by omega)]; exact hg⟩)
end Go.Proofs.Ytfidkgpimlpdbaa

/- odds: the reference's Simplest. -/
namespace Go.Proofs.Ytfidkgpimlpdbaa
open Go.RowKit Go.Shelf

theorem up_bd {a b q : Int} (ha : 0 ≤ a ∧ a ≤ 1000 * b) (hb : 1 ≤ b) (hq : 0 ≤ q) : 0 ≤ (a * q + b - 1) / b ∧ (a * q + b - 1) / b ≤ 1000 * q + 1 := by
  have h0 := Int.mul_nonneg ha.1 hq
  have h1 := ceil_is (a := a * q) hb
  refine ⟨Int.ediv_nonneg (by omega) (by omega), ?_⟩
  have h2 := Int.mul_le_mul_of_nonneg_right ha.2 hq
  have h3 : ((a * q + b - 1) / b - 1) * b < (1000 * q + 1) * b := by
    have e : (1000 * q + 1) * b = 1000 * b * q + b := by rw [Int.add_mul, Int.one_mul, Int.mul_assoc, Int.mul_assoc, Int.mul_comm q b]
    omega
  have := Int.lt_of_mul_lt_mul_right h3 (by omega)
  omega
theorem aq_bd {a b q : Int} (ha : 0 ≤ a ∧ a ≤ 1000 * b) (hb : 1 ≤ b ∧ b ≤ 1000000) (hq : 0 ≤ q ∧ q ≤ 1000000) : 0 ≤ a * q ∧ a * q ≤ 1000000000000000 := by
  have h0 := Int.mul_nonneg ha.1 hq.1
  have h1 := Int.mul_le_mul (show a ≤ 1000000000 by omega) hq.2 hq.1 (by decide)
  omega
theorem simp_up {a b c d p q : Int} (h : IsSimp a b c d p q) (hb : 1 ≤ b) (hd : 1 ≤ d) : (a * q + b - 1) / b = p := by
  have h1 := ceil_is (a := a * q) hb
  have h2 := h.lo
  have h3 : (a * q + b - 1) / b ≤ p := by
    have := Int.lt_of_mul_lt_mul_right (Int.lt_of_lt_of_le h1.2 h2) (by omega)
    omega
  have h4 := Int.mul_le_mul_of_nonneg_right h3 (show 0 ≤ d by omega)
  have h5 := h.least _ q h.q1 h1.1 (Int.le_trans h4 h.hi)
  have := h5.2 rfl
  omega
theorem simp_no {a b c d p q q' : Int} (h : IsSimp a b c d p q) (hb : 1 ≤ b) (h1 : 1 ≤ q') (hq : q' < q) : c * q' < (a * q' + b - 1) / b * d := by
  have h2 := ceil_is (a := a * q') hb
  rcases Int.lt_or_le (c * q') ((a * q' + b - 1) / b * d) with h3 | h3
  · exact h3
  · have := (h.least _ q' h1 h2.1 h3).1
    omega
theorem simp_rat {a b c d p q : Int} (h : IsSimp a b c d p q) : ratF p q = (p, q) := by
  have hq := h.q1
  have hg := gcdZ_pos (a := p) (show 0 < q by omega)
  have hm := rat_mul (n := p) (d := q)
  have hp := rat_pos (n := p) (show 0 < q by omega)
  have hlo := h.lo
  have hhi := h.hi
  have h1 : a * (ratF p q).2 ≤ (ratF p q).1 * b := by
    refine Int.le_of_mul_le_mul_right ?_ hg
    rw [Int.mul_assoc, ← hm.2, Int.mul_right_comm, ← hm.1]
    exact hlo
  have h2 : (ratF p q).1 * d ≤ c * (ratF p q).2 := by
    refine Int.le_of_mul_le_mul_right ?_ hg
    rw [Int.mul_assoc c, ← hm.2, Int.mul_right_comm, ← hm.1]
    exact hhi
  have h3 := (h.least _ _ (by omega) h1 h2).1
  have h4 : gcdZ p q = 1 := by
    have h5 : (ratF p q).2 = q := by omega
    have h6 : q * gcdZ p q = q * 1 := by rw [Int.mul_one]; rw [h5] at hm; exact hm.2.symm
    exact Int.eq_of_mul_eq_mul_left (by omega) h6
  rw [h4, Int.mul_one, Int.mul_one] at hm
  exact Prod.ext hm.1.symm hm.2.symm
set_option maxHeartbeats 1000000 in
set_option maxRecDepth 20000 in
theorem rSimplest_any (w : World) (a b c d : Int) :
    Calls Try.prog 24 #[.agg #[.int .i64 a, .int .i64 b], .agg #[.int .i64 c, .int .i64 d]] w fun e w' => e = .returned (.tuple #[.agg #[.int .i64 (simpA a b c d).1, .int .i64 (simpA a b c d).2], .int .i64 (simpE a b c d)]) ∧ Below w.heap.size w w' := by
  refine enter 43 Try.func24 (by kernel_rfl) fun hA => ?_
  refine runS hA 12 [.k 0, .k 0] xn on (by kernel_rfl) fun w1 hA => ?_
  refine callB hA [] on (risFraction_any w1 a b ) (by kernel_rfl) fun w2 hb2 hA => ?_
  refine runS hA 2 [.t 0] xn on (by kernel_rfl) fun w3 hA => ?_
  have hq9 := Bool.eq_false_or_eq_true ((isFracF a b))
  rcases hq9 with ht1 | ht1
  ·
    refine runS hA 1 [.g false, .k 1, .k 1] xn (oc (show Value.bool (!(isFracF a b)) = .bool false by rw [ht1] <;> rfl) on) (by kernel_rfl) fun w4 hA => ?_
    refine callB hA [] on (risFraction_any w4 c d ) (by kernel_rfl) fun w5 hb5 hA => ?_
    refine runS hA 3 [.g false, .t 0] xn (oc (rfl : Value.bool false = .bool false) on) (by kernel_rfl) fun w6 hA => ?_
    have hq9 := Bool.eq_false_or_eq_true ((isFracF c d))
    rcases hq9 with ht2 | ht2
    ·
      refine runS hA 2 [.g false, .k 1, .k 1, .g false, .k 0, .k 0] xn (oc (show Value.bool (!(isFracF c d)) = .bool false by rw [ht2] <;> rfl) (oc (rfl : Value.bool false = .bool false) on)) (by kernel_rfl) fun w7 hA => ?_
      refine callB hA [] on (rless_any w7 c d a b ((by have h8 := frac_iff.1 ht1; have h9 := frac_iff.1 ht2; exact pc1 (by omega) (by omega))) ((by have h8 := frac_iff.1 ht1; have h9 := frac_iff.1 ht2; exact pc1 (by omega) (by omega)))) (by kernel_rfl) fun w8 hb8 hA => ?_
      refine runS hA 3 [.t 0] xn on (by kernel_rfl) fun w9 hA => ?_
      by_cases ht3 : c * b < a * d
      case pos =>
        refine runS hA 10 [.b true, .k 2, .k 2] xn (oc (dec_t ht3) on) (by kernel_rfl) fun w10 hA => ?_
        have hE : simpE a b c d = 3 := by simp [simpE, ht1, ht2, ht3]
        exact ret (v := .tuple #[.agg #[.int .i64 0, .int .i64 0], .int .i64 3]) hA [.k 2, .k 2] (by kernel_rfl) ⟨by unfold simpA; rw [hE]; rfl, hA.below⟩
      case neg =>
        refine runS hA 10 [.b false] xn (oc (dec_f ht3) on) (by kernel_rfl) fun w10 hA => ?_
        have hE : simpE a b c d = 0 := by simp [simpE, ht1, ht2, ht3]
        have hk := simpE_ok.1 hE
        have hS := simp_is (b + d).toNat a b c d hk.1.2.1 hk.1.1.1 hk.2.1.1.1 hk.2.2 (by omega)
        have hq9 : ∃ P Q, simpF (b + d).toNat a b c d = (P, Q) := ⟨_, _, rfl⟩
        obtain ⟨P, Q, hPQ⟩ := hq9
        rw [hPQ] at hS
        simp only at hS
        have hbd := hS.bd hk.1.2.1 hk.1.1.1 hk.2.1.1.1 hk.2.2
        have hQ1 := hS.q1
        refine loop (γ := Int) (fun q => [(2, .pointer (some ⟨w.heap.size, 0, none⟩)), (3, .pointer (some ⟨w.heap.size + 1, 0, none⟩)), (4, .pointer (some ⟨w.heap.size + 2, 0, none⟩)), (5, .int .i64 0), (6, .int .i64 q)]) (fun q => [⟨w.heap.size, .cells #[.int .i64 a, .int .i64 b] 23 (0, 0)⟩, ⟨w.heap.size + 1, .cells #[.int .i64 c, .int .i64 d] 23 (0, 0)⟩, ⟨w.heap.size + 2, .cells #[.int .i64 0, .int .i64 0] 23 (0, 0)⟩]) (fun _ => []) (fun g q wr => (1 ≤ q ∧ q ≤ Q) ∧ g = (Q - q).toNat + 1) Q.toNat 1 [true, true, true] hA (by kernel_rfl) (⟨⟨Int.le_refl _, hQ1⟩, by omega⟩) ?_
        rintro _ q wr ⟨hq, rfl⟩ J hJ hA
        have hub := up_bd (q := q) hk.1.2 hk.1.1.1 (by omega)
        have haq := aq_bd (q := q) hk.1.2 hk.1.1 (by omega)
        refine runS hA 2 [] xn on (by kernel_rfl) fun w11 hA => ?_
        refine draw hA [true, true, true] [0, 1, 2, 3, 4, 5, 6, 7, 8, 9, 10] (by kernel_rfl) (by kernel_rfl) fun hA => ?_
        refine runS hA 8 [.t 0, .k 1, .k 1, .t 1, .t 2, .k 0, .t 3, .t 4, .v (.int .i64 (a * q)), .t 5, .t 6, .k 0, .t 8] xn (oc (show Value.int .i64 (IntKind.i64.wrap (a * q)) = .int .i64 (a * q) from wrp (by omega)) on) (by kernel_rfl) fun w12 hA => ?_
        have hA0D4 := hA
        refine latK hA0D4 [7, 9, 10] (γ := Unit) (fun _ => [(2, .pointer (some ⟨w.heap.size, 0, none⟩)), (3, .pointer (some ⟨w.heap.size + 1, 0, none⟩)), (4, .pointer (some ⟨w.heap.size + 2, 0, none⟩)), (5, .int .i64 0), (6, .int .i64 q), (31, .bool (decide (c * q < (((a * q) + b - 1) / b) * d)))]) (fun _ => [⟨w.heap.size, .cells #[.int .i64 a, .int .i64 b] 23 (0, 0)⟩, ⟨w.heap.size + 1, .cells #[.int .i64 c, .int .i64 d] 23 (0, 0)⟩, ⟨w.heap.size + 2, .cells #[.int .i64 0, .int .i64 0] 23 (0, 0)⟩]) (fun _ => []) (fun _ _ => True) (fun hD47_10 => ?_) ?_
        ·
          refine latS hA0D4 [7, 9] (γ := Unit) (fun _ => [(2, .pointer (some ⟨w.heap.size, 0, none⟩)), (3, .pointer (some ⟨w.heap.size + 1, 0, none⟩)), (4, .pointer (some ⟨w.heap.size + 2, 0, none⟩)), (5, .int .i64 0), (6, .int .i64 q), (21, .agg #[.int .i64 c, .int .i64 d]), (22, .pointer (some ⟨w.heap.size, 0, none⟩)), (23, .int .i64 a), (24, .int .i64 q), (25, .int .i64 (a * q)), (26, .pointer (some ⟨w.heap.size, 1, none⟩)), (27, .int .i64 b), (28, .int .i64 (((a * q) + b - 1) / b)), (29, .int .i64 q), (30, .agg #[.int .i64 (((a * q) + b - 1) / b), .int .i64 q])]) (fun _ => [⟨w.heap.size, .cells #[.int .i64 a, .int .i64 b] 23 (0, 0)⟩, ⟨w.heap.size + 1, .cells #[.int .i64 c, .int .i64 d] 23 (0, 0)⟩, ⟨w.heap.size + 2, .cells #[.int .i64 0, .int .i64 0] 23 (0, 0)⟩]) (fun _ => []) (fun _ _ => True) ?_ (fun hD47 => ?_)
          · rintro _ wl13 _ hA
            refine callB hA [] on (rless_any wl13 c d (((a * q) + b - 1) / b) q ((pc1 (by omega) (by omega))) ((pc1 (by omega) (by omega)))) (by kernel_rfl) fun w114 hb114 hA => ?_
            exact joinE hD47_10 () trivial [0, 1, 2] hA rfl (by kernel_rfl) (by decide)
          replace hA := hA0D4
          refine callB hA [] on (up_any w12 (a * q) b (by omega) (by omega)) (by kernel_rfl) fun w14 hb14 hA => ?_
          refine runS hA 1 [.t 9] xn on (by kernel_rfl) fun w15 hA => ?_
          exact joinE hD47 () trivial [0, 1, 2] hA rfl (by kernel_rfl) (by decide)
        rintro _ w63 _ hA
        refine runS hA 2 [.b true, .t 0] xn on (by kernel_rfl) fun w64 hA => ?_
        by_cases ht5 : c * q < (((a * q) + b - 1) / b) * d
        case pos =>
          refine runS hA 10 [.b true, .v (.int .i64 (q + 1))] xn (oc (dec_t ht5) (oc (show Value.int .i64 (IntKind.i64.wrap (q + 1)) = .int .i64 (q + 1) from wrp (by omega)) on)) (by kernel_rfl) fun w65 hA => ?_
          have hlt : q < Q := by
            have hq9 := Int.lt_or_le q Q
            rcases hq9 with h9 | h9
            · exact h9
            · have e9 : q = Q := by omega
              rw [e9, simp_up hS hk.1.1.1 hk.2.1.1.1] at ht5
              have := hS.hi
              omega
          exact again hJ ((Q - (q + 1)).toNat + 1) (q + 1) [true, true, true] hA (by omega) (by kernel_rfl) (⟨⟨by omega, by omega⟩, rfl⟩)
        case neg =>
          refine runS hA 3 [.b false] xn (oc (dec_f ht5) on) (by kernel_rfl) fun w65 hA => ?_
          have hQe : q = Q := by
            have hq9 := Int.lt_or_le q Q
            rcases hq9 with h9 | h9
            · have := simp_no hS hk.1.1.1 hq.1 h9; omega
            · omega
          refine leave hA (by kernel_rfl) fun hA => ?_
          refine runS hA 10 [.k 0, .v (.int .i64 (a * q)), .k 0] xn (oc (show Value.int .i64 (IntKind.i64.wrap (a * q)) = .int .i64 (a * q) from wrp (by omega)) on) (by kernel_rfl) fun w66 hA => ?_
          refine callB hA [] on (up_any w66 (a * q) b (by omega) (by omega)) (by kernel_rfl) fun w67 hb67 hA => ?_
          refine runS hA 1 [] xn on (by kernel_rfl) fun w68 hA => ?_
          have hup := simp_up hS hk.1.1.1 hk.2.1.1.1
          rw [← hQe] at hup
          refine callB hA [] on (rfraction_any w68 (((a * q) + b - 1) / b) q (by omega) (by omega)) (by kernel_rfl) fun w69 hb69 hA => ?_
          refine runS hA 5 [.k 2, .k 2] xn on (by kernel_rfl) fun w70 hA => ?_
          exact ret (v := .tuple #[.agg #[.int .i64 ((ratF (((a * q) + b - 1) / b) q).1), .int .i64 ((ratF (((a * q) + b - 1) / b) q).2)], .int .i64 0]) hA [.k 2, .k 2] (by kernel_rfl) ⟨by unfold simpA; rw [if_pos hE, hE, hPQ, hup, hQe, simp_rat hS], hA.below⟩
    ·
      refine runS hA 16 [.g true, .g true, .g true, .k 2, .k 2] xn (oc (show Value.bool (!(isFracF c d)) = .bool true by rw [ht2] <;> rfl) (oc (rfl : Value.bool true = .bool true) (oc (rfl : Value.bool true = .bool true) on))) (by kernel_rfl) fun w7 hA => ?_
      have hE : simpE a b c d = 3 := by simp [simpE, ht1, ht2]
      exact ret (v := .tuple #[.agg #[.int .i64 0, .int .i64 0], .int .i64 3]) hA [.k 2, .k 2] (by kernel_rfl) ⟨by unfold simpA; rw [hE]; rfl, hA.below⟩
  ·
    refine runS hA 21 (List.replicate 6 (.g true) ++ [.k 2, .k 2]) xn (oc (show Value.bool (!(isFracF a b)) = .bool true by rw [ht1] <;> rfl) (oc (rfl : Value.bool true = .bool true) (oc (rfl : Value.bool true = .bool true) (oc (rfl : Value.bool true = .bool true) (oc (rfl : Value.bool true = .bool true) (oc (rfl : Value.bool true = .bool true) on)))))) (by kernel_rfl) fun w4 hA => ?_
    have hE : simpE a b c d = 3 := by simp [simpE, ht1]
    exact ret (v := .tuple #[.agg #[.int .i64 0, .int .i64 0], .int .i64 3]) hA [.k 2, .k 2] (by kernel_rfl) ⟨by unfold simpA; rw [hE]; rfl, hA.below⟩
end Go.Proofs.Ytfidkgpimlpdbaa

/- odds: the reference's CheckMarket. -/
namespace Go.Proofs.Ytfidkgpimlpdbaa
open Go.RowKit Go.Shelf

theorem mkt_six {m : Int} {qs : List Qt} (h : ¬ (1 ≤ m ∧ m ≤ 5) ∨ 12 < (qs.length : Int)) : mktE m qs = 6 := by unfold mktE; rw [if_pos h]
theorem mkt_two {m : Int} {qs : List Qt} {i : Nat} (h : (1 ≤ m ∧ m ≤ 5) ∧ (qs.length : Int) ≤ 12) (hi : i < qs.length) (h1 : runF m (qs[i]?.getD noQ).r = false) : mktE m qs = 2 := by
  unfold mktE
  rw [if_neg (by omega), if_pos (List.any_eq_true.2 ⟨_, get_mem hi, by rw [h1]; rfl⟩)]
theorem all_get {qs : List Qt} {p : Qt → Bool} (h : ∀ j, j < qs.length → p (qs[j]?.getD noQ) = false) : (qs.any p) = false := by
  rw [List.any_eq_false]
  intro x hx
  obtain ⟨j, hj, rfl⟩ := List.mem_iff_getElem.1 hx
  have := h j hj
  rw [List.getElem?_eq_getElem hj] at this
  simpa using this
theorem mkt_three {m : Int} {qs : List Qt} {i : Nat} (h : (1 ≤ m ∧ m ≤ 5) ∧ (qs.length : Int) ≤ 12) (h2 : ∀ j, j < qs.length → runF m (qs[j]?.getD noQ).r = true) (hi : i < qs.length) (h1 : beyondF (qs[i]?.getD noQ).n (qs[i]?.getD noQ).d = true) : mktE m qs = 3 := by
  unfold mktE
  rw [if_neg (by omega), all_get fun j hj => by rw [h2 j hj]; rfl]
  simp only [Bool.false_eq_true, if_false]
  rw [if_pos (List.any_eq_true.2 ⟨_, get_mem hi, h1⟩)]
theorem mkt_zero {m : Int} {qs : List Qt} (h : (1 ≤ m ∧ m ≤ 5) ∧ (qs.length : Int) ≤ 12) (h2 : ∀ j, j < qs.length → runF m (qs[j]?.getD noQ).r = true) (h3 : ∀ j, j < qs.length → beyondF (qs[j]?.getD noQ).n (qs[j]?.getD noQ).d = false) : mktE m qs = 0 := by
  unfold mktE
  rw [if_neg (by omega), all_get (fun j hj => by rw [h2 j hj]; rfl), all_get h3]
  rfl
set_option maxHeartbeats 1000000 in
set_option maxRecDepth 20000 in
theorem rCheckMarket_any (w : World) (B : Nat) (m : Int) (A : Option Addr) (n c : Nat) (qs : List Qt) (hx : QtsAt w B A n qs) (hB : B ≤ w.heap.size) :
    Calls Try.prog 36 #[.agg #[.int .i64 m, .slice A n c]] w fun e w' => e = .returned (.int .i64 (mktE m qs)) ∧ Below w.heap.size w w' := by
  have hl := hx.1
  have hn9 := hx.2.1
  refine enter 75 Try.func36 (by kernel_rfl) fun hA => ?_
  refine runS hA 13 [.k 0, .t 0] xn on (by kernel_rfl) fun w1 hA => ?_
  by_cases ht1 : (m : Int) < (1 : Int)
  case pos =>
    refine runS hA 20 (List.replicate 7 (.g true)) xn (oc (dec_t ht1) (oc (rfl : Value.bool true = .bool true) (oc (rfl : Value.bool true = .bool true) (oc (rfl : Value.bool true = .bool true) (oc (rfl : Value.bool true = .bool true) (oc (rfl : Value.bool true = .bool true) (oc (rfl : Value.bool true = .bool true) on))))))) (by kernel_rfl) fun w2 hA => ?_
    exact ret (v := .int .i64 6) hA [] (by kernel_rfl) ⟨by rw [mkt_six (by omega)], hA.below⟩
  case neg =>
    refine runS hA 5 [.g false, .g false, .k 0, .g false, .t 0] xn (oc (dec_f ht1) (oc (rfl : Value.bool false = .bool false) (oc (rfl : Value.bool false = .bool false) on))) (by kernel_rfl) fun w2 hA => ?_
    by_cases ht2 : (m : Int) > (5 : Int)
    case pos =>
      refine runS hA 15 (List.replicate 4 (.g true)) xn (oc (dec_t ht2) (oc (rfl : Value.bool true = .bool true) (oc (rfl : Value.bool true = .bool true) (oc (rfl : Value.bool true = .bool true) on)))) (by kernel_rfl) fun w3 hA => ?_
      exact ret (v := .int .i64 6) hA [] (by kernel_rfl) ⟨by rw [mkt_six (by omega)], hA.below⟩
    case neg =>
      refine runS hA 7 [.g false, .g false, .k 0, .g false, .g false, .t 0] xn (oc (dec_f ht2) (oc (rfl : Value.bool false = .bool false) (oc (rfl : Value.bool false = .bool false) (oc (rfl : Value.bool false = .bool false) on)))) (by kernel_rfl) fun w3 hA => ?_
      by_cases ht3 : (n : Int) > (12 : Int)
      case pos =>
        refine runS hA 8 [.b true] xn (oc (dec_t ht3) on) (by kernel_rfl) fun w4 hA => ?_
        exact ret (v := .int .i64 6) hA [] (by kernel_rfl) ⟨by rw [mkt_six (by omega)], hA.below⟩
      case neg =>
        refine runS hA 10 [.b false] xn (oc (dec_f ht3) on) (by kernel_rfl) fun w4 hA => ?_
        have hok : (1 ≤ m ∧ m ≤ 5) ∧ (qs.length : Int) ≤ 12 := by omega
        refine loop (γ := Nat) (fun i => [(1, .pointer (some ⟨w.heap.size, 0, none⟩)), (3, .int .i64 (i : Int))]) (fun i => [⟨w.heap.size, .cells #[.int .i64 m, .slice A n c] 44 (0, 0)⟩]) (fun _ => []) (fun g i wr => i ≤ n ∧ g = n - i ∧ ∀ j, j < i → runF m (qs[j]?.getD noQ).r = true) n 0 [true] hA (by kernel_rfl) (⟨by omega, rfl, fun j hj => absurd hj (Nat.not_lt_zero _)⟩) ?_
        rintro _ i wr ⟨hi, rfl, hru⟩ J hJ hA
        by_cases hlt : i < n
        case neg =>
          refine runS hA 13 [.k 0, .b false] xn (oc (dec_f (show ¬ ((i : Int) < (n : Int)) by omega)) on) (by kernel_rfl) fun w5 hA => ?_
          refine leave hA (by kernel_rfl) fun hA => ?_
          have hra : ∀ j, j < qs.length → runF m (qs[j]?.getD noQ).r = true := fun j hj => hru j (by omega)
          refine runS hA 9 [] xn on (by kernel_rfl) fun w6 hA => ?_
          refine loop (γ := Nat) (fun k => [(1, .pointer (some ⟨w.heap.size, 0, none⟩)), (4, .int .i64 (k : Int))]) (fun k => [⟨w.heap.size, .cells #[.int .i64 m, .slice A n c] 44 (0, 0)⟩]) (fun _ => []) (fun g k wt => k ≤ n ∧ g = n - k ∧ ∀ j, j < k → beyondF (qs[j]?.getD noQ).n (qs[j]?.getD noQ).d = false) n 0 [true] hA (by kernel_rfl) (⟨by omega, rfl, fun j hj => absurd hj (Nat.not_lt_zero _)⟩) ?_
          rintro _ k wt ⟨hk, rfl, hbe⟩ J2 hJ2 hA
          by_cases hlk : k < n
          case neg =>
            refine runS hA 13 [.k 0, .b false] xn (oc (dec_f (show ¬ ((k : Int) < (n : Int)) by omega)) on) (by kernel_rfl) fun w7 hA => ?_
            refine leave hA (by kernel_rfl) fun hA => ?_
            refine runS hA 8 [] xn on (by kernel_rfl) fun w8 hA => ?_
            exact ret (v := .int .i64 0) hA [] (by kernel_rfl) ⟨by rw [mkt_zero hok hra fun j hj => hbe j (by omega)], hA.below⟩
          case pos =>
            have hq9 := hx.at (hlk)
            obtain ⟨b, off, rfl, hlb, hcb⟩ := hq9
            have k0 := hcb 0 _ rfl
            have k1 := hcb 1 _ rfl
            have k2 := hcb 2 _ rfl
            have k3 := hcb 3 _ rfl
            refine runS hA 32 ([.k 0, .b true, .k 0, .i, .x (.int .i64 ((qs[k]?.getD noQ).r)), .x (.int .i64 ((qs[k]?.getD noQ).n)), .x (.int .i64 ((qs[k]?.getD noQ).d)), .x (.bool ((qs[k]?.getD noQ).lay))] ++ List.replicate 5 (.k 1) ++ [.t 0]) (xc (a := ⟨b, off + k * 4, none⟩) ⟨Nat.lt_of_lt_of_le hlb hB, k0⟩ (xc (a := ⟨b, off + k * 4 + 1, none⟩) ⟨Nat.lt_of_lt_of_le hlb hB, k1⟩ (xc (a := ⟨b, off + k * 4 + 2, none⟩) ⟨Nat.lt_of_lt_of_le hlb hB, k2⟩ (xc (a := ⟨b, off + k * 4 + 3, none⟩) ⟨Nat.lt_of_lt_of_le hlb hB, k3⟩ xn)))) (oc (dec_t (show (k : Int) < (n : Int) by omega)) (oc (show (0 : Int) ≤ ((k : Int) : Int) ∧ ((k : Int) : Int) < (n : Int) by omega) on)) (by kernel_rfl) fun w7 hA => ?_
            by_cases ht4 : ((qs[k]?.getD noQ).n : Int) < (0 : Int)
            case pos =>
              refine runS hA 25 (List.replicate 9 (.g true)) xn (oc (dec_t ht4) (oc (rfl : Value.bool true = .bool true) (oc (rfl : Value.bool true = .bool true) (oc (rfl : Value.bool true = .bool true) (oc (rfl : Value.bool true = .bool true) (oc (rfl : Value.bool true = .bool true) (oc (rfl : Value.bool true = .bool true) (oc (rfl : Value.bool true = .bool true) (oc (rfl : Value.bool true = .bool true) on))))))))) (by kernel_rfl) fun w8 hA => ?_
              have hB : beyondF (qs[k]?.getD noQ).n (qs[k]?.getD noQ).d = true := by simp [beyondF]; omega
              refine leave hA (by kernel_rfl) fun hA => ?_
              refine runS hA 2 [] xn on (by kernel_rfl) fun w9 hA => ?_
              exact ret (v := .int .i64 3) hA [] (by kernel_rfl) ⟨by rw [mkt_three hok hra (by omega) hB], hA.below⟩
            case neg =>
              refine runS hA 5 [.g false, .g false, .k 1, .g false, .t 0] xn (oc (dec_f ht4) (oc (rfl : Value.bool false = .bool false) (oc (rfl : Value.bool false = .bool false) on))) (by kernel_rfl) fun w8 hA => ?_
              by_cases ht5 : ((qs[k]?.getD noQ).n : Int) > (190 : Int)
              case pos =>
                refine runS hA 20 (List.replicate 6 (.g true)) xn (oc (dec_t ht5) (oc (rfl : Value.bool true = .bool true) (oc (rfl : Value.bool true = .bool true) (oc (rfl : Value.bool true = .bool true) (oc (rfl : Value.bool true = .bool true) (oc (rfl : Value.bool true = .bool true) on)))))) (by kernel_rfl) fun w9 hA => ?_
                have hB : beyondF (qs[k]?.getD noQ).n (qs[k]?.getD noQ).d = true := by simp [beyondF]; omega
                refine leave hA (by kernel_rfl) fun hA => ?_
                refine runS hA 2 [] xn on (by kernel_rfl) fun w10 hA => ?_
                exact ret (v := .int .i64 3) hA [] (by kernel_rfl) ⟨by rw [mkt_three hok hra (by omega) hB], hA.below⟩
              case neg =>
                refine runS hA 5 [.g false, .g false, .k 1, .g false, .t 0] xn (oc (dec_f ht5) (oc (rfl : Value.bool false = .bool false) (oc (rfl : Value.bool false = .bool false) on))) (by kernel_rfl) fun w9 hA => ?_
                by_cases ht6 : ((qs[k]?.getD noQ).d : Int) < (1 : Int)
                case pos =>
                  refine runS hA 15 [.g true, .g true, .g true] xn (oc (dec_t ht6) (oc (rfl : Value.bool true = .bool true) (oc (rfl : Value.bool true = .bool true) on))) (by kernel_rfl) fun w10 hA => ?_
                  have hB : beyondF (qs[k]?.getD noQ).n (qs[k]?.getD noQ).d = true := by simp [beyondF]; omega
                  refine leave hA (by kernel_rfl) fun hA => ?_
                  refine runS hA 2 [] xn on (by kernel_rfl) fun w11 hA => ?_
                  exact ret (v := .int .i64 3) hA [] (by kernel_rfl) ⟨by rw [mkt_three hok hra (by omega) hB], hA.below⟩
                case neg =>
                  refine runS hA 6 [.g false, .g false, .k 1, .g false, .t 0] xn (oc (dec_f ht6) (oc (rfl : Value.bool false = .bool false) (oc (rfl : Value.bool false = .bool false) on))) (by kernel_rfl) fun w10 hA => ?_
                  by_cases ht7 : ((qs[k]?.getD noQ).d : Int) > (10 : Int)
                  case pos =>
                    refine runS hA 9 [.b true] xn (oc (dec_t ht7) on) (by kernel_rfl) fun w11 hA => ?_
                    have hB : beyondF (qs[k]?.getD noQ).n (qs[k]?.getD noQ).d = true := by simp [beyondF]; omega
                    refine leave hA (by kernel_rfl) fun hA => ?_
                    refine runS hA 2 [] xn on (by kernel_rfl) fun w12 hA => ?_
                    exact ret (v := .int .i64 3) hA [] (by kernel_rfl) ⟨by rw [mkt_three hok hra (by omega) hB], hA.below⟩
                  case neg =>
                    refine runS hA 9 [.b false, .v (.int .i64 ((k : Int) + 1))] xn (oc (dec_f ht7) (oc (show Value.int .i64 (IntKind.i64.wrap ((k : Int) + 1)) = .int .i64 ((k : Int) + 1) from wrp (by omega)) on)) (by kernel_rfl) fun w11 hA => ?_
                    have hB : beyondF (qs[k]?.getD noQ).n (qs[k]?.getD noQ).d = false := by simp [beyondF]; omega
                    refine revals hA (rc 4 (show .int .i64 ((k : Int) + 1) = .int .i64 ((k + 1 : Nat) : Int) by rw [show ((k + 1 : Nat) : Int) = (k : Int) + 1 by omega]) rn) (by kernel_rfl) fun hA => ?_
                    exact again hJ2 (n - (k + 1)) (k + 1) [true, false] hA (by omega) (by kernel_rfl) (⟨by omega, rfl, fun j hj => by rcases Nat.lt_succ_iff_lt_or_eq.1 hj with h9 | h9; exact hbe j h9; rw [h9]; exact hB⟩)
        case pos =>
          have hq9 := hx.at (hlt)
          obtain ⟨b, off, rfl, hlb, hcb⟩ := hq9
          have k0 := hcb 0 _ rfl
          have k1 := hcb 1 _ rfl
          have k2 := hcb 2 _ rfl
          have k3 := hcb 3 _ rfl
          refine runS hA 16 [.k 0, .b true] xn (oc (dec_t (show (i : Int) < (n : Int) by omega)) on) (by kernel_rfl) fun w5 hA => ?_
          refine draw hA [true] [0, 1, 2, 3, 4, 5, 6, 7, 8, 9, 10, 11, 12, 13, 14, 15, 16, 17] (by kernel_rfl) (by kernel_rfl) fun hA => ?_
          refine runS hA 8 [.t 0, .t 1, .k 0, .t 2, .t 3, .i, .t 4, .t 5, .x (.int .i64 ((qs[i]?.getD noQ).r)), .t 6, .t 7, .t 0] (xc (a := ⟨b, off + ((i : Int).toNat) * 4, none⟩) ⟨Nat.lt_of_lt_of_le hlb hB, k0⟩ xn) (oc (show (0 : Int) ≤ ((i : Int) : Int) ∧ ((i : Int) : Int) < (n : Int) by omega) on) (by kernel_rfl) fun w6 hA => ?_
          by_cases ht8 : ((qs[i]?.getD noQ).r : Int) < (0 : Int)
          case pos =>
            refine runS hA 21 [.t 8, .g true, .t 9, .g true, .t 10, .g true, .t 11, .g true, .t 12, .g true, .t 13, .g true, .t 14, .g true, .t 15, .g true, .t 16, .g true, .t 17, .b true] xn (oc (dec_t ht8) (oc (rfl : Value.bool true = .bool true) (oc (rfl : Value.bool true = .bool true) (oc (rfl : Value.bool true = .bool true) (oc (rfl : Value.bool true = .bool true) (oc (rfl : Value.bool true = .bool true) (oc (rfl : Value.bool true = .bool true) (oc (rfl : Value.bool true = .bool true) (oc (rfl : Value.bool true = .bool true) on))))))))) (by kernel_rfl) fun w7 hA => ?_
            have hB : runF m (qs[i]?.getD noQ).r = false := by simp [runF]; omega
            refine leave hA (by kernel_rfl) fun hA => ?_
            refine runS hA 2 [] xn on (by kernel_rfl) fun w8 hA => ?_
            exact ret (v := .int .i64 2) hA [] (by kernel_rfl) ⟨by rw [mkt_two hok (by omega) hB], hA.below⟩
          case neg =>
            refine runS hA 12 [.t 8, .g false, .t 9, .g false, .k 0, .t 10, .g false, .t 11, .g false, .i, .t 12, .g false, .t 13, .g false, .x (.int .i64 ((qs[i]?.getD noQ).r)), .t 14, .g false, .t 15, .g false, .k 0, .t 16, .g false, .t 17, .b true, .t 0] (xc (a := ⟨b, off + ((i : Int).toNat) * 4, none⟩) ⟨Nat.lt_of_lt_of_le hlb hB, k0⟩ xn) (oc (dec_f ht8) (oc (rfl : Value.bool false = .bool false) (oc (rfl : Value.bool false = .bool false) (oc (rfl : Value.bool false = .bool false) (oc (show (0 : Int) ≤ ((i : Int) : Int) ∧ ((i : Int) : Int) < (n : Int) by omega) (oc (rfl : Value.bool false = .bool false) (oc (rfl : Value.bool false = .bool false) (oc (rfl : Value.bool false = .bool false) (oc (rfl : Value.bool false = .bool false) (oc (rfl : Value.bool false = .bool false) on)))))))))) (by kernel_rfl) fun w7 hA => ?_
            by_cases ht9 : ((qs[i]?.getD noQ).r : Int) ≥ (m : Int)
            case pos =>
              refine runS hA 9 [.b true] xn (oc (dec_t ht9) on) (by kernel_rfl) fun w8 hA => ?_
              have hB : runF m (qs[i]?.getD noQ).r = false := by simp [runF]; omega
              refine leave hA (by kernel_rfl) fun hA => ?_
              refine runS hA 2 [] xn on (by kernel_rfl) fun w9 hA => ?_
              exact ret (v := .int .i64 2) hA [] (by kernel_rfl) ⟨by rw [mkt_two hok (by omega) hB], hA.below⟩
            case neg =>
              refine runS hA 9 [.b false, .v (.int .i64 ((i : Int) + 1))] xn (oc (dec_f ht9) (oc (show Value.int .i64 (IntKind.i64.wrap ((i : Int) + 1)) = .int .i64 ((i : Int) + 1) from wrp (by omega)) on)) (by kernel_rfl) fun w8 hA => ?_
              have hB : runF m (qs[i]?.getD noQ).r = true := by simp [runF]; omega
              refine revals hA (rc 3 (show .int .i64 ((i : Int) + 1) = .int .i64 ((i + 1 : Nat) : Int) by rw [show ((i + 1 : Nat) : Int) = (i : Int) + 1 by omega]) rn) (by kernel_rfl) fun hA => ?_
              exact again hJ (n - (i + 1)) (i + 1) [true] hA (by omega) (by kernel_rfl) (⟨by omega, rfl, fun j hj => by rcases Nat.lt_succ_iff_lt_or_eq.1 hj with h9 | h9; exact hru j h9; rw [h9]; exact hB⟩)
end Go.Proofs.Ytfidkgpimlpdbaa
