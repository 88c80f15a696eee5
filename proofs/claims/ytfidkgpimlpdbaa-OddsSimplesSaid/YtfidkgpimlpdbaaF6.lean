/- Parts of a proof: OA OB OC. -/
import Derived.Test.YtfidkgpimlpdbaaF5

/- odds: numbers, fractions, slices. -/
namespace Go.Proofs.Ytfidkgpimlpdbaa
open Go.RowKit Go.Shelf

theorem wrp {x : Int} (h : -9223372036854775808 ≤ x ∧ x ≤ 9223372036854775807) : Value.int .i64 (IntKind.i64.wrap x) = .int .i64 x := by rw [IntKind.wrap_i64]; congr 1; omega
theorem wrn {x : Int} (h : -9223372036854775807 ≤ x ∧ x ≤ 9223372036854775807) : Value.int .i64 (IntKind.i64.wrap (0 - x)) = .int .i64 (-x) := by rw [IntKind.wrap_i64]; congr 1; omega
theorem tdiv_abs (a b : Int) : -a.natAbs ≤ a.tdiv b ∧ a.tdiv b ≤ a.natAbs := by
  have h : (a.tdiv b).natAbs ≤ a.natAbs := by rw [Int.natAbs_tdiv]; exact Nat.div_le_self _ _
  omega
theorem wrt {a b : Int} (h : -9223372036854775807 ≤ a ∧ a ≤ 9223372036854775807) : Value.int .i64 (IntKind.i64.wrap (Int.tdiv a b)) = .int .i64 (Int.tdiv a b) := by
  have := tdiv_abs a b
  exact wrp (by omega)
theorem wrq {a b : Int} (h : 0 ≤ a ∧ a ≤ 9223372036854775807) : Value.int .i64 (IntKind.i64.wrap (Int.tdiv a b)) = .int .i64 (a / b) := by
  rw [wrt (by omega), Int.tdiv_eq_ediv_of_nonneg h.1]
theorem rmq {a b : Int} (h : 0 ≤ a) : Value.int .i64 (Int.tmod a b) = .int .i64 (a % b) := by rw [Int.tmod_eq_emod_of_nonneg h]
theorem mxq {a b : Int} : Value.int .i64 (if b > a then b else a) = .int .i64 (max a b) := by congr 1; rw [Int.max_def]; split <;> split <;> omega
theorem mnq {a b : Int} : Value.int .i64 (if b < a then b else a) = .int .i64 (min a b) := by congr 1; rw [Int.min_def]; split <;> split <;> omega

abbrev Rt := Int × Int
/-- The greatest common divisor. -/
def gcdZ (a b : Int) : Int := (Int.gcd a b : Int)
def ratF (n d : Int) : Rt := (n / gcdZ n d, d / gcdZ n d)
theorem gcdZ_nonneg (a b : Int) : 0 ≤ gcdZ a b := Int.natCast_nonneg _
theorem gcdZ_pos {a b : Int} (h : 0 < b) : 0 < gcdZ a b := by
  have : 0 < Int.gcd a b := Int.gcd_pos_of_ne_zero_right _ (by omega)
  unfold gcdZ; omega
theorem gcdZ_le {a b : Int} (h : 0 < b) : gcdZ a b ≤ b := Int.le_of_dvd h (Int.gcd_dvd_right ..)
theorem gcdZ_step {a b : Int} (_h : b ≠ 0) : gcdZ b (a.tmod b) = gcdZ a b := by
  unfold gcdZ
  congr 1
  show Nat.gcd b.natAbs (a.tmod b).natAbs = Nat.gcd a.natAbs b.natAbs
  rw [Int.natAbs_tmod, Nat.gcd_comm a.natAbs b.natAbs, Nat.gcd_rec b.natAbs a.natAbs]
  exact Nat.gcd_comm _ _
theorem gcdZ_zero (a : Int) : gcdZ a 0 = a.natAbs := by unfold gcdZ; simp
theorem rat_mul {n d : Int} : n = (ratF n d).1 * gcdZ n d ∧ d = (ratF n d).2 * gcdZ n d :=
  ⟨(Int.ediv_mul_cancel (Int.gcd_dvd_left ..)).symm, (Int.ediv_mul_cancel (Int.gcd_dvd_right ..)).symm⟩
theorem rat_tdiv (n d : Int) : n.tdiv (gcdZ n d) = (ratF n d).1 ∧ d.tdiv (gcdZ n d) = (ratF n d).2 :=
  ⟨Int.tdiv_eq_ediv_of_dvd (Int.gcd_dvd_left ..), Int.tdiv_eq_ediv_of_dvd (Int.gcd_dvd_right ..)⟩
theorem rat_pos {n d : Int} (h : 0 < d) : 0 < (ratF n d).2 ∧ (ratF n d).2 ≤ d := by
  have h1 := gcdZ_pos (a := n) h
  have h2 := (rat_mul (n := n) (d := d)).2
  generalize gcdZ n d = g at *
  generalize (ratF n d).2 = y at *
  have hy : 0 < y := by
    rcases Int.lt_or_le 0 y with h3 | h3
    · exact h3
    · exact absurd (Int.mul_nonpos_of_nonpos_of_nonneg h3 (Int.le_of_lt h1)) (by omega)
  refine ⟨hy, ?_⟩
  have := Int.mul_le_mul_of_nonneg_left (show (1 : Int) ≤ g by omega) (Int.le_of_lt hy)
  omega
theorem rat_abs {n d : Int} (h : 0 < d) : (ratF n d).1.natAbs ≤ n.natAbs := by
  have h1 := gcdZ_pos (a := n) h
  have h2 := congrArg Int.natAbs (rat_mul (n := n) (d := d)).1
  rw [Int.natAbs_mul] at h2
  have h3 : 1 ≤ (gcdZ n d).natAbs := by omega
  have := Nat.mul_le_mul_left (ratF n d).1.natAbs h3
  omega
theorem rat_nonneg {n d : Int} (h : 0 < d) (hn : 0 ≤ n) : 0 ≤ (ratF n d).1 ∧ (ratF n d).1 ≤ n := by
  have h1 := gcdZ_pos (a := n) h
  have h2 : 0 ≤ (ratF n d).1 := Int.ediv_nonneg hn (Int.le_of_lt h1)
  have := rat_abs (n := n) h
  omega
/-- In least terms. -/
theorem rat_gcd {n d : Int} (h : 0 < d) : Int.gcd (ratF n d).1 (ratF n d).2 = 1 := by
  have h1 : 0 < Int.gcd n d := Int.gcd_pos_of_ne_zero_right _ (by omega)
  exact Int.gcd_ediv_gcd_ediv_gcd h1
theorem rat_cross {n d : Int} : (ratF n d).1 * d = n * (ratF n d).2 := by
  have h := rat_mul (n := n) (d := d)
  generalize gcdZ n d = g at *
  generalize (ratF n d).1 = x at *
  generalize (ratF n d).2 = y at *
  rw [h.1, h.2, Int.mul_assoc, Int.mul_comm g y]
/-- A fraction in least terms is told by any of its forms. -/
theorem rat_unique {n d a b : Int} (h : 0 < d) (hb : 0 < b) (hg : Int.gcd a b = 1) (e : n * b = a * d) : ratF n d = (a, b) := by
  have h1 := rat_gcd (n := n) h
  have h2 := rat_cross (n := n) (d := d)
  have h3 := rat_pos (n := n) h
  generalize hx : (ratF n d).1 = x at *
  generalize hy : (ratF n d).2 = y at *
  have h4 : x * b = a * y := by
    have e1 : (x * b) * d = (a * y) * d := by
      rw [Int.mul_right_comm, h2, Int.mul_right_comm, e, Int.mul_right_comm]
    exact Int.eq_of_mul_eq_mul_right (by omega) e1
  have d1 : y ∣ b := by
    have : y ∣ x * b := ⟨a, by rw [h4, Int.mul_comm]⟩
    rw [← Int.dvd_gcd_mul_iff_dvd_mul, Int.gcd_comm, h1] at this
    simpa using this
  have d2 : b ∣ y := by
    have : b ∣ a * y := ⟨x, by rw [← h4, Int.mul_comm]⟩
    rw [← Int.dvd_gcd_mul_iff_dvd_mul, Int.gcd_comm, hg] at this
    simpa using this
  have hyb : y = b := Int.le_antisymm (Int.le_of_dvd hb d1) (Int.le_of_dvd h3.1 d2)
  have hxa : x = a := by
    rw [hyb] at h4
    exact Int.eq_of_mul_eq_mul_right (by omega) h4
  rw [← hxa, ← hyb, ← hx, ← hy]
theorem rat_self {a b : Int} (hb : 0 < b) (hg : Int.gcd a b = 1) : ratF a b = (a, b) := rat_unique hb hb hg rfl
theorem rat_int (a : Int) : ratF a 1 = (a, 1) := rat_self (by decide) (by simp)

/-- A slice of n elements at A reads as these elements, each of them k cells; it lies below block B. -/
def SlAt {α : Type} (enc : α → List Value) (k : Nat) (d : α) (w : World) (B : Nat) (A : Option Addr) (n : Nat) (xs : List α) : Prop :=
  xs.length = n ∧ n ≤ 9223372036854775807 ∧ (0 < n → ∃ b off, A = some ⟨b, off, none⟩ ∧ b < B ∧ ∀ j, j < n → ∀ q v, (enc (xs[j]?.getD d))[q]? = some v → w.cell? ⟨b, off + j * k + q, none⟩ = some v)
theorem SlAt.at {α : Type} {enc : α → List Value} {k : Nat} {d : α} {w : World} {B : Nat} {A : Option Addr} {n : Nat} {xs : List α} (h : SlAt enc k d w B A n xs) {j : Nat} (hj : j < n) :
    ∃ b off, A = some ⟨b, off, none⟩ ∧ b < B ∧ ∀ q v, (enc (xs[j]?.getD d))[q]? = some v → w.cell? ⟨b, off + j * k + q, none⟩ = some v := by
  obtain ⟨b, off, e, hb, hc⟩ := h.2.2 (by omega)
  exact ⟨b, off, e, hb, hc j hj⟩
theorem SlAt.below {α : Type} {enc : α → List Value} {k : Nat} {d : α} {w w' : World} {B D : Nat} {A : Option Addr} {n : Nat} {xs : List α} (h : SlAt enc k d w B A n xs) (hb : Below D w w') (hD : B ≤ D) : SlAt enc k d w' B A n xs := by
  refine ⟨h.1, h.2.1, fun h0 => ?_⟩
  obtain ⟨b, off, e, hlt, hc⟩ := h.2.2 h0
  exact ⟨b, off, e, hlt, fun j hj q v hv => (hb.cell (p := ⟨b, off + j * k + q, none⟩) (show b < D by omega)).trans (hc j hj q v hv)⟩
theorem SlAt.more {α : Type} {enc : α → List Value} {k : Nat} {d : α} {w : World} {B B' : Nat} {A : Option Addr} {n : Nat} {xs : List α} (h : SlAt enc k d w B A n xs) (hB : B ≤ B') : SlAt enc k d w B' A n xs := by
  refine ⟨h.1, h.2.1, fun h0 => ?_⟩
  obtain ⟨b, off, e, hlt, hc⟩ := h.2.2 h0
  exact ⟨b, off, e, by omega, hc⟩
theorem SlAt.nil {α : Type} {enc : α → List Value} {k : Nat} {d : α} {w : World} {B : Nat} : SlAt enc k d w B none 0 [] := ⟨rfl, by omega, fun h => absurd h (by omega)⟩
/-- A slice of a block whose cells are known. -/
theorem SlAt.block {α : Type} {enc : α → List Value} {k : Nat} {d : α} {w : World} {g : Nat} {cs : Array Value} {T : TypeId} {xs : List α} (h : w.heap[g]? = some (.cells cs T (0, 0))) (hn : xs.length ≤ 1000000)
    (hc : ∀ j, j < xs.length → ∀ q v, (enc (xs[j]?.getD d))[q]? = some v → cs[j * k + q]? = some v) : SlAt enc k d w w.heap.size (some ⟨g, 0, none⟩) xs.length xs :=
  ⟨rfl, by omega, fun _ => ⟨g, 0, rfl, (Array.getElem?_eq_some_iff.1 h).1, fun j hj q v hv => cell_of_obj h rfl (by rw [Nat.zero_add]; exact hc j hj q v hv)⟩⟩
abbrev encI (x : Int) : List Value := [.int .i64 x]
abbrev encR (x : Rt) : List Value := [.int .i64 x.1, .int .i64 x.2]
abbrev IntsAt := SlAt encI 1 (0 : Int)
abbrev RatsAt := SlAt encR 2 ((0, 0) : Rt)
theorem ints1 {w : World} {g : Nat} {T : TypeId} {x : Int} (h : w.heap[g]? = some (.cells #[.int .i64 x] T (0, 0))) : IntsAt w w.heap.size (some ⟨g, 0, none⟩) 1 [x] :=
  SlAt.block h (by simp) fun j hj q v hv => by
    match j, hj with
    | 0, _ => match q, hv with
      | 0, hv => exact hv
theorem ints2 {w : World} {g : Nat} {T : TypeId} {x y : Int} (h : w.heap[g]? = some (.cells #[.int .i64 x, .int .i64 y] T (0, 0))) : IntsAt w w.heap.size (some ⟨g, 0, none⟩) 2 [x, y] :=
  SlAt.block h (by simp) fun j hj q v hv => by
    match j, hj with
    | 0, _ => match q, hv with
      | 0, hv => exact hv
    | 1, _ => match q, hv with
      | 0, hv => exact hv
theorem rats2 {w : World} {g : Nat} {T : TypeId} {a b c d : Int} (h : w.heap[g]? = some (.cells #[.int .i64 a, .int .i64 b, .int .i64 c, .int .i64 d] T (0, 0))) : RatsAt w w.heap.size (some ⟨g, 0, none⟩) 2 [(a, b), (c, d)] :=
  SlAt.block h (by simp) fun j hj q v hv => by
    match j, hj with
    | 0, _ => match q, hv with
      | 0, hv => exact hv
      | 1, hv => exact hv
    | 1, _ => match q, hv with
      | 0, hv => exact hv
      | 1, hv => exact hv
def withinF (lo hi : Int) (xs : List Int) : Bool := xs.all fun x => decide (lo ≤ x) && decide (x ≤ hi)
theorem get_mem {α : Type} {l : List α} {d : α} {k : Nat} (h : k < l.length) : l[k]?.getD d ∈ l := by
  rw [List.getElem?_eq_getElem h]
  exact List.getElem_mem h
theorem any_true {α : Type} {p : α → Bool} {d : α} {xs : List α} {k : Nat} (hk : k < xs.length) (h : p (xs[k]?.getD d) = true) : xs.any p = true := List.any_eq_true.2 ⟨_, get_mem hk, h⟩
theorem any_false {α : Type} {p : α → Bool} {d : α} {xs : List α} (h : ∀ j, j < xs.length → p (xs[j]?.getD d) = false) : xs.any p = false := by
  rw [List.any_eq_false]
  intro x hx
  obtain ⟨i, hi, rfl⟩ := List.mem_iff_getElem.1 hx
  have := h i hi
  rw [List.getElem?_eq_getElem hi] at this
  simpa using this
theorem within_any (lo hi : Int) (xs : List Int) : (!xs.any fun n => decide (n < lo) || decide (n > hi)) = withinF lo hi xs := by
  unfold withinF
  rw [List.any_eq_not_all_not, Bool.not_not]
  congr 1
  funext x
  by_cases h1 : lo ≤ x <;> by_cases h2 : x ≤ hi <;> simp [h1, h2] <;> omega
theorem within1 (lo hi x : Int) : withinF lo hi [x] = decide (lo ≤ x ∧ x ≤ hi) := by simp [withinF]
theorem within2 (lo hi x y : Int) : withinF lo hi [x, y] = decide ((lo ≤ x ∧ x ≤ hi) ∧ lo ≤ y ∧ y ≤ hi) := by simp [withinF]
end Go.Proofs.Ytfidkgpimlpdbaa

/- odds: divisor, ratio, less, minus, reciprocal, distance, multiple. -/
namespace Go.Proofs.Ytfidkgpimlpdbaa
open Go.RowKit Go.Shelf

set_option maxRecDepth 20000 in
theorem divisor_any (w : World) (a b : Int) (ha : -9223372036854775807 ≤ a ∧ a ≤ 9223372036854775807) (hb : -9223372036854775807 ≤ b ∧ b ≤ 9223372036854775807) :
    Calls Try.prog 106 #[.int .i64 a, .int .i64 b] w fun e w' => e = .returned (.int .i64 (gcdZ a b)) ∧ Below w.heap.size w w' := by
  refine enter 15 Try.func106 (by kernel_rfl) fun hA => ?_
  refine runS hA 7 [] xn on (by kernel_rfl) fun w1 hA => ?_
  refine loop (γ := Int × Int) (fun ⟨x, y⟩ => [(0, .int .i64 x), (1, .int .i64 y), (4, .int .i64 0)]) (fun ⟨x, y⟩ => []) (fun _ => []) (fun g ⟨x, y⟩ wr => g = y.natAbs ∧ (-9223372036854775807 ≤ x ∧ x ≤ 9223372036854775807) ∧ (-9223372036854775807 ≤ y ∧ y ≤ 9223372036854775807) ∧ gcdZ x y = gcdZ a b) b.natAbs ⟨a, b⟩ [] hA (by kernel_rfl) (⟨rfl, ha, hb, rfl⟩) ?_
  rintro _ ⟨x, y⟩ wr ⟨rfl, hx, hy, hg⟩ J hJ hA
  by_cases h0 : y = 0
  case pos =>
    subst h0
    refine runS hA 10 [] xn on (by kernel_rfl) fun w2 hA => ?_
    refine leave hA (by kernel_rfl) fun hA => ?_
    refine runS hA 12 [.v (.int .i64 (-x)), .v (.int .i64 (max x (-x)))] xn (oc (show Value.int .i64 (IntKind.i64.wrap (0 - x)) = .int .i64 (-x) from wrn (by omega)) (oc (show Value.int .i64 (if (-x) > x then -x else x) = .int .i64 (max x (-x)) from mxq) on)) (by kernel_rfl) fun w3 hA => ?_
    exact ret (v := .int .i64 (max x (-x))) hA [] (by kernel_rfl) ⟨by rw [← hg, gcdZ_zero]; congr 2; omega, hA.below⟩
  case neg =>
    refine runS hA 11 [.b true] xn (oc (ne_t h0) on) (by kernel_rfl) fun w2 hA => ?_
    refine draw hA [] [0, 1, 2, 3, 4, 5] (by kernel_rfl) (by kernel_rfl) fun hA => ?_
    refine runS hA 8 [.t 0, .t 1, .t 2, .t 3, .v (.int .i64 (Int.tmod x y)), .z, .t 4, .t 5, .b true] xn (oc (show y ≠ (0 : Int) by omega) (oc (show (.int .i64 (Int.tmod x y) : Value) = .int .i64 (Int.tmod x y) from rfl) on)) (by kernel_rfl) fun w3 hA => ?_
    have hm := Int.natAbs_tmod x y
    have hl := Nat.mod_lt x.natAbs (show 0 < y.natAbs by omega)
    exact again hJ ((Int.tmod x y).natAbs) (⟨y, Int.tmod x y⟩) [] hA (by omega) (by kernel_rfl) (⟨rfl, hy, by omega, by rw [gcdZ_step h0]; exact hg⟩)
set_option maxRecDepth 20000 in
theorem ratio_any (w : World) (n d : Int) (hn : -9223372036854775807 ≤ n ∧ n ≤ 9223372036854775807) (hd : 0 < d ∧ d ≤ 9223372036854775807) :
    Calls Try.prog 85 #[.int .i64 n, .int .i64 d] w fun e w' => e = .returned (.agg #[.int .i64 ((ratF n d).1), .int .i64 ((ratF n d).2)]) ∧ Below w.heap.size w w' := by
  refine enter 16 Try.func85 (by kernel_rfl) fun hA => ?_
  refine runS hA 9 [] xn on (by kernel_rfl) fun w1 hA => ?_
  refine callB hA [] on (divisor_any w1 n d (by omega) (by omega)) (by kernel_rfl) fun w2 hb2 hA => ?_
  have hg := gcdZ_pos (a := n) hd.1
  refine runS hA 4 [] xn on (by kernel_rfl) fun w3 hA => ?_
  refine draw hA [false] [0, 1, 2, 3, 4, 5, 6, 7] (by kernel_rfl) (by kernel_rfl) fun hA => ?_
  refine runS hA 11 [.t 0, .t 1, .t 2, .v (.int .i64 (Int.tdiv n (gcdZ n d))), .z, .t 3, .t 4, .t 5, .v (.int .i64 (Int.tdiv d (gcdZ n d))), .z, .t 6, .h 7, .k 0, .k 0, .b true] xn (oc (show (gcdZ n d) ≠ (0 : Int) by omega) (oc (show Value.int .i64 (IntKind.i64.wrap (Int.tdiv n (gcdZ n d))) = .int .i64 (Int.tdiv n (gcdZ n d)) from wrt (by omega)) (oc (show (gcdZ n d) ≠ (0 : Int) by omega) (oc (show Value.int .i64 (IntKind.i64.wrap (Int.tdiv d (gcdZ n d))) = .int .i64 (Int.tdiv d (gcdZ n d)) from wrt (by omega)) on)))) (by kernel_rfl) fun w4 hA => ?_
  exact ret (v := .agg #[.int .i64 (Int.tdiv n (gcdZ n d)), .int .i64 (Int.tdiv d (gcdZ n d))]) hA [.k 0, .k 0] (by kernel_rfl) ⟨by rw [(rat_tdiv n d).1, (rat_tdiv n d).2], hA.below⟩
set_option maxRecDepth 20000 in
theorem less_any (w : World) (a b c d : Int) (h1 : -9223372036854775807 ≤ a * d ∧ a * d ≤ 9223372036854775807) (h2 : -9223372036854775807 ≤ c * b ∧ c * b ≤ 9223372036854775807) :
    Calls Try.prog 67 #[.agg #[.int .i64 a, .int .i64 b], .agg #[.int .i64 c, .int .i64 d]] w fun e w' => e = .returned (.bool (decide (a * d < c * b))) ∧ Below w.heap.size w w' := by
  refine enter 16 Try.func67 (by kernel_rfl) fun hA => ?_
  refine runS hA 24 [.k 0, .k 1, .v (.int .i64 (a * d)), .k 1, .k 0, .v (.int .i64 (c * b))] xn (oc (show Value.int .i64 (IntKind.i64.wrap (a * d)) = .int .i64 (a * d) from wrp (by omega)) (oc (show Value.int .i64 (IntKind.i64.wrap (c * b)) = .int .i64 (c * b) from wrp (by omega)) on)) (by kernel_rfl) fun w1 hA => ?_
  exact ret (v := .bool (decide ((a * d : Int) < (c * b : Int)))) hA [] (by kernel_rfl) ⟨by rfl, hA.below⟩
set_option maxRecDepth 20000 in
theorem minus_any (w : World) (a b c d : Int) (h1 : -9223372036854775807 ≤ a * d ∧ a * d ≤ 9223372036854775807) (h2 : -9223372036854775807 ≤ c * b ∧ c * b ≤ 9223372036854775807) (h3 : -9223372036854775807 ≤ a * d - c * b ∧ a * d - c * b ≤ 9223372036854775807) (h4 : 0 < b * d ∧ b * d ≤ 9223372036854775807) :
    Calls Try.prog 100 #[.agg #[.int .i64 a, .int .i64 b], .agg #[.int .i64 c, .int .i64 d]] w fun e w' => e = .returned (.agg #[.int .i64 ((ratF (a * d - c * b) (b * d)).1), .int .i64 ((ratF (a * d - c * b) (b * d)).2)]) ∧ Below w.heap.size w w' := by
  refine enter 22 Try.func100 (by kernel_rfl) fun hA => ?_
  refine runS hA 25 [.k 0, .k 1, .v (.int .i64 (a * d)), .k 1, .k 0, .v (.int .i64 (c * b)), .v (.int .i64 ((a * d) - (c * b))), .k 0, .k 1, .v (.int .i64 (b * d))] xn (oc (show Value.int .i64 (IntKind.i64.wrap (a * d)) = .int .i64 (a * d) from wrp (by omega)) (oc (show Value.int .i64 (IntKind.i64.wrap (c * b)) = .int .i64 (c * b) from wrp (by omega)) (oc (show Value.int .i64 (IntKind.i64.wrap ((a * d) - (c * b))) = .int .i64 ((a * d) - (c * b)) from wrp (by omega)) (oc (show Value.int .i64 (IntKind.i64.wrap (b * d)) = .int .i64 (b * d) from wrp (by omega)) on)))) (by kernel_rfl) fun w1 hA => ?_
  refine callB hA [] on (ratio_any w1 ((a * d) - (c * b)) (b * d) (by omega) (by omega)) (by kernel_rfl) fun w2 hb2 hA => ?_
  refine runS hA 4 [.k 2, .k 2] xn on (by kernel_rfl) fun w3 hA => ?_
  exact ret (v := .agg #[.int .i64 ((ratF ((a * d) - (c * b)) (b * d)).1), .int .i64 ((ratF ((a * d) - (c * b)) (b * d)).2)]) hA [.k 2, .k 2] (by kernel_rfl) ⟨by rfl, hA.below⟩
set_option maxRecDepth 20000 in
theorem reciprocal_any (w : World) (a b : Int) :
    Calls Try.prog 101 #[.agg #[.int .i64 a, .int .i64 b]] w fun e w' => e = .returned (.agg #[.int .i64 b, .int .i64 a]) ∧ Below w.heap.size w w' := by
  refine enter 8 Try.func101 (by kernel_rfl) fun hA => ?_
  refine runS hA 17 [.k 0, .k 0, .k 1, .k 1] xn on (by kernel_rfl) fun w1 hA => ?_
  exact ret (v := .agg #[.int .i64 b, .int .i64 a]) hA [.k 1, .k 1] (by kernel_rfl) ⟨by rfl, hA.below⟩
def distF (a b c d : Int) : Rt := if a * d < c * b then ratF (c * b - a * d) (d * b) else ratF (a * d - c * b) (b * d)
set_option maxRecDepth 20000 in
theorem distance_any (w : World) (a b c d : Int) (h1 : -9223372036854775807 ≤ a * d ∧ a * d ≤ 9223372036854775807) (h2 : -9223372036854775807 ≤ c * b ∧ c * b ≤ 9223372036854775807) (h3 : -9223372036854775807 ≤ a * d - c * b ∧ a * d - c * b ≤ 9223372036854775807) (h4 : 0 < b * d ∧ b * d ≤ 9223372036854775807) :
    Calls Try.prog 68 #[.agg #[.int .i64 a, .int .i64 b], .agg #[.int .i64 c, .int .i64 d]] w fun e w' => e = .returned (.agg #[.int .i64 ((distF a b c d).1), .int .i64 ((distF a b c d).2)]) ∧ Below w.heap.size w w' := by
  have hc := Int.mul_comm b d
  refine enter 14 Try.func68 (by kernel_rfl) fun hA => ?_
  refine runS hA 12 [.k 0, .k 0, .k 1, .k 1] xn on (by kernel_rfl) fun w1 hA => ?_
  refine callB hA [] on (less_any w1 a b c d (by omega) (by omega)) (by kernel_rfl) fun w2 hb2 hA => ?_
  refine runS hA 2 [.t 0] xn on (by kernel_rfl) fun w3 hA => ?_
  by_cases ht1 : a * d < c * b
  case pos =>
    refine runS hA 5 [.b true, .k 1, .k 1, .k 0, .k 0] xn (oc (dec_t ht1) on) (by kernel_rfl) fun w4 hA => ?_
    refine callB hA [] on (minus_any w4 c d a b (by omega) (by omega) (by omega) (by omega)) (by kernel_rfl) fun w5 hb5 hA => ?_
    refine runS hA 5 [.k 2, .k 2] xn on (by kernel_rfl) fun w6 hA => ?_
    exact ret (v := .agg #[.int .i64 ((ratF (c * b - a * d) (d * b)).1), .int .i64 ((ratF (c * b - a * d) (d * b)).2)]) hA [.k 2, .k 2] (by kernel_rfl) ⟨by simp [distF, ht1], hA.below⟩
  case neg =>
    refine runS hA 7 [.b false, .k 0, .k 0, .k 1, .k 1] xn (oc (dec_f ht1) on) (by kernel_rfl) fun w4 hA => ?_
    refine callB hA [] on (minus_any w4 a b c d (by omega) (by omega) (by omega) (by omega)) (by kernel_rfl) fun w5 hb5 hA => ?_
    refine runS hA 4 [.k 2, .k 2] xn on (by kernel_rfl) fun w6 hA => ?_
    exact ret (v := .agg #[.int .i64 ((ratF (a * d - c * b) (b * d)).1), .int .i64 ((ratF (a * d - c * b) (b * d)).2)]) hA [.k 2, .k 2] (by kernel_rfl) ⟨by simp [distF, ht1], hA.below⟩
end Go.Proofs.Ytfidkgpimlpdbaa

/- odds: IndexFunc, ContainsFunc, within. -/
namespace Go.Proofs.Ytfidkgpimlpdbaa
open Go.RowKit Go.Shelf

structure Qt where
  r : Int
  n : Int
  d : Int
  lay : Bool
deriving DecidableEq
def noQ : Qt := ⟨0, 0, 0, false⟩
abbrev encQ (x : Qt) : List Value := [.int .i64 x.r, .int .i64 x.n, .int .i64 x.d, .bool x.lay]
abbrev QtsAt := SlAt encQ 4 noQ
set_option maxRecDepth 20000 in
theorem indexW_any (w : World) (B : Nat) (A : Option Addr) (n c : Nat) (xs : List Int) (p : Int → Bool) (b1 b2 : Nat) (hx : IntsAt w B A n xs) (hB : B ≤ w.heap.size) (hf : ∀ W, Below w.heap.size w W → ∀ x, x ∈ xs → Calls Try.prog 104 #[.int .i64 x, .pointer (some ⟨b1, 0, none⟩), .pointer (some ⟨b2, 0, none⟩)] W fun e w' => e = .returned (.bool (p x)) ∧ Below W.heap.size W w') :
    Calls Try.prog 122 #[.slice A n c, .func (.func 104) #[] #[.pointer (some ⟨b1, 0, none⟩), .pointer (some ⟨b2, 0, none⟩)]] w fun e w' => ∃ i : Int, e = .returned (.int .i64 i) ∧ Below w.heap.size w w' ∧ decide (i ≥ 0) = xs.any p := by
  refine enter 19 Try.func122 (by kernel_rfl) fun hA => ?_
  refine runS hA 14 [] xn on (by kernel_rfl) fun w1 hA => ?_
  have hn9 := hx.2.1
  have hn1 := hx.1
  refine loop (γ := Nat) (fun k => [(0, .slice A n c), (1, .func (.func 104) #[] #[.pointer (some ⟨b1, 0, none⟩), .pointer (some ⟨b2, 0, none⟩)]), (7, .int .i64 n), (8, .int .i64 (k : Int))]) (fun k => []) (fun _ => []) (fun g k wr => k ≤ n ∧ g = n - k ∧ ∀ j, j < k → p (xs[j]?.getD 0) = false) n 0 [] hA (by kernel_rfl) (⟨by omega, rfl, fun j hj => absurd hj (by omega)⟩) ?_
  rintro _ k wr ⟨hk, rfl, hz⟩ J hJ hA
  by_cases hlt : k < n
  case neg =>
    refine runS hA 9 [.b false] xn (oc (dec_f (show ¬ (((k : Int) : Int) < (n : Int)) by omega)) on) (by kernel_rfl) fun w2 hA => ?_
    refine leave hA (by kernel_rfl) fun hA => ?_
    refine runS hA 8 [] xn on (by kernel_rfl) fun w3 hA => ?_
    exact ret (v := .int .i64 (-1)) hA [] (by kernel_rfl) ⟨-1, rfl, hA.below, by rw [any_false (p := p) (d := 0) fun j hj => hz j (by omega)]; rfl⟩
  case pos =>
    have hq9 := hx.at hlt
    obtain ⟨b, off, rfl, hbB, hc⟩ := hq9
    have k0 := hc 0 _ rfl
    refine runS hA 24 [.b true, .i, .x (.int .i64 (xs[k]?.getD 0))] (xc (a := ⟨b, off + k * 1, none⟩) ⟨Nat.lt_of_lt_of_le hbB hB, k0⟩ xn) (oc (dec_t (show (((k : Int) : Int) < (n : Int)) by omega)) (oc (show (0 : Int) ≤ ((k : Int) : Int) ∧ ((k : Int) : Int) < (n : Int) by omega) on)) (by kernel_rfl) fun w2 hA => ?_
    have hcl := hf w2 hA.below (xs[k]?.getD 0) (get_mem (by omega))
    refine callB hA [] on hcl (by kernel_rfl) fun w3 hb3 hA => ?_
    have hq9 := Bool.eq_false_or_eq_true (p (xs[k]?.getD 0))
    rcases hq9 with hp | hp
    ·
      refine runS hA 12 [.b true] xn (oc (show Value.bool (p (xs[k]?.getD 0)) = .bool true by rw [hp]) on) (by kernel_rfl) fun w4 hA => ?_
      refine leave hA (by kernel_rfl) fun hA => ?_
      refine runS hA 2 [] xn on (by kernel_rfl) fun w5 hA => ?_
      exact ret (v := .int .i64 (k : Int)) hA [] (by kernel_rfl) ⟨(k : Int), rfl, hA.below, by rw [any_true (p := p) (k := k) (d := 0) (by omega) hp, decide_eq_true (by omega)]⟩
    ·
      refine runS hA 10 [.b false, .v (.int .i64 ((k : Int) + 1))] xn (oc (show Value.bool (p (xs[k]?.getD 0)) = .bool false by rw [hp]) (oc (show Value.int .i64 (IntKind.i64.wrap ((k : Int) + 1)) = .int .i64 ((k : Int) + 1) from wrp (by omega)) on)) (by kernel_rfl) fun w4 hA => ?_
      refine revals hA (rc 8 (show .int .i64 ((k : Int) + 1) = .int .i64 ((k + 1 : Nat) : Int) by rw [show ((k + 1 : Nat) : Int) = (k : Int) + 1 by omega]) rn) (by kernel_rfl) fun hA => ?_
      exact again hJ (n - (k + 1)) (k + 1) [] hA (by omega) (by kernel_rfl) (⟨by omega, rfl, fun j hj => by rcases Nat.lt_succ_iff_lt_or_eq.1 hj with h | rfl; exact hz j h; exact hp⟩)
set_option maxRecDepth 20000 in
theorem containsW_any (w : World) (B : Nat) (A : Option Addr) (n c : Nat) (xs : List Int) (p : Int → Bool) (b1 b2 : Nat) (hx : IntsAt w B A n xs) (hB : B ≤ w.heap.size) (hf : ∀ W, Below w.heap.size w W → ∀ x, x ∈ xs → Calls Try.prog 104 #[.int .i64 x, .pointer (some ⟨b1, 0, none⟩), .pointer (some ⟨b2, 0, none⟩)] W fun e w' => e = .returned (.bool (p x)) ∧ Below W.heap.size W w') :
    Calls Try.prog 103 #[.slice A n c, .func (.func 104) #[] #[.pointer (some ⟨b1, 0, none⟩), .pointer (some ⟨b2, 0, none⟩)]] w fun e w' => e = .returned (.bool (xs.any p)) ∧ Below w.heap.size w w' := by
  refine enter 9 Try.func103 (by kernel_rfl) fun hA => ?_
  refine runS hA 9 [] xn on (by kernel_rfl) fun w1 hA => ?_
  refine call hA [] on (indexW_any w1 B A n c xs p b1 b2 (hx.below hA.below hB) (Nat.le_trans hB hA.size) fun W hW x hxm => hf W ((hA.below).trans (hW.mono hA.size)) x hxm) (by kernel_rfl) (by rintro e v ⟨i, rfl, hbi, hi⟩; exact hbi) ?_
  rintro e w2 ⟨i, rfl, hbi, hi⟩
  refine ⟨_, rfl, fun hA => ?_⟩
  refine runS hA 5 [] xn on (by kernel_rfl) fun w3 hA => ?_
  exact ret (v := .bool (decide ((i : Int) ≥ (0 : Int)))) hA [] (by kernel_rfl) ⟨by rw [hi], hA.below⟩
set_option maxRecDepth 20000 in
theorem indexR_any (w : World) (B : Nat) (A : Option Addr) (n c : Nat) (xs : List Rt) (p : Rt → Bool) (hx : RatsAt w B A n xs) (hB : B ≤ w.heap.size) (hf : ∀ W, Below w.heap.size w W → ∀ x, x ∈ xs → Calls Try.prog 82 #[.agg #[.int .i64 x.1, .int .i64 x.2]] W fun e w' => e = .returned (.bool (p x)) ∧ Below W.heap.size W w') :
    Calls Try.prog 105 #[.slice A n c, .func (.func 82) #[] #[]] w fun e w' => ∃ i : Int, e = .returned (.int .i64 i) ∧ Below w.heap.size w w' ∧ decide (i ≥ 0) = xs.any p := by
  refine enter 19 Try.func105 (by kernel_rfl) fun hA => ?_
  refine runS hA 14 [] xn on (by kernel_rfl) fun w1 hA => ?_
  have hn9 := hx.2.1
  have hn1 := hx.1
  refine loop (γ := Nat) (fun k => [(0, .slice A n c), (1, .func (.func 82) #[] #[]), (7, .int .i64 n), (8, .int .i64 (k : Int))]) (fun k => []) (fun _ => []) (fun g k wr => k ≤ n ∧ g = n - k ∧ ∀ j, j < k → p (xs[j]?.getD (0, 0)) = false) n 0 [] hA (by kernel_rfl) (⟨by omega, rfl, fun j hj => absurd hj (by omega)⟩) ?_
  rintro _ k wr ⟨hk, rfl, hz⟩ J hJ hA
  by_cases hlt : k < n
  case neg =>
    refine runS hA 9 [.b false] xn (oc (dec_f (show ¬ (((k : Int) : Int) < (n : Int)) by omega)) on) (by kernel_rfl) fun w2 hA => ?_
    refine leave hA (by kernel_rfl) fun hA => ?_
    refine runS hA 8 [] xn on (by kernel_rfl) fun w3 hA => ?_
    exact ret (v := .int .i64 (-1)) hA [] (by kernel_rfl) ⟨-1, rfl, hA.below, by rw [any_false (p := p) (d := (0, 0)) fun j hj => hz j (by omega)]; rfl⟩
  case pos =>
    have hq9 := hx.at hlt
    obtain ⟨b, off, rfl, hbB, hc⟩ := hq9
    have k0 := hc 0 _ rfl
    have k1 := hc 1 _ rfl
    refine runS hA 24 [.b true, .i, .x (.int .i64 ((xs[k]?.getD (0, 0)).1)), .x (.int .i64 ((xs[k]?.getD (0, 0)).2))] (xc (a := ⟨b, off + k * 2, none⟩) ⟨Nat.lt_of_lt_of_le hbB hB, k0⟩ (xc (a := ⟨b, off + k * 2 + 1, none⟩) ⟨Nat.lt_of_lt_of_le hbB hB, k1⟩ xn)) (oc (dec_t (show (((k : Int) : Int) < (n : Int)) by omega)) (oc (show (0 : Int) ≤ ((k : Int) : Int) ∧ ((k : Int) : Int) < (n : Int) by omega) on)) (by kernel_rfl) fun w2 hA => ?_
    have hcl := hf w2 hA.below (xs[k]?.getD (0, 0)) (get_mem (by omega))
    refine callB hA [] on hcl (by kernel_rfl) fun w3 hb3 hA => ?_
    have hq9 := Bool.eq_false_or_eq_true (p (xs[k]?.getD (0, 0)))
    rcases hq9 with hp | hp
    ·
      refine runS hA 12 [.b true] xn (oc (show Value.bool (p (xs[k]?.getD (0, 0))) = .bool true by rw [hp]) on) (by kernel_rfl) fun w4 hA => ?_
      refine leave hA (by kernel_rfl) fun hA => ?_
      refine runS hA 2 [] xn on (by kernel_rfl) fun w5 hA => ?_
      exact ret (v := .int .i64 (k : Int)) hA [] (by kernel_rfl) ⟨(k : Int), rfl, hA.below, by rw [any_true (p := p) (k := k) (d := (0, 0)) (by omega) hp, decide_eq_true (by omega)]⟩
    ·
      refine runS hA 10 [.b false, .v (.int .i64 ((k : Int) + 1))] xn (oc (show Value.bool (p (xs[k]?.getD (0, 0))) = .bool false by rw [hp]) (oc (show Value.int .i64 (IntKind.i64.wrap ((k : Int) + 1)) = .int .i64 ((k : Int) + 1) from wrp (by omega)) on)) (by kernel_rfl) fun w4 hA => ?_
      refine revals hA (rc 8 (show .int .i64 ((k : Int) + 1) = .int .i64 ((k + 1 : Nat) : Int) by rw [show ((k + 1 : Nat) : Int) = (k : Int) + 1 by omega]) rn) (by kernel_rfl) fun hA => ?_
      exact again hJ (n - (k + 1)) (k + 1) [] hA (by omega) (by kernel_rfl) (⟨by omega, rfl, fun j hj => by rcases Nat.lt_succ_iff_lt_or_eq.1 hj with h | rfl; exact hz j h; exact hp⟩)
set_option maxRecDepth 20000 in
theorem containsR_any (w : World) (B : Nat) (A : Option Addr) (n c : Nat) (xs : List Rt) (p : Rt → Bool) (hx : RatsAt w B A n xs) (hB : B ≤ w.heap.size) (hf : ∀ W, Below w.heap.size w W → ∀ x, x ∈ xs → Calls Try.prog 82 #[.agg #[.int .i64 x.1, .int .i64 x.2]] W fun e w' => e = .returned (.bool (p x)) ∧ Below W.heap.size W w') :
    Calls Try.prog 81 #[.slice A n c, .func (.func 82) #[] #[]] w fun e w' => e = .returned (.bool (xs.any p)) ∧ Below w.heap.size w w' := by
  refine enter 9 Try.func81 (by kernel_rfl) fun hA => ?_
  refine runS hA 9 [] xn on (by kernel_rfl) fun w1 hA => ?_
  refine call hA [] on (indexR_any w1 B A n c xs p (hx.below hA.below hB) (Nat.le_trans hB hA.size) fun W hW x hxm => hf W ((hA.below).trans (hW.mono hA.size)) x hxm) (by kernel_rfl) (by rintro e v ⟨i, rfl, hbi, hi⟩; exact hbi) ?_
  rintro e w2 ⟨i, rfl, hbi, hi⟩
  refine ⟨_, rfl, fun hA => ?_⟩
  refine runS hA 5 [] xn on (by kernel_rfl) fun w3 hA => ?_
  exact ret (v := .bool (decide ((i : Int) ≥ (0 : Int)))) hA [] (by kernel_rfl) ⟨by rw [hi], hA.below⟩
set_option maxRecDepth 20000 in
theorem indexS_any (w : World) (B : Nat) (A : Option Addr) (n c : Nat) (xs : List Qt) (p : Qt → Bool) (dv : Value) (hx : QtsAt w B A n xs) (hB : B ≤ w.heap.size) (hf : ∀ W, Below w.heap.size w W → ∀ x, x ∈ xs → Calls Try.prog 107 #[dv, .agg #[.int .i64 x.r, .int .i64 x.n, .int .i64 x.d, .bool x.lay]] W fun e w' => e = .returned (.bool (p x)) ∧ Below W.heap.size W w') :
    Calls Try.prog 120 #[.slice A n c, .func (.func 107) #[dv] #[]] w fun e w' => ∃ i : Int, e = .returned (.int .i64 i) ∧ Below w.heap.size w w' ∧ decide (i ≥ 0) = xs.any p := by
  refine enter 19 Try.func120 (by kernel_rfl) fun hA => ?_
  refine runS hA 14 [] xn on (by kernel_rfl) fun w1 hA => ?_
  have hn9 := hx.2.1
  have hn1 := hx.1
  refine loop (γ := Nat) (fun k => [(0, .slice A n c), (1, .func (.func 107) #[dv] #[]), (7, .int .i64 n), (8, .int .i64 (k : Int))]) (fun k => []) (fun _ => []) (fun g k wr => k ≤ n ∧ g = n - k ∧ ∀ j, j < k → p (xs[j]?.getD noQ) = false) n 0 [] hA (by kernel_rfl) (⟨by omega, rfl, fun j hj => absurd hj (by omega)⟩) ?_
  rintro _ k wr ⟨hk, rfl, hz⟩ J hJ hA
  by_cases hlt : k < n
  case neg =>
    refine runS hA 9 [.b false] xn (oc (dec_f (show ¬ (((k : Int) : Int) < (n : Int)) by omega)) on) (by kernel_rfl) fun w2 hA => ?_
    refine leave hA (by kernel_rfl) fun hA => ?_
    refine runS hA 8 [] xn on (by kernel_rfl) fun w3 hA => ?_
    exact ret (v := .int .i64 (-1)) hA [] (by kernel_rfl) ⟨-1, rfl, hA.below, by rw [any_false (p := p) (d := noQ) fun j hj => hz j (by omega)]; rfl⟩
  case pos =>
    have hq9 := hx.at hlt
    obtain ⟨b, off, rfl, hbB, hc⟩ := hq9
    have k0 := hc 0 _ rfl
    have k1 := hc 1 _ rfl
    have k2 := hc 2 _ rfl
    have k3 := hc 3 _ rfl
    refine runS hA 24 [.b true, .i, .x (.int .i64 ((xs[k]?.getD noQ).r)), .x (.int .i64 ((xs[k]?.getD noQ).n)), .x (.int .i64 ((xs[k]?.getD noQ).d)), .x (.bool ((xs[k]?.getD noQ).lay))] (xc (a := ⟨b, off + k * 4, none⟩) ⟨Nat.lt_of_lt_of_le hbB hB, k0⟩ (xc (a := ⟨b, off + k * 4 + 1, none⟩) ⟨Nat.lt_of_lt_of_le hbB hB, k1⟩ (xc (a := ⟨b, off + k * 4 + 2, none⟩) ⟨Nat.lt_of_lt_of_le hbB hB, k2⟩ (xc (a := ⟨b, off + k * 4 + 3, none⟩) ⟨Nat.lt_of_lt_of_le hbB hB, k3⟩ xn)))) (oc (dec_t (show (((k : Int) : Int) < (n : Int)) by omega)) (oc (show (0 : Int) ≤ ((k : Int) : Int) ∧ ((k : Int) : Int) < (n : Int) by omega) on)) (by kernel_rfl) fun w2 hA => ?_
    have hcl := hf w2 hA.below (xs[k]?.getD noQ) (get_mem (by omega))
    refine callB hA [] on hcl (by kernel_rfl) fun w3 hb3 hA => ?_
    have hq9 := Bool.eq_false_or_eq_true (p (xs[k]?.getD noQ))
    rcases hq9 with hp | hp
    ·
      refine runS hA 12 [.b true] xn (oc (show Value.bool (p (xs[k]?.getD noQ)) = .bool true by rw [hp]) on) (by kernel_rfl) fun w4 hA => ?_
      refine leave hA (by kernel_rfl) fun hA => ?_
      refine runS hA 2 [] xn on (by kernel_rfl) fun w5 hA => ?_
      exact ret (v := .int .i64 (k : Int)) hA [] (by kernel_rfl) ⟨(k : Int), rfl, hA.below, by rw [any_true (p := p) (k := k) (d := noQ) (by omega) hp, decide_eq_true (by omega)]⟩
    ·
      refine runS hA 10 [.b false, .v (.int .i64 ((k : Int) + 1))] xn (oc (show Value.bool (p (xs[k]?.getD noQ)) = .bool false by rw [hp]) (oc (show Value.int .i64 (IntKind.i64.wrap ((k : Int) + 1)) = .int .i64 ((k : Int) + 1) from wrp (by omega)) on)) (by kernel_rfl) fun w4 hA => ?_
      refine revals hA (rc 8 (show .int .i64 ((k : Int) + 1) = .int .i64 ((k + 1 : Nat) : Int) by rw [show ((k + 1 : Nat) : Int) = (k : Int) + 1 by omega]) rn) (by kernel_rfl) fun hA => ?_
      exact again hJ (n - (k + 1)) (k + 1) [] hA (by omega) (by kernel_rfl) (⟨by omega, rfl, fun j hj => by rcases Nat.lt_succ_iff_lt_or_eq.1 hj with h | rfl; exact hz j h; exact hp⟩)
set_option maxRecDepth 20000 in
theorem containsS_any (w : World) (B : Nat) (A : Option Addr) (n c : Nat) (xs : List Qt) (p : Qt → Bool) (dv : Value) (hx : QtsAt w B A n xs) (hB : B ≤ w.heap.size) (hf : ∀ W, Below w.heap.size w W → ∀ x, x ∈ xs → Calls Try.prog 107 #[dv, .agg #[.int .i64 x.r, .int .i64 x.n, .int .i64 x.d, .bool x.lay]] W fun e w' => e = .returned (.bool (p x)) ∧ Below W.heap.size W w') :
    Calls Try.prog 98 #[.slice A n c, .func (.func 107) #[dv] #[]] w fun e w' => e = .returned (.bool (xs.any p)) ∧ Below w.heap.size w w' := by
  refine enter 9 Try.func98 (by kernel_rfl) fun hA => ?_
  refine runS hA 9 [] xn on (by kernel_rfl) fun w1 hA => ?_
  refine call hA [] on (indexS_any w1 B A n c xs p dv (hx.below hA.below hB) (Nat.le_trans hB hA.size) fun W hW x hxm => hf W ((hA.below).trans (hW.mono hA.size)) x hxm) (by kernel_rfl) (by rintro e v ⟨i, rfl, hbi, hi⟩; exact hbi) ?_
  rintro e w2 ⟨i, rfl, hbi, hi⟩
  refine ⟨_, rfl, fun hA => ?_⟩
  refine runS hA 5 [] xn on (by kernel_rfl) fun w3 hA => ?_
  exact ret (v := .bool (decide ((i : Int) ≥ (0 : Int)))) hA [] (by kernel_rfl) ⟨by rw [hi], hA.below⟩
set_option maxRecDepth 20000 in
theorem indexB_any (w : World) (B : Nat) (A : Option Addr) (n c : Nat) (xs : List Qt) (p : Qt → Bool) (hx : QtsAt w B A n xs) (hB : B ≤ w.heap.size) (hf : ∀ W, Below w.heap.size w W → ∀ x, x ∈ xs → Calls Try.prog 108 #[.agg #[.int .i64 x.r, .int .i64 x.n, .int .i64 x.d, .bool x.lay]] W fun e w' => e = .returned (.bool (p x)) ∧ Below W.heap.size W w') :
    Calls Try.prog 120 #[.slice A n c, .func (.func 108) #[] #[]] w fun e w' => ∃ i : Int, e = .returned (.int .i64 i) ∧ Below w.heap.size w w' ∧ decide (i ≥ 0) = xs.any p := by
  refine enter 19 Try.func120 (by kernel_rfl) fun hA => ?_
  refine runS hA 14 [] xn on (by kernel_rfl) fun w1 hA => ?_
  have hn9 := hx.2.1
  have hn1 := hx.1
  refine loop (γ := Nat) (fun k => [(0, .slice A n c), (1, .func (.func 108) #[] #[]), (7, .int .i64 n), (8, .int .i64 (k : Int))]) (fun k => []) (fun _ => []) (fun g k wr => k ≤ n ∧ g = n - k ∧ ∀ j, j < k → p (xs[j]?.getD noQ) = false) n 0 [] hA (by kernel_rfl) (⟨by omega, rfl, fun j hj => absurd hj (by omega)⟩) ?_
  rintro _ k wr ⟨hk, rfl, hz⟩ J hJ hA
  by_cases hlt : k < n
  case neg =>
    refine runS hA 9 [.b false] xn (oc (dec_f (show ¬ (((k : Int) : Int) < (n : Int)) by omega)) on) (by kernel_rfl) fun w2 hA => ?_
    refine leave hA (by kernel_rfl) fun hA => ?_
    refine runS hA 8 [] xn on (by kernel_rfl) fun w3 hA => ?_
    exact ret (v := .int .i64 (-1)) hA [] (by kernel_rfl) ⟨-1, rfl, hA.below, by rw [any_false (p := p) (d := noQ) fun j hj => hz j (by omega)]; rfl⟩
  case pos =>
    have hq9 := hx.at hlt
    obtain ⟨b, off, rfl, hbB, hc⟩ := hq9
    have k0 := hc 0 _ rfl
    have k1 := hc 1 _ rfl
    have k2 := hc 2 _ rfl
    have k3 := hc 3 _ rfl
    refine runS hA 24 [.b true, .i, .x (.int .i64 ((xs[k]?.getD noQ).r)), .x (.int .i64 ((xs[k]?.getD noQ).n)), .x (.int .i64 ((xs[k]?.getD noQ).d)), .x (.bool ((xs[k]?.getD noQ).lay))] (xc (a := ⟨b, off + k * 4, none⟩) ⟨Nat.lt_of_lt_of_le hbB hB, k0⟩ (xc (a := ⟨b, off + k * 4 + 1, none⟩) ⟨Nat.lt_of_lt_of_le hbB hB, k1⟩ (xc (a := ⟨b, off + k * 4 + 2, none⟩) ⟨Nat.lt_of_lt_of_le hbB hB, k2⟩ (xc (a := ⟨b, off + k * 4 + 3, none⟩) ⟨Nat.lt_of_lt_of_le hbB hB, k3⟩ xn)))) (oc (dec_t (show (((k : Int) : Int) < (n : Int)) by omega)) (oc (show (0 : Int) ≤ ((k : Int) : Int) ∧ ((k : Int) : Int) < (n : Int) by omega) on)) (by kernel_rfl) fun w2 hA => ?_
    have hcl := hf w2 hA.below (xs[k]?.getD noQ) (get_mem (by omega))
    refine callB hA [] on hcl (by kernel_rfl) fun w3 hb3 hA => ?_
    have hq9 := Bool.eq_false_or_eq_true (p (xs[k]?.getD noQ))
    rcases hq9 with hp | hp
    ·
      refine runS hA 12 [.b true] xn (oc (show Value.bool (p (xs[k]?.getD noQ)) = .bool true by rw [hp]) on) (by kernel_rfl) fun w4 hA => ?_
      refine leave hA (by kernel_rfl) fun hA => ?_
      refine runS hA 2 [] xn on (by kernel_rfl) fun w5 hA => ?_
      exact ret (v := .int .i64 (k : Int)) hA [] (by kernel_rfl) ⟨(k : Int), rfl, hA.below, by rw [any_true (p := p) (k := k) (d := noQ) (by omega) hp, decide_eq_true (by omega)]⟩
    ·
      refine runS hA 10 [.b false, .v (.int .i64 ((k : Int) + 1))] xn (oc (show Value.bool (p (xs[k]?.getD noQ)) = .bool false by rw [hp]) (oc (show Value.int .i64 (IntKind.i64.wrap ((k : Int) + 1)) = .int .i64 ((k : Int) + 1) from wrp (by omega)) on)) (by kernel_rfl) fun w4 hA => ?_
      refine revals hA (rc 8 (show .int .i64 ((k : Int) + 1) = .int .i64 ((k + 1 : Nat) : Int) by rw [show ((k + 1 : Nat) : Int) = (k : Int) + 1 by omega]) rn) (by kernel_rfl) fun hA => ?_
      exact again hJ (n - (k + 1)) (k + 1) [] hA (by omega) (by kernel_rfl) (⟨by omega, rfl, fun j hj => by rcases Nat.lt_succ_iff_lt_or_eq.1 hj with h | rfl; exact hz j h; exact hp⟩)
set_option maxRecDepth 20000 in
theorem containsB_any (w : World) (B : Nat) (A : Option Addr) (n c : Nat) (xs : List Qt) (p : Qt → Bool) (hx : QtsAt w B A n xs) (hB : B ≤ w.heap.size) (hf : ∀ W, Below w.heap.size w W → ∀ x, x ∈ xs → Calls Try.prog 108 #[.agg #[.int .i64 x.r, .int .i64 x.n, .int .i64 x.d, .bool x.lay]] W fun e w' => e = .returned (.bool (p x)) ∧ Below W.heap.size W w') :
    Calls Try.prog 98 #[.slice A n c, .func (.func 108) #[] #[]] w fun e w' => e = .returned (.bool (xs.any p)) ∧ Below w.heap.size w w' := by
  refine enter 9 Try.func98 (by kernel_rfl) fun hA => ?_
  refine runS hA 9 [] xn on (by kernel_rfl) fun w1 hA => ?_
  refine call hA [] on (indexB_any w1 B A n c xs p (hx.below hA.below hB) (Nat.le_trans hB hA.size) fun W hW x hxm => hf W ((hA.below).trans (hW.mono hA.size)) x hxm) (by kernel_rfl) (by rintro e v ⟨i, rfl, hbi, hi⟩; exact hbi) ?_
  rintro e w2 ⟨i, rfl, hbi, hi⟩
  refine ⟨_, rfl, fun hA => ?_⟩
  refine runS hA 5 [] xn on (by kernel_rfl) fun w3 hA => ?_
  exact ret (v := .bool (decide ((i : Int) ≥ (0 : Int)))) hA [] (by kernel_rfl) ⟨by rw [hi], hA.below⟩
set_option maxRecDepth 20000 in
theorem indexC_any (w : World) (B : Nat) (A : Option Addr) (n c : Nat) (xs : List Qt) (p : Qt → Bool) (b1 b2 : Nat) (hx : QtsAt w B A n xs) (hB : B ≤ w.heap.size) (hf : ∀ W, Below w.heap.size w W → ∀ x, x ∈ xs → Calls Try.prog 96 #[.agg #[.int .i64 x.r, .int .i64 x.n, .int .i64 x.d, .bool x.lay], .pointer (some ⟨b1, 0, none⟩), .pointer (some ⟨b2, 0, none⟩)] W fun e w' => e = .returned (.bool (p x)) ∧ Below W.heap.size W w') :
    Calls Try.prog 120 #[.slice A n c, .func (.func 96) #[] #[.pointer (some ⟨b1, 0, none⟩), .pointer (some ⟨b2, 0, none⟩)]] w fun e w' => ∃ i : Int, e = .returned (.int .i64 i) ∧ Below w.heap.size w w' ∧ decide (i ≥ 0) = xs.any p := by
  refine enter 19 Try.func120 (by kernel_rfl) fun hA => ?_
  refine runS hA 14 [] xn on (by kernel_rfl) fun w1 hA => ?_
  have hn9 := hx.2.1
  have hn1 := hx.1
  refine loop (γ := Nat) (fun k => [(0, .slice A n c), (1, .func (.func 96) #[] #[.pointer (some ⟨b1, 0, none⟩), .pointer (some ⟨b2, 0, none⟩)]), (7, .int .i64 n), (8, .int .i64 (k : Int))]) (fun k => []) (fun _ => []) (fun g k wr => k ≤ n ∧ g = n - k ∧ ∀ j, j < k → p (xs[j]?.getD noQ) = false) n 0 [] hA (by kernel_rfl) (⟨by omega, rfl, fun j hj => absurd hj (by omega)⟩) ?_
  rintro _ k wr ⟨hk, rfl, hz⟩ J hJ hA
  by_cases hlt : k < n
  case neg =>
    refine runS hA 9 [.b false] xn (oc (dec_f (show ¬ (((k : Int) : Int) < (n : Int)) by omega)) on) (by kernel_rfl) fun w2 hA => ?_
    refine leave hA (by kernel_rfl) fun hA => ?_
    refine runS hA 8 [] xn on (by kernel_rfl) fun w3 hA => ?_
    exact ret (v := .int .i64 (-1)) hA [] (by kernel_rfl) ⟨-1, rfl, hA.below, by rw [any_false (p := p) (d := noQ) fun j hj => hz j (by omega)]; rfl⟩
  case pos =>
    have hq9 := hx.at hlt
    obtain ⟨b, off, rfl, hbB, hc⟩ := hq9
    have k0 := hc 0 _ rfl
    have k1 := hc 1 _ rfl
    have k2 := hc 2 _ rfl
    have k3 := hc 3 _ rfl
    refine runS hA 24 [.b true, .i, .x (.int .i64 ((xs[k]?.getD noQ).r)), .x (.int .i64 ((xs[k]?.getD noQ).n)), .x (.int .i64 ((xs[k]?.getD noQ).d)), .x (.bool ((xs[k]?.getD noQ).lay))] (xc (a := ⟨b, off + k * 4, none⟩) ⟨Nat.lt_of_lt_of_le hbB hB, k0⟩ (xc (a := ⟨b, off + k * 4 + 1, none⟩) ⟨Nat.lt_of_lt_of_le hbB hB, k1⟩ (xc (a := ⟨b, off + k * 4 + 2, none⟩) ⟨Nat.lt_of_lt_of_le hbB hB, k2⟩ (xc (a := ⟨b, off + k * 4 + 3, none⟩) ⟨Nat.lt_of_lt_of_le hbB hB, k3⟩ xn)))) (oc (dec_t (show (((k : Int) : Int) < (n : Int)) by omega)) (oc (show (0 : Int) ≤ ((k : Int) : Int) ∧ ((k : Int) : Int) < (n : Int) by omega) on)) (by kernel_rfl) fun w2 hA => ?_
    have hcl := hf w2 hA.below (xs[k]?.getD noQ) (get_mem (by omega))
    refine callB hA [] on hcl (by kernel_rfl) fun w3 hb3 hA => ?_
    have hq9 := Bool.eq_false_or_eq_true (p (xs[k]?.getD noQ))
    rcases hq9 with hp | hp
    ·
      refine runS hA 12 [.b true] xn (oc (show Value.bool (p (xs[k]?.getD noQ)) = .bool true by rw [hp]) on) (by kernel_rfl) fun w4 hA => ?_
      refine leave hA (by kernel_rfl) fun hA => ?_
      refine runS hA 2 [] xn on (by kernel_rfl) fun w5 hA => ?_
      exact ret (v := .int .i64 (k : Int)) hA [] (by kernel_rfl) ⟨(k : Int), rfl, hA.below, by rw [any_true (p := p) (k := k) (d := noQ) (by omega) hp, decide_eq_true (by omega)]⟩
    ·
      refine runS hA 10 [.b false, .v (.int .i64 ((k : Int) + 1))] xn (oc (show Value.bool (p (xs[k]?.getD noQ)) = .bool false by rw [hp]) (oc (show Value.int .i64 (IntKind.i64.wrap ((k : Int) + 1)) = .int .i64 ((k : Int) + 1) from wrp (by omega)) on)) (by kernel_rfl) fun w4 hA => ?_
      refine revals hA (rc 8 (show .int .i64 ((k : Int) + 1) = .int .i64 ((k + 1 : Nat) : Int) by rw [show ((k + 1 : Nat) : Int) = (k : Int) + 1 by omega]) rn) (by kernel_rfl) fun hA => ?_
      exact again hJ (n - (k + 1)) (k + 1) [] hA (by omega) (by kernel_rfl) (⟨by omega, rfl, fun j hj => by rcases Nat.lt_succ_iff_lt_or_eq.1 hj with h | rfl; exact hz j h; exact hp⟩)
set_option maxRecDepth 20000 in
theorem containsC_any (w : World) (B : Nat) (A : Option Addr) (n c : Nat) (xs : List Qt) (p : Qt → Bool) (b1 b2 : Nat) (hx : QtsAt w B A n xs) (hB : B ≤ w.heap.size) (hf : ∀ W, Below w.heap.size w W → ∀ x, x ∈ xs → Calls Try.prog 96 #[.agg #[.int .i64 x.r, .int .i64 x.n, .int .i64 x.d, .bool x.lay], .pointer (some ⟨b1, 0, none⟩), .pointer (some ⟨b2, 0, none⟩)] W fun e w' => e = .returned (.bool (p x)) ∧ Below W.heap.size W w') :
    Calls Try.prog 98 #[.slice A n c, .func (.func 96) #[] #[.pointer (some ⟨b1, 0, none⟩), .pointer (some ⟨b2, 0, none⟩)]] w fun e w' => e = .returned (.bool (xs.any p)) ∧ Below w.heap.size w w' := by
  refine enter 9 Try.func98 (by kernel_rfl) fun hA => ?_
  refine runS hA 9 [] xn on (by kernel_rfl) fun w1 hA => ?_
  refine call hA [] on (indexC_any w1 B A n c xs p b1 b2 (hx.below hA.below hB) (Nat.le_trans hB hA.size) fun W hW x hxm => hf W ((hA.below).trans (hW.mono hA.size)) x hxm) (by kernel_rfl) (by rintro e v ⟨i, rfl, hbi, hi⟩; exact hbi) ?_
  rintro e w2 ⟨i, rfl, hbi, hi⟩
  refine ⟨_, rfl, fun hA => ?_⟩
  refine runS hA 5 [] xn on (by kernel_rfl) fun w3 hA => ?_
  exact ret (v := .bool (decide ((i : Int) ≥ (0 : Int)))) hA [] (by kernel_rfl) ⟨by rw [hi], hA.below⟩
set_option maxRecDepth 20000 in
theorem wclo_any (w : World) (b1 b2 : Nat) (lo hi x : Int) (h1 : b1 < w.heap.size ∧ w.cell? ⟨b1, 0, none⟩ = some (.int .i64 lo)) (h2 : b2 < w.heap.size ∧ w.cell? ⟨b2, 0, none⟩ = some (.int .i64 hi)) :
    Calls Try.prog 104 #[.int .i64 x, .pointer (some ⟨b1, 0, none⟩), .pointer (some ⟨b2, 0, none⟩)] w fun e w' => e = .returned (.bool (decide (x < lo) || decide (x > hi))) ∧ Below w.heap.size w w' := by
  refine enter 13 Try.func104 (by kernel_rfl) fun hA => ?_
  refine runS hA 11 [.x (.int .i64 lo), .t 0] (xc (a := ⟨b1, 0, none⟩) h1 xn) on (by kernel_rfl) fun w1 hA => ?_
  by_cases ht1 : (x : Int) < (lo : Int)
  case pos =>
    refine runS hA 8 [.g true, .g true, .g true] xn (oc (dec_t ht1) (oc (rfl : Value.bool true = .bool true) (oc (rfl : Value.bool true = .bool true) on))) (by kernel_rfl) fun w2 hA => ?_
    exact ret (v := .bool true) hA [] (by kernel_rfl) ⟨by simp [ht1], hA.below⟩
  case neg =>
    refine runS hA 8 [.g false, .g false, .x (.int .i64 hi), .g false] (xc (a := ⟨b2, 0, none⟩) h2 xn) (oc (dec_f ht1) (oc (rfl : Value.bool false = .bool false) (oc (rfl : Value.bool false = .bool false) on))) (by kernel_rfl) fun w2 hA => ?_
    exact ret (v := .bool (decide ((x : Int) > (hi : Int)))) hA [] (by kernel_rfl) ⟨by simp [ht1], hA.below⟩
set_option maxRecDepth 20000 in
theorem within_c (w : World) (B : Nat) (lo hi : Int) (A : Option Addr) (n c : Nat) (xs : List Int) (hx : IntsAt w B A n xs) (hB : B ≤ w.heap.size) :
    Calls Try.prog 80 #[.int .i64 lo, .int .i64 hi, .slice A n c] w fun e w' => e = .returned (.bool (withinF lo hi xs)) ∧ Below w.heap.size w w' := by
  refine enter 11 Try.func80 (by kernel_rfl) fun hA => ?_
  refine runS hA 11 [] xn on (by kernel_rfl) fun w1 hA => ?_
  have hw1 := hA.at_.ok ⟨w.heap.size, .cells #[.int .i64 lo] 2 (0, 0)⟩ (List.mem_of_getElem? (i := 0) (by kernel_rfl))
  have hw2 := hA.at_.ok ⟨w.heap.size + 1, .cells #[.int .i64 hi] 2 (0, 0)⟩ (List.mem_of_getElem? (i := 1) (by kernel_rfl))
  refine callB hA [] on (containsW_any w1 B A n c xs (fun x => decide (x < lo) || decide (x > hi)) w.heap.size (w.heap.size + 1) (hx.below hA.below hB) (Nat.le_trans hB hA.size) fun W hW x _ => wclo_any W _ _ lo hi x ⟨Nat.lt_of_lt_of_le (Array.getElem?_eq_some_iff.1 hw1).1 hW.size, (hW.cell (Array.getElem?_eq_some_iff.1 hw1).1).trans (cell_of_obj hw1 rfl rfl)⟩ ⟨Nat.lt_of_lt_of_le (Array.getElem?_eq_some_iff.1 hw2).1 hW.size, (hW.cell (Array.getElem?_eq_some_iff.1 hw2).1).trans (cell_of_obj hw2 rfl rfl)⟩) (by kernel_rfl) fun w2 hb2 hA => ?_
  refine runS hA 5 [] xn on (by kernel_rfl) fun w3 hA => ?_
  exact ret (v := .bool (!(xs.any fun x => decide (x < lo) || decide (x > hi)))) hA [] (by kernel_rfl) ⟨by rw [within_any], hA.below⟩
end Go.Proofs.Ytfidkgpimlpdbaa
