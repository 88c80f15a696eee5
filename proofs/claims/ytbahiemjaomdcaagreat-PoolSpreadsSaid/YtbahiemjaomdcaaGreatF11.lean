/- Parts of a proof: VA VB VC. -/
import Derived.Test.YtbahiemjaomdcaaGreatF10

/- quinellaref03: Alone, isBet, Has, CheckBook. -/
namespace Go.Proofs.YtbahiemjaomdcaaGreat
open Go.RowKit Go.Shelf

theorem mem_get {xs : List Int} {x : Int} {j : Nat} (hj : j < xs.length) (h : xs[j]?.getD 0 = x) : x ∈ xs := by
  rw [List.getElem?_eq_getElem hj] at h
  rw [← h]
  exact List.getElem_mem _
theorem not_mem_get {xs : List Int} {x : Int} (h : ∀ j, j < xs.length → xs[j]?.getD 0 ≠ x) : x ∉ xs := fun hm => by
  obtain ⟨j, hj, e⟩ := List.mem_iff_getElem.1 hm
  refine h j hj ?_
  rw [List.getElem?_eq_getElem hj]
  exact e
theorem isR_iff (b : Bk) (x : Int) : isR b x = true ↔ 0 ≤ x ∧ x < b.runners := by
  unfold isR
  simp only [Bool.and_eq_true, decide_eq_true_eq]
  omega
theorem refuses_first {b : Bk} {x : Bet} (h : ¬ ((0 ≤ x.first ∧ x.first < b.runners) ∧ 1 ≤ x.units ∧ x.units ≤ 1000)) : refusesF b x = true := by
  unfold refusesF
  rw [if_pos]
  rw [isR_iff, within_one]
  simp only [Bool.and_eq_true, decide_eq_true_eq]
  exact h
theorem refuses_rest {b : Bk} {x : Bet} (h : (0 ≤ x.first ∧ x.first < b.runners) ∧ 1 ≤ x.units ∧ x.units ≤ 1000) : refusesF b x = if b.kind = 2 then !isR b x.second || decide (x.second = x.first) else if b.kind = 3 then !isR b x.second || decide (x.second ≤ x.first) else !decide (x.second = -1) := by
  unfold refusesF
  rw [if_neg]
  rw [isR_iff, within_one]
  simp only [Bool.and_eq_true, decide_eq_true_eq, Classical.not_not]
  exact h
theorem isR_false {b : Bk} {x : Int} (h : ¬ (0 ≤ x ∧ x < b.runners)) : isR b x = false := by
  cases hc : isR b x with
  | false => rfl
  | true => exact absurd ((isR_iff b x).1 hc) h
theorem bookF_eq (b : Bk) : bookF b = if ¬ (0 ≤ b.kind ∧ b.kind ≤ 3) then 2 else if ¬ ((2 ≤ b.runners ∧ b.runners ≤ 8) ∧ (0 ≤ b.car ∧ b.car ≤ 1000000) ∧ (0 ≤ b.dut ∧ b.dut ≤ 500) ∧ (1 ≤ b.stp ∧ b.stp ≤ 100)) then 3
    else if 100 < b.bets.length then 6 else if b.bets.any (refusesF b) = true then 16 else if scratchable b b.scr = false then 15 else 0 := by
  unfold bookF
  have e1 : (withinF 0 3 [b.kind] = false) ↔ ¬ (0 ≤ b.kind ∧ b.kind ≤ 3) := by
    rw [within_one]
    simp
  have e2 : (¬ (withinF 2 8 [b.runners] = true ∧ withinF 0 1000000 [b.car] = true ∧ withinF 0 500 [b.dut] = true ∧ withinF 1 100 [b.stp] = true)) ↔ ¬ ((2 ≤ b.runners ∧ b.runners ≤ 8) ∧ (0 ≤ b.car ∧ b.car ≤ 1000000) ∧ (0 ≤ b.dut ∧ b.dut ≤ 500) ∧ (1 ≤ b.stp ∧ b.stp ≤ 100)) := by
    simp only [within_one, Bool.and_eq_true, decide_eq_true_eq]
  simp only [e1, e2]
set_option maxRecDepth 20000 in
theorem alone_any (w : World) (k : Int) : Calls Tryz.prog 70 #[.int .i64 k] w fun e w' => e = .returned (.bool (decide (k = 0 ∨ k = 1))) ∧ Below w.heap.size w w' := by
  refine enter 9 Tryz.func70 (by kernel_rfl) fun hA => ?_
  refine runS hA 10 [.t 0] xn on (by kernel_rfl) fun w1 hA => ?_
  by_cases h0 : k = 0
  case pos =>
    refine runS hA 7 [.g true, .g true] xn (oc (eq_t h0) (oc (rfl : Value.bool true = .bool true) on)) (by kernel_rfl) fun w2 hA => ?_
    exact ret (v := .bool true) hA [] (by kernel_rfl) ⟨by rw [decide_eq_true (show k = 0 ∨ k = 1 from .inl h0)], hA.below⟩
  case neg =>
    by_cases h1 : k = 1
    case pos =>
      refine runS hA 7 [.g false, .g false] xn (oc (eq_f h0) (oc (rfl : Value.bool false = .bool false) on)) (by kernel_rfl) fun w2 hA => ?_
      have hk : (k == 1) = true := by rw [h1]; rfl
      exact ret (v := .bool (k == 1)) hA [] (by kernel_rfl) ⟨by rw [decide_eq_true (show k = 0 ∨ k = 1 from .inr h1), hk], hA.below⟩
    case neg =>
      refine runS hA 7 [.g false, .g false] xn (oc (eq_f h0) (oc (rfl : Value.bool false = .bool false) on)) (by kernel_rfl) fun w2 hA => ?_
      have hk : (k == 1) = false := by simpa using h1
      exact ret (v := .bool (k == 1)) hA [] (by kernel_rfl) ⟨by rw [decide_eq_false (show ¬ (k = 0 ∨ k = 1) by omega), hk], hA.below⟩
set_option maxRecDepth 20000 in
theorem has_any (w : World) (B : Nat) (A : Option Addr) (n c : Nat) (xs : List Int) (x : Int) (hx : IntsAt w B A n xs) (hB : B ≤ w.heap.size) : Calls Tryz.prog 50 #[.slice A n c, .int .i64 x] w fun e w' => e = .returned (.bool (decide (x ∈ xs))) ∧ Below w.heap.size w w' := by
  have hxl := hx.len
  refine enter 18 Tryz.func50 (by kernel_rfl) fun hA => ?_
  refine runS hA 12 [] xn on (by kernel_rfl) fun w1 hA => ?_
  refine loop (γ := Nat) (fun i => [(0, .slice A n c), (1, .int .i64 x), (5, .int .i64 (i : Int))]) (fun i => []) (fun _ => []) (fun g i wr => i ≤ n ∧ g = n - i ∧ ∀ j, j < i → xs[j]?.getD 0 ≠ x) n 0 [] hA (by kernel_rfl) (⟨Nat.zero_le _, rfl, fun j hj => absurd hj (Nat.not_lt_zero _)⟩) ?_
  rintro _ i wr ⟨hi, rfl, hs⟩ J hJ hA
  by_cases hlt : i < n
  case neg =>
    refine runS hA 12 [.b false] xn (oc (dec_f (show ¬ (((i : Int) : Int) < (n : Int)) by omega)) on) (by kernel_rfl) fun w2 hA => ?_
    refine leave hA (by kernel_rfl) fun hA => ?_
    refine runS hA 8 [] xn on (by kernel_rfl) fun w3 hA => ?_
    exact ret (v := .bool false) hA [] (by kernel_rfl) ⟨by rw [decide_eq_false (not_mem_get fun j hj => hs j (by omega))], hA.below⟩
  case pos =>
    obtain ⟨b1, o1, rfl, hb1, hc1⟩ := hx.cell hlt
    have hc' : b1 < w.heap.size ∧ w.cell? ⟨b1, o1 + i * 1, none⟩ = some (.int .i64 (xs[i]?.getD 0)) := ⟨by omega, by simpa using hc1⟩
    by_cases he : xs[i]?.getD 0 = x
    case pos =>
      refine runS hA 33 [.b true, .i, .x (.int .i64 (xs[i]?.getD 0)), .b true] (xc (a := ⟨b1, o1 + i * 1, none⟩) hc' xn) (oc (dec_t (show (((i : Int) : Int) < (n : Int)) by omega)) (oc (show (0 : Int) ≤ ((i : Int) : Int) ∧ ((i : Int) : Int) < (n : Int) by omega) (oc (eq_t he) on))) (by kernel_rfl) fun w2 hA => ?_
      refine leave hA (by kernel_rfl) fun hA => ?_
      refine runS hA 2 [] xn on (by kernel_rfl) fun w3 hA => ?_
      exact ret (v := .bool true) hA [] (by kernel_rfl) ⟨by rw [decide_eq_true (mem_get (by omega) he)], hA.below⟩
    case neg =>
      refine runS hA 33 [.b true, .i, .x (.int .i64 (xs[i]?.getD 0)), .b false] (xc (a := ⟨b1, o1 + i * 1, none⟩) hc' xn) (oc (dec_t (show (((i : Int) : Int) < (n : Int)) by omega)) (oc (show (0 : Int) ≤ ((i : Int) : Int) ∧ ((i : Int) : Int) < (n : Int) by omega) (oc (eq_f he) on))) (by kernel_rfl) fun w2 hA => ?_
      refine revals hA (rc 5 (wr64 (x := (i : Int) + 1) (y := ((i + 1 : Nat) : Int)) (by have := hx.small; omega) (by omega)) rn) (by kernel_rfl) fun hA => ?_
      exact again hJ (n - (i + 1)) (i + 1) [] hA (by omega) (by kernel_rfl) (⟨by omega, rfl, fun j hj => by by_cases hji : j = i; rw [hji]; exact he; exact hs j (by omega)⟩)
set_option maxRecDepth 20000 in
theorem isBet_any (w : World) (b : Bk) (A : Option Addr) (n c : Nat) (A2 : Option Addr) (m c2 : Nat) (x : Bet) (hk : 0 ≤ b.kind ∧ b.kind ≤ 3) : Calls Tryz.prog 45 #[bkV b A n c A2 m c2, betV x] w fun e w' => e = .returned (.bool (!refusesF b x)) ∧ Below w.heap.size w w' := by
  refine enter 58 Tryz.func45 (by kernel_rfl) fun hA => ?_
  by_cases ht0 : x.units < 1
  case pos =>
    refine runS hA 40 ([.k 1] ++ List.replicate 11 (.g true)) xn (oc (dec_t (show ((x.units : Int) < (1 : Int)) by omega)) (oc (rfl : Value.bool true = .bool true) (oc (rfl : Value.bool true = .bool true) (oc (rfl : Value.bool true = .bool true) (oc (rfl : Value.bool true = .bool true) (oc (rfl : Value.bool true = .bool true) (oc (rfl : Value.bool true = .bool true) (oc (rfl : Value.bool true = .bool true) (oc (rfl : Value.bool true = .bool true) (oc (rfl : Value.bool true = .bool true) (oc (rfl : Value.bool true = .bool true) on))))))))))) (by kernel_rfl) fun w1 hA => ?_
    exact ret (v := .bool false) hA [] (by kernel_rfl) ⟨by rw [refuses_first (by omega)]; rfl, hA.below⟩
  case neg =>
    by_cases ht1 : x.units > 1000
    case pos =>
      refine runS hA 40 ([.k 1, .g false, .g false, .k 1, .g false] ++ List.replicate 8 (.g true)) xn (oc (dec_f (show ¬ ((x.units : Int) < (1 : Int)) by omega)) (oc (rfl : Value.bool false = .bool false) (oc (rfl : Value.bool false = .bool false) (oc (dec_t (show ((x.units : Int) > (1000 : Int)) by omega)) (oc (rfl : Value.bool true = .bool true) (oc (rfl : Value.bool true = .bool true) (oc (rfl : Value.bool true = .bool true) (oc (rfl : Value.bool true = .bool true) (oc (rfl : Value.bool true = .bool true) (oc (rfl : Value.bool true = .bool true) (oc (rfl : Value.bool true = .bool true) on))))))))))) (by kernel_rfl) fun w1 hA => ?_
      exact ret (v := .bool false) hA [] (by kernel_rfl) ⟨by rw [refuses_first (by omega)]; rfl, hA.below⟩
    case neg =>
      by_cases ht2 : x.first < 0
      case pos =>
        refine runS hA 40 ([.k 1, .g false, .g false, .k 1, .g false, .g false, .g false, .k 1, .g false] ++ List.replicate 5 (.g true)) xn (oc (dec_f (show ¬ ((x.units : Int) < (1 : Int)) by omega)) (oc (rfl : Value.bool false = .bool false) (oc (rfl : Value.bool false = .bool false) (oc (dec_f (show ¬ ((x.units : Int) > (1000 : Int)) by omega)) (oc (rfl : Value.bool false = .bool false) (oc (rfl : Value.bool false = .bool false) (oc (dec_t (show ((x.first : Int) < (0 : Int)) by omega)) (oc (rfl : Value.bool true = .bool true) (oc (rfl : Value.bool true = .bool true) (oc (rfl : Value.bool true = .bool true) (oc (rfl : Value.bool true = .bool true) on))))))))))) (by kernel_rfl) fun w1 hA => ?_
        exact ret (v := .bool false) hA [] (by kernel_rfl) ⟨by rw [refuses_first (by omega)]; rfl, hA.below⟩
      case neg =>
        by_cases ht3 : x.first ≥ b.runners
        case pos =>
          refine runS hA 40 [.k 1, .g false, .g false, .k 1, .g false, .g false, .g false, .k 1, .g false, .g false, .g false, .k 1, .g false, .g false, .k 0, .g false, .b true] xn (oc (dec_f (show ¬ ((x.units : Int) < (1 : Int)) by omega)) (oc (rfl : Value.bool false = .bool false) (oc (rfl : Value.bool false = .bool false) (oc (dec_f (show ¬ ((x.units : Int) > (1000 : Int)) by omega)) (oc (rfl : Value.bool false = .bool false) (oc (rfl : Value.bool false = .bool false) (oc (dec_f (show ¬ ((x.first : Int) < (0 : Int)) by omega)) (oc (rfl : Value.bool false = .bool false) (oc (rfl : Value.bool false = .bool false) (oc (rfl : Value.bool false = .bool false) (oc (rfl : Value.bool false = .bool false) (oc (dec_t (show ((x.first : Int) ≥ (b.runners : Int)) by omega)) on)))))))))))) (by kernel_rfl) fun w1 hA => ?_
          exact ret (v := .bool false) hA [] (by kernel_rfl) ⟨by rw [refuses_first (by omega)]; rfl, hA.below⟩
        case neg =>
          refine runS hA 40 [.k 1, .g false, .g false, .k 1, .g false, .g false, .g false, .k 1, .g false, .g false, .g false, .k 1, .g false, .g false, .k 0, .g false, .b false, .k 0] xn (oc (dec_f (show ¬ ((x.units : Int) < (1 : Int)) by omega)) (oc (rfl : Value.bool false = .bool false) (oc (rfl : Value.bool false = .bool false) (oc (dec_f (show ¬ ((x.units : Int) > (1000 : Int)) by omega)) (oc (rfl : Value.bool false = .bool false) (oc (rfl : Value.bool false = .bool false) (oc (dec_f (show ¬ ((x.first : Int) < (0 : Int)) by omega)) (oc (rfl : Value.bool false = .bool false) (oc (rfl : Value.bool false = .bool false) (oc (rfl : Value.bool false = .bool false) (oc (rfl : Value.bool false = .bool false) (oc (dec_f (show ¬ ((x.first : Int) ≥ (b.runners : Int)) by omega)) on)))))))))))) (by kernel_rfl) fun w1 hA => ?_
          have hfi : (0 ≤ x.first ∧ x.first < b.runners) ∧ 1 ≤ x.units ∧ x.units ≤ 1000 := by omega
          refine callB hA [] on (alone_any w1 b.kind) (by kernel_rfl) fun w2 hb2 hA => ?_
          by_cases hal : b.kind = 0 ∨ b.kind = 1
          case pos =>
            refine revals hA (rc 27 (show .bool (decide (b.kind = 0 ∨ b.kind = 1)) = .bool true by rw [decide_eq_true hal]) rn) (by kernel_rfl) fun hA => ?_
            refine runS hA 13 [.k 1] xn on (by kernel_rfl) fun w3 hA => ?_
            have he : (x.second == -1) = !refusesF b x := by rw [refuses_rest hfi, if_neg (by omega), if_neg (by omega)]; cases hd : decide (x.second = -1) <;> simp_all
            exact ret (v := .bool (x.second == (-1))) hA [] (by kernel_rfl) ⟨by rw [← he], hA.below⟩
          case neg =>
            refine revals hA (rc 27 (show .bool (decide (b.kind = 0 ∨ b.kind = 1)) = .bool false by rw [decide_eq_false hal]) rn) (by kernel_rfl) fun hA => ?_
            by_cases hu0 : x.second < 0
            case pos =>
              refine runS hA 35 ([.k 1] ++ List.replicate 10 (.g true)) xn (oc (dec_t (show ((x.second : Int) < (0 : Int)) by omega)) (oc (rfl : Value.bool true = .bool true) (oc (rfl : Value.bool true = .bool true) (oc (rfl : Value.bool true = .bool true) (oc (rfl : Value.bool true = .bool true) (oc (rfl : Value.bool true = .bool true) (oc (rfl : Value.bool true = .bool true) (oc (rfl : Value.bool true = .bool true) (oc (rfl : Value.bool true = .bool true) (oc (rfl : Value.bool true = .bool true) on)))))))))) (by kernel_rfl) fun w3 hA => ?_
              have h23 : b.kind = 2 ∨ b.kind = 3 := by omega
              have hrt : refusesF b x = true := by rw [refuses_rest hfi]; rcases h23 with e | e; (rw [if_pos e, isR_false (by omega)]; rfl); (rw [if_neg (by omega), if_pos e, isR_false (by omega)]; rfl)
              exact ret (v := .bool false) hA [] (by kernel_rfl) ⟨by rw [hrt]; rfl, hA.below⟩
            case neg =>
              by_cases hu1 : x.second ≥ b.runners
              case pos =>
                refine runS hA 35 ([.k 1, .g false, .g false, .k 1, .g false, .g false, .k 0, .g false] ++ List.replicate 5 (.g true)) xn (oc (dec_f (show ¬ ((x.second : Int) < (0 : Int)) by omega)) (oc (rfl : Value.bool false = .bool false) (oc (rfl : Value.bool false = .bool false) (oc (rfl : Value.bool false = .bool false) (oc (rfl : Value.bool false = .bool false) (oc (dec_t (show ((x.second : Int) ≥ (b.runners : Int)) by omega)) (oc (rfl : Value.bool true = .bool true) (oc (rfl : Value.bool true = .bool true) (oc (rfl : Value.bool true = .bool true) (oc (rfl : Value.bool true = .bool true) on)))))))))) (by kernel_rfl) fun w3 hA => ?_
                have h23 : b.kind = 2 ∨ b.kind = 3 := by omega
                have hrt : refusesF b x = true := by rw [refuses_rest hfi]; rcases h23 with e | e; (rw [if_pos e, isR_false (by omega)]; rfl); (rw [if_neg (by omega), if_pos e, isR_false (by omega)]; rfl)
                exact ret (v := .bool false) hA [] (by kernel_rfl) ⟨by rw [hrt]; rfl, hA.below⟩
              case neg =>
                by_cases hu2 : x.second = x.first
                case pos =>
                  refine runS hA 35 [.k 1, .g false, .g false, .k 1, .g false, .g false, .k 0, .g false, .g false, .g false, .k 1, .g false, .g false, .k 1, .g false, .b true] xn (oc (dec_f (show ¬ ((x.second : Int) < (0 : Int)) by omega)) (oc (rfl : Value.bool false = .bool false) (oc (rfl : Value.bool false = .bool false) (oc (rfl : Value.bool false = .bool false) (oc (rfl : Value.bool false = .bool false) (oc (dec_f (show ¬ ((x.second : Int) ≥ (b.runners : Int)) by omega)) (oc (rfl : Value.bool false = .bool false) (oc (rfl : Value.bool false = .bool false) (oc (rfl : Value.bool false = .bool false) (oc (rfl : Value.bool false = .bool false) (oc (eq_t hu2) on))))))))))) (by kernel_rfl) fun w3 hA => ?_
                  have h23 : b.kind = 2 ∨ b.kind = 3 := by omega
                  have hrt : refusesF b x = true := by rw [refuses_rest hfi]; rcases h23 with e | e; (rw [if_pos e, decide_eq_true (p := x.second = x.first) (by omega), Bool.or_true]); (rw [if_neg (by omega), if_pos e, decide_eq_true (p := x.second ≤ x.first) (by omega), Bool.or_true])
                  exact ret (v := .bool false) hA [] (by kernel_rfl) ⟨by rw [hrt]; rfl, hA.below⟩
                case neg =>
                  refine runS hA 36 [.k 1, .g false, .g false, .k 1, .g false, .g false, .k 0, .g false, .g false, .g false, .k 1, .g false, .g false, .k 1, .g false, .b false, .k 0, .t 0] xn (oc (dec_f (show ¬ ((x.second : Int) < (0 : Int)) by omega)) (oc (rfl : Value.bool false = .bool false) (oc (rfl : Value.bool false = .bool false) (oc (rfl : Value.bool false = .bool false) (oc (rfl : Value.bool false = .bool false) (oc (dec_f (show ¬ ((x.second : Int) ≥ (b.runners : Int)) by omega)) (oc (rfl : Value.bool false = .bool false) (oc (rfl : Value.bool false = .bool false) (oc (rfl : Value.bool false = .bool false) (oc (rfl : Value.bool false = .bool false) (oc (eq_f hu2) on))))))))))) (by kernel_rfl) fun w3 hA => ?_
                  have hs : isR b x.second = true := (isR_iff b x.second).2 (by omega)
                  by_cases h2 : b.kind = 2
                  case pos =>
                    refine runS hA 10 (List.replicate 5 (.g true)) xn (oc (eq_t h2) (oc (rfl : Value.bool true = .bool true) (oc (rfl : Value.bool true = .bool true) (oc (rfl : Value.bool true = .bool true) (oc (rfl : Value.bool true = .bool true) on))))) (by kernel_rfl) fun w4 hA => ?_
                    exact ret (v := .bool true) hA [] (by kernel_rfl) ⟨by rw [refuses_rest hfi, if_pos h2, hs, decide_eq_false (p := x.second = x.first) (by omega)]; rfl, hA.below⟩
                  case neg =>
                    refine runS hA 10 [.g false, .g false, .k 1, .g false, .g false, .k 1, .g false] xn (oc (eq_f h2) (oc (rfl : Value.bool false = .bool false) (oc (rfl : Value.bool false = .bool false) (oc (rfl : Value.bool false = .bool false) (oc (rfl : Value.bool false = .bool false) on))))) (by kernel_rfl) fun w4 hA => ?_
                    exact ret (v := .bool (decide ((x.second : Int) > (x.first : Int)))) hA [] (by kernel_rfl) ⟨by rw [refuses_rest hfi, if_neg h2, if_pos (by omega), hs]; congr 2; rw [Bool.not_true, Bool.false_or]; by_cases hq : x.second ≤ x.first; rw [decide_eq_true hq, decide_eq_false (by omega)]; rfl; rw [decide_eq_false hq, decide_eq_true (by omega)]; rfl, hA.below⟩
end Go.Proofs.YtbahiemjaomdcaaGreat

/- quinellaref03: CheckBook. -/
namespace Go.Proofs.YtbahiemjaomdcaaGreat
open Go.RowKit Go.Shelf

theorem scratchable_false {b : Bk} {xs : List Int} (h : scratchable b xs = true) : ((xs.length : Int) ≤ b.runners - 2 ∧ (∀ j, j < xs.length → 0 ≤ xs[j]?.getD 0 ∧ xs[j]?.getD 0 < b.runners)) ∧ ∀ j, j + 1 < xs.length → xs[j]?.getD 0 < xs[j + 1]?.getD 0 := by
  unfold scratchable at h
  simp only [Bool.and_eq_true, decide_eq_true_eq] at h
  obtain ⟨h1, h2, h3⟩ := h
  refine ⟨⟨h3, fun j hj => ?_⟩, fun j hj => ?_⟩
  · unfold withinF at h1
    have := List.all_eq_true.1 h1 (xs[j]?.getD 0) (get_mem hj)
    simp only [Bool.and_eq_true, decide_eq_true_eq] at this
    omega
  · unfold incF at h2
    rw [List.all_eq_true] at h2
    have := h2 j (List.mem_range.2 (by omega))
    simpa using this
theorem scratchable_true {b : Bk} {xs : List Int} (h1 : (xs.length : Int) ≤ b.runners - 2) (h2 : ∀ j, j < xs.length → 0 ≤ xs[j]?.getD 0 ∧ xs[j]?.getD 0 < b.runners) (h3 : ∀ j, j + 1 < xs.length → xs[j]?.getD 0 < xs[j + 1]?.getD 0) : scratchable b xs = true := by
  unfold scratchable
  rw [withinF_true (fun j hj => by have := h2 j hj; omega), incF_true h3, decide_eq_true h1]
  rfl
theorem scratch_bad {b : Bk} {xs : List Int} (h : ¬ (((xs.length : Int) ≤ b.runners - 2 ∧ (∀ j, j < xs.length → 0 ≤ xs[j]?.getD 0 ∧ xs[j]?.getD 0 < b.runners)) ∧ ∀ j, j + 1 < xs.length → xs[j]?.getD 0 < xs[j + 1]?.getD 0)) : scratchable b xs = false := by
  cases hc : scratchable b xs with
  | false => rfl
  | true => exact absurd (scratchable_false hc) h
theorem any_yes {b : Bk} {bs : List Bet} {i : Nat} (hi : i < bs.length) (h : refusesF b (bs[i]?.getD noBet) = true) : bs.any (refusesF b) = true := List.any_eq_true.2 ⟨_, get_mem hi, h⟩
theorem any_no {b : Bk} {bs : List Bet} (h : ∀ j, j < bs.length → refusesF b (bs[j]?.getD noBet) = false) : bs.any (refusesF b) = false := by
  rw [List.any_eq_false]
  intro x hx
  obtain ⟨j, hj, rfl⟩ := List.mem_iff_getElem.1 hx
  have := h j hj
  rw [List.getElem?_eq_getElem hj] at this
  simpa using this
set_option maxHeartbeats 4000000 in
set_option maxRecDepth 20000 in
theorem rcheckBook_any (w : World) (B : Nat) (b : Bk) (A : Option Addr) (n c : Nat) (A2 : Option Addr) (m c2 : Nat) (h : BkAt w B b A n c A2 m c2) (hB : B ≤ w.heap.size) : Calls Tryz.prog 16 #[bkV b A n c A2 m c2] w fun e w' => e = .returned (.int .i64 (bookF b)) ∧ Below w.heap.size w w' := by
  have hbl := h.bets.1
  have hxl := h.scr.1
  have hn9 := h.bets.2.1
  have hm9 := h.scr.2.1
  refine enter 118 Tryz.func16 (by kernel_rfl) fun hA => ?_
  by_cases ht0 : b.kind < 0
  case pos =>
    refine runS hA 27 [.k 0, .g true, .g true, .g true] xn (oc (dec_t (show ((b.kind : Int) < (0 : Int)) by omega)) (oc (rfl : Value.bool true = .bool true) (oc (rfl : Value.bool true = .bool true) on))) (by kernel_rfl) fun w1 hA => ?_
    exact ret (v := .int .i64 2) hA [] (by kernel_rfl) ⟨by rw [bookF_eq, if_pos (by omega)], hA.below⟩
  case neg =>
    by_cases ht1 : b.kind > 3
    case pos =>
      refine runS hA 27 [.k 0, .g false, .g false, .k 0, .g false, .b true] xn (oc (dec_f (show ¬ ((b.kind : Int) < (0 : Int)) by omega)) (oc (rfl : Value.bool false = .bool false) (oc (rfl : Value.bool false = .bool false) (oc (dec_t (show ((b.kind : Int) > (3 : Int)) by omega)) on)))) (by kernel_rfl) fun w1 hA => ?_
      exact ret (v := .int .i64 2) hA [] (by kernel_rfl) ⟨by rw [bookF_eq, if_pos (by omega)], hA.below⟩
    case neg =>
      refine runS hA 29 [.k 0, .g false, .g false, .k 0, .g false, .b false, .k 0, .t 0] xn (oc (dec_f (show ¬ ((b.kind : Int) < (0 : Int)) by omega)) (oc (rfl : Value.bool false = .bool false) (oc (rfl : Value.bool false = .bool false) (oc (dec_f (show ¬ ((b.kind : Int) > (3 : Int)) by omega)) on)))) (by kernel_rfl) fun w1 hA => ?_
      have hk : 0 ≤ b.kind ∧ b.kind ≤ 3 := by omega
      clear ht0 ht1
      by_cases ht0 : b.runners < 2
      case pos =>
        refine runS hA 44 (List.replicate 21 (.g true)) xn (oc (dec_t (show ((b.runners : Int) < (2 : Int)) by omega)) (oc (rfl : Value.bool true = .bool true) (oc (rfl : Value.bool true = .bool true) (oc (rfl : Value.bool true = .bool true) (oc (rfl : Value.bool true = .bool true) (oc (rfl : Value.bool true = .bool true) (oc (rfl : Value.bool true = .bool true) (oc (rfl : Value.bool true = .bool true) (oc (rfl : Value.bool true = .bool true) (oc (rfl : Value.bool true = .bool true) (oc (rfl : Value.bool true = .bool true) (oc (rfl : Value.bool true = .bool true) (oc (rfl : Value.bool true = .bool true) (oc (rfl : Value.bool true = .bool true) (oc (rfl : Value.bool true = .bool true) (oc (rfl : Value.bool true = .bool true) (oc (rfl : Value.bool true = .bool true) (oc (rfl : Value.bool true = .bool true) (oc (rfl : Value.bool true = .bool true) (oc (rfl : Value.bool true = .bool true) (oc (rfl : Value.bool true = .bool true) on))))))))))))))))))))) (by kernel_rfl) fun w2 hA => ?_
        exact ret (v := .int .i64 3) hA [] (by kernel_rfl) ⟨by rw [bookF_eq, if_neg (Classical.not_not.2 hk), if_pos (by omega)], hA.below⟩
      case neg =>
        by_cases ht1 : b.runners > 8
        case pos =>
          refine runS hA 44 ([.g false, .g false, .k 0, .g false] ++ List.replicate 18 (.g true)) xn (oc (dec_f (show ¬ ((b.runners : Int) < (2 : Int)) by omega)) (oc (rfl : Value.bool false = .bool false) (oc (rfl : Value.bool false = .bool false) (oc (dec_t (show ((b.runners : Int) > (8 : Int)) by omega)) (oc (rfl : Value.bool true = .bool true) (oc (rfl : Value.bool true = .bool true) (oc (rfl : Value.bool true = .bool true) (oc (rfl : Value.bool true = .bool true) (oc (rfl : Value.bool true = .bool true) (oc (rfl : Value.bool true = .bool true) (oc (rfl : Value.bool true = .bool true) (oc (rfl : Value.bool true = .bool true) (oc (rfl : Value.bool true = .bool true) (oc (rfl : Value.bool true = .bool true) (oc (rfl : Value.bool true = .bool true) (oc (rfl : Value.bool true = .bool true) (oc (rfl : Value.bool true = .bool true) (oc (rfl : Value.bool true = .bool true) (oc (rfl : Value.bool true = .bool true) (oc (rfl : Value.bool true = .bool true) (oc (rfl : Value.bool true = .bool true) on))))))))))))))))))))) (by kernel_rfl) fun w2 hA => ?_
          exact ret (v := .int .i64 3) hA [] (by kernel_rfl) ⟨by rw [bookF_eq, if_neg (Classical.not_not.2 hk), if_pos (by omega)], hA.below⟩
        case neg =>
          by_cases ht2 : b.car < 0
          case pos =>
            refine runS hA 44 ([.g false, .g false, .k 0, .g false, .g false, .g false, .k 0, .g false] ++ List.replicate 15 (.g true)) xn (oc (dec_f (show ¬ ((b.runners : Int) < (2 : Int)) by omega)) (oc (rfl : Value.bool false = .bool false) (oc (rfl : Value.bool false = .bool false) (oc (dec_f (show ¬ ((b.runners : Int) > (8 : Int)) by omega)) (oc (rfl : Value.bool false = .bool false) (oc (rfl : Value.bool false = .bool false) (oc (dec_t (show ((b.car : Int) < (0 : Int)) by omega)) (oc (rfl : Value.bool true = .bool true) (oc (rfl : Value.bool true = .bool true) (oc (rfl : Value.bool true = .bool true) (oc (rfl : Value.bool true = .bool true) (oc (rfl : Value.bool true = .bool true) (oc (rfl : Value.bool true = .bool true) (oc (rfl : Value.bool true = .bool true) (oc (rfl : Value.bool true = .bool true) (oc (rfl : Value.bool true = .bool true) (oc (rfl : Value.bool true = .bool true) (oc (rfl : Value.bool true = .bool true) (oc (rfl : Value.bool true = .bool true) (oc (rfl : Value.bool true = .bool true) (oc (rfl : Value.bool true = .bool true) on))))))))))))))))))))) (by kernel_rfl) fun w2 hA => ?_
            exact ret (v := .int .i64 3) hA [] (by kernel_rfl) ⟨by rw [bookF_eq, if_neg (Classical.not_not.2 hk), if_pos (by omega)], hA.below⟩
          case neg =>
            by_cases ht3 : b.car > 1000000
            case pos =>
              refine runS hA 44 ([.g false, .g false, .k 0, .g false, .g false, .g false, .k 0, .g false, .g false, .g false, .k 0, .g false] ++ List.replicate 12 (.g true)) xn (oc (dec_f (show ¬ ((b.runners : Int) < (2 : Int)) by omega)) (oc (rfl : Value.bool false = .bool false) (oc (rfl : Value.bool false = .bool false) (oc (dec_f (show ¬ ((b.runners : Int) > (8 : Int)) by omega)) (oc (rfl : Value.bool false = .bool false) (oc (rfl : Value.bool false = .bool false) (oc (dec_f (show ¬ ((b.car : Int) < (0 : Int)) by omega)) (oc (rfl : Value.bool false = .bool false) (oc (rfl : Value.bool false = .bool false) (oc (dec_t (show ((b.car : Int) > (1000000 : Int)) by omega)) (oc (rfl : Value.bool true = .bool true) (oc (rfl : Value.bool true = .bool true) (oc (rfl : Value.bool true = .bool true) (oc (rfl : Value.bool true = .bool true) (oc (rfl : Value.bool true = .bool true) (oc (rfl : Value.bool true = .bool true) (oc (rfl : Value.bool true = .bool true) (oc (rfl : Value.bool true = .bool true) (oc (rfl : Value.bool true = .bool true) (oc (rfl : Value.bool true = .bool true) (oc (rfl : Value.bool true = .bool true) on))))))))))))))))))))) (by kernel_rfl) fun w2 hA => ?_
              exact ret (v := .int .i64 3) hA [] (by kernel_rfl) ⟨by rw [bookF_eq, if_neg (Classical.not_not.2 hk), if_pos (by omega)], hA.below⟩
            case neg =>
              by_cases ht4 : b.dut < 0
              case pos =>
                refine runS hA 44 ([.g false, .g false, .k 0, .g false, .g false, .g false, .k 0, .g false, .g false, .g false, .k 0, .g false, .g false, .g false, .k 0, .g false] ++ List.replicate 9 (.g true)) xn (oc (dec_f (show ¬ ((b.runners : Int) < (2 : Int)) by omega)) (oc (rfl : Value.bool false = .bool false) (oc (rfl : Value.bool false = .bool false) (oc (dec_f (show ¬ ((b.runners : Int) > (8 : Int)) by omega)) (oc (rfl : Value.bool false = .bool false) (oc (rfl : Value.bool false = .bool false) (oc (dec_f (show ¬ ((b.car : Int) < (0 : Int)) by omega)) (oc (rfl : Value.bool false = .bool false) (oc (rfl : Value.bool false = .bool false) (oc (dec_f (show ¬ ((b.car : Int) > (1000000 : Int)) by omega)) (oc (rfl : Value.bool false = .bool false) (oc (rfl : Value.bool false = .bool false) (oc (dec_t (show ((b.dut : Int) < (0 : Int)) by omega)) (oc (rfl : Value.bool true = .bool true) (oc (rfl : Value.bool true = .bool true) (oc (rfl : Value.bool true = .bool true) (oc (rfl : Value.bool true = .bool true) (oc (rfl : Value.bool true = .bool true) (oc (rfl : Value.bool true = .bool true) (oc (rfl : Value.bool true = .bool true) (oc (rfl : Value.bool true = .bool true) on))))))))))))))))))))) (by kernel_rfl) fun w2 hA => ?_
                exact ret (v := .int .i64 3) hA [] (by kernel_rfl) ⟨by rw [bookF_eq, if_neg (Classical.not_not.2 hk), if_pos (by omega)], hA.below⟩
              case neg =>
                by_cases ht5 : b.dut > 500
                case pos =>
                  refine runS hA 44 ([.g false, .g false, .k 0, .g false, .g false, .g false, .k 0, .g false, .g false, .g false, .k 0, .g false, .g false, .g false, .k 0, .g false, .g false, .g false, .k 0, .g false] ++ List.replicate 6 (.g true)) xn (oc (dec_f (show ¬ ((b.runners : Int) < (2 : Int)) by omega)) (oc (rfl : Value.bool false = .bool false) (oc (rfl : Value.bool false = .bool false) (oc (dec_f (show ¬ ((b.runners : Int) > (8 : Int)) by omega)) (oc (rfl : Value.bool false = .bool false) (oc (rfl : Value.bool false = .bool false) (oc (dec_f (show ¬ ((b.car : Int) < (0 : Int)) by omega)) (oc (rfl : Value.bool false = .bool false) (oc (rfl : Value.bool false = .bool false) (oc (dec_f (show ¬ ((b.car : Int) > (1000000 : Int)) by omega)) (oc (rfl : Value.bool false = .bool false) (oc (rfl : Value.bool false = .bool false) (oc (dec_f (show ¬ ((b.dut : Int) < (0 : Int)) by omega)) (oc (rfl : Value.bool false = .bool false) (oc (rfl : Value.bool false = .bool false) (oc (dec_t (show ((b.dut : Int) > (500 : Int)) by omega)) (oc (rfl : Value.bool true = .bool true) (oc (rfl : Value.bool true = .bool true) (oc (rfl : Value.bool true = .bool true) (oc (rfl : Value.bool true = .bool true) (oc (rfl : Value.bool true = .bool true) on))))))))))))))))))))) (by kernel_rfl) fun w2 hA => ?_
                  exact ret (v := .int .i64 3) hA [] (by kernel_rfl) ⟨by rw [bookF_eq, if_neg (Classical.not_not.2 hk), if_pos (by omega)], hA.below⟩
                case neg =>
                  by_cases ht6 : b.stp < 1
                  case pos =>
                    refine runS hA 44 [.g false, .g false, .k 0, .g false, .g false, .g false, .k 0, .g false, .g false, .g false, .k 0, .g false, .g false, .g false, .k 0, .g false, .g false, .g false, .k 0, .g false, .g false, .g false, .k 0, .g false, .g true, .g true, .g true] xn (oc (dec_f (show ¬ ((b.runners : Int) < (2 : Int)) by omega)) (oc (rfl : Value.bool false = .bool false) (oc (rfl : Value.bool false = .bool false) (oc (dec_f (show ¬ ((b.runners : Int) > (8 : Int)) by omega)) (oc (rfl : Value.bool false = .bool false) (oc (rfl : Value.bool false = .bool false) (oc (dec_f (show ¬ ((b.car : Int) < (0 : Int)) by omega)) (oc (rfl : Value.bool false = .bool false) (oc (rfl : Value.bool false = .bool false) (oc (dec_f (show ¬ ((b.car : Int) > (1000000 : Int)) by omega)) (oc (rfl : Value.bool false = .bool false) (oc (rfl : Value.bool false = .bool false) (oc (dec_f (show ¬ ((b.dut : Int) < (0 : Int)) by omega)) (oc (rfl : Value.bool false = .bool false) (oc (rfl : Value.bool false = .bool false) (oc (dec_f (show ¬ ((b.dut : Int) > (500 : Int)) by omega)) (oc (rfl : Value.bool false = .bool false) (oc (rfl : Value.bool false = .bool false) (oc (dec_t (show ((b.stp : Int) < (1 : Int)) by omega)) (oc (rfl : Value.bool true = .bool true) (oc (rfl : Value.bool true = .bool true) on))))))))))))))))))))) (by kernel_rfl) fun w2 hA => ?_
                    exact ret (v := .int .i64 3) hA [] (by kernel_rfl) ⟨by rw [bookF_eq, if_neg (Classical.not_not.2 hk), if_pos (by omega)], hA.below⟩
                  case neg =>
                    by_cases ht7 : b.stp > 100
                    case pos =>
                      refine runS hA 44 [.g false, .g false, .k 0, .g false, .g false, .g false, .k 0, .g false, .g false, .g false, .k 0, .g false, .g false, .g false, .k 0, .g false, .g false, .g false, .k 0, .g false, .g false, .g false, .k 0, .g false, .g false, .g false, .k 0, .g false, .b true] xn (oc (dec_f (show ¬ ((b.runners : Int) < (2 : Int)) by omega)) (oc (rfl : Value.bool false = .bool false) (oc (rfl : Value.bool false = .bool false) (oc (dec_f (show ¬ ((b.runners : Int) > (8 : Int)) by omega)) (oc (rfl : Value.bool false = .bool false) (oc (rfl : Value.bool false = .bool false) (oc (dec_f (show ¬ ((b.car : Int) < (0 : Int)) by omega)) (oc (rfl : Value.bool false = .bool false) (oc (rfl : Value.bool false = .bool false) (oc (dec_f (show ¬ ((b.car : Int) > (1000000 : Int)) by omega)) (oc (rfl : Value.bool false = .bool false) (oc (rfl : Value.bool false = .bool false) (oc (dec_f (show ¬ ((b.dut : Int) < (0 : Int)) by omega)) (oc (rfl : Value.bool false = .bool false) (oc (rfl : Value.bool false = .bool false) (oc (dec_f (show ¬ ((b.dut : Int) > (500 : Int)) by omega)) (oc (rfl : Value.bool false = .bool false) (oc (rfl : Value.bool false = .bool false) (oc (dec_f (show ¬ ((b.stp : Int) < (1 : Int)) by omega)) (oc (rfl : Value.bool false = .bool false) (oc (rfl : Value.bool false = .bool false) (oc (dec_t (show ((b.stp : Int) > (100 : Int)) by omega)) on)))))))))))))))))))))) (by kernel_rfl) fun w2 hA => ?_
                      exact ret (v := .int .i64 3) hA [] (by kernel_rfl) ⟨by rw [bookF_eq, if_neg (Classical.not_not.2 hk), if_pos (by omega)], hA.below⟩
                    case neg =>
                      refine runS hA 48 [.g false, .g false, .k 0, .g false, .g false, .g false, .k 0, .g false, .g false, .g false, .k 0, .g false, .g false, .g false, .k 0, .g false, .g false, .g false, .k 0, .g false, .g false, .g false, .k 0, .g false, .g false, .g false, .k 0, .g false, .b false, .k 0, .t 0] xn (oc (dec_f (show ¬ ((b.runners : Int) < (2 : Int)) by omega)) (oc (rfl : Value.bool false = .bool false) (oc (rfl : Value.bool false = .bool false) (oc (dec_f (show ¬ ((b.runners : Int) > (8 : Int)) by omega)) (oc (rfl : Value.bool false = .bool false) (oc (rfl : Value.bool false = .bool false) (oc (dec_f (show ¬ ((b.car : Int) < (0 : Int)) by omega)) (oc (rfl : Value.bool false = .bool false) (oc (rfl : Value.bool false = .bool false) (oc (dec_f (show ¬ ((b.car : Int) > (1000000 : Int)) by omega)) (oc (rfl : Value.bool false = .bool false) (oc (rfl : Value.bool false = .bool false) (oc (dec_f (show ¬ ((b.dut : Int) < (0 : Int)) by omega)) (oc (rfl : Value.bool false = .bool false) (oc (rfl : Value.bool false = .bool false) (oc (dec_f (show ¬ ((b.dut : Int) > (500 : Int)) by omega)) (oc (rfl : Value.bool false = .bool false) (oc (rfl : Value.bool false = .bool false) (oc (dec_f (show ¬ ((b.stp : Int) < (1 : Int)) by omega)) (oc (rfl : Value.bool false = .bool false) (oc (rfl : Value.bool false = .bool false) (oc (dec_f (show ¬ ((b.stp : Int) > (100 : Int)) by omega)) on)))))))))))))))))))))) (by kernel_rfl) fun w2 hA => ?_
                      have hr : (2 ≤ b.runners ∧ b.runners ≤ 8) ∧ (0 ≤ b.car ∧ b.car ≤ 1000000) ∧ (0 ≤ b.dut ∧ b.dut ≤ 500) ∧ (1 ≤ b.stp ∧ b.stp ≤ 100) := by omega
                      clear ht0 ht1 ht2 ht3 ht4 ht5 ht6 ht7
                      by_cases hn : 100 < n
                      case pos =>
                        refine runS hA 8 [.b true] xn (oc (dec_t (show ((n : Int) > (100 : Int)) by omega)) on) (by kernel_rfl) fun w3 hA => ?_
                        exact ret (v := .int .i64 6) hA [] (by kernel_rfl) ⟨by rw [bookF_eq, if_neg (Classical.not_not.2 hk), if_neg (Classical.not_not.2 hr), if_pos (by rw [hbl]; exact hn)], hA.below⟩
                      case neg =>
                        refine runS hA 10 [.b false] xn (oc (dec_f (show ¬ ((n : Int) > (100 : Int)) by omega)) on) (by kernel_rfl) fun w3 hA => ?_
                        refine loop (γ := Nat) (fun i => [(1, .pointer (some ⟨w.heap.size, 0, none⟩)), (3, .int .i64 (i : Int))]) (fun i => [⟨w.heap.size, .cells #[.int .i64 b.kind, .int .i64 b.runners, .slice A n c, .slice A2 m c2, .bool b.fav, .int .i64 b.car, .int .i64 b.dut, .int .i64 b.stp] 25 (0, 0)⟩]) (fun _ => []) (fun g i wr => i ≤ n ∧ g = n - i ∧ ∀ j, j < i → refusesF b (b.bets[j]?.getD noBet) = false) n 0 [true] hA (by kernel_rfl) (⟨Nat.zero_le _, rfl, fun j hj => absurd hj (Nat.not_lt_zero _)⟩) ?_
                        rintro _ i wr ⟨hi, rfl, hs⟩ J hJ hA
                        by_cases hlt : i < n
                        case pos =>
                          obtain ⟨b1, off, rfl, hb1, k0, k1, k2⟩ := h.bets.at hlt
                          have hbl1 : b1 < w.heap.size := Nat.lt_of_lt_of_le hb1 hB
                          refine runS hA 16 [.k 0, .b true] xn (oc (dec_t (show (((i : Int) : Int) < (n : Int)) by omega)) on) (by kernel_rfl) fun w4 hA => ?_
                          refine draw hA [true] [0, 1, 2, 3, 4, 5, 6, 7] (by kernel_rfl) (by kernel_rfl) fun hA => ?_
                          refine runS hA 6 ([.t 0] ++ List.replicate 8 (.k 0) ++ [.t 1, .t 2, .k 0, .t 3, .t 4, .i, .t 5, .x (.int .i64 ((b.bets[i]?.getD noBet).first)), .x (.int .i64 ((b.bets[i]?.getD noBet).second)), .x (.int .i64 ((b.bets[i]?.getD noBet).units))]) (xc (a := ⟨b1, off + i * 3, none⟩) ⟨hbl1, k0⟩ (xc (a := ⟨b1, off + i * 3 + 1, none⟩) ⟨hbl1, k1⟩ (xc (a := ⟨b1, off + i * 3 + 2, none⟩) ⟨hbl1, k2⟩ xn))) (oc (show (0 : Int) ≤ ((i : Int) : Int) ∧ ((i : Int) : Int) < (n : Int) by omega) on) (by kernel_rfl) fun w5 hA => ?_
                          refine callB hA [] on (isBet_any w5 b (some ⟨b1, off, none⟩) n c A2 m c2 (b.bets[i]?.getD noBet) hk) (by kernel_rfl) fun w6 hb6 hA => ?_
                          rcases Bool.eq_false_or_eq_true (refusesF b (b.bets[i]?.getD noBet)) with hrf | hrf
                          ·
                            refine revals hA (rc 68 (show .bool (!refusesF b (b.bets[i]?.getD noBet)) = .bool false by rw [hrf]; rfl) rn) (by kernel_rfl) fun hA => ?_
                            refine runS hA 12 [.t 7, .b true] xn on (by kernel_rfl) fun w7 hA => ?_
                            refine leave hA (by kernel_rfl) fun hA => ?_
                            refine runS hA 2 [] xn on (by kernel_rfl) fun w8 hA => ?_
                            exact ret (v := .int .i64 16) hA [] (by kernel_rfl) ⟨by rw [bookF_eq, if_neg (Classical.not_not.2 hk), if_neg (Classical.not_not.2 hr), if_neg (by omega), if_pos (any_yes (by omega) hrf)], hA.below⟩
                          ·
                            refine revals hA (rc 68 (show .bool (!refusesF b (b.bets[i]?.getD noBet)) = .bool true by rw [hrf]; rfl) rn) (by kernel_rfl) fun hA => ?_
                            refine runS hA 12 [.t 7, .b true] xn on (by kernel_rfl) fun w7 hA => ?_
                            refine revals hA (rc 3 (wr64 (x := (i : Int) + 1) (y := ((i + 1 : Nat) : Int)) (by omega) (by omega)) rn) (by kernel_rfl) fun hA => ?_
                            exact again hJ (n - (i + 1)) (i + 1) [true] hA (by omega) (by kernel_rfl) (⟨by omega, rfl, fun j hj => by by_cases hji : j = i; rw [hji]; exact hrf; exact hs j (by omega)⟩)
                        case neg =>
                          refine runS hA 13 [.k 0, .b false] xn (oc (dec_f (show ¬ (((i : Int) : Int) < (n : Int)) by omega)) on) (by kernel_rfl) fun w4 hA => ?_
                          refine leave hA (by kernel_rfl) fun hA => ?_
                          refine runS hA 14 [.k 0, .k 0, .t 0] xn on (by kernel_rfl) fun w5 hA => ?_
                          have hany : ¬ (b.bets.any (refusesF b) = true) := by rw [any_no (fun j hj => hs j (by omega))]; decide
                          refine revals hA (rc 76 (show .bool (decide ((m : Int) > (IntKind.i64.wrap (b.runners - 2) : Int))) = .bool (decide ((m : Int) > b.runners - 2)) by rw [show IntKind.i64.wrap (b.runners - 2) = b.runners - 2 by rw [IntKind.wrap_i64]; omega]) rn) (by kernel_rfl) fun hA => ?_
                          by_cases hfew : (m : Int) > b.runners - 2
                          case pos =>
                            refine runS hA 8 [.b true] xn (oc (dec_t (show ((m : Int) > b.runners - 2) from hfew)) on) (by kernel_rfl) fun w6 hA => ?_
                            exact ret (v := .int .i64 15) hA [] (by kernel_rfl) ⟨by rw [bookF_eq, if_neg (Classical.not_not.2 hk), if_neg (Classical.not_not.2 hr), if_neg (by omega), if_neg hany, if_pos (scratch_bad (fun hh => by have := hh.1.1; omega))], hA.below⟩
                          case neg =>
                            refine runS hA 10 [.b false] xn (oc (dec_f (show ¬ ((m : Int) > b.runners - 2) from hfew)) on) (by kernel_rfl) fun w6 hA => ?_
                            refine loop (γ := Nat) (fun i => [(1, .pointer (some ⟨w.heap.size, 0, none⟩)), (4, .int .i64 (i : Int))]) (fun i => [⟨w.heap.size, .cells #[.int .i64 b.kind, .int .i64 b.runners, .slice A n c, .slice A2 m c2, .bool b.fav, .int .i64 b.car, .int .i64 b.dut, .int .i64 b.stp] 25 (0, 0)⟩]) (fun _ => []) (fun g i wt => i ≤ m ∧ g = m - i ∧ ∀ j, j < i → (0 ≤ b.scr[j]?.getD 0 ∧ b.scr[j]?.getD 0 < b.runners) ∧ (0 < j → b.scr[j - 1]?.getD 0 < b.scr[j]?.getD 0)) m 0 [true] hA (by kernel_rfl) (⟨Nat.zero_le _, rfl, fun j hj => absurd hj (Nat.not_lt_zero _)⟩) ?_
                            rintro _ i wt ⟨hi, rfl, hs2⟩ J hJ hA
                            by_cases hlt : i < m
                            case neg =>
                              refine runS hA 13 [.k 0, .b false] xn (oc (dec_f (show ¬ (((i : Int) : Int) < (m : Int)) by omega)) on) (by kernel_rfl) fun w7 hA => ?_
                              refine leave hA (by kernel_rfl) fun hA => ?_
                              refine runS hA 8 [] xn on (by kernel_rfl) fun w8 hA => ?_
                              have hsc : scratchable b b.scr = true := scratchable_true (by omega) (fun j hj => (hs2 j (by omega)).1) (fun j hj => by have := (hs2 (j + 1) (by omega)).2 (by omega); exact this)
                              exact ret (v := .int .i64 0) hA [] (by kernel_rfl) ⟨by rw [bookF_eq, if_neg (Classical.not_not.2 hk), if_neg (Classical.not_not.2 hr), if_neg (by omega), if_neg hany, if_neg (by rw [hsc]; decide)], hA.below⟩
                            case pos =>
                              obtain ⟨b2, off, rfl, hb2, -⟩ := h.scr.cell hlt
                              have hcs : ∀ j, j < m → b2 < w.heap.size ∧ w.cell? ⟨b2, off + j * 1, none⟩ = some (.int .i64 (b.scr[j]?.getD 0)) := fun j hj => by
                                obtain ⟨b3, off3, e3, hb3, hc3⟩ := h.scr.cell hj
                                cases e3
                                exact ⟨by omega, by simpa using hc3⟩
                              refine runS hA 16 [.k 0, .b true] xn (oc (dec_t (show (((i : Int) : Int) < (m : Int)) by omega)) on) (by kernel_rfl) fun w7 hA => ?_
                              refine draw hA [true] [0, 1, 2, 3, 4, 5, 6, 7, 8, 9, 10, 11, 12, 13, 14, 15, 16, 17, 18, 19, 20, 21, 22, 23, 24, 25, 26, 27, 28, 29, 30, 31, 32, 33] (by kernel_rfl) (by kernel_rfl) fun hA => ?_
                              by_cases h1 : (b.scr[i]?.getD 0) < 0
                              case pos =>
                                refine runS hA 45 [.t 0, .t 1, .k 0, .t 2, .t 3, .i, .t 4, .x (.int .i64 (b.scr[i]?.getD 0)), .t 5, .t 6, .t 7, .g true, .t 8, .g true, .t 9, .g true, .t 10, .g true, .t 11, .g true, .t 12, .g true, .t 13, .g true, .t 14, .g true, .t 15, .t 16, .t 17, .g true, .t 18, .g true, .t 19, .g true, .t 20, .t 21, .t 22, .t 23, .t 24, .t 25, .t 26, .t 27, .t 28, .t 29, .t 30, .t 31, .t 32, .g true, .t 33, .b true] (xc (a := ⟨b2, off + i * 1, none⟩) (hcs i hlt) xn) (oc (show (0 : Int) ≤ ((i : Int) : Int) ∧ ((i : Int) : Int) < (m : Int) by omega) (oc (dec_t (show (((b.scr[i]?.getD 0) : Int) < (0 : Int)) by omega)) (oc (rfl : Value.bool true = .bool true) (oc (rfl : Value.bool true = .bool true) (oc (rfl : Value.bool true = .bool true) (oc (rfl : Value.bool true = .bool true) (oc (rfl : Value.bool true = .bool true) (oc (rfl : Value.bool true = .bool true) (oc (rfl : Value.bool true = .bool true) (oc (rfl : Value.bool true = .bool true) (oc (rfl : Value.bool true = .bool true) (oc (rfl : Value.bool true = .bool true) (oc (rfl : Value.bool true = .bool true) on))))))))))))) (by kernel_rfl) fun w8 hA => ?_
                                refine leave hA (by kernel_rfl) fun hA => ?_
                                refine runS hA 2 [] xn on (by kernel_rfl) fun w9 hA => ?_
                                exact ret (v := .int .i64 15) hA [] (by kernel_rfl) ⟨by rw [bookF_eq, if_neg (Classical.not_not.2 hk), if_neg (Classical.not_not.2 hr), if_neg (by omega), if_neg hany, if_pos (scratch_bad (fun hh => by have := hh.1.2 i (by omega); omega))], hA.below⟩
                              case neg =>
                                by_cases h2 : (b.scr[i]?.getD 0) ≥ b.runners
                                case pos =>
                                  refine runS hA 45 [.t 0, .t 1, .k 0, .t 2, .t 3, .i, .t 4, .x (.int .i64 (b.scr[i]?.getD 0)), .t 5, .t 6, .t 7, .g false, .t 8, .g false, .k 0, .t 9, .g false, .t 10, .g false, .i, .t 11, .g false, .x (.int .i64 (b.scr[i]?.getD 0)), .t 12, .g false, .t 13, .g false, .k 0, .t 14, .g false, .t 15, .t 16, .t 17, .g true, .t 18, .g true, .t 19, .g true, .t 20, .t 21, .t 22, .t 23, .t 24, .t 25, .t 26, .t 27, .t 28, .t 29, .t 30, .t 31, .t 32, .g true, .t 33, .b true] (xc (a := ⟨b2, off + i * 1, none⟩) (hcs i hlt) (xc (a := ⟨b2, off + i * 1, none⟩) (hcs i hlt) xn)) (oc (show (0 : Int) ≤ ((i : Int) : Int) ∧ ((i : Int) : Int) < (m : Int) by omega) (oc (dec_f (show ¬ (((b.scr[i]?.getD 0) : Int) < (0 : Int)) by omega)) (oc (rfl : Value.bool false = .bool false) (oc (rfl : Value.bool false = .bool false) (oc (rfl : Value.bool false = .bool false) (oc (show (0 : Int) ≤ ((i : Int) : Int) ∧ ((i : Int) : Int) < (m : Int) by omega) (oc (rfl : Value.bool false = .bool false) (oc (rfl : Value.bool false = .bool false) (oc (rfl : Value.bool false = .bool false) (oc (rfl : Value.bool false = .bool false) (oc (dec_t (show (((b.scr[i]?.getD 0) : Int) ≥ (b.runners : Int)) by omega)) (oc (rfl : Value.bool true = .bool true) (oc (rfl : Value.bool true = .bool true) (oc (rfl : Value.bool true = .bool true) on)))))))))))))) (by kernel_rfl) fun w8 hA => ?_
                                  refine leave hA (by kernel_rfl) fun hA => ?_
                                  refine runS hA 2 [] xn on (by kernel_rfl) fun w9 hA => ?_
                                  exact ret (v := .int .i64 15) hA [] (by kernel_rfl) ⟨by rw [bookF_eq, if_neg (Classical.not_not.2 hk), if_neg (Classical.not_not.2 hr), if_neg (by omega), if_neg hany, if_pos (scratch_bad (fun hh => by have := hh.1.2 i (by omega); omega))], hA.below⟩
                                case neg =>
                                  by_cases h3 : 0 < i
                                  case neg =>
                                    refine runS hA 45 [.t 0, .t 1, .k 0, .t 2, .t 3, .i, .t 4, .x (.int .i64 (b.scr[i]?.getD 0)), .t 5, .t 6, .t 7, .g false, .t 8, .g false, .k 0, .t 9, .g false, .t 10, .g false, .i, .t 11, .g false, .x (.int .i64 (b.scr[i]?.getD 0)), .t 12, .g false, .t 13, .g false, .k 0, .t 14, .g false, .t 15, .t 16, .t 17, .g false, .t 18, .g false, .t 19, .g false, .t 20, .g false, .t 21, .g false, .t 22, .g false, .t 23, .g false, .t 24, .g false, .t 25, .g false, .t 26, .g false, .t 27, .g false, .t 28, .g false, .t 29, .g false, .t 30, .g false, .t 31, .g false, .t 32, .g false, .t 33, .b true] (xc (a := ⟨b2, off + i * 1, none⟩) (hcs i hlt) (xc (a := ⟨b2, off + i * 1, none⟩) (hcs i hlt) xn)) (oc (show (0 : Int) ≤ ((i : Int) : Int) ∧ ((i : Int) : Int) < (m : Int) by omega) (oc (dec_f (show ¬ (((b.scr[i]?.getD 0) : Int) < (0 : Int)) by omega)) (oc (rfl : Value.bool false = .bool false) (oc (rfl : Value.bool false = .bool false) (oc (rfl : Value.bool false = .bool false) (oc (show (0 : Int) ≤ ((i : Int) : Int) ∧ ((i : Int) : Int) < (m : Int) by omega) (oc (rfl : Value.bool false = .bool false) (oc (rfl : Value.bool false = .bool false) (oc (rfl : Value.bool false = .bool false) (oc (rfl : Value.bool false = .bool false) (oc (dec_f (show ¬ (((b.scr[i]?.getD 0) : Int) ≥ (b.runners : Int)) by omega)) (oc (rfl : Value.bool false = .bool false) (oc (rfl : Value.bool false = .bool false) (oc (dec_f (show ¬ (((i : Int) : Int) > (0 : Int)) by omega)) (oc (rfl : Value.bool false = .bool false) (oc (rfl : Value.bool false = .bool false) (oc (rfl : Value.bool false = .bool false) (oc (rfl : Value.bool false = .bool false) (oc (rfl : Value.bool false = .bool false) (oc (rfl : Value.bool false = .bool false) (oc (rfl : Value.bool false = .bool false) (oc (rfl : Value.bool false = .bool false) (oc (rfl : Value.bool false = .bool false) (oc (rfl : Value.bool false = .bool false) (oc (rfl : Value.bool false = .bool false) (oc (rfl : Value.bool false = .bool false) on)))))))))))))))))))))))))) (by kernel_rfl) fun w8 hA => ?_
                                    refine revals hA (rc 4 (wr64 (x := (i : Int) + 1) (y := ((i + 1 : Nat) : Int)) (by omega) (by omega)) rn) (by kernel_rfl) fun hA => ?_
                                    exact again hJ (m - (i + 1)) (i + 1) [true] hA (by omega) (by kernel_rfl) (⟨by omega, rfl, fun j hj => by by_cases hji : j = i; rw [hji]; exact ⟨by omega, fun h0 => absurd h0 h3⟩; exact hs2 j (by omega)⟩)
                                  case pos =>
                                    by_cases h4 : (b.scr[i]?.getD 0) ≤ (b.scr[i - 1]?.getD 0)
                                    case pos =>
                                      refine runS hA 29 [.t 0, .t 1, .k 0, .t 2, .t 3, .i, .t 4, .x (.int .i64 (b.scr[i]?.getD 0)), .t 5, .t 6, .t 7, .g false, .t 8, .g false, .k 0, .t 9, .g false, .t 10, .g false, .i, .t 11, .g false, .x (.int .i64 (b.scr[i]?.getD 0)), .t 12, .g false, .t 13, .g false, .k 0, .t 14, .g false, .t 15, .t 16, .t 17, .g false, .t 18, .g false, .t 19, .g false, .t 20, .g true, .t 21, .g true, .k 0, .t 22, .g true, .t 23, .g true, .i, .t 24, .g true, .x (.int .i64 (b.scr[i]?.getD 0)), .t 25, .g true, .t 26, .g true, .k 0, .t 27, .g true, .t 28, .g true] (xc (a := ⟨b2, off + i * 1, none⟩) (hcs i hlt) (xc (a := ⟨b2, off + i * 1, none⟩) (hcs i hlt) (xc (a := ⟨b2, off + i * 1, none⟩) (hcs i hlt) xn))) (oc (show (0 : Int) ≤ ((i : Int) : Int) ∧ ((i : Int) : Int) < (m : Int) by omega) (oc (dec_f (show ¬ (((b.scr[i]?.getD 0) : Int) < (0 : Int)) by omega)) (oc (rfl : Value.bool false = .bool false) (oc (rfl : Value.bool false = .bool false) (oc (rfl : Value.bool false = .bool false) (oc (show (0 : Int) ≤ ((i : Int) : Int) ∧ ((i : Int) : Int) < (m : Int) by omega) (oc (rfl : Value.bool false = .bool false) (oc (rfl : Value.bool false = .bool false) (oc (rfl : Value.bool false = .bool false) (oc (rfl : Value.bool false = .bool false) (oc (dec_f (show ¬ (((b.scr[i]?.getD 0) : Int) ≥ (b.runners : Int)) by omega)) (oc (rfl : Value.bool false = .bool false) (oc (rfl : Value.bool false = .bool false) (oc (dec_t (show (((i : Int) : Int) > (0 : Int)) by omega)) (oc (rfl : Value.bool true = .bool true) (oc (rfl : Value.bool true = .bool true) (oc (rfl : Value.bool true = .bool true) (oc (show (0 : Int) ≤ ((i : Int) : Int) ∧ ((i : Int) : Int) < (m : Int) by omega) (oc (rfl : Value.bool true = .bool true) (oc (rfl : Value.bool true = .bool true) (oc (rfl : Value.bool true = .bool true) (oc (rfl : Value.bool true = .bool true) (oc (rfl : Value.bool true = .bool true) on))))))))))))))))))))))) (by kernel_rfl) fun w8 hA => ?_
                                      refine revals hA (rc 112 (wr64 (x := (i : Int) - 1) (y := ((i - 1 : Nat) : Int)) (by omega) (by omega)) rn) (by kernel_rfl) fun hA => ?_
                                      refine runS hA 16 [.t 29, .g true, .i, .t 30, .g true, .x (.int .i64 (b.scr[i - 1]?.getD 0)), .t 31, .g true, .t 32, .g false, .t 33, .b true, .b true] (xc (a := ⟨b2, off + (i - 1) * 1, none⟩) (hcs (i - 1) (by omega)) xn) (oc (rfl : Value.bool true = .bool true) (oc (show (0 : Int) ≤ (((i - 1 : Nat) : Int) : Int) ∧ (((i - 1 : Nat) : Int) : Int) < (m : Int) by omega) (oc (rfl : Value.bool true = .bool true) (oc (rfl : Value.bool true = .bool true) (oc (rfl : Value.bool false = .bool false) (oc (dec_t (show (((b.scr[i]?.getD 0) : Int) ≤ ((b.scr[i - 1]?.getD 0) : Int)) by omega)) on)))))) (by kernel_rfl) fun w9 hA => ?_
                                      refine leave hA (by kernel_rfl) fun hA => ?_
                                      refine runS hA 2 [] xn on (by kernel_rfl) fun w10 hA => ?_
                                      exact ret (v := .int .i64 15) hA [] (by kernel_rfl) ⟨by rw [bookF_eq, if_neg (Classical.not_not.2 hk), if_neg (Classical.not_not.2 hr), if_neg (by omega), if_neg hany, if_pos (scratch_bad (fun hh => by have := hh.2 (i - 1) (by omega); rw [show i - 1 + 1 = i by omega] at this; omega))], hA.below⟩
                                    case neg =>
                                      refine runS hA 29 [.t 0, .t 1, .k 0, .t 2, .t 3, .i, .t 4, .x (.int .i64 (b.scr[i]?.getD 0)), .t 5, .t 6, .t 7, .g false, .t 8, .g false, .k 0, .t 9, .g false, .t 10, .g false, .i, .t 11, .g false, .x (.int .i64 (b.scr[i]?.getD 0)), .t 12, .g false, .t 13, .g false, .k 0, .t 14, .g false, .t 15, .t 16, .t 17, .g false, .t 18, .g false, .t 19, .g false, .t 20, .g true, .t 21, .g true, .k 0, .t 22, .g true, .t 23, .g true, .i, .t 24, .g true, .x (.int .i64 (b.scr[i]?.getD 0)), .t 25, .g true, .t 26, .g true, .k 0, .t 27, .g true, .t 28, .g true] (xc (a := ⟨b2, off + i * 1, none⟩) (hcs i hlt) (xc (a := ⟨b2, off + i * 1, none⟩) (hcs i hlt) (xc (a := ⟨b2, off + i * 1, none⟩) (hcs i hlt) xn))) (oc (show (0 : Int) ≤ ((i : Int) : Int) ∧ ((i : Int) : Int) < (m : Int) by omega) (oc (dec_f (show ¬ (((b.scr[i]?.getD 0) : Int) < (0 : Int)) by omega)) (oc (rfl : Value.bool false = .bool false) (oc (rfl : Value.bool false = .bool false) (oc (rfl : Value.bool false = .bool false) (oc (show (0 : Int) ≤ ((i : Int) : Int) ∧ ((i : Int) : Int) < (m : Int) by omega) (oc (rfl : Value.bool false = .bool false) (oc (rfl : Value.bool false = .bool false) (oc (rfl : Value.bool false = .bool false) (oc (rfl : Value.bool false = .bool false) (oc (dec_f (show ¬ (((b.scr[i]?.getD 0) : Int) ≥ (b.runners : Int)) by omega)) (oc (rfl : Value.bool false = .bool false) (oc (rfl : Value.bool false = .bool false) (oc (dec_t (show (((i : Int) : Int) > (0 : Int)) by omega)) (oc (rfl : Value.bool true = .bool true) (oc (rfl : Value.bool true = .bool true) (oc (rfl : Value.bool true = .bool true) (oc (show (0 : Int) ≤ ((i : Int) : Int) ∧ ((i : Int) : Int) < (m : Int) by omega) (oc (rfl : Value.bool true = .bool true) (oc (rfl : Value.bool true = .bool true) (oc (rfl : Value.bool true = .bool true) (oc (rfl : Value.bool true = .bool true) (oc (rfl : Value.bool true = .bool true) on))))))))))))))))))))))) (by kernel_rfl) fun w8 hA => ?_
                                      refine revals hA (rc 112 (wr64 (x := (i : Int) - 1) (y := ((i - 1 : Nat) : Int)) (by omega) (by omega)) rn) (by kernel_rfl) fun hA => ?_
                                      refine runS hA 16 [.t 29, .g true, .i, .t 30, .g true, .x (.int .i64 (b.scr[i - 1]?.getD 0)), .t 31, .g true, .t 32, .g false, .t 33, .b true, .b false] (xc (a := ⟨b2, off + (i - 1) * 1, none⟩) (hcs (i - 1) (by omega)) xn) (oc (rfl : Value.bool true = .bool true) (oc (show (0 : Int) ≤ (((i - 1 : Nat) : Int) : Int) ∧ (((i - 1 : Nat) : Int) : Int) < (m : Int) by omega) (oc (rfl : Value.bool true = .bool true) (oc (rfl : Value.bool true = .bool true) (oc (rfl : Value.bool false = .bool false) (oc (dec_f (show ¬ (((b.scr[i]?.getD 0) : Int) ≤ ((b.scr[i - 1]?.getD 0) : Int)) by omega)) on)))))) (by kernel_rfl) fun w9 hA => ?_
                                      refine revals hA (rc 4 (wr64 (x := (i : Int) + 1) (y := ((i + 1 : Nat) : Int)) (by omega) (by omega)) rn) (by kernel_rfl) fun hA => ?_
                                      exact again hJ (m - (i + 1)) (i + 1) [true] hA (by omega) (by kernel_rfl) (⟨by omega, rfl, fun j hj => by by_cases hji : j = i; rw [hji]; exact ⟨by omega, fun _ => by omega⟩; exact hs2 j (by omega)⟩)
end Go.Proofs.YtbahiemjaomdcaaGreat

/- quinellalaw03: great; quinellaref03: Scratch. -/
namespace Go.Proofs.YtbahiemjaomdcaaGreat
open Go.RowKit Go.Shelf

theorem ints_append (xs ys : List Int) : ints (xs ++ ys) = ints xs ++ ints ys := by unfold ints; exact List.map_append
theorem incr_ext {xs ys : List Int} (hx : xs.Pairwise fun x y => x < y) (hy : ys.Pairwise fun x y => x < y) (h : ∀ x, x ∈ xs ↔ x ∈ ys) : xs = ys := by
  refine List.Perm.eq_of_pairwise (le := fun x y => x < y) (fun a b _ _ h1 h2 => by omega) hx hy ?_
  exact (List.perm_ext_iff_of_nodup (hx.imp fun h => by omega) (hy.imp fun h => by omega)).2 h
theorem incF_pw {xs : List Int} (h : incF xs = true) : xs.Pairwise fun x y => x < y := by
  rw [List.pairwise_iff_getElem]
  intro i j hi hj hij
  have h1 := inc_le h i (j - 1) (by omega) (by omega)
  unfold incF at h
  rw [List.all_eq_true] at h
  have h2 := h (j - 1) (List.mem_range.2 (by omega))
  simp only [decide_eq_true_eq] at h2
  rw [show j - 1 + 1 = j by omega] at h2
  have h3 : xs[i]?.getD 0 < xs[j]?.getD 0 := by omega
  rw [List.getElem?_eq_getElem hi, List.getElem?_eq_getElem hj] at h3
  exact h3
theorem insF_pw {xs : List Int} {x : Int} (h : xs.Pairwise fun x y => x < y) (hx : x ∉ xs) : (insF x xs).Pairwise fun x y => x < y := by
  unfold insF
  rw [List.pairwise_append]
  refine ⟨h.filter _, List.pairwise_cons.2 ⟨fun y hy => ?_, h.filter _⟩, fun a ha b hb => ?_⟩
  · rw [List.mem_filter] at hy
    have h1 := hy.2
    simp only [Bool.not_eq_true', decide_eq_false_iff_not] at h1
    have : x ≠ y := fun e => hx (e ▸ hy.1)
    omega
  · rw [List.mem_filter] at ha
    have h1 := ha.2
    simp only [decide_eq_true_eq] at h1
    rcases List.mem_cons.1 hb with rfl | hb
    · exact h1
    · rw [List.mem_filter] at hb
      have h2 := hb.2
      simp only [Bool.not_eq_true', decide_eq_false_iff_not] at h2
      omega
theorem insF_mem {xs : List Int} {x y : Int} : y ∈ insF x xs ↔ y = x ∨ y ∈ xs := by
  unfold insF
  rw [List.mem_append, List.mem_cons, List.mem_filter, List.mem_filter]
  by_cases h : y < x
  · simp [h]
    constructor
    · rintro (h1 | h1)
      · exact .inr h1
      · exact .inl h1
    · rintro (h1 | h1)
      · exact .inr h1
      · exact .inl h1
  · simp [h]
/-- The runners below k that are scratched, or this one. -/
def scL (b : Bk) (r : Int) : Nat → List Int
  | 0 => []
  | k + 1 => scL b r k ++ if (k : Int) = r ∨ (k : Int) ∈ b.scr then [(k : Int)] else []
theorem scL_len (b : Bk) (r : Int) : ∀ k, (scL b r k).length ≤ k
  | 0 => Nat.le_refl _
  | k + 1 => by
    have := scL_len b r k
    rw [scL, List.length_append]
    split <;> simp <;> omega
theorem scL_mem (b : Bk) (r : Int) {x : Int} : ∀ {k : Nat}, x ∈ scL b r k ↔ (0 ≤ x ∧ x < (k : Int)) ∧ (x = r ∨ x ∈ b.scr)
  | 0 => by simp [scL]; omega
  | k + 1 => by
    rw [scL, List.mem_append, scL_mem b r (k := k)]
    by_cases h : (k : Int) = r ∨ (k : Int) ∈ b.scr
    · rw [if_pos h, List.mem_singleton]
      constructor
      · rintro (⟨h1, h2⟩ | rfl)
        · exact ⟨by omega, h2⟩
        · exact ⟨by omega, h⟩
      · rintro ⟨h1, h2⟩
        by_cases hk : x = (k : Int)
        · exact .inr hk
        · exact .inl ⟨by omega, h2⟩
    · rw [if_neg h]
      simp only [List.not_mem_nil, or_false]
      constructor
      · rintro ⟨h1, h2⟩
        exact ⟨by omega, h2⟩
      · rintro ⟨h1, h2⟩
        refine ⟨?_, h2⟩
        by_cases hk : x = (k : Int)
        · subst hk
          exact absurd h2 h
        · omega
theorem scL_pw (b : Bk) (r : Int) : ∀ k, (scL b r k).Pairwise fun x y => x < y
  | 0 => List.Pairwise.nil
  | k + 1 => by
    rw [scL, List.pairwise_append]
    refine ⟨scL_pw b r k, by split <;> simp, fun x hx y hy => ?_⟩
    have h1 := (scL_mem b r).1 hx
    split at hy
    · rw [List.mem_singleton.1 hy]; omega
    · cases hy
theorem scL_ins {b : Bk} (V : ValidB b) {r : Int} (hr : 0 ≤ r ∧ r < b.runners) (hn : r ∉ b.scr) : scL b r b.runners.toNat = insF r b.scr := by
  refine incr_ext (scL_pw b r _) (insF_pw (incF_pw V.inc) hn) fun x => ?_
  rw [scL_mem, insF_mem]
  have hv := V.run
  constructor
  · exact fun h => h.2
  · intro h
    refine ⟨?_, h⟩
    rcases h with rfl | h
    · omega
    · obtain ⟨j, hj, rfl⟩ := List.mem_iff_getElem.1 h
      have := ((scratchable_false V.scr).1.2 j hj)
      rw [List.getElem?_eq_getElem hj] at this
      simp only [Option.getD_some] at this
      omega
theorem racL_scr {b : Bk} (V : ValidB b) : ((racN b).length : Int) = b.runners - (b.scr.length : Int) := by
  have hv := V.run
  have hs : ∀ x ∈ b.scr, 0 ≤ x ∧ x < b.runners := fun x hx => by
    obtain ⟨j, hj, rfl⟩ := List.mem_iff_getElem.1 hx
    have := ((scratchable_false V.scr).1.2 j hj)
    rw [List.getElem?_eq_getElem hj] at this
    exact this
  have hp : (racN b ++ b.scr).Perm ((List.range b.runners.toNat).map fun i : Nat => (i : Int)) := by
    refine (List.perm_ext_iff_of_nodup ?_ ?_).2 fun x => ?_
    · rw [List.nodup_append]
      refine ⟨?_, (incF_pw V.inc).imp fun h => by omega, fun a ha c hc e => ?_⟩
      · have key : ∀ k, (racL b k).Nodup := by
          intro k
          induction k with
          | zero => exact List.nodup_nil
          | succ k ih =>
            rw [racL, List.nodup_append]
            refine ⟨ih, by split <;> simp, fun a ha c hc e => ?_⟩
            have h1 := (racL_mem b).1 ha
            split at hc
            · cases hc
            · rw [List.mem_singleton.1 hc] at e; omega
        exact key _
      · have := ((racL_mem b).1 ha).2
        exact this (e ▸ hc)
    · have h1 : (List.range b.runners.toNat).Pairwise fun x y => x ≠ y := List.nodup_range
      show List.Pairwise _ _
      rw [List.pairwise_map]
      exact h1.imp fun h e => h (Int.ofNat.inj e)
    · rw [List.mem_append, List.mem_map]
      constructor
      · rintro (h | h)
        · have := ((racL_mem b).1 h).1
          exact ⟨x.toNat, List.mem_range.2 (by omega), by omega⟩
        · have := hs x h
          exact ⟨x.toNat, List.mem_range.2 (by omega), by omega⟩
      · rintro ⟨i, hi, rfl⟩
        have hi := List.mem_range.1 hi
        by_cases hm : (i : Int) ∈ b.scr
        · exact .inr hm
        · exact .inl ((racL_mem b).2 ⟨⟨by omega, by omega⟩, hm⟩)
  have := hp.length_eq
  rw [List.length_append, List.length_map, List.length_range] at this
  omega
/-- Whether two values that are equal differ. -/
theorem cmp_bool {P : Program} {T : TypeId} {xo yo : Operand} (w : World) (x : Bool) (hP : sy P true (cmpSem .neq T xo yo (.bool true) (.bool true)) ⟨[], w.heap.size, [], [], [], [], []⟩ = some (.value (.bool false), ⟨[], w.heap.size, [], [], [], [], []⟩))
    (hQ : sy P true (cmpSem .neq T xo yo (.bool false) (.bool false)) ⟨[], w.heap.size, [], [], [], [], []⟩ = some (.value (.bool false), ⟨[], w.heap.size, [], [], [], [], []⟩)) : (cmpSem .neq T xo yo (.bool x) (.bool x)).run P w = .ok (.value (.bool false)) w := by
  cases x
  · exact ld_run [] xn hQ
  · exact ld_run [] xn hP
theorem bet_eq {x y : Bet} (h : (#[.int .i64 x.first, .int .i64 x.second, .int .i64 x.units] : Array Value) = #[.int .i64 y.first, .int .i64 y.second, .int .i64 y.units]) : x = y := by
  obtain ⟨a, b, c⟩ := x
  obtain ⟨d, e, f⟩ := y
  simp at h
  obtain ⟨rfl, rfl, rfl⟩ := h
  rfl
set_option maxRecDepth 20000 in
theorem great_any (w : World) (b : Bk) (A : Option Addr) (n c : Nat) (A2 : Option Addr) (m c2 : Nat) : Calls Tryz.prog 6 #[bkV b A n c A2 m c2] w fun e w' => e = .returned (.bool (decide (110 < n ∨ 20 < m))) ∧ Below w.heap.size w w' := by
  refine enter 13 Tryz.func6 (by kernel_rfl) fun hA => ?_
  by_cases h0 : (n : Int) > 110
  case pos =>
    refine runS hA 22 ([.k 0] ++ List.replicate 4 (.g true)) xn (oc (dec_t (show ((n : Int) > (110 : Int)) by omega)) (oc (rfl : Value.bool true = .bool true) (oc (rfl : Value.bool true = .bool true) (oc (rfl : Value.bool true = .bool true) on)))) (by kernel_rfl) fun w1 hA => ?_
    exact ret (v := .bool true) hA [] (by kernel_rfl) ⟨by rw [decide_eq_true (show 110 < n ∨ 20 < m by omega)], hA.below⟩
  case neg =>
    by_cases h1 : (m : Int) > 20
    case pos =>
      refine runS hA 22 [.k 0, .g false, .g false, .k 0, .g false, .g false] xn (oc (dec_f (show ¬ ((n : Int) > (110 : Int)) by omega)) (oc (rfl : Value.bool false = .bool false) (oc (rfl : Value.bool false = .bool false) (oc (rfl : Value.bool false = .bool false) on)))) (by kernel_rfl) fun w1 hA => ?_
      have hk : decide ((m : Int) > 20) = true := decide_eq_true h1
      exact ret (v := .bool (decide ((m : Int) > (20 : Int)))) hA [] (by kernel_rfl) ⟨by rw [decide_eq_true (show 110 < n ∨ 20 < m by omega), hk], hA.below⟩
    case neg =>
      refine runS hA 22 [.k 0, .g false, .g false, .k 0, .g false, .g false] xn (oc (dec_f (show ¬ ((n : Int) > (110 : Int)) by omega)) (oc (rfl : Value.bool false = .bool false) (oc (rfl : Value.bool false = .bool false) (oc (rfl : Value.bool false = .bool false) on)))) (by kernel_rfl) fun w1 hA => ?_
      have hk : decide ((m : Int) > 20) = false := decide_eq_false h1
      exact ret (v := .bool (decide ((m : Int) > (20 : Int)))) hA [] (by kernel_rfl) ⟨by rw [decide_eq_false (show ¬ (110 < n ∨ 20 < m) by omega), hk], hA.below⟩
end Go.Proofs.YtbahiemjaomdcaaGreat
