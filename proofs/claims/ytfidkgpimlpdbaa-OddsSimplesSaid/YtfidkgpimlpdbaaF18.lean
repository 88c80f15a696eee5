/- Parts of a proof: OAI OAJ OAK. -/
import Derived.Test.YtfidkgpimlpdbaaF17

/- odds: the reference's Staked, NetOf, CheckStakes, Net. -/
namespace Go.Proofs.Ytfidkgpimlpdbaa
open Go.RowKit Go.Shelf

theorem within_no {lo hi : Int} {xs : List Int} {i : Nat} (hi' : i < xs.length) (h : ¬ (lo ≤ xs[i]?.getD 0 ∧ xs[i]?.getD 0 ≤ hi)) : withinF lo hi xs = false := by
  cases h9 : withinF lo hi xs
  · rfl
  · exact absurd (within_all h9 _ (get_mem hi')) h
theorem within_yes {lo hi : Int} {xs : List Int} (h : ∀ j, j < xs.length → lo ≤ xs[j]?.getD 0 ∧ xs[j]?.getD 0 ≤ hi) : withinF lo hi xs = true := by
  unfold withinF
  rw [List.all_eq_true]
  intro x hx
  obtain ⟨j, hj, rfl⟩ := List.mem_iff_getElem.1 hx
  have := h j hj
  rw [List.getElem?_eq_getElem hj] at this
  simpa using this
theorem won_ref {q : Qt} {s : Int} (hs : 0 ≤ s ∧ s ≤ 1099511627776) (hn : 0 ≤ q.n ∧ q.n ≤ 190) (hd : 1 ≤ q.d ∧ q.d ≤ 10) : (0 ≤ 2520 / q.d ∧ 2520 / q.d ≤ 2520) ∧ (0 ≤ 2520 / q.d * q.n ∧ 2520 / q.d * q.n ≤ 478800) ∧ (0 ≤ 2520 / q.d * q.n * s ∧ 2520 / q.d * q.n * s ≤ 526446167379148800) ∧ 2520 / q.d * q.n * s = s * q.n * (2520 / q.d) := by
  have h := won_ok hs hn hd
  have e : 2520 / q.d * q.n * s = s * q.n * (2520 / q.d) := by rw [Int.mul_comm (2520 / q.d) q.n, Int.mul_comm _ s, Int.mul_assoc]
  have h1 := Int.mul_nonneg h.2.1.1 hn.1
  have h2 := Int.mul_le_mul h.2.1.2 hn.2 hn.1 (by decide)
  rw [e]
  exact ⟨h.2.1, ⟨h1, by omega⟩, h.2.2, rfl⟩
set_option maxHeartbeats 1000000 in
set_option maxRecDepth 20000 in
theorem staked_any (w : World) (B : Nat) (m : Int) (A : Option Addr) (n c : Nat) (qs : List Qt) (A2 : Option Addr) (n2 c2 : Nat) (ss : List Int) (hx : QtsAt w B A n qs) (hB : B ≤ w.heap.size) (hs : IntsAt w B A2 n2 ss) :
    Calls Try.prog 87 #[.agg #[.int .i64 m, .slice A n c], .slice A2 n2 c2] w fun e w' => e = .returned (.int .i64 (stkE m qs ss)) ∧ Below w.heap.size w w' := by
  have hl := hx.1
  have hn9 := hx.2.1
  have hl2 := hs.1
  have hn8 := hs.2.1
  refine enter 35 Try.func87 (by kernel_rfl) fun hA => ?_
  refine runS hA 10 [.k 0, .k 0] xn on (by kernel_rfl) fun w1 hA => ?_
  refine callB hA [] on (rCheckMarket_any w1 B m A n c qs (hx.below hA.below hB) (Nat.le_trans hB hA.size)) (by kernel_rfl) fun w2 hb2 hA => ?_
  refine runS hA 3 [.t 0] xn on (by kernel_rfl) fun w3 hA => ?_
  by_cases ht1 : (mktE m qs) = (0 : Int)
  case pos =>
    refine runS hA 14 [.b false, .k 0, .t 0] xn (oc (ne_f ht1) on) (by kernel_rfl) fun w4 hA => ?_
    by_cases ht2 : n2 = (n : Int)
    case pos =>
      refine runS hA 10 [.b false] xn (oc (ne_f ht2) on) (by kernel_rfl) fun w5 hA => ?_
      have hst : stkE m qs ss = if withinF 0 1099511627776 ss = false then 3 else 0 := by unfold stkE; rw [if_neg (by omega), if_neg (by omega)]
      refine loop (γ := Nat) (fun i => [(1, .slice A2 n2 c2), (5, .int .i64 (i : Int))]) (fun i => [⟨w.heap.size, .cells #[.int .i64 m, .slice A n c] 44 (0, 0)⟩]) (fun _ => []) (fun g i wr => i ≤ n2 ∧ g = n2 - i ∧ ∀ j, j < i → 0 ≤ ss[j]?.getD 0 ∧ ss[j]?.getD 0 ≤ 1099511627776) n2 0 [true] hA (by kernel_rfl) (⟨by omega, rfl, fun j hj => absurd hj (Nat.not_lt_zero _)⟩) ?_
      rintro _ i wr ⟨hi, rfl, hal⟩ J hJ hA
      by_cases hlt : i < n2
      case neg =>
        refine runS hA 12 [.b false] xn (oc (dec_f (show ¬ ((i : Int) < (n2 : Int)) by omega)) on) (by kernel_rfl) fun w6 hA => ?_
        refine leave hA (by kernel_rfl) fun hA => ?_
        refine runS hA 8 [] xn on (by kernel_rfl) fun w7 hA => ?_
        exact ret (v := .int .i64 0) hA [] (by kernel_rfl) ⟨by rw [hst, within_yes fun j hj => hal j (by omega)]; rfl, hA.below⟩
      case pos =>
        have hq9 := hs.at (hlt)
        obtain ⟨b, off, rfl, hlb, hcb⟩ := hq9
        have k0 := hcb 0 _ rfl
        refine runS hA 22 [.b true, .i, .x (.int .i64 (ss[i]?.getD 0)), .t 0] (xc (a := ⟨b, off + i * 1, none⟩) ⟨Nat.lt_of_lt_of_le hlb hB, k0⟩ xn) (oc (dec_t (show (i : Int) < (n2 : Int) by omega)) (oc (show (0 : Int) ≤ ((i : Int) : Int) ∧ ((i : Int) : Int) < (n2 : Int) by omega) on)) (by kernel_rfl) fun w6 hA => ?_
        by_cases ht3 : ((ss[i]?.getD 0) : Int) < (0 : Int)
        case pos =>
          refine runS hA 17 (List.replicate 5 (.g true)) xn (oc (dec_t ht3) (oc (rfl : Value.bool true = .bool true) (oc (rfl : Value.bool true = .bool true) (oc (rfl : Value.bool true = .bool true) (oc (rfl : Value.bool true = .bool true) on))))) (by kernel_rfl) fun w7 hA => ?_
          have hB9 := within_no (lo := 0) (hi := 1099511627776) (xs := ss) (i := i) (by omega) (by omega)
          refine leave hA (by kernel_rfl) fun hA => ?_
          refine runS hA 2 [] xn on (by kernel_rfl) fun w8 hA => ?_
          exact ret (v := .int .i64 3) hA [] (by kernel_rfl) ⟨by rw [hst, hB9]; rfl, hA.below⟩
        case neg =>
          refine runS hA 8 [.g false, .g false, .g false, .i, .g false, .x (.int .i64 (ss[i]?.getD 0)), .g false, .t 0] (xc (a := ⟨b, off + i * 1, none⟩) ⟨Nat.lt_of_lt_of_le hlb hB, k0⟩ xn) (oc (dec_f ht3) (oc (rfl : Value.bool false = .bool false) (oc (rfl : Value.bool false = .bool false) (oc (show (0 : Int) ≤ ((i : Int) : Int) ∧ ((i : Int) : Int) < (n2 : Int) by omega) (oc (rfl : Value.bool false = .bool false) (oc (rfl : Value.bool false = .bool false) on)))))) (by kernel_rfl) fun w7 hA => ?_
          by_cases ht4 : ((ss[i]?.getD 0) : Int) > (1099511627776 : Int)
          case pos =>
            refine runS hA 9 [.b true] xn (oc (dec_t ht4) on) (by kernel_rfl) fun w8 hA => ?_
            have hB9 := within_no (lo := 0) (hi := 1099511627776) (xs := ss) (i := i) (by omega) (by omega)
            refine leave hA (by kernel_rfl) fun hA => ?_
            refine runS hA 2 [] xn on (by kernel_rfl) fun w9 hA => ?_
            exact ret (v := .int .i64 3) hA [] (by kernel_rfl) ⟨by rw [hst, hB9]; rfl, hA.below⟩
          case neg =>
            refine runS hA 9 [.b false, .v (.int .i64 ((i : Int) + 1))] xn (oc (dec_f ht4) (oc (show Value.int .i64 (IntKind.i64.wrap ((i : Int) + 1)) = .int .i64 ((i : Int) + 1) from wrp (by omega)) on)) (by kernel_rfl) fun w8 hA => ?_
            refine revals hA (rc 5 (show .int .i64 ((i : Int) + 1) = .int .i64 ((i + 1 : Nat) : Int) by rw [show ((i + 1 : Nat) : Int) = (i : Int) + 1 by omega]) rn) (by kernel_rfl) fun hA => ?_
            exact again hJ (n2 - (i + 1)) (i + 1) [true] hA (by omega) (by kernel_rfl) (⟨by omega, rfl, fun j hj => by rcases Nat.lt_succ_iff_lt_or_eq.1 hj with h9 | h9; exact hal j h9; rw [h9]; omega⟩)
    case neg =>
      refine runS hA 8 [.b true] xn (oc (ne_t ht2) on) (by kernel_rfl) fun w5 hA => ?_
      exact ret (v := .int .i64 15) hA [] (by kernel_rfl) ⟨by unfold stkE; rw [if_neg (by omega), if_pos (by omega)], hA.below⟩
  case neg =>
    refine runS hA 4 [.b true, .k 0, .k 0] xn (oc (ne_t ht1) on) (by kernel_rfl) fun w4 hA => ?_
    refine callB hA [] on (rCheckMarket_any w4 B m A n c qs (hx.below hA.below hB) (Nat.le_trans hB hA.size)) (by kernel_rfl) fun w5 hb5 hA => ?_
    refine runS hA 5 [] xn on (by kernel_rfl) fun w6 hA => ?_
    exact ret (v := .int .i64 (mktE m qs)) hA [] (by kernel_rfl) ⟨by unfold stkE; rw [if_pos ht1], hA.below⟩
set_option maxHeartbeats 1000000 in
set_option maxRecDepth 20000 in
theorem netOf_any (w : World) (B : Nat) (m : Int) (A : Option Addr) (n c : Nat) (qs : List Qt) (A2 : Option Addr) (n2 c2 : Nat) (ss : List Int) (r : Int) (V : ValidM m qs) (S : Stk qs.length ss) (hx : QtsAt w B A n qs) (hB : B ≤ w.heap.size) (hs : IntsAt w B A2 n2 ss) :
    Calls Try.prog 59 #[.agg #[.int .i64 m, .slice A n c], .slice A2 n2 c2, .int .i64 r] w fun e w' => e = .returned (.int .i64 (netF qs ss r)) ∧ Below w.heap.size w w' := by
  have hl := hx.1
  have hn9 := hx.2.1
  have hl2 := hs.1
  have hn8 := hs.2.1
  have hv := V.len
  have hS1 := S.1
  refine enter 50 Try.func59 (by kernel_rfl) fun hA => ?_
  refine runS hA 18 [] xn on (by kernel_rfl) fun w1 hA => ?_
  refine loop (γ := Nat) (fun i => [(1, .slice A2 n2 c2), (2, .int .i64 r), (3, .pointer (some ⟨w.heap.size, 0, none⟩)), (6, .int .i64 0), (7, .int .i64 (netP qs ss r i)), (8, .int .i64 (i : Int))]) (fun i => [⟨w.heap.size, .cells #[.int .i64 m, .slice A n c] 44 (0, 0)⟩]) (fun _ => []) (fun g i wr => i ≤ n2 ∧ g = n2 - i) n2 0 [true] hA (by kernel_rfl) (⟨by omega, rfl⟩) ?_
  rintro _ i wr ⟨hi, rfl⟩ J hJ hA
  by_cases hlt : i < n2
  case neg =>
    refine runS hA 12 [.b false] xn (oc (dec_f (show ¬ ((i : Int) < (n2 : Int)) by omega)) on) (by kernel_rfl) fun w2 hA => ?_
    refine leave hA (by kernel_rfl) fun hA => ?_
    refine runS hA 9 [] xn on (by kernel_rfl) fun w3 hA => ?_
    exact ret (v := .int .i64 (netP qs ss r i)) hA [] (by kernel_rfl) ⟨by unfold netF; rw [show qs.length = i by omega], hA.below⟩
  case pos =>
    have hq9 := hx.at ((show i < n by omega))
    obtain ⟨b, off, rfl, hlb, hcb⟩ := hq9
    have k0 := hcb 0 _ rfl
    have k1 := hcb 1 _ rfl
    have k2 := hcb 2 _ rfl
    have k3 := hcb 3 _ rfl
    have hk2 := hs.at hlt
    have hq9 := hs.at (hlt)
    obtain ⟨b2, off2, rfl, hlb2, hcb2⟩ := hq9
    have s0 := hcb2 0 _ rfl
    have hqv := V.all _ (get_mem (d := noQ) (show i < qs.length by omega))
    have hsv := S.2 _ (get_mem (d := 0) (show i < ss.length by omega))
    have hwr := won_ref hsv hqv.2.1 hqv.2.2
    have hbd := net_bd (r := r) V S (i + 1) (by omega)
    have hb0 := net_bd (r := r) V S i (by omega)
    have hst : netP qs ss r (i + 1) = netP qs ss r i + wonF (qs[i]?.getD noQ) (ss[i]?.getD 0) r := rfl
    rw [hst] at hbd
    unfold wonF at hbd hst
    refine runS hA 44 ([.b true, .k 0, .i, .x (.int .i64 ((qs[i]?.getD noQ).r)), .x (.int .i64 ((qs[i]?.getD noQ).n)), .x (.int .i64 ((qs[i]?.getD noQ).d)), .x (.bool ((qs[i]?.getD noQ).lay))] ++ List.replicate 4 (.k 1) ++ [.i, .x (.int .i64 (ss[i]?.getD 0)), .v (.int .i64 ((-2520) * (ss[i]?.getD 0))), .k 1, .t 0]) (xc (a := ⟨b, off + i * 4, none⟩) ⟨Nat.lt_of_lt_of_le hlb hB, k0⟩ (xc (a := ⟨b, off + i * 4 + 1, none⟩) ⟨Nat.lt_of_lt_of_le hlb hB, k1⟩ (xc (a := ⟨b, off + i * 4 + 2, none⟩) ⟨Nat.lt_of_lt_of_le hlb hB, k2⟩ (xc (a := ⟨b, off + i * 4 + 3, none⟩) ⟨Nat.lt_of_lt_of_le hlb hB, k3⟩ (xc (a := ⟨b2, off2 + i * 1, none⟩) ⟨Nat.lt_of_lt_of_le hlb2 hB, s0⟩ xn))))) (oc (dec_t (show (i : Int) < (n2 : Int) by omega)) (oc (show (0 : Int) ≤ ((i : Int) : Int) ∧ ((i : Int) : Int) < (n : Int) by omega) (oc (show (0 : Int) ≤ ((i : Int) : Int) ∧ ((i : Int) : Int) < (n2 : Int) by omega) (oc (show Value.int .i64 (IntKind.i64.wrap ((-2520) * (ss[i]?.getD 0))) = .int .i64 ((-2520) * (ss[i]?.getD 0)) from wrp (by omega)) on)))) (by kernel_rfl) fun w2 hA => ?_
    by_cases ht1 : ((qs[i]?.getD noQ).r) = (r : Int)
    case pos =>
      refine runS hA 1 [.b true] xn (oc (eq_t ht1) on) (by kernel_rfl) fun w3 hA => ?_
      refine draw hA [true, true] [0, 1, 2, 3, 4, 5, 6, 7, 8, 9, 10, 11] (by kernel_rfl) (by kernel_rfl) fun hA => ?_
      refine runS hA 21 [.t 0, .t 1, .k 1, .t 2, .v (.int .i64 (2520 / ((qs[i]?.getD noQ).d))), .z, .t 3, .t 4, .k 1, .t 5, .v (.int .i64 ((2520 / ((qs[i]?.getD noQ).d)) * ((qs[i]?.getD noQ).n))), .t 6, .t 7, .t 8, .i, .t 9, .x (.int .i64 (ss[i]?.getD 0)), .t 10, .v (.int .i64 (((2520 / ((qs[i]?.getD noQ).d)) * ((qs[i]?.getD noQ).n)) * (ss[i]?.getD 0))), .t 11, .b true, .k 1, .t 0] (xc (a := ⟨b2, off2 + i * 1, none⟩) ⟨Nat.lt_of_lt_of_le hlb2 hB, s0⟩ xn) (oc (show ((qs[i]?.getD noQ).d) ≠ (0 : Int) by omega) (oc (show Value.int .i64 (IntKind.i64.wrap (Int.tdiv 2520 ((qs[i]?.getD noQ).d))) = .int .i64 (2520 / ((qs[i]?.getD noQ).d)) from wrq (by omega)) (oc (show Value.int .i64 (IntKind.i64.wrap ((2520 / ((qs[i]?.getD noQ).d)) * ((qs[i]?.getD noQ).n))) = .int .i64 ((2520 / ((qs[i]?.getD noQ).d)) * ((qs[i]?.getD noQ).n)) from wrp (by omega)) (oc (show (0 : Int) ≤ ((i : Int) : Int) ∧ ((i : Int) : Int) < (n2 : Int) by omega) (oc (show Value.int .i64 (IntKind.i64.wrap (((2520 / ((qs[i]?.getD noQ).d)) * ((qs[i]?.getD noQ).n)) * (ss[i]?.getD 0))) = .int .i64 (((2520 / ((qs[i]?.getD noQ).d)) * ((qs[i]?.getD noQ).n)) * (ss[i]?.getD 0)) from wrp (by omega)) on))))) (by kernel_rfl) fun w4 hA => ?_
      have hq9 := Bool.eq_false_or_eq_true ((qs[i]?.getD noQ).lay)
      rcases hq9 with ht2 | ht2
      ·
        simp only [ht1, ht2, if_true] at hbd hst
        refine runS hA 20 [.b true, .v (.int .i64 (-(((2520 / ((qs[i]?.getD noQ).d)) * ((qs[i]?.getD noQ).n)) * (ss[i]?.getD 0)))), .v (.int .i64 ((netP qs ss r i) + (-(((2520 / ((qs[i]?.getD noQ).d)) * ((qs[i]?.getD noQ).n)) * (ss[i]?.getD 0))))), .v (.int .i64 ((i : Int) + 1))] xn (oc (show Value.bool ((qs[i]?.getD noQ).lay) = .bool true by rw [ht2] <;> rfl) (oc (show Value.int .i64 (IntKind.i64.wrap (0 - (((2520 / ((qs[i]?.getD noQ).d)) * ((qs[i]?.getD noQ).n)) * (ss[i]?.getD 0)))) = .int .i64 (-(((2520 / ((qs[i]?.getD noQ).d)) * ((qs[i]?.getD noQ).n)) * (ss[i]?.getD 0))) from wrn (by omega)) (oc (show Value.int .i64 (IntKind.i64.wrap ((netP qs ss r i) + (-(((2520 / ((qs[i]?.getD noQ).d)) * ((qs[i]?.getD noQ).n)) * (ss[i]?.getD 0))))) = .int .i64 ((netP qs ss r i) + (-(((2520 / ((qs[i]?.getD noQ).d)) * ((qs[i]?.getD noQ).n)) * (ss[i]?.getD 0)))) from wrp (by omega)) (oc (show Value.int .i64 (IntKind.i64.wrap ((i : Int) + 1)) = .int .i64 ((i : Int) + 1) from wrp (by omega)) on)))) (by kernel_rfl) fun w5 hA => ?_
        refine revals hA (rc 7 (show .int .i64 ((netP qs ss r i) + (-(((2520 / ((qs[i]?.getD noQ).d)) * ((qs[i]?.getD noQ).n)) * (ss[i]?.getD 0)))) = .int .i64 (netP qs ss r (i + 1)) by rw [hst]; congr 1; omega) rn) (by kernel_rfl) fun hA => ?_
        refine revals hA (rc 8 (show .int .i64 ((i : Int) + 1) = .int .i64 ((i + 1 : Nat) : Int) by rw [show ((i + 1 : Nat) : Int) = (i : Int) + 1 by omega]) rn) (by kernel_rfl) fun hA => ?_
        exact again hJ (n2 - (i + 1)) (i + 1) [true, false] hA (by omega) (by kernel_rfl) (⟨by omega, rfl⟩)
      ·
        simp only [ht1, ht2, if_true, if_false, Bool.false_eq_true] at hbd hst
        refine runS hA 16 [.b false, .v (.int .i64 ((netP qs ss r i) + (((2520 / ((qs[i]?.getD noQ).d)) * ((qs[i]?.getD noQ).n)) * (ss[i]?.getD 0)))), .v (.int .i64 ((i : Int) + 1))] xn (oc (show Value.bool ((qs[i]?.getD noQ).lay) = .bool false by rw [ht2] <;> rfl) (oc (show Value.int .i64 (IntKind.i64.wrap ((netP qs ss r i) + (((2520 / ((qs[i]?.getD noQ).d)) * ((qs[i]?.getD noQ).n)) * (ss[i]?.getD 0)))) = .int .i64 ((netP qs ss r i) + (((2520 / ((qs[i]?.getD noQ).d)) * ((qs[i]?.getD noQ).n)) * (ss[i]?.getD 0))) from wrp (by omega)) (oc (show Value.int .i64 (IntKind.i64.wrap ((i : Int) + 1)) = .int .i64 ((i : Int) + 1) from wrp (by omega)) on))) (by kernel_rfl) fun w5 hA => ?_
        refine revals hA (rc 7 (show .int .i64 ((netP qs ss r i) + (((2520 / ((qs[i]?.getD noQ).d)) * ((qs[i]?.getD noQ).n)) * (ss[i]?.getD 0))) = .int .i64 (netP qs ss r (i + 1)) by rw [hst]; congr 1; omega) rn) (by kernel_rfl) fun hA => ?_
        refine revals hA (rc 8 (show .int .i64 ((i : Int) + 1) = .int .i64 ((i + 1 : Nat) : Int) by rw [show ((i + 1 : Nat) : Int) = (i : Int) + 1 by omega]) rn) (by kernel_rfl) fun hA => ?_
        exact again hJ (n2 - (i + 1)) (i + 1) [true, false] hA (by omega) (by kernel_rfl) (⟨by omega, rfl⟩)
    case neg =>
      refine runS hA 10 [.b false, .k 1, .t 0] xn (oc (eq_f ht1) on) (by kernel_rfl) fun w3 hA => ?_
      have hq9 := Bool.eq_false_or_eq_true ((qs[i]?.getD noQ).lay)
      rcases hq9 with ht3 | ht3
      ·
        simp only [ht1, ht3, if_true, if_false] at hbd hst
        refine runS hA 20 [.b true, .v (.int .i64 (-((-2520) * (ss[i]?.getD 0)))), .v (.int .i64 ((netP qs ss r i) + (-((-2520) * (ss[i]?.getD 0))))), .v (.int .i64 ((i : Int) + 1))] xn (oc (show Value.bool ((qs[i]?.getD noQ).lay) = .bool true by rw [ht3] <;> rfl) (oc (show Value.int .i64 (IntKind.i64.wrap (0 - ((-2520) * (ss[i]?.getD 0)))) = .int .i64 (-((-2520) * (ss[i]?.getD 0))) from wrn (by omega)) (oc (show Value.int .i64 (IntKind.i64.wrap ((netP qs ss r i) + (-((-2520) * (ss[i]?.getD 0))))) = .int .i64 ((netP qs ss r i) + (-((-2520) * (ss[i]?.getD 0)))) from wrp (by omega)) (oc (show Value.int .i64 (IntKind.i64.wrap ((i : Int) + 1)) = .int .i64 ((i : Int) + 1) from wrp (by omega)) on)))) (by kernel_rfl) fun w4 hA => ?_
        refine revals hA (rc 7 (show .int .i64 ((netP qs ss r i) + (-((-2520) * (ss[i]?.getD 0)))) = .int .i64 (netP qs ss r (i + 1)) by rw [hst]; congr 1; omega) rn) (by kernel_rfl) fun hA => ?_
        refine revals hA (rc 8 (show .int .i64 ((i : Int) + 1) = .int .i64 ((i + 1 : Nat) : Int) by rw [show ((i + 1 : Nat) : Int) = (i : Int) + 1 by omega]) rn) (by kernel_rfl) fun hA => ?_
        exact again hJ (n2 - (i + 1)) (i + 1) [true, false] hA (by omega) (by kernel_rfl) (⟨by omega, rfl⟩)
      ·
        simp only [ht1, ht3, if_false, Bool.false_eq_true] at hbd hst
        refine runS hA 16 [.b false, .v (.int .i64 ((netP qs ss r i) + ((-2520) * (ss[i]?.getD 0)))), .v (.int .i64 ((i : Int) + 1))] xn (oc (show Value.bool ((qs[i]?.getD noQ).lay) = .bool false by rw [ht3] <;> rfl) (oc (show Value.int .i64 (IntKind.i64.wrap ((netP qs ss r i) + ((-2520) * (ss[i]?.getD 0)))) = .int .i64 ((netP qs ss r i) + ((-2520) * (ss[i]?.getD 0))) from wrp (by omega)) (oc (show Value.int .i64 (IntKind.i64.wrap ((i : Int) + 1)) = .int .i64 ((i : Int) + 1) from wrp (by omega)) on))) (by kernel_rfl) fun w4 hA => ?_
        refine revals hA (rc 7 (show .int .i64 ((netP qs ss r i) + ((-2520) * (ss[i]?.getD 0))) = .int .i64 (netP qs ss r (i + 1)) by rw [hst]; congr 1; omega) rn) (by kernel_rfl) fun hA => ?_
        refine revals hA (rc 8 (show .int .i64 ((i : Int) + 1) = .int .i64 ((i + 1 : Nat) : Int) by rw [show ((i + 1 : Nat) : Int) = (i : Int) + 1 by omega]) rn) (by kernel_rfl) fun hA => ?_
        exact again hJ (n2 - (i + 1)) (i + 1) [true, false] hA (by omega) (by kernel_rfl) (⟨by omega, rfl⟩)
end Go.Proofs.Ytfidkgpimlpdbaa

/- odds: the reference's CheckStakes, Net. -/
namespace Go.Proofs.Ytfidkgpimlpdbaa
open Go.RowKit Go.Shelf

set_option maxHeartbeats 1000000 in
set_option maxRecDepth 20000 in
theorem rCheckStakes_any (w : World) (B : Nat) (m : Int) (A : Option Addr) (n c : Nat) (qs : List Qt) (A2 : Option Addr) (n2 c2 : Nat) (ss : List Int) (hx : QtsAt w B A n qs) (hB : B ≤ w.heap.size) (hs : IntsAt w B A2 n2 ss) :
    Calls Try.prog 38 #[.agg #[.int .i64 m, .slice A n c], .slice A2 n2 c2] w fun e w' => e = .returned (.int .i64 (csE m qs ss)) ∧ Below w.heap.size w w' := by
  have hl := hx.1
  have hn9 := hx.2.1
  have hl2 := hs.1
  have hn8 := hs.2.1
  refine enter 24 Try.func38 (by kernel_rfl) fun hA => ?_
  refine runS hA 11 [.k 0, .k 0] xn on (by kernel_rfl) fun w1 hA => ?_
  refine callB hA [] on (staked_any w1 B m A n c qs A2 n2 c2 ss (hx.below hA.below hB) (Nat.le_trans hB hA.size) (hs.below hA.below hB)) (by kernel_rfl) fun w2 hb2 hA => ?_
  refine runS hA 3 [.t 0] xn on (by kernel_rfl) fun w3 hA => ?_
  by_cases ht1 : (stkE m qs ss) = (0 : Int)
  case pos =>
    refine runS hA 10 [.b false] xn (oc (ne_f ht1) on) (by kernel_rfl) fun w4 hA => ?_
    have hk9 := stk_ok (show stkE m qs ss = 0 by omega)
    have V := mkt_ok hk9.1
    have S := hk9.2
    have hfew := V.few
    have hq9 : ∃ M : Nat, m = (M : Int) := ⟨m.toNat, by omega⟩
    obtain ⟨M, hM⟩ := hq9
    have hmt : m.toNat = M := by omega
    have hst : csE m qs ss = if winF qs ss m.toNat = false then 14 else 0 := by unfold csE; rw [if_neg (by omega)]
    refine loop (γ := Nat) (fun i => [(1, .slice A2 n2 c2), (2, .pointer (some ⟨w.heap.size, 0, none⟩)), (5, .int .i64 (i : Int))]) (fun i => [⟨w.heap.size, .cells #[.int .i64 m, .slice A n c] 44 (0, 0)⟩]) (fun _ => []) (fun g i wr => i ≤ M ∧ g = M - i ∧ winF qs ss i = true) M 0 [true] hA (by kernel_rfl) (⟨by omega, rfl, rfl⟩) ?_
    rintro _ i wr ⟨hi, rfl, hal⟩ J hJ hA
    by_cases hlt : i < M
    case neg =>
      refine runS hA 12 [.k 0, .b false] xn (oc (dec_f (show ¬ ((i : Int) < m) by omega)) on) (by kernel_rfl) fun w5 hA => ?_
      refine leave hA (by kernel_rfl) fun hA => ?_
      refine runS hA 8 [] xn on (by kernel_rfl) fun w6 hA => ?_
      exact ret (v := .int .i64 0) hA [] (by kernel_rfl) ⟨by rw [hst, hmt, show M = i by omega, hal]; rfl, hA.below⟩
    case pos =>
      refine runS hA 19 [.k 0, .b true, .k 0, .k 0] xn (oc (dec_t (show (i : Int) < m by omega)) on) (by kernel_rfl) fun w5 hA => ?_
      refine callB hA [] on (netOf_any w5 B m A n c qs A2 n2 c2 ss (i : Int) V S (hx.below hA.below hB) (Nat.le_trans hB hA.size) (hs.below hA.below hB)) (by kernel_rfl) fun w6 hb6 hA => ?_
      refine runS hA 3 [.t 0] xn on (by kernel_rfl) fun w7 hA => ?_
      by_cases ht2 : ((netF qs ss (i : Int)) : Int) ≤ (0 : Int)
      case pos =>
        refine runS hA 9 [.b true] xn (oc (dec_t ht2) on) (by kernel_rfl) fun w8 hA => ?_
        refine leave hA (by kernel_rfl) fun hA => ?_
        refine runS hA 2 [] xn on (by kernel_rfl) fun w9 hA => ?_
        exact ret (v := .int .i64 14) hA [] (by kernel_rfl) ⟨by rw [hst, hmt, win_no hlt ht2]; rfl, hA.below⟩
      case neg =>
        refine runS hA 9 [.b false, .v (.int .i64 ((i : Int) + 1))] xn (oc (dec_f ht2) (oc (show Value.int .i64 (IntKind.i64.wrap ((i : Int) + 1)) = .int .i64 ((i : Int) + 1) from wrp (by omega)) on)) (by kernel_rfl) fun w8 hA => ?_
        refine revals hA (rc 5 (show .int .i64 ((i : Int) + 1) = .int .i64 ((i + 1 : Nat) : Int) by rw [show ((i + 1 : Nat) : Int) = (i : Int) + 1 by omega]) rn) (by kernel_rfl) fun hA => ?_
        exact again hJ (M - (i + 1)) (i + 1) [true] hA (by omega) (by kernel_rfl) (⟨by omega, rfl, by rw [win_step, hal, decide_eq_true (by omega)]; rfl⟩)
  case neg =>
    refine runS hA 5 [.b true, .k 0, .k 0] xn (oc (ne_t ht1) on) (by kernel_rfl) fun w4 hA => ?_
    refine callB hA [] on (staked_any w4 B m A n c qs A2 n2 c2 ss (hx.below hA.below hB) (Nat.le_trans hB hA.size) (hs.below hA.below hB)) (by kernel_rfl) fun w5 hb5 hA => ?_
    refine runS hA 5 [] xn on (by kernel_rfl) fun w6 hA => ?_
    exact ret (v := .int .i64 (stkE m qs ss)) hA [] (by kernel_rfl) ⟨by unfold csE; rw [if_pos ht1], hA.below⟩
set_option maxHeartbeats 1000000 in
set_option maxRecDepth 20000 in
theorem rNet_any (w : World) (B : Nat) (m : Int) (A : Option Addr) (n c : Nat) (qs : List Qt) (A2 : Option Addr) (n2 c2 : Nat) (ss : List Int) (r : Int) (hx : QtsAt w B A n qs) (hB : B ≤ w.heap.size) (hs : IntsAt w B A2 n2 ss) :
    Calls Try.prog 34 #[.agg #[.int .i64 m, .slice A n c], .slice A2 n2 c2, .int .i64 r] w fun e w' => e = .returned (.tuple #[.agg #[.int .i64 ((netA m qs ss r).1), .int .i64 ((netA m qs ss r).2)], .int .i64 (netE m qs ss r)]) ∧ Below w.heap.size w w' := by
  have hl := hx.1
  have hn9 := hx.2.1
  have hl2 := hs.1
  have hn8 := hs.2.1
  refine enter 30 Try.func34 (by kernel_rfl) fun hA => ?_
  refine runS hA 12 [.k 0, .k 0] xn on (by kernel_rfl) fun w1 hA => ?_
  refine callB hA [] on (staked_any w1 B m A n c qs A2 n2 c2 ss (hx.below hA.below hB) (Nat.le_trans hB hA.size) (hs.below hA.below hB)) (by kernel_rfl) fun w2 hb2 hA => ?_
  refine runS hA 3 [.t 0] xn on (by kernel_rfl) fun w3 hA => ?_
  by_cases ht1 : (stkE m qs ss) = (0 : Int)
  case pos =>
    refine runS hA 9 [.b false, .t 0] xn (oc (ne_f ht1) on) (by kernel_rfl) fun w4 hA => ?_
    by_cases ht2 : (r : Int) < (0 : Int)
    case pos =>
      refine runS hA 17 (List.replicate 4 (.g true) ++ [.k 1, .k 1]) xn (oc (dec_t ht2) (oc (rfl : Value.bool true = .bool true) (oc (rfl : Value.bool true = .bool true) (oc (rfl : Value.bool true = .bool true) on)))) (by kernel_rfl) fun w5 hA => ?_
      have hE : netE m qs ss r = 2 := by unfold netE; rw [if_neg (by omega), if_pos (by simp [runF]; omega)]
      exact ret (v := .tuple #[.agg #[.int .i64 0, .int .i64 0], .int .i64 2]) hA [.k 1, .k 1] (by kernel_rfl) ⟨by unfold netA; rw [hE]; rfl, hA.below⟩
    case neg =>
      refine runS hA 7 [.g false, .g false, .g false, .k 0, .g false, .t 0] xn (oc (dec_f ht2) (oc (rfl : Value.bool false = .bool false) (oc (rfl : Value.bool false = .bool false) (oc (rfl : Value.bool false = .bool false) on)))) (by kernel_rfl) fun w5 hA => ?_
      by_cases ht3 : (r : Int) ≥ (m : Int)
      case pos =>
        refine runS hA 10 [.b true, .k 1, .k 1] xn (oc (dec_t ht3) on) (by kernel_rfl) fun w6 hA => ?_
        have hE : netE m qs ss r = 2 := by unfold netE; rw [if_neg (by omega), if_pos (by simp [runF]; omega)]
        exact ret (v := .tuple #[.agg #[.int .i64 0, .int .i64 0], .int .i64 2]) hA [.k 1, .k 1] (by kernel_rfl) ⟨by unfold netA; rw [hE]; rfl, hA.below⟩
      case neg =>
        refine runS hA 8 [.b false, .k 0, .k 0] xn (oc (dec_f ht3) on) (by kernel_rfl) fun w6 hA => ?_
        have hk9 := stk_ok (show stkE m qs ss = 0 by omega)
        have V := mkt_ok hk9.1
        have S := hk9.2
        have hfew := V.few
        have hE : netE m qs ss r = 0 := by unfold netE; rw [if_neg (by omega), if_neg (by simp [runF]; omega)]
        have hnb := netF_bd (r := r) V S
        refine callB hA [] on (netOf_any w6 B m A n c qs A2 n2 c2 ss r V S (hx.below hA.below hB) (Nat.le_trans hB hA.size) (hs.below hA.below hB)) (by kernel_rfl) fun w7 hb7 hA => ?_
        refine callB hA [] on (rfraction_any w7 (netF qs ss r) 2520 (by omega) (by omega)) (by kernel_rfl) fun w8 hb8 hA => ?_
        refine runS hA 5 [.k 1, .k 1] xn on (by kernel_rfl) fun w9 hA => ?_
        exact ret (v := .tuple #[.agg #[.int .i64 ((ratF (netF qs ss r) 2520).1), .int .i64 ((ratF (netF qs ss r) 2520).2)], .int .i64 0]) hA [.k 1, .k 1] (by kernel_rfl) ⟨by unfold netA; rw [hE]; rfl, hA.below⟩
  case neg =>
    refine runS hA 6 [.b true, .k 0, .k 0] xn (oc (ne_t ht1) on) (by kernel_rfl) fun w4 hA => ?_
    refine callB hA [] on (staked_any w4 B m A n c qs A2 n2 c2 ss (hx.below hA.below hB) (Nat.le_trans hB hA.size) (hs.below hA.below hB)) (by kernel_rfl) fun w5 hb5 hA => ?_
    refine runS hA 6 [.k 1, .k 1] xn on (by kernel_rfl) fun w6 hA => ?_
    exact ret (v := .tuple #[.agg #[.int .i64 0, .int .i64 0], .int .i64 (stkE m qs ss)]) hA [.k 1, .k 1] (by kernel_rfl) ⟨by unfold netA netE; rw [if_pos ht1, if_neg ht1], hA.below⟩
end Go.Proofs.Ytfidkgpimlpdbaa

/- odds: the reference's CheckChances. -/
namespace Go.Proofs.Ytfidkgpimlpdbaa
open Go.RowKit Go.Shelf

theorem mmc (a b c d : Int) : a * b * (c * d) = a * c * (b * d) := by ac_rfl
theorem cross_lt {a b c d : Int} (hb : 0 < b) (hd : 0 < d) : (ratF a b).1 * (ratF c d).2 < (ratF c d).1 * (ratF a b).2 ↔ a * d < c * b := by
  have hg := gcdZ_pos (a := a) hb
  have hh := gcdZ_pos (a := c) hd
  have h1 := rat_mul (n := a) (d := b)
  have h2 := rat_mul (n := c) (d := d)
  have hp := Int.mul_pos hg hh
  have e1 : a * d = (ratF a b).1 * (ratF c d).2 * (gcdZ a b * gcdZ c d) := by
    rw [mmc, ← h1.1, ← h2.2]
  have e2 : c * b = (ratF c d).1 * (ratF a b).2 * (gcdZ a b * gcdZ c d) := by
    rw [Int.mul_comm (gcdZ a b), mmc, ← h2.1, ← h1.2]
  rw [e1, e2]
  exact ⟨fun h => Int.mul_lt_mul_of_pos_right h hp, fun h => Int.lt_of_mul_lt_mul_right h (Int.le_of_lt hp)⟩
theorem unf_lay {cs : List Int} {sum : Int} {q : Qt} (hs : 0 < sum) (hd : 0 < q.n + q.d) (hl : q.lay = true) : unfF cs sum q = decide (cs[q.r.toNat]?.getD 0 * (q.d + q.n) < sum * q.d) := by
  unfold unfF fairF
  rw [if_pos hl, Bool.not_not, Int.add_comm q.d, Int.mul_comm sum]
  exact decide_eq_decide.2 (cross_lt hs hd)
theorem unf_on {cs : List Int} {sum : Int} {q : Qt} (hs : 0 < sum) (hd : 0 < q.n + q.d) (hl : q.lay = false) : unfF cs sum q = decide (cs[q.r.toNat]?.getD 0 * (q.d + q.n) > sum * q.d) := by
  unfold unfF fairF
  rw [if_neg (by rw [hl]; decide), Bool.not_not, Int.add_comm q.d, Int.mul_comm sum]
  exact decide_eq_decide.2 (cross_lt (a := q.d) (c := cs[q.r.toNat]?.getD 0) hd hs)
theorem any_get {qs : List Qt} {p : Qt → Bool} {i : Nat} (hi : i < qs.length) (h : p (qs[i]?.getD noQ) = true) : (qs.any p) = true := List.any_eq_true.2 ⟨_, get_mem hi, h⟩
theorem cd_bd {c s d n : Int} (hc : 0 ≤ c ∧ c ≤ 1099511627776) (hs : 0 ≤ s ∧ s ≤ 1099511627776) (hn : 0 ≤ n ∧ n ≤ 190) (hd : 1 ≤ d ∧ d ≤ 10) : (0 ≤ c * (d + n) ∧ c * (d + n) ≤ 219902325555200) ∧ 0 ≤ s * d ∧ s * d ≤ 10995116277760 := by
  have h1 := Int.mul_nonneg hc.1 (show 0 ≤ d + n by omega)
  have h2 := Int.mul_le_mul hc.2 (show d + n ≤ 200 by omega) (by omega) (by decide)
  have h3 := Int.mul_nonneg hs.1 (show 0 ≤ d by omega)
  have h4 := Int.mul_le_mul hs.2 hd.2 (by omega) (by decide)
  omega
set_option maxHeartbeats 4000000 in
set_option maxRecDepth 20000 in
theorem rCheckChances_any (w : World) (B : Nat) (m : Int) (A : Option Addr) (n c : Nat) (qs : List Qt) (A2 : Option Addr) (n2 c2 : Nat) (ss : List Int) (hx : QtsAt w B A n qs) (hB : B ≤ w.heap.size) (hs : IntsAt w B A2 n2 ss) :
    Calls Try.prog 44 #[.agg #[.int .i64 m, .slice A n c], .slice A2 n2 c2] w fun e w' => e = .returned (.int .i64 (ccE m qs ss)) ∧ Below w.heap.size w w' := by
  have hl := hx.1
  have hn9 := hx.2.1
  have hl2 := hs.1
  have hn8 := hs.2.1
  refine enter 95 Try.func44 (by kernel_rfl) fun hA => ?_
  refine runS hA 10 [.k 0, .k 0] xn on (by kernel_rfl) fun w1 hA9 => ?_
  clear hA; have hA := hA9; clear hA9
  refine callB hA [] on (rCheckMarket_any w1 B m A n c qs (hx.below hA.below hB) (Nat.le_trans hB hA.size)) (by kernel_rfl) fun w2 hb2 hA9 => ?_
  clear hA; have hA := hA9; clear hA9
  refine runS hA 3 [.t 0] xn on (by kernel_rfl) fun w3 hA9 => ?_
  clear hA; have hA := hA9; clear hA9
  by_cases ht1 : (mktE m qs) = (0 : Int)
  case pos =>
    refine runS hA 13 [.b false, .k 0, .t 0] xn (oc (ne_f ht1) on) (by kernel_rfl) fun w4 hA9 => ?_
    clear hA; have hA := hA9; clear hA9
    by_cases ht2 : n2 = (m : Int)
    case pos =>
      refine runS hA 15 [.b false] xn (oc (ne_f ht2) on) (by kernel_rfl) fun w5 hA9 => ?_
      clear hA; have hA := hA9; clear hA9
      have V := mkt_ok (show mktE m qs = 0 by omega)
      have hfew := V.few
      have hv := V.len
      have hst : ccE m qs ss = if totB ss = false then 3 else if (qs.any (unfF ss (totA ss))) = true then 20 else 0 := by unfold ccE; rw [if_neg (by omega), if_neg (by omega)]
      refine loop (γ := Nat) (fun i => [(1, .slice A2 n2 c2), (2, .pointer (some ⟨w.heap.size, 0, none⟩)), (5, .int .i64 (sumP ss i)), (6, .int .i64 (i : Int))]) (fun i => [⟨w.heap.size, .cells #[.int .i64 m, .slice A n c] 44 (0, 0)⟩]) (fun _ => []) (fun g i wr => i ≤ n2 ∧ g = n2 - i ∧ (∀ j, j < i → 0 ≤ ss[j]?.getD 0 ∧ ss[j]?.getD 0 ≤ 1099511627776) ∧ 0 ≤ sumP ss i ∧ sumP ss i ≤ 1099511627776 * (i : Int)) n2 0 [true] hA (by kernel_rfl) (⟨by omega, rfl, fun j hj => absurd hj (Nat.not_lt_zero _), by simp [sumP], by simp [sumP]⟩) ?_
      rintro _ i wr ⟨hi, rfl, hal, hsb⟩ J hJ hA
      by_cases hlt : i < n2
      case pos =>
        have hq9 := hs.at (hlt)
        obtain ⟨b, off, rfl, hlb, hcb⟩ := hq9
        have k0 := hcb 0 _ rfl
        have hsp : sumP ss (i + 1) = sumP ss i + (ss[i]?.getD 0) := rfl
        refine runS hA 23 [.b true, .i, .x (.int .i64 (ss[i]?.getD 0)), .t 0] (xc (a := ⟨b, off + i * 1, none⟩) ⟨Nat.lt_of_lt_of_le hlb hB, k0⟩ xn) (oc (dec_t (show (i : Int) < (n2 : Int) by omega)) (oc (show (0 : Int) ≤ ((i : Int) : Int) ∧ ((i : Int) : Int) < (n2 : Int) by omega) on)) (by kernel_rfl) fun w6 hA9 => ?_
        clear hA; have hA := hA9; clear hA9
        by_cases ht3 : ((ss[i]?.getD 0) : Int) < (0 : Int)
        case pos =>
          refine runS hA 18 (List.replicate 5 (.g true)) xn (oc (dec_t ht3) (oc (rfl : Value.bool true = .bool true) (oc (rfl : Value.bool true = .bool true) (oc (rfl : Value.bool true = .bool true) (oc (rfl : Value.bool true = .bool true) on))))) (by kernel_rfl) fun w7 hA9 => ?_
          clear hA; have hA := hA9; clear hA9
          have hB9 : totB ss = false := by unfold totB; rw [within_no (lo := 0) (hi := 1099511627776) (xs := ss) (i := i) (by omega) (by omega)]; rfl
          refine leave hA (by kernel_rfl) fun hA9 => ?_
          clear hA; have hA := hA9; clear hA9
          refine runS hA 2 [] xn on (by kernel_rfl) fun w8 hA9 => ?_
          clear hA; have hA := hA9; clear hA9
          exact ret (v := .int .i64 3) hA [] (by kernel_rfl) ⟨by rw [hst, hB9]; rfl, hA.below⟩
        case neg =>
          refine runS hA 8 [.g false, .g false, .g false, .i, .g false, .x (.int .i64 (ss[i]?.getD 0)), .g false, .t 0] (xc (a := ⟨b, off + i * 1, none⟩) ⟨Nat.lt_of_lt_of_le hlb hB, k0⟩ xn) (oc (dec_f ht3) (oc (rfl : Value.bool false = .bool false) (oc (rfl : Value.bool false = .bool false) (oc (show (0 : Int) ≤ ((i : Int) : Int) ∧ ((i : Int) : Int) < (n2 : Int) by omega) (oc (rfl : Value.bool false = .bool false) (oc (rfl : Value.bool false = .bool false) on)))))) (by kernel_rfl) fun w7 hA9 => ?_
          clear hA; have hA := hA9; clear hA9
          by_cases ht4 : ((ss[i]?.getD 0) : Int) > (1099511627776 : Int)
          case pos =>
            refine runS hA 10 [.b true] xn (oc (dec_t ht4) on) (by kernel_rfl) fun w8 hA9 => ?_
            clear hA; have hA := hA9; clear hA9
            have hB9 : totB ss = false := by unfold totB; rw [within_no (lo := 0) (hi := 1099511627776) (xs := ss) (i := i) (by omega) (by omega)]; rfl
            refine leave hA (by kernel_rfl) fun hA9 => ?_
            clear hA; have hA := hA9; clear hA9
            refine runS hA 2 [] xn on (by kernel_rfl) fun w9 hA9 => ?_
            clear hA; have hA := hA9; clear hA9
            exact ret (v := .int .i64 3) hA [] (by kernel_rfl) ⟨by rw [hst, hB9]; rfl, hA.below⟩
          case neg =>
            refine runS hA 19 [.b false, .i, .x (.int .i64 (ss[i]?.getD 0)), .v (.int .i64 ((sumP ss i) + (ss[i]?.getD 0))), .v (.int .i64 ((i : Int) + 1))] (xc (a := ⟨b, off + i * 1, none⟩) ⟨Nat.lt_of_lt_of_le hlb hB, k0⟩ xn) (oc (dec_f ht4) (oc (show (0 : Int) ≤ ((i : Int) : Int) ∧ ((i : Int) : Int) < (n2 : Int) by omega) (oc (show Value.int .i64 (IntKind.i64.wrap ((sumP ss i) + (ss[i]?.getD 0))) = .int .i64 ((sumP ss i) + (ss[i]?.getD 0)) from wrp (by omega)) (oc (show Value.int .i64 (IntKind.i64.wrap ((i : Int) + 1)) = .int .i64 ((i : Int) + 1) from wrp (by omega)) on)))) (by kernel_rfl) fun w8 hA9 => ?_
            clear hA; have hA := hA9; clear hA9
            refine revals hA (rc 5 (show .int .i64 ((sumP ss i) + (ss[i]?.getD 0)) = .int .i64 (sumP ss (i + 1)) by rw [hsp]) rn) (by kernel_rfl) fun hA9 => ?_
            clear hA; have hA := hA9; clear hA9
            refine revals hA (rc 6 (show .int .i64 ((i : Int) + 1) = .int .i64 ((i + 1 : Nat) : Int) by rw [show ((i + 1 : Nat) : Int) = (i : Int) + 1 by omega]) rn) (by kernel_rfl) fun hA9 => ?_
            clear hA; have hA := hA9; clear hA9
            exact again hJ (n2 - (i + 1)) (i + 1) [true] hA (by omega) (by kernel_rfl) (⟨by omega, rfl, fun j hj => by rcases Nat.lt_succ_iff_lt_or_eq.1 hj with h9 | h9; exact hal j h9; rw [h9]; omega, by omega, by omega⟩)
      case neg =>
        refine runS hA 12 [.b false] xn (oc (dec_f (show ¬ ((i : Int) < (n2 : Int)) by omega)) on) (by kernel_rfl) fun w6 hA9 => ?_
        clear hA; have hA := hA9; clear hA9
        refine leave hA (by kernel_rfl) fun hA9 => ?_
        clear hA; have hA := hA9; clear hA9
        have hie : i = ss.length := by omega
        have hwi : withinF 0 1099511627776 ss = true := within_yes fun j hj => hal j (by omega)
        have hta : totA ss = sumP ss i := by unfold totA; rw [if_pos hwi, hie]
        have htb : totB ss = decide (1 ≤ sumP ss i ∧ sumP ss i ≤ 1099511627776) := by unfold totB; rw [hwi, Bool.true_and, ← hie]
        refine runS hA 8 [.t 0] xn on (by kernel_rfl) fun w7 hA9 => ?_
        clear hA; have hA := hA9; clear hA9
        by_cases ht5 : ((sumP ss i) : Int) < (1 : Int)
        case pos =>
          refine runS hA 13 [.g true, .g true] xn (oc (dec_t ht5) (oc (rfl : Value.bool true = .bool true) on)) (by kernel_rfl) fun w8 hA9 => ?_
          clear hA; have hA := hA9; clear hA9
          exact ret (v := .int .i64 3) hA [] (by kernel_rfl) ⟨by rw [hst, htb, decide_eq_false (by omega)]; rfl, hA.below⟩
        case neg =>
          refine runS hA 5 [.g false, .g false, .t 0] xn (oc (dec_f ht5) (oc (rfl : Value.bool false = .bool false) on)) (by kernel_rfl) fun w8 hA9 => ?_
          clear hA; have hA := hA9; clear hA9
          by_cases ht6 : ((sumP ss i) : Int) > (1099511627776 : Int)
          case pos =>
            refine runS hA 8 [.b true] xn (oc (dec_t ht6) on) (by kernel_rfl) fun w9 hA9 => ?_
            clear hA; have hA := hA9; clear hA9
            exact ret (v := .int .i64 3) hA [] (by kernel_rfl) ⟨by rw [hst, htb, decide_eq_false (by omega)]; rfl, hA.below⟩
          case neg =>
            refine runS hA 10 [.b false] xn (oc (dec_f ht6) on) (by kernel_rfl) fun w9 hA9 => ?_
            clear hA; have hA := hA9; clear hA9
            have hst2 : ccE m qs ss = if (qs.any (unfF ss (sumP ss i))) = true then 20 else 0 := by rw [hst, htb, decide_eq_true (by omega), hta]; rfl
            refine loop (γ := Nat) (fun k => [(1, .slice A2 n2 c2), (2, .pointer (some ⟨w.heap.size, 0, none⟩)), (5, .int .i64 (sumP ss i)), (6, .int .i64 (i : Int)), (7, .int .i64 (k : Int))]) (fun k => [⟨w.heap.size, .cells #[.int .i64 m, .slice A n c] 44 (0, 0)⟩]) (fun _ => []) (fun g k wt => k ≤ n ∧ g = n - k ∧ ∀ j, j < k → unfF ss (sumP ss i) (qs[j]?.getD noQ) = false) n 0 [true] hA (by kernel_rfl) (⟨by omega, rfl, fun j hj => absurd hj (Nat.not_lt_zero _)⟩) ?_
            rintro _ k wt ⟨hk, rfl, hbe⟩ J2 hJ2 hA
            by_cases hlk : k < n
            case neg =>
              refine runS hA 13 [.k 0, .b false] xn (oc (dec_f (show ¬ ((k : Int) < (n : Int)) by omega)) on) (by kernel_rfl) fun w10 hA9 => ?_
              clear hA; have hA := hA9; clear hA9
              refine leave hA (by kernel_rfl) fun hA9 => ?_
              clear hA; have hA := hA9; clear hA9
              refine runS hA 8 [] xn on (by kernel_rfl) fun w11 hA9 => ?_
              clear hA; have hA := hA9; clear hA9
              exact ret (v := .int .i64 0) hA [] (by kernel_rfl) ⟨by rw [hst2, all_get fun j hj => hbe j (by omega)]; rfl, hA.below⟩
            case pos =>
              have hq9 := hx.at (hlk)
              obtain ⟨b, off, rfl, hlb, hcb⟩ := hq9
              have k0 := hcb 0 _ rfl
              have k1 := hcb 1 _ rfl
              have k2 := hcb 2 _ rfl
              have k3 := hcb 3 _ rfl
              have hqv := V.all _ (get_mem (d := noQ) (show k < qs.length by omega))
              have hq9 : ∃ p : Nat, (qs[k]?.getD noQ).r = (p : Int) := ⟨(qs[k]?.getD noQ).r.toNat, by omega⟩
              obtain ⟨p, hp⟩ := hq9
              have hpt : (qs[k]?.getD noQ).r.toNat = p := by omega
              have hpl : p < n2 := by omega
              have hcp := hal p (by omega)
              have hcd := cd_bd (s := sumP ss i) hcp (by omega) hqv.2.1 hqv.2.2
              have hk0 : w.cell? ⟨b, off + k * 4 + 0, none⟩ = some (.int .i64 (p : Int)) := by rw [k0, hp]
              have hq9 := hs.at (hpl)
              obtain ⟨b2, off2, rfl, hlb2, hcb2⟩ := hq9
              have s0 := hcb2 0 _ rfl
              refine runS hA 27 ([.k 0, .b true, .k 0, .i, .x (.int .i64 (p : Int)), .x (.int .i64 ((qs[k]?.getD noQ).n)), .x (.int .i64 ((qs[k]?.getD noQ).d)), .x (.bool ((qs[k]?.getD noQ).lay))] ++ List.replicate 4 (.k 1)) (xc (a := ⟨b, off + k * 4, none⟩) ⟨Nat.lt_of_lt_of_le hlb hB, hk0⟩ (xc (a := ⟨b, off + k * 4 + 1, none⟩) ⟨Nat.lt_of_lt_of_le hlb hB, k1⟩ (xc (a := ⟨b, off + k * 4 + 2, none⟩) ⟨Nat.lt_of_lt_of_le hlb hB, k2⟩ (xc (a := ⟨b, off + k * 4 + 3, none⟩) ⟨Nat.lt_of_lt_of_le hlb hB, k3⟩ xn)))) (oc (dec_t (show (k : Int) < (n : Int) by omega)) (oc (show (0 : Int) ≤ ((k : Int) : Int) ∧ ((k : Int) : Int) < (n : Int) by omega) on)) (by kernel_rfl) fun w10 hA9 => ?_
              clear hA; have hA := hA9; clear hA9
              refine draw hA [true, true] [0, 1, 2, 3, 4, 5, 6, 7, 8, 9, 10, 11, 12, 13, 14, 15, 16] (by kernel_rfl) (by kernel_rfl) fun hA9 => ?_
              clear hA; have hA := hA9; clear hA9
              refine runS hA 25 [.t 0, .t 1, .t 2, .k 1, .t 3, .i, .t 4, .x (.int .i64 (ss[p]?.getD 0)), .t 5, .t 6, .k 1, .t 7, .t 8, .k 1, .t 9, .v (.int .i64 (((qs[k]?.getD noQ).d) + ((qs[k]?.getD noQ).n))), .t 10, .v (.int .i64 ((ss[p]?.getD 0) * (((qs[k]?.getD noQ).d) + ((qs[k]?.getD noQ).n)))), .t 11, .t 12, .t 13, .k 1, .t 14, .v (.int .i64 ((sumP ss i) * ((qs[k]?.getD noQ).d))), .t 15, .t 16, .b true, .k 1, .t 0] (xc (a := ⟨b2, off2 + p * 1, none⟩) ⟨Nat.lt_of_lt_of_le hlb2 hB, s0⟩ xn) (oc (show (0 : Int) ≤ ((p : Int) : Int) ∧ ((p : Int) : Int) < (n2 : Int) by omega) (oc (show Value.int .i64 (IntKind.i64.wrap (((qs[k]?.getD noQ).d) + ((qs[k]?.getD noQ).n))) = .int .i64 (((qs[k]?.getD noQ).d) + ((qs[k]?.getD noQ).n)) from wrp (by omega)) (oc (show Value.int .i64 (IntKind.i64.wrap ((ss[p]?.getD 0) * (((qs[k]?.getD noQ).d) + ((qs[k]?.getD noQ).n)))) = .int .i64 ((ss[p]?.getD 0) * (((qs[k]?.getD noQ).d) + ((qs[k]?.getD noQ).n))) from wrp (by omega)) (oc (show Value.int .i64 (IntKind.i64.wrap ((sumP ss i) * ((qs[k]?.getD noQ).d))) = .int .i64 ((sumP ss i) * ((qs[k]?.getD noQ).d)) from wrp (by omega)) on)))) (by kernel_rfl) fun w11 hA9 => ?_
              clear hA; have hA := hA9; clear hA9
              have hul := unf_lay (cs := ss) (sum := sumP ss i) (q := (qs[k]?.getD noQ)) (by omega) (by omega)
              have huo := unf_on (cs := ss) (sum := sumP ss i) (q := (qs[k]?.getD noQ)) (by omega) (by omega)
              rw [hpt] at hul huo
              have hq9 := Bool.eq_false_or_eq_true (((qs[k]?.getD noQ).lay))
              rcases hq9 with ht7 | ht7
              ·
                refine runS hA 8 (List.replicate 5 (.g false) ++ [.k 1, .g false, .t 0]) xn (oc (show Value.bool (!((qs[k]?.getD noQ).lay)) = .bool false by rw [ht7] <;> rfl) (oc (rfl : Value.bool false = .bool false) (oc (rfl : Value.bool false = .bool false) (oc (rfl : Value.bool false = .bool false) (oc (rfl : Value.bool false = .bool false) (oc (rfl : Value.bool false = .bool false) on)))))) (by kernel_rfl) fun w12 hA9 => ?_
                clear hA; have hA := hA9; clear hA9
                have hq9 := Bool.eq_false_or_eq_true ((qs[k]?.getD noQ).lay)
                rcases hq9 with ht8 | ht8
                ·
                  refine runS hA 7 [.g true, .g true, .g true, .g false, .t 0] xn (oc (show Value.bool ((qs[k]?.getD noQ).lay) = .bool true by rw [ht8] <;> rfl) (oc (rfl : Value.bool true = .bool true) (oc (rfl : Value.bool true = .bool true) (oc (rfl : Value.bool false = .bool false) on)))) (by kernel_rfl) fun w13 hA9 => ?_
                  clear hA; have hA := hA9; clear hA9
                  by_cases ht9 : ((ss[p]?.getD 0) * (((qs[k]?.getD noQ).d) + ((qs[k]?.getD noQ).n)) : Int) < ((sumP ss i) * ((qs[k]?.getD noQ).d) : Int)
                  case pos =>
                    refine runS hA 9 [.b true] xn (oc (dec_t ht9) on) (by kernel_rfl) fun w14 hA9 => ?_
                    clear hA; have hA := hA9; clear hA9
                    have hB : unfF ss (sumP ss i) (qs[k]?.getD noQ) = true := by rw [hul ht7, decide_eq_true ht9]
                    refine leave hA (by kernel_rfl) fun hA9 => ?_
                    clear hA; have hA := hA9; clear hA9
                    refine runS hA 2 [] xn on (by kernel_rfl) fun w15 hA9 => ?_
                    clear hA; have hA := hA9; clear hA9
                    exact ret (v := .int .i64 20) hA [] (by kernel_rfl) ⟨by rw [hst2, any_get (by omega) hB]; rfl, hA.below⟩
                  case neg =>
                    refine runS hA 9 [.b false, .v (.int .i64 ((k : Int) + 1))] xn (oc (dec_f ht9) (oc (show Value.int .i64 (IntKind.i64.wrap ((k : Int) + 1)) = .int .i64 ((k : Int) + 1) from wrp (by omega)) on)) (by kernel_rfl) fun w14 hA9 => ?_
                    clear hA; have hA := hA9; clear hA9
                    have hB : unfF ss (sumP ss i) (qs[k]?.getD noQ) = false := by rw [hul ht7, decide_eq_false ht9]
                    refine revals hA (rc 7 (show .int .i64 ((k : Int) + 1) = .int .i64 ((k + 1 : Nat) : Int) by rw [show ((k + 1 : Nat) : Int) = (k : Int) + 1 by omega]) rn) (by kernel_rfl) fun hA9 => ?_
                    clear hA; have hA := hA9; clear hA9
                    exact again hJ2 (n - (k + 1)) (k + 1) [true, false] hA (by omega) (by kernel_rfl) (⟨by omega, rfl, fun j hj => by rcases Nat.lt_succ_iff_lt_or_eq.1 hj with h9 | h9; exact hbe j h9; rw [h9]; exact hB⟩)
                ·
                  refine runS hA 16 (List.replicate 4 (.g false) ++ [.v (.int .i64 ((k : Int) + 1))]) xn (oc (show Value.bool ((qs[k]?.getD noQ).lay) = .bool false by rw [ht8] <;> rfl) (oc (rfl : Value.bool false = .bool false) (oc (rfl : Value.bool false = .bool false) (oc (rfl : Value.bool false = .bool false) (oc (show Value.int .i64 (IntKind.i64.wrap ((k : Int) + 1)) = .int .i64 ((k : Int) + 1) from wrp (by omega)) on))))) (by kernel_rfl) fun w13 hA9 => ?_
                  clear hA; have hA := hA9; clear hA9
                  exact absurd (ht7.symm.trans ht8) (by decide)
              ·
                refine runS hA 5 [.g true, .g true, .g true, .t 0] xn (oc (show Value.bool (!((qs[k]?.getD noQ).lay)) = .bool true by rw [ht7] <;> rfl) (oc (rfl : Value.bool true = .bool true) (oc (rfl : Value.bool true = .bool true) on))) (by kernel_rfl) fun w12 hA9 => ?_
                clear hA; have hA := hA9; clear hA9
                by_cases ht10 : ((ss[p]?.getD 0) * (((qs[k]?.getD noQ).d) + ((qs[k]?.getD noQ).n)) : Int) > ((sumP ss i) * ((qs[k]?.getD noQ).d) : Int)
                case pos =>
                  refine runS hA 19 (List.replicate 4 (.g true)) xn (oc (dec_t ht10) (oc (rfl : Value.bool true = .bool true) (oc (rfl : Value.bool true = .bool true) (oc (rfl : Value.bool true = .bool true) on)))) (by kernel_rfl) fun w13 hA9 => ?_
                  clear hA; have hA := hA9; clear hA9
                  have hB : unfF ss (sumP ss i) (qs[k]?.getD noQ) = true := by rw [huo ht7, decide_eq_true ht10]
                  refine leave hA (by kernel_rfl) fun hA9 => ?_
                  clear hA; have hA := hA9; clear hA9
                  refine runS hA 2 [] xn on (by kernel_rfl) fun w14 hA9 => ?_
                  clear hA; have hA := hA9; clear hA9
                  exact ret (v := .int .i64 20) hA [] (by kernel_rfl) ⟨by rw [hst2, any_get (by omega) hB]; rfl, hA.below⟩
                case neg =>
                  refine runS hA 3 [.g false, .g false, .k 1, .g false, .t 0] xn (oc (dec_f ht10) (oc (rfl : Value.bool false = .bool false) (oc (rfl : Value.bool false = .bool false) on))) (by kernel_rfl) fun w13 hA9 => ?_
                  clear hA; have hA := hA9; clear hA9
                  have hq9 := Bool.eq_false_or_eq_true ((qs[k]?.getD noQ).lay)
                  rcases hq9 with ht11 | ht11
                  ·
                    refine runS hA 7 [.g true, .g true, .g true, .g false, .t 0] xn (oc (show Value.bool ((qs[k]?.getD noQ).lay) = .bool true by rw [ht11] <;> rfl) (oc (rfl : Value.bool true = .bool true) (oc (rfl : Value.bool true = .bool true) (oc (rfl : Value.bool false = .bool false) on)))) (by kernel_rfl) fun w14 hA9 => ?_
                    clear hA; have hA := hA9; clear hA9
                    by_cases ht12 : ((ss[p]?.getD 0) * (((qs[k]?.getD noQ).d) + ((qs[k]?.getD noQ).n)) : Int) < ((sumP ss i) * ((qs[k]?.getD noQ).d) : Int)
                    case pos =>
                      refine runS hA 9 [.b true] xn (oc (dec_t ht12) on) (by kernel_rfl) fun w15 hA9 => ?_
                      clear hA; have hA := hA9; clear hA9
                      exact absurd (ht7.symm.trans ht11) (by decide)
                    case neg =>
                      refine runS hA 9 [.b false, .v (.int .i64 ((k : Int) + 1))] xn (oc (dec_f ht12) (oc (show Value.int .i64 (IntKind.i64.wrap ((k : Int) + 1)) = .int .i64 ((k : Int) + 1) from wrp (by omega)) on)) (by kernel_rfl) fun w15 hA9 => ?_
                      clear hA; have hA := hA9; clear hA9
                      exact absurd (ht7.symm.trans ht11) (by decide)
                  ·
                    refine runS hA 16 (List.replicate 4 (.g false) ++ [.v (.int .i64 ((k : Int) + 1))]) xn (oc (show Value.bool ((qs[k]?.getD noQ).lay) = .bool false by rw [ht11] <;> rfl) (oc (rfl : Value.bool false = .bool false) (oc (rfl : Value.bool false = .bool false) (oc (rfl : Value.bool false = .bool false) (oc (show Value.int .i64 (IntKind.i64.wrap ((k : Int) + 1)) = .int .i64 ((k : Int) + 1) from wrp (by omega)) on))))) (by kernel_rfl) fun w14 hA9 => ?_
                    clear hA; have hA := hA9; clear hA9
                    have hB : unfF ss (sumP ss i) (qs[k]?.getD noQ) = false := by rw [huo ht7, decide_eq_false ht10]
                    refine revals hA (rc 7 (show .int .i64 ((k : Int) + 1) = .int .i64 ((k + 1 : Nat) : Int) by rw [show ((k + 1 : Nat) : Int) = (k : Int) + 1 by omega]) rn) (by kernel_rfl) fun hA9 => ?_
                    clear hA; have hA := hA9; clear hA9
                    exact again hJ2 (n - (k + 1)) (k + 1) [true, false] hA (by omega) (by kernel_rfl) (⟨by omega, rfl, fun j hj => by rcases Nat.lt_succ_iff_lt_or_eq.1 hj with h9 | h9; exact hbe j h9; rw [h9]; exact hB⟩)
    case neg =>
      refine runS hA 8 [.b true] xn (oc (ne_t ht2) on) (by kernel_rfl) fun w5 hA9 => ?_
      clear hA; have hA := hA9; clear hA9
      exact ret (v := .int .i64 15) hA [] (by kernel_rfl) ⟨by unfold ccE; rw [if_neg (by omega), if_pos (by omega)], hA.below⟩
  case neg =>
    refine runS hA 4 [.b true, .k 0, .k 0] xn (oc (ne_t ht1) on) (by kernel_rfl) fun w4 hA9 => ?_
    clear hA; have hA := hA9; clear hA9
    refine callB hA [] on (rCheckMarket_any w4 B m A n c qs (hx.below hA.below hB) (Nat.le_trans hB hA.size)) (by kernel_rfl) fun w5 hb5 hA9 => ?_
    clear hA; have hA := hA9; clear hA9
    refine runS hA 5 [] xn on (by kernel_rfl) fun w6 hA9 => ?_
    clear hA; have hA := hA9; clear hA9
    exact ret (v := .int .i64 (mktE m qs)) hA [] (by kernel_rfl) ⟨by unfold ccE; rw [if_pos ht1], hA.below⟩
end Go.Proofs.Ytfidkgpimlpdbaa
