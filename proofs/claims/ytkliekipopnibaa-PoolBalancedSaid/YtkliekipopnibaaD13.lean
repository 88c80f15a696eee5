/- PoolBalanced answers true whatever the book and the numbers of the finish; the arguments read behind the call as they did. No condition. -/
import Derived.Test.YtkliekipopnibaaF12
import Derived.Test.YtkliekipopnibaaRows
import Derived.WalkKit
import Derived.ProofKit
import Derived.OpenShut
import Derived.Carry
import Derived.Deep.Slices
import Derived.ChangeSame

/- law of pool: PoolBalanced. -/
namespace Go.Proofs.Ytkliekipopnibaa
open Go.RowKit Go.Shelf

set_option maxHeartbeats 4000000 in
set_option maxRecDepth 20000 in
theorem PoolBalanced_any (w : World) (B : Nat) (b : Bk) (A : Option Addr) (n c : Nat) (A2 : Option Addr) (m c2 : Nat) (A3 : Option Addr) (ny cy : Nat) (ys : List Int) (h : BkAt w B b A n c A2 m c2) (hy : U8At w B A3 ny ys) (hB : B ≤ w.heap.size) : Calls Try.prog 5 #[bkV b A n c A2 m c2, .slice A3 ny cy] w fun e w' => e = .returned (.bool true) ∧ Below w.heap.size w w' := by
  refine enter 173 Try.func5 (by kernel_rfl) fun hA => ?_
  refine runS hA 10 (List.replicate 8 (.k 0)) xn on (by kernel_rfl) fun w1 hA => ?_
  have hbl := h.bets.1
  have hxl := h.scr.1
  have hyl := hy.1
  refine callB hA [] on (fine_any w1 B b A n c A2 m c2 (h.below hA.below hB) (Nat.le_trans hB hA.size)) (by kernel_rfl) fun w2 hb2 hA => ?_
  by_cases hfi : ¬ (110 < n ∨ 20 < m) ∧ bookF b = 0
  case neg =>
    refine revals hA (rc 14 (show .bool (decide (¬ (110 < n ∨ 20 < m) ∧ bookF b = 0)) = .bool false by rw [decide_eq_false hfi]) rn) (by kernel_rfl) fun hA => ?_
    refine runS hA 11 [.g true, .g true, .g true] xn (oc (rfl : Value.bool true = .bool true) (oc (rfl : Value.bool true = .bool true) (oc (rfl : Value.bool true = .bool true) on))) (by kernel_rfl) fun w3 hA => ?_
    refine callB hA [] on (Works_any w3) (by kernel_rfl) fun w4 hb4 hA => ?_
    refine runS hA 5 [] xn on (by kernel_rfl) fun w5 hA => ?_
    exact ret (v := .bool true) hA [] (by kernel_rfl) ⟨rfl, hA.below⟩
  case pos =>
    obtain ⟨hgr, h0⟩ := hfi
    have V := valid_of h0
    have hv1 := V.run
    have hv2 := V.len
    refine revals hA (rc 14 (show .bool (decide (¬ (110 < n ∨ 20 < m) ∧ bookF b = 0)) = .bool true by rw [decide_eq_true ⟨hgr, h0⟩]) rn) (by kernel_rfl) fun hA => ?_
    refine runS hA 5 [.g false, .g false, .g false] xn (oc (rfl : Value.bool false = .bool false) (oc (rfl : Value.bool false = .bool false) (oc (rfl : Value.bool false = .bool false) on))) (by kernel_rfl) fun w3 hA => ?_
    by_cases h20 : (ny : Int) > 20
    case pos =>
      refine revals hA (rc 19 (dec_t h20) rn) (by kernel_rfl) fun hA => ?_
      refine runS hA 6 [] xn on (by kernel_rfl) fun w4 hA => ?_
      refine callB hA [] on (Works_any w4) (by kernel_rfl) fun w5 hb5 hA => ?_
      refine runS hA 5 [] xn on (by kernel_rfl) fun w6 hA => ?_
      exact ret (v := .bool true) hA [] (by kernel_rfl) ⟨rfl, hA.below⟩
    case neg =>
      refine revals hA (rc 19 (dec_f h20) rn) (by kernel_rfl) fun hA => ?_
      refine runS hA 10 (List.replicate 8 (.k 0)) xn on (by kernel_rfl) fun w4 hA => ?_
      have hApf := hA.atK [⟨w.heap.size, .cells #[.int .i64 b.kind, .int .i64 b.runners, .slice A n c, .slice A2 m c2, .bool b.fav, .int .i64 b.car, .int .i64 b.dut, .int .i64 b.stp] 25 (0, 0)⟩] (by kernel_rfl)
      refine call hA [] on (Finish_any w4 B b A n c A2 m c2 A3 ny cy ys (h.below hA.below hB) (hy.below hA.below hB) (Nat.le_trans hB hA.size) V) (by kernel_rfl) (by rintro e v ⟨Af, cf, ob, rfl, hbf, hof, hfk⟩; exact hbf) ?_
      rintro e w5 ⟨Af, cf, ob, rfl, hbf, hof, hfk⟩
      refine ⟨_, rfl, fun hA => ?_⟩
      have hA2f := At.ownL hApf hbf hof
      refine reknow ⟨[⟨w.heap.size, .cells #[.int .i64 b.kind, .int .i64 b.runners, .slice A n c, .slice A2 m c2, .bool b.fav, .int .i64 b.car, .int .i64 b.dut, .int .i64 b.stp] 25 (0, 0)⟩], w5.heap.size, [], [], [], [], []⟩ hA2f (Nat.zero_le _) fun hA => ?_
      have hfin := finL_isFin V ys
      have hat0 := finL_at h0 ys
      refine runS hA 7 (List.replicate 8 (.k 0)) xn on (by kernel_rfl) fun w6 hA => ?_
      obtain ⟨a, ha⟩ : ∃ a, a = AccountF b (finL b ys 8) := ⟨_, rfl⟩
      obtain ⟨ha0, ha1, ⟨ha2, ha3, ha4, ha5, ha6⟩, ha7, ha8, ha9⟩ := acc_facts h0 hfin ha
      have hP := Account_any w6 w6.heap.size b A n c A2 m c2 Af (finL b ys 8).length cf (finL b ys 8) ((h.below hA.below hB).more (Nat.le_trans hB hA.size)) (hfk _ (fun kb hk => hA.at_.rok kb (List.mem_append_left _ hk))) (Nat.le_refl _)
      rw [← ha, hat0] at hP
      refine callB hA [] on (hP) (by kernel_rfl) fun w7 hb7 hA => ?_
      refine runS hA 95 (List.replicate 6 (.k 1) ++ [.g false, .g false, .k 1, .g false, .g false, .g false, .k 1, .g false, .g false, .g false, .k 1, .g false, .g false, .g false, .k 1, .g false, .g false, .g false, .k 1, .g false, .g false, .g false, .k 1, .g false, .g false, .g false, .k 1, .g false, .g false, .k 1, .g false, .g false, .g false, .k 1, .g false, .g false, .k 1, .g false, .g false, .g false, .k 1, .g false, .g false, .k 1, .g false, .g false, .g false, .k 1, .g false, .g false, .k 1, .g false, .g false, .g false, .k 1, .g false, .g false, .k 1, .g false, .g false, .g false, .k 1, .g false, .g false, .k 1, .g false, .g false, .k 1, .g false, .g false, .g false, .k 1, .g false, .g false, .g false, .k 1, .g false, .g false, .g false, .k 1, .g false]) xn (oc (rfl : Value.bool false = .bool false) (oc (rfl : Value.bool false = .bool false) (oc (rfl : Value.bool false = .bool false) (oc (dec_f (show ¬ ((a.back : Int) < (0 : Int)) by omega)) (oc (rfl : Value.bool false = .bool false) (oc (rfl : Value.bool false = .bool false) (oc (dec_f (show ¬ ((a.duty : Int) < (0 : Int)) by omega)) (oc (rfl : Value.bool false = .bool false) (oc (rfl : Value.bool false = .bool false) (oc (dec_f (show ¬ ((a.paid : Int) < (0 : Int)) by omega)) (oc (rfl : Value.bool false = .bool false) (oc (rfl : Value.bool false = .bool false) (oc (dec_f (show ¬ ((a.kept : Int) < (0 : Int)) by omega)) (oc (rfl : Value.bool false = .bool false) (oc (rfl : Value.bool false = .bool false) (oc (dec_f (show ¬ ((a.over : Int) < (0 : Int)) by omega)) (oc (rfl : Value.bool false = .bool false) (oc (rfl : Value.bool false = .bool false) (oc (dec_f (show ¬ ((a.inn : Int) > (20000000 : Int)) by omega)) (oc (rfl : Value.bool false = .bool false) (oc (rfl : Value.bool false = .bool false) (oc (rfl : Value.bool false = .bool false) (oc (rfl : Value.bool false = .bool false) (oc (dec_f (show ¬ ((a.back : Int) > (a.inn : Int)) by omega)) (oc (rfl : Value.bool false = .bool false) (oc (rfl : Value.bool false = .bool false) (oc (rfl : Value.bool false = .bool false) (oc (rfl : Value.bool false = .bool false) (oc (dec_f (show ¬ ((a.duty : Int) > (a.inn : Int)) by omega)) (oc (rfl : Value.bool false = .bool false) (oc (rfl : Value.bool false = .bool false) (oc (rfl : Value.bool false = .bool false) (oc (rfl : Value.bool false = .bool false) (oc (dec_f (show ¬ ((a.paid : Int) > (a.inn : Int)) by omega)) (oc (rfl : Value.bool false = .bool false) (oc (rfl : Value.bool false = .bool false) (oc (rfl : Value.bool false = .bool false) (oc (rfl : Value.bool false = .bool false) (oc (dec_f (show ¬ ((a.kept : Int) > (a.inn : Int)) by omega)) (oc (rfl : Value.bool false = .bool false) (oc (rfl : Value.bool false = .bool false) (oc (rfl : Value.bool false = .bool false) (oc (rfl : Value.bool false = .bool false) (oc (dec_f (show ¬ ((a.over : Int) > (a.inn : Int)) by omega)) (oc (rfl : Value.bool false = .bool false) (oc (rfl : Value.bool false = .bool false) (oc (rfl : Value.bool false = .bool false) (oc (rfl : Value.bool false = .bool false) (oc (rfl : Value.bool false = .bool false) (oc (rfl : Value.bool false = .bool false) (oc (rfl : Value.bool false = .bool false) (oc (rfl : Value.bool false = .bool false) (oc (rfl : Value.bool false = .bool false) (oc (rfl : Value.bool false = .bool false) (oc (rfl : Value.bool false = .bool false) (oc (rfl : Value.bool false = .bool false) (oc (rfl : Value.bool false = .bool false) (oc (rfl : Value.bool false = .bool false) (oc (rfl : Value.bool false = .bool false) on))))))))))))))))))))))))))))))))))))))))))))))))))))))))))) (by kernel_rfl) fun w8 hA => ?_
      refine revals hA (rc 114 (show .int .i64 (IntKind.i64.wrap ((IntKind.i64.wrap ((IntKind.i64.wrap ((IntKind.i64.wrap (a.back + a.duty)) + a.paid)) + a.kept)) + a.over)) = .int .i64 a.inn by simp only [IntKind.wrap_i64]; congr 1; omega) rn) (by kernel_rfl) fun hA => ?_
      refine runS hA 22 [.g false, .b false, .k 0] xn (oc (rfl : Value.bool false = .bool false) (oc (ne_f (a := a.inn) (b := a.inn) rfl) on)) (by kernel_rfl) fun w9 hA => ?_
      refine revals hA (rc 8 (show .int .i64 b.car = .int .i64 (sumF allB (b.bets.take 0) * 100 + b.car) by rw [List.take_zero]; simp [sumF]) rn) (by kernel_rfl) fun hA => ?_
      refine loop (γ := Nat) (fun i => [(2, .pointer (some ⟨w.heap.size, 0, none⟩)), (5, .slice Af ((finL b ys 8).length) cf), (6, .pointer (some ⟨w7.heap.size, 0, none⟩)), (8, .int .i64 (sumF allB (b.bets.take i) * 100 + b.car)), (9, .int .i64 (paL b (finL b ys 8) (b.bets.take i))), (10, .int .i64 (i : Int))]) (fun i => [⟨w.heap.size, .cells #[.int .i64 b.kind, .int .i64 b.runners, .slice A n c, .slice A2 m c2, .bool b.fav, .int .i64 b.car, .int .i64 b.dut, .int .i64 b.stp] 25 (0, 0)⟩, ⟨w7.heap.size, .cells #[.int .i64 a.inn, .int .i64 a.back, .int .i64 a.duty, .int .i64 a.paid, .int .i64 a.kept, .int .i64 a.over] 47 (0, 0)⟩]) (fun _ => ob ++ ([])) (fun g i wr => i ≤ n ∧ g = n - i) n 0 [true, true] hA (by kernel_rfl) (⟨Nat.zero_le _, rfl⟩) ?_
      rintro _ i wr ⟨hi, rfl⟩ J hJ hA
      have hpb := paL_bound (fs := (finL b ys 8)) V i
      by_cases hlt : i < n
      case neg =>
        have hin : i = b.bets.length := by omega
        refine runS hA 13 [.k 0, .b false] xn (oc (dec_f (show ¬ (((i : Int) : Int) < (n : Int)) by omega)) on) (by kernel_rfl) fun w10 hA => ?_
        refine leave hA (by kernel_rfl) fun hA => ?_
        refine revals hA (rc 8 (show .int .i64 (sumF allB (b.bets.take i) * 100 + b.car) = .int .i64 a.inn by rw [hin, List.take_length, ha1]) (rc 9 (show .int .i64 (paL b (finL b ys 8) (b.bets.take i)) = .int .i64 (paL b (finL b ys 8) b.bets) by rw [hin, List.take_length]) rn)) (by kernel_rfl) fun hA => ?_
        refine runS hA 8 [.k 1] xn on (by kernel_rfl) fun w11 hA => ?_
        refine revals hA (rc 160 (eq_t (a := a.inn) (b := a.inn) rfl) rn) (by kernel_rfl) fun hA => ?_
        refine runS hA 7 [.g true, .g true, .g true, .k 1, .g true, .g true, .k 1, .g true] xn (oc (rfl : Value.bool true = .bool true) (oc (rfl : Value.bool true = .bool true) (oc (rfl : Value.bool true = .bool true) (oc (rfl : Value.bool true = .bool true) (oc (rfl : Value.bool true = .bool true) (oc (rfl : Value.bool true = .bool true) on)))))) (by kernel_rfl) fun w12 hA => ?_
        refine revals hA (rc 167 (show .int .i64 (IntKind.i64.wrap (a.back + a.paid)) = .int .i64 (paL b (finL b ys 8) b.bets) by rw [← ha9, IntKind.wrap_i64]; congr 1; omega) rn) (by kernel_rfl) fun hA => ?_
        refine runS hA 1 [.g true] xn (oc (rfl : Value.bool true = .bool true) on) (by kernel_rfl) fun w13 hA => ?_
        refine revals hA (rc 168 (eq_t (a := paL b (finL b ys 8) b.bets) (b := paL b (finL b ys 8) b.bets) rfl) rn) (by kernel_rfl) fun hA => ?_
        refine runS hA 2 [] xn on (by kernel_rfl) fun w14 hA => ?_
        refine callB hA [] on (Works_any w14) (by kernel_rfl) fun w15 hb15 hA => ?_
        refine runS hA 5 [] xn on (by kernel_rfl) fun w16 hA => ?_
        exact ret (v := .bool true) hA [] (by kernel_rfl) ⟨rfl, hA.below⟩
      case pos =>
        have hxm : (b.bets[i]?.getD noBet) ∈ b.bets := get_mem (by omega)
        obtain ⟨p, hp⟩ : ∃ p, p = (if okT (tilF b) (b.bets[i]?.getD noBet) = true then dvF (tilF b) (finL b ys 8) (spX (tilF b) (b.bets[i]?.getD noBet)) * (b.bets[i]?.getD noBet).units else 100 * (b.bets[i]?.getD noBet).units) := ⟨_, rfl⟩
        have hpo := pay_one (fs := (finL b ys 8)) V hxm
        rw [← hp] at hpo
        obtain ⟨hpe1, hpe2⟩ := pay_eq h0 hfin (i := i) (by omega)
        rw [← hp] at hpe2
        have hpt := paL_take (fs := (finL b ys 8)) (k := i) (x := (b.bets[i]?.getD noBet)) (by omega) rfl
        rw [← hp] at hpt
        have hpb1 := paL_bound (fs := (finL b ys 8)) V (i + 1)
        have hst := sumF_take allB b.bets (k := i) (x := (b.bets[i]?.getD noBet)) (by omega) rfl
        rw [if_pos (show allB (b.bets[i]?.getD noBet) = true from rfl)] at hst
        have hsb := sumF_bound allB (b.bets.take (i + 1)) (fun x hx => units_ok V x (List.mem_of_mem_take hx))
        have hsb0 := sumF_bound allB (b.bets.take i) (fun x hx => units_ok V x (List.mem_of_mem_take hx))
        have hux := units_ok V _ hxm
        have htl : (b.bets.take (i + 1)).length ≤ 100 ∧ (b.bets.take i).length ≤ 100 := by rw [List.length_take, List.length_take]; omega
        have hcar := V.car
        obtain ⟨b1, off, rfl, hb1, k0, k1, k2⟩ := h.bets.at hlt
        have hlb1 : b1 < w.heap.size := Nat.lt_of_lt_of_le hb1 hB
        refine runS hA 20 ([.k 0, .b true] ++ List.replicate 8 (.k 0)) xn (oc (dec_t (show (((i : Int) : Int) < (n : Int)) by omega)) on) (by kernel_rfl) fun w10 hA => ?_
        have hP := Pay_any w10 w10.heap.size b (some ⟨b1, off, none⟩) n c A2 m c2 Af (finL b ys 8).length cf (finL b ys 8) ((h.below hA.below hB).more (Nat.le_trans hB hA.size)) (hfk _ (fun kb hk => hA.at_.rok kb (List.mem_append_left _ hk))) (Nat.le_refl _) (i : Int)
        rw [hpe1, hpe2] at hP
        refine callB hA [] on (hP) (by kernel_rfl) fun w11 hb11 hA => ?_
        refine runS hA 54 (List.replicate 5 (.g false) ++ [.k 1, .g false, .b false, .k 0, .i, .x (.int .i64 ((b.bets[i]?.getD noBet).units))]) (xc (a := ⟨b1, off + i * 3 + 2, none⟩) ⟨hlb1, k2⟩ xn) (oc (rfl : Value.bool false = .bool false) (oc (rfl : Value.bool false = .bool false) (oc (dec_f (show ¬ ((p : Int) < (0 : Int)) by omega)) (oc (rfl : Value.bool false = .bool false) (oc (rfl : Value.bool false = .bool false) (oc (rfl : Value.bool false = .bool false) (oc (dec_f (show ¬ ((p : Int) > (a.inn : Int)) by omega)) (oc (show (0 : Int) ≤ ((i : Int) : Int) ∧ ((i : Int) : Int) < (n : Int) by omega) on)))))))) (by kernel_rfl) fun w12 hA => ?_
        refine revals hA (rc 8 (show .int .i64 (IntKind.i64.wrap ((sumF allB (b.bets.take i) * 100 + b.car) + (IntKind.i64.wrap (100 * ((b.bets[i]?.getD noBet).units))))) = .int .i64 (sumF allB (b.bets.take (i + 1)) * 100 + b.car) by rw [hst]; simp only [IntKind.wrap_i64]; congr 1; omega) (rc 9 (show .int .i64 (IntKind.i64.wrap ((paL b (finL b ys 8) (b.bets.take i)) + p)) = .int .i64 (paL b (finL b ys 8) (b.bets.take (i + 1))) by rw [hpt]; simp only [IntKind.wrap_i64]; congr 1; omega) (rc 10 (wr64 (x := (i : Int) + 1) (y := ((i + 1 : Nat) : Int)) (by omega) (by omega)) rn))) (by kernel_rfl) fun hA => ?_
        exact again hJ (n - (i + 1)) (i + 1) [true, true] hA (by omega) (by kernel_rfl) (⟨by omega, rfl⟩)
end Go.Proofs.Ytkliekipopnibaa

/- PoolBalanced answers true whatever the book and the numbers of the finish; the arguments read behind the call as they did. No condition. -/
namespace Go.Proofs.Ytkliekipopnibaa.poolBalanced
open Go.ChangeShapes Go.WideShapes Go.ChangeAt Go.RowKit

theorem own : ownKnob Try.prog.godebug = none := by kernel_rfl
theorem laidOut : laidOutB Try.prog = true := by kernel_rfl
theorem cellsInt : Try.prog.cellsOf 3 = 1 := by kernel_rfl
/-- A slice of numbers among the arguments. -/
theorem ints_arg {H : Type} {enc : TypeId × Value → H} {W : World} {fuel : Nat} {v : Value} {x : DataW H × List MemPlace} (h : DataW.trod enc Try.prog W 0 (fun _ => true) true fuel 23 [v] = some x) :
    ∃ A n c xs, v = .slice A n c ∧ n ≤ c ∧ IntsAt W W.heap.size A n xs := by
  rcases open_ints Try.underlying23 Try.underlying3 cellsInt h with ⟨hcs, -⟩ | ⟨a, n, c, zs, hcs, -, hl, hm, hz, -, hcell, -⟩
  · obtain rfl : v = .slice none 0 0 := by simpa using hcs
    exact ⟨none, 0, 0, [], rfl, Nat.le_refl _, IntsAt.nil⟩
  · obtain rfl : v = .slice (some a) n c := by simpa using hcs
    have hz : zs.length = c := by simpa using hz
    refine ⟨some a, n, c, zs.take n, rfl, hl, by rw [List.length_take]; omega, by simp only [maxLen] at hm; omega, fun h0 => ?_⟩
    obtain ⟨b, off, rfl, hc⟩ := Go.ints_at hcell (by omega)
    refine ⟨b, off, rfl, ?_, fun j hj => ?_⟩
    · rcases Nat.lt_or_ge b W.heap.size with hb | hb
      · exact hb
      · have := hc 0 (by omega)
        simp [World.cell?, Array.getElem?_eq_none hb] at this
    · rw [hc j (by omega), List.getElem?_take, if_pos hj, List.getD_eq_getElem?_getD]
theorem cellsI64 : Try.prog.cellsOf 2 = 1 := by kernel_rfl
theorem cellsBool : Try.prog.cellsOf 4 = 1 := by kernel_rfl
theorem cellsBet : Try.prog.cellsOf 53 = 3 := by kernel_rfl
theorem cellsBets : Try.prog.cellsOf 22 = 1 := by kernel_rfl
theorem cellsInts : Try.prog.cellsOf 23 = 1 := by kernel_rfl
theorem cellsBook : Try.prog.cellsOf 25 = 8 := by kernel_rfl
theorem bet_gen {H : Type} {enc : TypeId × Value → H} {P : Program} {W : World} {fuel : Nat} {T I J : TypeId} {f0 f1 f2 : Field} (ht : P.underlying T = some (.struct #[f0, f1, f2])) (hi : P.underlying I = some (.int .i64)) (hj : P.underlying J = some (.int .i64)) (cI : P.cellsOf I = 1) (cJ : P.cellsOf J = 1) (cT : P.cellsOf T = 3)
    (o0 : f0.offset = 0 ∧ f0.type = I) (o1 : f1.offset = 1 ∧ f1.type = I) (o2 : f2.offset = 2 ∧ f2.type = J) {cs : List Value} {x : DataW H × List MemPlace} (h : DataW.trod enc P W 0 (fun _ => true) true fuel T cs = some x) :
    ∃ y : Bet, cs = [.int .i64 y.first, .int .i64 y.second, .int .i64 y.units] := by
  obtain ⟨xs, m, -, -, hl, hn, hf⟩ := Go.DataW.trod_struct ht h
  rw [cT] at hl
  obtain ⟨v0, v1, v2, rfl⟩ : ∃ v0 v1 v2, cs = [v0, v1, v2] := by
    match cs, hl with
    | [a, b, c], _ => exact ⟨a, b, c, rfl⟩
  have g0 := hf 0 f0 rfl
  have g1 := hf 1 f1 rfl
  have g2 := hf 2 f2 rfl
  simp only [List.size_toArray, List.length_cons, List.length_nil] at hn
  rw [List.getElem?_eq_getElem (by omega)] at g0 g1 g2
  rw [o0.1, o0.2, cI] at g0
  rw [o1.1, o1.2, cI] at g1
  rw [o2.1, o2.2, cJ] at g2
  obtain ⟨a, e0, -, -⟩ := Go.DataW.trod_int hi g0
  obtain ⟨b, e1, -, -⟩ := Go.DataW.trod_int hi g1
  obtain ⟨c, e2, -, -⟩ := Go.DataW.trod_int hj g2
  simp at e0 e1 e2
  exact ⟨⟨a, b, c⟩, by rw [e0, e1, e2]⟩
theorem bet_arg {H : Type} {enc : TypeId × Value → H} {W : World} {fuel : Nat} {cs : List Value} {x : DataW H × List MemPlace} (h : DataW.trod enc Try.prog W 0 (fun _ => true) true fuel 53 cs = some x) :
    ∃ y : Bet, cs = [.int .i64 y.first, .int .i64 y.second, .int .i64 y.units] := bet_gen Try.underlying53 Try.underlying3 Try.underlying2 cellsInt cellsI64 cellsBet ⟨rfl, rfl⟩ ⟨rfl, rfl⟩ ⟨rfl, rfl⟩ h
/-- A slice of bets among the arguments. -/
theorem bets_arg {H : Type} {enc : TypeId × Value → H} {W : World} {fuel : Nat} {v : Value} {x : DataW H × List MemPlace} (h : DataW.trod enc Try.prog W 0 (fun _ => true) true fuel 22 [v] = some x) :
    ∃ A n c bs, v = .slice A n c ∧ n ≤ c ∧ BetsAt W W.heap.size A n bs := by
  rcases Go.Deep.open_slice Try.underlying22 h with ⟨hcs, -⟩ | ⟨a, len, cap, m, n', D, Pl, hcs, -, hl, hm, hmm, -, hel⟩
  · obtain rfl : v = .slice none 0 0 := by simpa using hcs
    exact ⟨none, 0, 0, [], rfl, Nat.le_refl _, rfl, by omega, fun h => absurd h (by omega)⟩
  · obtain rfl : v = .slice (some a) len cap := by simpa using hcs
    have hmc : m = cap := by simpa using hmm
    have each : ∀ i, i < len → ∃ y : Bet, W.cell? (a.add (i * 3)) = some (.int .i64 y.first) ∧ W.cell? (a.add (i * 3 + 1)) = some (.int .i64 y.second) ∧ W.cell? (a.add (i * 3 + 2)) = some (.int .i64 y.units) := by
      intro i hi
      obtain ⟨cs', h1, h2⟩ := hel i (by omega)
      obtain ⟨y, rfl⟩ := bet_arg h2
      rw [cellsBet] at h1
      obtain ⟨_, hlen, hcell⟩ := World.cells?_some h1
      have g0 := hcell 0 (by omega)
      have g1 := hcell 1 (by omega)
      have g2 := hcell 2 (by omega)
      rw [Go.Deep.add_add] at g0 g1 g2
      exact ⟨y, by simpa using g0, by simpa using g1, by simpa using g2⟩
    obtain ⟨fx, hfx⟩ := Go.Deep.choose_lt each
    refine ⟨some a, len, cap, (List.range len).map fx, rfl, hl, by simp, by simp only [maxLen] at hm; omega, fun h0 => ?_⟩
    obtain ⟨b, off, spot⟩ := a
    have hc0 := (hfx 0 h0).1
    have hspot : spot = none := by simpa [Addr.add] using World.cell?_spot hc0
    subst hspot
    refine ⟨b, off, rfl, ?_, fun j hj => ?_⟩
    · rcases Nat.lt_or_ge b W.heap.size with hb | hb
      · exact hb
      · simp [World.cell?, Addr.add, Array.getElem?_eq_none hb] at hc0
    · have e := hfx j hj
      rw [Go.WideShapes.add_plain, Go.WideShapes.add_plain, Go.WideShapes.add_plain] at e
      rw [List.getElem?_map, List.getElem?_range hj, Option.map_some, Option.getD_some]
      exact e
theorem book_gen {H : Type} {enc : TypeId × Value → H} {P : Program} {W : World} {fuel : Nat} {T I J S R C : TypeId} {f0 f1 f2 f3 f4 f5 f6 f7 : Field} (ht : P.underlying T = some (.struct #[f0, f1, f2, f3, f4, f5, f6, f7])) (hi : P.underlying I = some (.int .i64)) (hj : P.underlying J = some (.int .i64)) (hb : P.underlying C = some .bool)
    (cI : P.cellsOf I = 1) (cJ : P.cellsOf J = 1) (cS : P.cellsOf S = 1) (cR : P.cellsOf R = 1) (cC : P.cellsOf C = 1) (cT : P.cellsOf T = 8)
    (o0 : f0.offset = 0 ∧ f0.type = I) (o1 : f1.offset = 1 ∧ f1.type = I) (o2 : f2.offset = 2 ∧ f2.type = S) (o3 : f3.offset = 3 ∧ f3.type = R) (o4 : f4.offset = 4 ∧ f4.type = C) (o5 : f5.offset = 5 ∧ f5.type = J) (o6 : f6.offset = 6 ∧ f6.type = J) (o7 : f7.offset = 7 ∧ f7.type = J)
    {cs : Array Value} {x : DataW H × List MemPlace} (h : DataW.trod enc P W 0 (fun _ => true) true fuel T cs.toList = some x) :
    ∃ (a0 a1 : Int) (v2 v3 : Value) (a4 : Bool) (a5 a6 a7 : Int) (q : Nat) (x2 x3 : DataW H × List MemPlace), cs = #[.int .i64 a0, .int .i64 a1, v2, v3, .bool a4, .int .i64 a5, .int .i64 a6, .int .i64 a7] ∧
      DataW.trod enc P W 0 (fun _ => true) true q S [v2] = some x2 ∧ DataW.trod enc P W 0 (fun _ => true) true q R [v3] = some x3 := by
  obtain ⟨xs, q, -, -, hl, hn, hf⟩ := Go.DataW.trod_struct ht h
  rw [cT] at hl
  obtain ⟨v0, v1, v2, v3, v4, v5, v6, v7, hc⟩ : ∃ v0 v1 v2 v3 v4 v5 v6 v7, cs.toList = [v0, v1, v2, v3, v4, v5, v6, v7] := by
    generalize cs.toList = l at hl
    match l, hl with
    | [a, b, c, d, e, f, g, h], _ => exact ⟨a, b, c, d, e, f, g, h, rfl⟩
  rw [hc] at hf
  simp only [List.size_toArray, List.length_cons, List.length_nil] at hn
  have g0 := hf 0 f0 rfl
  have g1 := hf 1 f1 rfl
  have g2 := hf 2 f2 rfl
  have g3 := hf 3 f3 rfl
  have g4 := hf 4 f4 rfl
  have g5 := hf 5 f5 rfl
  have g6 := hf 6 f6 rfl
  have g7 := hf 7 f7 rfl
  rw [List.getElem?_eq_getElem (by omega)] at g0 g1 g2 g3 g4 g5 g6 g7
  rw [o0.1, o0.2, cI] at g0
  rw [o1.1, o1.2, cI] at g1
  rw [o2.1, o2.2, cS] at g2
  rw [o3.1, o3.2, cR] at g3
  rw [o4.1, o4.2, cC] at g4
  rw [o5.1, o5.2, cJ] at g5
  rw [o6.1, o6.2, cJ] at g6
  rw [o7.1, o7.2, cJ] at g7
  obtain ⟨a0, e0, -, -⟩ := Go.DataW.trod_int hi g0
  obtain ⟨a1, e1, -, -⟩ := Go.DataW.trod_int hi g1
  obtain ⟨a4, e4, -⟩ := Go.DataW.trod_bool hb g4
  obtain ⟨a5, e5, -, -⟩ := Go.DataW.trod_int hj g5
  obtain ⟨a6, e6, -, -⟩ := Go.DataW.trod_int hj g6
  obtain ⟨a7, e7, -, -⟩ := Go.DataW.trod_int hj g7
  simp at e0 e1 e4 e5 e6 e7
  refine ⟨a0, a1, v2, v3, a4, a5, a6, a7, q, _, _, ?_, by simpa using g2, by simpa using g3⟩
  apply Array.toList_inj.1
  rw [hc, e0, e1, e4, e5, e6, e7]
/-- A book among the arguments. -/
theorem book_arg {H : Type} {enc : TypeId × Value → H} {W : World} {fuel : Nat} {cs : Array Value} {x : DataW H × List MemPlace} (h : DataW.trod enc Try.prog W 0 (fun _ => true) true fuel 25 cs.toList = some x) :
    ∃ b A n c A2 m c2, cs = bkC b A n c A2 m c2 ∧ BkAt W W.heap.size b A n c A2 m c2 := by
  obtain ⟨a0, a1, v2, v3, a4, a5, a6, a7, q, x2, x3, rfl, f2, f3⟩ := book_gen Try.underlying25 Try.underlying3 Try.underlying2 Try.underlying4 cellsInt cellsI64 cellsBets cellsInts cellsBool cellsBook ⟨rfl, rfl⟩ ⟨rfl, rfl⟩ ⟨rfl, rfl⟩ ⟨rfl, rfl⟩ ⟨rfl, rfl⟩ ⟨rfl, rfl⟩ ⟨rfl, rfl⟩ ⟨rfl, rfl⟩ h
  obtain ⟨A, n, c, bs, rfl, l2, i2⟩ := bets_arg f2
  obtain ⟨A2, m, c2, ss, rfl, l3, i3⟩ := ints_arg f3
  exact ⟨⟨a0, a1, bs, ss, a4, a5, a6, a7⟩, A, n, c, A2, m, c2, rfl, i2, i3, l2, l3⟩
theorem cellsByte : Try.prog.cellsOf 5 = 1 := by kernel_rfl
/-- A slice of bytes among the arguments. -/
theorem bytes_arg {H : Type} {enc : TypeId × Value → H} {W : World} {fuel : Nat} {v : Value} {x : DataW H × List MemPlace} (h : DataW.trod enc Try.prog W 0 (fun _ => true) true fuel 44 [v] = some x) :
    ∃ A n c xs, v = .slice A n c ∧ n ≤ c ∧ U8At W W.heap.size A n xs := by
  rcases open_ints Try.underlying44 Try.underlying5 cellsByte h with ⟨hcs, -⟩ | ⟨a, n, c, zs, hcs, -, hl, hm, hz, -, hcell, hwf⟩
  · obtain rfl : v = .slice none 0 0 := by simpa using hcs
    exact ⟨none, 0, 0, [], rfl, Nat.le_refl _, rfl, by omega, fun h => absurd h (by omega)⟩
  · obtain rfl : v = .slice (some a) n c := by simpa using hcs
    have hz : zs.length = c := by simpa using hz
    refine ⟨some a, n, c, zs.take n, rfl, hl, by rw [List.length_take]; omega, by simp only [maxLen] at hm; omega, fun h0 => ?_⟩
    obtain ⟨b, off, rfl, hc⟩ := Go.ints_at hcell (by omega)
    refine ⟨b, off, rfl, ?_, fun j hj => ⟨?_, ?_⟩⟩
    · rcases Nat.lt_or_ge b W.heap.size with hb | hb
      · exact hb
      · have := hc 0 (by omega)
        simp [World.cell?, Array.getElem?_eq_none hb] at this
    · rw [hc j (by omega), List.getElem?_take, if_pos hj, List.getD_eq_getElem?_getD]
    · rw [List.getElem?_take, if_pos hj]
      exact range_u8 hwf j

/-! ### THE ROW's STEP -/
set_option maxRecDepth 100000 in
theorem lifted (os : Os) (started : os.Started) (H : Type) (enc : TypeId × Value → H) :
    ReturnsInHanded {} Try.checked os 5 .any (Rows.poolBalancedSpec.pre6 enc Try.prog Try.f5 Rows.poolBalancedRow.domain false) (Rows.poolBalancedSpec.post enc Try.prog Try.f5 false true false false) := by
  refine returnsInHanded_of_change (C := Try.checked) own started (by kernel_rfl) Try.func5
    (ChangeSpec.witness6 (enc := enc) (C := Try.checked) false ⟨#[], #[.agg #[.int .i64 0, .int .i64 0, .slice none 0 0, .slice none 0 0, .bool false, .int .i64 0, .int .i64 0, .int .i64 0], .slice none 0 0], []⟩ 8 (by kernel_rfl) (by kernel_rfl) (by kernel_rfl) (by kernel_rfl)) ?_
  intro W base args ds gs before hval0 hW hcnd _
  have hval : ∀ (j : Nat) t v, Try.f5.params[j]? = some t → args[j]? = some v → Value.okWide Try.prog W .any base t v := hval0
  have hW' := hW
  obtain ⟨p, q, hA0, hV, rfl, hfz, hnd⟩ := hW
  have hA : DataW.TrodAll enc Try.prog W 0 (fun _ => true) true Try.f5.params.toList args.toList ds p := hA0
  rw [Try.params5] at hA hval
  obtain ⟨v0, v1, d0, d1, p0, p1, rfl, rfl, rfl, h0, h1⟩ := trodAll_two hA
  obtain ⟨rfl, rfl⟩ := trodVars_none hV
  obtain ⟨cs0, rfl, -⟩ := okWide_struct Try.underlying25 (hval 0 25 v0 rfl rfl)
  obtain ⟨A1, n1, c1, rfl⟩ := okWide_slice Try.underlying44 (hval 1 44 v1 rfl rfl)
  have h0k := h0
  have h1k := h1
  obtain ⟨f0, hf0⟩ := h0
  obtain ⟨f1, hf1⟩ := h1
  obtain ⟨b0, A0, n0, c0, B0, m0, d0, e0, i0⟩ := book_arg (cs := cs0) hf0
  subst e0
  obtain ⟨A1', n1', c1', x1, e1, l1, i1⟩ := bytes_arg hf1
  cases e1
  clear hA0 hval0
  simp only [List.append_nil] at hW'
  have hlt0 : ∀ x ∈ p0, x.block < W.heap.size := fun x hx => by simpa using hW'.lt x (by simp [hx])
  have hlt1 : ∀ x ∈ p1, x.block < W.heap.size := fun x hx => by simpa using hW'.lt x (by simp [hx])
  refine (PoolBalanced_any W W.heap.size b0 A0 n0 c0 B0 m0 d0 A1 n1 c1 x1 i0 i1 (Nat.le_refl _)).mono fun e W' ⟨he, hg⟩ => ?_
  subst he
  exact ⟨_, rfl, _, _, _, [], p0 ++ p1, [], hW', trodAll_cons_mk (shut_bool Try.underlying4 _) trodAll_mk0,
    trodAll_mk2 (Below.trod laidOut (by kernel_rfl) (of_decide_eq_true (by kernel_rfl)) h0k hg hlt0) (Below.trod laidOut (by kernel_rfl) (of_decide_eq_true (by kernel_rfl)) h1k hg hlt1),
    rfl, hg.frame _, fun h => by cases h⟩

theorem over : Rows.poolBalancedRow.holds Try.pinned (OpenSpec.ofChange Rows.poolBalancedSpec) :=
  OpenClaim.holds_of_wide 5 Try.f5 rfl rfl rfl rfl rfl rfl rfl ⟨rfl, rfl, rfl, rfl, rfl⟩ rfl rfl rfl rfl rfl (by kernel_rfl) Try.func5 (by kernel_rfl)
    (of_decide_eq_true (by kernel_rfl)) (by unfold Func.isWrapper; first | (rw [if_pos (by decide +kernel)]; kernel_rfl) | (rw [if_neg (by decide +kernel)]; exact ⟨rfl, rfl⟩))
    (fun os started H enc _ => lifted os started H enc)

/-- The statement. -/
theorem proved : Rows.PoolBalancedSaid :=
  over
#print axioms proved
end Go.Proofs.Ytkliekipopnibaa.poolBalanced
