/- PoolWithin answers true whatever the book and the numbers of the finish; the arguments read behind the call as they did. No condition. -/
import Derived.Test.YtbahiemjaomdcaaK14
import Derived.Test.YtbahiemjaomdcaaRows
import Derived.WalkKit
import Derived.ProofKit
import Derived.OpenShut
import Derived.Carry
import Derived.Deep.Slices
import Derived.ChangeSame

/- law of pool: PoolWithin. -/
namespace Go.Proofs.Ytbahiemjaomdcaa
open Go.RowKit Go.Shelf

set_option maxHeartbeats 4000000 in
set_option maxRecDepth 20000 in
theorem PoolWithin_any (w : World) (B : Nat) (b : Bk) (A : Option Addr) (n c : Nat) (A2 : Option Addr) (m c2 : Nat) (A3 : Option Addr) (ny cy : Nat) (ys : List Int) (h : BkAt w B b A n c A2 m c2) (hy : U8At w B A3 ny ys) (hB : B ≤ w.heap.size) : Calls Try.prog 12 #[bkV b A n c A2 m c2, .slice A3 ny cy] w fun e w' => e = .returned (.bool true) ∧ Below w.heap.size w w' := by
  refine enter 86 Try.func12 (by kernel_rfl) fun hA => ?_
  refine runS hA 10 (List.replicate 8 (.k 0)) xn on (by kernel_rfl) fun w1 hA => ?_
  have hbl := h.bets.1
  have hxl := h.scr.1
  have hyl := hy.1
  refine callB hA [] on (fine_any w1 B b A n c A2 m c2 (h.below hA.below hB) (Nat.le_trans hB hA.size)) (by kernel_rfl) fun w2 hb2 hA => ?_
  by_cases hfi : ¬ (110 < n ∨ 20 < m) ∧ bookF b = 0
  case neg =>
    refine revals hA (rc 10 (show .bool (decide (¬ (110 < n ∨ 20 < m) ∧ bookF b = 0)) = .bool false by rw [decide_eq_false hfi]) rn) (by kernel_rfl) fun hA => ?_
    refine runS hA 16 (List.replicate 6 (.g true)) xn (oc (rfl : Value.bool true = .bool true) (oc (rfl : Value.bool true = .bool true) (oc (rfl : Value.bool true = .bool true) (oc (rfl : Value.bool true = .bool true) (oc (rfl : Value.bool true = .bool true) (oc (rfl : Value.bool true = .bool true) on)))))) (by kernel_rfl) fun w3 hA => ?_
    refine callB hA [] on (Works_any w3) (by kernel_rfl) fun w4 hb4 hA => ?_
    refine runS hA 5 [] xn on (by kernel_rfl) fun w5 hA => ?_
    exact ret (v := .bool true) hA [] (by kernel_rfl) ⟨rfl, hA.below⟩
  case pos =>
    obtain ⟨hgr, h0⟩ := hfi
    have V := valid_of h0
    have hv1 := V.run
    have hv2 := V.len
    refine revals hA (rc 10 (show .bool (decide (¬ (110 < n ∨ 20 < m) ∧ bookF b = 0)) = .bool true by rw [decide_eq_true ⟨hgr, h0⟩]) rn) (by kernel_rfl) fun hA => ?_
    refine runS hA 5 [.g false, .g false, .g false] xn (oc (rfl : Value.bool false = .bool false) (oc (rfl : Value.bool false = .bool false) (oc (rfl : Value.bool false = .bool false) on))) (by kernel_rfl) fun w3 hA => ?_
    by_cases h20 : (ny : Int) > 20
    case pos =>
      refine revals hA (rc 15 (dec_t h20) rn) (by kernel_rfl) fun hA => ?_
      refine runS hA 11 [.g true, .g true, .g true] xn (oc (rfl : Value.bool true = .bool true) (oc (rfl : Value.bool true = .bool true) (oc (rfl : Value.bool true = .bool true) on))) (by kernel_rfl) fun w4 hA => ?_
      refine callB hA [] on (Works_any w4) (by kernel_rfl) fun w5 hb5 hA => ?_
      refine runS hA 5 [] xn on (by kernel_rfl) fun w6 hA => ?_
      exact ret (v := .bool true) hA [] (by kernel_rfl) ⟨rfl, hA.below⟩
    case neg =>
      refine revals hA (rc 15 (dec_f h20) rn) (by kernel_rfl) fun hA => ?_
      refine runS hA 8 [.g false, .g false, .k 0, .g false, .t 0] xn (oc (rfl : Value.bool false = .bool false) (oc (rfl : Value.bool false = .bool false) (oc (rfl : Value.bool false = .bool false) on))) (by kernel_rfl) fun w4 hA => ?_
      by_cases h6 : b.runners > 6
      case pos =>
        refine runS hA 3 [.b true] xn (oc (dec_t (show ((b.runners : Int) > (6 : Int)) by omega)) on) (by kernel_rfl) fun w5 hA => ?_
        refine callB hA [] on (Works_any w5) (by kernel_rfl) fun w6 hb6 hA => ?_
        refine runS hA 5 [] xn on (by kernel_rfl) fun w7 hA => ?_
        exact ret (v := .bool true) hA [] (by kernel_rfl) ⟨rfl, hA.below⟩
      case neg =>
        refine runS hA 4 [.b false] xn (oc (dec_f (show ¬ ((b.runners : Int) > (6 : Int)) by omega)) on) (by kernel_rfl) fun w5 hA => ?_
        have hfin := finL_isFin V ys
        have hat0 := finL_at h0 ys
        have hq9 : ∃ FN, FN = (finL b ys 8).length := ⟨_, rfl⟩
        obtain ⟨FN, hFN⟩ := hq9
        have hq9 : ∃ a, a = AccountF b (finL b ys 8) := ⟨_, rfl⟩
        obtain ⟨a, ha⟩ := hq9
        have hla := acc_left h0 hfin
        rw [← ha] at hla
        have hsp := spread_ok h0 hfin
        have hnf := net_facts V
        have haf := acc_facts h0 hfin ha
        refine draw hA [true] [0, 1, 2, 3, 4, 5, 6, 7, 8, 9, 10] (by kernel_rfl) (by kernel_rfl) fun hA => ?_
        refine runS hA 3 ([.t 0] ++ List.replicate 8 (.k 0) ++ [.t 1] ++ List.replicate 8 (.k 0) ++ [.t 2]) xn on (by kernel_rfl) fun w6 hA => ?_
        have hA0WI := hA
        refine latK hA0WI [3, 4, 5, 6, 7, 8, 9, 10] (γ := Option Addr × Nat × List KB × Nat) (fun ⟨Af, cf, ob, bWI8⟩ => [(2, .pointer (some ⟨w.heap.size, 0, none⟩)), (4, .bool false), (5, .pointer (some ⟨bWI8, 0, none⟩)), (6, .int .i64 0)]) (fun ⟨Af, cf, ob, bWI8⟩ => [⟨w.heap.size, .cells #[.int .i64 b.kind, .int .i64 b.runners, .slice A n c, .slice A2 m c2, .bool b.fav, .int .i64 b.car, .int .i64 b.dut, .int .i64 b.stp] 25 (0, 0)⟩, ⟨bWI8, .cells #[.int .i64 a.inn, .int .i64 a.back, .int .i64 a.duty, .int .i64 a.paid, .int .i64 a.kept, .int .i64 a.over] 47 (0, 0)⟩]) (fun ⟨Af, cf, ob, bWI8⟩ => ob ++ ([])) (fun ⟨Af, cf, ob, bWI8⟩ _ => FinK Af FN (finL b ys 8) ob) (fun hWI3_4_8_9 => ?_) ?_
        ·
          refine latS hA0WI [3, 4, 5, 6, 7, 8] (γ := Option Addr × Nat × List KB × Nat) (fun ⟨Af, cf, ob, bWI8⟩ => [(1, .slice A3 ny cy), (2, .pointer (some ⟨w.heap.size, 0, none⟩)), (4, .bool false), (5, .pointer (some ⟨bWI8, 0, none⟩)), (23, .tuple #[.agg #[.int .i64 a.inn, .int .i64 a.back, .int .i64 a.duty, .int .i64 a.paid, .int .i64 a.kept, .int .i64 a.over], .int .i64 0]), (24, .agg #[.int .i64 b.kind, .int .i64 b.runners, .slice A n c, .slice A2 m c2, .bool b.fav, .int .i64 b.car, .int .i64 b.dut, .int .i64 b.stp]), (25, .agg #[.int .i64 b.kind, .int .i64 b.runners, .slice A n c, .slice A2 m c2, .bool b.fav, .int .i64 b.car, .int .i64 b.dut, .int .i64 b.stp]), (26, .slice A3 ny cy), (27, .slice Af FN cf), (28, .tuple #[.agg #[.int .i64 a.inn, .int .i64 a.back, .int .i64 a.duty, .int .i64 a.paid, .int .i64 a.kept, .int .i64 a.over], .int .i64 0]), (29, .agg #[.int .i64 a.inn, .int .i64 a.back, .int .i64 a.duty, .int .i64 a.paid, .int .i64 a.kept, .int .i64 a.over]), (30, .int .i64 0)]) (fun ⟨Af, cf, ob, bWI8⟩ => [⟨w.heap.size, .cells #[.int .i64 b.kind, .int .i64 b.runners, .slice A n c, .slice A2 m c2, .bool b.fav, .int .i64 b.car, .int .i64 b.dut, .int .i64 b.stp] 25 (0, 0)⟩, ⟨bWI8, .cells #[.int .i64 0, .int .i64 0, .int .i64 0, .int .i64 0, .int .i64 0, .int .i64 0] 47 (0, 0)⟩]) (fun ⟨Af, cf, ob, bWI8⟩ => ob ++ ([])) (fun ⟨Af, cf, ob, bWI8⟩ _ => FinK Af FN (finL b ys 8) ob) ?_ (fun hWI3_4_8 => ?_)
          · rintro ⟨Af, cf, ob, bWI8⟩ wl7 hrWI0 hA
            refine runS hA 2 ([.h 9] ++ List.replicate 6 (.k 1) ++ [.t 10]) xn on (by kernel_rfl) fun w108 hA => ?_
            exact joinE hWI3_4_8_9 ⟨Af, cf, ob, bWI8⟩ hrWI0 [0, 1] hA rfl (by kernel_rfl) (by decide)
          refine latS hA0WI [3, 8] (γ := Option Addr × Nat × List KB × Nat) (fun ⟨Af, cf, ob, bWI8⟩ => [(1, .slice A3 ny cy), (2, .pointer (some ⟨w.heap.size, 0, none⟩)), (4, .bool false), (5, .pointer (some ⟨bWI8, 0, none⟩)), (24, .agg #[.int .i64 b.kind, .int .i64 b.runners, .slice A n c, .slice A2 m c2, .bool b.fav, .int .i64 b.car, .int .i64 b.dut, .int .i64 b.stp]), (25, .agg #[.int .i64 b.kind, .int .i64 b.runners, .slice A n c, .slice A2 m c2, .bool b.fav, .int .i64 b.car, .int .i64 b.dut, .int .i64 b.stp]), (26, .slice A3 ny cy), (27, .slice Af FN cf)]) (fun ⟨Af, cf, ob, bWI8⟩ => [⟨w.heap.size, .cells #[.int .i64 b.kind, .int .i64 b.runners, .slice A n c, .slice A2 m c2, .bool b.fav, .int .i64 b.car, .int .i64 b.dut, .int .i64 b.stp] 25 (0, 0)⟩, ⟨bWI8, .cells #[.int .i64 0, .int .i64 0, .int .i64 0, .int .i64 0, .int .i64 0, .int .i64 0] 47 (0, 0)⟩]) (fun ⟨Af, cf, ob, bWI8⟩ => ob ++ ([])) (fun ⟨Af, cf, ob, bWI8⟩ _ => FinK Af FN (finL b ys 8) ob) ?_ (fun hWI3_8 => ?_)
          · rintro ⟨Af, cf, ob, bWI8⟩ wl8 hrWI0 hA
            have hP := Account_any wl8 wl8.heap.size b A n c A2 m c2 Af FN cf (finL b ys 8) ((h.below hA.below hB).more (Nat.le_trans hB hA.size)) (hrWI0 _ (fun kb hk => hA.at_.rok kb (List.mem_append_left _ hk))) (Nat.le_refl _)
            rw [← ha, hat0] at hP
            refine callB hA [] on (hP) (by kernel_rfl) fun w109 hb109 hA => ?_
            refine runS hA 3 [.t 5, .t 6, .t 7] xn on (by kernel_rfl) fun w110 hA => ?_
            exact joinE hWI3_4_8 ⟨Af, cf, ob, bWI8⟩ hrWI0 [0, 1] hA rfl (by kernel_rfl) (by decide)
          refine latS hA0WI [3, 4, 5, 6, 7] (γ := Option Addr × Nat × List KB) (fun ⟨Af, cf, ob⟩ => [(1, .slice A3 ny cy), (2, .pointer (some ⟨w.heap.size, 0, none⟩)), (4, .bool false), (23, .tuple #[.agg #[.int .i64 a.inn, .int .i64 a.back, .int .i64 a.duty, .int .i64 a.paid, .int .i64 a.kept, .int .i64 a.over], .int .i64 0]), (24, .agg #[.int .i64 b.kind, .int .i64 b.runners, .slice A n c, .slice A2 m c2, .bool b.fav, .int .i64 b.car, .int .i64 b.dut, .int .i64 b.stp]), (25, .agg #[.int .i64 b.kind, .int .i64 b.runners, .slice A n c, .slice A2 m c2, .bool b.fav, .int .i64 b.car, .int .i64 b.dut, .int .i64 b.stp]), (26, .slice A3 ny cy), (27, .slice Af FN cf), (28, .tuple #[.agg #[.int .i64 a.inn, .int .i64 a.back, .int .i64 a.duty, .int .i64 a.paid, .int .i64 a.kept, .int .i64 a.over], .int .i64 0]), (29, .agg #[.int .i64 a.inn, .int .i64 a.back, .int .i64 a.duty, .int .i64 a.paid, .int .i64 a.kept, .int .i64 a.over]), (30, .int .i64 0)]) (fun ⟨Af, cf, ob⟩ => [⟨w.heap.size, .cells #[.int .i64 b.kind, .int .i64 b.runners, .slice A n c, .slice A2 m c2, .bool b.fav, .int .i64 b.car, .int .i64 b.dut, .int .i64 b.stp] 25 (0, 0)⟩]) (fun ⟨Af, cf, ob⟩ => ob ++ ([])) (fun ⟨Af, cf, ob⟩ _ => FinK Af FN (finL b ys 8) ob) ?_ (fun hWI3_4 => ?_)
          · rintro ⟨Af, cf, ob⟩ wl9 hrWI0 hA
            refine runS hA 1 [.h 8] xn on (by kernel_rfl) fun w110 hA => ?_
            exact joinE hWI3_4_8 ⟨Af, cf, ob, wl9.heap.size⟩ hrWI0 [0, 1] hA rfl (by kernel_rfl) (by decide)
          refine latS hA0WI [8] (γ := Nat) (fun bWI8 => [(1, .slice A3 ny cy), (2, .pointer (some ⟨w.heap.size, 0, none⟩)), (4, .bool false), (5, .pointer (some ⟨bWI8, 0, none⟩)), (24, .agg #[.int .i64 b.kind, .int .i64 b.runners, .slice A n c, .slice A2 m c2, .bool b.fav, .int .i64 b.car, .int .i64 b.dut, .int .i64 b.stp]), (25, .agg #[.int .i64 b.kind, .int .i64 b.runners, .slice A n c, .slice A2 m c2, .bool b.fav, .int .i64 b.car, .int .i64 b.dut, .int .i64 b.stp]), (26, .slice A3 ny cy)]) (fun bWI8 => [⟨w.heap.size, .cells #[.int .i64 b.kind, .int .i64 b.runners, .slice A n c, .slice A2 m c2, .bool b.fav, .int .i64 b.car, .int .i64 b.dut, .int .i64 b.stp] 25 (0, 0)⟩, ⟨bWI8, .cells #[.int .i64 0, .int .i64 0, .int .i64 0, .int .i64 0, .int .i64 0, .int .i64 0] 47 (0, 0)⟩]) (fun bWI8 => []) (fun bWI8 _ => True) ?_ (fun hWI8 => ?_)
          · rintro bWI8 wl10 _ hA
            have hApf := hA.atK [⟨w.heap.size, .cells #[.int .i64 b.kind, .int .i64 b.runners, .slice A n c, .slice A2 m c2, .bool b.fav, .int .i64 b.car, .int .i64 b.dut, .int .i64 b.stp] 25 (0, 0)⟩, ⟨bWI8, .cells #[.int .i64 0, .int .i64 0, .int .i64 0, .int .i64 0, .int .i64 0, .int .i64 0] 47 (0, 0)⟩] (by kernel_rfl)
            have hP := Finish_any wl10 B b A n c A2 m c2 A3 ny cy ys (h.below hA.below hB) (hy.below hA.below hB) (Nat.le_trans hB hA.size) V
            rw [← hFN] at hP
            refine call hA [] on (hP) (by kernel_rfl) (by rintro e v ⟨Af1, cf1, ob1, rfl, hbf, hof, hfk⟩; exact hbf) ?_
            rintro e w111 ⟨Af1, cf1, ob1, rfl, hbf, hof, hfk⟩
            refine ⟨_, rfl, fun hA => ?_⟩
            have hA2f := At.ownL hApf hbf hof
            refine reknow ⟨[⟨w.heap.size, .cells #[.int .i64 b.kind, .int .i64 b.runners, .slice A n c, .slice A2 m c2, .bool b.fav, .int .i64 b.car, .int .i64 b.dut, .int .i64 b.stp] 25 (0, 0)⟩, ⟨bWI8, .cells #[.int .i64 0, .int .i64 0, .int .i64 0, .int .i64 0, .int .i64 0, .int .i64 0] 47 (0, 0)⟩], w111.heap.size, [], [], [], [], []⟩ hA2f (Nat.zero_le _) fun hA => ?_
            exact joinE hWI3_8 ⟨Af1, cf1, ob1, bWI8⟩ hfk [0, 1] hA rfl (by kernel_rfl) (by decide)
          refine latS hA0WI [3] (γ := Option Addr × Nat × List KB) (fun ⟨Af, cf, ob⟩ => [(1, .slice A3 ny cy), (2, .pointer (some ⟨w.heap.size, 0, none⟩)), (4, .bool false), (24, .agg #[.int .i64 b.kind, .int .i64 b.runners, .slice A n c, .slice A2 m c2, .bool b.fav, .int .i64 b.car, .int .i64 b.dut, .int .i64 b.stp]), (25, .agg #[.int .i64 b.kind, .int .i64 b.runners, .slice A n c, .slice A2 m c2, .bool b.fav, .int .i64 b.car, .int .i64 b.dut, .int .i64 b.stp]), (26, .slice A3 ny cy), (27, .slice Af FN cf)]) (fun ⟨Af, cf, ob⟩ => [⟨w.heap.size, .cells #[.int .i64 b.kind, .int .i64 b.runners, .slice A n c, .slice A2 m c2, .bool b.fav, .int .i64 b.car, .int .i64 b.dut, .int .i64 b.stp] 25 (0, 0)⟩]) (fun ⟨Af, cf, ob⟩ => ob ++ ([])) (fun ⟨Af, cf, ob⟩ _ => FinK Af FN (finL b ys 8) ob) ?_ (fun hWI3 => ?_)
          · rintro ⟨Af, cf, ob⟩ wl11 hrWI0 hA
            refine manyS hA 4 [8] (by kernel_rfl) ⟨fun hA => ?_, fun hA => ?_, trivial⟩
            ·
              have hP := Account_any wl11 wl11.heap.size b A n c A2 m c2 Af FN cf (finL b ys 8) ((h.below hA.below hB).more (Nat.le_trans hB hA.size)) (hrWI0 _ (fun kb hk => hA.at_.rok kb (List.mem_append_left _ hk))) (Nat.le_refl _)
              rw [← ha, hat0] at hP
              refine callB hA [] on (hP) (by kernel_rfl) fun w112 hb112 hA => ?_
              refine runS hA 3 [.t 5, .t 6, .t 7] xn on (by kernel_rfl) fun w113 hA => ?_
              exact joinE hWI3_4 ⟨Af, cf, ob⟩ hrWI0 [0] hA rfl (by kernel_rfl) (by decide)
            ·
              refine runS hA 1 [] xn on (by kernel_rfl) fun w112 hA => ?_
              exact joinE hWI3_8 ⟨Af, cf, ob, wl11.heap.size⟩ hrWI0 [0, 1] hA rfl (by kernel_rfl) (by decide)
          replace hA := hA0WI
          refine manyS hA 3 [8] (by kernel_rfl) ⟨fun hA => ?_, fun hA => ?_, trivial⟩
          ·
            have hApf := hA.atK [⟨w.heap.size, .cells #[.int .i64 b.kind, .int .i64 b.runners, .slice A n c, .slice A2 m c2, .bool b.fav, .int .i64 b.car, .int .i64 b.dut, .int .i64 b.stp] 25 (0, 0)⟩] (by kernel_rfl)
            have hP := Finish_any w6 B b A n c A2 m c2 A3 ny cy ys (h.below hA.below hB) (hy.below hA.below hB) (Nat.le_trans hB hA.size) V
            rw [← hFN] at hP
            refine call hA [] on (hP) (by kernel_rfl) (by rintro e v ⟨Af1, cf1, ob1, rfl, hbf, hof, hfk⟩; exact hbf) ?_
            rintro e w12 ⟨Af1, cf1, ob1, rfl, hbf, hof, hfk⟩
            refine ⟨_, rfl, fun hA => ?_⟩
            have hA2f := At.ownL hApf hbf hof
            refine reknow ⟨[⟨w.heap.size, .cells #[.int .i64 b.kind, .int .i64 b.runners, .slice A n c, .slice A2 m c2, .bool b.fav, .int .i64 b.car, .int .i64 b.dut, .int .i64 b.stp] 25 (0, 0)⟩], w12.heap.size, [], [], [], [], []⟩ hA2f (Nat.zero_le _) fun hA => ?_
            exact joinE hWI3 ⟨Af1, cf1, ob1⟩ hfk [0] hA rfl (by kernel_rfl) (by decide)
          ·
            refine runS hA 1 [] xn on (by kernel_rfl) fun w12 hA => ?_
            exact joinE hWI8 w2.heap.size trivial [0, 1] hA rfl (by kernel_rfl) (by decide)
        rintro ⟨Af, cf, ob, bWI8⟩ w61 hrWI0 hA
        refine runS hA 5 ([.b true] ++ List.replicate 8 (.k 0)) xn on (by kernel_rfl) fun w62 hA => ?_
        refine callB hA [] on (Spread_any w62 B b A n c A2 m c2 (h.below hA.below hB) (Nat.le_trans hB hA.size)) (by kernel_rfl) fun w63 hb63 hA => ?_
        refine runS hA 3 [] xn on (by kernel_rfl) fun w64 hA => ?_
        refine revals hA (rc 35 (show .int .i64 (bookF b) = .int .i64 0 by rw [h0]) rn) (by kernel_rfl) fun hA => ?_
        refine runS hA 6 [.k 2, .k 2] xn on (by kernel_rfl) fun w65 hA => ?_
        refine draw hA [true, true, true] [0, 1, 2, 3, 4, 5, 6, 7, 8, 9, 10, 11, 12, 13, 14, 15, 16, 17, 18, 19, 20, 21, 22, 23, 24, 25, 26, 27, 28, 29, 30, 31, 32, 33, 34, 35, 36, 37, 38, 39, 40, 41, 42, 43, 44, 45, 46, 47, 48, 49, 50] (by kernel_rfl) (by kernel_rfl) fun hA => ?_
        refine runS hA 12 [.t 0, .t 1, .t 2, .t 3, .g true, .t 4, .g true, .t 5, .t 6, .t 7, .g true, .t 8, .g true, .k 1, .t 9, .g true, .t 10, .g true, .k 2, .t 11, .g true] xn (oc (rfl : Value.bool true = .bool true) (oc (rfl : Value.bool true = .bool true) (oc (rfl : Value.bool true = .bool true) (oc (rfl : Value.bool true = .bool true) (oc (rfl : Value.bool true = .bool true) (oc (rfl : Value.bool true = .bool true) (oc (rfl : Value.bool true = .bool true) on))))))) (by kernel_rfl) fun w66 hA => ?_
        refine revals hA (rc 47 (dec_t (show a.paid ≥ (sprF b).1 by omega)) rn) (by kernel_rfl) fun hA => ?_
        refine runS hA 7 [.t 12, .t 13, .t 14, .g true, .t 15, .g true, .k 1, .t 16, .g true, .t 17, .g true, .k 2, .t 18, .g true] xn (oc (rfl : Value.bool true = .bool true) (oc (rfl : Value.bool true = .bool true) (oc (rfl : Value.bool true = .bool true) (oc (rfl : Value.bool true = .bool true) (oc (rfl : Value.bool true = .bool true) on))))) (by kernel_rfl) fun w67 hA => ?_
        refine revals hA (rc 54 (dec_t (show a.paid ≤ (sprF b).2 by omega)) rn) (by kernel_rfl) fun hA => ?_
        refine runS hA 5 [.t 19, .t 20, .t 21, .g true, .t 22, .g true, .k 2, .t 23, .g true] xn (oc (rfl : Value.bool true = .bool true) (oc (rfl : Value.bool true = .bool true) (oc (rfl : Value.bool true = .bool true) on))) (by kernel_rfl) fun w68 hA => ?_
        refine revals hA (rc 59 (dec_t (show (sprF b).1 ≥ 0 by omega)) rn) (by kernel_rfl) fun hA => ?_
        refine runS hA 5 ([.t 24, .t 25, .t 26, .g true, .t 27, .g true, .k 2, .t 28, .g true] ++ List.replicate 8 (.k 0)) xn (oc (rfl : Value.bool true = .bool true) (oc (rfl : Value.bool true = .bool true) (oc (rfl : Value.bool true = .bool true) on))) (by kernel_rfl) fun w69 hA => ?_
        refine callB hA [] on (rNet_any w69 B b A n c A2 m c2 (h.below hA.below hB) (Nat.le_trans hB hA.size) V) (by kernel_rfl) fun w70 hb70 hA => ?_
        refine runS hA 2 [.t 30, .g true, .t 31, .g true] xn (oc (rfl : Value.bool true = .bool true) (oc (rfl : Value.bool true = .bool true) on)) (by kernel_rfl) fun w71 hA => ?_
        refine revals hA (rc 67 (dec_t (show (sprF b).2 ≤ (netA b).over from hsp.1.2)) rn) (by kernel_rfl) fun hA => ?_
        refine runS hA 10 [.t 32, .t 33, .t 34, .g true, .t 35, .g true, .k 1, .t 36, .g true, .t 37, .g true, .k 1, .t 38, .g true, .t 39, .g true, .t 40, .g true, .k 1, .t 41, .g true] xn (oc (rfl : Value.bool true = .bool true) (oc (rfl : Value.bool true = .bool true) (oc (rfl : Value.bool true = .bool true) (oc (rfl : Value.bool true = .bool true) (oc (rfl : Value.bool true = .bool true) (oc (rfl : Value.bool true = .bool true) (oc (rfl : Value.bool true = .bool true) (oc (rfl : Value.bool true = .bool true) on)))))))) (by kernel_rfl) fun w72 hA => ?_
        refine revals hA (rc 77 (show .int .i64 (IntKind.i64.wrap ((IntKind.i64.wrap (a.paid + a.kept)) + a.over)) = .int .i64 ((netA b).over) by rw [show (netA b).over = netF (tilF b).a from rfl, ← hla.2]; simp only [IntKind.wrap_i64]; congr 1; omega) rn) (by kernel_rfl) fun hA => ?_
        refine runS hA 1 ([.t 42, .g true] ++ List.replicate 8 (.k 0)) xn (oc (rfl : Value.bool true = .bool true) on) (by kernel_rfl) fun w73 hA => ?_
        refine callB hA [] on (rNet_any w73 B b A n c A2 m c2 (h.below hA.below hB) (Nat.le_trans hB hA.size) V) (by kernel_rfl) fun w74 hb74 hA => ?_
        refine runS hA 2 [.t 44, .g true, .t 45, .g true] xn (oc (rfl : Value.bool true = .bool true) (oc (rfl : Value.bool true = .bool true) on)) (by kernel_rfl) fun w75 hA => ?_
        refine revals hA (rc 81 (eq_t (a := (netA b).over) (b := (netA b).over) rfl) rn) (by kernel_rfl) fun hA => ?_
        refine runS hA 2 [.t 46, .t 47] xn on (by kernel_rfl) fun w76 hA => ?_
        refine callB hA [] on (Works_any w76) (by kernel_rfl) fun w77 hb77 hA => ?_
        refine runS hA 5 [.t 49, .t 50, .b true] xn on (by kernel_rfl) fun w78 hA => ?_
        exact ret (v := .bool true) hA [] (by kernel_rfl) ⟨rfl, hA.below⟩
end Go.Proofs.Ytbahiemjaomdcaa

/- PoolWithin answers true whatever the book and the numbers of the finish; the arguments read behind the call as they did. No condition. -/
namespace Go.Proofs.Ytbahiemjaomdcaa.poolWithin
open Go.ChangeShapes Go.WideShapes Go.ChangeAt Go.RowKit

theorem own : ownKnob Try.prog.godebug = none := by kernel_rfl
theorem laidOut : laidOutB Try.prog = true := by kernel_rfl
theorem cellsInt : Try.prog.cellsOf 3 = 1 := by kernel_rfl
/-- A slice of numbers among the arguments. -/
theorem ints_arg {H : Type} {enc : TypeId × Value → H} {W : World} {fuel : Nat} {v : Value} {x : DataW H × List MemPlace} (h : DataW.trod enc Try.prog W 0 (fun _ => true) true fuel 23 [v] = some x) :
    ∃ A n c xs, v = .slice A n c ∧ n ≤ c ∧ IntsAt W W.heap.size A n xs := by
  rcases open_ints Try.underlying23 Try.underlying3 cellsInt h with ⟨hcs, -⟩ | ⟨a, n, c, zs, hcs, -, hl, hm, hz, -, hcell, -⟩
  · obtain rfl : v = .slice none 0 0 := by simpa using hcs
    exact ⟨none, 0, 0, [], rfl, Nat.le_refl _, IntsAt.nil⟩
  · obtain rfl : v = .slice (some a) n c := by simpa using hcs
    have hz : zs.length = c := by simpa using hz
    refine ⟨some a, n, c, zs.take n, rfl, hl, by rw [List.length_take]; omega, by simp only [maxLen] at hm; omega, fun h0 => ?_⟩
    obtain ⟨b, off, rfl, hc⟩ := Go.ints_at hcell (by omega)
    refine ⟨b, off, rfl, ?_, fun j hj => ?_⟩
    · rcases Nat.lt_or_ge b W.heap.size with hb | hb
      · exact hb
      · have := hc 0 (by omega)
        simp [World.cell?, Array.getElem?_eq_none hb] at this
    · rw [hc j (by omega), List.getElem?_take, if_pos hj, List.getD_eq_getElem?_getD]
theorem cellsI64 : Try.prog.cellsOf 2 = 1 := by kernel_rfl
theorem cellsBool : Try.prog.cellsOf 4 = 1 := by kernel_rfl
theorem cellsBet : Try.prog.cellsOf 53 = 3 := by kernel_rfl
theorem cellsBets : Try.prog.cellsOf 22 = 1 := by kernel_rfl
theorem cellsInts : Try.prog.cellsOf 23 = 1 := by kernel_rfl
theorem cellsBook : Try.prog.cellsOf 25 = 8 := by kernel_rfl
theorem bet_gen {H : Type} {enc : TypeId × Value → H} {P : Program} {W : World} {fuel : Nat} {T I J : TypeId} {f0 f1 f2 : Field} (ht : P.underlying T = some (.struct #[f0, f1, f2])) (hi : P.underlying I = some (.int .i64)) (hj : P.underlying J = some (.int .i64)) (cI : P.cellsOf I = 1) (cJ : P.cellsOf J = 1) (cT : P.cellsOf T = 3)
    (o0 : f0.offset = 0 ∧ f0.type = I) (o1 : f1.offset = 1 ∧ f1.type = I) (o2 : f2.offset = 2 ∧ f2.type = J) {cs : List Value} {x : DataW H × List MemPlace} (h : DataW.trod enc P W 0 (fun _ => true) true fuel T cs = some x) :
    ∃ y : Bet, cs = [.int .i64 y.first, .int .i64 y.second, .int .i64 y.units] := by
  obtain ⟨xs, m, -, -, hl, hn, hf⟩ := Go.DataW.trod_struct ht h
  rw [cT] at hl
  obtain ⟨v0, v1, v2, rfl⟩ : ∃ v0 v1 v2, cs = [v0, v1, v2] := by
    match cs, hl with
    | [a, b, c], _ => exact ⟨a, b, c, rfl⟩
  have g0 := hf 0 f0 rfl
  have g1 := hf 1 f1 rfl
  have g2 := hf 2 f2 rfl
  simp only [List.size_toArray, List.length_cons, List.length_nil] at hn
  rw [List.getElem?_eq_getElem (by omega)] at g0 g1 g2
  rw [o0.1, o0.2, cI] at g0
  rw [o1.1, o1.2, cI] at g1
  rw [o2.1, o2.2, cJ] at g2
  obtain ⟨a, e0, -, -⟩ := Go.DataW.trod_int hi g0
  obtain ⟨b, e1, -, -⟩ := Go.DataW.trod_int hi g1
  obtain ⟨c, e2, -, -⟩ := Go.DataW.trod_int hj g2
  simp at e0 e1 e2
  exact ⟨⟨a, b, c⟩, by rw [e0, e1, e2]⟩
theorem bet_arg {H : Type} {enc : TypeId × Value → H} {W : World} {fuel : Nat} {cs : List Value} {x : DataW H × List MemPlace} (h : DataW.trod enc Try.prog W 0 (fun _ => true) true fuel 53 cs = some x) :
    ∃ y : Bet, cs = [.int .i64 y.first, .int .i64 y.second, .int .i64 y.units] := bet_gen Try.underlying53 Try.underlying3 Try.underlying2 cellsInt cellsI64 cellsBet ⟨rfl, rfl⟩ ⟨rfl, rfl⟩ ⟨rfl, rfl⟩ h
/-- A slice of bets among the arguments. -/
theorem bets_arg {H : Type} {enc : TypeId × Value → H} {W : World} {fuel : Nat} {v : Value} {x : DataW H × List MemPlace} (h : DataW.trod enc Try.prog W 0 (fun _ => true) true fuel 22 [v] = some x) :
    ∃ A n c bs, v = .slice A n c ∧ n ≤ c ∧ BetsAt W W.heap.size A n bs := by
  rcases Go.Deep.open_slice Try.underlying22 h with ⟨hcs, -⟩ | ⟨a, len, cap, m, n', D, Pl, hcs, -, hl, hm, hmm, -, hel⟩
  · obtain rfl : v = .slice none 0 0 := by simpa using hcs
    exact ⟨none, 0, 0, [], rfl, Nat.le_refl _, rfl, by omega, fun h => absurd h (by omega)⟩
  · obtain rfl : v = .slice (some a) len cap := by simpa using hcs
    have hmc : m = cap := by simpa using hmm
    have each : ∀ i, i < len → ∃ y : Bet, W.cell? (a.add (i * 3)) = some (.int .i64 y.first) ∧ W.cell? (a.add (i * 3 + 1)) = some (.int .i64 y.second) ∧ W.cell? (a.add (i * 3 + 2)) = some (.int .i64 y.units) := by
      intro i hi
      obtain ⟨cs', h1, h2⟩ := hel i (by omega)
      obtain ⟨y, rfl⟩ := bet_arg h2
      rw [cellsBet] at h1
      obtain ⟨_, hlen, hcell⟩ := World.cells?_some h1
      have g0 := hcell 0 (by omega)
      have g1 := hcell 1 (by omega)
      have g2 := hcell 2 (by omega)
      rw [Go.Deep.add_add] at g0 g1 g2
      exact ⟨y, by simpa using g0, by simpa using g1, by simpa using g2⟩
    obtain ⟨fx, hfx⟩ := Go.Deep.choose_lt each
    refine ⟨some a, len, cap, (List.range len).map fx, rfl, hl, by simp, by simp only [maxLen] at hm; omega, fun h0 => ?_⟩
    obtain ⟨b, off, spot⟩ := a
    have hc0 := (hfx 0 h0).1
    have hspot : spot = none := by simpa [Addr.add] using World.cell?_spot hc0
    subst hspot
    refine ⟨b, off, rfl, ?_, fun j hj => ?_⟩
    · rcases Nat.lt_or_ge b W.heap.size with hb | hb
      · exact hb
      · simp [World.cell?, Addr.add, Array.getElem?_eq_none hb] at hc0
    · have e := hfx j hj
      rw [Go.WideShapes.add_plain, Go.WideShapes.add_plain, Go.WideShapes.add_plain] at e
      rw [List.getElem?_map, List.getElem?_range hj, Option.map_some, Option.getD_some]
      exact e
theorem book_gen {H : Type} {enc : TypeId × Value → H} {P : Program} {W : World} {fuel : Nat} {T I J S R C : TypeId} {f0 f1 f2 f3 f4 f5 f6 f7 : Field} (ht : P.underlying T = some (.struct #[f0, f1, f2, f3, f4, f5, f6, f7])) (hi : P.underlying I = some (.int .i64)) (hj : P.underlying J = some (.int .i64)) (hb : P.underlying C = some .bool)
    (cI : P.cellsOf I = 1) (cJ : P.cellsOf J = 1) (cS : P.cellsOf S = 1) (cR : P.cellsOf R = 1) (cC : P.cellsOf C = 1) (cT : P.cellsOf T = 8)
    (o0 : f0.offset = 0 ∧ f0.type = I) (o1 : f1.offset = 1 ∧ f1.type = I) (o2 : f2.offset = 2 ∧ f2.type = S) (o3 : f3.offset = 3 ∧ f3.type = R) (o4 : f4.offset = 4 ∧ f4.type = C) (o5 : f5.offset = 5 ∧ f5.type = J) (o6 : f6.offset = 6 ∧ f6.type = J) (o7 : f7.offset = 7 ∧ f7.type = J)
    {cs : Array Value} {x : DataW H × List MemPlace} (h : DataW.trod enc P W 0 (fun _ => true) true fuel T cs.toList = some x) :
    ∃ (a0 a1 : Int) (v2 v3 : Value) (a4 : Bool) (a5 a6 a7 : Int) (q : Nat) (x2 x3 : DataW H × List MemPlace), cs = #[.int .i64 a0, .int .i64 a1, v2, v3, .bool a4, .int .i64 a5, .int .i64 a6, .int .i64 a7] ∧
      DataW.trod enc P W 0 (fun _ => true) true q S [v2] = some x2 ∧ DataW.trod enc P W 0 (fun _ => true) true q R [v3] = some x3 := by
  obtain ⟨xs, q, -, -, hl, hn, hf⟩ := Go.DataW.trod_struct ht h
  rw [cT] at hl
  obtain ⟨v0, v1, v2, v3, v4, v5, v6, v7, hc⟩ : ∃ v0 v1 v2 v3 v4 v5 v6 v7, cs.toList = [v0, v1, v2, v3, v4, v5, v6, v7] := by
    generalize cs.toList = l at hl
    match l, hl with
    | [a, b, c, d, e, f, g, h], _ => exact ⟨a, b, c, d, e, f, g, h, rfl⟩
  rw [hc] at hf
  simp only [List.size_toArray, List.length_cons, List.length_nil] at hn
  have g0 := hf 0 f0 rfl
  have g1 := hf 1 f1 rfl
  have g2 := hf 2 f2 rfl
  have g3 := hf 3 f3 rfl
  have g4 := hf 4 f4 rfl
  have g5 := hf 5 f5 rfl
  have g6 := hf 6 f6 rfl
  have g7 := hf 7 f7 rfl
  rw [List.getElem?_eq_getElem (by omega)] at g0 g1 g2 g3 g4 g5 g6 g7
  rw [o0.1, o0.2, cI] at g0
  rw [o1.1, o1.2, cI] at g1
  rw [o2.1, o2.2, cS] at g2
  rw [o3.1, o3.2, cR] at g3
  rw [o4.1, o4.2, cC] at g4
  rw [o5.1, o5.2, cJ] at g5
  rw [o6.1, o6.2, cJ] at g6
  rw [o7.1, o7.2, cJ] at g7
  obtain ⟨a0, e0, -, -⟩ := Go.DataW.trod_int hi g0
  obtain ⟨a1, e1, -, -⟩ := Go.DataW.trod_int hi g1
  obtain ⟨a4, e4, -⟩ := Go.DataW.trod_bool hb g4
  obtain ⟨a5, e5, -, -⟩ := Go.DataW.trod_int hj g5
  obtain ⟨a6, e6, -, -⟩ := Go.DataW.trod_int hj g6
  obtain ⟨a7, e7, -, -⟩ := Go.DataW.trod_int hj g7
  simp at e0 e1 e4 e5 e6 e7
  refine ⟨a0, a1, v2, v3, a4, a5, a6, a7, q, _, _, ?_, by simpa using g2, by simpa using g3⟩
  apply Array.toList_inj.1
  rw [hc, e0, e1, e4, e5, e6, e7]
/-- A book among the arguments. -/
theorem book_arg {H : Type} {enc : TypeId × Value → H} {W : World} {fuel : Nat} {cs : Array Value} {x : DataW H × List MemPlace} (h : DataW.trod enc Try.prog W 0 (fun _ => true) true fuel 25 cs.toList = some x) :
    ∃ b A n c A2 m c2, cs = bkC b A n c A2 m c2 ∧ BkAt W W.heap.size b A n c A2 m c2 := by
  obtain ⟨a0, a1, v2, v3, a4, a5, a6, a7, q, x2, x3, rfl, f2, f3⟩ := book_gen Try.underlying25 Try.underlying3 Try.underlying2 Try.underlying4 cellsInt cellsI64 cellsBets cellsInts cellsBool cellsBook ⟨rfl, rfl⟩ ⟨rfl, rfl⟩ ⟨rfl, rfl⟩ ⟨rfl, rfl⟩ ⟨rfl, rfl⟩ ⟨rfl, rfl⟩ ⟨rfl, rfl⟩ ⟨rfl, rfl⟩ h
  obtain ⟨A, n, c, bs, rfl, l2, i2⟩ := bets_arg f2
  obtain ⟨A2, m, c2, ss, rfl, l3, i3⟩ := ints_arg f3
  exact ⟨⟨a0, a1, bs, ss, a4, a5, a6, a7⟩, A, n, c, A2, m, c2, rfl, i2, i3, l2, l3⟩
theorem cellsByte : Try.prog.cellsOf 5 = 1 := by kernel_rfl
/-- A slice of bytes among the arguments. -/
theorem bytes_arg {H : Type} {enc : TypeId × Value → H} {W : World} {fuel : Nat} {v : Value} {x : DataW H × List MemPlace} (h : DataW.trod enc Try.prog W 0 (fun _ => true) true fuel 44 [v] = some x) :
    ∃ A n c xs, v = .slice A n c ∧ n ≤ c ∧ U8At W W.heap.size A n xs := by
  rcases open_ints Try.underlying44 Try.underlying5 cellsByte h with ⟨hcs, -⟩ | ⟨a, n, c, zs, hcs, -, hl, hm, hz, -, hcell, hwf⟩
  · obtain rfl : v = .slice none 0 0 := by simpa using hcs
    exact ⟨none, 0, 0, [], rfl, Nat.le_refl _, rfl, by omega, fun h => absurd h (by omega)⟩
  · obtain rfl : v = .slice (some a) n c := by simpa using hcs
    have hz : zs.length = c := by simpa using hz
    refine ⟨some a, n, c, zs.take n, rfl, hl, by rw [List.length_take]; omega, by simp only [maxLen] at hm; omega, fun h0 => ?_⟩
    obtain ⟨b, off, rfl, hc⟩ := Go.ints_at hcell (by omega)
    refine ⟨b, off, rfl, ?_, fun j hj => ⟨?_, ?_⟩⟩
    · rcases Nat.lt_or_ge b W.heap.size with hb | hb
      · exact hb
      · have := hc 0 (by omega)
        simp [World.cell?, Array.getElem?_eq_none hb] at this
    · rw [hc j (by omega), List.getElem?_take, if_pos hj, List.getD_eq_getElem?_getD]
    · rw [List.getElem?_take, if_pos hj]
      exact range_u8 hwf j

/-! ### THE ROW's STEP -/
set_option maxRecDepth 100000 in
theorem lifted (os : Os) (started : os.Started) (H : Type) (enc : TypeId × Value → H) :
    ReturnsInHanded {} Try.checked os 12 .any (Rows.poolWithinSpec.pre6 enc Try.prog Try.f12 Rows.poolWithinRow.domain false) (Rows.poolWithinSpec.post enc Try.prog Try.f12 false true false false) := by
  refine returnsInHanded_of_change (C := Try.checked) own started (by kernel_rfl) Try.func12
    (ChangeSpec.witness6 (enc := enc) (C := Try.checked) false ⟨#[], #[.agg #[.int .i64 0, .int .i64 0, .slice none 0 0, .slice none 0 0, .bool false, .int .i64 0, .int .i64 0, .int .i64 0], .slice none 0 0], []⟩ 8 (by kernel_rfl) (by kernel_rfl) (by kernel_rfl) (by kernel_rfl)) ?_
  intro W base args ds gs before hval0 hW hcnd _
  have hval : ∀ (j : Nat) t v, Try.f12.params[j]? = some t → args[j]? = some v → Value.okWide Try.prog W .any base t v := hval0
  have hW' := hW
  obtain ⟨p, q, hA0, hV, rfl, hfz, hnd⟩ := hW
  have hA : DataW.TrodAll enc Try.prog W 0 (fun _ => true) true Try.f12.params.toList args.toList ds p := hA0
  rw [Try.params12] at hA hval
  obtain ⟨v0, v1, d0, d1, p0, p1, rfl, rfl, rfl, h0, h1⟩ := trodAll_two hA
  obtain ⟨rfl, rfl⟩ := trodVars_none hV
  obtain ⟨cs0, rfl, -⟩ := okWide_struct Try.underlying25 (hval 0 25 v0 rfl rfl)
  obtain ⟨A1, n1, c1, rfl⟩ := okWide_slice Try.underlying44 (hval 1 44 v1 rfl rfl)
  have h0k := h0
  have h1k := h1
  obtain ⟨f0, hf0⟩ := h0
  obtain ⟨f1, hf1⟩ := h1
  obtain ⟨b0, A0, n0, c0, B0, m0, d0, e0, i0⟩ := book_arg (cs := cs0) hf0
  subst e0
  obtain ⟨A1', n1', c1', x1, e1, l1, i1⟩ := bytes_arg hf1
  cases e1
  clear hA0 hval0
  simp only [List.append_nil] at hW'
  have hlt0 : ∀ x ∈ p0, x.block < W.heap.size := fun x hx => by simpa using hW'.lt x (by simp [hx])
  have hlt1 : ∀ x ∈ p1, x.block < W.heap.size := fun x hx => by simpa using hW'.lt x (by simp [hx])
  refine (PoolWithin_any W W.heap.size b0 A0 n0 c0 B0 m0 d0 A1 n1 c1 x1 i0 i1 (Nat.le_refl _)).mono fun e W' ⟨he, hg⟩ => ?_
  subst he
  exact ⟨_, rfl, _, _, _, [], p0 ++ p1, [], hW', trodAll_cons_mk (shut_bool Try.underlying4 _) trodAll_mk0,
    trodAll_mk2 (Below.trod laidOut (by kernel_rfl) (of_decide_eq_true (by kernel_rfl)) h0k hg hlt0) (Below.trod laidOut (by kernel_rfl) (of_decide_eq_true (by kernel_rfl)) h1k hg hlt1),
    rfl, hg.frame _, fun h => by cases h⟩

theorem over : Rows.poolWithinRow.holds Try.pinned (OpenSpec.ofChange Rows.poolWithinSpec) :=
  OpenClaim.holds_of_wide 12 Try.f12 rfl rfl rfl rfl rfl rfl rfl ⟨rfl, rfl, rfl, rfl, rfl⟩ rfl rfl rfl rfl rfl (by kernel_rfl) Try.func12 (by kernel_rfl)
    (of_decide_eq_true (by kernel_rfl)) (by unfold Func.isWrapper; first | (rw [if_pos (by decide +kernel)]; kernel_rfl) | (rw [if_neg (by decide +kernel)]; exact ⟨rfl, rfl⟩))
    (fun os started H enc _ => lifted os started H enc)

/-- The statement. -/
theorem proved : Rows.PoolWithinSaid :=
  over
#print axioms proved
end Go.Proofs.Ytbahiemjaomdcaa.poolWithin
