/- PoolMore answers true whatever the book, the numbers of the finish, and by how much is carried over, and duty, are more; the arguments read behind the call as they did. No condition. -/
import Derived.Test.YtbahiemjaomdcaaF13
import Derived.Test.YtbahiemjaomdcaaRows
import Derived.WalkKit
import Derived.ProofKit
import Derived.OpenShut
import Derived.Carry
import Derived.Deep.Slices
import Derived.ChangeSame

/- law of pool: pence. -/
namespace Go.Proofs.Ytbahiemjaomdcaa
open Go.RowKit Go.Shelf

set_option maxRecDepth 20000 in
theorem pence_any (w : World) (B : Nat) (A : Option Addr) (n c : Nat) (xs : List ((Int × Int) × Int)) (x y : Int) (hx : PartsAt w B A n 3 (encD xs)) (hB : B ≤ w.heap.size) : Calls Try.prog 36 #[.slice A n c, .int .i64 x, .int .i64 y] w fun e w' => e = .returned (.int .i64 (pnF xs (x, y))) ∧ Below w.heap.size w w' := by
  have hxl : xs.length = n := by have h9 := hx.1; rw [encD_len] at h9; omega
  refine enter 35 Try.func36 (by kernel_rfl) fun hA => ?_
  refine runS hA 12 [] xn on (by kernel_rfl) fun w1 hA => ?_
  refine loop (γ := Nat) (fun i => [(0, .slice A n c), (1, .int .i64 x), (2, .int .i64 y), (7, .int .i64 (i : Int))]) (fun i => []) (fun _ => []) (fun g i wr => i ≤ n ∧ g = n - i ∧ ∀ j, j < i → (xs[j]?.getD ((0, 0), 0)).1 ≠ (x, y)) n 0 [] hA (by kernel_rfl) (⟨Nat.zero_le _, rfl, fun j hj => absurd hj (Nat.not_lt_zero _)⟩) ?_
  rintro _ i wr ⟨hi, rfl, hs⟩ J hJ hA
  by_cases hlt : i < n
  case neg =>
    refine runS hA 12 [.b false] xn (oc (dec_f (show ¬ (((i : Int) : Int) < (n : Int)) by omega)) on) (by kernel_rfl) fun w2 hA => ?_
    refine leave hA (by kernel_rfl) fun hA => ?_
    refine runS hA 8 [] xn on (by kernel_rfl) fun w3 hA => ?_
    exact ret (v := .int .i64 0) hA [] (by kernel_rfl) ⟨by rw [pnF_no (s := (x, y)) fun j hj => hs j (by omega)], hA.below⟩
  case pos =>
    obtain ⟨b1, o1, rfl, hb1, hcb1⟩ := hx.2.2 (by omega)
    obtain ⟨ge0, ge1, ge2⟩ := encD_get xs i (by omega)
    have e0 : b1 < w.heap.size ∧ w.cell? ⟨b1, o1 + i * 3, none⟩ = some (.int .i64 (xs[i]?.getD ((0, 0), 0)).1.1) := ⟨by omega, by have := hcb1 _ _ ge0; exact this⟩
    have e1 : b1 < w.heap.size ∧ w.cell? ⟨b1, o1 + i * 3 + 1, none⟩ = some (.int .i64 (xs[i]?.getD ((0, 0), 0)).1.2) := ⟨by omega, by have := hcb1 _ _ ge1; exact this⟩
    have e2 : b1 < w.heap.size ∧ w.cell? ⟨b1, o1 + i * 3 + 2, none⟩ = some (.int .i64 (xs[i]?.getD ((0, 0), 0)).2) := ⟨by omega, by have := hcb1 _ _ ge2; exact this⟩
    by_cases h1 : (xs[i]?.getD ((0, 0), 0)).1.1 = x
    case neg =>
      refine runS hA 43 ([.b true, .i, .x (.int .i64 ((xs[i]?.getD ((0, 0), 0)).1.1))] ++ List.replicate 7 (.g false)) (xc (a := ⟨b1, o1 + i * 3, none⟩) e0 xn) (oc (dec_t (show (((i : Int) : Int) < (n : Int)) by omega)) (oc (show (0 : Int) ≤ ((i : Int) : Int) ∧ ((i : Int) : Int) < (n : Int) by omega) (oc (eq_f h1) (oc (rfl : Value.bool false = .bool false) (oc (rfl : Value.bool false = .bool false) (oc (rfl : Value.bool false = .bool false) (oc (rfl : Value.bool false = .bool false) (oc (rfl : Value.bool false = .bool false) (oc (rfl : Value.bool false = .bool false) on))))))))) (by kernel_rfl) fun w2 hA => ?_
      refine revals hA (rc 7 (wr64 (x := (i : Int) + 1) (y := ((i + 1 : Nat) : Int)) (by have := hx.2.1; omega) (by omega)) rn) (by kernel_rfl) fun hA => ?_
      exact again hJ (n - (i + 1)) (i + 1) [] hA (by omega) (by kernel_rfl) (⟨by omega, rfl, fun j hj => by by_cases hji : j = i; rw [hji]; exact fun e => h1 (congrArg Prod.fst e); exact hs j (by omega)⟩)
    case pos =>
      by_cases h2 : (xs[i]?.getD ((0, 0), 0)).1.2 = y
      case neg =>
        refine runS hA 43 [.b true, .i, .x (.int .i64 ((xs[i]?.getD ((0, 0), 0)).1.1)), .g true, .g true, .g true, .i, .g true, .g true, .x (.int .i64 ((xs[i]?.getD ((0, 0), 0)).1.2)), .g true, .g true, .b false] (xc (a := ⟨b1, o1 + i * 3, none⟩) e0 (xc (a := ⟨b1, o1 + i * 3 + 1, none⟩) e1 xn)) (oc (dec_t (show (((i : Int) : Int) < (n : Int)) by omega)) (oc (show (0 : Int) ≤ ((i : Int) : Int) ∧ ((i : Int) : Int) < (n : Int) by omega) (oc (eq_t h1) (oc (rfl : Value.bool true = .bool true) (oc (rfl : Value.bool true = .bool true) (oc (show (0 : Int) ≤ ((i : Int) : Int) ∧ ((i : Int) : Int) < (n : Int) by omega) (oc (rfl : Value.bool true = .bool true) (oc (rfl : Value.bool true = .bool true) (oc (rfl : Value.bool true = .bool true) (oc (rfl : Value.bool true = .bool true) (oc (eq_f h2) on))))))))))) (by kernel_rfl) fun w2 hA => ?_
        refine revals hA (rc 7 (wr64 (x := (i : Int) + 1) (y := ((i + 1 : Nat) : Int)) (by have := hx.2.1; omega) (by omega)) rn) (by kernel_rfl) fun hA => ?_
        exact again hJ (n - (i + 1)) (i + 1) [] hA (by omega) (by kernel_rfl) (⟨by omega, rfl, fun j hj => by by_cases hji : j = i; rw [hji]; exact fun e => h2 (congrArg Prod.snd e); exact hs j (by omega)⟩)
      case pos =>
        refine runS hA 48 [.b true, .i, .x (.int .i64 ((xs[i]?.getD ((0, 0), 0)).1.1)), .g true, .g true, .g true, .i, .g true, .g true, .x (.int .i64 ((xs[i]?.getD ((0, 0), 0)).1.2)), .g true, .g true, .b true, .i, .x (.int .i64 ((xs[i]?.getD ((0, 0), 0)).2))] (xc (a := ⟨b1, o1 + i * 3, none⟩) e0 (xc (a := ⟨b1, o1 + i * 3 + 1, none⟩) e1 (xc (a := ⟨b1, o1 + i * 3 + 2, none⟩) e2 xn))) (oc (dec_t (show (((i : Int) : Int) < (n : Int)) by omega)) (oc (show (0 : Int) ≤ ((i : Int) : Int) ∧ ((i : Int) : Int) < (n : Int) by omega) (oc (eq_t h1) (oc (rfl : Value.bool true = .bool true) (oc (rfl : Value.bool true = .bool true) (oc (show (0 : Int) ≤ ((i : Int) : Int) ∧ ((i : Int) : Int) < (n : Int) by omega) (oc (rfl : Value.bool true = .bool true) (oc (rfl : Value.bool true = .bool true) (oc (rfl : Value.bool true = .bool true) (oc (rfl : Value.bool true = .bool true) (oc (eq_t h2) (oc (show (0 : Int) ≤ ((i : Int) : Int) ∧ ((i : Int) : Int) < (n : Int) by omega) on)))))))))))) (by kernel_rfl) fun w2 hA => ?_
        refine leave hA (by kernel_rfl) fun hA => ?_
        refine runS hA 2 [] xn on (by kernel_rfl) fun w3 hA => ?_
        exact ret (v := .int .i64 ((xs[i]?.getD ((0, 0), 0)).2)) hA [] (by kernel_rfl) ⟨by rw [pnF_at (s := (x, y)) (i := i) (by omega) hs (Prod.ext h1 h2)], hA.below⟩
end Go.Proofs.Ytbahiemjaomdcaa

/- law of pool: PoolMore. -/
namespace Go.Proofs.Ytbahiemjaomdcaa
open Go.RowKit Go.Shelf

set_option maxHeartbeats 4000000 in
set_option maxRecDepth 20000 in
theorem PoolMore_any (w : World) (B : Nat) (b : Bk) (A : Option Addr) (n c : Nat) (A2 : Option Addr) (m c2 : Nat) (A3 : Option Addr) (ny cy : Nat) (ys : List Int) (mo du : Int) (h : BkAt w B b A n c A2 m c2) (hy : U8At w B A3 ny ys) (hmo : 0 ≤ mo ∧ mo ≤ 4294967295) (hdu : 0 ≤ du ∧ du ≤ 65535) (hB : B ≤ w.heap.size) : Calls Try.prog 8 #[bkV b A n c A2 m c2, .slice A3 ny cy, .int .u32 mo, .int .u16 du] w fun e w' => e = .returned (.bool true) ∧ Below w.heap.size w w' := by
  refine enter 168 Try.func8 (by kernel_rfl) fun hA => ?_
  refine runS hA 10 (List.replicate 8 (.k 0)) xn on (by kernel_rfl) fun w1 hA => ?_
  have hbl := h.bets.1
  have hxl := h.scr.1
  have hyl := hy.1
  refine callB hA [] on (fine_any w1 B b A n c A2 m c2 (h.below hA.below hB) (Nat.le_trans hB hA.size)) (by kernel_rfl) fun w2 hb2 hA => ?_
  by_cases hfi : ¬ (110 < n ∨ 20 < m) ∧ bookF b = 0
  case neg =>
    refine revals hA (rc 25 (show .bool (decide (¬ (110 < n ∨ 20 < m) ∧ bookF b = 0)) = .bool false by rw [decide_eq_false hfi]) rn) (by kernel_rfl) fun hA => ?_
    refine runS hA 11 [.g true, .g true, .g true] xn (oc (rfl : Value.bool true = .bool true) (oc (rfl : Value.bool true = .bool true) (oc (rfl : Value.bool true = .bool true) on))) (by kernel_rfl) fun w3 hA => ?_
    refine callB hA [] on (Works_any w3) (by kernel_rfl) fun w4 hb4 hA => ?_
    refine runS hA 5 [] xn on (by kernel_rfl) fun w5 hA => ?_
    exact ret (v := .bool true) hA [] (by kernel_rfl) ⟨rfl, hA.below⟩
  case pos =>
    obtain ⟨hgr, h0⟩ := hfi
    have V := valid_of h0
    have hv1 := V.run
    have hv2 := V.len
    refine revals hA (rc 25 (show .bool (decide (¬ (110 < n ∨ 20 < m) ∧ bookF b = 0)) = .bool true by rw [decide_eq_true ⟨hgr, h0⟩]) rn) (by kernel_rfl) fun hA => ?_
    refine runS hA 5 [.g false, .g false, .g false] xn (oc (rfl : Value.bool false = .bool false) (oc (rfl : Value.bool false = .bool false) (oc (rfl : Value.bool false = .bool false) on))) (by kernel_rfl) fun w3 hA => ?_
    by_cases h20 : (ny : Int) > 20
    case pos =>
      refine revals hA (rc 30 (dec_t h20) rn) (by kernel_rfl) fun hA => ?_
      refine runS hA 6 [] xn on (by kernel_rfl) fun w4 hA => ?_
      refine callB hA [] on (Works_any w4) (by kernel_rfl) fun w5 hb5 hA => ?_
      refine runS hA 5 [] xn on (by kernel_rfl) fun w6 hA => ?_
      exact ret (v := .bool true) hA [] (by kernel_rfl) ⟨rfl, hA.below⟩
    case neg =>
      refine revals hA (rc 30 (dec_f h20) rn) (by kernel_rfl) fun hA => ?_
      refine runS hA 10 (List.replicate 8 (.k 0)) xn on (by kernel_rfl) fun w4 hA => ?_
      have hApf := hA.atK [⟨w.heap.size, .cells #[.int .i64 b.kind, .int .i64 b.runners, .slice A n c, .slice A2 m c2, .bool b.fav, .int .i64 b.car, .int .i64 b.dut, .int .i64 b.stp] 25 (0, 0)⟩] (by kernel_rfl)
      refine call hA [] on (Finish_any w4 B b A n c A2 m c2 A3 ny cy ys (h.below hA.below hB) (hy.below hA.below hB) (Nat.le_trans hB hA.size) V) (by kernel_rfl) (by rintro e v ⟨Af, cf, ob, rfl, hbf, hof, hfk⟩; exact hbf) ?_
      rintro e w5 ⟨Af, cf, ob, rfl, hbf, hof, hfk⟩
      refine ⟨_, rfl, fun hA => ?_⟩
      have hA2f := At.ownL hApf hbf hof
      refine reknow ⟨[⟨w.heap.size, .cells #[.int .i64 b.kind, .int .i64 b.runners, .slice A n c, .slice A2 m c2, .bool b.fav, .int .i64 b.car, .int .i64 b.dut, .int .i64 b.stp] 25 (0, 0)⟩], w5.heap.size, [], [], [], [], []⟩ hA2f (Nat.zero_le _) fun hA => ?_
      have hfin := finL_isFin V ys
      have hat0 := finL_at h0 ys
      refine runS hA 4 [] xn on (by kernel_rfl) fun w6 hA => ?_
      refine draw hA [true] [0, 1, 2, 3, 4, 5, 6, 7, 8] (by kernel_rfl) (by kernel_rfl) fun hA => ?_
      refine runS hA 3 ([.t 0] ++ List.replicate 8 (.k 0) ++ [.t 1] ++ List.replicate 8 (.k 0) ++ [.t 2] ++ List.replicate 8 (.k 0)) xn on (by kernel_rfl) fun w7 hA => ?_
      have hA0BB := hA
      refine latK hA0BB [3, 4, 5, 6, 7, 8] (γ := Nat × Nat × Nat) (fun ⟨bBB3, bBB4, bBB5⟩ => [(2, .int .u32 mo), (3, .int .u16 du), (4, .pointer (some ⟨w.heap.size, 0, none⟩)), (8, .bool false), (9, .slice Af ((finL b ys 8).length) cf), (10, .pointer (some ⟨bBB3, 0, none⟩)), (11, .pointer (some ⟨bBB4, 0, none⟩)), (12, .pointer (some ⟨bBB5, 0, none⟩))]) (fun ⟨bBB3, bBB4, bBB5⟩ => [⟨w.heap.size, .cells #[.int .i64 b.kind, .int .i64 b.runners, .slice A n c, .slice A2 m c2, .bool b.fav, .int .i64 b.car, .int .i64 b.dut, .int .i64 b.stp] 25 (0, 0)⟩, ⟨bBB3, .cells #[.int .i64 b.kind, .int .i64 b.runners, .slice A n c, .slice A2 m c2, .bool b.fav, .int .i64 b.car, .int .i64 b.dut, .int .i64 b.stp] 25 (0, 0)⟩, ⟨bBB4, .cells #[.int .i64 b.kind, .int .i64 b.runners, .slice A n c, .slice A2 m c2, .bool b.fav, .int .i64 b.car, .int .i64 b.dut, .int .i64 b.stp] 25 (0, 0)⟩, ⟨bBB5, .cells #[.int .i64 b.kind, .int .i64 b.runners, .slice A n c, .slice A2 m c2, .bool b.fav, .int .i64 b.car, .int .i64 b.dut, .int .i64 b.stp] 25 (0, 0)⟩]) (fun ⟨bBB3, bBB4, bBB5⟩ => ob ++ ([])) (fun ⟨bBB3, bBB4, bBB5⟩ _ => True) (fun hBB3_4_5_6_7_8 => ?_) ?_
      ·
        refine latS hA0BB [3, 4, 5, 6, 7] (γ := Nat × Nat × Nat) (fun ⟨bBB3, bBB4, bBB5⟩ => [(2, .int .u32 mo), (3, .int .u16 du), (4, .pointer (some ⟨w.heap.size, 0, none⟩)), (8, .bool false), (9, .slice Af ((finL b ys 8).length) cf), (10, .pointer (some ⟨bBB3, 0, none⟩)), (11, .pointer (some ⟨bBB4, 0, none⟩)), (12, .pointer (some ⟨bBB5, 0, none⟩)), (36, .agg #[.int .i64 b.kind, .int .i64 b.runners, .slice A n c, .slice A2 m c2, .bool b.fav, .int .i64 b.car, .int .i64 b.dut, .int .i64 b.stp]), (37, .agg #[.int .i64 b.kind, .int .i64 b.runners, .slice A n c, .slice A2 m c2, .bool b.fav, .int .i64 b.car, .int .i64 b.dut, .int .i64 b.stp]), (38, .agg #[.int .i64 b.kind, .int .i64 b.runners, .slice A n c, .slice A2 m c2, .bool b.fav, .int .i64 b.car, .int .i64 b.dut, .int .i64 b.stp])]) (fun ⟨bBB3, bBB4, bBB5⟩ => [⟨w.heap.size, .cells #[.int .i64 b.kind, .int .i64 b.runners, .slice A n c, .slice A2 m c2, .bool b.fav, .int .i64 b.car, .int .i64 b.dut, .int .i64 b.stp] 25 (0, 0)⟩, ⟨bBB3, .cells #[.int .i64 b.kind, .int .i64 b.runners, .slice A n c, .slice A2 m c2, .bool b.fav, .int .i64 b.car, .int .i64 b.dut, .int .i64 b.stp] 25 (0, 0)⟩, ⟨bBB4, .cells #[.int .i64 b.kind, .int .i64 b.runners, .slice A n c, .slice A2 m c2, .bool b.fav, .int .i64 b.car, .int .i64 b.dut, .int .i64 b.stp] 25 (0, 0)⟩, ⟨bBB5, .cells #[.int .i64 0, .int .i64 0, .slice none 0 0, .slice none 0 0, .bool false, .int .i64 0, .int .i64 0, .int .i64 0] 25 (0, 0)⟩]) (fun ⟨bBB3, bBB4, bBB5⟩ => ob ++ ([])) (fun ⟨bBB3, bBB4, bBB5⟩ _ => True) ?_ (fun hBB3_4_5_6_7 => ?_)
        · rintro ⟨bBB3, bBB4, bBB5⟩ wl8 _ hA
          refine runS hA 1 ([.h 8] ++ List.replicate 8 (.k 3)) xn on (by kernel_rfl) fun w109 hA => ?_
          exact joinE hBB3_4_5_6_7_8 ⟨bBB3, bBB4, bBB5⟩ trivial [0, 1, 2, 3] hA rfl (by kernel_rfl) (by decide)
        refine latS hA0BB [3, 4, 5, 6] (γ := Nat × Nat × Nat) (fun ⟨bBB3, bBB4, bBB5⟩ => [(2, .int .u32 mo), (3, .int .u16 du), (4, .pointer (some ⟨w.heap.size, 0, none⟩)), (8, .bool false), (9, .slice Af ((finL b ys 8).length) cf), (10, .pointer (some ⟨bBB3, 0, none⟩)), (11, .pointer (some ⟨bBB4, 0, none⟩)), (12, .pointer (some ⟨bBB5, 0, none⟩)), (36, .agg #[.int .i64 b.kind, .int .i64 b.runners, .slice A n c, .slice A2 m c2, .bool b.fav, .int .i64 b.car, .int .i64 b.dut, .int .i64 b.stp]), (37, .agg #[.int .i64 b.kind, .int .i64 b.runners, .slice A n c, .slice A2 m c2, .bool b.fav, .int .i64 b.car, .int .i64 b.dut, .int .i64 b.stp]), (38, .agg #[.int .i64 b.kind, .int .i64 b.runners, .slice A n c, .slice A2 m c2, .bool b.fav, .int .i64 b.car, .int .i64 b.dut, .int .i64 b.stp])]) (fun ⟨bBB3, bBB4, bBB5⟩ => [⟨w.heap.size, .cells #[.int .i64 b.kind, .int .i64 b.runners, .slice A n c, .slice A2 m c2, .bool b.fav, .int .i64 b.car, .int .i64 b.dut, .int .i64 b.stp] 25 (0, 0)⟩, ⟨bBB3, .cells #[.int .i64 b.kind, .int .i64 b.runners, .slice A n c, .slice A2 m c2, .bool b.fav, .int .i64 b.car, .int .i64 b.dut, .int .i64 b.stp] 25 (0, 0)⟩, ⟨bBB4, .cells #[.int .i64 0, .int .i64 0, .slice none 0 0, .slice none 0 0, .bool false, .int .i64 0, .int .i64 0, .int .i64 0] 25 (0, 0)⟩, ⟨bBB5, .cells #[.int .i64 0, .int .i64 0, .slice none 0 0, .slice none 0 0, .bool false, .int .i64 0, .int .i64 0, .int .i64 0] 25 (0, 0)⟩]) (fun ⟨bBB3, bBB4, bBB5⟩ => ob ++ ([])) (fun ⟨bBB3, bBB4, bBB5⟩ _ => True) ?_ (fun hBB3_4_5_6 => ?_)
        · rintro ⟨bBB3, bBB4, bBB5⟩ wl9 _ hA
          refine runS hA 1 ([.h 7] ++ List.replicate 8 (.k 2)) xn on (by kernel_rfl) fun w110 hA => ?_
          exact joinE hBB3_4_5_6_7 ⟨bBB3, bBB4, bBB5⟩ trivial [0, 1, 2, 3] hA rfl (by kernel_rfl) (by decide)
        refine latS hA0BB [3, 4, 5] (γ := Nat × Nat × Nat) (fun ⟨bBB3, bBB4, bBB5⟩ => [(2, .int .u32 mo), (3, .int .u16 du), (4, .pointer (some ⟨w.heap.size, 0, none⟩)), (8, .bool false), (9, .slice Af ((finL b ys 8).length) cf), (10, .pointer (some ⟨bBB3, 0, none⟩)), (11, .pointer (some ⟨bBB4, 0, none⟩)), (12, .pointer (some ⟨bBB5, 0, none⟩)), (36, .agg #[.int .i64 b.kind, .int .i64 b.runners, .slice A n c, .slice A2 m c2, .bool b.fav, .int .i64 b.car, .int .i64 b.dut, .int .i64 b.stp]), (37, .agg #[.int .i64 b.kind, .int .i64 b.runners, .slice A n c, .slice A2 m c2, .bool b.fav, .int .i64 b.car, .int .i64 b.dut, .int .i64 b.stp]), (38, .agg #[.int .i64 b.kind, .int .i64 b.runners, .slice A n c, .slice A2 m c2, .bool b.fav, .int .i64 b.car, .int .i64 b.dut, .int .i64 b.stp])]) (fun ⟨bBB3, bBB4, bBB5⟩ => [⟨w.heap.size, .cells #[.int .i64 b.kind, .int .i64 b.runners, .slice A n c, .slice A2 m c2, .bool b.fav, .int .i64 b.car, .int .i64 b.dut, .int .i64 b.stp] 25 (0, 0)⟩, ⟨bBB3, .cells #[.int .i64 0, .int .i64 0, .slice none 0 0, .slice none 0 0, .bool false, .int .i64 0, .int .i64 0, .int .i64 0] 25 (0, 0)⟩, ⟨bBB4, .cells #[.int .i64 0, .int .i64 0, .slice none 0 0, .slice none 0 0, .bool false, .int .i64 0, .int .i64 0, .int .i64 0] 25 (0, 0)⟩, ⟨bBB5, .cells #[.int .i64 0, .int .i64 0, .slice none 0 0, .slice none 0 0, .bool false, .int .i64 0, .int .i64 0, .int .i64 0] 25 (0, 0)⟩]) (fun ⟨bBB3, bBB4, bBB5⟩ => ob ++ ([])) (fun ⟨bBB3, bBB4, bBB5⟩ _ => True) ?_ (fun hBB3_4_5 => ?_)
        · rintro ⟨bBB3, bBB4, bBB5⟩ wl10 _ hA
          refine runS hA 1 ([.h 6] ++ List.replicate 8 (.k 1)) xn on (by kernel_rfl) fun w111 hA => ?_
          exact joinE hBB3_4_5_6 ⟨bBB3, bBB4, bBB5⟩ trivial [0, 1, 2, 3] hA rfl (by kernel_rfl) (by decide)
        refine latS hA0BB [4, 5] (γ := Nat × Nat) (fun ⟨bBB4, bBB5⟩ => [(2, .int .u32 mo), (3, .int .u16 du), (4, .pointer (some ⟨w.heap.size, 0, none⟩)), (8, .bool false), (9, .slice Af ((finL b ys 8).length) cf), (11, .pointer (some ⟨bBB4, 0, none⟩)), (12, .pointer (some ⟨bBB5, 0, none⟩)), (36, .agg #[.int .i64 b.kind, .int .i64 b.runners, .slice A n c, .slice A2 m c2, .bool b.fav, .int .i64 b.car, .int .i64 b.dut, .int .i64 b.stp]), (37, .agg #[.int .i64 b.kind, .int .i64 b.runners, .slice A n c, .slice A2 m c2, .bool b.fav, .int .i64 b.car, .int .i64 b.dut, .int .i64 b.stp]), (38, .agg #[.int .i64 b.kind, .int .i64 b.runners, .slice A n c, .slice A2 m c2, .bool b.fav, .int .i64 b.car, .int .i64 b.dut, .int .i64 b.stp])]) (fun ⟨bBB4, bBB5⟩ => [⟨w.heap.size, .cells #[.int .i64 b.kind, .int .i64 b.runners, .slice A n c, .slice A2 m c2, .bool b.fav, .int .i64 b.car, .int .i64 b.dut, .int .i64 b.stp] 25 (0, 0)⟩, ⟨bBB4, .cells #[.int .i64 0, .int .i64 0, .slice none 0 0, .slice none 0 0, .bool false, .int .i64 0, .int .i64 0, .int .i64 0] 25 (0, 0)⟩, ⟨bBB5, .cells #[.int .i64 0, .int .i64 0, .slice none 0 0, .slice none 0 0, .bool false, .int .i64 0, .int .i64 0, .int .i64 0] 25 (0, 0)⟩]) (fun ⟨bBB4, bBB5⟩ => ob ++ ([])) (fun ⟨bBB4, bBB5⟩ _ => True) ?_ (fun hBB4_5 => ?_)
        · rintro ⟨bBB4, bBB5⟩ wl11 _ hA
          refine runS hA 1 [.h 3] xn on (by kernel_rfl) fun w112 hA => ?_
          exact joinE hBB3_4_5 ⟨wl11.heap.size, bBB4, bBB5⟩ trivial [0, 3, 1, 2] hA rfl (by kernel_rfl) (by decide)
        refine latS hA0BB [3, 5] (γ := Nat × Nat) (fun ⟨bBB3, bBB5⟩ => [(2, .int .u32 mo), (3, .int .u16 du), (4, .pointer (some ⟨w.heap.size, 0, none⟩)), (8, .bool false), (9, .slice Af ((finL b ys 8).length) cf), (10, .pointer (some ⟨bBB3, 0, none⟩)), (12, .pointer (some ⟨bBB5, 0, none⟩)), (36, .agg #[.int .i64 b.kind, .int .i64 b.runners, .slice A n c, .slice A2 m c2, .bool b.fav, .int .i64 b.car, .int .i64 b.dut, .int .i64 b.stp]), (37, .agg #[.int .i64 b.kind, .int .i64 b.runners, .slice A n c, .slice A2 m c2, .bool b.fav, .int .i64 b.car, .int .i64 b.dut, .int .i64 b.stp]), (38, .agg #[.int .i64 b.kind, .int .i64 b.runners, .slice A n c, .slice A2 m c2, .bool b.fav, .int .i64 b.car, .int .i64 b.dut, .int .i64 b.stp])]) (fun ⟨bBB3, bBB5⟩ => [⟨w.heap.size, .cells #[.int .i64 b.kind, .int .i64 b.runners, .slice A n c, .slice A2 m c2, .bool b.fav, .int .i64 b.car, .int .i64 b.dut, .int .i64 b.stp] 25 (0, 0)⟩, ⟨bBB3, .cells #[.int .i64 0, .int .i64 0, .slice none 0 0, .slice none 0 0, .bool false, .int .i64 0, .int .i64 0, .int .i64 0] 25 (0, 0)⟩, ⟨bBB5, .cells #[.int .i64 0, .int .i64 0, .slice none 0 0, .slice none 0 0, .bool false, .int .i64 0, .int .i64 0, .int .i64 0] 25 (0, 0)⟩]) (fun ⟨bBB3, bBB5⟩ => ob ++ ([])) (fun ⟨bBB3, bBB5⟩ _ => True) ?_ (fun hBB3_5 => ?_)
        · rintro ⟨bBB3, bBB5⟩ wl12 _ hA
          refine runS hA 1 [.h 4] xn on (by kernel_rfl) fun w113 hA => ?_
          exact joinE hBB3_4_5 ⟨bBB3, wl12.heap.size, bBB5⟩ trivial [0, 1, 3, 2] hA rfl (by kernel_rfl) (by decide)
        refine latS hA0BB [3, 4] (γ := Nat × Nat) (fun ⟨bBB3, bBB4⟩ => [(2, .int .u32 mo), (3, .int .u16 du), (4, .pointer (some ⟨w.heap.size, 0, none⟩)), (8, .bool false), (9, .slice Af ((finL b ys 8).length) cf), (10, .pointer (some ⟨bBB3, 0, none⟩)), (11, .pointer (some ⟨bBB4, 0, none⟩)), (36, .agg #[.int .i64 b.kind, .int .i64 b.runners, .slice A n c, .slice A2 m c2, .bool b.fav, .int .i64 b.car, .int .i64 b.dut, .int .i64 b.stp]), (37, .agg #[.int .i64 b.kind, .int .i64 b.runners, .slice A n c, .slice A2 m c2, .bool b.fav, .int .i64 b.car, .int .i64 b.dut, .int .i64 b.stp]), (38, .agg #[.int .i64 b.kind, .int .i64 b.runners, .slice A n c, .slice A2 m c2, .bool b.fav, .int .i64 b.car, .int .i64 b.dut, .int .i64 b.stp])]) (fun ⟨bBB3, bBB4⟩ => [⟨w.heap.size, .cells #[.int .i64 b.kind, .int .i64 b.runners, .slice A n c, .slice A2 m c2, .bool b.fav, .int .i64 b.car, .int .i64 b.dut, .int .i64 b.stp] 25 (0, 0)⟩, ⟨bBB3, .cells #[.int .i64 0, .int .i64 0, .slice none 0 0, .slice none 0 0, .bool false, .int .i64 0, .int .i64 0, .int .i64 0] 25 (0, 0)⟩, ⟨bBB4, .cells #[.int .i64 0, .int .i64 0, .slice none 0 0, .slice none 0 0, .bool false, .int .i64 0, .int .i64 0, .int .i64 0] 25 (0, 0)⟩]) (fun ⟨bBB3, bBB4⟩ => ob ++ ([])) (fun ⟨bBB3, bBB4⟩ _ => True) ?_ (fun hBB3_4 => ?_)
        · rintro ⟨bBB3, bBB4⟩ wl13 _ hA
          refine runS hA 1 [.h 5] xn on (by kernel_rfl) fun w114 hA => ?_
          exact joinE hBB3_4_5 ⟨bBB3, bBB4, wl13.heap.size⟩ trivial [0, 1, 2, 3] hA rfl (by kernel_rfl) (by decide)
        refine latS hA0BB [5] (γ := Nat) (fun bBB5 => [(2, .int .u32 mo), (3, .int .u16 du), (4, .pointer (some ⟨w.heap.size, 0, none⟩)), (8, .bool false), (9, .slice Af ((finL b ys 8).length) cf), (12, .pointer (some ⟨bBB5, 0, none⟩)), (36, .agg #[.int .i64 b.kind, .int .i64 b.runners, .slice A n c, .slice A2 m c2, .bool b.fav, .int .i64 b.car, .int .i64 b.dut, .int .i64 b.stp]), (37, .agg #[.int .i64 b.kind, .int .i64 b.runners, .slice A n c, .slice A2 m c2, .bool b.fav, .int .i64 b.car, .int .i64 b.dut, .int .i64 b.stp]), (38, .agg #[.int .i64 b.kind, .int .i64 b.runners, .slice A n c, .slice A2 m c2, .bool b.fav, .int .i64 b.car, .int .i64 b.dut, .int .i64 b.stp])]) (fun bBB5 => [⟨w.heap.size, .cells #[.int .i64 b.kind, .int .i64 b.runners, .slice A n c, .slice A2 m c2, .bool b.fav, .int .i64 b.car, .int .i64 b.dut, .int .i64 b.stp] 25 (0, 0)⟩, ⟨bBB5, .cells #[.int .i64 0, .int .i64 0, .slice none 0 0, .slice none 0 0, .bool false, .int .i64 0, .int .i64 0, .int .i64 0] 25 (0, 0)⟩]) (fun bBB5 => ob ++ ([])) (fun bBB5 _ => True) ?_ (fun hBB5 => ?_)
        · rintro bBB5 wl14 _ hA
          refine manyS hA 3 [4] (by kernel_rfl) ⟨fun hA => ?_, fun hA => ?_, trivial⟩
          ·
            refine runS hA 1 [] xn on (by kernel_rfl) fun w115 hA => ?_
            exact joinE hBB3_5 ⟨wl14.heap.size, bBB5⟩ trivial [0, 2, 1] hA rfl (by kernel_rfl) (by decide)
          ·
            refine runS hA 1 [] xn on (by kernel_rfl) fun w115 hA => ?_
            exact joinE hBB4_5 ⟨wl14.heap.size, bBB5⟩ trivial [0, 2, 1] hA rfl (by kernel_rfl) (by decide)
        refine latS hA0BB [4] (γ := Nat) (fun bBB4 => [(2, .int .u32 mo), (3, .int .u16 du), (4, .pointer (some ⟨w.heap.size, 0, none⟩)), (8, .bool false), (9, .slice Af ((finL b ys 8).length) cf), (11, .pointer (some ⟨bBB4, 0, none⟩)), (36, .agg #[.int .i64 b.kind, .int .i64 b.runners, .slice A n c, .slice A2 m c2, .bool b.fav, .int .i64 b.car, .int .i64 b.dut, .int .i64 b.stp]), (37, .agg #[.int .i64 b.kind, .int .i64 b.runners, .slice A n c, .slice A2 m c2, .bool b.fav, .int .i64 b.car, .int .i64 b.dut, .int .i64 b.stp]), (38, .agg #[.int .i64 b.kind, .int .i64 b.runners, .slice A n c, .slice A2 m c2, .bool b.fav, .int .i64 b.car, .int .i64 b.dut, .int .i64 b.stp])]) (fun bBB4 => [⟨w.heap.size, .cells #[.int .i64 b.kind, .int .i64 b.runners, .slice A n c, .slice A2 m c2, .bool b.fav, .int .i64 b.car, .int .i64 b.dut, .int .i64 b.stp] 25 (0, 0)⟩, ⟨bBB4, .cells #[.int .i64 0, .int .i64 0, .slice none 0 0, .slice none 0 0, .bool false, .int .i64 0, .int .i64 0, .int .i64 0] 25 (0, 0)⟩]) (fun bBB4 => ob ++ ([])) (fun bBB4 _ => True) ?_ (fun hBB4 => ?_)
        · rintro bBB4 wl15 _ hA
          refine manyS hA 3 [5] (by kernel_rfl) ⟨fun hA => ?_, fun hA => ?_, trivial⟩
          ·
            refine runS hA 1 [] xn on (by kernel_rfl) fun w116 hA => ?_
            exact joinE hBB3_4 ⟨wl15.heap.size, bBB4⟩ trivial [0, 2, 1] hA rfl (by kernel_rfl) (by decide)
          ·
            refine runS hA 1 [] xn on (by kernel_rfl) fun w116 hA => ?_
            exact joinE hBB4_5 ⟨bBB4, wl15.heap.size⟩ trivial [0, 1, 2] hA rfl (by kernel_rfl) (by decide)
        refine latS hA0BB [3] (γ := Nat) (fun bBB3 => [(2, .int .u32 mo), (3, .int .u16 du), (4, .pointer (some ⟨w.heap.size, 0, none⟩)), (8, .bool false), (9, .slice Af ((finL b ys 8).length) cf), (10, .pointer (some ⟨bBB3, 0, none⟩)), (36, .agg #[.int .i64 b.kind, .int .i64 b.runners, .slice A n c, .slice A2 m c2, .bool b.fav, .int .i64 b.car, .int .i64 b.dut, .int .i64 b.stp]), (37, .agg #[.int .i64 b.kind, .int .i64 b.runners, .slice A n c, .slice A2 m c2, .bool b.fav, .int .i64 b.car, .int .i64 b.dut, .int .i64 b.stp]), (38, .agg #[.int .i64 b.kind, .int .i64 b.runners, .slice A n c, .slice A2 m c2, .bool b.fav, .int .i64 b.car, .int .i64 b.dut, .int .i64 b.stp])]) (fun bBB3 => [⟨w.heap.size, .cells #[.int .i64 b.kind, .int .i64 b.runners, .slice A n c, .slice A2 m c2, .bool b.fav, .int .i64 b.car, .int .i64 b.dut, .int .i64 b.stp] 25 (0, 0)⟩, ⟨bBB3, .cells #[.int .i64 0, .int .i64 0, .slice none 0 0, .slice none 0 0, .bool false, .int .i64 0, .int .i64 0, .int .i64 0] 25 (0, 0)⟩]) (fun bBB3 => ob ++ ([])) (fun bBB3 _ => True) ?_ (fun hBB3 => ?_)
        · rintro bBB3 wl16 _ hA
          refine manyS hA 4 [5] (by kernel_rfl) ⟨fun hA => ?_, fun hA => ?_, trivial⟩
          ·
            refine runS hA 1 [] xn on (by kernel_rfl) fun w117 hA => ?_
            exact joinE hBB3_4 ⟨bBB3, wl16.heap.size⟩ trivial [0, 1, 2] hA rfl (by kernel_rfl) (by decide)
          ·
            refine runS hA 1 [] xn on (by kernel_rfl) fun w117 hA => ?_
            exact joinE hBB3_5 ⟨bBB3, wl16.heap.size⟩ trivial [0, 1, 2] hA rfl (by kernel_rfl) (by decide)
        replace hA := hA0BB
        refine manyS hA 3 [4, 5] (by kernel_rfl) ⟨fun hA => ?_, fun hA => ?_, fun hA => ?_, trivial⟩
        ·
          refine runS hA 1 [] xn on (by kernel_rfl) fun w17 hA => ?_
          exact joinE hBB3 w5.heap.size trivial [0, 1] hA rfl (by kernel_rfl) (by decide)
        ·
          refine runS hA 1 [] xn on (by kernel_rfl) fun w17 hA => ?_
          exact joinE hBB4 w5.heap.size trivial [0, 1] hA rfl (by kernel_rfl) (by decide)
        ·
          refine runS hA 1 [] xn on (by kernel_rfl) fun w17 hA => ?_
          exact joinE hBB5 w5.heap.size trivial [0, 1] hA rfl (by kernel_rfl) (by decide)
      rintro ⟨bBB3, bBB4, bBB5⟩ w66 _ hA
      refine runS hA 10 [.b true, .k 0] xn on (by kernel_rfl) fun w67 hA => ?_
      obtain ⟨cx, hcx⟩ : ∃ cx, cx = if b.car + mo < 1000000 then b.car + mo else 1000000 := ⟨_, rfl⟩
      obtain ⟨dy, hdy⟩ : ∃ dy, dy = if b.dut + du < 500 then b.dut + du else 500 := ⟨_, rfl⟩
      have hvc := V.car
      have hvd := V.dut
      have hvs := V.stp
      have hwm : IntKind.i64.wrap mo = mo := by rw [IntKind.wrap_i64]; omega
      have hwc : IntKind.i64.wrap (b.car + mo) = b.car + mo := by rw [IntKind.wrap_i64]; omega
      have hwd : IntKind.i64.wrap du = du := by rw [IntKind.wrap_i64]; omega
      have hwe : IntKind.i64.wrap (b.dut + du) = b.dut + du := by rw [IntKind.wrap_i64]; omega
      refine revals hA (rc 44 (show .int .i64 (if (IntKind.i64.wrap (b.car + (IntKind.i64.wrap mo))) < 1000000 then IntKind.i64.wrap (b.car + (IntKind.i64.wrap mo)) else 1000000) = .int .i64 cx by rw [hcx, hwm, hwc]) rn) (by kernel_rfl) fun hA => ?_
      refine runS hA 12 [.k 1, .k 0] xn on (by kernel_rfl) fun w68 hA => ?_
      refine revals hA (rc 51 (show .int .i64 (if (IntKind.i64.wrap (b.dut + (IntKind.i64.wrap du))) < 500 then IntKind.i64.wrap (b.dut + (IntKind.i64.wrap du)) else 500) = .int .i64 dy by rw [hdy, hwd, hwe]) rn) (by kernel_rfl) fun hA => ?_
      refine runS hA 14 ([.k 2, .k 3] ++ List.replicate 8 (.k 0)) xn on (by kernel_rfl) fun w69 hA => ?_
      have hcx1 : b.car ≤ cx ∧ cx ≤ 1000000 := by rw [hcx]; split <;> omega
      have hdy1 : b.dut ≤ dy ∧ dy ≤ 500 := by rw [hdy]; split <;> omega
      have h0x : bookF (bkN b cx b.dut b.stp) = 0 := bookF_num h0 (by omega) hvd hvs
      have h0y : bookF (bkN b b.car dy b.stp) = 0 := bookF_num h0 hvc (by omega) hvs
      have h0z : bookF (bkN b b.car b.dut 1) = 0 := bookF_num h0 hvc hvd (by decide)
      have hfx : isFinF (bkN b cx b.dut b.stp) (finL b ys 8) = true := by rw [isFin_num]; exact hfin
      have hfy : isFinF (bkN b b.car dy b.stp) (finL b ys 8) = true := by rw [isFin_num]; exact hfin
      have hfz : isFinF (bkN b b.car b.dut 1) (finL b ys 8) = true := by rw [isFin_num]; exact hfin
      have hx : BkAt w B (bkN b cx b.dut b.stp) A n c A2 m c2 := ⟨h.bets, h.scr, h.hc, h.hc2⟩
      have hyb : BkAt w B (bkN b b.car dy b.stp) A n c A2 m c2 := ⟨h.bets, h.scr, h.hc, h.hc2⟩
      have hz : BkAt w B (bkN b b.car b.dut 1) A n c A2 m c2 := ⟨h.bets, h.scr, h.hc, h.hc2⟩
      obtain ⟨LN, hLN⟩ : ∃ LN, LN = (dvL b (finL b ys 8)).length := ⟨_, rfl⟩
      have hLb : LN ≤ 1000 := by rw [hLN]; exact dvL_len2 h0 hfin
      have hLx : (dvL (bkN b cx b.dut b.stp) (finL b ys 8)).length = LN := by rw [hLN, dvL_len, dvL_len, bkd_num]
      have hLy : (dvL (bkN b b.car dy b.stp) (finL b ys 8)).length = LN := by rw [hLN, dvL_len, dvL_len, bkd_num]
      have hApl := hA.atK [⟨w.heap.size, .cells #[.int .i64 b.kind, .int .i64 b.runners, .slice A n c, .slice A2 m c2, .bool b.fav, .int .i64 b.car, .int .i64 b.dut, .int .i64 b.stp] 25 (0, 0)⟩, ⟨bBB3, .cells #[.int .i64 b.kind, .int .i64 b.runners, .slice A n c, .slice A2 m c2, .bool b.fav, .int .i64 cx, .int .i64 b.dut, .int .i64 b.stp] 25 (0, 0)⟩, ⟨bBB4, .cells #[.int .i64 b.kind, .int .i64 b.runners, .slice A n c, .slice A2 m c2, .bool b.fav, .int .i64 b.car, .int .i64 dy, .int .i64 b.stp] 25 (0, 0)⟩, ⟨bBB5, .cells #[.int .i64 b.kind, .int .i64 b.runners, .slice A n c, .slice A2 m c2, .bool b.fav, .int .i64 b.car, .int .i64 b.dut, .int .i64 1] 25 (0, 0)⟩] (by kernel_rfl)
      refine call hA [] on (paidS_any w69 w69.heap.size b A n c A2 m c2 Af (finL b ys 8).length cf (finL b ys 8) (dvL b (finL b ys 8)) LN ((h.below hA.below hB).more (Nat.le_trans hB hA.size)) (hfk _ (fun kb hk => hA.at_.rok kb (List.mem_append_left _ hk))) (Nat.le_refl _) h0 hfin (rfl) (hLN.symm)) (by kernel_rfl) (by rintro e v ⟨Al, cl, rfl, hbl, hol⟩; exact hbl) ?_
      rintro e w70 ⟨Al, cl, rfl, hbl, hol⟩
      refine ⟨_, rfl, fun hA => ?_⟩
      obtain ⟨ob8l, hrl, hA2l⟩ := At.own hApl hbl hol
      refine reknow ⟨[⟨w.heap.size, .cells #[.int .i64 b.kind, .int .i64 b.runners, .slice A n c, .slice A2 m c2, .bool b.fav, .int .i64 b.car, .int .i64 b.dut, .int .i64 b.stp] 25 (0, 0)⟩, ⟨bBB3, .cells #[.int .i64 b.kind, .int .i64 b.runners, .slice A n c, .slice A2 m c2, .bool b.fav, .int .i64 cx, .int .i64 b.dut, .int .i64 b.stp] 25 (0, 0)⟩, ⟨bBB4, .cells #[.int .i64 b.kind, .int .i64 b.runners, .slice A n c, .slice A2 m c2, .bool b.fav, .int .i64 b.car, .int .i64 dy, .int .i64 b.stp] 25 (0, 0)⟩, ⟨bBB5, .cells #[.int .i64 b.kind, .int .i64 b.runners, .slice A n c, .slice A2 m c2, .bool b.fav, .int .i64 b.car, .int .i64 b.dut, .int .i64 1] 25 (0, 0)⟩], w70.heap.size, [], [], [], [], []⟩ hA2l (Nat.zero_le _) fun hA => ?_
      have hptl := row_at hrl (by omega)
      refine runS hA 11 (List.replicate 8 (.k 1)) xn on (by kernel_rfl) fun w71 hA => ?_
      have hApm := hA.atK [⟨w.heap.size, .cells #[.int .i64 b.kind, .int .i64 b.runners, .slice A n c, .slice A2 m c2, .bool b.fav, .int .i64 b.car, .int .i64 b.dut, .int .i64 b.stp] 25 (0, 0)⟩, ⟨bBB3, .cells #[.int .i64 b.kind, .int .i64 b.runners, .slice A n c, .slice A2 m c2, .bool b.fav, .int .i64 cx, .int .i64 b.dut, .int .i64 b.stp] 25 (0, 0)⟩, ⟨bBB4, .cells #[.int .i64 b.kind, .int .i64 b.runners, .slice A n c, .slice A2 m c2, .bool b.fav, .int .i64 b.car, .int .i64 dy, .int .i64 b.stp] 25 (0, 0)⟩, ⟨bBB5, .cells #[.int .i64 b.kind, .int .i64 b.runners, .slice A n c, .slice A2 m c2, .bool b.fav, .int .i64 b.car, .int .i64 b.dut, .int .i64 1] 25 (0, 0)⟩] (by kernel_rfl)
      refine call hA [] on (paidS_any w71 w71.heap.size (bkN b cx b.dut b.stp) A n c A2 m c2 Af (finL b ys 8).length cf (finL b ys 8) (dvL (bkN b cx b.dut b.stp) (finL b ys 8)) LN ((hx.below hA.below hB).more (Nat.le_trans hB hA.size)) (hfk _ (fun kb hk => hA.at_.rok kb (List.mem_append_right _ (List.mem_append_left _ hk)))) (Nat.le_refl _) h0x hfx (rfl) (hLx)) (by kernel_rfl) (by rintro e v ⟨Am, cm, rfl, hbm, hom⟩; exact hbm) ?_
      rintro e w72 ⟨Am, cm, rfl, hbm, hom⟩
      refine ⟨_, rfl, fun hA => ?_⟩
      obtain ⟨ob8m, hrm, hA2m⟩ := At.own hApm hbm hom
      refine reknow ⟨[⟨w.heap.size, .cells #[.int .i64 b.kind, .int .i64 b.runners, .slice A n c, .slice A2 m c2, .bool b.fav, .int .i64 b.car, .int .i64 b.dut, .int .i64 b.stp] 25 (0, 0)⟩, ⟨bBB3, .cells #[.int .i64 b.kind, .int .i64 b.runners, .slice A n c, .slice A2 m c2, .bool b.fav, .int .i64 cx, .int .i64 b.dut, .int .i64 b.stp] 25 (0, 0)⟩, ⟨bBB4, .cells #[.int .i64 b.kind, .int .i64 b.runners, .slice A n c, .slice A2 m c2, .bool b.fav, .int .i64 b.car, .int .i64 dy, .int .i64 b.stp] 25 (0, 0)⟩, ⟨bBB5, .cells #[.int .i64 b.kind, .int .i64 b.runners, .slice A n c, .slice A2 m c2, .bool b.fav, .int .i64 b.car, .int .i64 b.dut, .int .i64 1] 25 (0, 0)⟩], w72.heap.size, [], [], [], [], []⟩ hA2m (Nat.zero_le _) fun hA => ?_
      have hptm := row_at hrm (by omega)
      refine runS hA 11 (List.replicate 8 (.k 2)) xn on (by kernel_rfl) fun w73 hA => ?_
      have hApq := hA.atK [⟨w.heap.size, .cells #[.int .i64 b.kind, .int .i64 b.runners, .slice A n c, .slice A2 m c2, .bool b.fav, .int .i64 b.car, .int .i64 b.dut, .int .i64 b.stp] 25 (0, 0)⟩, ⟨bBB3, .cells #[.int .i64 b.kind, .int .i64 b.runners, .slice A n c, .slice A2 m c2, .bool b.fav, .int .i64 cx, .int .i64 b.dut, .int .i64 b.stp] 25 (0, 0)⟩, ⟨bBB4, .cells #[.int .i64 b.kind, .int .i64 b.runners, .slice A n c, .slice A2 m c2, .bool b.fav, .int .i64 b.car, .int .i64 dy, .int .i64 b.stp] 25 (0, 0)⟩, ⟨bBB5, .cells #[.int .i64 b.kind, .int .i64 b.runners, .slice A n c, .slice A2 m c2, .bool b.fav, .int .i64 b.car, .int .i64 b.dut, .int .i64 1] 25 (0, 0)⟩] (by kernel_rfl)
      refine call hA [] on (paidS_any w73 w73.heap.size (bkN b b.car dy b.stp) A n c A2 m c2 Af (finL b ys 8).length cf (finL b ys 8) (dvL (bkN b b.car dy b.stp) (finL b ys 8)) LN ((hyb.below hA.below hB).more (Nat.le_trans hB hA.size)) (hfk _ (fun kb hk => hA.at_.rok kb (List.mem_append_right _ (List.mem_append_right _ (List.mem_append_left _ hk))))) (Nat.le_refl _) h0y hfy (rfl) (hLy)) (by kernel_rfl) (by rintro e v ⟨Aq, cq, rfl, hbq, hoq⟩; exact hbq) ?_
      rintro e w74 ⟨Aq, cq, rfl, hbq, hoq⟩
      refine ⟨_, rfl, fun hA => ?_⟩
      obtain ⟨ob8q, hrq, hA2q⟩ := At.own hApq hbq hoq
      refine reknow ⟨[⟨w.heap.size, .cells #[.int .i64 b.kind, .int .i64 b.runners, .slice A n c, .slice A2 m c2, .bool b.fav, .int .i64 b.car, .int .i64 b.dut, .int .i64 b.stp] 25 (0, 0)⟩, ⟨bBB3, .cells #[.int .i64 b.kind, .int .i64 b.runners, .slice A n c, .slice A2 m c2, .bool b.fav, .int .i64 cx, .int .i64 b.dut, .int .i64 b.stp] 25 (0, 0)⟩, ⟨bBB4, .cells #[.int .i64 b.kind, .int .i64 b.runners, .slice A n c, .slice A2 m c2, .bool b.fav, .int .i64 b.car, .int .i64 dy, .int .i64 b.stp] 25 (0, 0)⟩, ⟨bBB5, .cells #[.int .i64 b.kind, .int .i64 b.runners, .slice A n c, .slice A2 m c2, .bool b.fav, .int .i64 b.car, .int .i64 b.dut, .int .i64 1] 25 (0, 0)⟩], w74.heap.size, [], [], [], [], []⟩ hA2q (Nat.zero_le _) fun hA => ?_
      have hptq := row_at hrq (by omega)
      refine runS hA 11 (List.replicate 8 (.k 0)) xn on (by kernel_rfl) fun w75 hA => ?_
      have hatz : atF (bkN b b.car b.dut 1) (finL b ys 8) = 0 := by unfold atF; rw [if_pos h0z, if_pos hfz]
      obtain ⟨a, ha⟩ : ∃ a, a = AccountF b (finL b ys 8) := ⟨_, rfl⟩
      obtain ⟨az, haz⟩ : ∃ az, az = AccountF (bkN b b.car b.dut 1) (finL b ys 8) := ⟨_, rfl⟩
      have hpd : a.paid ≤ az.paid := by rw [ha, haz, acc_paid h0 hfin, acc_paid h0z hfz]; exact pd_step V
      have hP := Account_any w75 w75.heap.size b A n c A2 m c2 Af (finL b ys 8).length cf (finL b ys 8) ((h.below hA.below hB).more (Nat.le_trans hB hA.size)) (hfk _ (fun kb hk => hA.at_.rok kb (List.mem_append_right _ (List.mem_append_right _ (List.mem_append_right _ (List.mem_append_left _ hk)))))) (Nat.le_refl _)
      rw [← ha, hat0] at hP
      refine callB hA [] on (hP) (by kernel_rfl) fun w76 hb76 hA => ?_
      refine runS hA 12 (List.replicate 6 (.k 4) ++ List.replicate 8 (.k 3)) xn on (by kernel_rfl) fun w77 hA => ?_
      have hP := Account_any w77 w77.heap.size (bkN b b.car b.dut 1) A n c A2 m c2 Af (finL b ys 8).length cf (finL b ys 8) ((hz.below hA.below hB).more (Nat.le_trans hB hA.size)) (hfk _ (fun kb hk => hA.at_.rok kb (List.mem_append_right _ (List.mem_append_right _ (List.mem_append_right _ (List.mem_append_left _ hk)))))) (Nat.le_refl _)
      rw [← haz, hatz] at hP
      refine callB hA [] on (hP) (by kernel_rfl) fun w78 hb78 hA => ?_
      refine runS hA 62 (List.replicate 6 (.k 5) ++ List.replicate 20 (.g false) ++ [.k 5, .g false, .g false, .k 4, .g false, .b false]) xn (oc (rfl : Value.bool false = .bool false) (oc (rfl : Value.bool false = .bool false) (oc (rfl : Value.bool false = .bool false) (oc (rfl : Value.bool false = .bool false) (oc (rfl : Value.bool false = .bool false) (oc (rfl : Value.bool false = .bool false) (oc (rfl : Value.bool false = .bool false) (oc (rfl : Value.bool false = .bool false) (oc (rfl : Value.bool false = .bool false) (oc (ne_f (a := (LN : Int)) (b := (LN : Int)) rfl) (oc (rfl : Value.bool false = .bool false) (oc (rfl : Value.bool false = .bool false) (oc (rfl : Value.bool false = .bool false) (oc (rfl : Value.bool false = .bool false) (oc (ne_f (a := (LN : Int)) (b := (LN : Int)) rfl) (oc (rfl : Value.bool false = .bool false) (oc (rfl : Value.bool false = .bool false) (oc (rfl : Value.bool false = .bool false) (oc (rfl : Value.bool false = .bool false) (oc (rfl : Value.bool false = .bool false) (oc (rfl : Value.bool false = .bool false) (oc (rfl : Value.bool false = .bool false) (oc (rfl : Value.bool false = .bool false) (oc (dec_f (show ¬ ((az.paid : Int) < (a.paid : Int)) by omega)) on)))))))))))))))))))))))) (by kernel_rfl) fun w79 hA => ?_
      refine loop (γ := Nat) (fun i => [(13, .slice Al LN cl), (15, .slice Am LN cm), (17, .slice Aq LN cq), (23, .int .i64 (i : Int))]) (fun i => [⟨w.heap.size, .cells #[.int .i64 b.kind, .int .i64 b.runners, .slice A n c, .slice A2 m c2, .bool b.fav, .int .i64 b.car, .int .i64 b.dut, .int .i64 b.stp] 25 (0, 0)⟩, ⟨bBB3, .cells #[.int .i64 b.kind, .int .i64 b.runners, .slice A n c, .slice A2 m c2, .bool b.fav, .int .i64 cx, .int .i64 b.dut, .int .i64 b.stp] 25 (0, 0)⟩, ⟨bBB4, .cells #[.int .i64 b.kind, .int .i64 b.runners, .slice A n c, .slice A2 m c2, .bool b.fav, .int .i64 b.car, .int .i64 dy, .int .i64 b.stp] 25 (0, 0)⟩, ⟨bBB5, .cells #[.int .i64 b.kind, .int .i64 b.runners, .slice A n c, .slice A2 m c2, .bool b.fav, .int .i64 b.car, .int .i64 b.dut, .int .i64 1] 25 (0, 0)⟩, ⟨w76.heap.size, .cells #[.int .i64 a.inn, .int .i64 a.back, .int .i64 a.duty, .int .i64 a.paid, .int .i64 a.kept, .int .i64 a.over] 47 (0, 0)⟩, ⟨w78.heap.size, .cells #[.int .i64 az.inn, .int .i64 az.back, .int .i64 az.duty, .int .i64 az.paid, .int .i64 az.kept, .int .i64 az.over] 47 (0, 0)⟩]) (fun _ => ob8q ++ (ob8m ++ (ob8l ++ (ob ++ ([]))))) (fun g i wr => i ≤ LN ∧ g = LN - i) LN 0 [true, true, true, true, true, true] hA (by kernel_rfl) (⟨Nat.zero_le _, rfl⟩) ?_
      rintro _ i wr ⟨hi, rfl⟩ J hJ hA
      by_cases hlt : i < LN
      case neg =>
        refine runS hA 12 [.b false] xn (oc (dec_f (show ¬ (((i : Int) : Int) < (LN : Int)) by omega)) on) (by kernel_rfl) fun w80 hA => ?_
        refine leave hA (by kernel_rfl) fun hA => ?_
        refine runS hA 4 [] xn on (by kernel_rfl) fun w81 hA => ?_
        refine callB hA [] on (Works_any w81) (by kernel_rfl) fun w82 hb82 hA => ?_
        refine runS hA 4 [] xn on (by kernel_rfl) fun w83 hA => ?_
        exact ret (v := .bool true) hA [] (by kernel_rfl) ⟨rfl, hA.below⟩
      case pos =>
        refine runS hA 15 [.b true] xn (oc (dec_t (show (((i : Int) : Int) < (LN : Int)) by omega)) on) (by kernel_rfl) fun w80 hA => ?_
        have hRl := hptl _ (fun kb hk => hA.at_.rok kb (List.mem_append_right _ (List.mem_append_right _ (List.mem_append_left _ hk))))
        have hRm := hptm _ (fun kb hk => hA.at_.rok kb (List.mem_append_right _ (List.mem_append_left _ hk)))
        have hRq := hptq _ (fun kb hk => hA.at_.rok kb (List.mem_append_left _ hk))
        obtain ⟨bl1, ol, rfl, hbl1, hcbl1⟩ := hRl.2.2 (by omega)
        obtain ⟨ge0, ge1, ge2⟩ := encD_get (dvL b (finL b ys 8)) i (by omega)
        have e0 : bl1 < w80.heap.size ∧ w80.cell? ⟨bl1, ol + i * 3, none⟩ = some (.int .i64 ((dvL b (finL b ys 8))[i]?.getD ((0, 0), 0)).1.1) := ⟨hbl1, by have := hcbl1 _ _ ge0; exact this⟩
        have e1 : bl1 < w80.heap.size ∧ w80.cell? ⟨bl1, ol + i * 3 + 1, none⟩ = some (.int .i64 ((dvL b (finL b ys 8))[i]?.getD ((0, 0), 0)).1.2) := ⟨hbl1, by have := hcbl1 _ _ ge1; exact this⟩
        have e2 : bl1 < w80.heap.size ∧ w80.cell? ⟨bl1, ol + i * 3 + 2, none⟩ = some (.int .i64 ((dvL b (finL b ys 8))[i]?.getD ((0, 0), 0)).2) := ⟨hbl1, by have := hcbl1 _ _ ge2; exact this⟩
        have hup : ((dvL b (finL b ys 8))[i]?.getD ((0, 0), 0)).2 ≤ pnF (dvL (bkN b cx b.dut b.stp) (finL b ys 8)) (((dvL b (finL b ys 8))[i]?.getD ((0, 0), 0)).1.1, ((dvL b (finL b ys 8))[i]?.getD ((0, 0), 0)).1.2) := by rw [dvL_get (by omega), pn_dv]; exact dv_num V (by omega) ⟨hvd.1, Int.le_refl _⟩ _
        have hdn : pnF (dvL (bkN b b.car dy b.stp) (finL b ys 8)) (((dvL b (finL b ys 8))[i]?.getD ((0, 0), 0)).1.1, ((dvL b (finL b ys 8))[i]?.getD ((0, 0), 0)).1.2) ≤ ((dvL b (finL b ys 8))[i]?.getD ((0, 0), 0)).2 := by rw [dvL_get (by omega), pn_dv]; exact dv_dut V (valid_of h0y) (by omega) _
        have hS := hA.atK [⟨w.heap.size, .cells #[.int .i64 b.kind, .int .i64 b.runners, .slice A n c, .slice A2 m c2, .bool b.fav, .int .i64 b.car, .int .i64 b.dut, .int .i64 b.stp] 25 (0, 0)⟩, ⟨bBB3, .cells #[.int .i64 b.kind, .int .i64 b.runners, .slice A n c, .slice A2 m c2, .bool b.fav, .int .i64 cx, .int .i64 b.dut, .int .i64 b.stp] 25 (0, 0)⟩, ⟨bBB4, .cells #[.int .i64 b.kind, .int .i64 b.runners, .slice A n c, .slice A2 m c2, .bool b.fav, .int .i64 b.car, .int .i64 dy, .int .i64 b.stp] 25 (0, 0)⟩, ⟨bBB5, .cells #[.int .i64 b.kind, .int .i64 b.runners, .slice A n c, .slice A2 m c2, .bool b.fav, .int .i64 b.car, .int .i64 b.dut, .int .i64 1] 25 (0, 0)⟩, ⟨w76.heap.size, .cells #[.int .i64 a.inn, .int .i64 a.back, .int .i64 a.duty, .int .i64 a.paid, .int .i64 a.kept, .int .i64 a.over] 47 (0, 0)⟩, ⟨w78.heap.size, .cells #[.int .i64 az.inn, .int .i64 az.back, .int .i64 az.duty, .int .i64 az.paid, .int .i64 az.kept, .int .i64 az.over] 47 (0, 0)⟩] (by kernel_rfl)
        refine rebase hA w80 (by kernel_rfl) (At.start _) fun hA => ?_
        refine draw hA [] [0, 1, 2, 3, 4, 5, 6, 7, 8, 9, 10, 11, 12, 13, 14, 15, 16, 17, 18, 19, 20, 21, 22, 23, 24, 25, 26, 27, 28, 29, 30, 31, 32, 33, 34, 35, 36, 37] (by kernel_rfl) (by kernel_rfl) fun hA => ?_
        refine runS hA 16 [.t 0, .t 1, .t 2, .t 3, .i, .t 4, .t 5, .x (.int .i64 (((dvL b (finL b ys 8))[i]?.getD ((0, 0), 0)).1.1)), .t 6, .t 7, .t 8, .i, .t 9, .t 10, .x (.int .i64 (((dvL b (finL b ys 8))[i]?.getD ((0, 0), 0)).1.2)), .t 12, .t 13, .t 14, .i, .t 15, .t 16, .x (.int .i64 (((dvL b (finL b ys 8))[i]?.getD ((0, 0), 0)).2))] (xc (a := ⟨bl1, ol + i * 3, none⟩) e0 (xc (a := ⟨bl1, ol + i * 3 + 1, none⟩) e1 (xc (a := ⟨bl1, ol + i * 3 + 2, none⟩) e2 xn))) (oc (show (0 : Int) ≤ ((i : Int) : Int) ∧ ((i : Int) : Int) < (LN : Int) by omega) (oc (show (0 : Int) ≤ ((i : Int) : Int) ∧ ((i : Int) : Int) < (LN : Int) by omega) (oc (show (0 : Int) ≤ ((i : Int) : Int) ∧ ((i : Int) : Int) < (LN : Int) by omega) on))) (by kernel_rfl) fun w81 hA => ?_
        refine callB hA [] on (pence_any w81 w80.heap.size Am LN cm (dvL (bkN b cx b.dut b.stp) (finL b ys 8)) ((dvL b (finL b ys 8))[i]?.getD ((0, 0), 0)).1.1 ((dvL b (finL b ys 8))[i]?.getD ((0, 0), 0)).1.2 (hRm.below hA.below (Nat.le_refl _)) hA.size) (by kernel_rfl) fun w82 hb82 hA => ?_
        refine runS hA 18 [.t 17, .t 18, .t 19, .g false, .t 20, .g false, .t 21, .g false, .t 22, .g false, .i, .t 23, .g false, .t 24, .g false, .x (.int .i64 (((dvL b (finL b ys 8))[i]?.getD ((0, 0), 0)).1.1)), .t 25, .g false, .t 26, .g false, .t 27, .g false, .i, .t 28, .g false, .t 29, .g false, .x (.int .i64 (((dvL b (finL b ys 8))[i]?.getD ((0, 0), 0)).1.2)), .t 31, .g false, .t 32, .g false, .t 33, .g false, .i, .t 34, .g false, .t 35, .g false, .x (.int .i64 (((dvL b (finL b ys 8))[i]?.getD ((0, 0), 0)).2))] (xc (a := ⟨bl1, ol + i * 3, none⟩) e0 (xc (a := ⟨bl1, ol + i * 3 + 1, none⟩) e1 (xc (a := ⟨bl1, ol + i * 3 + 2, none⟩) e2 xn))) (oc (dec_f (show ¬ (((pnF (dvL (bkN b cx b.dut b.stp) (finL b ys 8)) (((dvL b (finL b ys 8))[i]?.getD ((0, 0), 0)).1.1, ((dvL b (finL b ys 8))[i]?.getD ((0, 0), 0)).1.2)) : Int) < (((dvL b (finL b ys 8))[i]?.getD ((0, 0), 0)).2 : Int)) by omega)) (oc (rfl : Value.bool false = .bool false) (oc (rfl : Value.bool false = .bool false) (oc (rfl : Value.bool false = .bool false) (oc (show (0 : Int) ≤ ((i : Int) : Int) ∧ ((i : Int) : Int) < (LN : Int) by omega) (oc (rfl : Value.bool false = .bool false) (oc (rfl : Value.bool false = .bool false) (oc (rfl : Value.bool false = .bool false) (oc (rfl : Value.bool false = .bool false) (oc (rfl : Value.bool false = .bool false) (oc (show (0 : Int) ≤ ((i : Int) : Int) ∧ ((i : Int) : Int) < (LN : Int) by omega) (oc (rfl : Value.bool false = .bool false) (oc (rfl : Value.bool false = .bool false) (oc (rfl : Value.bool false = .bool false) (oc (rfl : Value.bool false = .bool false) (oc (rfl : Value.bool false = .bool false) (oc (show (0 : Int) ≤ ((i : Int) : Int) ∧ ((i : Int) : Int) < (LN : Int) by omega) (oc (rfl : Value.bool false = .bool false) (oc (rfl : Value.bool false = .bool false) on))))))))))))))))))) (by kernel_rfl) fun w83 hA => ?_
        refine callB hA [] on (pence_any w83 w80.heap.size Aq LN cq (dvL (bkN b b.car dy b.stp) (finL b ys 8)) ((dvL b (finL b ys 8))[i]?.getD ((0, 0), 0)).1.1 ((dvL b (finL b ys 8))[i]?.getD ((0, 0), 0)).1.2 (hRq.below hA.below (Nat.le_refl _)) hA.size) (by kernel_rfl) fun w84 hb84 hA => ?_
        refine runS hA 13 [.t 36, .g false, .t 37, .b true, .b false] xn (oc (rfl : Value.bool false = .bool false) (oc (dec_f (show ¬ (((pnF (dvL (bkN b b.car dy b.stp) (finL b ys 8)) (((dvL b (finL b ys 8))[i]?.getD ((0, 0), 0)).1.1, ((dvL b (finL b ys 8))[i]?.getD ((0, 0), 0)).1.2)) : Int) > (((dvL b (finL b ys 8))[i]?.getD ((0, 0), 0)).2 : Int)) by omega)) on)) (by kernel_rfl) fun w85 hA => ?_
        refine back hA (kn' := [⟨w.heap.size, .cells #[.int .i64 b.kind, .int .i64 b.runners, .slice A n c, .slice A2 m c2, .bool b.fav, .int .i64 b.car, .int .i64 b.dut, .int .i64 b.stp] 25 (0, 0)⟩, ⟨bBB3, .cells #[.int .i64 b.kind, .int .i64 b.runners, .slice A n c, .slice A2 m c2, .bool b.fav, .int .i64 cx, .int .i64 b.dut, .int .i64 b.stp] 25 (0, 0)⟩, ⟨bBB4, .cells #[.int .i64 b.kind, .int .i64 b.runners, .slice A n c, .slice A2 m c2, .bool b.fav, .int .i64 b.car, .int .i64 dy, .int .i64 b.stp] 25 (0, 0)⟩, ⟨bBB5, .cells #[.int .i64 b.kind, .int .i64 b.runners, .slice A n c, .slice A2 m c2, .bool b.fav, .int .i64 b.car, .int .i64 b.dut, .int .i64 1] 25 (0, 0)⟩, ⟨w76.heap.size, .cells #[.int .i64 a.inn, .int .i64 a.back, .int .i64 a.duty, .int .i64 a.paid, .int .i64 a.kept, .int .i64 a.over] 47 (0, 0)⟩, ⟨w78.heap.size, .cells #[.int .i64 az.inn, .int .i64 az.back, .int .i64 az.duty, .int .i64 az.paid, .int .i64 az.kept, .int .i64 az.over] 47 (0, 0)⟩]) (by kernel_rfl) (At.call hS hA.below) fun hA => ?_
        refine revals hA (rc 23 (wr64 (x := (i : Int) + 1) (y := ((i + 1 : Nat) : Int)) (by omega) (by omega)) rn) (by kernel_rfl) fun hA => ?_
        exact again hJ (LN - (i + 1)) (i + 1) [true, true, true, true, true, true] hA (by omega) (by kernel_rfl) (⟨by omega, rfl⟩)
end Go.Proofs.Ytbahiemjaomdcaa

/- PoolMore answers true whatever the book, the numbers of the finish, and by how much is carried over, and duty, are more; the arguments read behind the call as they did. No condition. -/
namespace Go.Proofs.Ytbahiemjaomdcaa.poolMore
open Go.ChangeShapes Go.WideShapes Go.ChangeAt Go.RowKit

theorem own : ownKnob Try.prog.godebug = none := by kernel_rfl
theorem laidOut : laidOutB Try.prog = true := by kernel_rfl
theorem cellsInt : Try.prog.cellsOf 3 = 1 := by kernel_rfl
/-- A slice of numbers among the arguments. -/
theorem ints_arg {H : Type} {enc : TypeId × Value → H} {W : World} {fuel : Nat} {v : Value} {x : DataW H × List MemPlace} (h : DataW.trod enc Try.prog W 0 (fun _ => true) true fuel 23 [v] = some x) :
    ∃ A n c xs, v = .slice A n c ∧ n ≤ c ∧ IntsAt W W.heap.size A n xs := by
  rcases open_ints Try.underlying23 Try.underlying3 cellsInt h with ⟨hcs, -⟩ | ⟨a, n, c, zs, hcs, -, hl, hm, hz, -, hcell, -⟩
  · obtain rfl : v = .slice none 0 0 := by simpa using hcs
    exact ⟨none, 0, 0, [], rfl, Nat.le_refl _, IntsAt.nil⟩
  · obtain rfl : v = .slice (some a) n c := by simpa using hcs
    have hz : zs.length = c := by simpa using hz
    refine ⟨some a, n, c, zs.take n, rfl, hl, by rw [List.length_take]; omega, by simp only [maxLen] at hm; omega, fun h0 => ?_⟩
    obtain ⟨b, off, rfl, hc⟩ := Go.ints_at hcell (by omega)
    refine ⟨b, off, rfl, ?_, fun j hj => ?_⟩
    · rcases Nat.lt_or_ge b W.heap.size with hb | hb
      · exact hb
      · have := hc 0 (by omega)
        simp [World.cell?, Array.getElem?_eq_none hb] at this
    · rw [hc j (by omega), List.getElem?_take, if_pos hj, List.getD_eq_getElem?_getD]
theorem cellsI64 : Try.prog.cellsOf 2 = 1 := by kernel_rfl
theorem cellsBool : Try.prog.cellsOf 4 = 1 := by kernel_rfl
theorem cellsBet : Try.prog.cellsOf 53 = 3 := by kernel_rfl
theorem cellsBets : Try.prog.cellsOf 22 = 1 := by kernel_rfl
theorem cellsInts : Try.prog.cellsOf 23 = 1 := by kernel_rfl
theorem cellsBook : Try.prog.cellsOf 25 = 8 := by kernel_rfl
theorem bet_gen {H : Type} {enc : TypeId × Value → H} {P : Program} {W : World} {fuel : Nat} {T I J : TypeId} {f0 f1 f2 : Field} (ht : P.underlying T = some (.struct #[f0, f1, f2])) (hi : P.underlying I = some (.int .i64)) (hj : P.underlying J = some (.int .i64)) (cI : P.cellsOf I = 1) (cJ : P.cellsOf J = 1) (cT : P.cellsOf T = 3)
    (o0 : f0.offset = 0 ∧ f0.type = I) (o1 : f1.offset = 1 ∧ f1.type = I) (o2 : f2.offset = 2 ∧ f2.type = J) {cs : List Value} {x : DataW H × List MemPlace} (h : DataW.trod enc P W 0 (fun _ => true) true fuel T cs = some x) :
    ∃ y : Bet, cs = [.int .i64 y.first, .int .i64 y.second, .int .i64 y.units] := by
  obtain ⟨xs, m, -, -, hl, hn, hf⟩ := Go.DataW.trod_struct ht h
  rw [cT] at hl
  obtain ⟨v0, v1, v2, rfl⟩ : ∃ v0 v1 v2, cs = [v0, v1, v2] := by
    match cs, hl with
    | [a, b, c], _ => exact ⟨a, b, c, rfl⟩
  have g0 := hf 0 f0 rfl
  have g1 := hf 1 f1 rfl
  have g2 := hf 2 f2 rfl
  simp only [List.size_toArray, List.length_cons, List.length_nil] at hn
  rw [List.getElem?_eq_getElem (by omega)] at g0 g1 g2
  rw [o0.1, o0.2, cI] at g0
  rw [o1.1, o1.2, cI] at g1
  rw [o2.1, o2.2, cJ] at g2
  obtain ⟨a, e0, -, -⟩ := Go.DataW.trod_int hi g0
  obtain ⟨b, e1, -, -⟩ := Go.DataW.trod_int hi g1
  obtain ⟨c, e2, -, -⟩ := Go.DataW.trod_int hj g2
  simp at e0 e1 e2
  exact ⟨⟨a, b, c⟩, by rw [e0, e1, e2]⟩
theorem bet_arg {H : Type} {enc : TypeId × Value → H} {W : World} {fuel : Nat} {cs : List Value} {x : DataW H × List MemPlace} (h : DataW.trod enc Try.prog W 0 (fun _ => true) true fuel 53 cs = some x) :
    ∃ y : Bet, cs = [.int .i64 y.first, .int .i64 y.second, .int .i64 y.units] := bet_gen Try.underlying53 Try.underlying3 Try.underlying2 cellsInt cellsI64 cellsBet ⟨rfl, rfl⟩ ⟨rfl, rfl⟩ ⟨rfl, rfl⟩ h
/-- A slice of bets among the arguments. -/
theorem bets_arg {H : Type} {enc : TypeId × Value → H} {W : World} {fuel : Nat} {v : Value} {x : DataW H × List MemPlace} (h : DataW.trod enc Try.prog W 0 (fun _ => true) true fuel 22 [v] = some x) :
    ∃ A n c bs, v = .slice A n c ∧ n ≤ c ∧ BetsAt W W.heap.size A n bs := by
  rcases Go.Deep.open_slice Try.underlying22 h with ⟨hcs, -⟩ | ⟨a, len, cap, m, n', D, Pl, hcs, -, hl, hm, hmm, -, hel⟩
  · obtain rfl : v = .slice none 0 0 := by simpa using hcs
    exact ⟨none, 0, 0, [], rfl, Nat.le_refl _, rfl, by omega, fun h => absurd h (by omega)⟩
  · obtain rfl : v = .slice (some a) len cap := by simpa using hcs
    have hmc : m = cap := by simpa using hmm
    have each : ∀ i, i < len → ∃ y : Bet, W.cell? (a.add (i * 3)) = some (.int .i64 y.first) ∧ W.cell? (a.add (i * 3 + 1)) = some (.int .i64 y.second) ∧ W.cell? (a.add (i * 3 + 2)) = some (.int .i64 y.units) := by
      intro i hi
      obtain ⟨cs', h1, h2⟩ := hel i (by omega)
      obtain ⟨y, rfl⟩ := bet_arg h2
      rw [cellsBet] at h1
      obtain ⟨_, hlen, hcell⟩ := World.cells?_some h1
      have g0 := hcell 0 (by omega)
      have g1 := hcell 1 (by omega)
      have g2 := hcell 2 (by omega)
      rw [Go.Deep.add_add] at g0 g1 g2
      exact ⟨y, by simpa using g0, by simpa using g1, by simpa using g2⟩
    obtain ⟨fx, hfx⟩ := Go.Deep.choose_lt each
    refine ⟨some a, len, cap, (List.range len).map fx, rfl, hl, by simp, by simp only [maxLen] at hm; omega, fun h0 => ?_⟩
    obtain ⟨b, off, spot⟩ := a
    have hc0 := (hfx 0 h0).1
    have hspot : spot = none := by simpa [Addr.add] using World.cell?_spot hc0
    subst hspot
    refine ⟨b, off, rfl, ?_, fun j hj => ?_⟩
    · rcases Nat.lt_or_ge b W.heap.size with hb | hb
      · exact hb
      · simp [World.cell?, Addr.add, Array.getElem?_eq_none hb] at hc0
    · have e := hfx j hj
      rw [Go.WideShapes.add_plain, Go.WideShapes.add_plain, Go.WideShapes.add_plain] at e
      rw [List.getElem?_map, List.getElem?_range hj, Option.map_some, Option.getD_some]
      exact e
theorem book_gen {H : Type} {enc : TypeId × Value → H} {P : Program} {W : World} {fuel : Nat} {T I J S R C : TypeId} {f0 f1 f2 f3 f4 f5 f6 f7 : Field} (ht : P.underlying T = some (.struct #[f0, f1, f2, f3, f4, f5, f6, f7])) (hi : P.underlying I = some (.int .i64)) (hj : P.underlying J = some (.int .i64)) (hb : P.underlying C = some .bool)
    (cI : P.cellsOf I = 1) (cJ : P.cellsOf J = 1) (cS : P.cellsOf S = 1) (cR : P.cellsOf R = 1) (cC : P.cellsOf C = 1) (cT : P.cellsOf T = 8)
    (o0 : f0.offset = 0 ∧ f0.type = I) (o1 : f1.offset = 1 ∧ f1.type = I) (o2 : f2.offset = 2 ∧ f2.type = S) (o3 : f3.offset = 3 ∧ f3.type = R) (o4 : f4.offset = 4 ∧ f4.type = C) (o5 : f5.offset = 5 ∧ f5.type = J) (o6 : f6.offset = 6 ∧ f6.type = J) (o7 : f7.offset = 7 ∧ f7.type = J)
    {cs : Array Value} {x : DataW H × List MemPlace} (h : DataW.trod enc P W 0 (fun _ => true) true fuel T cs.toList = some x) :
    ∃ (a0 a1 : Int) (v2 v3 : Value) (a4 : Bool) (a5 a6 a7 : Int) (q : Nat) (x2 x3 : DataW H × List MemPlace), cs = #[.int .i64 a0, .int .i64 a1, v2, v3, .bool a4, .int .i64 a5, .int .i64 a6, .int .i64 a7] ∧
      DataW.trod enc P W 0 (fun _ => true) true q S [v2] = some x2 ∧ DataW.trod enc P W 0 (fun _ => true) true q R [v3] = some x3 := by
  obtain ⟨xs, q, -, -, hl, hn, hf⟩ := Go.DataW.trod_struct ht h
  rw [cT] at hl
  obtain ⟨v0, v1, v2, v3, v4, v5, v6, v7, hc⟩ : ∃ v0 v1 v2 v3 v4 v5 v6 v7, cs.toList = [v0, v1, v2, v3, v4, v5, v6, v7] := by
    generalize cs.toList = l at hl
    match l, hl with
    | [a, b, c, d, e, f, g, h], _ => exact ⟨a, b, c, d, e, f, g, h, rfl⟩
  rw [hc] at hf
  simp only [List.size_toArray, List.length_cons, List.length_nil] at hn
  have g0 := hf 0 f0 rfl
  have g1 := hf 1 f1 rfl
  have g2 := hf 2 f2 rfl
  have g3 := hf 3 f3 rfl
  have g4 := hf 4 f4 rfl
  have g5 := hf 5 f5 rfl
  have g6 := hf 6 f6 rfl
  have g7 := hf 7 f7 rfl
  rw [List.getElem?_eq_getElem (by omega)] at g0 g1 g2 g3 g4 g5 g6 g7
  rw [o0.1, o0.2, cI] at g0
  rw [o1.1, o1.2, cI] at g1
  rw [o2.1, o2.2, cS] at g2
  rw [o3.1, o3.2, cR] at g3
  rw [o4.1, o4.2, cC] at g4
  rw [o5.1, o5.2, cJ] at g5
  rw [o6.1, o6.2, cJ] at g6
  rw [o7.1, o7.2, cJ] at g7
  obtain ⟨a0, e0, -, -⟩ := Go.DataW.trod_int hi g0
  obtain ⟨a1, e1, -, -⟩ := Go.DataW.trod_int hi g1
  obtain ⟨a4, e4, -⟩ := Go.DataW.trod_bool hb g4
  obtain ⟨a5, e5, -, -⟩ := Go.DataW.trod_int hj g5
  obtain ⟨a6, e6, -, -⟩ := Go.DataW.trod_int hj g6
  obtain ⟨a7, e7, -, -⟩ := Go.DataW.trod_int hj g7
  simp at e0 e1 e4 e5 e6 e7
  refine ⟨a0, a1, v2, v3, a4, a5, a6, a7, q, _, _, ?_, by simpa using g2, by simpa using g3⟩
  apply Array.toList_inj.1
  rw [hc, e0, e1, e4, e5, e6, e7]
/-- A book among the arguments. -/
theorem book_arg {H : Type} {enc : TypeId × Value → H} {W : World} {fuel : Nat} {cs : Array Value} {x : DataW H × List MemPlace} (h : DataW.trod enc Try.prog W 0 (fun _ => true) true fuel 25 cs.toList = some x) :
    ∃ b A n c A2 m c2, cs = bkC b A n c A2 m c2 ∧ BkAt W W.heap.size b A n c A2 m c2 := by
  obtain ⟨a0, a1, v2, v3, a4, a5, a6, a7, q, x2, x3, rfl, f2, f3⟩ := book_gen Try.underlying25 Try.underlying3 Try.underlying2 Try.underlying4 cellsInt cellsI64 cellsBets cellsInts cellsBool cellsBook ⟨rfl, rfl⟩ ⟨rfl, rfl⟩ ⟨rfl, rfl⟩ ⟨rfl, rfl⟩ ⟨rfl, rfl⟩ ⟨rfl, rfl⟩ ⟨rfl, rfl⟩ ⟨rfl, rfl⟩ h
  obtain ⟨A, n, c, bs, rfl, l2, i2⟩ := bets_arg f2
  obtain ⟨A2, m, c2, ss, rfl, l3, i3⟩ := ints_arg f3
  exact ⟨⟨a0, a1, bs, ss, a4, a5, a6, a7⟩, A, n, c, A2, m, c2, rfl, i2, i3, l2, l3⟩
theorem cellsByte : Try.prog.cellsOf 5 = 1 := by kernel_rfl
/-- A slice of bytes among the arguments. -/
theorem bytes_arg {H : Type} {enc : TypeId × Value → H} {W : World} {fuel : Nat} {v : Value} {x : DataW H × List MemPlace} (h : DataW.trod enc Try.prog W 0 (fun _ => true) true fuel 44 [v] = some x) :
    ∃ A n c xs, v = .slice A n c ∧ n ≤ c ∧ U8At W W.heap.size A n xs := by
  rcases open_ints Try.underlying44 Try.underlying5 cellsByte h with ⟨hcs, -⟩ | ⟨a, n, c, zs, hcs, -, hl, hm, hz, -, hcell, hwf⟩
  · obtain rfl : v = .slice none 0 0 := by simpa using hcs
    exact ⟨none, 0, 0, [], rfl, Nat.le_refl _, rfl, by omega, fun h => absurd h (by omega)⟩
  · obtain rfl : v = .slice (some a) n c := by simpa using hcs
    have hz : zs.length = c := by simpa using hz
    refine ⟨some a, n, c, zs.take n, rfl, hl, by rw [List.length_take]; omega, by simp only [maxLen] at hm; omega, fun h0 => ?_⟩
    obtain ⟨b, off, rfl, hc⟩ := Go.ints_at hcell (by omega)
    refine ⟨b, off, rfl, ?_, fun j hj => ⟨?_, ?_⟩⟩
    · rcases Nat.lt_or_ge b W.heap.size with hb | hb
      · exact hb
      · have := hc 0 (by omega)
        simp [World.cell?, Array.getElem?_eq_none hb] at this
    · rw [hc j (by omega), List.getElem?_take, if_pos hj, List.getD_eq_getElem?_getD]
    · rw [List.getElem?_take, if_pos hj]
      exact range_u8 hwf j

/-! ### THE ROW's STEP -/
set_option maxRecDepth 100000 in
theorem lifted (os : Os) (started : os.Started) (H : Type) (enc : TypeId × Value → H) :
    ReturnsInHanded {} Try.checked os 8 .any (Rows.poolMoreSpec.pre6 enc Try.prog Try.f8 Rows.poolMoreRow.domain false) (Rows.poolMoreSpec.post enc Try.prog Try.f8 false true false false) := by
  refine returnsInHanded_of_change (C := Try.checked) own started (by kernel_rfl) Try.func8
    (ChangeSpec.witness6 (enc := enc) (C := Try.checked) false ⟨#[], #[.agg #[.int .i64 0, .int .i64 0, .slice none 0 0, .slice none 0 0, .bool false, .int .i64 0, .int .i64 0, .int .i64 0], .slice none 0 0, .int .u32 0, .int .u16 0], []⟩ 8 (by kernel_rfl) (by kernel_rfl) (by kernel_rfl) (by kernel_rfl)) ?_
  intro W base args ds gs before hval0 hW hcnd _
  have hval : ∀ (j : Nat) t v, Try.f8.params[j]? = some t → args[j]? = some v → Value.okWide Try.prog W .any base t v := hval0
  have hW' := hW
  obtain ⟨p, q, hA0, hV, rfl, hfz, hnd⟩ := hW
  have hA : DataW.TrodAll enc Try.prog W 0 (fun _ => true) true Try.f8.params.toList args.toList ds p := hA0
  rw [Try.params8] at hA hval
  obtain ⟨v0, v1, v2, v3, d0, d1, d2, d3, p0, p1, p2, p3, rfl, rfl, rfl, h0, h1, h2, h3⟩ := trodAll_four hA
  obtain ⟨rfl, rfl⟩ := trodVars_none hV
  obtain ⟨cs0, rfl, -⟩ := okWide_struct Try.underlying25 (hval 0 25 v0 rfl rfl)
  obtain ⟨A1, n1, c1, rfl⟩ := okWide_slice Try.underlying44 (hval 1 44 v1 rfl rfl)
  obtain ⟨x2, rfl, rfl, rfl, wx2⟩ := open_int Try.underlying62 (hval 2 62 v2 rfl rfl) h2
  obtain ⟨x3, rfl, rfl, rfl, wx3⟩ := open_int Try.underlying63 (hval 3 63 v3 rfl rfl) h3
  have h0k := h0
  have h1k := h1
  obtain ⟨f0, hf0⟩ := h0
  obtain ⟨f1, hf1⟩ := h1
  obtain ⟨b0, A0, n0, c0, B0, m0, d0, e0, i0⟩ := book_arg (cs := cs0) hf0
  subst e0
  obtain ⟨A1', n1', c1', x1, e1, l1, i1⟩ := bytes_arg hf1
  cases e1
  clear hA0 hval0
  simp only [List.append_nil] at hW'
  have hlt0 : ∀ x ∈ p0, x.block < W.heap.size := fun x hx => by simpa using hW'.lt x (by simp [hx])
  have hlt1 : ∀ x ∈ p1, x.block < W.heap.size := fun x hx => by simpa using hW'.lt x (by simp [hx])
  have bd2 : 0 ≤ x2 ∧ x2 ≤ 4294967295 := by have := bounds_u32 wx2; omega
  have bd3 : 0 ≤ x3 ∧ x3 ≤ 65535 := by have := bounds_u16 wx3; omega
  refine (PoolMore_any W W.heap.size b0 A0 n0 c0 B0 m0 d0 A1 n1 c1 x1 x2 x3 i0 i1 bd2 bd3 (Nat.le_refl _)).mono fun e W' ⟨he, hg⟩ => ?_
  subst he
  exact ⟨_, rfl, _, _, _, [], p0 ++ (p1 ++ ([] ++ [])), [], hW', trodAll_cons_mk (shut_bool Try.underlying4 _) trodAll_mk0,
    trodAll_mk4 (Below.trod laidOut (by kernel_rfl) (of_decide_eq_true (by kernel_rfl)) h0k hg hlt0) (Below.trod laidOut (by kernel_rfl) (of_decide_eq_true (by kernel_rfl)) h1k hg hlt1) (shut_int Try.underlying62 wx2) (shut_int Try.underlying63 wx3),
    rfl, hg.frame _, fun h => by cases h⟩

theorem over : Rows.poolMoreRow.holds Try.pinned (OpenSpec.ofChange Rows.poolMoreSpec) :=
  OpenClaim.holds_of_wide 8 Try.f8 rfl rfl rfl rfl rfl rfl rfl ⟨rfl, rfl, rfl, rfl, rfl⟩ rfl rfl rfl rfl rfl (by kernel_rfl) Try.func8 (by kernel_rfl)
    (of_decide_eq_true (by kernel_rfl)) (by unfold Func.isWrapper; first | (rw [if_pos (by decide +kernel)]; kernel_rfl) | (rw [if_neg (by decide +kernel)]; exact ⟨rfl, rfl⟩))
    (fun os started H enc _ => lifted os started H enc)

/-- The statement. -/
theorem proved : Rows.PoolMoreSaid :=
  over
#print axioms proved
end Go.Proofs.Ytbahiemjaomdcaa.poolMore
