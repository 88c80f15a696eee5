/- PoolNobody answers true whatever the book, the runner and the numbers of the finish; the arguments read behind the call as they did. No condition. -/
import Derived.Test.YtbahiemjaomdcaaI14
import Derived.Test.YtbahiemjaomdcaaRows
import Derived.WalkKit
import Derived.ProofKit
import Derived.OpenShut
import Derived.Carry
import Derived.Deep.Slices
import Derived.ChangeSame

/- law of pool: PoolNobody. -/
namespace Go.Proofs.Ytbahiemjaomdcaa
open Go.RowKit Go.Shelf

set_option maxHeartbeats 4000000 in
set_option maxRecDepth 20000 in
theorem PoolNobody_any (w : World) (B : Nat) (b : Bk) (A : Option Addr) (n c : Nat) (A2 : Option Addr) (m c2 : Nat) (o1 : Int) (A3 : Option Addr) (ny cy : Nat) (ys : List Int) (h : BkAt w B b A n c A2 m c2) (ho1 : 0 ≤ o1 ∧ o1 ≤ 255) (hy : U8At w B A3 ny ys) (hB : B ≤ w.heap.size) : Calls Try.prog 11 #[bkV b A n c A2 m c2, .int .u8 o1, .slice A3 ny cy] w fun e w' => e = .returned (.bool true) ∧ Below w.heap.size w w' := by
  have hq9 : ∃ a1 : Nat, o1 = (a1 : Int) := ⟨o1.toNat, by omega⟩
  obtain ⟨a1, ha1⟩ := hq9
  subst ha1
  have hwa1 : IntKind.i64.wrap (a1 : Int) = (a1 : Int) := by rw [IntKind.wrap_i64]; omega
  refine enter 185 Try.func11 (by kernel_rfl) fun hA => ?_
  refine runS hA 10 (List.replicate 8 (.k 0)) xn on (by kernel_rfl) fun w1 hA => ?_
  have hbl := h.bets.1
  have hxl := h.scr.1
  have hyl := hy.1
  refine callB hA [] on (fine_any w1 B b A n c A2 m c2 (h.below hA.below hB) (Nat.le_trans hB hA.size)) (by kernel_rfl) fun w2 hb2 hA => ?_
  by_cases hfi : ¬ (110 < n ∨ 20 < m) ∧ bookF b = 0
  case neg =>
    refine revals hA (rc 23 (show .bool (decide (¬ (110 < n ∨ 20 < m) ∧ bookF b = 0)) = .bool false by rw [decide_eq_false hfi]) rn) (by kernel_rfl) fun hA => ?_
    refine runS hA 11 [.g true, .g true, .g true] xn (oc (rfl : Value.bool true = .bool true) (oc (rfl : Value.bool true = .bool true) (oc (rfl : Value.bool true = .bool true) on))) (by kernel_rfl) fun w3 hA => ?_
    refine callB hA [] on (Works_any w3) (by kernel_rfl) fun w4 hb4 hA => ?_
    refine runS hA 5 [] xn on (by kernel_rfl) fun w5 hA => ?_
    exact ret (v := .bool true) hA [] (by kernel_rfl) ⟨rfl, hA.below⟩
  case pos =>
    obtain ⟨hgr, h0⟩ := hfi
    have V := valid_of h0
    have hv1 := V.run
    have hv2 := V.len
    refine revals hA (rc 23 (show .bool (decide (¬ (110 < n ∨ 20 < m) ∧ bookF b = 0)) = .bool true by rw [decide_eq_true ⟨hgr, h0⟩]) rn) (by kernel_rfl) fun hA => ?_
    refine runS hA 5 [.g false, .g false, .g false] xn (oc (rfl : Value.bool false = .bool false) (oc (rfl : Value.bool false = .bool false) (oc (rfl : Value.bool false = .bool false) on))) (by kernel_rfl) fun w3 hA => ?_
    by_cases h20 : (ny : Int) > 20
    case pos =>
      refine revals hA (rc 28 (dec_t h20) rn) (by kernel_rfl) fun hA => ?_
      refine runS hA 6 [] xn on (by kernel_rfl) fun w4 hA => ?_
      refine callB hA [] on (Works_any w4) (by kernel_rfl) fun w5 hb5 hA => ?_
      refine runS hA 5 [] xn on (by kernel_rfl) fun w6 hA => ?_
      exact ret (v := .bool true) hA [] (by kernel_rfl) ⟨rfl, hA.below⟩
    case neg =>
      refine revals hA (rc 28 (dec_f h20) rn) (by kernel_rfl) fun hA => ?_
      refine runS hA 9 (List.replicate 8 (.k 0)) xn on (by kernel_rfl) fun w4 hA => ?_
      have hApl := hA.atK [⟨w.heap.size, .cells #[.int .i64 b.kind, .int .i64 b.runners, .slice A n c, .slice A2 m c2, .bool b.fav, .int .i64 b.car, .int .i64 b.dut, .int .i64 b.stp] 25 (0, 0)⟩] (by kernel_rfl)
      refine call hA [] on (running_any w4 B b A n c A2 m c2 (h.below hA.below hB) (Nat.le_trans hB hA.size) V) (by kernel_rfl) (by rintro e v ⟨vl, rfl, hbl9, hol⟩; exact hbl9) ?_
      rintro e w5 ⟨vl, rfl, hbl9, hol⟩
      refine ⟨_, rfl, fun hA => ?_⟩
      have hq9 := At.own hApl hbl9 hol
      obtain ⟨obl, hrl, hA2l⟩ := hq9
      have hN := V.racing
      have hN8 : (racN b).length ≤ 8 := Nat.le_trans (racL_len b _) (by omega)
      have hrow : ∃ gl cl cul, vl = .slice (some ⟨gl, 0, none⟩) (racN b).length cl ∧ obl = [⟨gl, .cells cul 3 (0, 0)⟩] ∧ ∀ j, j < (racN b).length → cul[j]? = some (.int .i64 ((racN b)[j]?.getD 0)) := by
        rcases hrl.2 with ⟨-, e2, -⟩ | ⟨g, cap, cur, e1, e2, h3, h4, h5, h6⟩
        · omega
        · rw [Nat.mul_one] at h6
          exact ⟨g, cap, cur, e1, e2, fun j hj => take_get h6 hj rfl⟩
      obtain ⟨gl, cl, cul, rfl, rfl, hcl⟩ := hrow
      have hA3l := hA2l.up
      refine reknow ⟨[⟨w.heap.size, .cells #[.int .i64 b.kind, .int .i64 b.runners, .slice A n c, .slice A2 m c2, .bool b.fav, .int .i64 b.car, .int .i64 b.dut, .int .i64 b.stp] 25 (0, 0)⟩, ⟨gl, .cells cul 3 (0, 0)⟩], w5.heap.size, [], [], [], [], []⟩ hA3l (Nat.zero_le _) fun hA => ?_
      have hq9 : ∃ p1, p1 = a1 % (racN b).length := ⟨_, rfl⟩
      obtain ⟨p1, hp1⟩ := hq9
      have hl1 : p1 < (racN b).length := by rw [hp1]; exact Nat.mod_lt _ (by omega)
      have hq9 : ∃ r, r = (racN b)[p1]?.getD 0 := ⟨_, rfl⟩
      obtain ⟨r, hr⟩ := hq9
      have hrm : r ∈ racN b := by rw [hr]; exact get_mem hl1
      have hc1 := hcl p1 hl1
      rw [← hr] at hc1
      refine runS hA 11 [.z] xn (oc (show ((racN b).length) ≠ (0 : Int) by omega) on) (by kernel_rfl) fun w6 hA => ?_
      refine revals hA (rc 38 (show .int .i64 ((IntKind.i64.wrap (a1 : Int)).tmod ((racN b).length)) = .int .i64 (p1 : Int) by rw [hwa1, ← Int.ofNat_tmod, ← hp1]) rn) (by kernel_rfl) fun hA => ?_
      refine runS hA 25 ([.i, .y 1 (.int .i64 r)] ++ List.replicate 8 (.k 0) ++ List.replicate 9 (.k 2)) xn (oc (show (0 : Int) ≤ ((p1 : Int) : Int) ∧ ((p1 : Int) : Int) < ((racN b).length : Int) by omega) (oc (show cul[0 + p1 * 1]? = some (.int .i64 r) from by simpa using hc1) on)) (by kernel_rfl) fun w7 hA => ?_
      have hr0 : RowV 53 3 (.slice none (offL (b.bets.take 0) r).length 0) (offL (b.bets.take 0) r).length (encB (offL (b.bets.take 0) r)) [] := RowV.nil _ _
      refine loop (γ := Nat × Option Addr × Nat × List KB) (fun ⟨q, Av, cv, ov⟩ => [(2, .slice A3 ny cy), (3, .pointer (some ⟨w.heap.size, 0, none⟩)), (6, .bool false), (7, .slice (some ⟨gl, 0, none⟩) ((racN b).length) cl), (8, .int .i64 r), (9, .pointer (some ⟨w5.heap.size, 0, none⟩)), (10, .int .i64 (q : Int))]) (fun ⟨q, Av, cv, ov⟩ => [⟨w.heap.size, .cells #[.int .i64 b.kind, .int .i64 b.runners, .slice A n c, .slice A2 m c2, .bool b.fav, .int .i64 b.car, .int .i64 b.dut, .int .i64 b.stp] 25 (0, 0)⟩, ⟨gl, .cells cul 3 (0, 0)⟩, ⟨w5.heap.size, .cells #[.int .i64 b.kind, .int .i64 b.runners, .slice Av ((offL (b.bets.take q) r).length) cv, .slice A2 m c2, .bool b.fav, .int .i64 b.car, .int .i64 b.dut, .int .i64 b.stp] 25 (0, 0)⟩]) (fun ⟨q, Av, cv, ov⟩ => ov ++ ([])) (fun g ⟨q, Av, cv, ov⟩ wr => q ≤ n ∧ g = n - q ∧ RowV 53 3 (.slice Av (offL (b.bets.take q) r).length cv) (offL (b.bets.take q) r).length (encB (offL (b.bets.take q) r)) ov) n ⟨0, none, 0, []⟩ [true, true, true] hA (by kernel_rfl) (⟨Nat.zero_le _, rfl, hr0⟩) ?_
      rintro _ ⟨q, Av, cv, ov⟩ wr ⟨hq, rfl, hrq⟩ J hJ hA
      have hol9 : (offL (b.bets.take q) r).length ≤ q := Nat.le_trans (List.length_filter_le _ _) (List.length_take_le _ _)
      by_cases hlt : q < n
      case pos =>
        have hq9 := h.bets.at hlt
        obtain ⟨b1, off, rfl, hb1, k0, k1, k2⟩ := hq9
        have hlb1 : b1 < w.heap.size := Nat.lt_of_lt_of_le hb1 hB
        have htk := off_take (bs := b.bets) (r := r) (k := q) (x := (b.bets[q]?.getD noBet)) (by omega) rfl
        by_cases t1 : (b.bets[q]?.getD noBet).first = r
        case pos =>
          refine runS hA 46 ([.k 0, .b true, .k 0, .i, .x (.int .i64 ((b.bets[q]?.getD noBet).first))] ++ List.replicate 8 (.g false)) (xc (a := ⟨b1, off + q * 3, none⟩) ⟨hlb1, k0⟩ xn) (oc (dec_t (show (((q : Int) : Int) < (n : Int)) by omega)) (oc (show (0 : Int) ≤ ((q : Int) : Int) ∧ ((q : Int) : Int) < (n : Int) by omega) (oc (ne_f t1) (oc (rfl : Value.bool false = .bool false) (oc (rfl : Value.bool false = .bool false) (oc (rfl : Value.bool false = .bool false) (oc (rfl : Value.bool false = .bool false) (oc (rfl : Value.bool false = .bool false) (oc (rfl : Value.bool false = .bool false) (oc (rfl : Value.bool false = .bool false) on)))))))))) (by kernel_rfl) fun w8 hA => ?_
          rw [if_neg (fun h9 => h9.1 t1), List.append_nil] at htk
          have hle : (offL (b.bets.take (q + 1)) r).length = (offL (b.bets.take q) r).length := by rw [htk]
          have hrk2 : RowV 53 3 (.slice Av (offL (b.bets.take (q + 1)) r).length cv) (offL (b.bets.take (q + 1)) r).length (encB (offL (b.bets.take (q + 1)) r)) ov := by rw [htk]; exact hrq
          refine revals hA (rc 10 (wr64 (x := (q : Int) + 1) (y := ((q + 1 : Nat) : Int)) (by omega) (by omega)) rn) (by kernel_rfl) fun hA => ?_
          have hAk9 : At w w8 [⟨w.heap.size, .cells #[.int .i64 b.kind, .int .i64 b.runners, .slice (some ⟨b1, off, none⟩) n c, .slice A2 m c2, .bool b.fav, .int .i64 b.car, .int .i64 b.dut, .int .i64 b.stp] 25 (0, 0)⟩, ⟨gl, .cells cul 3 (0, 0)⟩, ⟨w5.heap.size, .cells #[.int .i64 b.kind, .int .i64 b.runners, .slice Av ((offL (b.bets.take q) r).length) cv, .slice A2 m c2, .bool b.fav, .int .i64 b.car, .int .i64 b.dut, .int .i64 b.stp] 25 (0, 0)⟩] _ w8.heap.size := (hA.atK [⟨w.heap.size, .cells #[.int .i64 b.kind, .int .i64 b.runners, .slice (some ⟨b1, off, none⟩) n c, .slice A2 m c2, .bool b.fav, .int .i64 b.car, .int .i64 b.dut, .int .i64 b.stp] 25 (0, 0)⟩, ⟨gl, .cells cul 3 (0, 0)⟩, ⟨w5.heap.size, .cells #[.int .i64 b.kind, .int .i64 b.runners, .slice Av ((offL (b.bets.take q) r).length) cv, .slice A2 m c2, .bool b.fav, .int .i64 b.car, .int .i64 b.dut, .int .i64 b.stp] 25 (0, 0)⟩] (by kernel_rfl)).resize
          rw [← hle] at hAk9
          refine reknow ⟨[⟨w.heap.size, .cells #[.int .i64 b.kind, .int .i64 b.runners, .slice (some ⟨b1, off, none⟩) n c, .slice A2 m c2, .bool b.fav, .int .i64 b.car, .int .i64 b.dut, .int .i64 b.stp] 25 (0, 0)⟩, ⟨gl, .cells cul 3 (0, 0)⟩, ⟨w5.heap.size, .cells #[.int .i64 b.kind, .int .i64 b.runners, .slice Av ((offL (b.bets.take (q + 1)) r).length) cv, .slice A2 m c2, .bool b.fav, .int .i64 b.car, .int .i64 b.dut, .int .i64 b.stp] 25 (0, 0)⟩], w8.heap.size, [], [], [], [], []⟩ hAk9 (Nat.zero_le _) fun hA => ?_
          exact again hJ (n - (q + 1)) (⟨q + 1, Av, cv, ov⟩) [true, true, true] hA (by omega) (by kernel_rfl) (⟨by omega, rfl, hrk2⟩)
        case neg =>
          by_cases t2 : (b.bets[q]?.getD noBet).second = r
          case pos =>
            refine runS hA 46 [.k 0, .b true, .k 0, .i, .x (.int .i64 ((b.bets[q]?.getD noBet).first)), .g true, .g true, .k 0, .g true, .g true, .i, .g true, .g true, .x (.int .i64 ((b.bets[q]?.getD noBet).second)), .g true, .g true, .b false] (xc (a := ⟨b1, off + q * 3, none⟩) ⟨hlb1, k0⟩ (xc (a := ⟨b1, off + q * 3 + 1, none⟩) ⟨hlb1, k1⟩ xn)) (oc (dec_t (show (((q : Int) : Int) < (n : Int)) by omega)) (oc (show (0 : Int) ≤ ((q : Int) : Int) ∧ ((q : Int) : Int) < (n : Int) by omega) (oc (ne_t t1) (oc (rfl : Value.bool true = .bool true) (oc (rfl : Value.bool true = .bool true) (oc (rfl : Value.bool true = .bool true) (oc (show (0 : Int) ≤ ((q : Int) : Int) ∧ ((q : Int) : Int) < (n : Int) by omega) (oc (rfl : Value.bool true = .bool true) (oc (rfl : Value.bool true = .bool true) (oc (rfl : Value.bool true = .bool true) (oc (rfl : Value.bool true = .bool true) (oc (ne_f t2) on)))))))))))) (by kernel_rfl) fun w8 hA => ?_
            rw [if_neg (fun h9 => h9.2 t2), List.append_nil] at htk
            have hle : (offL (b.bets.take (q + 1)) r).length = (offL (b.bets.take q) r).length := by rw [htk]
            have hrk2 : RowV 53 3 (.slice Av (offL (b.bets.take (q + 1)) r).length cv) (offL (b.bets.take (q + 1)) r).length (encB (offL (b.bets.take (q + 1)) r)) ov := by rw [htk]; exact hrq
            refine revals hA (rc 10 (wr64 (x := (q : Int) + 1) (y := ((q + 1 : Nat) : Int)) (by omega) (by omega)) rn) (by kernel_rfl) fun hA => ?_
            have hAk9 : At w w8 [⟨w.heap.size, .cells #[.int .i64 b.kind, .int .i64 b.runners, .slice (some ⟨b1, off, none⟩) n c, .slice A2 m c2, .bool b.fav, .int .i64 b.car, .int .i64 b.dut, .int .i64 b.stp] 25 (0, 0)⟩, ⟨gl, .cells cul 3 (0, 0)⟩, ⟨w5.heap.size, .cells #[.int .i64 b.kind, .int .i64 b.runners, .slice Av ((offL (b.bets.take q) r).length) cv, .slice A2 m c2, .bool b.fav, .int .i64 b.car, .int .i64 b.dut, .int .i64 b.stp] 25 (0, 0)⟩] _ w8.heap.size := (hA.atK [⟨w.heap.size, .cells #[.int .i64 b.kind, .int .i64 b.runners, .slice (some ⟨b1, off, none⟩) n c, .slice A2 m c2, .bool b.fav, .int .i64 b.car, .int .i64 b.dut, .int .i64 b.stp] 25 (0, 0)⟩, ⟨gl, .cells cul 3 (0, 0)⟩, ⟨w5.heap.size, .cells #[.int .i64 b.kind, .int .i64 b.runners, .slice Av ((offL (b.bets.take q) r).length) cv, .slice A2 m c2, .bool b.fav, .int .i64 b.car, .int .i64 b.dut, .int .i64 b.stp] 25 (0, 0)⟩] (by kernel_rfl)).resize
            rw [← hle] at hAk9
            refine reknow ⟨[⟨w.heap.size, .cells #[.int .i64 b.kind, .int .i64 b.runners, .slice (some ⟨b1, off, none⟩) n c, .slice A2 m c2, .bool b.fav, .int .i64 b.car, .int .i64 b.dut, .int .i64 b.stp] 25 (0, 0)⟩, ⟨gl, .cells cul 3 (0, 0)⟩, ⟨w5.heap.size, .cells #[.int .i64 b.kind, .int .i64 b.runners, .slice Av ((offL (b.bets.take (q + 1)) r).length) cv, .slice A2 m c2, .bool b.fav, .int .i64 b.car, .int .i64 b.dut, .int .i64 b.stp] 25 (0, 0)⟩], w8.heap.size, [], [], [], [], []⟩ hAk9 (Nat.zero_le _) fun hA => ?_
            exact again hJ (n - (q + 1)) (⟨q + 1, Av, cv, ov⟩) [true, true, true] hA (by omega) (by kernel_rfl) (⟨by omega, rfl, hrk2⟩)
          case neg =>
            refine runS hA 38 [.k 0, .b true, .k 0, .i, .x (.int .i64 ((b.bets[q]?.getD noBet).first)), .g true, .g true, .k 0, .g true, .g true, .i, .g true, .g true, .x (.int .i64 ((b.bets[q]?.getD noBet).second)), .g true, .g true, .b true] (xc (a := ⟨b1, off + q * 3, none⟩) ⟨hlb1, k0⟩ (xc (a := ⟨b1, off + q * 3 + 1, none⟩) ⟨hlb1, k1⟩ xn)) (oc (dec_t (show (((q : Int) : Int) < (n : Int)) by omega)) (oc (show (0 : Int) ≤ ((q : Int) : Int) ∧ ((q : Int) : Int) < (n : Int) by omega) (oc (ne_t t1) (oc (rfl : Value.bool true = .bool true) (oc (rfl : Value.bool true = .bool true) (oc (rfl : Value.bool true = .bool true) (oc (show (0 : Int) ≤ ((q : Int) : Int) ∧ ((q : Int) : Int) < (n : Int) by omega) (oc (rfl : Value.bool true = .bool true) (oc (rfl : Value.bool true = .bool true) (oc (rfl : Value.bool true = .bool true) (oc (rfl : Value.bool true = .bool true) (oc (ne_t t2) on)))))))))))) (by kernel_rfl) fun w8 hA => ?_
            rw [if_pos ⟨t1, t2⟩] at htk
            refine draw hA [true, true, true] [0, 1, 2, 3, 4, 5, 6, 7] (by kernel_rfl) (by kernel_rfl) fun hA => ?_
            refine runS hA 9 [.t 0, .t 1, .k 2, .t 2, .t 3, .k 0, .t 4, .t 5, .i, .t 6, .x (.int .i64 ((b.bets[q]?.getD noBet).first)), .x (.int .i64 ((b.bets[q]?.getD noBet).second)), .x (.int .i64 ((b.bets[q]?.getD noBet).units)), .h 7, .b false] (xc (a := ⟨b1, off + q * 3, none⟩) ⟨hlb1, k0⟩ (xc (a := ⟨b1, off + q * 3 + 1, none⟩) ⟨hlb1, k1⟩ (xc (a := ⟨b1, off + q * 3 + 2, none⟩) ⟨hlb1, k2⟩ xn))) (oc (show (0 : Int) ≤ ((q : Int) : Int) ∧ ((q : Int) : Int) < (n : Int) by omega) on) (by kernel_rfl) fun w9 hA => ?_
            have hob := hA.at_.ok ⟨wr.heap.size, .cells #[.int .i64 ((b.bets[q]?.getD noBet).first), .int .i64 ((b.bets[q]?.getD noBet).second), .int .i64 ((b.bets[q]?.getD noBet).units)] 53 (0, 0)⟩ (List.mem_of_getElem? (i := 3) (by kernel_rfl))
            have hy0 := cell_of_obj (a := ⟨wr.heap.size, 0, none⟩) hob rfl rfl
            have hy1 := cell_of_obj (a := ⟨wr.heap.size, 1, none⟩) hob rfl rfl
            have hy2 := cell_of_obj (a := ⟨wr.heap.size, 2, none⟩) hob rfl rfl
            refine appES (t := 22) (e := 53) (ty := 22) (z := .agg #[.int .i64 0, .int .i64 0, .int .i64 0]) (size := 3) (bytes := 24) (v := .slice Av (offL (b.bets.take q) r).length cv) (n := (offL (b.bets.take q) r).length) (m := 1) (cp := 1) (A := some ⟨wr.heap.size, 0, none⟩) (encB [(b.bets[q]?.getD noBet)]) hA hrq (by kernel_rfl) rfl (fun _ => ⟨_, rfl, fun p u hu => by match p, hu with | 0, hu => cases hu; exact hy0 | 1, hu => cases hu; exact hy1 | 2, hu => cases hu; exact hy2⟩) rfl (by omega) (by omega) (by omega) fun g2 c2' w10 ob2q hr2q hA => ?_
            have hle : (offL (b.bets.take (q + 1)) r).length = (offL (b.bets.take q) r).length + 1 := by rw [htk, List.length_append]; rfl
            refine runS hA 10 [.k 2] xn on (by kernel_rfl) fun w11 hA => ?_
            have hrk2 : RowV 53 3 (.slice (some ⟨g2, 0, none⟩) (offL (b.bets.take (q + 1)) r).length c2') (offL (b.bets.take (q + 1)) r).length (encB (offL (b.bets.take (q + 1)) r)) ob2q := by rw [hle, htk, encB_app]; exact hr2q
            refine revals hA (rc 10 (wr64 (x := (q : Int) + 1) (y := ((q + 1 : Nat) : Int)) (by omega) (by omega)) rn) (by kernel_rfl) fun hA => ?_
            have hAk9 : At w w11 [⟨w.heap.size, .cells #[.int .i64 b.kind, .int .i64 b.runners, .slice (some ⟨b1, off, none⟩) n c, .slice A2 m c2, .bool b.fav, .int .i64 b.car, .int .i64 b.dut, .int .i64 b.stp] 25 (0, 0)⟩, ⟨gl, .cells cul 3 (0, 0)⟩, ⟨w5.heap.size, .cells #[.int .i64 b.kind, .int .i64 b.runners, .slice (some ⟨g2, 0, none⟩) ((offL (b.bets.take q) r).length + 1) c2', .slice A2 m c2, .bool b.fav, .int .i64 b.car, .int .i64 b.dut, .int .i64 b.stp] 25 (0, 0)⟩, ⟨wr.heap.size, .cells #[.int .i64 ((b.bets[q]?.getD noBet).first), .int .i64 ((b.bets[q]?.getD noBet).second), .int .i64 ((b.bets[q]?.getD noBet).units)] 53 (0, 0)⟩] _ w11.heap.size := (hA.atK [⟨w.heap.size, .cells #[.int .i64 b.kind, .int .i64 b.runners, .slice (some ⟨b1, off, none⟩) n c, .slice A2 m c2, .bool b.fav, .int .i64 b.car, .int .i64 b.dut, .int .i64 b.stp] 25 (0, 0)⟩, ⟨gl, .cells cul 3 (0, 0)⟩, ⟨w5.heap.size, .cells #[.int .i64 b.kind, .int .i64 b.runners, .slice (some ⟨g2, 0, none⟩) ((offL (b.bets.take q) r).length + 1) c2', .slice A2 m c2, .bool b.fav, .int .i64 b.car, .int .i64 b.dut, .int .i64 b.stp] 25 (0, 0)⟩, ⟨wr.heap.size, .cells #[.int .i64 ((b.bets[q]?.getD noBet).first), .int .i64 ((b.bets[q]?.getD noBet).second), .int .i64 ((b.bets[q]?.getD noBet).units)] 53 (0, 0)⟩] (by kernel_rfl)).resize
            rw [← hle] at hAk9
            refine reknow ⟨[⟨w.heap.size, .cells #[.int .i64 b.kind, .int .i64 b.runners, .slice (some ⟨b1, off, none⟩) n c, .slice A2 m c2, .bool b.fav, .int .i64 b.car, .int .i64 b.dut, .int .i64 b.stp] 25 (0, 0)⟩, ⟨gl, .cells cul 3 (0, 0)⟩, ⟨w5.heap.size, .cells #[.int .i64 b.kind, .int .i64 b.runners, .slice (some ⟨g2, 0, none⟩) ((offL (b.bets.take (q + 1)) r).length) c2', .slice A2 m c2, .bool b.fav, .int .i64 b.car, .int .i64 b.dut, .int .i64 b.stp] 25 (0, 0)⟩, ⟨wr.heap.size, .cells #[.int .i64 ((b.bets[q]?.getD noBet).first), .int .i64 ((b.bets[q]?.getD noBet).second), .int .i64 ((b.bets[q]?.getD noBet).units)] 53 (0, 0)⟩], w11.heap.size, [], [], [], [], []⟩ hAk9 (Nat.zero_le _) fun hA => ?_
            exact again hJ (n - (q + 1)) (⟨q + 1, some ⟨g2, 0, none⟩, c2', ob2q⟩) [true, true, true] hA (by omega) (by kernel_rfl) (⟨by omega, rfl, hrk2⟩)
      case neg =>
        refine runS hA 13 [.k 0, .b false] xn (oc (dec_f (show ¬ (((q : Int) : Int) < (n : Int)) by omega)) on) (by kernel_rfl) fun w8 hA => ?_
        refine leave hA (by kernel_rfl) fun hA => ?_
        refine runS hA 5 (List.replicate 8 (.k 2)) xn on (by kernel_rfl) fun w9 hA => ?_
        have hqt : b.bets.take q = b.bets := List.take_of_length_le (by omega)
        have hoq : (offL (b.bets.take q) r).length ≤ 100 := by rw [hqt]; exact Nat.le_trans (List.length_filter_le _ _) hv2
        have hbo6 := bets_at hrq (by omega)
        have hc6 := bets_cap hrq
        have h0x : bookF (bkB b (offL (b.bets.take q) r)) = 0 := by rw [hqt]; exact off_ok h0 r
        have hnx : ∀ x ∈ (bkB b (offL (b.bets.take q) r)).bets, x.first ≠ r ∧ x.second ≠ r := off_no
        have hrx : racN (bkB b (offL (b.bets.take q) r)) = racN b := racN_cong (b := b) (b' := (bkB b (offL (b.bets.take q) r))) rfl rfl
        have hrmx : r ∈ racN (bkB b (offL (b.bets.take q) r)) := by rw [hrx]; exact hrm
        have hq9 : ∃ fv, fv = favF (bkB b (offL (b.bets.take q) r)) := ⟨_, rfl⟩
        obtain ⟨fv, hfv⟩ := hq9
        have hP := Favourite_any w9 w9.heap.size (bkB b (offL (b.bets.take q) r)) Av (offL (b.bets.take q) r).length cv A2 m c2 ⟨hbo6 _ (fun kb hk => hA.at_.rok kb (List.mem_append_left _ hk)), (h.scr.below hA.below hB).more (Nat.le_trans hB hA.size), hc6, h.hc2⟩ (Nat.le_refl _)
        rw [show favR (bkB b (offL (b.bets.take q) r)) = favF (bkB b (offL (b.bets.take q) r)) from if_pos h0x, h0x, ← hfv] at hP
        refine callB hA [] on (hP) (by kernel_rfl) fun w10 hb10 hA => ?_
        refine runS hA 11 (List.replicate 8 (.k 2)) xn on (by kernel_rfl) fun w11 hA => ?_
        by_cases h3 : 3 ≤ (racN b).length
        case neg =>
          have hir : isR (bkB b (offL (b.bets.take q) r)) r = true := (isR_iff (bkB b (offL (b.bets.take q) r)) r).2 (scr_in hrmx).1
          have he1 : scE (bkB b (offL (b.bets.take q) r)) r = 10 := by unfold scE; rw [if_pos h0x, if_neg (by rw [hir]; decide), if_neg (scr_in hrmx).2, if_pos (by rw [hrx]; omega)]
          have hApy := hA.atK [⟨w.heap.size, .cells #[.int .i64 b.kind, .int .i64 b.runners, .slice A n c, .slice A2 m c2, .bool b.fav, .int .i64 b.car, .int .i64 b.dut, .int .i64 b.stp] 25 (0, 0)⟩, ⟨gl, .cells cul 3 (0, 0)⟩, ⟨w5.heap.size, .cells #[.int .i64 b.kind, .int .i64 b.runners, .slice Av ((offL (b.bets.take q) r).length) cv, .slice A2 m c2, .bool b.fav, .int .i64 b.car, .int .i64 b.dut, .int .i64 b.stp] 25 (0, 0)⟩] (by kernel_rfl)
          have hP := Scratch_any w11 w11.heap.size (bkB b (offL (b.bets.take q) r)) Av (offL (b.bets.take q) r).length cv A2 m c2 r ⟨hbo6 _ (fun kb hk => hA.at_.rok kb (List.mem_append_left _ hk)), (h.scr.below hA.below hB).more (Nat.le_trans hB hA.size), hc6, h.hc2⟩ (Nat.le_refl _)
          rw [he1] at hP
          refine call hA [] on (hP) (by kernel_rfl) (by rintro e v ⟨A8y, cby, A9y, csy, rfl, hbsy, ho1y, ho2y⟩; exact hbsy) ?_
          rintro e w12 ⟨A8y, cby, A9y, csy, rfl, hbsy, ho1y, ho2y⟩
          refine ⟨_, rfl, fun hA => ?_⟩
          have hq9 := At.own2 hApy hbsy (by decide) ho1y ho2y
          obtain ⟨ob8y, ob9y, hr1y, hr2y, hA2y⟩ := hq9
          refine reknow ⟨[⟨w.heap.size, .cells #[.int .i64 b.kind, .int .i64 b.runners, .slice A n c, .slice A2 m c2, .bool b.fav, .int .i64 b.car, .int .i64 b.dut, .int .i64 b.stp] 25 (0, 0)⟩, ⟨gl, .cells cul 3 (0, 0)⟩, ⟨w5.heap.size, .cells #[.int .i64 b.kind, .int .i64 b.runners, .slice Av ((offL (b.bets.take q) r).length) cv, .slice A2 m c2, .bool b.fav, .int .i64 b.car, .int .i64 b.dut, .int .i64 b.stp] 25 (0, 0)⟩], w12.heap.size, [], [], [], [], []⟩ hA2y (Nat.zero_le _) fun hA => ?_
          refine runS hA 19 (List.replicate 8 (.k 3) ++ List.replicate 5 (.g false)) xn (oc (rfl : Value.bool false = .bool false) (oc (rfl : Value.bool false = .bool false) (oc (rfl : Value.bool false = .bool false) (oc (rfl : Value.bool false = .bool false) (oc (rfl : Value.bool false = .bool false) on))))) (by kernel_rfl) fun w13 hA => ?_
          refine revals hA (rc 96 (dec_f (show ¬ (((racN b).length : Int) > (2 : Int)) by omega)) rn) (by kernel_rfl) fun hA => ?_
          refine opv (v := .bool false) hA [.g false] (oc (rfl : Value.bool false = .bool false) on) (s := cmpSem .neq 4 (.tmp 93) (.tmp 96) (.bool false) (.bool false)) (by kernel_rfl) (cmp_bool _ _ (by kernel_rfl) (by kernel_rfl)) fun hA => ?_
          refine runS hA 13 [] xn on (by kernel_rfl) fun w14 hA => ?_
          by_cases hfr : fv = r
          case pos =>
            refine runS hA 15 [.g true, .g true, .g false, .g false] xn (oc (eq_t hfr) (oc (rfl : Value.bool true = .bool true) (oc (rfl : Value.bool false = .bool false) (oc (rfl : Value.bool false = .bool false) on)))) (by kernel_rfl) fun w15 hA => ?_
            refine callB hA [] on (Works_any w15) (by kernel_rfl) fun w16 hb16 hA => ?_
            refine runS hA 6 [] xn on (by kernel_rfl) fun w17 hA => ?_
            exact ret (v := .bool true) hA [] (by kernel_rfl) ⟨rfl, hA.below⟩
          case neg =>
            refine runS hA 15 (List.replicate 4 (.g false)) xn (oc (eq_f hfr) (oc (rfl : Value.bool false = .bool false) (oc (rfl : Value.bool false = .bool false) (oc (rfl : Value.bool false = .bool false) on)))) (by kernel_rfl) fun w15 hA => ?_
            refine callB hA [] on (Works_any w15) (by kernel_rfl) fun w16 hb16 hA => ?_
            refine runS hA 6 [] xn on (by kernel_rfl) fun w17 hA => ?_
            exact ret (v := .bool true) hA [] (by kernel_rfl) ⟨rfl, hA.below⟩
        case pos =>
          have h3x : 3 ≤ (racN (bkB b (offL (b.bets.take q) r))).length := by rw [hrx]; exact h3
          have he1 := (scE_ok h0x hrmx h3x).1
          have hz1 := (scE_ok h0x hrmx h3x).2
          have hy0 := bookF_scr h0x hrmx h3x
          have hxl1 : (scrF (bkB b (offL (b.bets.take q) r)) r).scr.length = m + 1 := by show (insF r b.scr).length = _; rw [insF_len, hxl]
          have hbl1 : (scrF (bkB b (offL (b.bets.take q) r)) r).bets.length = (offL (b.bets.take q) r).length := rfl
          have hm8 : m ≤ 100 := by have := V.few; omega
          have hApy := hA.atK [⟨w.heap.size, .cells #[.int .i64 b.kind, .int .i64 b.runners, .slice A n c, .slice A2 m c2, .bool b.fav, .int .i64 b.car, .int .i64 b.dut, .int .i64 b.stp] 25 (0, 0)⟩, ⟨gl, .cells cul 3 (0, 0)⟩, ⟨w5.heap.size, .cells #[.int .i64 b.kind, .int .i64 b.runners, .slice Av ((offL (b.bets.take q) r).length) cv, .slice A2 m c2, .bool b.fav, .int .i64 b.car, .int .i64 b.dut, .int .i64 b.stp] 25 (0, 0)⟩] (by kernel_rfl)
          have hP := Scratch_any w11 w11.heap.size (bkB b (offL (b.bets.take q) r)) Av (offL (b.bets.take q) r).length cv A2 m c2 r ⟨hbo6 _ (fun kb hk => hA.at_.rok kb (List.mem_append_left _ hk)), (h.scr.below hA.below hB).more (Nat.le_trans hB hA.size), hc6, h.hc2⟩ (Nat.le_refl _)
          rw [hz1, he1] at hP
          refine call hA [] on (hP) (by kernel_rfl) (by rintro e v ⟨A8y, cby, A9y, csy, rfl, hbsy, ho1y, ho2y⟩; exact hbsy) ?_
          rintro e w12 ⟨A8y, cby, A9y, csy, rfl, hbsy, ho1y, ho2y⟩
          refine ⟨_, rfl, fun hA => ?_⟩
          have hq9 := At.own2 hApy hbsy (by decide) ho1y ho2y
          obtain ⟨ob8y, ob9y, hr1y, hr2y, hA2y⟩ := hq9
          refine reknow ⟨[⟨w.heap.size, .cells #[.int .i64 b.kind, .int .i64 b.runners, .slice A n c, .slice A2 m c2, .bool b.fav, .int .i64 b.car, .int .i64 b.dut, .int .i64 b.stp] 25 (0, 0)⟩, ⟨gl, .cells cul 3 (0, 0)⟩, ⟨w5.heap.size, .cells #[.int .i64 b.kind, .int .i64 b.runners, .slice Av ((offL (b.bets.take q) r).length) cv, .slice A2 m c2, .bool b.fav, .int .i64 b.car, .int .i64 b.dut, .int .i64 b.stp] 25 (0, 0)⟩], w12.heap.size, [], [], [], [], []⟩ hA2y (Nat.zero_le _) fun hA => ?_
          refine runS hA 19 (List.replicate 8 (.k 3) ++ List.replicate 5 (.g false)) xn (oc (rfl : Value.bool false = .bool false) (oc (rfl : Value.bool false = .bool false) (oc (rfl : Value.bool false = .bool false) (oc (rfl : Value.bool false = .bool false) (oc (rfl : Value.bool false = .bool false) on))))) (by kernel_rfl) fun w13 hA => ?_
          refine revals hA (rc 96 (dec_t (show ((racN b).length : Int) > (2 : Int) by omega)) rn) (by kernel_rfl) fun hA => ?_
          refine opv (v := .bool false) hA [.g false] (oc (rfl : Value.bool false = .bool false) on) (s := cmpSem .neq 4 (.tmp 93) (.tmp 96) (.bool true) (.bool true)) (by kernel_rfl) (cmp_bool _ _ (by kernel_rfl) (by kernel_rfl)) fun hA => ?_
          refine runS hA 13 [] xn on (by kernel_rfl) fun w14 hA => ?_
          by_cases hfr : fv = r
          case pos =>
            refine runS hA 15 (List.replicate 4 (.g true)) xn (oc (eq_t hfr) (oc (rfl : Value.bool true = .bool true) (oc (rfl : Value.bool true = .bool true) (oc (rfl : Value.bool true = .bool true) on)))) (by kernel_rfl) fun w15 hA => ?_
            refine callB hA [] on (Works_any w15) (by kernel_rfl) fun w16 hb16 hA => ?_
            refine runS hA 6 [] xn on (by kernel_rfl) fun w17 hA => ?_
            exact ret (v := .bool true) hA [] (by kernel_rfl) ⟨rfl, hA.below⟩
          case neg =>
            refine runS hA 12 ([.g false, .g false] ++ List.replicate 8 (.k 3)) xn (oc (eq_f hfr) (oc (rfl : Value.bool false = .bool false) on)) (by kernel_rfl) fun w15 hA => ?_
            have hfn : favF (bkB b (offL (b.bets.take q) r)) ≠ r := by rw [← hfv]; exact hfr
            have hP := rcheckBook_any w15 w15.heap.size (scrF (bkB b (offL (b.bets.take q) r)) r) A8y (scrF (bkB b (offL (b.bets.take q) r)) r).bets.length cby A9y (scrF (bkB b (offL (b.bets.take q) r)) r).scr.length csy (rows_bk2 (w := w15) hr1y hr2y (fun kb hk => hA.at_.rok kb (List.mem_append_left _ hk)) (fun kb hk => hA.at_.rok kb (List.mem_append_right _ (List.mem_append_left _ hk))) (by omega) (by omega)) (Nat.le_refl _)
            rw [hy0] at hP
            refine callB hA [] on (hP) (by kernel_rfl) fun w16 hb16 hA => ?_
            refine runS hA 10 (List.replicate 8 (.k 3)) xn on (by kernel_rfl) fun w17 hA => ?_
            have hfy := finL_isFin (valid_of hy0) ys
            have haty := finL_at hy0 ys
            have hfx := fin_out h0x hrmx h3x hfy
            have hatx : atF (bkB b (offL (b.bets.take q) r)) ((finL (scrF (bkB b (offL (b.bets.take q) r)) r) ys 8) ++ [[r]]) = 0 := by unfold atF; rw [if_pos h0x, if_pos hfx]
            have hap := accF_out h0x hrmx h3x hnx hfn hfy
            have hq9 : ∃ a, a = AccountF (scrF (bkB b (offL (b.bets.take q) r)) r) (finL (scrF (bkB b (offL (b.bets.take q) r)) r) ys 8) := ⟨_, rfl⟩
            obtain ⟨a, ha⟩ := hq9
            rw [← ha] at hap
            have hq9 : ∃ FN, FN = (finL (scrF (bkB b (offL (b.bets.take q) r)) r) ys 8).length := ⟨_, rfl⟩
            obtain ⟨FN, hFN⟩ := hq9
            have hF1 : 0 < FN := by rw [hFN]; exact (fin_ok (valid_of hy0) hfy).pos
            have hF8 : FN ≤ 8 := by rw [hFN]; exact finL_len _ _ 8
            have hq9 : ∃ WN, WN = (winF (bkB b (offL (b.bets.take q) r)) ((finL (scrF (bkB b (offL (b.bets.take q) r)) r) ys 8) ++ [[r]])).length := ⟨_, rfl⟩
            obtain ⟨WN, hWN⟩ := hq9
            have hW9 : WN ≤ 1000 := by rw [hWN]; exact win_few h0x hfx
            have hApf := hA.atK [⟨w.heap.size, .cells #[.int .i64 b.kind, .int .i64 b.runners, .slice A n c, .slice A2 m c2, .bool b.fav, .int .i64 b.car, .int .i64 b.dut, .int .i64 b.stp] 25 (0, 0)⟩, ⟨gl, .cells cul 3 (0, 0)⟩, ⟨w5.heap.size, .cells #[.int .i64 b.kind, .int .i64 b.runners, .slice Av ((offL (b.bets.take q) r).length) cv, .slice A2 m c2, .bool b.fav, .int .i64 b.car, .int .i64 b.dut, .int .i64 b.stp] 25 (0, 0)⟩, ⟨w12.heap.size, .cells #[.int .i64 ((scrF (bkB b (offL (b.bets.take q) r)) r).kind), .int .i64 ((scrF (bkB b (offL (b.bets.take q) r)) r).runners), .slice A8y ((scrF (bkB b (offL (b.bets.take q) r)) r).bets.length) cby, .slice A9y ((scrF (bkB b (offL (b.bets.take q) r)) r).scr.length) csy, .bool ((scrF (bkB b (offL (b.bets.take q) r)) r).fav), .int .i64 ((scrF (bkB b (offL (b.bets.take q) r)) r).car), .int .i64 ((scrF (bkB b (offL (b.bets.take q) r)) r).dut), .int .i64 ((scrF (bkB b (offL (b.bets.take q) r)) r).stp)] 25 (0, 0)⟩] (by kernel_rfl)
            have hP := Finish_any w17 w17.heap.size (scrF (bkB b (offL (b.bets.take q) r)) r) A8y (scrF (bkB b (offL (b.bets.take q) r)) r).bets.length cby A9y (scrF (bkB b (offL (b.bets.take q) r)) r).scr.length csy A3 ny cy ys (rows_bk2 (w := w17) hr1y hr2y (fun kb hk => hA.at_.rok kb (List.mem_append_left _ hk)) (fun kb hk => hA.at_.rok kb (List.mem_append_right _ (List.mem_append_left _ hk))) (by omega) (by omega)) ((hy.below hA.below hB).more (Nat.le_trans hB hA.size)) (Nat.le_refl _) (valid_of hy0)
            rw [← hFN] at hP
            refine call hA [] on (hP) (by kernel_rfl) (by rintro e v ⟨Af, cf, ob, rfl, hbf, hof, hfk⟩; exact hbf) ?_
            rintro e w18 ⟨Af, cf, ob, rfl, hbf, hof, hfk⟩
            refine ⟨_, rfl, fun hA => ?_⟩
            have hA2f := At.ownL hApf hbf hof
            refine reknow ⟨[⟨w.heap.size, .cells #[.int .i64 b.kind, .int .i64 b.runners, .slice A n c, .slice A2 m c2, .bool b.fav, .int .i64 b.car, .int .i64 b.dut, .int .i64 b.stp] 25 (0, 0)⟩, ⟨gl, .cells cul 3 (0, 0)⟩, ⟨w5.heap.size, .cells #[.int .i64 b.kind, .int .i64 b.runners, .slice Av ((offL (b.bets.take q) r).length) cv, .slice A2 m c2, .bool b.fav, .int .i64 b.car, .int .i64 b.dut, .int .i64 b.stp] 25 (0, 0)⟩, ⟨w12.heap.size, .cells #[.int .i64 ((scrF (bkB b (offL (b.bets.take q) r)) r).kind), .int .i64 ((scrF (bkB b (offL (b.bets.take q) r)) r).runners), .slice A8y ((scrF (bkB b (offL (b.bets.take q) r)) r).bets.length) cby, .slice A9y ((scrF (bkB b (offL (b.bets.take q) r)) r).scr.length) csy, .bool ((scrF (bkB b (offL (b.bets.take q) r)) r).fav), .int .i64 ((scrF (bkB b (offL (b.bets.take q) r)) r).car), .int .i64 ((scrF (bkB b (offL (b.bets.take q) r)) r).dut), .int .i64 ((scrF (bkB b (offL (b.bets.take q) r)) r).stp)] 25 (0, 0)⟩], w18.heap.size, [], [], [], [], []⟩ hA2f (Nat.zero_le _) fun hA => ?_
            refine runS hA 6 [] xn on (by kernel_rfl) fun w19 hA => ?_
            have hf1 := hfk _ (fun kb hk => hA.at_.rok kb (List.mem_append_left _ hk))
            have hx1 : BkAt w19 w19.heap.size (bkB b (offL (b.bets.take q) r)) Av (offL (b.bets.take q) r).length cv A2 m c2 := ⟨hbo6 _ (fun kb hk => hA.at_.rok kb (List.mem_append_right _ (List.mem_append_right _ (List.mem_append_right _ (List.mem_append_left _ hk))))), (h.scr.below hA.below hB).more (Nat.le_trans hB hA.size), hc6, h.hc2⟩
            have hy1 := (rows_bk2 (w := w19) hr1y hr2y (fun kb hk => hA.at_.rok kb (List.mem_append_right _ (List.mem_append_left _ hk))) (fun kb hk => hA.at_.rok kb (List.mem_append_right _ (List.mem_append_right _ (List.mem_append_left _ hk)))) (by omega) (by omega))
            have hK0 := hA.atK [⟨w.heap.size, .cells #[.int .i64 b.kind, .int .i64 b.runners, .slice A n c, .slice A2 m c2, .bool b.fav, .int .i64 b.car, .int .i64 b.dut, .int .i64 b.stp] 25 (0, 0)⟩, ⟨gl, .cells cul 3 (0, 0)⟩, ⟨w5.heap.size, .cells #[.int .i64 b.kind, .int .i64 b.runners, .slice Av ((offL (b.bets.take q) r).length) cv, .slice A2 m c2, .bool b.fav, .int .i64 b.car, .int .i64 b.dut, .int .i64 b.stp] 25 (0, 0)⟩, ⟨w12.heap.size, .cells #[.int .i64 ((scrF (bkB b (offL (b.bets.take q) r)) r).kind), .int .i64 ((scrF (bkB b (offL (b.bets.take q) r)) r).runners), .slice A8y ((scrF (bkB b (offL (b.bets.take q) r)) r).bets.length) cby, .slice A9y ((scrF (bkB b (offL (b.bets.take q) r)) r).scr.length) csy, .bool ((scrF (bkB b (offL (b.bets.take q) r)) r).fav), .int .i64 ((scrF (bkB b (offL (b.bets.take q) r)) r).car), .int .i64 ((scrF (bkB b (offL (b.bets.take q) r)) r).dut), .int .i64 ((scrF (bkB b (offL (b.bets.take q) r)) r).stp)] 25 (0, 0)⟩, ⟨w18.heap.size, .cells #[] 23 (0, 0)⟩] (by kernel_rfl)
            have hobx := hK0.ok ⟨w5.heap.size, .cells #[.int .i64 b.kind, .int .i64 b.runners, .slice Av ((offL (b.bets.take q) r).length) cv, .slice A2 m c2, .bool b.fav, .int .i64 b.car, .int .i64 b.dut, .int .i64 b.stp] 25 (0, 0)⟩ (List.mem_of_getElem? (i := 2) (by kernel_rfl))
            have hcx0 := cell_lt (cell_of_obj (a := ⟨w5.heap.size, 0, none⟩) hobx rfl rfl)
            have hcx1 := cell_lt (cell_of_obj (a := ⟨w5.heap.size, 1, none⟩) hobx rfl rfl)
            have hcx2 := cell_lt (cell_of_obj (a := ⟨w5.heap.size, 2, none⟩) hobx rfl rfl)
            have hcx3 := cell_lt (cell_of_obj (a := ⟨w5.heap.size, 3, none⟩) hobx rfl rfl)
            have hcx4 := cell_lt (cell_of_obj (a := ⟨w5.heap.size, 4, none⟩) hobx rfl rfl)
            have hcx5 := cell_lt (cell_of_obj (a := ⟨w5.heap.size, 5, none⟩) hobx rfl rfl)
            have hcx6 := cell_lt (cell_of_obj (a := ⟨w5.heap.size, 6, none⟩) hobx rfl rfl)
            have hcx7 := cell_lt (cell_of_obj (a := ⟨w5.heap.size, 7, none⟩) hobx rfl rfl)
            have hoby := hK0.ok ⟨w12.heap.size, .cells #[.int .i64 ((scrF (bkB b (offL (b.bets.take q) r)) r).kind), .int .i64 ((scrF (bkB b (offL (b.bets.take q) r)) r).runners), .slice A8y ((scrF (bkB b (offL (b.bets.take q) r)) r).bets.length) cby, .slice A9y ((scrF (bkB b (offL (b.bets.take q) r)) r).scr.length) csy, .bool ((scrF (bkB b (offL (b.bets.take q) r)) r).fav), .int .i64 ((scrF (bkB b (offL (b.bets.take q) r)) r).car), .int .i64 ((scrF (bkB b (offL (b.bets.take q) r)) r).dut), .int .i64 ((scrF (bkB b (offL (b.bets.take q) r)) r).stp)] 25 (0, 0)⟩ (List.mem_of_getElem? (i := 3) (by kernel_rfl))
            have hcy0 := cell_lt (cell_of_obj (a := ⟨w12.heap.size, 0, none⟩) hoby rfl rfl)
            have hcy1 := cell_lt (cell_of_obj (a := ⟨w12.heap.size, 1, none⟩) hoby rfl rfl)
            have hcy2 := cell_lt (cell_of_obj (a := ⟨w12.heap.size, 2, none⟩) hoby rfl rfl)
            have hcy3 := cell_lt (cell_of_obj (a := ⟨w12.heap.size, 3, none⟩) hoby rfl rfl)
            have hcy4 := cell_lt (cell_of_obj (a := ⟨w12.heap.size, 4, none⟩) hoby rfl rfl)
            have hcy5 := cell_lt (cell_of_obj (a := ⟨w12.heap.size, 5, none⟩) hoby rfl rfl)
            have hcy6 := cell_lt (cell_of_obj (a := ⟨w12.heap.size, 6, none⟩) hoby rfl rfl)
            have hcy7 := cell_lt (cell_of_obj (a := ⟨w12.heap.size, 7, none⟩) hoby rfl rfl)
            have hWb := hA.below
            have hWs := hA.size
            refine rebase hA w19 (by kernel_rfl) (At.start _) fun hA => ?_
            have hq9 := fin_vals hf1
            obtain ⟨vs, hvl, hvr, hva⟩ := hq9
            have hvo := hva.ones
            refine runS hA 1 [] xn on (by kernel_rfl) fun w20 hA => ?_
            refine appNDS (t := 36) (e := 23) (ty := 36) (z := .slice none 0 0) (size := 1) (bytes := 24) (n := 0) (cap := 0) (m := FN) (cp := cf) (A := some ⟨w18.heap.size, 0, none⟩) (A' := Af) [] vs hA (by kernel_rfl) rfl (ReadsAt.nil _ _) (fun h9 => by cases h9) (Nat.le_refl _) (by omega) (reads_below hvr hA.below) hvo (by omega) (by omega) (by omega) (by omega) fun g1 c1 w21 ob1 hr1 hA => ?_
            refine runS hA 3 [] xn on (by kernel_rfl) fun w22 hA => ?_
            have hob9 := cell_of_obj (a := ⟨w21.heap.size + 1, 0, none⟩) (hA.at_.ok ⟨w21.heap.size + 1, .cells #[.slice (some ⟨w21.heap.size, 0, none⟩) 1 1] 23 (0, 0)⟩ (List.mem_of_getElem? (i := 1) (by kernel_rfl))) rfl rfl
            refine appEDS (t := 36) (e := 23) (ty := 36) (z := .slice none 0 0) (size := 1) (bytes := 24) (v := .slice (some ⟨g1, 0, none⟩) (0 + FN) c1) (n := 0 + FN) (m := 1) (cp := 1) (A := some ⟨w21.heap.size + 1, 0, none⟩) (vs := [] ++ vs) (ob := ob1) [.slice (some ⟨w21.heap.size, 0, none⟩) 1 1] hA hr1 (by kernel_rfl) rfl (fun _ => ⟨_, rfl, fun p u hu => by match p, hu with | 0, hu => cases hu; exact hob9⟩) rfl (by omega) (by omega) (by omega) fun g2 c2' w23 ob2 hr2 hA => ?_
            refine runS hA 7 [.x (.int .i64 b.kind), .x (.int .i64 b.runners), .x (.slice Av ((offL (b.bets.take q) r).length) cv), .x (.slice A2 m c2), .x (.bool b.fav), .x (.int .i64 b.car), .x (.int .i64 b.dut), .x (.int .i64 b.stp)] (xc (a := ⟨w5.heap.size, 0, none⟩) hcx0 (xc (a := ⟨w5.heap.size, 1, none⟩) hcx1 (xc (a := ⟨w5.heap.size, 2, none⟩) hcx2 (xc (a := ⟨w5.heap.size, 3, none⟩) hcx3 (xc (a := ⟨w5.heap.size, 4, none⟩) hcx4 (xc (a := ⟨w5.heap.size, 5, none⟩) hcx5 (xc (a := ⟨w5.heap.size, 6, none⟩) hcx6 (xc (a := ⟨w5.heap.size, 7, none⟩) hcx7 xn)))))))) on (by kernel_rfl) fun w24 hA => ?_
            have hG := fin_row hr2 (fun kb hk => hA.at_.rok kb (List.mem_append_left _ hk)) ((hva.below hA.below).snoc (F := [r]) (c := 1) (Nat.le_refl 1) (int_row (hA.at_.ok ⟨w21.heap.size, .cells #[.int .i64 r] 3 (0, 0)⟩ (List.mem_of_getElem? (i := 0) (by kernel_rfl))))) (by omega)
            have hApw := hA.atK [⟨w21.heap.size, .cells #[.int .i64 r] 3 (0, 0)⟩, ⟨w21.heap.size + 1, .cells #[.slice (some ⟨w21.heap.size, 0, none⟩) 1 1] 23 (0, 0)⟩] (by kernel_rfl)
            refine call hA [] on (WinnersS_any w24 w24.heap.size (bkB b (offL (b.bets.take q) r)) Av (offL (b.bets.take q) r).length cv A2 m c2 (some ⟨g2, 0, none⟩) (0 + FN + 1) c2' ((finL (scrF (bkB b (offL (b.bets.take q) r)) r) ys 8) ++ [[r]]) WN ((hx1.below hA.below (Nat.le_refl _)).more hA.size) hG (Nat.le_refl _) h0x hfx hWN.symm) (by kernel_rfl) (by rintro e v ⟨Aw, cw, rfl, hbw, how⟩; exact hbw) ?_
            rintro e w25 ⟨Aw, cw, rfl, hbw, how⟩
            refine ⟨_, rfl, fun hA => ?_⟩
            have hq9 := At.own hApw hbw how
            obtain ⟨ob8w, hrw, hA2w⟩ := hq9
            refine reknow ⟨[⟨w21.heap.size, .cells #[.int .i64 r] 3 (0, 0)⟩, ⟨w21.heap.size + 1, .cells #[.slice (some ⟨w21.heap.size, 0, none⟩) 1 1] 23 (0, 0)⟩], w25.heap.size, [], [], [], [], []⟩ hA2w (Nat.zero_le _) fun hA => ?_
            have hptw := row_at hrw (by omega)
            refine runS hA 24 [] xn on (by kernel_rfl) fun w26 hA => ?_
            have hwl := win_last h0x hrmx h3x hfy
            refine loop (γ := Nat) (fun i => [(2, .slice A3 ny cy), (3, .pointer (some ⟨w.heap.size, 0, none⟩)), (7, .slice (some ⟨gl, 0, none⟩) ((racN b).length) cl), (8, .int .i64 r), (9, .pointer (some ⟨w5.heap.size, 0, none⟩)), (10, .int .i64 (q : Int)), (13, .pointer (some ⟨w12.heap.size, 0, none⟩)), (14, .int .i64 0), (15, .slice Af FN cf), (16, .slice (some ⟨g2, 0, none⟩) (0 + FN + 1) c2'), (17, .slice Aw WN cw), (18, .int .i64 (i : Int))]) (fun i => [⟨w21.heap.size, .cells #[.int .i64 r] 3 (0, 0)⟩]) (fun _ => ob8w ++ (ob2 ++ ([]))) (fun g i wr => i ≤ WN ∧ g = WN - i) WN 0 [true, false] hA (by kernel_rfl) (⟨Nat.zero_le _, rfl⟩) ?_
            rintro _ i wr ⟨hi, rfl⟩ J hJ hA
            by_cases hlt : i < WN
            case pos =>
              have hRw := hptw _ (fun kb hk => hA.at_.rok kb (List.mem_append_left _ hk))
              have hq9 := hRw.2.2 (by omega)
              obtain ⟨bw, ow, rfl, hbw1, hcw⟩ := hq9
              have hwi := hwl ((winF (bkB b (offL (b.bets.take q) r)) ((finL (scrF (bkB b (offL (b.bets.take q) r)) r) ys 8) ++ [[r]]))[i]?.getD (0, 0)) (get_mem (by omega))
              have hq9 := encW_get (winF (bkB b (offL (b.bets.take q) r)) ((finL (scrF (bkB b (offL (b.bets.take q) r)) r) ys 8) ++ [[r]])) i (by omega)
              obtain ⟨ge0, ge1⟩ := hq9
              have e0 : bw < wr.heap.size ∧ wr.cell? ⟨bw, ow + i * 2, none⟩ = some (.int .i64 ((winF (bkB b (offL (b.bets.take q) r)) ((finL (scrF (bkB b (offL (b.bets.take q) r)) r) ys 8) ++ [[r]]))[i]?.getD (0, 0)).1) := ⟨hbw1, by have := hcw _ _ ge0; exact this⟩
              have e1 : bw < wr.heap.size ∧ wr.cell? ⟨bw, ow + i * 2 + 1, none⟩ = some (.int .i64 ((winF (bkB b (offL (b.bets.take q) r)) ((finL (scrF (bkB b (offL (b.bets.take q) r)) r) ys 8) ++ [[r]]))[i]?.getD (0, 0)).2) := ⟨hbw1, by have := hcw _ _ ge1; exact this⟩
              have hS9 := hA.atK [⟨w21.heap.size, .cells #[.int .i64 r] 3 (0, 0)⟩] (by kernel_rfl)
              refine rebase hA wr (by kernel_rfl) (At.start _) fun hA => ?_
              refine runS hA 43 [.b true, .i, .x (.int .i64 (((winF (bkB b (offL (b.bets.take q) r)) ((finL (scrF (bkB b (offL (b.bets.take q) r)) r) ys 8) ++ [[r]]))[i]?.getD (0, 0)).1)), .g false, .g false, .g false, .i, .g false, .g false, .x (.int .i64 (((winF (bkB b (offL (b.bets.take q) r)) ((finL (scrF (bkB b (offL (b.bets.take q) r)) r) ys 8) ++ [[r]]))[i]?.getD (0, 0)).2)), .g false, .g false, .b false] (xc (a := ⟨bw, ow + i * 2, none⟩) e0 (xc (a := ⟨bw, ow + i * 2 + 1, none⟩) e1 xn)) (oc (dec_t (show (((i : Int) : Int) < (WN : Int)) by omega)) (oc (show (0 : Int) ≤ ((i : Int) : Int) ∧ ((i : Int) : Int) < (WN : Int) by omega) (oc (eq_f hwi.1) (oc (rfl : Value.bool false = .bool false) (oc (rfl : Value.bool false = .bool false) (oc (show (0 : Int) ≤ ((i : Int) : Int) ∧ ((i : Int) : Int) < (WN : Int) by omega) (oc (rfl : Value.bool false = .bool false) (oc (rfl : Value.bool false = .bool false) (oc (rfl : Value.bool false = .bool false) (oc (rfl : Value.bool false = .bool false) (oc (eq_f hwi.2) on))))))))))) (by kernel_rfl) fun w27 hA => ?_
              refine back hA (kn' := [⟨w21.heap.size, .cells #[.int .i64 r] 3 (0, 0)⟩]) (by kernel_rfl) (At.call hS9 hA.below) fun hA => ?_
              refine revals hA (rc 18 (wr64 (x := (i : Int) + 1) (y := ((i + 1 : Nat) : Int)) (by omega) (by omega)) rn) (by kernel_rfl) fun hA => ?_
              exact again hJ (WN - (i + 1)) (i + 1) [true] hA (by omega) (by kernel_rfl) (⟨by omega, rfl⟩)
            case neg =>
              refine runS hA 12 [.b false] xn (oc (dec_f (show ¬ (((i : Int) : Int) < (WN : Int)) by omega)) on) (by kernel_rfl) fun w27 hA => ?_
              refine leave hA (by kernel_rfl) fun hA => ?_
              refine runS hA 6 [.x (.int .i64 b.kind), .x (.int .i64 b.runners), .x (.slice Av ((offL (b.bets.take q) r).length) cv), .x (.slice A2 m c2), .x (.bool b.fav), .x (.int .i64 b.car), .x (.int .i64 b.dut), .x (.int .i64 b.stp)] (xc (a := ⟨w5.heap.size, 0, none⟩) hcx0 (xc (a := ⟨w5.heap.size, 1, none⟩) hcx1 (xc (a := ⟨w5.heap.size, 2, none⟩) hcx2 (xc (a := ⟨w5.heap.size, 3, none⟩) hcx3 (xc (a := ⟨w5.heap.size, 4, none⟩) hcx4 (xc (a := ⟨w5.heap.size, 5, none⟩) hcx5 (xc (a := ⟨w5.heap.size, 6, none⟩) hcx6 (xc (a := ⟨w5.heap.size, 7, none⟩) hcx7 xn)))))))) on (by kernel_rfl) fun w28 hA => ?_
              have hG := fin_row hr2 (fun kb hk => hA.at_.rok kb (List.mem_append_right _ (List.mem_append_left _ hk))) ((hva.below hA.below).snoc (F := [r]) (c := 1) (Nat.le_refl 1) (int_row (hA.at_.ok ⟨w21.heap.size, .cells #[.int .i64 r] 3 (0, 0)⟩ (List.mem_of_getElem? (i := 0) (by kernel_rfl))))) (by omega)
              have hP := Account_any w28 w28.heap.size (bkB b (offL (b.bets.take q) r)) Av (offL (b.bets.take q) r).length cv A2 m c2 (some ⟨g2, 0, none⟩) (0 + FN + 1) c2' ((finL (scrF (bkB b (offL (b.bets.take q) r)) r) ys 8) ++ [[r]]) ((hx1.below hA.below (Nat.le_refl _)).more hA.size) hG (Nat.le_refl _)
              rw [hap, hatx] at hP
              refine callB hA [] on (hP) (by kernel_rfl) fun w29 hb29 hA => ?_
              refine runS hA 12 (List.replicate 6 (.k 1) ++ [.x (.int .i64 ((scrF (bkB b (offL (b.bets.take q) r)) r).kind)), .x (.int .i64 ((scrF (bkB b (offL (b.bets.take q) r)) r).runners)), .x (.slice A8y ((scrF (bkB b (offL (b.bets.take q) r)) r).bets.length) cby), .x (.slice A9y ((scrF (bkB b (offL (b.bets.take q) r)) r).scr.length) csy), .x (.bool ((scrF (bkB b (offL (b.bets.take q) r)) r).fav)), .x (.int .i64 ((scrF (bkB b (offL (b.bets.take q) r)) r).car)), .x (.int .i64 ((scrF (bkB b (offL (b.bets.take q) r)) r).dut)), .x (.int .i64 ((scrF (bkB b (offL (b.bets.take q) r)) r).stp))]) (xc (a := ⟨w12.heap.size, 0, none⟩) hcy0 (xc (a := ⟨w12.heap.size, 1, none⟩) hcy1 (xc (a := ⟨w12.heap.size, 2, none⟩) hcy2 (xc (a := ⟨w12.heap.size, 3, none⟩) hcy3 (xc (a := ⟨w12.heap.size, 4, none⟩) hcy4 (xc (a := ⟨w12.heap.size, 5, none⟩) hcy5 (xc (a := ⟨w12.heap.size, 6, none⟩) hcy6 (xc (a := ⟨w12.heap.size, 7, none⟩) hcy7 xn)))))))) on (by kernel_rfl) fun w30 hA => ?_
              have hP := Account_any w30 w19.heap.size (scrF (bkB b (offL (b.bets.take q) r)) r) A8y (scrF (bkB b (offL (b.bets.take q) r)) r).bets.length cby A9y (scrF (bkB b (offL (b.bets.take q) r)) r).scr.length csy Af FN cf (finL (scrF (bkB b (offL (b.bets.take q) r)) r) ys 8) (hy1.below hA.below (Nat.le_refl _)) (hf1.below hA.below (Nat.le_refl _)) hA.size
              rw [← ha, haty] at hP
              refine callB hA [] on (hP) (by kernel_rfl) fun w31 hb31 hA => ?_
              refine runS hA 19 (List.replicate 6 (.k 2) ++ [.g true, .g true, .g true] ++ List.replicate 6 (.k 1) ++ [.g true] ++ List.replicate 6 (.k 2)) xn (oc (rfl : Value.bool true = .bool true) (oc (rfl : Value.bool true = .bool true) (oc (rfl : Value.bool true = .bool true) (oc (rfl : Value.bool true = .bool true) on)))) (by kernel_rfl) fun w32 hA => ?_
              refine opv (v := .bool true) hA [] on (s := cmpSem .eql 47 (.tmp 178) (.tmp 179) (.agg #[.int .i64 a.inn, .int .i64 a.back, .int .i64 a.duty, .int .i64 a.paid, .int .i64 a.kept, .int .i64 a.over]) (.agg #[.int .i64 a.inn, .int .i64 a.back, .int .i64 a.duty, .int .i64 a.paid, .int .i64 a.kept, .int .i64 a.over])) (by kernel_rfl) (cmp_flat (n := 6) false (by kernel_rfl) _ (by kernel_rfl) (fun i hi => by match i, hi with | 0, _ => exact ⟨_, _, _, rfl, rfl⟩ | 1, _ => exact ⟨_, _, _, rfl, rfl⟩ | 2, _ => exact ⟨_, _, _, rfl, rfl⟩ | 3, _ => exact ⟨_, _, _, rfl, rfl⟩ | 4, _ => exact ⟨_, _, _, rfl, rfl⟩ | 5, _ => exact ⟨_, _, _, rfl, rfl⟩) (True) (⟨fun _ => trivial, fun _ => rfl⟩) (by kernel_rfl)) fun hA => ?_
              refine runS hA 2 [] xn on (by kernel_rfl) fun w33 hA => ?_
              refine callB hA [] on (Works_any w33) (by kernel_rfl) fun w34 hb34 hA => ?_
              refine runS hA 5 [] xn on (by kernel_rfl) fun w35 hA => ?_
              refine back hA (by kernel_rfl) (At.plain (hWb.trans (hA.below.mono hWs))) fun hA => ?_
              exact ret (v := .bool true) hA [] (by kernel_rfl) ⟨rfl, hA.below⟩
end Go.Proofs.Ytbahiemjaomdcaa

/- PoolNobody answers true whatever the book, the runner and the numbers of the finish; the arguments read behind the call as they did. No condition. -/
namespace Go.Proofs.Ytbahiemjaomdcaa.poolNobody
open Go.ChangeShapes Go.WideShapes Go.ChangeAt Go.RowKit

theorem own : ownKnob Try.prog.godebug = none := by kernel_rfl
theorem laidOut : laidOutB Try.prog = true := by kernel_rfl
theorem cellsInt : Try.prog.cellsOf 3 = 1 := by kernel_rfl
/-- A slice of numbers among the arguments. -/
theorem ints_arg {H : Type} {enc : TypeId × Value → H} {W : World} {fuel : Nat} {v : Value} {x : DataW H × List MemPlace} (h : DataW.trod enc Try.prog W 0 (fun _ => true) true fuel 23 [v] = some x) :
    ∃ A n c xs, v = .slice A n c ∧ n ≤ c ∧ IntsAt W W.heap.size A n xs := by
  rcases open_ints Try.underlying23 Try.underlying3 cellsInt h with ⟨hcs, -⟩ | ⟨a, n, c, zs, hcs, -, hl, hm, hz, -, hcell, -⟩
  · obtain rfl : v = .slice none 0 0 := by simpa using hcs
    exact ⟨none, 0, 0, [], rfl, Nat.le_refl _, IntsAt.nil⟩
  · obtain rfl : v = .slice (some a) n c := by simpa using hcs
    have hz : zs.length = c := by simpa using hz
    refine ⟨some a, n, c, zs.take n, rfl, hl, by rw [List.length_take]; omega, by simp only [maxLen] at hm; omega, fun h0 => ?_⟩
    obtain ⟨b, off, rfl, hc⟩ := Go.ints_at hcell (by omega)
    refine ⟨b, off, rfl, ?_, fun j hj => ?_⟩
    · rcases Nat.lt_or_ge b W.heap.size with hb | hb
      · exact hb
      · have := hc 0 (by omega)
        simp [World.cell?, Array.getElem?_eq_none hb] at this
    · rw [hc j (by omega), List.getElem?_take, if_pos hj, List.getD_eq_getElem?_getD]
theorem cellsI64 : Try.prog.cellsOf 2 = 1 := by kernel_rfl
theorem cellsBool : Try.prog.cellsOf 4 = 1 := by kernel_rfl
theorem cellsBet : Try.prog.cellsOf 53 = 3 := by kernel_rfl
theorem cellsBets : Try.prog.cellsOf 22 = 1 := by kernel_rfl
theorem cellsInts : Try.prog.cellsOf 23 = 1 := by kernel_rfl
theorem cellsBook : Try.prog.cellsOf 25 = 8 := by kernel_rfl
theorem bet_gen {H : Type} {enc : TypeId × Value → H} {P : Program} {W : World} {fuel : Nat} {T I J : TypeId} {f0 f1 f2 : Field} (ht : P.underlying T = some (.struct #[f0, f1, f2])) (hi : P.underlying I = some (.int .i64)) (hj : P.underlying J = some (.int .i64)) (cI : P.cellsOf I = 1) (cJ : P.cellsOf J = 1) (cT : P.cellsOf T = 3)
    (o0 : f0.offset = 0 ∧ f0.type = I) (o1 : f1.offset = 1 ∧ f1.type = I) (o2 : f2.offset = 2 ∧ f2.type = J) {cs : List Value} {x : DataW H × List MemPlace} (h : DataW.trod enc P W 0 (fun _ => true) true fuel T cs = some x) :
    ∃ y : Bet, cs = [.int .i64 y.first, .int .i64 y.second, .int .i64 y.units] := by
  obtain ⟨xs, m, -, -, hl, hn, hf⟩ := Go.DataW.trod_struct ht h
  rw [cT] at hl
  obtain ⟨v0, v1, v2, rfl⟩ : ∃ v0 v1 v2, cs = [v0, v1, v2] := by
    match cs, hl with
    | [a, b, c], _ => exact ⟨a, b, c, rfl⟩
  have g0 := hf 0 f0 rfl
  have g1 := hf 1 f1 rfl
  have g2 := hf 2 f2 rfl
  simp only [List.size_toArray, List.length_cons, List.length_nil] at hn
  rw [List.getElem?_eq_getElem (by omega)] at g0 g1 g2
  rw [o0.1, o0.2, cI] at g0
  rw [o1.1, o1.2, cI] at g1
  rw [o2.1, o2.2, cJ] at g2
  obtain ⟨a, e0, -, -⟩ := Go.DataW.trod_int hi g0
  obtain ⟨b, e1, -, -⟩ := Go.DataW.trod_int hi g1
  obtain ⟨c, e2, -, -⟩ := Go.DataW.trod_int hj g2
  simp at e0 e1 e2
  exact ⟨⟨a, b, c⟩, by rw [e0, e1, e2]⟩
theorem bet_arg {H : Type} {enc : TypeId × Value → H} {W : World} {fuel : Nat} {cs : List Value} {x : DataW H × List MemPlace} (h : DataW.trod enc Try.prog W 0 (fun _ => true) true fuel 53 cs = some x) :
    ∃ y : Bet, cs = [.int .i64 y.first, .int .i64 y.second, .int .i64 y.units] := bet_gen Try.underlying53 Try.underlying3 Try.underlying2 cellsInt cellsI64 cellsBet ⟨rfl, rfl⟩ ⟨rfl, rfl⟩ ⟨rfl, rfl⟩ h
/-- A slice of bets among the arguments. -/
theorem bets_arg {H : Type} {enc : TypeId × Value → H} {W : World} {fuel : Nat} {v : Value} {x : DataW H × List MemPlace} (h : DataW.trod enc Try.prog W 0 (fun _ => true) true fuel 22 [v] = some x) :
    ∃ A n c bs, v = .slice A n c ∧ n ≤ c ∧ BetsAt W W.heap.size A n bs := by
  rcases Go.Deep.open_slice Try.underlying22 h with ⟨hcs, -⟩ | ⟨a, len, cap, m, n', D, Pl, hcs, -, hl, hm, hmm, -, hel⟩
  · obtain rfl : v = .slice none 0 0 := by simpa using hcs
    exact ⟨none, 0, 0, [], rfl, Nat.le_refl _, rfl, by omega, fun h => absurd h (by omega)⟩
  · obtain rfl : v = .slice (some a) len cap := by simpa using hcs
    have hmc : m = cap := by simpa using hmm
    have each : ∀ i, i < len → ∃ y : Bet, W.cell? (a.add (i * 3)) = some (.int .i64 y.first) ∧ W.cell? (a.add (i * 3 + 1)) = some (.int .i64 y.second) ∧ W.cell? (a.add (i * 3 + 2)) = some (.int .i64 y.units) := by
      intro i hi
      obtain ⟨cs', h1, h2⟩ := hel i (by omega)
      obtain ⟨y, rfl⟩ := bet_arg h2
      rw [cellsBet] at h1
      obtain ⟨_, hlen, hcell⟩ := World.cells?_some h1
      have g0 := hcell 0 (by omega)
      have g1 := hcell 1 (by omega)
      have g2 := hcell 2 (by omega)
      rw [Go.Deep.add_add] at g0 g1 g2
      exact ⟨y, by simpa using g0, by simpa using g1, by simpa using g2⟩
    obtain ⟨fx, hfx⟩ := Go.Deep.choose_lt each
    refine ⟨some a, len, cap, (List.range len).map fx, rfl, hl, by simp, by simp only [maxLen] at hm; omega, fun h0 => ?_⟩
    obtain ⟨b, off, spot⟩ := a
    have hc0 := (hfx 0 h0).1
    have hspot : spot = none := by simpa [Addr.add] using World.cell?_spot hc0
    subst hspot
    refine ⟨b, off, rfl, ?_, fun j hj => ?_⟩
    · rcases Nat.lt_or_ge b W.heap.size with hb | hb
      · exact hb
      · simp [World.cell?, Addr.add, Array.getElem?_eq_none hb] at hc0
    · have e := hfx j hj
      rw [Go.WideShapes.add_plain, Go.WideShapes.add_plain, Go.WideShapes.add_plain] at e
      rw [List.getElem?_map, List.getElem?_range hj, Option.map_some, Option.getD_some]
      exact e
theorem book_gen {H : Type} {enc : TypeId × Value → H} {P : Program} {W : World} {fuel : Nat} {T I J S R C : TypeId} {f0 f1 f2 f3 f4 f5 f6 f7 : Field} (ht : P.underlying T = some (.struct #[f0, f1, f2, f3, f4, f5, f6, f7])) (hi : P.underlying I = some (.int .i64)) (hj : P.underlying J = some (.int .i64)) (hb : P.underlying C = some .bool)
    (cI : P.cellsOf I = 1) (cJ : P.cellsOf J = 1) (cS : P.cellsOf S = 1) (cR : P.cellsOf R = 1) (cC : P.cellsOf C = 1) (cT : P.cellsOf T = 8)
    (o0 : f0.offset = 0 ∧ f0.type = I) (o1 : f1.offset = 1 ∧ f1.type = I) (o2 : f2.offset = 2 ∧ f2.type = S) (o3 : f3.offset = 3 ∧ f3.type = R) (o4 : f4.offset = 4 ∧ f4.type = C) (o5 : f5.offset = 5 ∧ f5.type = J) (o6 : f6.offset = 6 ∧ f6.type = J) (o7 : f7.offset = 7 ∧ f7.type = J)
    {cs : Array Value} {x : DataW H × List MemPlace} (h : DataW.trod enc P W 0 (fun _ => true) true fuel T cs.toList = some x) :
    ∃ (a0 a1 : Int) (v2 v3 : Value) (a4 : Bool) (a5 a6 a7 : Int) (q : Nat) (x2 x3 : DataW H × List MemPlace), cs = #[.int .i64 a0, .int .i64 a1, v2, v3, .bool a4, .int .i64 a5, .int .i64 a6, .int .i64 a7] ∧
      DataW.trod enc P W 0 (fun _ => true) true q S [v2] = some x2 ∧ DataW.trod enc P W 0 (fun _ => true) true q R [v3] = some x3 := by
  obtain ⟨xs, q, -, -, hl, hn, hf⟩ := Go.DataW.trod_struct ht h
  rw [cT] at hl
  obtain ⟨v0, v1, v2, v3, v4, v5, v6, v7, hc⟩ : ∃ v0 v1 v2 v3 v4 v5 v6 v7, cs.toList = [v0, v1, v2, v3, v4, v5, v6, v7] := by
    generalize cs.toList = l at hl
    match l, hl with
    | [a, b, c, d, e, f, g, h], _ => exact ⟨a, b, c, d, e, f, g, h, rfl⟩
  rw [hc] at hf
  simp only [List.size_toArray, List.length_cons, List.length_nil] at hn
  have g0 := hf 0 f0 rfl
  have g1 := hf 1 f1 rfl
  have g2 := hf 2 f2 rfl
  have g3 := hf 3 f3 rfl
  have g4 := hf 4 f4 rfl
  have g5 := hf 5 f5 rfl
  have g6 := hf 6 f6 rfl
  have g7 := hf 7 f7 rfl
  rw [List.getElem?_eq_getElem (by omega)] at g0 g1 g2 g3 g4 g5 g6 g7
  rw [o0.1, o0.2, cI] at g0
  rw [o1.1, o1.2, cI] at g1
  rw [o2.1, o2.2, cS] at g2
  rw [o3.1, o3.2, cR] at g3
  rw [o4.1, o4.2, cC] at g4
  rw [o5.1, o5.2, cJ] at g5
  rw [o6.1, o6.2, cJ] at g6
  rw [o7.1, o7.2, cJ] at g7
  obtain ⟨a0, e0, -, -⟩ := Go.DataW.trod_int hi g0
  obtain ⟨a1, e1, -, -⟩ := Go.DataW.trod_int hi g1
  obtain ⟨a4, e4, -⟩ := Go.DataW.trod_bool hb g4
  obtain ⟨a5, e5, -, -⟩ := Go.DataW.trod_int hj g5
  obtain ⟨a6, e6, -, -⟩ := Go.DataW.trod_int hj g6
  obtain ⟨a7, e7, -, -⟩ := Go.DataW.trod_int hj g7
  simp at e0 e1 e4 e5 e6 e7
  refine ⟨a0, a1, v2, v3, a4, a5, a6, a7, q, _, _, ?_, by simpa using g2, by simpa using g3⟩
  apply Array.toList_inj.1
  rw [hc, e0, e1, e4, e5, e6, e7]
/-- A book among the arguments. -/
theorem book_arg {H : Type} {enc : TypeId × Value → H} {W : World} {fuel : Nat} {cs : Array Value} {x : DataW H × List MemPlace} (h : DataW.trod enc Try.prog W 0 (fun _ => true) true fuel 25 cs.toList = some x) :
    ∃ b A n c A2 m c2, cs = bkC b A n c A2 m c2 ∧ BkAt W W.heap.size b A n c A2 m c2 := by
  obtain ⟨a0, a1, v2, v3, a4, a5, a6, a7, q, x2, x3, rfl, f2, f3⟩ := book_gen Try.underlying25 Try.underlying3 Try.underlying2 Try.underlying4 cellsInt cellsI64 cellsBets cellsInts cellsBool cellsBook ⟨rfl, rfl⟩ ⟨rfl, rfl⟩ ⟨rfl, rfl⟩ ⟨rfl, rfl⟩ ⟨rfl, rfl⟩ ⟨rfl, rfl⟩ ⟨rfl, rfl⟩ ⟨rfl, rfl⟩ h
  obtain ⟨A, n, c, bs, rfl, l2, i2⟩ := bets_arg f2
  obtain ⟨A2, m, c2, ss, rfl, l3, i3⟩ := ints_arg f3
  exact ⟨⟨a0, a1, bs, ss, a4, a5, a6, a7⟩, A, n, c, A2, m, c2, rfl, i2, i3, l2, l3⟩
theorem cellsByte : Try.prog.cellsOf 5 = 1 := by kernel_rfl
/-- A slice of bytes among the arguments. -/
theorem bytes_arg {H : Type} {enc : TypeId × Value → H} {W : World} {fuel : Nat} {v : Value} {x : DataW H × List MemPlace} (h : DataW.trod enc Try.prog W 0 (fun _ => true) true fuel 44 [v] = some x) :
    ∃ A n c xs, v = .slice A n c ∧ n ≤ c ∧ U8At W W.heap.size A n xs := by
  rcases open_ints Try.underlying44 Try.underlying5 cellsByte h with ⟨hcs, -⟩ | ⟨a, n, c, zs, hcs, -, hl, hm, hz, -, hcell, hwf⟩
  · obtain rfl : v = .slice none 0 0 := by simpa using hcs
    exact ⟨none, 0, 0, [], rfl, Nat.le_refl _, rfl, by omega, fun h => absurd h (by omega)⟩
  · obtain rfl : v = .slice (some a) n c := by simpa using hcs
    have hz : zs.length = c := by simpa using hz
    refine ⟨some a, n, c, zs.take n, rfl, hl, by rw [List.length_take]; omega, by simp only [maxLen] at hm; omega, fun h0 => ?_⟩
    obtain ⟨b, off, rfl, hc⟩ := Go.ints_at hcell (by omega)
    refine ⟨b, off, rfl, ?_, fun j hj => ⟨?_, ?_⟩⟩
    · rcases Nat.lt_or_ge b W.heap.size with hb | hb
      · exact hb
      · have := hc 0 (by omega)
        simp [World.cell?, Array.getElem?_eq_none hb] at this
    · rw [hc j (by omega), List.getElem?_take, if_pos hj, List.getD_eq_getElem?_getD]
    · rw [List.getElem?_take, if_pos hj]
      exact range_u8 hwf j

/-! ### THE ROW's STEP -/
set_option maxRecDepth 100000 in
theorem lifted (os : Os) (started : os.Started) (H : Type) (enc : TypeId × Value → H) :
    ReturnsInHanded {} Try.checked os 11 .any (Rows.poolNobodySpec.pre6 enc Try.prog Try.f11 Rows.poolNobodyRow.domain false) (Rows.poolNobodySpec.post enc Try.prog Try.f11 false true false false) := by
  refine returnsInHanded_of_change (C := Try.checked) own started (by kernel_rfl) Try.func11
    (ChangeSpec.witness6 (enc := enc) (C := Try.checked) false ⟨#[], #[.agg #[.int .i64 0, .int .i64 0, .slice none 0 0, .slice none 0 0, .bool false, .int .i64 0, .int .i64 0, .int .i64 0], .int .u8 0, .slice none 0 0], []⟩ 8 (by kernel_rfl) (by kernel_rfl) (by kernel_rfl) (by kernel_rfl)) ?_
  intro W base args ds gs before hval0 hW hcnd _
  have hval : ∀ (j : Nat) t v, Try.f11.params[j]? = some t → args[j]? = some v → Value.okWide Try.prog W .any base t v := hval0
  have hW' := hW
  obtain ⟨p, q, hA0, hV, rfl, hfz, hnd⟩ := hW
  have hA : DataW.TrodAll enc Try.prog W 0 (fun _ => true) true Try.f11.params.toList args.toList ds p := hA0
  rw [Try.params11] at hA hval
  obtain ⟨v0, v1, v2, d0, d1, d2, p0, p1, p2, rfl, rfl, rfl, h0, h1, h2⟩ := trodAll_three hA
  obtain ⟨rfl, rfl⟩ := trodVars_none hV
  obtain ⟨cs0, rfl, -⟩ := okWide_struct Try.underlying25 (hval 0 25 v0 rfl rfl)
  obtain ⟨x1, rfl, rfl, rfl, wx1⟩ := open_int Try.underlying5 (hval 1 5 v1 rfl rfl) h1
  obtain ⟨A2, n2, c2, rfl⟩ := okWide_slice Try.underlying44 (hval 2 44 v2 rfl rfl)
  have h0k := h0
  have h2k := h2
  obtain ⟨f0, hf0⟩ := h0
  obtain ⟨f2, hf2⟩ := h2
  obtain ⟨b0, A0, n0, c0, B0, m0, d0, e0, i0⟩ := book_arg (cs := cs0) hf0
  subst e0
  obtain ⟨A2', n2', c2', x2, e2, l2, i2⟩ := bytes_arg hf2
  cases e2
  clear hA0 hval0
  simp only [List.append_nil] at hW'
  have hlt0 : ∀ x ∈ p0, x.block < W.heap.size := fun x hx => by simpa using hW'.lt x (by simp [hx])
  have hlt2 : ∀ x ∈ p2, x.block < W.heap.size := fun x hx => by simpa using hW'.lt x (by simp [hx])
  have bd1 : 0 ≤ x1 ∧ x1 ≤ 255 := by have := bounds_u8 wx1; omega
  refine (PoolNobody_any W W.heap.size b0 A0 n0 c0 B0 m0 d0 x1 A2 n2 c2 x2 i0 bd1 i2 (Nat.le_refl _)).mono fun e W' ⟨he, hg⟩ => ?_
  subst he
  exact ⟨_, rfl, _, _, _, [], p0 ++ ([] ++ p2), [], hW', trodAll_cons_mk (shut_bool Try.underlying4 _) trodAll_mk0,
    trodAll_mk3 (Below.trod laidOut (by kernel_rfl) (of_decide_eq_true (by kernel_rfl)) h0k hg hlt0) (shut_int Try.underlying5 wx1) (Below.trod laidOut (by kernel_rfl) (of_decide_eq_true (by kernel_rfl)) h2k hg hlt2),
    rfl, hg.frame _, fun h => by cases h⟩

theorem over : Rows.poolNobodyRow.holds Try.pinned (OpenSpec.ofChange Rows.poolNobodySpec) :=
  OpenClaim.holds_of_wide 11 Try.f11 rfl rfl rfl rfl rfl rfl rfl ⟨rfl, rfl, rfl, rfl, rfl⟩ rfl rfl rfl rfl rfl (by kernel_rfl) Try.func11 (by kernel_rfl)
    (of_decide_eq_true (by kernel_rfl)) (by unfold Func.isWrapper; first | (rw [if_pos (by decide +kernel)]; kernel_rfl) | (rw [if_neg (by decide +kernel)]; exact ⟨rfl, rfl⟩))
    (fun os started H enc _ => lifted os started H enc)

/-- The statement. -/
theorem proved : Rows.PoolNobodySaid :=
  over
#print axioms proved
end Go.Proofs.Ytbahiemjaomdcaa.poolNobody
