/- Parts of a proof: VD VE WF VT WG WH ZD. -/
import Derived.Test.YtbahiemjaomdcaaF13

/- quinellaref03: Scratch. -/
namespace Go.Proofs.Ytbahiemjaomdcaa
open Go.RowKit Go.Shelf

set_option maxHeartbeats 4000000 in
set_option maxRecDepth 20000 in
theorem rScratch_any (w : World) (B : Nat) (b : Bk) (A : Option Addr) (n c : Nat) (A2 : Option Addr) (m c2 : Nat) (r : Int) (h : BkAt w B b A n c A2 m c2) (hB : B ≤ w.heap.size) :
    Calls Try.prog 17 #[bkV b A n c A2 m c2, .int .i64 r] w fun e w' => ∃ A' c' A2' c2', e = .returned (.tuple #[bkV (scB' b r) A' (scB' b r).bets.length c' A2' (scB' b r).scr.length c2', .int .i64 (scE b r)]) ∧ Below w.heap.size w w' ∧ w'.ownsRow w.heap.size 53 3 (.slice A' (scB' b r).bets.length c') (scB' b r).bets.length (encB (scB' b r).bets) ∧ w'.ownsRow w.heap.size 3 1 (.slice A2' (scB' b r).scr.length c2') (scB' b r).scr.length (ints (scB' b r).scr) := by
  have hbl := h.bets.1
  have hxl := h.scr.1
  refine enter 65 Try.func17 (by kernel_rfl) fun hA => ?_
  refine runS hA 11 (List.replicate 8 (.k 0)) xn on (by kernel_rfl) fun w1 hA => ?_
  refine callB hA [] on (rcheckBook_any w1 B b A n c A2 m c2 (h.below hA.below hB) (Nat.le_trans hB hA.size)) (by kernel_rfl) fun w2 hb2 hA => ?_
  by_cases h0 : bookF b = 0
  case neg =>
    refine runS hA 8 ([.b true] ++ List.replicate 8 (.k 0)) xn (oc (ne_t h0) on) (by kernel_rfl) fun w3 hA => ?_
    refine callB hA [] on (rcheckBook_any w3 B b A n c A2 m c2 (h.below hA.below hB) (Nat.le_trans hB hA.size)) (by kernel_rfl) fun w4 hb4 hA => ?_
    refine runS hA 6 (List.replicate 8 (.k 1)) xn on (by kernel_rfl) fun w5 hA => ?_
    have he : scE b r = bookF b := by unfold scE; rw [if_neg h0]
    have hzb : scB' b r = zeroB := if_neg (by rw [he]; exact h0)
    exact ret (v := .tuple #[.agg #[.int .i64 0, .int .i64 0, .slice none 0 0, .slice none 0 0, .bool false, .int .i64 0, .int .i64 0, .int .i64 0], .int .i64 (bookF b)]) hA (List.replicate 8 (.k 1)) (by kernel_rfl) ⟨none, 0, none, 0, by rw [hzb, he]; rfl, hA.below, by rw [hzb]; exact ⟨rfl, .inl ⟨rfl, rfl⟩⟩, by rw [hzb]; exact ⟨rfl, .inl ⟨rfl, rfl⟩⟩⟩
  case pos =>
    have V := valid_of h0
    have hv1 := V.run
    have hv2 := V.len
    have hv3 := V.few
    have hrs := racL_scr V
    refine runS hA 12 [.b false, .t 0] xn (oc (ne_f h0) on) (by kernel_rfl) fun w3 hA => ?_
    by_cases ht0 : r < 0
    case pos =>
      refine runS hA 17 (List.replicate 4 (.g true) ++ List.replicate 8 (.k 1)) xn (oc (dec_t (show ((r : Int) < (0 : Int)) by omega)) (oc (rfl : Value.bool true = .bool true) (oc (rfl : Value.bool true = .bool true) (oc (rfl : Value.bool true = .bool true) on)))) (by kernel_rfl) fun w4 hA => ?_
      have he : scE b r = 3 := by unfold scE; rw [if_pos h0, if_pos (isR_false (by omega))]
      have hzb : scB' b r = zeroB := if_neg (by rw [he]; decide)
      exact ret (v := .tuple #[.agg #[.int .i64 0, .int .i64 0, .slice none 0 0, .slice none 0 0, .bool false, .int .i64 0, .int .i64 0, .int .i64 0], .int .i64 3]) hA (List.replicate 8 (.k 1)) (by kernel_rfl) ⟨none, 0, none, 0, by rw [hzb, he]; rfl, hA.below, by rw [hzb]; exact ⟨rfl, .inl ⟨rfl, rfl⟩⟩, by rw [hzb]; exact ⟨rfl, .inl ⟨rfl, rfl⟩⟩⟩
    case neg =>
      by_cases ht1 : r ≥ b.runners
      case pos =>
        refine runS hA 17 ([.g false, .g false, .g false, .k 0, .g false, .b true] ++ List.replicate 8 (.k 1)) xn (oc (dec_f (show ¬ ((r : Int) < (0 : Int)) by omega)) (oc (rfl : Value.bool false = .bool false) (oc (rfl : Value.bool false = .bool false) (oc (rfl : Value.bool false = .bool false) (oc (dec_t (show ((r : Int) ≥ (b.runners : Int)) by omega)) on))))) (by kernel_rfl) fun w4 hA => ?_
        have he : scE b r = 3 := by unfold scE; rw [if_pos h0, if_pos (isR_false (by omega))]
        have hzb : scB' b r = zeroB := if_neg (by rw [he]; decide)
        exact ret (v := .tuple #[.agg #[.int .i64 0, .int .i64 0, .slice none 0 0, .slice none 0 0, .bool false, .int .i64 0, .int .i64 0, .int .i64 0], .int .i64 3]) hA (List.replicate 8 (.k 1)) (by kernel_rfl) ⟨none, 0, none, 0, by rw [hzb, he]; rfl, hA.below, by rw [hzb]; exact ⟨rfl, .inl ⟨rfl, rfl⟩⟩, by rw [hzb]; exact ⟨rfl, .inl ⟨rfl, rfl⟩⟩⟩
      case neg =>
        refine runS hA 16 [.g false, .g false, .g false, .k 0, .g false, .b false, .k 0] xn (oc (dec_f (show ¬ ((r : Int) < (0 : Int)) by omega)) (oc (rfl : Value.bool false = .bool false) (oc (rfl : Value.bool false = .bool false) (oc (rfl : Value.bool false = .bool false) (oc (dec_f (show ¬ ((r : Int) ≥ (b.runners : Int)) by omega)) on))))) (by kernel_rfl) fun w4 hA => ?_
        have hir : isR b r = true := (isR_iff b r).2 (by omega)
        refine callB hA [] on (has_any w4 B A2 m c2 b.scr r (h.scr.below hA.below hB) (Nat.le_trans hB hA.size)) (by kernel_rfl) fun w5 hb5 hA => ?_
        by_cases hm : r ∈ b.scr
        case pos =>
          refine revals hA (rc 26 (show .bool (decide (r ∈ b.scr)) = .bool true by rw [decide_eq_true hm]) rn) (by kernel_rfl) fun hA => ?_
          refine runS hA 12 (List.replicate 8 (.k 1)) xn on (by kernel_rfl) fun w6 hA => ?_
          have he : scE b r = 11 := by unfold scE; rw [if_pos h0, if_neg (by rw [hir]; decide), if_pos hm]
          have hzb : scB' b r = zeroB := if_neg (by rw [he]; decide)
          exact ret (v := .tuple #[.agg #[.int .i64 0, .int .i64 0, .slice none 0 0, .slice none 0 0, .bool false, .int .i64 0, .int .i64 0, .int .i64 0], .int .i64 11]) hA (List.replicate 8 (.k 1)) (by kernel_rfl) ⟨none, 0, none, 0, by rw [hzb, he]; rfl, hA.below, by rw [hzb]; exact ⟨rfl, .inl ⟨rfl, rfl⟩⟩, by rw [hzb]; exact ⟨rfl, .inl ⟨rfl, rfl⟩⟩⟩
        case neg =>
          refine revals hA (rc 26 (show .bool (decide (r ∈ b.scr)) = .bool false by rw [decide_eq_false hm]) rn) (by kernel_rfl) fun hA => ?_
          refine runS hA 17 [.k 0, .k 0, .t 0] xn on (by kernel_rfl) fun w6 hA => ?_
          have hwr : IntKind.i64.wrap (b.runners - (m : Int)) = b.runners - (m : Int) := by rw [IntKind.wrap_i64]; omega
          by_cases h2 : b.runners - (m : Int) = 2
          case pos =>
            refine runS hA 10 ([.b true] ++ List.replicate 8 (.k 1)) xn (oc (eq_t (a := IntKind.i64.wrap (b.runners - (m : Int))) (b := 2) (by rw [hwr]; exact h2)) on) (by kernel_rfl) fun w7 hA => ?_
            have he : scE b r = 10 := by unfold scE; rw [if_pos h0, if_neg (by rw [hir]; decide), if_neg hm, if_pos (by omega)]
            have hzb : scB' b r = zeroB := if_neg (by rw [he]; decide)
            exact ret (v := .tuple #[.agg #[.int .i64 0, .int .i64 0, .slice none 0 0, .slice none 0 0, .bool false, .int .i64 0, .int .i64 0, .int .i64 0], .int .i64 10]) hA (List.replicate 8 (.k 1)) (by kernel_rfl) ⟨none, 0, none, 0, by rw [hzb, he]; rfl, hA.below, by rw [hzb]; exact ⟨rfl, .inl ⟨rfl, rfl⟩⟩, by rw [hzb]; exact ⟨rfl, .inl ⟨rfl, rfl⟩⟩⟩
          case neg =>
            refine runS hA 15 ([.b false] ++ List.replicate 8 (.k 0) ++ List.replicate 8 (.k 2) ++ [.k 0]) xn (oc (eq_f (a := IntKind.i64.wrap (b.runners - (m : Int))) (b := 2) (by rw [hwr]; exact h2)) on) (by kernel_rfl) fun w7 hA => ?_
            have he : scE b r = 0 := by unfold scE; rw [if_pos h0, if_neg (by rw [hir]; decide), if_neg hm, if_neg (by omega)]
            have hzb : scB' b r = scrF b r := if_pos he
            have hA4 := (hA.atK [⟨w.heap.size, .cells #[.int .i64 b.kind, .int .i64 b.runners, .slice A n c, .slice A2 m c2, .bool b.fav, .int .i64 b.car, .int .i64 b.dut, .int .i64 b.stp] 25 (0, 0)⟩, ⟨w.heap.size + 1, .cells #[.int .i64 0, .int .i64 0, .slice none 0 0, .slice none 0 0, .bool false, .int .i64 0, .int .i64 0, .int .i64 0] 25 (0, 0)⟩, ⟨w5.heap.size, .cells #[.int .i64 b.kind, .int .i64 b.runners, .slice A n c, .slice A2 m c2, .bool b.fav, .int .i64 b.car, .int .i64 b.dut, .int .i64 b.stp] 25 (0, 0)⟩, ⟨w5.heap.size + 1, .cells #[] 53 (0, 0)⟩] (by kernel_rfl)).lower (kn := [⟨w.heap.size, .cells #[.int .i64 b.kind, .int .i64 b.runners, .slice A n c, .slice A2 m c2, .bool b.fav, .int .i64 b.car, .int .i64 b.dut, .int .i64 b.stp] 25 (0, 0)⟩, ⟨w.heap.size + 1, .cells #[.int .i64 0, .int .i64 0, .slice none 0 0, .slice none 0 0, .bool false, .int .i64 0, .int .i64 0, .int .i64 0] 25 (0, 0)⟩, ⟨w5.heap.size, .cells #[.int .i64 b.kind, .int .i64 b.runners, .slice A n c, .slice A2 m c2, .bool b.fav, .int .i64 b.car, .int .i64 b.dut, .int .i64 b.stp] 25 (0, 0)⟩])
            refine reknow ⟨[⟨w.heap.size, .cells #[.int .i64 b.kind, .int .i64 b.runners, .slice A n c, .slice A2 m c2, .bool b.fav, .int .i64 b.car, .int .i64 b.dut, .int .i64 b.stp] 25 (0, 0)⟩, ⟨w.heap.size + 1, .cells #[.int .i64 0, .int .i64 0, .slice none 0 0, .slice none 0 0, .bool false, .int .i64 0, .int .i64 0, .int .i64 0] 25 (0, 0)⟩, ⟨w5.heap.size, .cells #[.int .i64 b.kind, .int .i64 b.runners, .slice A n c, .slice A2 m c2, .bool b.fav, .int .i64 b.car, .int .i64 b.dut, .int .i64 b.stp] 25 (0, 0)⟩], w7.heap.size, [], [], [], [], []⟩ (hA4.resize) (Nat.zero_le _) fun hA => ?_
            refine appE (t := 22) (e := 53) (ty := 22) (z := .agg #[.int .i64 0, .int .i64 0, .int .i64 0]) (size := 3) (bytes := 24) (v := .slice (some ⟨w5.heap.size + 1, 0, none⟩) 0 0) (n := 0) (m := n) (cp := c) (A := A) (vs := []) (ob := [⟨w5.heap.size + 1, .cells #[] 53 (0, 0)⟩]) (rest := []) (encB b.bets) hA ⟨rfl, .inr ⟨_, 0, _, rfl, rfl, Nat.le_refl _, by decide, rfl, rfl⟩⟩ (by kernel_rfl) (by rw [encB_len, hbl]) (bets_reads (h.bets.below hA.below hB)) (encB_ones _) (by omega) (by omega) fun v1 w8 ob1 hr1 hnil1 hat1 hsz1 hA => ?_
            obtain ⟨g1, c1, u1, rfl, rfl, hr1b⟩ : ∃ g1 c1 u1, v1 = .slice (some ⟨g1, 0, none⟩) (0 + n) c1 ∧ ob1 = [⟨g1, .cells u1 53 (0, 0)⟩] ∧ RowV 53 3 (.slice (some ⟨g1, 0, none⟩) n c1) n (encB b.bets) [⟨g1, .cells u1 53 (0, 0)⟩] := by
              rcases hr1.2 with ⟨h9, -, -⟩ | ⟨g1, c1, u1, h1, h2, h3⟩
              · exact absurd (hnil1.1 h9).1 (by simp)
              · refine ⟨g1, c1, u1, h1, h2, by have := hr1.1; rw [List.nil_append] at this; omega, .inr ⟨g1, c1, u1, rfl, rfl, ?_⟩⟩
                rw [Nat.zero_add, List.nil_append] at h3
                exact h3
            refine revals hA (rc 40 (show .slice (some ⟨g1, 0, none⟩) (0 + n) c1 = .slice (some ⟨g1, 0, none⟩) n c1 by rw [Nat.zero_add]) rn) (by kernel_rfl) fun hA => ?_
            refine runS hA 13 [.k 2, .k 2] xn on (by kernel_rfl) fun w9 hA => ?_
            obtain ⟨R, hR⟩ : ∃ R : Nat, b.runners = (R : Int) := ⟨b.runners.toNat, by omega⟩
            have hr0 : RowV 3 1 (.slice none (scL b r 0).length 0) (scL b r 0).length (ints (scL b r 0)) [] := RowV.nil _ _
            refine loop (γ := Nat × Option Addr × Nat × List KB) (fun ⟨k, Av, cv, ov⟩ => [(1, .int .i64 r), (2, .pointer (some ⟨w.heap.size, 0, none⟩)), (4, .pointer (some ⟨w.heap.size + 1, 0, none⟩)), (5, .int .i64 0), (6, .pointer (some ⟨w5.heap.size, 0, none⟩)), (7, .int .i64 (k : Int))]) (fun ⟨k, Av, cv, ov⟩ => [⟨w.heap.size, .cells #[.int .i64 b.kind, .int .i64 b.runners, .slice A n c, .slice A2 m c2, .bool b.fav, .int .i64 b.car, .int .i64 b.dut, .int .i64 b.stp] 25 (0, 0)⟩, ⟨w.heap.size + 1, .cells #[.int .i64 0, .int .i64 0, .slice none 0 0, .slice none 0 0, .bool false, .int .i64 0, .int .i64 0, .int .i64 0] 25 (0, 0)⟩, ⟨w5.heap.size, .cells #[.int .i64 b.kind, .int .i64 b.runners, .slice (some ⟨g1, 0, none⟩) n c1, .slice Av ((scL b r k).length) cv, .bool b.fav, .int .i64 b.car, .int .i64 b.dut, .int .i64 b.stp] 25 (0, 0)⟩]) (fun ⟨k, Av, cv, ov⟩ => ov ++ [⟨g1, .cells u1 53 (0, 0)⟩]) (fun g ⟨k, Av, cv, ov⟩ wr => k ≤ R ∧ g = R - k ∧ RowV 3 1 (.slice Av (scL b r k).length cv) (scL b r k).length (ints (scL b r k)) ov) R ⟨0, none, 0, []⟩ [true, true, true] hA (by kernel_rfl) (⟨Nat.zero_le _, rfl, hr0⟩) ?_
            rintro _ ⟨k, Av, cv, ov⟩ wr ⟨hk, rfl, hrk⟩ J hJ hA
            have hll := scL_len b r k
            by_cases hlt : k < R
            case neg =>
              refine runS hA 12 [.k 0, .b false] xn (oc (dec_f (show ¬ (((k : Int) : Int) < (b.runners : Int)) by omega)) on) (by kernel_rfl) fun w10 hA => ?_
              refine leave hA (by kernel_rfl) fun hA => ?_
              refine runS hA 10 (List.replicate 8 (.k 2) ++ List.replicate 8 (.k 1)) xn on (by kernel_rfl) fun w11 hA => ?_
              have hkR : k = b.runners.toNat := by omega
              have hfin : scL b r k = insF r b.scr := by rw [hkR]; exact scL_ins V (by omega) hm
              have hAf := hA.atK [⟨w.heap.size, .cells #[.int .i64 b.kind, .int .i64 b.runners, .slice A n c, .slice A2 m c2, .bool b.fav, .int .i64 b.car, .int .i64 b.dut, .int .i64 b.stp] 25 (0, 0)⟩, ⟨w.heap.size + 1, .cells #[.int .i64 b.kind, .int .i64 b.runners, .slice (some ⟨g1, 0, none⟩) n c1, .slice Av ((scL b r k).length) cv, .bool b.fav, .int .i64 b.car, .int .i64 b.dut, .int .i64 b.stp] 25 (0, 0)⟩, ⟨w5.heap.size, .cells #[.int .i64 b.kind, .int .i64 b.runners, .slice (some ⟨g1, 0, none⟩) n c1, .slice Av ((scL b r k).length) cv, .bool b.fav, .int .i64 b.car, .int .i64 b.dut, .int .i64 b.stp] 25 (0, 0)⟩] (by kernel_rfl)
              rw [hfin] at hrk
              exact ret (v := .tuple #[.agg #[.int .i64 b.kind, .int .i64 b.runners, .slice (some ⟨g1, 0, none⟩) n c1, .slice Av ((scL b r k).length) cv, .bool b.fav, .int .i64 b.car, .int .i64 b.dut, .int .i64 b.stp], .int .i64 0]) hA (List.replicate 8 (.k 1)) (by kernel_rfl) ⟨some ⟨g1, 0, none⟩, c1, Av, cv, by rw [hzb, he, hfin, show (scrF b r).bets.length = n from hbl]; rfl, hA.below, by rw [hzb, show (scrF b r).bets.length = n from hbl]; exact hr1b.own (rest := ov) (hA.perm List.perm_append_comm).at_, by rw [hzb]; exact hrk.own hAf⟩
            case pos =>
              by_cases hkr : (k : Int) = r
              case pos =>
                refine runS hA 33 ([.k 0, .b true] ++ List.replicate 4 (.g true) ++ [.k 2]) xn (oc (dec_t (show (((k : Int) : Int) < (b.runners : Int)) by omega)) (oc (eq_t hkr) (oc (rfl : Value.bool true = .bool true) (oc (rfl : Value.bool true = .bool true) (oc (rfl : Value.bool true = .bool true) on))))) (by kernel_rfl) fun w10 hA => ?_
                have hst : scL b r (k + 1) = scL b r k ++ [(k : Int)] := by rw [scL, if_pos (.inl hkr)]
                have hcl := cell_of_obj (a := ⟨wr.heap.size, 0, none⟩) (hA.at_.ok ⟨wr.heap.size, .cells #[.int .i64 (k : Int)] 3 (0, 0)⟩ (List.mem_of_getElem? (i := 3) (by kernel_rfl))) rfl rfl
                refine appE (t := 23) (e := 3) (ty := 23) (z := .int .i64 0) (size := 1) (bytes := 8) (v := .slice Av (scL b r k).length cv) (n := (scL b r k).length) (m := 1) (cp := 1) (A := some ⟨wr.heap.size, 0, none⟩) [.int .i64 (k : Int)] hA hrk (by kernel_rfl) rfl (fun _ => ⟨_, rfl, fun j u hu => by cases j with | zero => cases hu; exact hcl | succ j => cases hu⟩) rfl (by omega) (by omega) fun v2 w11 ob2 hr2 hnil2 hat2 hsz2 hA => ?_
                have hle : (scL b r (k + 1)).length = (scL b r k).length + 1 := by rw [hst, List.length_append]; rfl
                obtain ⟨g2, c2', rfl⟩ : ∃ g2 c2', v2 = .slice (some ⟨g2, 0, none⟩) ((scL b r k).length + 1) c2' := by
                  rcases hr2.2 with ⟨-, h9, -⟩ | ⟨g2, c2', u2, h1, -⟩
                  · omega
                  · exact ⟨g2, c2', h1⟩
                refine runS hA 10 [.k 2] xn on (by kernel_rfl) fun w12 hA => ?_
                have hrk2 : RowV 3 1 (.slice (some ⟨g2, 0, none⟩) (scL b r (k + 1)).length c2') (scL b r (k + 1)).length (ints (scL b r (k + 1))) ob2 := by rw [hle, hst, ints_append]; exact hr2
                refine revals hA (rc 7 (wr64 (x := (k : Int) + 1) (y := ((k + 1 : Nat) : Int)) (by omega) (by omega)) rn) (by kernel_rfl) fun hA => ?_
                have hAk9 := hA.atK [⟨w.heap.size, .cells #[.int .i64 b.kind, .int .i64 b.runners, .slice A n c, .slice A2 m c2, .bool b.fav, .int .i64 b.car, .int .i64 b.dut, .int .i64 b.stp] 25 (0, 0)⟩, ⟨w.heap.size + 1, .cells #[.int .i64 0, .int .i64 0, .slice none 0 0, .slice none 0 0, .bool false, .int .i64 0, .int .i64 0, .int .i64 0] 25 (0, 0)⟩, ⟨w5.heap.size, .cells #[.int .i64 b.kind, .int .i64 b.runners, .slice (some ⟨g1, 0, none⟩) n c1, .slice (some ⟨g2, 0, none⟩) ((scL b r k).length + 1) c2', .bool b.fav, .int .i64 b.car, .int .i64 b.dut, .int .i64 b.stp] 25 (0, 0)⟩, ⟨wr.heap.size, .cells #[.int .i64 (k : Int)] 3 (0, 0)⟩] (by kernel_rfl)
                have hAk8 := hAk9
                rw [← hle] at hAk8
                refine reknow ⟨[⟨w.heap.size, .cells #[.int .i64 b.kind, .int .i64 b.runners, .slice A n c, .slice A2 m c2, .bool b.fav, .int .i64 b.car, .int .i64 b.dut, .int .i64 b.stp] 25 (0, 0)⟩, ⟨w.heap.size + 1, .cells #[.int .i64 0, .int .i64 0, .slice none 0 0, .slice none 0 0, .bool false, .int .i64 0, .int .i64 0, .int .i64 0] 25 (0, 0)⟩, ⟨w5.heap.size, .cells #[.int .i64 b.kind, .int .i64 b.runners, .slice (some ⟨g1, 0, none⟩) n c1, .slice (some ⟨g2, 0, none⟩) ((scL b r (k + 1)).length) c2', .bool b.fav, .int .i64 b.car, .int .i64 b.dut, .int .i64 b.stp] 25 (0, 0)⟩, ⟨wr.heap.size, .cells #[.int .i64 (k : Int)] 3 (0, 0)⟩], w12.heap.size, [], [], [], [], []⟩ hAk8.resize (Nat.zero_le _) fun hA => ?_
                exact again hJ (R - (k + 1)) (⟨k + 1, some ⟨g2, 0, none⟩, c2', ob2⟩) [true, true, true] hA (by omega) (by kernel_rfl) ⟨by omega, rfl, hrk2⟩
              case neg =>
                refine runS hA 23 [.k 0, .b true, .g false, .g false, .k 0, .g false] xn (oc (dec_t (show (((k : Int) : Int) < (b.runners : Int)) by omega)) (oc (eq_f hkr) (oc (rfl : Value.bool false = .bool false) (oc (rfl : Value.bool false = .bool false) on)))) (by kernel_rfl) fun w10 hA => ?_
                refine callB hA [] on (has_any w10 B A2 m c2 b.scr (k : Int) (h.scr.below hA.below hB) (Nat.le_trans hB hA.size)) (by kernel_rfl) fun w11 hb11 hA => ?_
                by_cases hks : (k : Int) ∈ b.scr
                case pos =>
                  refine revals hA (rc 56 (show .bool (decide ((k : Int) ∈ b.scr)) = .bool true by rw [decide_eq_true hks]) rn) (by kernel_rfl) fun hA => ?_
                  refine runS hA 9 [.k 2] xn on (by kernel_rfl) fun w12 hA => ?_
                  have hst : scL b r (k + 1) = scL b r k ++ [(k : Int)] := by rw [scL, if_pos (.inr hks)]
                  have hcl := cell_of_obj (a := ⟨w11.heap.size, 0, none⟩) (hA.at_.ok ⟨w11.heap.size, .cells #[.int .i64 (k : Int)] 3 (0, 0)⟩ (List.mem_of_getElem? (i := 3) (by kernel_rfl))) rfl rfl
                  refine appE (t := 23) (e := 3) (ty := 23) (z := .int .i64 0) (size := 1) (bytes := 8) (v := .slice Av (scL b r k).length cv) (n := (scL b r k).length) (m := 1) (cp := 1) (A := some ⟨w11.heap.size, 0, none⟩) [.int .i64 (k : Int)] hA hrk (by kernel_rfl) rfl (fun _ => ⟨_, rfl, fun j u hu => by cases j with | zero => cases hu; exact hcl | succ j => cases hu⟩) rfl (by omega) (by omega) fun v2 w13 ob2 hr2 hnil2 hat2 hsz2 hA => ?_
                  have hle : (scL b r (k + 1)).length = (scL b r k).length + 1 := by rw [hst, List.length_append]; rfl
                  obtain ⟨g2, c2', rfl⟩ : ∃ g2 c2', v2 = .slice (some ⟨g2, 0, none⟩) ((scL b r k).length + 1) c2' := by
                    rcases hr2.2 with ⟨-, h9, -⟩ | ⟨g2, c2', u2, h1, -⟩
                    · omega
                    · exact ⟨g2, c2', h1⟩
                  refine runS hA 10 [.k 2] xn on (by kernel_rfl) fun w14 hA => ?_
                  have hrk2 : RowV 3 1 (.slice (some ⟨g2, 0, none⟩) (scL b r (k + 1)).length c2') (scL b r (k + 1)).length (ints (scL b r (k + 1))) ob2 := by rw [hle, hst, ints_append]; exact hr2
                  refine revals hA (rc 7 (wr64 (x := (k : Int) + 1) (y := ((k + 1 : Nat) : Int)) (by omega) (by omega)) rn) (by kernel_rfl) fun hA => ?_
                  have hAk9 := hA.atK [⟨w.heap.size, .cells #[.int .i64 b.kind, .int .i64 b.runners, .slice A n c, .slice A2 m c2, .bool b.fav, .int .i64 b.car, .int .i64 b.dut, .int .i64 b.stp] 25 (0, 0)⟩, ⟨w.heap.size + 1, .cells #[.int .i64 0, .int .i64 0, .slice none 0 0, .slice none 0 0, .bool false, .int .i64 0, .int .i64 0, .int .i64 0] 25 (0, 0)⟩, ⟨w5.heap.size, .cells #[.int .i64 b.kind, .int .i64 b.runners, .slice (some ⟨g1, 0, none⟩) n c1, .slice (some ⟨g2, 0, none⟩) ((scL b r k).length + 1) c2', .bool b.fav, .int .i64 b.car, .int .i64 b.dut, .int .i64 b.stp] 25 (0, 0)⟩, ⟨w11.heap.size, .cells #[.int .i64 (k : Int)] 3 (0, 0)⟩] (by kernel_rfl)
                  have hAk8 := hAk9
                  rw [← hle] at hAk8
                  refine reknow ⟨[⟨w.heap.size, .cells #[.int .i64 b.kind, .int .i64 b.runners, .slice A n c, .slice A2 m c2, .bool b.fav, .int .i64 b.car, .int .i64 b.dut, .int .i64 b.stp] 25 (0, 0)⟩, ⟨w.heap.size + 1, .cells #[.int .i64 0, .int .i64 0, .slice none 0 0, .slice none 0 0, .bool false, .int .i64 0, .int .i64 0, .int .i64 0] 25 (0, 0)⟩, ⟨w5.heap.size, .cells #[.int .i64 b.kind, .int .i64 b.runners, .slice (some ⟨g1, 0, none⟩) n c1, .slice (some ⟨g2, 0, none⟩) ((scL b r (k + 1)).length) c2', .bool b.fav, .int .i64 b.car, .int .i64 b.dut, .int .i64 b.stp] 25 (0, 0)⟩, ⟨w11.heap.size, .cells #[.int .i64 (k : Int)] 3 (0, 0)⟩], w14.heap.size, [], [], [], [], []⟩ hAk8.resize (Nat.zero_le _) fun hA => ?_
                  exact again hJ (R - (k + 1)) (⟨k + 1, some ⟨g2, 0, none⟩, c2', ob2⟩) [true, true, true] hA (by omega) (by kernel_rfl) ⟨by omega, rfl, hrk2⟩
                case neg =>
                  refine revals hA (rc 56 (show .bool (decide ((k : Int) ∈ b.scr)) = .bool false by rw [decide_eq_false hks]) rn) (by kernel_rfl) fun hA => ?_
                  refine runS hA 12 [] xn on (by kernel_rfl) fun w12 hA => ?_
                  have hst : scL b r (k + 1) = scL b r k := by rw [scL, if_neg (by rintro (h | h); exact hkr h; exact hks h), List.append_nil]
                  refine revals hA (rc 7 (wr64 (x := (k : Int) + 1) (y := ((k + 1 : Nat) : Int)) (by omega) (by omega)) rn) (by kernel_rfl) fun hA => ?_
                  have hrk2 : RowV 3 1 (.slice Av (scL b r (k + 1)).length cv) (scL b r (k + 1)).length (ints (scL b r (k + 1))) ov := by rw [hst]; exact hrk
                  have hle : (scL b r (k + 1)).length = (scL b r k).length := by rw [hst]
                  have hAk9 := hA.atK [⟨w.heap.size, .cells #[.int .i64 b.kind, .int .i64 b.runners, .slice A n c, .slice A2 m c2, .bool b.fav, .int .i64 b.car, .int .i64 b.dut, .int .i64 b.stp] 25 (0, 0)⟩, ⟨w.heap.size + 1, .cells #[.int .i64 0, .int .i64 0, .slice none 0 0, .slice none 0 0, .bool false, .int .i64 0, .int .i64 0, .int .i64 0] 25 (0, 0)⟩, ⟨w5.heap.size, .cells #[.int .i64 b.kind, .int .i64 b.runners, .slice (some ⟨g1, 0, none⟩) n c1, .slice Av ((scL b r k).length) cv, .bool b.fav, .int .i64 b.car, .int .i64 b.dut, .int .i64 b.stp] 25 (0, 0)⟩] (by kernel_rfl)
                  have hAk8 := hAk9
                  rw [← hle] at hAk8
                  refine reknow ⟨[⟨w.heap.size, .cells #[.int .i64 b.kind, .int .i64 b.runners, .slice A n c, .slice A2 m c2, .bool b.fav, .int .i64 b.car, .int .i64 b.dut, .int .i64 b.stp] 25 (0, 0)⟩, ⟨w.heap.size + 1, .cells #[.int .i64 0, .int .i64 0, .slice none 0 0, .slice none 0 0, .bool false, .int .i64 0, .int .i64 0, .int .i64 0] 25 (0, 0)⟩, ⟨w5.heap.size, .cells #[.int .i64 b.kind, .int .i64 b.runners, .slice (some ⟨g1, 0, none⟩) n c1, .slice Av ((scL b r (k + 1)).length) cv, .bool b.fav, .int .i64 b.car, .int .i64 b.dut, .int .i64 b.stp] 25 (0, 0)⟩], w12.heap.size, [], [], [], [], []⟩ hAk8.resize (Nat.zero_le _) fun hA => ?_
                  exact again hJ (R - (k + 1)) (⟨k + 1, Av, cv, ov⟩) [true, true, true] hA (by omega) (by kernel_rfl) ⟨by omega, rfl, hrk2⟩
end Go.Proofs.Ytbahiemjaomdcaa

/- quinellaref03: FavouriteOf, Favourite. -/
namespace Go.Proofs.Ytbahiemjaomdcaa
open Go.RowKit Go.Shelf

/-- Whether a bet's second runner still runs. -/
def okS (b : Bk) (x : Bet) : Bool := !decide (x.second ∈ b.scr)
theorem tallyS {b : Bk} {k : Nat} (h : (k : Int) ∉ b.scr) (bs : List Bet) : tallyF (okS b) (fun x => x.first) bs k = tallyF (okF b) (fun x => x.first) bs k := by
  unfold tallyF
  congr 1
  refine List.map_congr_left fun x _ => ?_
  by_cases hk : x.first = (k : Int)
  · have e : okF b x = okS b x := by unfold okF okS; rw [hk, decide_eq_false h]; rfl
    rw [e]
  · rw [if_neg (fun hh => hk hh.2), if_neg (fun hh => hk hh.2)]
def bestL (b : Bk) : Nat → Int × Int
  | 0 => (-1, 0)
  | k + 1 => if (k : Int) ∈ b.scr then bestL b k else if (bestL b k).1 < 0 ∨ (bestL b k).2 < tallyF (okS b) (fun x => x.first) b.bets k then ((k : Int), tallyF (okS b) (fun x => x.first) b.bets k) else bestL b k
theorem fgF_snoc (t : Nat → Int) (xs : List Int) (y : Int) : fgF t (xs ++ [y]) = if xs = [] then y else betterF t (fgF t xs) y := by
  cases xs with
  | nil => rfl
  | cons x xs =>
    unfold fgF
    rw [if_neg (by simp)]
    simp
theorem bestL_eq (b : Bk) : ∀ k, bestL b k = if racL b k = [] then (-1, 0) else (fgF (tallyF (okF b) (fun x => x.first) b.bets) (racL b k), tallyF (okF b) (fun x => x.first) b.bets (fgF (tallyF (okF b) (fun x => x.first) b.bets) (racL b k)).toNat)
  | 0 => rfl
  | k + 1 => by
    rw [bestL, racL, bestL_eq b k]
    by_cases h : (k : Int) ∈ b.scr
    · rw [if_pos h, if_pos h, List.append_nil]
    · rw [if_neg h, if_neg h, tallyS h, fgF_snoc, if_neg (show ¬ racL b k ++ [(k : Int)] = [] by simp)]
      by_cases he : racL b k = []
      · rw [if_pos he, if_pos he, if_pos (.inl (by decide))]
        simp
      · rw [if_neg he, if_neg he]
        have h1 := (racL_mem b).1 (fgF_mem (tallyF (okF b) (fun x => x.first) b.bets) (List.length_pos_iff.2 he))
        by_cases h2 : tallyF (okF b) (fun x => x.first) b.bets (fgF (tallyF (okF b) (fun x => x.first) b.bets) (racL b k)).toNat < tallyF (okF b) (fun x => x.first) b.bets k
        · rw [if_pos (.inr h2)]
          unfold betterF
          rw [Int.toNat_natCast, if_pos h2, Int.toNat_natCast]
        · rw [if_neg (fun hh => by rcases hh with hh | hh; (simp only at hh; omega); exact h2 hh)]
          unfold betterF
          rw [Int.toNat_natCast, if_neg h2]
theorem bestL_fav {b : Bk} (h : 0 < (racN b).length) : (bestL b b.runners.toNat).1 = favF b := by
  rw [bestL_eq, if_neg (show ¬ racL b b.runners.toNat = [] from List.length_pos_iff.1 h)]
  rfl
theorem bestL_bound {b : Bk} (hu : ∀ x ∈ b.bets, 0 ≤ x.units ∧ x.units ≤ 1000) : ∀ k, 0 ≤ (bestL b k).2
  | 0 => Int.le_refl 0
  | k + 1 => by
    have h1 := bestL_bound hu k
    have h2 := tallyF_bound (okS b) (fun x => x.first) b.bets k hu
    rw [bestL]
    split
    · exact h1
    · split
      · exact h2.1
      · exact h1
set_option maxHeartbeats 1000000 in
set_option maxRecDepth 20000 in
theorem favouriteOf_any (w : World) (B : Nat) (b : Bk) (A : Option Addr) (n c : Nat) (A2 : Option Addr) (m c2 : Nat) (h : BkAt w B b A n c A2 m c2) (hB : B ≤ w.heap.size) (V : ValidB b) : Calls Try.prog 51 #[bkV b A n c A2 m c2] w fun e w' => e = .returned (.int .i64 (favF b)) ∧ Below w.heap.size w w' := by
  have hbl := h.bets.1
  have hxl := h.scr.1
  have hn9 := h.bets.2.1
  have hv1 := V.run
  have hv2 := V.len
  refine enter 64 Try.func51 (by kernel_rfl) fun hA => ?_
  refine runS hA 19 [] xn on (by kernel_rfl) fun w1 hA => ?_
  obtain ⟨R, hR⟩ : ∃ R : Nat, b.runners = (R : Int) := ⟨b.runners.toNat, by omega⟩
  refine loop (γ := Nat) (fun k => [(1, .pointer (some ⟨w.heap.size, 0, none⟩)), (2, .int .i64 0), (3, .int .i64 ((bestL b k).1)), (4, .int .i64 ((bestL b k).2)), (5, .int .i64 (k : Int))]) (fun k => [⟨w.heap.size, .cells #[.int .i64 b.kind, .int .i64 b.runners, .slice A n c, .slice A2 m c2, .bool b.fav, .int .i64 b.car, .int .i64 b.dut, .int .i64 b.stp] 25 (0, 0)⟩]) (fun _ => []) (fun g k wr => k ≤ R ∧ g = R - k) R 0 [true] hA (by kernel_rfl) (⟨Nat.zero_le _, rfl⟩) ?_
  rintro _ k wr ⟨hk, rfl⟩ J hJ hA
  by_cases hlk : k < R
  case neg =>
    refine runS hA 12 [.k 0, .b false] xn (oc (dec_f (show ¬ (((k : Int) : Int) < (b.runners : Int)) by omega)) on) (by kernel_rfl) fun w2 hA => ?_
    refine leave hA (by kernel_rfl) fun hA => ?_
    refine runS hA 9 [] xn on (by kernel_rfl) fun w3 hA => ?_
    exact ret (v := .int .i64 ((bestL b k).1)) hA [] (by kernel_rfl) ⟨by rw [show k = b.runners.toNat by omega, bestL_fav (by have := V.racing; omega)], hA.below⟩
  case pos =>
    have hJ1 := hJ
    refine runS hA 26 [.k 0, .b true] xn (oc (dec_t (show (((k : Int) : Int) < (b.runners : Int)) by omega)) on) (by kernel_rfl) fun w2 hA => ?_
    refine loop (γ := Nat) (fun i => [(1, .pointer (some ⟨w.heap.size, 0, none⟩)), (2, .int .i64 0), (3, .int .i64 ((bestL b k).1)), (4, .int .i64 ((bestL b k).2)), (5, .int .i64 (k : Int)), (6, .int .i64 (tallyF (okS b) (fun x => x.first) (b.bets.take i) k)), (7, .int .i64 (i : Int))]) (fun i => [⟨w.heap.size, .cells #[.int .i64 b.kind, .int .i64 b.runners, .slice A n c, .slice A2 m c2, .bool b.fav, .int .i64 b.car, .int .i64 b.dut, .int .i64 b.stp] 25 (0, 0)⟩]) (fun _ => []) (fun g i wt => i ≤ n ∧ g = n - i) n 0 [true] hA (by kernel_rfl) (⟨Nat.zero_le _, rfl⟩) ?_
    rintro _ i wt ⟨hi, rfl⟩ J hJ hA
    by_cases hlt : i < n
    case neg =>
      refine runS hA 13 [.k 0, .b false] xn (oc (dec_f (show ¬ (((i : Int) : Int) < (n : Int)) by omega)) on) (by kernel_rfl) fun w3 hA => ?_
      refine leave hA (by kernel_rfl) fun hA => ?_
      have hin : i = n := by omega
      refine revals hA (rc 6 (show .int .i64 (tallyF (okS b) (fun x => x.first) (b.bets.take i) k) = .int .i64 (tallyF (okS b) (fun x => x.first) b.bets k) by rw [List.take_of_length_le (by omega)]) rn) (by kernel_rfl) fun hA => ?_
      refine runS hA 7 [.k 0] xn on (by kernel_rfl) fun w4 hA => ?_
      refine callB hA [] on (has_any w4 B A2 m c2 b.scr (k : Int) (h.scr.below hA.below hB) (Nat.le_trans hB hA.size)) (by kernel_rfl) fun w5 hb5 hA => ?_
      by_cases hks : (k : Int) ∈ b.scr
      case pos =>
        refine revals hA (rc 50 (show .bool (decide ((k : Int) ∈ b.scr)) = .bool true by rw [decide_eq_true hks]) rn) (by kernel_rfl) fun hA => ?_
        refine runS hA 21 (List.replicate 4 (.g false)) xn (oc (rfl : Value.bool false = .bool false) (oc (rfl : Value.bool false = .bool false) (oc (rfl : Value.bool false = .bool false) (oc (rfl : Value.bool false = .bool false) on)))) (by kernel_rfl) fun w6 hA => ?_
        have hst : bestL b (k + 1) = bestL b k := by rw [bestL, if_pos hks]
        refine revals hA (rc 3 (show .int .i64 ((bestL b k).1) = .int .i64 ((bestL b (k + 1)).1) by rw [hst]) (rc 4 (show .int .i64 ((bestL b k).2) = .int .i64 ((bestL b (k + 1)).2) by rw [hst]) (rc 5 (wr64 (x := (k : Int) + 1) (y := ((k + 1 : Nat) : Int)) (by omega) (by omega)) rn))) (by kernel_rfl) fun hA => ?_
        exact again hJ1 (R - (k + 1)) (k + 1) [true] hA (by omega) (by kernel_rfl) ⟨by omega, rfl⟩
      case neg =>
        refine revals hA (rc 50 (show .bool (decide ((k : Int) ∈ b.scr)) = .bool false by rw [decide_eq_false hks]) rn) (by kernel_rfl) fun hA => ?_
        by_cases hb0 : (bestL b k).1 < 0
        case pos =>
          refine runS hA 26 (List.replicate 7 (.g true)) xn (oc (rfl : Value.bool true = .bool true) (oc (rfl : Value.bool true = .bool true) (oc (rfl : Value.bool true = .bool true) (oc (dec_t (show (((bestL b k).1 : Int) < (0 : Int)) by omega)) (oc (rfl : Value.bool true = .bool true) (oc (rfl : Value.bool true = .bool true) (oc (rfl : Value.bool true = .bool true) on))))))) (by kernel_rfl) fun w6 hA => ?_
          have hst : bestL b (k + 1) = ((k : Int), (tallyF (okS b) (fun x => x.first) b.bets k)) := by rw [bestL, if_neg hks, if_pos (.inl hb0)]
          refine revals hA (rc 3 (show .int .i64 (k : Int) = .int .i64 ((bestL b (k + 1)).1) by rw [hst]) (rc 4 (show .int .i64 (tallyF (okS b) (fun x => x.first) b.bets k) = .int .i64 ((bestL b (k + 1)).2) by rw [hst]) (rc 5 (wr64 (x := (k : Int) + 1) (y := ((k + 1 : Nat) : Int)) (by omega) (by omega)) rn))) (by kernel_rfl) fun hA => ?_
          exact again hJ1 (R - (k + 1)) (k + 1) [true] hA (by omega) (by kernel_rfl) ⟨by omega, rfl⟩
        case neg =>
          by_cases hb1 : (bestL b k).2 < (tallyF (okS b) (fun x => x.first) b.bets k)
          case pos =>
            refine runS hA 26 [.g true, .g true, .g true, .g false, .g false, .g false, .g true, .b true] xn (oc (rfl : Value.bool true = .bool true) (oc (rfl : Value.bool true = .bool true) (oc (rfl : Value.bool true = .bool true) (oc (dec_f (show ¬ (((bestL b k).1 : Int) < (0 : Int)) by omega)) (oc (rfl : Value.bool false = .bool false) (oc (rfl : Value.bool false = .bool false) (oc (rfl : Value.bool true = .bool true) (oc (dec_t (show (((tallyF (okS b) (fun x => x.first) b.bets k) : Int) > ((bestL b k).2 : Int)) by omega)) on)))))))) (by kernel_rfl) fun w6 hA => ?_
            have hst : bestL b (k + 1) = ((k : Int), (tallyF (okS b) (fun x => x.first) b.bets k)) := by rw [bestL, if_neg hks, if_pos (.inr hb1)]
            refine revals hA (rc 3 (show .int .i64 (k : Int) = .int .i64 ((bestL b (k + 1)).1) by rw [hst]) (rc 4 (show .int .i64 (tallyF (okS b) (fun x => x.first) b.bets k) = .int .i64 ((bestL b (k + 1)).2) by rw [hst]) (rc 5 (wr64 (x := (k : Int) + 1) (y := ((k + 1 : Nat) : Int)) (by omega) (by omega)) rn))) (by kernel_rfl) fun hA => ?_
            exact again hJ1 (R - (k + 1)) (k + 1) [true] hA (by omega) (by kernel_rfl) ⟨by omega, rfl⟩
          case neg =>
            refine runS hA 21 [.g true, .g true, .g true, .g false, .g false, .g false, .g true, .b false] xn (oc (rfl : Value.bool true = .bool true) (oc (rfl : Value.bool true = .bool true) (oc (rfl : Value.bool true = .bool true) (oc (dec_f (show ¬ (((bestL b k).1 : Int) < (0 : Int)) by omega)) (oc (rfl : Value.bool false = .bool false) (oc (rfl : Value.bool false = .bool false) (oc (rfl : Value.bool true = .bool true) (oc (dec_f (show ¬ (((tallyF (okS b) (fun x => x.first) b.bets k) : Int) > ((bestL b k).2 : Int)) by omega)) on)))))))) (by kernel_rfl) fun w6 hA => ?_
            have hst : bestL b (k + 1) = bestL b k := by rw [bestL, if_neg hks, if_neg (fun hh => hh.elim hb0 hb1)]
            refine revals hA (rc 3 (show .int .i64 ((bestL b k).1) = .int .i64 ((bestL b (k + 1)).1) by rw [hst]) (rc 4 (show .int .i64 ((bestL b k).2) = .int .i64 ((bestL b (k + 1)).2) by rw [hst]) (rc 5 (wr64 (x := (k : Int) + 1) (y := ((k + 1 : Nat) : Int)) (by omega) (by omega)) rn))) (by kernel_rfl) fun hA => ?_
            exact again hJ1 (R - (k + 1)) (k + 1) [true] hA (by omega) (by kernel_rfl) ⟨by omega, rfl⟩
    case pos =>
      obtain ⟨b1, off, rfl, hb1, k0, k1, k2⟩ := h.bets.at hlt
      have hlb1 : b1 < w.heap.size := Nat.lt_of_lt_of_le hb1 hB
      have htk := tallyF_take (okS b) (fun x => x.first) b.bets k (k := i) (by omega) rfl
      have hub : ∀ x ∈ b.bets, 0 ≤ x.units ∧ x.units ≤ 1000 := units_ok V
      have htb := tallyF_bound (okS b) (fun x => x.first) (b.bets.take (i + 1)) k (fun x hx => hub x (List.mem_of_mem_take hx))
      have htl : (b.bets.take (i + 1)).length ≤ 100 := by rw [List.length_take]; omega
      by_cases hf : (b.bets[i]?.getD noBet).first = (k : Int)
      case neg =>
        refine runS hA 36 [.k 0, .b true, .k 0, .i, .x (.int .i64 ((b.bets[i]?.getD noBet).first)), .b false] (xc (a := ⟨b1, off + i * 3, none⟩) ⟨hlb1, k0⟩ xn) (oc (dec_t (show (((i : Int) : Int) < (n : Int)) by omega)) (oc (show (0 : Int) ≤ ((i : Int) : Int) ∧ ((i : Int) : Int) < (n : Int) by omega) (oc (eq_f hf) on))) (by kernel_rfl) fun w3 hA => ?_
        refine revals hA (rc 6 (show .int .i64 (tallyF (okS b) (fun x => x.first) (b.bets.take i) k) = .int .i64 (tallyF (okS b) (fun x => x.first) (b.bets.take (i + 1)) k) by rw [htk, if_neg (fun hh => hf hh.2), Int.add_zero]) (rc 7 (wr64 (x := (i : Int) + 1) (y := ((i + 1 : Nat) : Int)) (by omega) (by omega)) rn)) (by kernel_rfl) fun hA => ?_
        exact again hJ (n - (i + 1)) (i + 1) [true] hA (by omega) (by kernel_rfl) (⟨by omega, rfl⟩)
      case pos =>
        refine runS hA 29 [.k 0, .b true, .k 0, .i, .x (.int .i64 ((b.bets[i]?.getD noBet).first)), .b true] (xc (a := ⟨b1, off + i * 3, none⟩) ⟨hlb1, k0⟩ xn) (oc (dec_t (show (((i : Int) : Int) < (n : Int)) by omega)) (oc (show (0 : Int) ≤ ((i : Int) : Int) ∧ ((i : Int) : Int) < (n : Int) by omega) (oc (eq_t hf) on))) (by kernel_rfl) fun w3 hA => ?_
        refine draw hA [true] [0, 1, 2, 3, 4, 5, 6, 7, 8, 9] (by kernel_rfl) (by kernel_rfl) fun hA => ?_
        refine runS hA 8 [.t 0, .t 1, .k 0, .t 2, .t 3, .k 0, .t 4, .t 5, .i, .t 6, .t 7, .x (.int .i64 ((b.bets[i]?.getD noBet).second))] (xc (a := ⟨b1, off + i * 3 + 1, none⟩) ⟨hlb1, k1⟩ xn) (oc (show (0 : Int) ≤ ((i : Int) : Int) ∧ ((i : Int) : Int) < (n : Int) by omega) on) (by kernel_rfl) fun w4 hA => ?_
        refine callB hA [] on (has_any w4 B A2 m c2 b.scr (b.bets[i]?.getD noBet).second (h.scr.below hA.below hB) (Nat.le_trans hB hA.size)) (by kernel_rfl) fun w5 hb5 hA => ?_
        by_cases hs : (b.bets[i]?.getD noBet).second ∈ b.scr
        case pos =>
          refine revals hA (rc 37 (show .bool (decide ((b.bets[i]?.getD noBet).second ∈ b.scr)) = .bool true by rw [decide_eq_true hs]) rn) (by kernel_rfl) fun hA => ?_
          refine runS hA 12 [.t 9, .b true] xn on (by kernel_rfl) fun w6 hA => ?_
          refine revals hA (rc 6 (show .int .i64 (tallyF (okS b) (fun x => x.first) (b.bets.take i) k) = .int .i64 (tallyF (okS b) (fun x => x.first) (b.bets.take (i + 1)) k) by rw [htk, if_neg (fun hh => by unfold okS at hh; rw [decide_eq_true hs] at hh; exact absurd hh.1 (by decide)), Int.add_zero]) (rc 7 (wr64 (x := (i : Int) + 1) (y := ((i + 1 : Nat) : Int)) (by omega) (by omega)) rn)) (by kernel_rfl) fun hA => ?_
          exact again hJ (n - (i + 1)) (i + 1) [true] hA (by omega) (by kernel_rfl) (⟨by omega, rfl⟩)
        case neg =>
          refine revals hA (rc 37 (show .bool (decide ((b.bets[i]?.getD noBet).second ∈ b.scr)) = .bool false by rw [decide_eq_false hs]) rn) (by kernel_rfl) fun hA => ?_
          refine runS hA 22 [.t 9, .b true, .k 0, .i, .x (.int .i64 ((b.bets[i]?.getD noBet).units))] (xc (a := ⟨b1, off + i * 3 + 2, none⟩) ⟨hlb1, k2⟩ xn) (oc (show (0 : Int) ≤ ((i : Int) : Int) ∧ ((i : Int) : Int) < (n : Int) by omega) on) (by kernel_rfl) fun w6 hA => ?_
          have hok : okS b (b.bets[i]?.getD noBet) = true ∧ (b.bets[i]?.getD noBet).first = (k : Int) := ⟨by unfold okS; rw [decide_eq_false hs]; rfl, hf⟩
          rw [if_pos hok] at htk
          refine revals hA (rc 6 (wr64 (by rw [← htk]; omega) htk.symm) (rc 7 (wr64 (x := (i : Int) + 1) (y := ((i + 1 : Nat) : Int)) (by omega) (by omega)) rn)) (by kernel_rfl) fun hA => ?_
          exact again hJ (n - (i + 1)) (i + 1) [true] hA (by omega) (by kernel_rfl) (⟨by omega, rfl⟩)
set_option maxRecDepth 20000 in
theorem rFavourite_any (w : World) (B : Nat) (b : Bk) (A : Option Addr) (n c : Nat) (A2 : Option Addr) (m c2 : Nat) (h : BkAt w B b A n c A2 m c2) (hB : B ≤ w.heap.size) : Calls Try.prog 19 #[bkV b A n c A2 m c2] w fun e w' => e = .returned (.tuple #[.int .i64 (favR b), .int .i64 (bookF b)]) ∧ Below w.heap.size w w' := by
  refine enter 11 Try.func19 (by kernel_rfl) fun hA => ?_
  refine runS hA 11 (List.replicate 8 (.k 0)) xn on (by kernel_rfl) fun w1 hA => ?_
  refine callB hA [] on (rcheckBook_any w1 B b A n c A2 m c2 (h.below hA.below hB) (Nat.le_trans hB hA.size)) (by kernel_rfl) fun w2 hb2 hA => ?_
  by_cases h0 : bookF b = 0
  case neg =>
    refine runS hA 7 ([.b true] ++ List.replicate 8 (.k 0)) xn (oc (ne_t h0) on) (by kernel_rfl) fun w3 hA => ?_
    refine callB hA [] on (rcheckBook_any w3 B b A n c A2 m c2 (h.below hA.below hB) (Nat.le_trans hB hA.size)) (by kernel_rfl) fun w4 hb4 hA => ?_
    refine runS hA 6 [] xn on (by kernel_rfl) fun w5 hA => ?_
    exact ret (v := .tuple #[.int .i64 0, .int .i64 (bookF b)]) hA [] (by kernel_rfl) ⟨by rw [show favR b = 0 from if_neg h0], hA.below⟩
  case pos =>
    refine runS hA 9 ([.b false] ++ List.replicate 8 (.k 0)) xn (oc (ne_f h0) on) (by kernel_rfl) fun w3 hA => ?_
    refine callB hA [] on (favouriteOf_any w3 B b A n c A2 m c2 (h.below hA.below hB) (Nat.le_trans hB hA.size) (valid_of h0)) (by kernel_rfl) fun w4 hb4 hA => ?_
    refine runS hA 5 [] xn on (by kernel_rfl) fun w5 hA => ?_
    exact ret (v := .tuple #[.int .i64 (favF b), .int .i64 0]) hA [] (by kernel_rfl) ⟨by rw [show favR b = favF b from if_pos h0, h0], hA.below⟩
end Go.Proofs.Ytbahiemjaomdcaa

/- pool: two groups that come in together. -/
namespace Go.Proofs.Ytbahiemjaomdcaa
open Go.RowKit Go.Shelf

theorem grpF_all : ∀ (fs : List (List Int)) (co c : List Int), co.Nodup → grpF co fs = some c → ∀ x, x ∈ co → x ∉ c → ∃ F ∈ fs, x ∈ F
  | [], co, c, _, h, x, hx, hc => by rw [grpF] at h; cases h; exact absurd hx hc
  | F :: fs, co, c, hn, h, x, hx, hc => by
    rw [grpF] at h
    split at h
    · cases h
    · cases hr : remF co F with
      | none => rw [hr] at h; cases h
      | some c2 =>
        rw [hr, Option.bind_some] at h
        obtain ⟨k1, k2, k3⟩ := remF_sub F co c2 hn hr
        by_cases hxF : x ∈ F
        · exact ⟨F, List.mem_cons_self, hxF⟩
        · obtain ⟨G, hG, hxG⟩ := grpF_all fs c2 c k3 h x ((k2 x).2 ⟨hx, hxF⟩) hc
          exact ⟨G, List.mem_cons_of_mem _ hG, hxG⟩
theorem fin_cov {b : Bk} {fs : List (List Int)} (h : isFinF b fs = true) {x : Int} (hx : x ∈ racN b) : ∃ F ∈ fs, x ∈ F :=
  grpF_all fs _ _ (racN_nodup b) (of_decide_eq_true h) x hx (by simp)
theorem fin_of_parts {b : Bk} {fs : List (List Int)} (h1 : ∀ F ∈ fs, F ≠ [] ∧ F.Pairwise (fun x y => x < y) ∧ ∀ x ∈ F, x ∈ racN b) (h2 : fs.Pairwise fun F G => ∀ x ∈ F, x ∉ G) (h3 : ∀ x ∈ racN b, ∃ F ∈ fs, x ∈ F) : isFinF b fs = true :=
  decide_eq_true (grpF_ok _ _ (racN_nodup b) h1 h2 h3)
/-- The list without one place; the runners of two groups. -/
def outL (fs : List (List Int)) (q : Nat) : Nat → List (List Int)
  | 0 => []
  | n + 1 => outL fs q n ++ if n = q then [] else [fs[n]?.getD []]
def mrgL (F G : List Int) : Nat → List Int
  | 0 => []
  | n + 1 => mrgL F G n ++ if (n : Int) ∈ F ∨ (n : Int) ∈ G then [(n : Int)] else []
theorem mrgL_len (F G : List Int) : ∀ n, (mrgL F G n).length ≤ n
  | 0 => Nat.le_refl _
  | n + 1 => by
    have := mrgL_len F G n
    rw [mrgL, List.length_append]
    split <;> simp <;> omega
theorem mrgL_mem (F G : List Int) {x : Int} : ∀ {n : Nat}, x ∈ mrgL F G n ↔ (0 ≤ x ∧ x < (n : Int)) ∧ (x ∈ F ∨ x ∈ G)
  | 0 => by simp [mrgL]; omega
  | n + 1 => by
    rw [mrgL, List.mem_append, mrgL_mem F G (n := n)]
    by_cases h : (n : Int) ∈ F ∨ (n : Int) ∈ G
    · rw [if_pos h, List.mem_singleton]
      constructor
      · rintro (⟨h1, h2⟩ | rfl)
        · exact ⟨by omega, h2⟩
        · exact ⟨by omega, h⟩
      · rintro ⟨h1, h2⟩
        by_cases e : x = (n : Int)
        · exact .inr e
        · exact .inl ⟨by omega, h2⟩
    · rw [if_neg h]
      simp only [List.not_mem_nil, or_false]
      constructor
      · rintro ⟨h1, h2⟩; exact ⟨by omega, h2⟩
      · rintro ⟨h1, h2⟩
        refine ⟨?_, h2⟩
        by_cases e : x = (n : Int)
        · subst e; exact absurd h2 h
        · omega
theorem mrgL_pw (F G : List Int) : ∀ n, (mrgL F G n).Pairwise fun x y => x < y
  | 0 => List.Pairwise.nil
  | n + 1 => by
    rw [mrgL, List.pairwise_append]
    refine ⟨mrgL_pw F G n, by split <;> simp, fun x hx y hy => ?_⟩
    have h1 := ((mrgL_mem F G).1 hx).1
    split at hy
    · rw [List.mem_singleton.1 hy]; omega
    · cases hy
theorem outL_len (fs : List (List Int)) (q : Nat) : ∀ n, (outL fs q n).length = if q < n then n - 1 else n
  | 0 => rfl
  | n + 1 => by
    rw [outL, List.length_append, outL_len fs q n]
    by_cases h : n = q
    · subst h
      rw [if_pos rfl, if_neg (show ¬ n < n by omega), if_pos (show n < n + 1 by omega)]
      rfl
    · rw [if_neg h]
      by_cases h2 : q < n
      · rw [if_pos h2, if_pos (show q < n + 1 by omega)]; simp; omega
      · rw [if_neg h2, if_neg (show ¬ q < n + 1 by omega)]; rfl
theorem outL_get (fs : List (List Int)) (q : Nat) : ∀ (n j : Nat), j < (outL fs q n).length → (outL fs q n)[j]?.getD [] = fs[if j < q then j else j + 1]?.getD []
  | 0, j, h => by cases h
  | n + 1, j, h => by
    have hl := outL_len fs q n
    rw [outL] at h ⊢
    by_cases hj : j < (outL fs q n).length
    · rw [List.getElem?_append_left hj]
      exact outL_get fs q n j hj
    · rw [List.getElem?_append_right (by omega)]
      rw [List.length_append] at h
      by_cases hn : n = q
      · rw [if_pos hn] at h
        simp at h
        omega
      · rw [if_neg hn] at h ⊢
        have e : j = (outL fs q n).length := by simp at h; omega
        rw [← e, Nat.sub_self]
        show fs[n]?.getD [] = _
        by_cases h2 : q < n
        · rw [if_pos h2] at hl
          rw [if_neg (show ¬ j < q by omega), show j + 1 = n by omega]
        · rw [if_neg h2] at hl
          rw [if_pos (show j < q by omega), show j = n by omega]
/-- The finish in which two groups come in together. -/
def togF (b : Bk) (fs : List (List Int)) (k : Nat) : List (List Int) := (outL fs (k + 1) fs.length).set k (mrgL (fs[k]?.getD []) (fs[k + 1]?.getD []) b.runners.toNat)
theorem tog_len {b : Bk} {fs : List (List Int)} {k : Nat} (hk : k + 1 < fs.length) : (togF b fs k).length = fs.length - 1 := by
  unfold togF
  rw [List.length_set, outL_len, if_pos hk]
theorem tog_get {b : Bk} {fs : List (List Int)} {k j : Nat} (hk : k + 1 < fs.length) (hj : j + 1 < fs.length) : (togF b fs k)[j]?.getD [] = if j = k then mrgL (fs[k]?.getD []) (fs[k + 1]?.getD []) b.runners.toNat else fs[if j < k then j else j + 1]?.getD [] := by
  have hl : (outL fs (k + 1) fs.length).length = fs.length - 1 := by rw [outL_len, if_pos hk]
  unfold togF
  by_cases e : j = k
  · subst e
    rw [if_pos rfl, List.getElem?_set_self (by omega)]
    rfl
  · rw [if_neg e, List.getElem?_set_ne (fun h => e h.symm), outL_get _ _ _ _ (by omega)]
    by_cases h : j < k
    · rw [if_pos h, if_pos (by omega)]
    · rw [if_neg h, if_neg (by omega)]
theorem pw_get {fs : List (List Int)} (h : fs.Pairwise fun F G => ∀ x ∈ F, x ∉ G) {i j : Nat} (hj : j < fs.length) (hij : i < j) {x : Int} (hx : x ∈ fs[i]?.getD []) : x ∉ fs[j]?.getD [] := by
  have := List.pairwise_iff_getElem.1 h i j (by omega) hj hij
  rw [List.getElem?_eq_getElem (by omega)] at hx
  rw [List.getElem?_eq_getElem hj]
  exact this x hx
theorem get_mem' {fs : List (List Int)} {j : Nat} (hj : j < fs.length) : fs[j]?.getD [] ∈ fs := get_mem hj
theorem mrg_in {b : Bk} (_ : ValidB b) {fs : List (List Int)} (h : isFinF b fs = true) {k : Nat} (hk : k + 1 < fs.length) {x : Int} : x ∈ mrgL (fs[k]?.getD []) (fs[k + 1]?.getD []) b.runners.toNat ↔ x ∈ fs[k]?.getD [] ∨ x ∈ fs[k + 1]?.getD [] := by
  rw [mrgL_mem]
  refine ⟨fun h => h.2, fun hx => ⟨?_, hx⟩⟩
  have hm : x ∈ racN b := by
    rcases hx with hx | hx
    · exact ((fin_sub h).1 _ (get_mem' (by omega))).2.2 x hx
    · exact ((fin_sub h).1 _ (get_mem' hk)).2.2 x hx
  exact ((racL_mem b).1 hm).1
theorem tog_ok {b : Bk} (V : ValidB b) {fs : List (List Int)} (h : isFinF b fs = true) {k : Nat} (hk : k + 1 < fs.length) : isFinF b (togF b fs k) = true := by
  obtain ⟨p1, p2⟩ := fin_sub h
  have hl := tog_len (b := b) hk
  have grp : ∀ j, j < (togF b fs k).length → ∃ F, (togF b fs k)[j]?.getD [] = F ∧ F = (togF b fs k)[j]?.getD [] := fun j _ => ⟨_, rfl, rfl⟩
  have mem : ∀ j, j + 1 < fs.length → ∀ x, x ∈ (togF b fs k)[j]?.getD [] ↔ x ∈ fs[if j ≤ k then j else j + 1]?.getD [] ∨ (j = k ∧ x ∈ fs[k + 1]?.getD []) := by
    intro j hj x
    rw [tog_get hk hj]
    by_cases e : j = k
    · subst e
      rw [if_pos rfl, mrg_in V h hk, if_pos (Nat.le_refl _)]
      simp
    · rw [if_neg e]
      by_cases h2 : j < k
      · rw [if_pos h2, if_pos (Nat.le_of_lt h2)]; simp [e]
      · rw [if_neg h2, if_neg (by omega)]; simp [e]
  have one : ∀ F ∈ togF b fs k, ∃ j, j + 1 < fs.length ∧ F = (togF b fs k)[j]?.getD [] := by
    intro F hF
    obtain ⟨j, hj, rfl⟩ := List.mem_iff_getElem.1 hF
    exact ⟨j, by omega, by rw [List.getElem?_eq_getElem hj]; rfl⟩
  refine fin_of_parts (fun F hF => ?_) ?_ fun x hx => ?_
  · obtain ⟨j, hj, rfl⟩ := one F hF
    have hj2 : (if j ≤ k then j else j + 1) < fs.length := by split <;> omega
    obtain ⟨q1, q2, q3⟩ := p1 _ (get_mem' hj2)
    refine ⟨fun e => ?_, ?_, fun x hx => ?_⟩
    · obtain ⟨x, hx⟩ := List.exists_mem_of_length_pos (Nat.pos_of_ne_zero q1)
      have := (mem j hj x).2 (.inl hx)
      rw [e] at this
      cases this
    · rw [tog_get hk hj]
      split
      · exact mrgL_pw _ _ _
      · have hj3 : (if j < k then j else j + 1) < fs.length := by split <;> omega
        exact incF_pw (p1 _ (get_mem' hj3)).2.1
    · rcases (mem j hj x).1 hx with h9 | ⟨-, h9⟩
      · exact q3 x h9
      · exact (p1 _ (get_mem' hk)).2.2 x h9
  · rw [List.pairwise_iff_getElem]
    intro i j hi hj hij x hx hxj
    have hx' : x ∈ (togF b fs k)[i]?.getD [] := by rw [List.getElem?_eq_getElem hi]; exact hx
    have hxj' : x ∈ (togF b fs k)[j]?.getD [] := by rw [List.getElem?_eq_getElem hj]; exact hxj
    rw [hl] at hi hj
    rw [mem i (by omega)] at hx'
    rw [mem j (by omega)] at hxj'
    have key : ∀ u v, u < fs.length → v < fs.length → u ≠ v → x ∈ fs[u]?.getD [] → x ∈ fs[v]?.getD [] → False := by
      intro u v hu hv hne h1 h2
      rcases Nat.lt_or_gt_of_ne hne with h3 | h3
      · exact pw_get p2 hv h3 h1 h2
      · exact pw_get p2 hu h3 h2 h1
    rcases hx' with h1 | ⟨h1, h2⟩ <;> rcases hxj' with h3 | ⟨h3, h4⟩
    · refine key _ _ ?_ ?_ ?_ h1 h3 <;> (repeat' split) <;> omega
    · refine key _ _ ?_ ?_ ?_ h1 h4 <;> (repeat' split) <;> omega
    · refine key _ _ ?_ ?_ ?_ h2 h3 <;> (repeat' split) <;> omega
    · omega
  · obtain ⟨F, hF, hxF⟩ := fin_cov h hx
    obtain ⟨q, hq, rfl⟩ := List.mem_iff_getElem.1 hF
    have hxq : x ∈ fs[q]?.getD [] := by rw [List.getElem?_eq_getElem hq]; exact hxF
    have fnd : ∀ j, j + 1 < fs.length → x ∈ (togF b fs k)[j]?.getD [] → ∃ F ∈ togF b fs k, x ∈ F := fun j hj hm => ⟨_, get_mem' (by omega), hm⟩
    by_cases h1 : q ≤ k
    · exact fnd q (by omega) ((mem q (by omega) x).2 (.inl (by rw [if_pos h1]; exact hxq)))
    · by_cases h2 : q = k + 1
      · subst h2
        exact fnd k hk ((mem k hk x).2 (.inr ⟨rfl, hxq⟩))
      · refine fnd (q - 1) (by omega) ((mem (q - 1) (by omega) x).2 (.inl ?_))
        rw [if_neg (by omega), show q - 1 + 1 = q by omega]
        exact hxq
theorem win_mem {b : Bk} {fs : List (List Int)} (V : ValidB b) (h : isFinF b fs = true) {p : Int × Int} : p ∈ winF b fs ↔ ((0 ≤ p.1 ∧ p.1 < b.runners) ∧ -1 ≤ p.2 ∧ p.2 < b.runners) ∧ winB b fs p.1 p.2 = true := by
  have hv := V.run
  rw [← win_eq V h, allR_mem]
  constructor <;> rintro ⟨h1, h2⟩ <;> exact ⟨by omega, h2⟩
theorem tog_win {b : Bk} (V : ValidB b) {fs : List (List Int)} (h : isFinF b fs = true) {k : Nat} (hk : k + 1 < fs.length) {p : Int × Int} (hp : p ∈ winF b fs) : p ∈ winF b (togF b fs k) := by
  obtain ⟨p1, p2⟩ := fin_sub h
  have hg := tog_ok V h hk
  rw [win_mem V h] at hp
  rw [win_mem V hg]
  refine ⟨hp.1, ?_⟩
  have hw := hp.2
  -- the first group
  have f0 : ∀ x, x ∈ fs[0]?.getD [] → x ∈ (togF b fs k)[0]?.getD [] := by
    intro x hx
    rw [tog_get hk (by omega)]
    by_cases e : 0 = k
    · subst e; rw [if_pos rfl, mrg_in V h hk]; exact .inl hx
    · rw [if_neg e, if_pos (by omega)]; exact hx
  have l0 : ((togF b fs k)[0]?.getD []).length = 1 → (fs[0]?.getD []).length = 1 ∧ 0 < k ∧ (∀ x, x ∈ fs[1]?.getD [] → x ∈ (togF b fs k)[1]?.getD []) ∧ ∀ x, x ∈ (togF b fs k)[0]?.getD [] ↔ x ∈ fs[0]?.getD [] := by
    intro e
    have hk0 : 0 < k := by
      refine Nat.pos_of_ne_zero fun hk0 => ?_
      subst hk0
      rw [tog_get hk (by omega), if_pos rfl] at e
      obtain ⟨x, hx⟩ := List.exists_mem_of_length_pos (Nat.pos_of_ne_zero (p1 _ (get_mem' (j := 0) (by omega))).1)
      obtain ⟨y, hy⟩ := List.exists_mem_of_length_pos (Nat.pos_of_ne_zero (p1 _ (get_mem' hk)).1)
      have hxy := one_mem e ((mrg_in V h hk).2 (.inl hx)) ((mrg_in V h hk).2 (.inr hy))
      subst hxy
      exact pw_get p2 hk (by omega) hx hy
    have e0 : (togF b fs k)[0]?.getD [] = fs[0]?.getD [] := by rw [tog_get hk (by omega), if_neg (by omega), if_pos hk0]
    refine ⟨by rw [← e0]; exact e, hk0, fun x hx => ?_, fun x => by rw [e0]⟩
    rw [tog_get hk (by omega)]
    by_cases e1 : 1 = k
    · subst e1; rw [if_pos rfl, mrg_in V h hk]; exact .inl hx
    · rw [if_neg e1, if_pos (by omega)]; exact hx
  have l1 : ((togF b fs k)[0]?.getD []).length ≠ 1 → (fs[0]?.getD []).length = 1 → ∀ x, x ∈ fs[1]?.getD [] → x ∈ (togF b fs k)[0]?.getD [] := by
    intro e e1 x hx
    rw [tog_get hk (by omega)] at e ⊢
    by_cases e2 : 0 = k
    · subst e2; rw [if_pos rfl, mrg_in V h hk]; exact .inr hx
    · rw [if_neg e2, if_pos (by omega)] at e
      exact absurd e1 e
  have dis : (fs[0]?.getD []).length = 1 → ∀ x, x ∈ fs[0]?.getD [] → x ∉ fs[1]?.getD [] := fun _ x hx => pw_get p2 (by omega) (by omega) hx
  revert hw
  unfold winB
  by_cases hl : ((togF b fs k)[0]?.getD []).length = 1
  · obtain ⟨a1, a2, a3, a4⟩ := l0 hl
    rw [if_pos a1, if_pos a1, if_pos hl, if_pos hl]
    simp only [a1, hl]
    split
    · simp only [Bool.and_eq_true, decide_eq_true_eq]; exact fun ⟨h1, h2⟩ => ⟨h1, f0 _ h2⟩
    · split
      · simp only [Bool.and_eq_true, Bool.or_eq_true, decide_eq_true_eq]; exact fun ⟨h1, h2⟩ => ⟨h1, h2.elim (fun h => .inl (f0 _ h)) fun h => .inr ⟨trivial, a3 _ h.2⟩⟩
      · split
        · simp only [Bool.and_eq_true, decide_eq_true_eq]; exact fun ⟨h1, h2⟩ => ⟨⟨h1.1, f0 _ h1.2⟩, a3 _ h2⟩
        · simp only [Bool.and_eq_true, Bool.or_eq_true, decide_eq_true_eq]; exact fun ⟨h1, h2⟩ => ⟨h1, h2.elim (fun h => .inl ⟨f0 _ h.1, a3 _ h.2⟩) fun h => .inr ⟨f0 _ h.1, a3 _ h.2⟩⟩
  · rw [if_neg hl, if_neg hl]
    by_cases a1 : (fs[0]?.getD []).length = 1
    · have b1 := l1 hl a1
      rw [if_pos a1, if_pos a1]
      split
      · simp only [Bool.and_eq_true, decide_eq_true_eq]; exact fun ⟨h1, h2⟩ => ⟨h1, f0 _ h2⟩
      · split
        · simp only [Bool.and_eq_true, Bool.or_eq_true, decide_eq_true_eq]; exact fun ⟨h1, h2⟩ => ⟨h1, h2.elim (fun h => .inl (f0 _ h)) fun h => .inl (b1 _ h.2)⟩
        · split
          · simp only [Bool.and_eq_true, decide_eq_true_eq]; exact fun ⟨h1, h2⟩ => ⟨⟨h1.1, f0 _ h1.2⟩, b1 _ h2⟩
          · simp only [Bool.and_eq_true, Bool.or_eq_true, decide_eq_true_eq]; exact fun ⟨h1, h2⟩ => ⟨h1, h2.elim (fun h => ⟨f0 _ h.1, b1 _ h.2⟩) fun h => ⟨b1 _ h.2, f0 _ h.1⟩⟩
    · rw [if_neg a1, if_neg a1]
      split
      · simp only [Bool.and_eq_true, decide_eq_true_eq]; exact fun ⟨h1, h2⟩ => ⟨h1, f0 _ h2⟩
      · split
        · simp only [Bool.and_eq_true, Bool.or_eq_true, decide_eq_true_eq]; exact fun ⟨h1, h2⟩ => ⟨h1, h2.elim (fun h => .inl (f0 _ h)) fun h => absurd h.1 a1⟩
        · split
          · simp only [Bool.and_eq_true, decide_eq_true_eq]; exact fun ⟨h1, h2⟩ => ⟨⟨h1.1, f0 _ h1.2⟩, f0 _ h2⟩
          · simp only [Bool.and_eq_true, decide_eq_true_eq]; exact fun ⟨h1, h2⟩ => ⟨h1, f0 _ h2.1, f0 _ h2.2⟩
theorem tog_bkd {b : Bk} (V : ValidB b) {fs : List (List Int)} (h : isFinF b fs = true) {k : Nat} (hk : k + 1 < fs.length) : (∀ s ∈ bkd (tilF b) fs, s ∈ bkd (tilF b) (togF b fs k)) ∧ (bkd (tilF b) fs).length ≤ (bkd (tilF b) (togF b fs k)).length := by
  have h1 : ∀ s ∈ bkd (tilF b) fs, s ∈ bkd (tilF b) (togF b fs k) := fun s hs => bkd_mem.2 ⟨tog_win V h hk (bkd_mem.1 hs).1, (bkd_mem.1 hs).2⟩
  exact ⟨h1, List.Nodup.length_le_of_subset (List.Pairwise.filter _ (win_nodup V h).2) h1⟩
theorem share_few {x : Int} {L M : Nat} (hx : 0 ≤ x) (hL : 0 < L) (h : L ≤ M) : x.tdiv (M : Int) ≤ x.tdiv (L : Int) := by
  rw [Int.tdiv_eq_ediv_of_nonneg hx, Int.tdiv_eq_ediv_of_nonneg hx]
  refine (Int.le_ediv_iff_mul_le (by omega)).2 ?_
  have h1 := Int.ediv_mul_le x (show (M : Int) ≠ 0 by omega)
  have h2 : 0 ≤ x / (M : Int) := Int.ediv_nonneg hx (by omega)
  have h3 : x / (M : Int) * (L : Int) ≤ x / (M : Int) * (M : Int) := Int.mul_le_mul_of_nonneg_left (by omega) h2
  omega
theorem tog_dv {b : Bk} (V : ValidB b) {fs : List (List Int)} (h : isFinF b fs = true) {k : Nat} (hk : k + 1 < fs.length) {s : Int × Int} (hs : s ∈ bkd (tilF b) fs) : dvF (tilF b) (togF b fs k) s ≤ dvF (tilF b) fs s := by
  obtain ⟨h1, h2⟩ := tog_bkd V h hk
  rw [dvF_in hs, dvF_in (h1 s hs)]
  have hst := V.stp
  exact div_up (sh_nonneg V _) (share_few (net_facts V).1.2.2 (List.length_pos_of_mem hs) h2) (up_pos V hs) (by omega)
end Go.Proofs.Ytbahiemjaomdcaa

/- quinellaref03: Running; pool: scratched runners. -/
namespace Go.Proofs.Ytbahiemjaomdcaa
open Go.RowKit Go.Shelf

theorem filt_len2 (p : Int → Bool) : ∀ xs : List Int, (xs.filter p).length + (xs.filter fun y => !p y).length = xs.length
  | [] => rfl
  | x :: xs => by
    have ih := filt_len2 p xs
    cases h : p x <;> simp [h] <;> omega
theorem insF_len (x : Int) (xs : List Int) : (insF x xs).length = xs.length + 1 := by
  unfold insF
  rw [List.length_append, List.length_cons]
  have h := filt_len2 (fun y => decide (y < x)) xs
  omega
theorem scr_in {b : Bk} {r : Int} (hr : r ∈ racN b) : (0 ≤ r ∧ r < b.runners) ∧ r ∉ b.scr := by
  have := (racL_mem b).1 hr
  exact ⟨by omega, this.2⟩
theorem bookF_scr {b : Bk} {r : Int} (h0 : bookF b = 0) (hr : r ∈ racN b) (h3 : 3 ≤ (racN b).length) : bookF (scrF b r) = 0 := by
  have V := valid_of h0
  obtain ⟨h1, h2⟩ := scr_in hr
  have hl := racL_scr V
  have hw := bookF_eq (scrF b r)
  have hbet : (scrF b r).bets.any (refusesF (scrF b r)) = false := by
    rw [List.any_eq_false]
    intro x hx
    have := V.bet x hx
    show ¬ refusesF b x = true
    rw [this]
    decide
  have hsc : scratchable (scrF b r) (scrF b r).scr = true := by
    have hp := insF_pw (incF_pw V.inc) h2
    refine scratchable_true ?_ (fun j hj => ?_) fun j hj => ?_
    · show ((insF r b.scr).length : Int) ≤ b.runners - 2
      rw [insF_len]
      omega
    · have hm : (insF r b.scr)[j]?.getD 0 ∈ insF r b.scr := get_mem hj
      show 0 ≤ (insF r b.scr)[j]?.getD 0 ∧ (insF r b.scr)[j]?.getD 0 < b.runners
      rcases insF_mem.1 hm with e | e
      · rw [e]; exact h1
      · obtain ⟨q, hq, e2⟩ := List.getElem_of_mem e
        have := (scratchable_false V.scr).1.2 q hq
        rw [List.getElem?_eq_getElem hq, Option.getD_some, e2] at this
        exact this
    · have hj : j + 1 < (insF r b.scr).length := hj
      have := List.pairwise_iff_getElem.1 hp j (j + 1) (by omega) hj (by omega)
      show (insF r b.scr)[j]?.getD 0 < (insF r b.scr)[j + 1]?.getD 0
      rw [List.getElem?_eq_getElem (by omega), List.getElem?_eq_getElem hj]
      exact this
  rw [hw, if_neg (show ¬ ¬ (0 ≤ (scrF b r).kind ∧ (scrF b r).kind ≤ 3) from Classical.not_not.2 V.kind), if_neg (show ¬ ¬ ((2 ≤ (scrF b r).runners ∧ (scrF b r).runners ≤ 8) ∧ (0 ≤ (scrF b r).car ∧ (scrF b r).car ≤ 1000000) ∧ (0 ≤ (scrF b r).dut ∧ (scrF b r).dut ≤ 500) ∧ (1 ≤ (scrF b r).stp ∧ (scrF b r).stp ≤ 100)) from Classical.not_not.2 ⟨V.run, V.car, V.dut, V.stp⟩), if_neg (show ¬ 100 < (scrF b r).bets.length by have := V.len; show ¬ 100 < b.bets.length; omega), if_neg (by rw [hbet]; decide), if_neg (by rw [hsc]; decide)]
theorem scE_ok {b : Bk} {r : Int} (h0 : bookF b = 0) (hr : r ∈ racN b) (h3 : 3 ≤ (racN b).length) : scE b r = 0 ∧ scB' b r = scrF b r := by
  obtain ⟨h1, h2⟩ := scr_in hr
  have e : scE b r = 0 := by
    unfold scE
    rw [if_pos h0, if_neg (by rw [(isR_iff b r).2 h1]; decide), if_neg h2, if_neg (by omega)]
  exact ⟨e, if_pos e⟩
theorem racN_scr {b : Bk} {r : Int} (h0 : bookF b = 0) (hr : r ∈ racN b) (h3 : 3 ≤ (racN b).length) : (∀ x, x ∈ racN (scrF b r) ↔ x ∈ racN b ∧ x ≠ r) ∧ (racN (scrF b r)).length + 1 = (racN b).length := by
  have h1 := racL_scr (valid_of h0)
  have h2 := racL_scr (valid_of (bookF_scr h0 hr h3))
  have h4 : ((racN (scrF b r)).length : Int) = b.runners - ((insF r b.scr).length : Int) := h2
  rw [insF_len] at h4
  refine ⟨fun x => ?_, by omega⟩
  have e1 := racL_mem b (x := x) (k := b.runners.toNat)
  have e2 := racL_mem (scrF b r) (x := x) (k := b.runners.toNat)
  show x ∈ racL (scrF b r) b.runners.toNat ↔ x ∈ racL b b.runners.toNat ∧ x ≠ r
  rw [e1, e2]
  show _ ∧ x ∉ insF r b.scr ↔ _
  rw [insF_mem]
  exact ⟨fun h => ⟨⟨h.1, fun h9 => h.2 (.inr h9)⟩, fun h9 => h.2 (.inl h9)⟩, fun h => ⟨h.1.1, fun h9 => h9.elim h.2 h.1.2⟩⟩
theorem scE_have {b : Bk} {r : Int} (h0 : bookF b = 0) (hr : r ∈ racN b) (h3 : 3 ≤ (racN b).length) : scE (scrF b r) r = 11 := by
  obtain ⟨h1, h2⟩ := scr_in hr
  unfold scE
  rw [if_pos (bookF_scr h0 hr h3), if_neg (by rw [(isR_iff (scrF b r) r).2 h1]; decide), if_pos (show r ∈ (scrF b r).scr from insF_mem.2 (.inl rfl))]
theorem scr_swap {b : Bk} {r s : Int} (V : ValidB b) (hr : r ∈ racN b) (hs : s ∈ racN b) (hne : r ≠ s) : scrF (scrF b s) r = scrF (scrF b r) s := by
  have h1 := (scr_in hr).2
  have h2 := (scr_in hs).2
  have hp := incF_pw V.inc
  have e : insF r (insF s b.scr) = insF s (insF r b.scr) := by
    refine incr_ext (insF_pw (insF_pw hp h2) (fun h => (insF_mem.1 h).elim hne h1)) (insF_pw (insF_pw hp h1) (fun h => (insF_mem.1 h).elim (fun e => hne e.symm) h2)) fun x => ?_
    rw [insF_mem, insF_mem, insF_mem, insF_mem]
    exact ⟨fun h => h.elim (fun h => .inr (.inl h)) fun h => h.elim .inl fun h => .inr (.inr h), fun h => h.elim (fun h => .inr (.inl h)) fun h => h.elim .inl fun h => .inr (.inr h)⟩
  unfold scrF
  simp only
  rw [e]
theorem two_mods {N a d : Nat} (hd : d + 1 < N) : (a + 1 + d) % N ≠ a % N := by
  have h1 : (a + 1 + d) % N = (a % N + (1 + d)) % N := by rw [Nat.mod_add_mod, Nat.add_assoc]
  have h2 : a % N < N := Nat.mod_lt _ (by omega)
  rw [h1]
  rcases Nat.lt_or_ge (a % N + (1 + d)) N with h | h
  · rw [Nat.mod_eq_of_lt h]; omega
  · rw [Nat.mod_eq_sub_mod h, Nat.mod_eq_of_lt (by omega)]; omega
theorem rows_bk2 {w : World} {b : Bk} {n m c c2 : Nat} {A A2 : Option Addr} {ob ob2 : List KB} (hr1 : RowV 53 3 (.slice A n c) n (encB b.bets) ob) (hr2 : RowV 3 1 (.slice A2 m c2) m (ints b.scr) ob2)
    (h1 : ∀ kb ∈ ob, w.heap[kb.id]? = some kb.obj) (h2 : ∀ kb ∈ ob2, w.heap[kb.id]? = some kb.obj) (hn : n ≤ 1000) (hm : m ≤ 1000) : BkAt w w.heap.size b A n c A2 m c2 := by
  have k1 : BetsAt w w.heap.size A n b.bets ∧ n ≤ c := by
    rcases hr1.2 with ⟨e1, e2, e3⟩ | ⟨g, cap, cur, e1, e2, e3, e4⟩
    · cases e1
      have hl := hr1.1
      rw [encB_len] at hl
      exact ⟨⟨by omega, by omega, fun h0 => absurd h0 (Nat.lt_irrefl 0)⟩, Nat.le_refl _⟩
    · cases e1
      subst e2
      exact row_bets hr1 (h1 _ List.mem_cons_self) hn
  have k2 : IntsAt w w.heap.size A2 m b.scr ∧ m ≤ c2 := by
    rcases hr2.2 with ⟨e1, e2, e3⟩ | ⟨g, cap, cur, e1, e2, e3, e4⟩
    · cases e1
      have hl := hr2.1
      simp only [ints, List.length_map, Nat.mul_one] at hl
      exact ⟨⟨by omega, by omega, fun h0 => absurd h0 (Nat.lt_irrefl 0)⟩, Nat.le_refl _⟩
    · cases e1
      subst e2
      exact row_ints2 hr2 (h2 _ List.mem_cons_self) hm
  exact ⟨k1.1, k2.1, k1.2, k2.2⟩
set_option maxHeartbeats 4000000 in
set_option maxRecDepth 20000 in
theorem running_any (w : World) (B : Nat) (b : Bk) (A : Option Addr) (n c : Nat) (A2 : Option Addr) (m c2 : Nat) (h : BkAt w B b A n c A2 m c2) (hB : B ≤ w.heap.size) (V : ValidB b) : Calls Try.prog 33 #[bkV b A n c A2 m c2] w fun e w' => ∃ v, e = .returned v ∧ Below w.heap.size w w' ∧ w'.ownsRow w.heap.size 3 1 v (racN b).length (ints (racN b)) := by
  have hv1 := V.run
  refine enter 21 Try.func33 (by kernel_rfl) fun hA => ?_
  refine runS hA 18 [] xn on (by kernel_rfl) fun w1 hA => ?_
  obtain ⟨R, hR⟩ : ∃ R : Nat, b.runners = (R : Int) := ⟨b.runners.toNat, by omega⟩
  have hRt : b.runners.toNat = R := by omega
  refine loop (γ := Nat × Option Addr × Nat × List KB) (fun ⟨k, Av, cv, ov⟩ => [(1, .pointer (some ⟨w.heap.size, 0, none⟩)), (2, .slice none 0 0), (3, .slice Av ((racL b k).length) cv), (4, .int .i64 (k : Int))]) (fun ⟨k, Av, cv, ov⟩ => [⟨w.heap.size, .cells #[.int .i64 b.kind, .int .i64 b.runners, .slice A n c, .slice A2 m c2, .bool b.fav, .int .i64 b.car, .int .i64 b.dut, .int .i64 b.stp] 25 (0, 0)⟩]) (fun ⟨k, Av, cv, ov⟩ => ov ++ []) (fun g ⟨k, Av, cv, ov⟩ wr => (k ≤ R ∧ g = R - k) ∧ RowV 3 1 (.slice Av (racL b k).length cv) (racL b k).length (ints (racL b k)) ov) R ⟨0, none, 0, []⟩ [true] hA (by kernel_rfl) (⟨⟨Nat.zero_le _, rfl⟩, RowV.nil _ _⟩) ?_
  rintro _ ⟨k, Av, cv, ov⟩ wr ⟨⟨hk, rfl⟩, hrk⟩ J hJ hA
  have hll := racL_len b k
  by_cases hlk : k < R
  case neg =>
    refine runS hA 12 [.k 0, .b false] xn (oc (dec_f (show ¬ (((k : Int) : Int) < (b.runners : Int)) by omega)) on) (by kernel_rfl) fun w2 hA => ?_
    refine leave hA (by kernel_rfl) fun hA => ?_
    refine runS hA 9 [] xn on (by kernel_rfl) fun w3 hA => ?_
    have hAf := hA.atK [⟨w.heap.size, .cells #[.int .i64 b.kind, .int .i64 b.runners, .slice A n c, .slice A2 m c2, .bool b.fav, .int .i64 b.car, .int .i64 b.dut, .int .i64 b.stp] 25 (0, 0)⟩] (by kernel_rfl)
    have hkR : k = b.runners.toNat := by omega
    rw [hkR] at hrk
    exact ret (v := .slice Av ((racL b k).length) cv) hA [] (by kernel_rfl) ⟨_, by rw [hkR], hA.below, RowV.own (rest := []) hrk hAf⟩
  case pos =>
    refine runS hA 19 [.k 0, .b true, .k 0] xn (oc (dec_t (show (((k : Int) : Int) < (b.runners : Int)) by omega)) on) (by kernel_rfl) fun w2 hA => ?_
    refine callB hA [] on (has_any w2 B A2 m c2 b.scr (k : Int) (h.scr.below hA.below hB) (Nat.le_trans hB hA.size)) (by kernel_rfl) fun w3 hb3 hA => ?_
    by_cases hks : (k : Int) ∈ b.scr
    case pos =>
      refine revals hA (rc 14 (show .bool (decide ((k : Int) ∈ b.scr)) = .bool true by rw [decide_eq_true hks]) rn) (by kernel_rfl) fun hA => ?_
      refine runS hA 12 [] xn on (by kernel_rfl) fun w4 hA => ?_
      have hst : (racL b (k + 1)) = (racL b k) := by rw [racL, if_pos hks, List.append_nil]
      refine revals hA (rc 3 (show .slice Av ((racL b k).length) cv = .slice Av ((racL b (k + 1)).length) cv by rw [hst]) (rc 4 (wr64 (x := (k : Int) + 1) (y := ((k + 1 : Nat) : Int)) (by omega) (by omega)) rn)) (by kernel_rfl) fun hA => ?_
      exact again hJ (R - (k + 1)) (⟨k + 1, Av, cv, ov⟩) [true] hA (by omega) (by kernel_rfl) (⟨⟨by omega, rfl⟩, by rw [hst]; exact hrk⟩)
    case neg =>
      refine revals hA (rc 14 (show .bool (decide ((k : Int) ∈ b.scr)) = .bool false by rw [decide_eq_false hks]) rn) (by kernel_rfl) fun hA => ?_
      refine runS hA 8 [] xn on (by kernel_rfl) fun w4 hA => ?_
      have hst : (racL b (k + 1)) = (racL b k) ++ [(k : Int)] := by rw [racL, if_neg hks]
      have hcl := cell_of_obj (a := ⟨w3.heap.size, 0, none⟩) (hA.at_.ok ⟨w3.heap.size, .cells #[.int .i64 (k : Int)] 3 (0, 0)⟩ (List.mem_of_getElem? (i := 1) (by kernel_rfl))) rfl rfl
      refine appE (t := 23) (e := 3) (ty := 23) (z := .int .i64 0) (size := 1) (bytes := 8) (v := .slice Av (racL b k).length cv) (n := (racL b k).length) (m := 1) (cp := 1) (A := some ⟨w3.heap.size, 0, none⟩) [.int .i64 (k : Int)] hA hrk (by kernel_rfl) rfl (fun _ => ⟨_, rfl, fun q u hu => by match q, hu with | 0, hu => cases hu; exact hcl⟩) rfl (by omega) (by omega) fun v2 w5 ob2 hr2 hnil2 hat2 hsz2 hA => ?_
      have hle : (racL b (k + 1)).length = (racL b k).length + 1 := by rw [hst, List.length_append]; rfl
      obtain ⟨g2, c2', rfl⟩ : ∃ g2 c2', v2 = .slice (some ⟨g2, 0, none⟩) ((racL b k).length + 1) c2' := by
        rcases hr2.2 with ⟨-, h9, -⟩ | ⟨g2, c2', u2, h1, -⟩
        · omega
        · exact ⟨g2, c2', h1⟩
      refine runS hA 9 [] xn on (by kernel_rfl) fun w6 hA => ?_
      have hrk2 : RowV 3 1 (.slice (some ⟨g2, 0, none⟩) (racL b (k + 1)).length c2') (racL b (k + 1)).length (ints (racL b (k + 1))) ob2 := by rw [hle, hst, ints_append]; exact hr2
      refine revals hA (rc 3 (show .slice (some ⟨g2, 0, none⟩) ((racL b k).length + 1) c2' = .slice (some ⟨g2, 0, none⟩) ((racL b (k + 1)).length) c2' by rw [hle]) (rc 4 (wr64 (x := (k : Int) + 1) (y := ((k + 1 : Nat) : Int)) (by omega) (by omega)) rn)) (by kernel_rfl) fun hA => ?_
      exact again hJ (R - (k + 1)) (⟨k + 1, some ⟨g2, 0, none⟩, c2', ob2⟩) [true] hA (by omega) (by kernel_rfl) (⟨⟨by omega, rfl⟩, hrk2⟩)
end Go.Proofs.Ytbahiemjaomdcaa

/- pool: a runner on which nobody has bet, scratched. -/
namespace Go.Proofs.Ytbahiemjaomdcaa
open Go.RowKit Go.Shelf

theorem fg_snoc (t : Nat → Int) (xs : List Int) (y : Int) : fgF t (xs ++ [y]) = if xs = [] then y else betterF t (fgF t xs) y := by
  cases xs with
  | nil => rfl
  | cons x xs =>
    unfold fgF
    rw [if_neg (by simp)]
    simp
theorem fg_out (t : Nat → Int) (r : Int) : ∀ (n : Nat) (xs : List Int), xs.length = n → xs ≠ [] → (fgF t xs ≠ r → xs.filter (fun x => decide (x ≠ r)) ≠ [] ∧ fgF t (xs.filter fun x => decide (x ≠ r)) = fgF t xs) ∧ (fgF t xs = r → xs.filter (fun x => decide (x ≠ r)) = [] ∨ t (fgF t (xs.filter fun x => decide (x ≠ r))).toNat ≤ t r.toNat)
  | 0, xs, hl, h => absurd (List.length_eq_zero_iff.1 hl) h
  | n + 1, xs, hl, _ => by
    obtain ⟨ys, y, rfl⟩ : ∃ ys y, xs = ys ++ [y] := ⟨xs.dropLast, xs.getLast (by intro e; rw [e] at hl; cases hl), (List.dropLast_concat_getLast _).symm⟩
    have hyl : ys.length = n := by rw [List.length_append] at hl; simpa using hl
    rw [List.filter_append, fg_snoc]
    have e1 : [y].filter (fun x => decide (x ≠ r)) = if y = r then [] else [y] := by
      by_cases e : y = r
      · rw [if_pos e]; simp [e]
      · rw [if_neg e]; simp [e]
    rw [e1]
    by_cases h0 : ys = []
    · subst h0
      rw [if_pos rfl]
      by_cases e : y = r
      · rw [if_pos e]; simp [e]
      · rw [if_neg e]
        refine ⟨fun _ => ⟨by simp, rfl⟩, fun h => absurd h e⟩
    · rw [if_neg h0]
      obtain ⟨i1, i2⟩ := fg_out t r n ys hyl h0
      unfold betterF
      by_cases e : y = r
      · rw [if_pos e, List.append_nil]
        by_cases hlt : t (fgF t ys).toNat < t y.toNat
        · rw [if_pos hlt]
          refine ⟨fun h => absurd e h, fun _ => ?_⟩
          have hne : fgF t ys ≠ r := fun h => by rw [h, e] at hlt; omega
          rw [(i1 hne).2]
          exact .inr (by rw [e] at hlt; omega)
        · rw [if_neg hlt]
          exact ⟨i1, i2⟩
      · rw [if_neg e, fg_snoc]
        unfold betterF
        by_cases hm : fgF t ys = r
        · by_cases hlt : t (fgF t ys).toNat < t y.toNat
          · rw [if_pos hlt]
            refine ⟨fun _ => ⟨by simp, ?_⟩, fun h => absurd h e⟩
            rcases i2 hm with h9 | h9
            · rw [if_pos h9]
            · split
              · rfl
              · rw [if_pos]
                rw [hm] at hlt
                omega
          · rw [if_neg hlt]
            refine ⟨fun h => absurd hm h, fun _ => .inr ?_⟩
            rw [hm] at hlt
            split
            · omega
            · rename_i h8
              have h9 := (i2 hm).resolve_left h8
              split <;> omega
        · obtain ⟨j1, j2⟩ := i1 hm
          rw [if_neg j1, j2]
          refine ⟨fun _ => ⟨by simp, rfl⟩, fun h => ?_⟩
          split at h
          · exact absurd h e
          · exact absurd h hm
theorem racL_pw (b : Bk) : ∀ k, (racL b k).Pairwise fun x y => x < y
  | 0 => List.Pairwise.nil
  | k + 1 => by
    rw [racL, List.pairwise_append]
    refine ⟨racL_pw b k, by split <;> simp, fun x hx y hy => ?_⟩
    have h1 := ((racL_mem b).1 hx).1
    split at hy
    · cases hy
    · rw [List.mem_singleton.1 hy]; omega
theorem racN_out {b : Bk} {r : Int} (h0 : bookF b = 0) (hr : r ∈ racN b) (h3 : 3 ≤ (racN b).length) : racN (scrF b r) = (racN b).filter fun x => decide (x ≠ r) := by
  refine incr_ext (racL_pw _ _) ((racL_pw b _).filter _) fun x => ?_
  rw [(racN_scr h0 hr h3).1, List.mem_filter, decide_eq_true_eq]
section
variable {b : Bk} {r : Int} (h0 : bookF b = 0) (hr : r ∈ racN b) (h3 : 3 ≤ (racN b).length) (hn : ∀ x ∈ b.bets, x.first ≠ r ∧ x.second ≠ r) (hf : favF b ≠ r)
include hn in
theorem okF_out {x : Bet} (hx : x ∈ b.bets) : okF (scrF b r) x = okF b x := by
  obtain ⟨h1, h2⟩ := hn x hx
  have e1 : (x.first ∈ (scrF b r).scr) ↔ x.first ∈ b.scr := by show x.first ∈ insF r b.scr ↔ _; rw [insF_mem]; exact ⟨fun h => h.elim (fun h => absurd h h1) id, .inr⟩
  have e2 : (x.second ∈ (scrF b r).scr) ↔ x.second ∈ b.scr := by show x.second ∈ insF r b.scr ↔ _; rw [insF_mem]; exact ⟨fun h => h.elim (fun h => absurd h h2) id, .inr⟩
  unfold okF
  simp only [e1, e2]
include h0 hr h3 hn hf in
theorem favF_out : favF (scrF b r) = favF b := by
  have e : tallyF (okF (scrF b r)) (fun x => x.first) b.bets = tallyF (okF b) (fun x => x.first) b.bets := funext fun i => by
    unfold tallyF
    congr 1
    exact List.map_congr_left fun x hx => by rw [okF_out hn hx]
  have hne : racN b ≠ [] := fun e => by rw [e] at hr; cases hr
  show fgF (tallyF (okF (scrF b r)) (fun x => x.first) b.bets) (racN (scrF b r)) = _
  rw [e, racN_out h0 hr h3]
  exact ((fg_out (tallyF (okF b) (fun x => x.first) b.bets) r _ (racN b) rfl hne).1 hf).2
include h0 hr h3 hn hf in
theorem on_out {x : Bet} (hx : x ∈ b.bets) : okT (tilF (scrF b r)) x = okT (tilF b) x ∧ spX (tilF (scrF b r)) x = spX (tilF b) x := by
  have e1 : okF (tilF (scrF b r)).b x = okF (tilF b).b x := okF_out hn hx
  have e2 : toHeir (tilF (scrF b r)) x = toHeir (tilF b) x := by unfold toHeir; rw [e1]; rfl
  have e3 : (tilF (scrF b r)).heir = (tilF b).heir := favF_out h0 hr h3 hn hf
  unfold okT spX s1T
  rw [e1, e2, e3]
  exact ⟨rfl, rfl⟩
include h0 hr h3 hn hf in
theorem uL_out (s : Int × Int) : uL (tilF (scrF b r)) b.bets s = uL (tilF b) b.bets s := by
  unfold uL
  congr 1
  exact List.map_congr_left fun x hx => by rw [(on_out h0 hr h3 hn hf hx).1, (on_out h0 hr h3 hn hf hx).2]
include h0 hr h3 hn hf in
theorem acc_out : (tilF (scrF b r)).a = (tilF b).a := by
  have e : sumF (notOn (tilF (scrF b r))) b.bets = sumF (notOn (tilF b)) b.bets := by
    unfold sumF
    congr 1
    exact List.map_congr_left fun x hx => by unfold notOn; rw [(on_out h0 hr h3 hn hf hx).1]
  show incF' (sumF allB b.bets) (sumF (notOn (tilF (scrF b r))) b.bets) b.car b.dut = incF' (sumF allB b.bets) (sumF (notOn (tilF b)) b.bets) b.car b.dut
  rw [e]
include h0 hr h3 in
theorem fin_out {fs : List (List Int)} (h : isFinF (scrF b r) fs = true) : isFinF b (fs ++ [[r]]) = true := by
  obtain ⟨p1, p2⟩ := fin_sub h
  have hm := (racN_scr h0 hr h3).1
  refine fin_of_parts (fun F hF => ?_) ?_ fun x hx => ?_
  · rcases List.mem_append.1 hF with hF | hF
    · obtain ⟨q1, q2, q3⟩ := p1 F hF
      exact ⟨fun e => q1 (by rw [e]; rfl), incF_pw q2, fun x hx => ((hm x).1 (q3 x hx)).1⟩
    · rw [List.mem_singleton.1 hF]
      exact ⟨by simp, by simp, fun x hx => by rw [List.mem_singleton.1 hx]; exact hr⟩
  · rw [List.pairwise_append]
    refine ⟨p2, by simp, fun F hF G hG x hx => ?_⟩
    rw [List.mem_singleton.1 hG, List.mem_singleton]
    exact ((hm x).1 ((p1 F hF).2.2 x hx)).2
  · by_cases e : x = r
    · exact ⟨[r], List.mem_append_right _ List.mem_cons_self, by rw [e]; exact List.mem_cons_self⟩
    · obtain ⟨F, hF, hxF⟩ := fin_cov h ((hm x).2 ⟨hx, e⟩)
      exact ⟨F, List.mem_append_left _ hF, hxF⟩
include h0 hr h3 in
theorem win_out {fs : List (List Int)} (h : isFinF (scrF b r) fs = true) : winF b (fs ++ [[r]]) = winF (scrF b r) fs := by
  have V2 := valid_of (bookF_scr h0 hr h3)
  have K := fin_ok V2 h
  have e0 : (fs ++ [[r]])[0]?.getD [] = fs[0]?.getD [] := by rw [List.getElem?_append_left K.pos]
  have ep : plaF (fs ++ [[r]]) = plaF fs := by
    unfold plaF
    rw [e0]
    by_cases h1 : (fs[0]?.getD []).length = 1
    · rw [if_pos h1, if_pos h1, List.getElem?_append_left (K.one h1).1]
    · rw [if_neg h1, if_neg h1]
  unfold winF
  rw [e0, ep]
  rfl
include h0 hr h3 hn hf in
theorem accF_out {fs : List (List Int)} (h : isFinF (scrF b r) fs = true) : AccountF b (fs ++ [[r]]) = AccountF (scrF b r) fs := by
  have eb : bkd (tilF b) (fs ++ [[r]]) = bkd (tilF (scrF b r)) fs := by
    show (winF b (fs ++ [[r]])).filter (fun s => decide (uL (tilF b) b.bets s ≠ 0)) = (winF (scrF b r) fs).filter fun s => decide (uL (tilF (scrF b r)) b.bets s ≠ 0)
    rw [win_out h0 hr h3 h]
    refine List.filter_congr fun s _ => ?_
    rw [uL_out h0 hr h3 hn hf]
  have ea := acc_out h0 hr h3 hn hf
  have ep : pdF (tilF b) (fs ++ [[r]]) = pdF (tilF (scrF b r)) fs := by
    unfold pdF
    rw [eb]
    refine sum_congr fun s hs => ?_
    have hs2 : s ∈ bkd (tilF b) (fs ++ [[r]]) := by rw [eb]; exact hs
    rw [dvF_in hs, dvF_in hs2, eb, ea]
    show (((netF (tilF b).a).tdiv ((bkd (tilF (scrF b r)) fs).length : Int)).tdiv (uL (tilF b) b.bets s * b.stp) * b.stp) * uL (tilF b) b.bets s = (((netF (tilF b).a).tdiv ((bkd (tilF (scrF b r)) fs).length : Int)).tdiv (uL (tilF (scrF b r)) b.bets s * b.stp) * b.stp) * uL (tilF (scrF b r)) b.bets s
    rw [uL_out h0 hr h3 hn hf]
  rw [acc_eq h0 (fin_out h0 hr h3 h), acc_eq (bookF_scr h0 hr h3) h, eb, ep, ea]
theorem win_last {fs : List (List Int)} (h0 : bookF b = 0) (hr : r ∈ racN b) (h3 : 3 ≤ (racN b).length) (h : isFinF (scrF b r) fs = true) : ∀ p ∈ winF b (fs ++ [[r]]), p.1 ≠ r ∧ p.2 ≠ r := by
  have V2 := valid_of (bookF_scr h0 hr h3)
  have hm := (racN_scr h0 hr h3).1
  have hr1 := (racL_mem b).1 hr
  obtain ⟨p1, -⟩ := fin_sub h
  have K := fin_ok V2 h
  have m0 : ∀ x, x ∈ fs[0]?.getD [] → x ≠ r := fun x hx => ((hm x).1 ((p1 _ (get_mem' K.pos)).2.2 x hx)).2
  have m1 : (fs[0]?.getD []).length = 1 → ∀ x, x ∈ fs[1]?.getD [] → x ≠ r := fun e x hx => ((hm x).1 ((p1 _ (get_mem' (K.one e).1)).2.2 x hx)).2
  intro p hp
  rw [win_out h0 hr h3 h, win_mem V2 h] at hp
  have hw := hp.2
  revert hw
  unfold winB
  split
  · simp only [Bool.and_eq_true, decide_eq_true_eq]; exact fun ⟨h1, h2⟩ => ⟨m0 _ h2, by omega⟩
  · split
    · simp only [Bool.and_eq_true, Bool.or_eq_true, decide_eq_true_eq]; exact fun ⟨h1, h2⟩ => ⟨h2.elim (m0 _) fun h => m1 h.1 _ h.2, by omega⟩
    · split
      · by_cases e : (fs[0]?.getD []).length = 1
        · rw [if_pos e]; simp only [Bool.and_eq_true, decide_eq_true_eq]; exact fun ⟨h1, h2⟩ => ⟨m0 _ h1.2, m1 e _ h2⟩
        · rw [if_neg e]; simp only [Bool.and_eq_true, decide_eq_true_eq]; exact fun ⟨h1, h2⟩ => ⟨m0 _ h1.2, m0 _ h2⟩
      · by_cases e : (fs[0]?.getD []).length = 1
        · rw [if_pos e]; simp only [Bool.and_eq_true, Bool.or_eq_true, decide_eq_true_eq]; exact fun ⟨h1, h2⟩ => h2.elim (fun h => ⟨m0 _ h.1, m1 e _ h.2⟩) fun h => ⟨m1 e _ h.2, m0 _ h.1⟩
        · rw [if_neg e]; simp only [Bool.and_eq_true, decide_eq_true_eq]; exact fun ⟨h1, h2⟩ => ⟨m0 _ h2.1, m0 _ h2.2⟩
end
/-- The bets that are not on a runner. -/
def offL (bs : List Bet) (r : Int) : List Bet := bs.filter fun x => decide (x.first ≠ r) && decide (x.second ≠ r)
theorem off_no {bs : List Bet} {r : Int} : ∀ x ∈ offL bs r, x.first ≠ r ∧ x.second ≠ r := fun x hx => by
  have := (List.mem_filter.1 hx).2
  simpa only [Bool.and_eq_true, decide_eq_true_eq] using this
theorem off_ok {b : Bk} (h0 : bookF b = 0) (r : Int) : bookF (bkB b (offL b.bets r)) = 0 := by
  have V := valid_of h0
  exact bookF_bets h0 (Nat.le_trans (List.length_filter_le _ _) V.len) fun x hx => V.bet x (List.mem_filter.1 hx).1
theorem off_take {bs : List Bet} {r : Int} {k : Nat} (h : k < bs.length) {x : Bet} (hx : x = bs[k]?.getD noBet) : offL (bs.take (k + 1)) r = offL (bs.take k) r ++ if x.first ≠ r ∧ x.second ≠ r then [x] else [] := by
  subst hx
  unfold offL
  rw [take_snoc (d := noBet) h, List.filter_append]
  congr 1
  by_cases h1 : (bs[k]?.getD noBet).first ≠ r ∧ (bs[k]?.getD noBet).second ≠ r
  · rw [if_pos h1, List.filter_cons_of_pos (by simpa using h1)]
    rfl
  · rw [if_neg h1, List.filter_cons_of_neg (by simpa using h1)]
    rfl
end Go.Proofs.Ytbahiemjaomdcaa

/- pool: from what to what is paid for all finishes. -/
namespace Go.Proofs.Ytbahiemjaomdcaa
open Go.RowKit Go.Shelf

theorem grs_mem (rs : List Int) : ∀ (n : Nat) (xs : List Int), xs.length = n → ∀ g : List Int, g.Sublist xs → g ∈ grsF xs
  | 0, xs, hl, g, h => by
    have := List.length_eq_zero_iff.1 hl
    subst this
    have := List.sublist_nil.1 h
    subst this
    exact List.mem_cons_self
  | n + 1, xs, hl, g, h => by
    obtain ⟨ys, y, rfl⟩ : ∃ ys y, xs = ys ++ [y] := ⟨xs.dropLast, xs.getLast (by intro e; rw [e] at hl; cases hl), (List.dropLast_concat_getLast _).symm⟩
    have hyl : ys.length = n := by rw [List.length_append] at hl; simpa using hl
    rw [grsF_snoc, List.mem_append]
    obtain ⟨l1, l2, rfl, h1, h2⟩ := List.sublist_append_iff.1 h
    have i1 := grs_mem rs n ys hyl l1 h1
    rcases l2 with _ | ⟨z, l2⟩
    · rw [List.append_nil]; exact .inl i1
    · have hz := h2.length_le
      have : l2 = [] := by
        rcases l2 with _ | ⟨u, l2⟩
        · rfl
        · simp at hz
      subst this
      have := List.singleton_sublist.1 h2
      rw [List.mem_singleton] at this
      subst this
      exact .inr (List.mem_map.2 ⟨l1, i1, rfl⟩)
theorem sub_of_pw {F rs : List Int} (h1 : F.Pairwise fun x y => x < y) (h2 : rs.Pairwise fun x y => x < y) (h : ∀ x ∈ F, x ∈ rs) : F.Sublist rs := by
  have e : F = rs.filter fun x => decide (x ∈ F) := by
    refine incr_ext h1 (h2.filter _) fun x => ?_
    rw [List.mem_filter, decide_eq_true_eq]
    exact ⟨fun hx => ⟨h x hx, hx⟩, fun hx => hx.2⟩
  rw [e]
  exact List.filter_sublist
theorem grp_mem {b : Bk} {F : List Int} (h0 : F.length ≠ 0) (h1 : F.Pairwise fun x y => x < y) (h : ∀ x ∈ F, x ∈ racN b) : F ∈ groupsF b := by
  have hm := grs_mem [] _ _ rfl F (sub_of_pw h1 (racL_pw b _) h)
  unfold groupsF
  obtain ⟨l, hl, -⟩ := grsF_head (racN b) (racN b).length (Nat.le_refl _)
  rw [List.take_length] at hl
  have hm2 : F ∈ grsF (racN b) := hm
  rw [hl] at hm2 ⊢
  rcases List.mem_cons.1 hm2 with h9 | h9
  · rw [h9] at h0; exact absurd rfl h0
  · exact h9
theorem grp_sub {b : Bk} {F : List Int} (h : F ∈ groupsF b) : F.length ≠ 0 ∧ F.Pairwise fun x y => x < y := by
  have h1 : F ∈ grsF (racN b) := List.mem_of_mem_drop h
  obtain ⟨l, hl, hp⟩ := grsF_head (racN b) (racN b).length (Nat.le_refl _)
  rw [List.take_length] at hl
  have h2 : F ∈ l := by
    unfold groupsF at h
    rw [hl] at h
    exact h
  refine ⟨by have := hp F h2; omega, ?_⟩
  have key : ∀ (n : Nat) (xs : List Int), xs.length = n → xs.Pairwise (fun x y => x < y) → ∀ g ∈ grsF xs, g.Sublist xs := by
    intro n
    induction n with
    | zero =>
      intro xs hx _ g hg
      have := List.length_eq_zero_iff.1 hx
      subst this
      rw [List.mem_singleton.1 (show g ∈ [[]] from hg)]
      exact List.Sublist.refl _
    | succ n ih =>
      intro xs hx hp g hg
      obtain ⟨ys, y, rfl⟩ : ∃ ys y, xs = ys ++ [y] := ⟨xs.dropLast, xs.getLast (by intro e; rw [e] at hx; cases hx), (List.dropLast_concat_getLast _).symm⟩
      have hyl : ys.length = n := by rw [List.length_append] at hx; simpa using hx
      rw [List.pairwise_append] at hp
      rw [grsF_snoc, List.mem_append, List.mem_map] at hg
      rcases hg with hg | ⟨g', hg', rfl⟩
      · exact (ih ys hyl hp.1 g hg).trans (List.sublist_append_left _ _)
      · exact (ih ys hyl hp.1 g' hg').append (List.Sublist.refl _)
  exact List.Pairwise.sublist (key _ _ rfl (racL_pw b _) F h1) (racL_pw b _)
/-- The winners of a finish, or of how one begins, are all different ones. -/
theorem win_nd {b : Bk} {fs : List (List Int)} (h0 : (fs[0]?.getD []).Pairwise fun x y => x < y) (h1 : (fs[0]?.getD []).length = 1 → (fs[0]?.getD [] ++ fs[1]?.getD []).Nodup) : (winF b fs).Nodup := by
  have ne : ∀ {l : List (Int × Int)}, l.Pairwise lexB → l.Nodup := fun h => h.imp fun h e => by subst e; unfold lexB at h; omega
  have hp : (plaF fs).Pairwise fun x y => x < y := by
    unfold plaF
    split
    · rename_i e; exact srtF_pw (h1 e)
    · exact h0
  unfold winF
  split
  · exact ne (sinF_pw h0)
  · split
    · exact ne (sinF_pw hp)
    · split
      · exact ne (prsF_pw _ hp)
      · exact ne (prsF_pw _ hp)
theorem paid_pd {b : Bk} {fs : List (List Int)} (V : ValidB b) (hw : (winF b fs).Nodup) : paidF b fs = pdF (tilF b) fs := by
  have hp := (acc_ok V).2
  unfold paidF accF
  rw [padF_eq (t := tilF b) hw, hp, Int.zero_add, pay_len (t := tilF b) hw]
  split
  · rename_i e
    have hb := List.length_eq_zero_iff.1 e
    show (tilF b).a.paid = _
    rw [hp]
    unfold pdF
    rw [hb]
    rfl
  · rfl
theorem head_nd {b : Bk} {hd : List (List Int)} (h : hd ∈ headsL (groupsF b)) : (winF b hd).Nodup := by
  unfold headsL at h
  rw [List.mem_flatMap] at h
  obtain ⟨f, hf, hh⟩ := h
  obtain ⟨f0, f1⟩ := grp_sub hf
  unfold headF at hh
  split at hh
  · rename_i hl
    rw [List.mem_singleton.1 hh]
    exact win_nd f1 fun e => by
      have e : f.length = 1 := e
      omega
  · rename_i hl
    unfold secW at hh
    rw [List.mem_map] at hh
    obtain ⟨s, hs, rfl⟩ := hh
    rw [List.mem_filter] at hs
    obtain ⟨s0, s1⟩ := grp_sub hs.1
    refine win_nd f1 fun e => ?_
    show (f ++ s).Nodup
    have hx : f = [f[0]?.getD 0] := by
      rcases f with _ | ⟨x, _ | ⟨y, f⟩⟩
      · exact absurd rfl f0
      · rfl
      · simp at hl
    have hn : f[0]?.getD 0 ∉ s := by simpa using hs.2
    rw [List.nodup_append]
    refine ⟨f1.imp fun h => by omega, s1.imp fun h => by omega, fun a ha c hc e2 => ?_⟩
    rw [hx, List.mem_singleton] at ha
    rw [← ha, e2] at hn
    exact hn hc
theorem fin_head {b : Bk} {fs : List (List Int)} (V : ValidB b) (h : isFinF b fs = true) : ∃ hd ∈ headsL (groupsF b), winF b hd = winF b fs := by
  obtain ⟨p1, p2⟩ := fin_sub h
  have K := fin_ok V h
  obtain ⟨q1, q2, q3⟩ := p1 _ (get_mem' K.pos)
  have g0 := grp_mem q1 (incF_pw q2) q3
  by_cases hl : (fs[0]?.getD []).length = 1
  · obtain ⟨k1, k2⟩ := K.one hl
    obtain ⟨r1, r2, r3⟩ := p1 _ (get_mem' k1)
    have g1 := grp_mem r1 (incF_pw r2) r3
    refine ⟨[fs[0]?.getD [], fs[1]?.getD []], ?_, ?_⟩
    · unfold headsL
      rw [List.mem_flatMap]
      refine ⟨_, g0, ?_⟩
      unfold headF secW
      rw [if_neg (by omega), List.mem_map]
      refine ⟨_, List.mem_filter.2 ⟨g1, ?_⟩, rfl⟩
      have hm : (fs[0]?.getD [])[0]?.getD 0 ∈ fs[0]?.getD [] := get_mem (by omega)
      have := pw_get p2 k1 (by omega) hm
      simpa using this
    · have e : plaF [fs[0]?.getD [], fs[1]?.getD []] = plaF fs := by
        unfold plaF
        rfl
      unfold winF
      rw [e]
      rfl
  · refine ⟨[fs[0]?.getD []], ?_, ?_⟩
    · unfold headsL
      rw [List.mem_flatMap]
      refine ⟨_, g0, ?_⟩
      unfold headF
      rw [if_pos (by omega)]
      exact List.mem_cons_self
    · have e : plaF [fs[0]?.getD []] = plaF fs := by
        unfold plaF
        show (if (fs[0]?.getD []).length = 1 then _ else _) = _
        rw [if_neg hl, if_neg hl]
        rfl
      unfold winF
      rw [e]
      rfl
theorem pd_win {b : Bk} {fs gs : List (List Int)} (h : winF b fs = winF b gs) : pdF (tilF b) fs = pdF (tilF b) gs := by
  have e : bkd (tilF b) fs = bkd (tilF b) gs := by
    show (winF b fs).filter _ = (winF b gs).filter _
    rw [h]
  unfold pdF
  rw [e]
  refine sum_congr fun s _ => ?_
  unfold dvF
  rw [e]
theorem spr_fold (b : Bk) (m : Int) : ∀ (l : List (List (List Int))) (p : Int × Int), (∀ x ∈ l, 0 ≤ paidF b x ∧ paidF b x ≤ m) → 0 ≤ p.1 → p.2 ≤ m →
    (0 ≤ (l.foldl (spr1 b) p).1 ∧ (l.foldl (spr1 b) p).2 ≤ m) ∧ ((l.foldl (spr1 b) p).1 ≤ p.1 ∧ p.2 ≤ (l.foldl (spr1 b) p).2) ∧ ∀ x ∈ l, (l.foldl (spr1 b) p).1 ≤ paidF b x ∧ paidF b x ≤ (l.foldl (spr1 b) p).2
  | [], p, _, h1, h2 => ⟨⟨h1, h2⟩, ⟨Int.le_refl _, Int.le_refl _⟩, fun x hx => by cases hx⟩
  | y :: l, p, h, h1, h2 => by
    obtain ⟨hy1, hy2⟩ := h y List.mem_cons_self
    have e1 : (spr1 b p y).1 ≤ p.1 ∧ (spr1 b p y).1 ≤ paidF b y ∧ 0 ≤ (spr1 b p y).1 := by unfold spr1; simp only; split <;> omega
    have e2 : p.2 ≤ (spr1 b p y).2 ∧ paidF b y ≤ (spr1 b p y).2 ∧ (spr1 b p y).2 ≤ m := by unfold spr1; simp only; split <;> omega
    obtain ⟨i1, i2, i3⟩ := spr_fold b m l (spr1 b p y) (fun x hx => h x (List.mem_cons_of_mem _ hx)) e1.2.2 e2.2.2
    rw [List.foldl_cons]
    refine ⟨i1, ⟨by omega, by omega⟩, fun x hx => ?_⟩
    rcases List.mem_cons.1 hx with rfl | hx
    · omega
    · exact i3 x hx
theorem none_bkd {b : Bk} (V : ValidB b) (h : noneF (tallyF (okT (tilF b)) (s1T (tilF b)) b.bets) = true) (fs : List (List Int)) : bkd (tilF b) fs = [] := by
  have hno : ∀ x ∈ b.bets, okT (tilF b) x ≠ true := by
    intro x hx ho
    have h1 := s1_ok V x hx ho
    unfold noneF at h
    have h2 := List.all_eq_true.1 h (s1T (tilF b) x).toNat (List.mem_range.2 (by omega))
    have h3 : tallyF (okT (tilF b)) (s1T (tilF b)) b.bets (s1T (tilF b) x).toNat = 0 := by simpa using h2
    have key : ∀ bs : List Bet, (∀ y ∈ bs, 0 ≤ y.units ∧ y.units ≤ 1000) → x ∈ bs → x.units ≤ tallyF (okT (tilF b)) (s1T (tilF b)) bs (s1T (tilF b) x).toNat := by
      intro bs
      induction bs with
      | nil => intro _ h; cases h
      | cons y bs ih =>
        intro h0 hm
        have e : tallyF (okT (tilF b)) (s1T (tilF b)) (y :: bs) (s1T (tilF b) x).toNat = (if okT (tilF b) y = true ∧ s1T (tilF b) y = (((s1T (tilF b) x).toNat : Nat) : Int) then y.units else 0) + tallyF (okT (tilF b)) (s1T (tilF b)) bs (s1T (tilF b) x).toNat := by simp [tallyF]
        have hb := tallyF_bound (okT (tilF b)) (s1T (tilF b)) bs (s1T (tilF b) x).toNat fun z hz => h0 z (List.mem_cons_of_mem _ hz)
        have hy := h0 y List.mem_cons_self
        rw [e]
        rcases List.mem_cons.1 hm with rfl | hm
        · rw [if_pos ⟨ho, by omega⟩]; omega
        · have := ih (fun z hz => h0 z (List.mem_cons_of_mem _ hz)) hm
          split <;> omega
    have h4 := key b.bets (units_ok V) hx
    have h5 := (V.first hx).2
    omega
  have hz : ∀ s, uL (tilF b) b.bets s = 0 := by
    intro s
    have : uL (tilF b) b.bets s = (b.bets.map fun _ => (0 : Int)).sum := by
      unfold uL
      congr 1
      exact List.map_congr_left fun x hx => if_neg fun h9 => hno x hx h9.1
    rw [this]
    have h1 : ∀ l : List Bet, (l.map fun _ => (0 : Int)).sum = 0 := fun l => by induction l with | nil => rfl | cons x l ih => simp [ih]
    exact h1 _
  rw [List.eq_nil_iff_forall_not_mem]
  intro s hs
  exact (bkd_mem.1 hs).2 (hz s)
theorem spread_ok {b : Bk} (h0 : bookF b = 0) {fs : List (List Int)} (h : isFinF b fs = true) : (0 ≤ (sprF b).1 ∧ (sprF b).2 ≤ netF (tilF b).a) ∧ (sprF b).1 ≤ pdF (tilF b) fs ∧ pdF (tilF b) fs ≤ (sprF b).2 := by
  have V := valid_of h0
  have hn := (net_facts V).1.2.2
  unfold sprF
  rw [if_pos h0]
  by_cases hno : noneF (tallyF (okT (tilF b)) (s1T (tilF b)) b.bets) = true
  · rw [if_pos hno]
    have hb := none_bkd V hno fs
    have hp : pdF (tilF b) fs = 0 := by unfold pdF; rw [hb]; rfl
    rw [hp]
    exact ⟨⟨Int.le_refl 0, hn⟩, Int.le_refl 0, Int.le_refl 0⟩
  · rw [if_neg hno]
    have hall : ∀ x ∈ headsL (groupsF b), 0 ≤ paidF b x ∧ paidF b x ≤ netF (tilF b).a := fun x hx => by
      rw [paid_pd V (head_nd hx)]
      exact pd_facts V
    obtain ⟨i1, i2, i3⟩ := spr_fold b (netF (tilF b).a) (headsL (groupsF b)) (9223372036854775807, 0) hall (by decide) hn
    obtain ⟨hd, hm, he⟩ := fin_head V h
    have i4 := i3 hd hm
    rw [paid_pd V (head_nd hm), pd_win he] at i4
    exact ⟨i1, i4⟩
theorem acc_left {b : Bk} (h0 : bookF b = 0) {fs : List (List Int)} (h : isFinF b fs = true) : (AccountF b fs).paid = pdF (tilF b) fs ∧ (AccountF b fs).paid + (AccountF b fs).kept + (AccountF b fs).over = netF (tilF b).a := by
  have e : (AccountF b fs).paid = pdF (tilF b) fs := acc_paid h0 h
  refine ⟨e, ?_⟩
  rw [e, acc_eq h0 h]
  split
  · rename_i hb
    unfold pdF
    rw [hb]
    show 0 + 0 + netF (tilF b).a = _
    omega
  · show pdF (tilF b) fs + (netF (tilF b).a - pdF (tilF b) fs) + 0 = _
    omega
end Go.Proofs.Ytbahiemjaomdcaa

/- quinellaref03: On, Net. -/
namespace Go.Proofs.Ytbahiemjaomdcaa
open Go.RowKit Go.Shelf

/-- What a bet is on; no spot, if it is given back. -/
def onP (b : Bk) (x : Bet) : Int × Int := if okT (tilF b) x = true then spX (tilF b) x else (0, 0)
theorem alone_iff {b : Bk} (V : ValidB b) {x : Bet} (hx : x ∈ b.bets) : (b.kind = 0 ∨ b.kind = 1) ↔ x.second = -1 := by
  have h1 := V.bet x hx
  have h2 := (V.first hx)
  have hk := V.kind
  rw [refuses_rest h2] at h1
  constructor
  · intro h
    rw [if_neg (by omega), if_neg (by omega)] at h1
    simpa using h1
  · intro h
    by_cases e2 : b.kind = 2
    · rw [if_pos e2, isR_false (by omega)] at h1
      cases h1
    · by_cases e3 : b.kind = 3
      · rw [if_neg e2, if_pos e3, isR_false (by omega)] at h1
        cases h1
      · omega
theorem okF_yes {b : Bk} {x : Bet} (h1 : x.first ∉ b.scr) (h2 : x.second ∉ b.scr) : okF b x = true := by unfold okF; rw [decide_eq_false h1, decide_eq_false h2]; rfl
theorem okF_no {b : Bk} {x : Bet} (h : x.first ∈ b.scr ∨ x.second ∈ b.scr) : okF b x = false := by
  unfold okF
  rcases h with h | h
  · rw [decide_eq_true h]; rfl
  · rw [decide_eq_true h, Bool.not_true, Bool.and_false]
theorem on_yes {b : Bk} {x : Bet} (h1 : x.first ∉ b.scr) (h2 : x.second ∉ b.scr) : okT (tilF b) x = true ∧ onP b x = (x.first, x.second) := by
  have e := okF_yes h1 h2
  have et : toHeir (tilF b) x = false := by unfold toHeir; rw [show okF (tilF b).b x = true from e]; rfl
  have eo : okT (tilF b) x = true := by unfold okT; rw [show okF (tilF b).b x = true from e]; rfl
  refine ⟨eo, ?_⟩
  unfold onP spX s1T
  rw [if_pos eo, et]
  rfl
theorem on_heir {b : Bk} (V : ValidB b) {x : Bet} (hx : x ∈ b.bets) (h : x.first ∈ b.scr ∨ x.second ∈ b.scr) (ha : b.kind = 0 ∨ b.kind = 1) (hf : b.fav = true) : okT (tilF b) x = true ∧ onP b x = (favF b, -1) := by
  have e := okF_no h
  have h2 := (alone_iff V hx).1 ha
  have et : toHeir (tilF b) x = true := by
    unfold toHeir
    rw [show okF (tilF b).b x = false from e, show (tilF b).b.fav = true from hf, h2]
    rfl
  have eo : okT (tilF b) x = true := by unfold okT; rw [et, Bool.or_true]
  refine ⟨eo, ?_⟩
  unfold onP spX s1T
  rw [if_pos eo, if_pos et, h2]
  rfl
theorem on_no {b : Bk} (V : ValidB b) {x : Bet} (hx : x ∈ b.bets) (h : x.first ∈ b.scr ∨ x.second ∈ b.scr) (ha : ¬ ((b.kind = 0 ∨ b.kind = 1) ∧ b.fav = true)) : okT (tilF b) x = false ∧ onP b x = (0, 0) := by
  have e := okF_no h
  have et : toHeir (tilF b) x = false := by
    unfold toHeir
    rw [show okF (tilF b).b x = false from e, show (tilF b).b.fav = b.fav from rfl]
    by_cases hf : b.fav = true
    · have h2 : ¬ x.second = -1 := fun h9 => ha ⟨(alone_iff V hx).2 h9, hf⟩
      rw [hf, show (x.second == -1) = false by simpa using h2]
      rfl
    · rw [show b.fav = false by simpa using hf]
      rfl
  have eo : okT (tilF b) x = false := by unfold okT; rw [et, show okF (tilF b).b x = false from e]; rfl
  refine ⟨eo, ?_⟩
  unfold onP
  rw [if_neg (by rw [eo]; decide)]
/-- The account as far as the net. -/
def netA (b : Bk) : Acc := ⟨(tilF b).a.inn, (tilF b).a.back, (tilF b).a.duty, 0, 0, netF (tilF b).a⟩
set_option maxHeartbeats 1000000 in
set_option maxRecDepth 20000 in
theorem rOn_any (w : World) (B : Nat) (b : Bk) (A : Option Addr) (n c : Nat) (A2 : Option Addr) (m c2 : Nat) (x : Bet) (h : BkAt w B b A n c A2 m c2) (hB : B ≤ w.heap.size) (V : ValidB b) (hx : x ∈ b.bets) : Calls Try.prog 68 #[bkV b A n c A2 m c2, betV x] w fun e w' => e = .returned (.tuple #[.agg #[.int .i64 (onP b x).1, .int .i64 (onP b x).2], .bool (okT (tilF b) x)]) ∧ Below w.heap.size w w' := by
  refine enter 36 Try.func68 (by kernel_rfl) fun hA => ?_
  refine runS hA 15 [.k 0, .k 1] xn on (by kernel_rfl) fun w1 hA => ?_
  refine callB hA [] on (has_any w1 B A2 m c2 b.scr x.first (h.scr.below hA.below hB) (Nat.le_trans hB hA.size)) (by kernel_rfl) fun w2 hb2 hA => ?_
  by_cases h1 : x.first ∈ b.scr
  case pos =>
    refine revals hA (rc 10 (show .bool (decide (x.first ∈ b.scr)) = .bool true by rw [decide_eq_true h1]) rn) (by kernel_rfl) fun hA => ?_
    have hor : x.first ∈ b.scr ∨ x.second ∈ b.scr := .inl h1
    refine runS hA 19 (List.replicate 6 (.g false) ++ [.k 0]) xn (oc (rfl : Value.bool false = .bool false) (oc (rfl : Value.bool false = .bool false) (oc (rfl : Value.bool false = .bool false) (oc (rfl : Value.bool false = .bool false) (oc (rfl : Value.bool false = .bool false) (oc (rfl : Value.bool false = .bool false) on)))))) (by kernel_rfl) fun w3 hA => ?_
    refine callB hA [] on (alone_any w3 b.kind) (by kernel_rfl) fun w4 hb4 hA => ?_
    by_cases hal : b.kind = 0 ∨ b.kind = 1
    case neg =>
      refine revals hA (rc 27 (show .bool (decide (b.kind = 0 ∨ b.kind = 1)) = .bool false by rw [decide_eq_false hal]) rn) (by kernel_rfl) fun hA => ?_
      refine runS hA 17 [.g false, .g false, .k 2, .k 2] xn (oc (rfl : Value.bool false = .bool false) (oc (rfl : Value.bool false = .bool false) on)) (by kernel_rfl) fun w5 hA => ?_
      have ho := on_no V hx hor (fun h9 => hal h9.1)
      exact ret (v := .tuple #[.agg #[.int .i64 0, .int .i64 0], .bool false]) hA [.k 2, .k 2] (by kernel_rfl) ⟨by rw [ho.1, ho.2], hA.below⟩
    case pos =>
      refine revals hA (rc 27 (show .bool (decide (b.kind = 0 ∨ b.kind = 1)) = .bool true by rw [decide_eq_true hal]) rn) (by kernel_rfl) fun hA => ?_
      refine runS hA 3 [.g true, .g true, .k 0] xn (oc (rfl : Value.bool true = .bool true) (oc (rfl : Value.bool true = .bool true) on)) (by kernel_rfl) fun w5 hA => ?_
      by_cases hfv : b.fav = true
      case neg =>
        refine revals hA (rc 30 (show .bool b.fav = .bool false by rw [show b.fav = false by simpa using hfv]) rn) (by kernel_rfl) fun hA => ?_
        refine runS hA 14 [.k 2, .k 2] xn on (by kernel_rfl) fun w6 hA => ?_
        have ho := on_no V hx hor (fun h9 => hfv h9.2)
        exact ret (v := .tuple #[.agg #[.int .i64 0, .int .i64 0], .bool false]) hA [.k 2, .k 2] (by kernel_rfl) ⟨by rw [ho.1, ho.2], hA.below⟩
      case pos =>
        refine revals hA (rc 30 (show .bool b.fav = .bool true by rw [hfv]) rn) (by kernel_rfl) fun hA => ?_
        refine runS hA 7 (List.replicate 8 (.k 0)) xn on (by kernel_rfl) fun w6 hA => ?_
        refine callB hA [] on (favouriteOf_any w6 B b A n c A2 m c2 (h.below hA.below hB) (Nat.le_trans hB hA.size) V) (by kernel_rfl) fun w7 hb7 hA => ?_
        refine runS hA 7 [.k 2, .k 2] xn on (by kernel_rfl) fun w8 hA => ?_
        have ho := on_heir V hx hor hal hfv
        exact ret (v := .tuple #[.agg #[.int .i64 (favF b), .int .i64 (-1)], .bool true]) hA [.k 2, .k 2] (by kernel_rfl) ⟨by rw [ho.1, ho.2], hA.below⟩
  case neg =>
    refine revals hA (rc 10 (show .bool (decide (x.first ∈ b.scr)) = .bool false by rw [decide_eq_false h1]) rn) (by kernel_rfl) fun hA => ?_
    refine runS hA 6 [.g true, .g true, .k 0, .g true, .g true, .k 1] xn (oc (rfl : Value.bool true = .bool true) (oc (rfl : Value.bool true = .bool true) (oc (rfl : Value.bool true = .bool true) (oc (rfl : Value.bool true = .bool true) on)))) (by kernel_rfl) fun w3 hA => ?_
    refine callB hA [] on (has_any w3 B A2 m c2 b.scr x.second (h.scr.below hA.below hB) (Nat.le_trans hB hA.size)) (by kernel_rfl) fun w4 hb4 hA => ?_
    by_cases h2 : x.second ∈ b.scr
    case pos =>
      refine revals hA (rc 17 (show .bool (decide (x.second ∈ b.scr)) = .bool true by rw [decide_eq_true h2]) rn) (by kernel_rfl) fun hA => ?_
      have hor : x.first ∈ b.scr ∨ x.second ∈ b.scr := .inr h2
      refine runS hA 12 [.g true, .k 0] xn (oc (rfl : Value.bool true = .bool true) on) (by kernel_rfl) fun w5 hA => ?_
      refine callB hA [] on (alone_any w5 b.kind) (by kernel_rfl) fun w6 hb6 hA => ?_
      by_cases hal : b.kind = 0 ∨ b.kind = 1
      case neg =>
        refine revals hA (rc 27 (show .bool (decide (b.kind = 0 ∨ b.kind = 1)) = .bool false by rw [decide_eq_false hal]) rn) (by kernel_rfl) fun hA => ?_
        refine runS hA 17 [.g false, .g false, .k 2, .k 2] xn (oc (rfl : Value.bool false = .bool false) (oc (rfl : Value.bool false = .bool false) on)) (by kernel_rfl) fun w7 hA => ?_
        have ho := on_no V hx hor (fun h9 => hal h9.1)
        exact ret (v := .tuple #[.agg #[.int .i64 0, .int .i64 0], .bool false]) hA [.k 2, .k 2] (by kernel_rfl) ⟨by rw [ho.1, ho.2], hA.below⟩
      case pos =>
        refine revals hA (rc 27 (show .bool (decide (b.kind = 0 ∨ b.kind = 1)) = .bool true by rw [decide_eq_true hal]) rn) (by kernel_rfl) fun hA => ?_
        refine runS hA 3 [.g true, .g true, .k 0] xn (oc (rfl : Value.bool true = .bool true) (oc (rfl : Value.bool true = .bool true) on)) (by kernel_rfl) fun w7 hA => ?_
        by_cases hfv : b.fav = true
        case neg =>
          refine revals hA (rc 30 (show .bool b.fav = .bool false by rw [show b.fav = false by simpa using hfv]) rn) (by kernel_rfl) fun hA => ?_
          refine runS hA 14 [.k 2, .k 2] xn on (by kernel_rfl) fun w8 hA => ?_
          have ho := on_no V hx hor (fun h9 => hfv h9.2)
          exact ret (v := .tuple #[.agg #[.int .i64 0, .int .i64 0], .bool false]) hA [.k 2, .k 2] (by kernel_rfl) ⟨by rw [ho.1, ho.2], hA.below⟩
        case pos =>
          refine revals hA (rc 30 (show .bool b.fav = .bool true by rw [hfv]) rn) (by kernel_rfl) fun hA => ?_
          refine runS hA 7 (List.replicate 8 (.k 0)) xn on (by kernel_rfl) fun w8 hA => ?_
          refine callB hA [] on (favouriteOf_any w8 B b A n c A2 m c2 (h.below hA.below hB) (Nat.le_trans hB hA.size) V) (by kernel_rfl) fun w9 hb9 hA => ?_
          refine runS hA 7 [.k 2, .k 2] xn on (by kernel_rfl) fun w10 hA => ?_
          have ho := on_heir V hx hor hal hfv
          exact ret (v := .tuple #[.agg #[.int .i64 (favF b), .int .i64 (-1)], .bool true]) hA [.k 2, .k 2] (by kernel_rfl) ⟨by rw [ho.1, ho.2], hA.below⟩
    case neg =>
      refine revals hA (rc 17 (show .bool (decide (x.second ∈ b.scr)) = .bool false by rw [decide_eq_false h2]) rn) (by kernel_rfl) fun hA => ?_
      refine runS hA 18 [.g true, .k 1, .k 1, .k 2, .k 2] xn (oc (rfl : Value.bool true = .bool true) on) (by kernel_rfl) fun w5 hA => ?_
      have ho := on_yes h1 h2
      exact ret (v := .tuple #[.agg #[.int .i64 x.first, .int .i64 x.second], .bool true]) hA [.k 2, .k 2] (by kernel_rfl) ⟨by rw [ho.1, ho.2], hA.below⟩
set_option maxHeartbeats 1000000 in
set_option maxRecDepth 20000 in
theorem rNet_any (w : World) (B : Nat) (b : Bk) (A : Option Addr) (n c : Nat) (A2 : Option Addr) (m c2 : Nat) (h : BkAt w B b A n c A2 m c2) (hB : B ≤ w.heap.size) (V : ValidB b) : Calls Try.prog 40 #[bkV b A n c A2 m c2] w fun e w' => e = .returned (.agg (accC (netA b))) ∧ Below w.heap.size w w' := by
  have hbl := h.bets.1
  have hv2 := V.len
  have hcar := V.car
  have hdut := V.dut
  refine enter 74 Try.func40 (by kernel_rfl) fun hA => ?_
  refine runS hA 22 ([.k 0] ++ List.replicate 6 (.k 2)) xn on (by kernel_rfl) fun w1 hA => ?_
  have hz1 : (sumF allB (b.bets.take 0) * 100 + b.car) = b.car := by rw [List.take_zero]; simp [sumF]
  have hz2 : (sumF (notOn (tilF b)) (b.bets.take 0) * 100) = 0 := by rw [List.take_zero]; simp [sumF]
  have hAk9 : At w w1 [⟨w.heap.size, .cells #[.int .i64 b.kind, .int .i64 b.runners, .slice A n c, .slice A2 m c2, .bool b.fav, .int .i64 b.car, .int .i64 b.dut, .int .i64 b.stp] 25 (0, 0)⟩, ⟨w.heap.size + 1, .cells #[.int .i64 0, .int .i64 0, .int .i64 0, .int .i64 0, .int .i64 0, .int .i64 0] 47 (0, 0)⟩, ⟨w.heap.size + 2, .cells #[.int .i64 (sumF allB (b.bets.take 0) * 100 + b.car), .int .i64 (sumF (notOn (tilF b)) (b.bets.take 0) * 100), .int .i64 0, .int .i64 0, .int .i64 0, .int .i64 0] 47 (0, 0)⟩] [] w1.heap.size := by rw [hz1, hz2]; exact (hA.atK [⟨w.heap.size, .cells #[.int .i64 b.kind, .int .i64 b.runners, .slice A n c, .slice A2 m c2, .bool b.fav, .int .i64 b.car, .int .i64 b.dut, .int .i64 b.stp] 25 (0, 0)⟩, ⟨w.heap.size + 1, .cells #[.int .i64 0, .int .i64 0, .int .i64 0, .int .i64 0, .int .i64 0, .int .i64 0] 47 (0, 0)⟩, ⟨w.heap.size + 2, .cells #[.int .i64 b.car, .int .i64 0, .int .i64 0, .int .i64 0, .int .i64 0, .int .i64 0] 47 (0, 0)⟩] (by kernel_rfl)).resize
  refine reknow ⟨[⟨w.heap.size, .cells #[.int .i64 b.kind, .int .i64 b.runners, .slice A n c, .slice A2 m c2, .bool b.fav, .int .i64 b.car, .int .i64 b.dut, .int .i64 b.stp] 25 (0, 0)⟩, ⟨w.heap.size + 1, .cells #[.int .i64 0, .int .i64 0, .int .i64 0, .int .i64 0, .int .i64 0, .int .i64 0] 47 (0, 0)⟩, ⟨w.heap.size + 2, .cells #[.int .i64 (sumF allB (b.bets.take 0) * 100 + b.car), .int .i64 (sumF (notOn (tilF b)) (b.bets.take 0) * 100), .int .i64 0, .int .i64 0, .int .i64 0, .int .i64 0] 47 (0, 0)⟩], w1.heap.size, [], [], [], [], []⟩ hAk9 (Nat.zero_le _) fun hA => ?_
  refine loop (γ := Nat) (fun i => [(1, .pointer (some ⟨w.heap.size, 0, none⟩)), (2, .pointer (some ⟨w.heap.size + 1, 0, none⟩)), (3, .pointer (some ⟨w.heap.size + 2, 0, none⟩)), (4, .int .i64 (i : Int))]) (fun i => [⟨w.heap.size, .cells #[.int .i64 b.kind, .int .i64 b.runners, .slice A n c, .slice A2 m c2, .bool b.fav, .int .i64 b.car, .int .i64 b.dut, .int .i64 b.stp] 25 (0, 0)⟩, ⟨w.heap.size + 1, .cells #[.int .i64 0, .int .i64 0, .int .i64 0, .int .i64 0, .int .i64 0, .int .i64 0] 47 (0, 0)⟩, ⟨w.heap.size + 2, .cells #[.int .i64 (sumF allB (b.bets.take i) * 100 + b.car), .int .i64 (sumF (notOn (tilF b)) (b.bets.take i) * 100), .int .i64 0, .int .i64 0, .int .i64 0, .int .i64 0] 47 (0, 0)⟩]) (fun _ => []) (fun g i wr => i ≤ n ∧ g = n - i) n 0 [true, true, true] hA (by kernel_rfl) (⟨Nat.zero_le _, rfl⟩) ?_
  rintro _ i wr ⟨hi, rfl⟩ J hJ hA
  have hs1 := sumF_bound allB (b.bets.take i) (fun x hx => units_ok V x (List.mem_of_mem_take hx))
  have hs2 := sumF_bound (notOn (tilF b)) (b.bets.take i) (fun x hx => units_ok V x (List.mem_of_mem_take hx))
  have htl : (b.bets.take i).length ≤ 100 := by rw [List.length_take]; omega
  have hs3 := sumF_le (notOn (tilF b)) allB (b.bets.take i) (fun x hx => (units_ok V x (List.mem_of_mem_take hx)).1) (fun x _ => rfl)
  by_cases hlt : i < n
  case neg =>
    refine runS hA 13 [.k 0, .b false] xn (oc (dec_f (show ¬ (((i : Int) : Int) < (n : Int)) by omega)) on) (by kernel_rfl) fun w2 hA => ?_
    refine leave hA (by kernel_rfl) fun hA => ?_
    have hib : b.bets.take i = b.bets := List.take_of_length_le (by omega)
    have hq9 : ∃ U, U = sumF allB (b.bets.take i) := ⟨_, rfl⟩
    obtain ⟨U, hU⟩ := hq9
    have hq9 : ∃ K, K = sumF (notOn (tilF b)) (b.bets.take i) := ⟨_, rfl⟩
    obtain ⟨K, hK⟩ := hq9
    rw [← hU] at hs1 hs3
    rw [← hK] at hs2 hs3
    have hd1 : 0 ≤ (U - K) * 100 * b.dut := Int.mul_nonneg (by omega) hdut.1
    have hd2 : (U - K) * 100 * b.dut ≤ 10000000 * 500 := Int.mul_le_mul (by omega) (by omega) (by omega) (by omega)
    have ha1 : (tilF b).a.inn = U * 100 + b.car := by rw [hU, hib]; rfl
    have ha2 : (tilF b).a.back = K * 100 := by rw [hK, hib]; rfl
    have ha3 : (tilF b).a.duty = ((U - K) * 100 * b.dut).tdiv 1000 := by rw [hU, hK, hib]; rfl
    have hq0 : ((U - K) * 100 * b.dut).tdiv 1000 = ((U - K) * 100 * b.dut) / 1000 := Int.tdiv_eq_ediv_of_nonneg hd1
    refine runS hA 15 [.k 2, .k 2, .k 0, .k 0] xn on (by kernel_rfl) fun w3 hA => ?_
    have hw1 : IntKind.i64.wrap ((sumF allB (b.bets.take i) * 100 + b.car) - (sumF (notOn (tilF b)) (b.bets.take i) * 100)) = U * 100 + b.car - K * 100 := by rw [← hU, ← hK, IntKind.wrap_i64]; omega
    have hw2 : IntKind.i64.wrap (U * 100 + b.car - K * 100 - b.car) = (U - K) * 100 := by rw [IntKind.wrap_i64]; omega
    refine revals hA (rc 61 (show .int .i64 (IntKind.i64.wrap ((IntKind.i64.wrap ((IntKind.i64.wrap ((sumF allB (b.bets.take i) * 100 + b.car) - (sumF (notOn (tilF b)) (b.bets.take i) * 100))) - b.car)) * b.dut)) = .int .i64 ((U - K) * 100 * b.dut) by rw [hw1, hw2, IntKind.wrap_i64]; congr 1; omega) rn) (by kernel_rfl) fun hA => ?_
    refine runS hA 1 [] xn on (by kernel_rfl) fun w4 hA => ?_
    refine revals hA (rc 62 (show .int .i64 (IntKind.i64.wrap (((U - K) * 100 * b.dut).tdiv 1000)) = .int .i64 ((tilF b).a.duty) by rw [ha3, IntKind.wrap_i64]; congr 1; omega) rn) (by kernel_rfl) fun hA => ?_
    refine runS hA 14 (List.replicate 4 (.k 2)) xn on (by kernel_rfl) fun w5 hA => ?_
    refine revals hA (rc 71 (show .int .i64 (IntKind.i64.wrap ((IntKind.i64.wrap ((sumF allB (b.bets.take i) * 100 + b.car) - (sumF (notOn (tilF b)) (b.bets.take i) * 100))) - ((tilF b).a.duty))) = .int .i64 (netF (tilF b).a) by rw [hw1]; unfold netF; rw [ha1, ha2, ha3]; simp only [IntKind.wrap_i64]; congr 1; omega) rn) (by kernel_rfl) fun hA => ?_
    refine runS hA 11 (List.replicate 7 (.k 2) ++ List.replicate 6 (.k 1)) xn on (by kernel_rfl) fun w6 hA => ?_
    exact ret (v := .agg #[.int .i64 (sumF allB (b.bets.take i) * 100 + b.car), .int .i64 (sumF (notOn (tilF b)) (b.bets.take i) * 100), .int .i64 ((tilF b).a.duty), .int .i64 0, .int .i64 0, .int .i64 (netF (tilF b).a)]) hA (List.replicate 6 (.k 1)) (by kernel_rfl) ⟨by unfold netA; rw [ha1, ha2, ← hU, ← hK], hA.below⟩
  case pos =>
    have hq9 := h.bets.at hlt
    obtain ⟨b1, off, rfl, hb1, k0, k1, k2⟩ := hq9
    have hlb1 : b1 < w.heap.size := Nat.lt_of_lt_of_le hb1 hB
    have hxm : (b.bets[i]?.getD noBet) ∈ b.bets := get_mem (by omega)
    have hux := units_ok V _ hxm
    have ht1 := sumF_take allB b.bets (k := i) (x := (b.bets[i]?.getD noBet)) (by omega) rfl
    rw [if_pos (show allB (b.bets[i]?.getD noBet) = true from rfl)] at ht1
    have ht2 := sumF_take (notOn (tilF b)) b.bets (k := i) (x := (b.bets[i]?.getD noBet)) (by omega) rfl
    refine runS hA 16 [.k 0, .b true] xn (oc (dec_t (show (((i : Int) : Int) < (n : Int)) by omega)) on) (by kernel_rfl) fun w2 hA => ?_
    refine draw hA [true, true, true] [0, 1, 2, 3, 4, 5, 6, 7, 8, 9, 10] (by kernel_rfl) (by kernel_rfl) fun hA => ?_
    refine runS hA 10 [.t 0, .t 1, .k 2, .t 2, .t 3, .k 0, .t 4, .t 5, .i, .t 6, .t 7, .x (.int .i64 ((b.bets[i]?.getD noBet).units)), .t 8, .t 9] (xc (a := ⟨b1, off + i * 3 + 2, none⟩) ⟨hlb1, k2⟩ xn) (oc (show (0 : Int) ≤ ((i : Int) : Int) ∧ ((i : Int) : Int) < (n : Int) by omega) on) (by kernel_rfl) fun w3 hA => ?_
    refine revals hA (rc 26 (show .int .i64 (IntKind.i64.wrap ((sumF allB (b.bets.take i) * 100 + b.car) + (IntKind.i64.wrap (100 * ((b.bets[i]?.getD noBet).units))))) = .int .i64 (sumF allB (b.bets.take (i + 1)) * 100 + b.car) by rw [ht1]; simp only [IntKind.wrap_i64]; congr 1; omega) rn) (by kernel_rfl) fun hA => ?_
    refine runS hA 6 [.t 10, .b false, .k 2] xn on (by kernel_rfl) fun w4 hA => ?_
    refine draw hA [true, true, true] [0, 1, 2, 3, 4, 5, 6, 7, 8, 9, 10, 11, 12] (by kernel_rfl) (by kernel_rfl) fun hA => ?_
    refine runS hA 6 ([.t 0] ++ List.replicate 8 (.k 0) ++ [.t 1, .t 2, .k 0, .t 3, .t 4, .i, .t 5, .x (.int .i64 ((b.bets[i]?.getD noBet).first)), .x (.int .i64 ((b.bets[i]?.getD noBet).second)), .x (.int .i64 ((b.bets[i]?.getD noBet).units))]) (xc (a := ⟨b1, off + i * 3, none⟩) ⟨hlb1, k0⟩ (xc (a := ⟨b1, off + i * 3 + 1, none⟩) ⟨hlb1, k1⟩ (xc (a := ⟨b1, off + i * 3 + 2, none⟩) ⟨hlb1, k2⟩ xn))) (oc (show (0 : Int) ≤ ((i : Int) : Int) ∧ ((i : Int) : Int) < (n : Int) by omega) on) (by kernel_rfl) fun w5 hA => ?_
    have hA0NO := hA
    refine latK hA0NO [6, 7, 8, 9, 10, 11, 12] (γ := Nat) (fun bNO10 => [(1, .pointer (some ⟨w.heap.size, 0, none⟩)), (2, .pointer (some ⟨w.heap.size + 1, 0, none⟩)), (3, .pointer (some ⟨w.heap.size + 2, 0, none⟩)), (4, .int .i64 (i : Int)), (6, .bool (okT (tilF b) (b.bets[i]?.getD noBet)))]) (fun bNO10 => [⟨w.heap.size, .cells #[.int .i64 b.kind, .int .i64 b.runners, .slice (some ⟨b1, off, none⟩) n c, .slice A2 m c2, .bool b.fav, .int .i64 b.car, .int .i64 b.dut, .int .i64 b.stp] 25 (0, 0)⟩, ⟨w.heap.size + 1, .cells #[.int .i64 0, .int .i64 0, .int .i64 0, .int .i64 0, .int .i64 0, .int .i64 0] 47 (0, 0)⟩, ⟨w.heap.size + 2, .cells #[.int .i64 (sumF allB (b.bets.take (i + 1)) * 100 + b.car), .int .i64 (sumF (notOn (tilF b)) (b.bets.take i) * 100), .int .i64 0, .int .i64 0, .int .i64 0, .int .i64 0] 47 (0, 0)⟩]) (fun bNO10 => []) (fun bNO10 _ => True) (fun hNO6_10_11 => ?_) ?_
    ·
      refine latS hA0NO [6, 7, 8, 9, 10] (γ := Nat) (fun bNO10 => [(1, .pointer (some ⟨w.heap.size, 0, none⟩)), (2, .pointer (some ⟨w.heap.size + 1, 0, none⟩)), (3, .pointer (some ⟨w.heap.size + 2, 0, none⟩)), (4, .int .i64 (i : Int)), (5, .pointer (some ⟨bNO10, 0, none⟩)), (28, .tuple #[.agg #[.int .i64 ((onP b (b.bets[i]?.getD noBet)).1), .int .i64 ((onP b (b.bets[i]?.getD noBet)).2)], .bool (okT (tilF b) (b.bets[i]?.getD noBet))]), (29, .agg #[.int .i64 b.kind, .int .i64 b.runners, .slice (some ⟨b1, off, none⟩) n c, .slice A2 m c2, .bool b.fav, .int .i64 b.car, .int .i64 b.dut, .int .i64 b.stp]), (30, .pointer (some ⟨w.heap.size, 2, none⟩)), (31, .slice (some ⟨b1, off, none⟩) n c), (32, .int .i64 (i : Int)), (33, .pointer (some ⟨b1, off + i * 3, none⟩)), (34, .agg #[.int .i64 ((b.bets[i]?.getD noBet).first), .int .i64 ((b.bets[i]?.getD noBet).second), .int .i64 ((b.bets[i]?.getD noBet).units)]), (35, .tuple #[.agg #[.int .i64 ((onP b (b.bets[i]?.getD noBet)).1), .int .i64 ((onP b (b.bets[i]?.getD noBet)).2)], .bool (okT (tilF b) (b.bets[i]?.getD noBet))]), (36, .agg #[.int .i64 ((onP b (b.bets[i]?.getD noBet)).1), .int .i64 ((onP b (b.bets[i]?.getD noBet)).2)]), (37, .bool (okT (tilF b) (b.bets[i]?.getD noBet)))]) (fun bNO10 => [⟨w.heap.size, .cells #[.int .i64 b.kind, .int .i64 b.runners, .slice (some ⟨b1, off, none⟩) n c, .slice A2 m c2, .bool b.fav, .int .i64 b.car, .int .i64 b.dut, .int .i64 b.stp] 25 (0, 0)⟩, ⟨w.heap.size + 1, .cells #[.int .i64 0, .int .i64 0, .int .i64 0, .int .i64 0, .int .i64 0, .int .i64 0] 47 (0, 0)⟩, ⟨w.heap.size + 2, .cells #[.int .i64 (sumF allB (b.bets.take (i + 1)) * 100 + b.car), .int .i64 (sumF (notOn (tilF b)) (b.bets.take i) * 100), .int .i64 0, .int .i64 0, .int .i64 0, .int .i64 0] 47 (0, 0)⟩, ⟨bNO10, .cells #[.int .i64 0, .int .i64 0] 69 (0, 0)⟩]) (fun bNO10 => []) (fun bNO10 _ => True) ?_ (fun hNO6_10 => ?_)
      · rintro bNO10 wl6 _ hA
        refine runS hA 2 [.h 11, .k 3, .k 3, .t 12] xn on (by kernel_rfl) fun w107 hA => ?_
        exact joinE hNO6_10_11 bNO10 trivial [0, 1, 2] hA rfl (by kernel_rfl) (by decide)
      refine latS hA0NO [10] (γ := Nat) (fun bNO10 => [(1, .pointer (some ⟨w.heap.size, 0, none⟩)), (2, .pointer (some ⟨w.heap.size + 1, 0, none⟩)), (3, .pointer (some ⟨w.heap.size + 2, 0, none⟩)), (4, .int .i64 (i : Int)), (5, .pointer (some ⟨bNO10, 0, none⟩)), (29, .agg #[.int .i64 b.kind, .int .i64 b.runners, .slice (some ⟨b1, off, none⟩) n c, .slice A2 m c2, .bool b.fav, .int .i64 b.car, .int .i64 b.dut, .int .i64 b.stp]), (30, .pointer (some ⟨w.heap.size, 2, none⟩)), (31, .slice (some ⟨b1, off, none⟩) n c), (32, .int .i64 (i : Int)), (33, .pointer (some ⟨b1, off + i * 3, none⟩)), (34, .agg #[.int .i64 ((b.bets[i]?.getD noBet).first), .int .i64 ((b.bets[i]?.getD noBet).second), .int .i64 ((b.bets[i]?.getD noBet).units)])]) (fun bNO10 => [⟨w.heap.size, .cells #[.int .i64 b.kind, .int .i64 b.runners, .slice (some ⟨b1, off, none⟩) n c, .slice A2 m c2, .bool b.fav, .int .i64 b.car, .int .i64 b.dut, .int .i64 b.stp] 25 (0, 0)⟩, ⟨w.heap.size + 1, .cells #[.int .i64 0, .int .i64 0, .int .i64 0, .int .i64 0, .int .i64 0, .int .i64 0] 47 (0, 0)⟩, ⟨w.heap.size + 2, .cells #[.int .i64 (sumF allB (b.bets.take (i + 1)) * 100 + b.car), .int .i64 (sumF (notOn (tilF b)) (b.bets.take i) * 100), .int .i64 0, .int .i64 0, .int .i64 0, .int .i64 0] 47 (0, 0)⟩, ⟨bNO10, .cells #[.int .i64 0, .int .i64 0] 69 (0, 0)⟩]) (fun bNO10 => []) (fun bNO10 _ => True) ?_ (fun hNO10 => ?_)
      · rintro bNO10 wl7 _ hA
        refine callB hA [] on (rOn_any wl7 B b (some ⟨b1, off, none⟩) n c A2 m c2 (b.bets[i]?.getD noBet) (h.below hA.below hB) (Nat.le_trans hB hA.size) V hxm) (by kernel_rfl) fun w108 hb108 hA => ?_
        refine runS hA 3 [.t 7, .t 8, .t 9] xn on (by kernel_rfl) fun w109 hA => ?_
        exact joinE hNO6_10 bNO10 trivial [0, 1, 2, 3] hA rfl (by kernel_rfl) (by decide)
      refine latS hA0NO [6, 7, 8, 9] (γ := Unit) (fun _ => [(1, .pointer (some ⟨w.heap.size, 0, none⟩)), (2, .pointer (some ⟨w.heap.size + 1, 0, none⟩)), (3, .pointer (some ⟨w.heap.size + 2, 0, none⟩)), (4, .int .i64 (i : Int)), (28, .tuple #[.agg #[.int .i64 ((onP b (b.bets[i]?.getD noBet)).1), .int .i64 ((onP b (b.bets[i]?.getD noBet)).2)], .bool (okT (tilF b) (b.bets[i]?.getD noBet))]), (29, .agg #[.int .i64 b.kind, .int .i64 b.runners, .slice (some ⟨b1, off, none⟩) n c, .slice A2 m c2, .bool b.fav, .int .i64 b.car, .int .i64 b.dut, .int .i64 b.stp]), (30, .pointer (some ⟨w.heap.size, 2, none⟩)), (31, .slice (some ⟨b1, off, none⟩) n c), (32, .int .i64 (i : Int)), (33, .pointer (some ⟨b1, off + i * 3, none⟩)), (34, .agg #[.int .i64 ((b.bets[i]?.getD noBet).first), .int .i64 ((b.bets[i]?.getD noBet).second), .int .i64 ((b.bets[i]?.getD noBet).units)]), (35, .tuple #[.agg #[.int .i64 ((onP b (b.bets[i]?.getD noBet)).1), .int .i64 ((onP b (b.bets[i]?.getD noBet)).2)], .bool (okT (tilF b) (b.bets[i]?.getD noBet))]), (36, .agg #[.int .i64 ((onP b (b.bets[i]?.getD noBet)).1), .int .i64 ((onP b (b.bets[i]?.getD noBet)).2)]), (37, .bool (okT (tilF b) (b.bets[i]?.getD noBet)))]) (fun _ => [⟨w.heap.size, .cells #[.int .i64 b.kind, .int .i64 b.runners, .slice (some ⟨b1, off, none⟩) n c, .slice A2 m c2, .bool b.fav, .int .i64 b.car, .int .i64 b.dut, .int .i64 b.stp] 25 (0, 0)⟩, ⟨w.heap.size + 1, .cells #[.int .i64 0, .int .i64 0, .int .i64 0, .int .i64 0, .int .i64 0, .int .i64 0] 47 (0, 0)⟩, ⟨w.heap.size + 2, .cells #[.int .i64 (sumF allB (b.bets.take (i + 1)) * 100 + b.car), .int .i64 (sumF (notOn (tilF b)) (b.bets.take i) * 100), .int .i64 0, .int .i64 0, .int .i64 0, .int .i64 0] 47 (0, 0)⟩]) (fun _ => []) (fun _ _ => True) ?_ (fun hNO6 => ?_)
      · rintro _ wl8 _ hA
        refine runS hA 1 [.h 10] xn on (by kernel_rfl) fun w109 hA => ?_
        exact joinE hNO6_10 wl8.heap.size trivial [0, 1, 2, 3] hA rfl (by kernel_rfl) (by decide)
      replace hA := hA0NO
      refine manyS hA 6 [10] (by kernel_rfl) ⟨fun hA => ?_, fun hA => ?_, trivial⟩
      ·
        refine callB hA [] on (rOn_any w5 B b (some ⟨b1, off, none⟩) n c A2 m c2 (b.bets[i]?.getD noBet) (h.below hA.below hB) (Nat.le_trans hB hA.size) V hxm) (by kernel_rfl) fun w9 hb9 hA => ?_
        refine runS hA 3 [.t 7, .t 8, .t 9] xn on (by kernel_rfl) fun w10 hA => ?_
        exact joinE hNO6 () trivial [0, 1, 2] hA rfl (by kernel_rfl) (by decide)
      ·
        refine runS hA 1 [] xn on (by kernel_rfl) fun w9 hA => ?_
        exact joinE hNO10 wr.heap.size trivial [0, 1, 2, 3] hA rfl (by kernel_rfl) (by decide)
    rintro bNO10 w58 _ hA
    refine runS hA 5 [.b true] xn on (by kernel_rfl) fun w59 hA => ?_
    have hq9 := Bool.eq_false_or_eq_true (okT (tilF b) (b.bets[i]?.getD noBet))
    rcases hq9 with ho | ho
    ·
      refine revals hA (rc 38 (show .bool (okT (tilF b) (b.bets[i]?.getD noBet)) = .bool true by rw [ho]) rn) (by kernel_rfl) fun hA => ?_
      refine runS hA 12 [] xn on (by kernel_rfl) fun w60 hA => ?_
      rw [if_neg (by unfold notOn; rw [ho]; decide), Int.add_zero] at ht2
      have hAk9 : At w w60 [⟨w.heap.size, .cells #[.int .i64 b.kind, .int .i64 b.runners, .slice (some ⟨b1, off, none⟩) n c, .slice A2 m c2, .bool b.fav, .int .i64 b.car, .int .i64 b.dut, .int .i64 b.stp] 25 (0, 0)⟩, ⟨w.heap.size + 1, .cells #[.int .i64 0, .int .i64 0, .int .i64 0, .int .i64 0, .int .i64 0, .int .i64 0] 47 (0, 0)⟩, ⟨w.heap.size + 2, .cells #[.int .i64 (sumF allB (b.bets.take (i + 1)) * 100 + b.car), .int .i64 (sumF (notOn (tilF b)) (b.bets.take (i + 1)) * 100), .int .i64 0, .int .i64 0, .int .i64 0, .int .i64 0] 47 (0, 0)⟩] [] w60.heap.size := by rw [ht2]; exact (hA.atK [⟨w.heap.size, .cells #[.int .i64 b.kind, .int .i64 b.runners, .slice (some ⟨b1, off, none⟩) n c, .slice A2 m c2, .bool b.fav, .int .i64 b.car, .int .i64 b.dut, .int .i64 b.stp] 25 (0, 0)⟩, ⟨w.heap.size + 1, .cells #[.int .i64 0, .int .i64 0, .int .i64 0, .int .i64 0, .int .i64 0, .int .i64 0] 47 (0, 0)⟩, ⟨w.heap.size + 2, .cells #[.int .i64 (sumF allB (b.bets.take (i + 1)) * 100 + b.car), .int .i64 (sumF (notOn (tilF b)) (b.bets.take i) * 100), .int .i64 0, .int .i64 0, .int .i64 0, .int .i64 0] 47 (0, 0)⟩] (by kernel_rfl)).resize
      refine reknow ⟨[⟨w.heap.size, .cells #[.int .i64 b.kind, .int .i64 b.runners, .slice (some ⟨b1, off, none⟩) n c, .slice A2 m c2, .bool b.fav, .int .i64 b.car, .int .i64 b.dut, .int .i64 b.stp] 25 (0, 0)⟩, ⟨w.heap.size + 1, .cells #[.int .i64 0, .int .i64 0, .int .i64 0, .int .i64 0, .int .i64 0, .int .i64 0] 47 (0, 0)⟩, ⟨w.heap.size + 2, .cells #[.int .i64 (sumF allB (b.bets.take (i + 1)) * 100 + b.car), .int .i64 (sumF (notOn (tilF b)) (b.bets.take (i + 1)) * 100), .int .i64 0, .int .i64 0, .int .i64 0, .int .i64 0] 47 (0, 0)⟩], w60.heap.size, [], [], [], [], []⟩ hAk9 (Nat.zero_le _) fun hA => ?_
      refine revals hA (rc 4 (wr64 (x := (i : Int) + 1) (y := ((i + 1 : Nat) : Int)) (by omega) (by omega)) rn) (by kernel_rfl) fun hA => ?_
      exact again hJ (n - (i + 1)) (i + 1) [true, true, true] hA (by omega) (by kernel_rfl) (⟨by omega, rfl⟩)
    ·
      refine revals hA (rc 38 (show .bool (okT (tilF b) (b.bets[i]?.getD noBet)) = .bool false by rw [ho]) rn) (by kernel_rfl) fun hA => ?_
      refine runS hA 4 [] xn on (by kernel_rfl) fun w60 hA => ?_
      rw [if_pos (by unfold notOn; rw [ho]; rfl)] at ht2
      refine draw hA [true, true, true] [0, 1, 2, 3, 4, 5, 6, 7, 8, 9, 10] (by kernel_rfl) (by kernel_rfl) fun hA => ?_
      refine runS hA 10 [.t 0, .t 1, .k 2, .t 2, .t 3, .k 0, .t 4, .t 5, .i, .t 6, .t 7, .x (.int .i64 ((b.bets[i]?.getD noBet).units)), .t 8, .t 9] (xc (a := ⟨b1, off + i * 3 + 2, none⟩) ⟨hlb1, k2⟩ xn) (oc (show (0 : Int) ≤ ((i : Int) : Int) ∧ ((i : Int) : Int) < (n : Int) by omega) on) (by kernel_rfl) fun w61 hA => ?_
      refine revals hA (rc 49 (show .int .i64 (IntKind.i64.wrap ((sumF (notOn (tilF b)) (b.bets.take i) * 100) + (IntKind.i64.wrap (100 * ((b.bets[i]?.getD noBet).units))))) = .int .i64 (sumF (notOn (tilF b)) (b.bets.take (i + 1)) * 100) by rw [ht2]; simp only [IntKind.wrap_i64]; congr 1; omega) rn) (by kernel_rfl) fun hA => ?_
      refine runS hA 11 [.t 10, .b false, .k 2] xn on (by kernel_rfl) fun w62 hA => ?_
      refine revals hA (rc 4 (wr64 (x := (i : Int) + 1) (y := ((i + 1 : Nat) : Int)) (by omega) (by omega)) rn) (by kernel_rfl) fun hA => ?_
      exact again hJ (n - (i + 1)) (i + 1) [true, true, true] hA (by omega) (by kernel_rfl) (⟨by omega, rfl⟩)
end Go.Proofs.Ytbahiemjaomdcaa
