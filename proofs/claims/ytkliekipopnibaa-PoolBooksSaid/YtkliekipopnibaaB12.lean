/- PoolBooks answers true whatever the book and the runner; the arguments read behind the call as they did. No condition. -/
import Derived.Test.YtkliekipopnibaaF11
import Derived.Test.YtkliekipopnibaaRows
import Derived.WalkKit
import Derived.ProofKit
import Derived.OpenShut
import Derived.Carry
import Derived.Deep.Slices
import Derived.ChangeSame

/- quinellaref03: Scratch. -/
namespace Go.Proofs.Ytkliekipopnibaa
open Go.RowKit Go.Shelf

theorem ints_append (xs ys : List Int) : ints (xs ++ ys) = ints xs ++ ints ys := by unfold ints; exact List.map_append
set_option maxHeartbeats 4000000 in
set_option maxRecDepth 20000 in
theorem rScratch_any (w : World) (B : Nat) (b : Bk) (A : Option Addr) (n c : Nat) (A2 : Option Addr) (m c2 : Nat) (r : Int) (h : BkAt w B b A n c A2 m c2) (hB : B ≤ w.heap.size) :
    Calls Try.prog 17 #[bkV b A n c A2 m c2, .int .i64 r] w fun e w' => ∃ A' c' A2' c2', e = .returned (.tuple #[bkV (scB' b r) A' (scB' b r).bets.length c' A2' (scB' b r).scr.length c2', .int .i64 (scE b r)]) ∧ Below w.heap.size w w' ∧ w'.ownsRow w.heap.size 53 3 (.slice A' (scB' b r).bets.length c') (scB' b r).bets.length (encB (scB' b r).bets) ∧ w'.ownsRow w.heap.size 3 1 (.slice A2' (scB' b r).scr.length c2') (scB' b r).scr.length (ints (scB' b r).scr) := by
  have hbl := h.bets.1
  have hxl := h.scr.1
  refine enter 65 Try.func17 (by kernel_rfl) fun hA => ?_
  refine runS hA 11 (List.replicate 8 (.k 0)) xn on (by kernel_rfl) fun w1 hA => ?_
  refine callB hA [] on (rcheckBook_any w1 B b A n c A2 m c2 (h.below hA.below hB) (Nat.le_trans hB hA.size)) (by kernel_rfl) fun w2 hb2 hA => ?_
  by_cases h0 : bookF b = 0
  case neg =>
    refine runS hA 8 ([.b true] ++ List.replicate 8 (.k 0)) xn (oc (ne_t h0) on) (by kernel_rfl) fun w3 hA => ?_
    refine callB hA [] on (rcheckBook_any w3 B b A n c A2 m c2 (h.below hA.below hB) (Nat.le_trans hB hA.size)) (by kernel_rfl) fun w4 hb4 hA => ?_
    refine runS hA 6 (List.replicate 8 (.k 1)) xn on (by kernel_rfl) fun w5 hA => ?_
    have he : scE b r = bookF b := by unfold scE; rw [if_neg h0]
    have hzb : scB' b r = zeroB := if_neg (by rw [he]; exact h0)
    exact ret (v := .tuple #[.agg #[.int .i64 0, .int .i64 0, .slice none 0 0, .slice none 0 0, .bool false, .int .i64 0, .int .i64 0, .int .i64 0], .int .i64 (bookF b)]) hA (List.replicate 8 (.k 1)) (by kernel_rfl) ⟨none, 0, none, 0, by rw [hzb, he]; rfl, hA.below, by rw [hzb]; exact ⟨rfl, .inl ⟨rfl, rfl⟩⟩, by rw [hzb]; exact ⟨rfl, .inl ⟨rfl, rfl⟩⟩⟩
  case pos =>
    have V := valid_of h0
    have hv1 := V.run
    have hv2 := V.len
    have hv3 := V.few
    have hrs := racL_scr V
    refine runS hA 12 [.b false, .t 0] xn (oc (ne_f h0) on) (by kernel_rfl) fun w3 hA => ?_
    by_cases ht0 : r < 0
    case pos =>
      refine runS hA 17 (List.replicate 4 (.g true) ++ List.replicate 8 (.k 1)) xn (oc (dec_t (show ((r : Int) < (0 : Int)) by omega)) (oc (rfl : Value.bool true = .bool true) (oc (rfl : Value.bool true = .bool true) (oc (rfl : Value.bool true = .bool true) on)))) (by kernel_rfl) fun w4 hA => ?_
      have he : scE b r = 3 := by unfold scE; rw [if_pos h0, if_pos (isR_false (by omega))]
      have hzb : scB' b r = zeroB := if_neg (by rw [he]; decide)
      exact ret (v := .tuple #[.agg #[.int .i64 0, .int .i64 0, .slice none 0 0, .slice none 0 0, .bool false, .int .i64 0, .int .i64 0, .int .i64 0], .int .i64 3]) hA (List.replicate 8 (.k 1)) (by kernel_rfl) ⟨none, 0, none, 0, by rw [hzb, he]; rfl, hA.below, by rw [hzb]; exact ⟨rfl, .inl ⟨rfl, rfl⟩⟩, by rw [hzb]; exact ⟨rfl, .inl ⟨rfl, rfl⟩⟩⟩
    case neg =>
      by_cases ht1 : r ≥ b.runners
      case pos =>
        refine runS hA 17 ([.g false, .g false, .g false, .k 0, .g false, .b true] ++ List.replicate 8 (.k 1)) xn (oc (dec_f (show ¬ ((r : Int) < (0 : Int)) by omega)) (oc (rfl : Value.bool false = .bool false) (oc (rfl : Value.bool false = .bool false) (oc (rfl : Value.bool false = .bool false) (oc (dec_t (show ((r : Int) ≥ (b.runners : Int)) by omega)) on))))) (by kernel_rfl) fun w4 hA => ?_
        have he : scE b r = 3 := by unfold scE; rw [if_pos h0, if_pos (isR_false (by omega))]
        have hzb : scB' b r = zeroB := if_neg (by rw [he]; decide)
        exact ret (v := .tuple #[.agg #[.int .i64 0, .int .i64 0, .slice none 0 0, .slice none 0 0, .bool false, .int .i64 0, .int .i64 0, .int .i64 0], .int .i64 3]) hA (List.replicate 8 (.k 1)) (by kernel_rfl) ⟨none, 0, none, 0, by rw [hzb, he]; rfl, hA.below, by rw [hzb]; exact ⟨rfl, .inl ⟨rfl, rfl⟩⟩, by rw [hzb]; exact ⟨rfl, .inl ⟨rfl, rfl⟩⟩⟩
      case neg =>
        refine runS hA 16 [.g false, .g false, .g false, .k 0, .g false, .b false, .k 0] xn (oc (dec_f (show ¬ ((r : Int) < (0 : Int)) by omega)) (oc (rfl : Value.bool false = .bool false) (oc (rfl : Value.bool false = .bool false) (oc (rfl : Value.bool false = .bool false) (oc (dec_f (show ¬ ((r : Int) ≥ (b.runners : Int)) by omega)) on))))) (by kernel_rfl) fun w4 hA => ?_
        have hir : isR b r = true := (isR_iff b r).2 (by omega)
        refine callB hA [] on (has_any w4 B A2 m c2 b.scr r (h.scr.below hA.below hB) (Nat.le_trans hB hA.size)) (by kernel_rfl) fun w5 hb5 hA => ?_
        by_cases hm : r ∈ b.scr
        case pos =>
          refine revals hA (rc 26 (show .bool (decide (r ∈ b.scr)) = .bool true by rw [decide_eq_true hm]) rn) (by kernel_rfl) fun hA => ?_
          refine runS hA 12 (List.replicate 8 (.k 1)) xn on (by kernel_rfl) fun w6 hA => ?_
          have he : scE b r = 11 := by unfold scE; rw [if_pos h0, if_neg (by rw [hir]; decide), if_pos hm]
          have hzb : scB' b r = zeroB := if_neg (by rw [he]; decide)
          exact ret (v := .tuple #[.agg #[.int .i64 0, .int .i64 0, .slice none 0 0, .slice none 0 0, .bool false, .int .i64 0, .int .i64 0, .int .i64 0], .int .i64 11]) hA (List.replicate 8 (.k 1)) (by kernel_rfl) ⟨none, 0, none, 0, by rw [hzb, he]; rfl, hA.below, by rw [hzb]; exact ⟨rfl, .inl ⟨rfl, rfl⟩⟩, by rw [hzb]; exact ⟨rfl, .inl ⟨rfl, rfl⟩⟩⟩
        case neg =>
          refine revals hA (rc 26 (show .bool (decide (r ∈ b.scr)) = .bool false by rw [decide_eq_false hm]) rn) (by kernel_rfl) fun hA => ?_
          refine runS hA 17 [.k 0, .k 0, .t 0] xn on (by kernel_rfl) fun w6 hA => ?_
          have hwr : IntKind.i64.wrap (b.runners - (m : Int)) = b.runners - (m : Int) := by rw [IntKind.wrap_i64]; omega
          by_cases h2 : b.runners - (m : Int) = 2
          case pos =>
            refine runS hA 10 ([.b true] ++ List.replicate 8 (.k 1)) xn (oc (eq_t (a := IntKind.i64.wrap (b.runners - (m : Int))) (b := 2) (by rw [hwr]; exact h2)) on) (by kernel_rfl) fun w7 hA => ?_
            have he : scE b r = 10 := by unfold scE; rw [if_pos h0, if_neg (by rw [hir]; decide), if_neg hm, if_pos (by omega)]
            have hzb : scB' b r = zeroB := if_neg (by rw [he]; decide)
            exact ret (v := .tuple #[.agg #[.int .i64 0, .int .i64 0, .slice none 0 0, .slice none 0 0, .bool false, .int .i64 0, .int .i64 0, .int .i64 0], .int .i64 10]) hA (List.replicate 8 (.k 1)) (by kernel_rfl) ⟨none, 0, none, 0, by rw [hzb, he]; rfl, hA.below, by rw [hzb]; exact ⟨rfl, .inl ⟨rfl, rfl⟩⟩, by rw [hzb]; exact ⟨rfl, .inl ⟨rfl, rfl⟩⟩⟩
          case neg =>
            refine runS hA 15 ([.b false] ++ List.replicate 8 (.k 0) ++ List.replicate 8 (.k 2) ++ [.k 0]) xn (oc (eq_f (a := IntKind.i64.wrap (b.runners - (m : Int))) (b := 2) (by rw [hwr]; exact h2)) on) (by kernel_rfl) fun w7 hA => ?_
            have he : scE b r = 0 := by unfold scE; rw [if_pos h0, if_neg (by rw [hir]; decide), if_neg hm, if_neg (by omega)]
            have hzb : scB' b r = scrF b r := if_pos he
            have hA4 := (hA.atK [⟨w.heap.size, .cells #[.int .i64 b.kind, .int .i64 b.runners, .slice A n c, .slice A2 m c2, .bool b.fav, .int .i64 b.car, .int .i64 b.dut, .int .i64 b.stp] 25 (0, 0)⟩, ⟨w.heap.size + 1, .cells #[.int .i64 0, .int .i64 0, .slice none 0 0, .slice none 0 0, .bool false, .int .i64 0, .int .i64 0, .int .i64 0] 25 (0, 0)⟩, ⟨w5.heap.size, .cells #[.int .i64 b.kind, .int .i64 b.runners, .slice A n c, .slice A2 m c2, .bool b.fav, .int .i64 b.car, .int .i64 b.dut, .int .i64 b.stp] 25 (0, 0)⟩, ⟨w5.heap.size + 1, .cells #[] 53 (0, 0)⟩] (by kernel_rfl)).lower (kn := [⟨w.heap.size, .cells #[.int .i64 b.kind, .int .i64 b.runners, .slice A n c, .slice A2 m c2, .bool b.fav, .int .i64 b.car, .int .i64 b.dut, .int .i64 b.stp] 25 (0, 0)⟩, ⟨w.heap.size + 1, .cells #[.int .i64 0, .int .i64 0, .slice none 0 0, .slice none 0 0, .bool false, .int .i64 0, .int .i64 0, .int .i64 0] 25 (0, 0)⟩, ⟨w5.heap.size, .cells #[.int .i64 b.kind, .int .i64 b.runners, .slice A n c, .slice A2 m c2, .bool b.fav, .int .i64 b.car, .int .i64 b.dut, .int .i64 b.stp] 25 (0, 0)⟩])
            refine reknow ⟨[⟨w.heap.size, .cells #[.int .i64 b.kind, .int .i64 b.runners, .slice A n c, .slice A2 m c2, .bool b.fav, .int .i64 b.car, .int .i64 b.dut, .int .i64 b.stp] 25 (0, 0)⟩, ⟨w.heap.size + 1, .cells #[.int .i64 0, .int .i64 0, .slice none 0 0, .slice none 0 0, .bool false, .int .i64 0, .int .i64 0, .int .i64 0] 25 (0, 0)⟩, ⟨w5.heap.size, .cells #[.int .i64 b.kind, .int .i64 b.runners, .slice A n c, .slice A2 m c2, .bool b.fav, .int .i64 b.car, .int .i64 b.dut, .int .i64 b.stp] 25 (0, 0)⟩], w7.heap.size, [], [], [], [], []⟩ (hA4.resize) (Nat.zero_le _) fun hA => ?_
            refine appE (t := 22) (e := 53) (ty := 22) (z := .agg #[.int .i64 0, .int .i64 0, .int .i64 0]) (size := 3) (bytes := 24) (v := .slice (some ⟨w5.heap.size + 1, 0, none⟩) 0 0) (n := 0) (m := n) (cp := c) (A := A) (vs := []) (ob := [⟨w5.heap.size + 1, .cells #[] 53 (0, 0)⟩]) (rest := []) (encB b.bets) hA ⟨rfl, .inr ⟨_, 0, _, rfl, rfl, Nat.le_refl _, by decide, rfl, rfl⟩⟩ (by kernel_rfl) (by rw [encB_len, hbl]) (bets_reads (h.bets.below hA.below hB)) (encB_ones _) (by omega) (by omega) fun v1 w8 ob1 hr1 hnil1 hat1 hsz1 hA => ?_
            obtain ⟨g1, c1, u1, rfl, rfl, hr1b⟩ : ∃ g1 c1 u1, v1 = .slice (some ⟨g1, 0, none⟩) (0 + n) c1 ∧ ob1 = [⟨g1, .cells u1 53 (0, 0)⟩] ∧ RowV 53 3 (.slice (some ⟨g1, 0, none⟩) n c1) n (encB b.bets) [⟨g1, .cells u1 53 (0, 0)⟩] := by
              rcases hr1.2 with ⟨h9, -, -⟩ | ⟨g1, c1, u1, h1, h2, h3⟩
              · exact absurd (hnil1.1 h9).1 (by simp)
              · refine ⟨g1, c1, u1, h1, h2, by have := hr1.1; rw [List.nil_append] at this; omega, .inr ⟨g1, c1, u1, rfl, rfl, ?_⟩⟩
                rw [Nat.zero_add, List.nil_append] at h3
                exact h3
            refine revals hA (rc 40 (show .slice (some ⟨g1, 0, none⟩) (0 + n) c1 = .slice (some ⟨g1, 0, none⟩) n c1 by rw [Nat.zero_add]) rn) (by kernel_rfl) fun hA => ?_
            refine runS hA 13 [.k 2, .k 2] xn on (by kernel_rfl) fun w9 hA => ?_
            obtain ⟨R, hR⟩ : ∃ R : Nat, b.runners = (R : Int) := ⟨b.runners.toNat, by omega⟩
            have hr0 : RowV 3 1 (.slice none (scL b r 0).length 0) (scL b r 0).length (ints (scL b r 0)) [] := RowV.nil _ _
            refine loop (γ := Nat × Option Addr × Nat × List KB) (fun ⟨k, Av, cv, ov⟩ => [(1, .int .i64 r), (2, .pointer (some ⟨w.heap.size, 0, none⟩)), (4, .pointer (some ⟨w.heap.size + 1, 0, none⟩)), (5, .int .i64 0), (6, .pointer (some ⟨w5.heap.size, 0, none⟩)), (7, .int .i64 (k : Int))]) (fun ⟨k, Av, cv, ov⟩ => [⟨w.heap.size, .cells #[.int .i64 b.kind, .int .i64 b.runners, .slice A n c, .slice A2 m c2, .bool b.fav, .int .i64 b.car, .int .i64 b.dut, .int .i64 b.stp] 25 (0, 0)⟩, ⟨w.heap.size + 1, .cells #[.int .i64 0, .int .i64 0, .slice none 0 0, .slice none 0 0, .bool false, .int .i64 0, .int .i64 0, .int .i64 0] 25 (0, 0)⟩, ⟨w5.heap.size, .cells #[.int .i64 b.kind, .int .i64 b.runners, .slice (some ⟨g1, 0, none⟩) n c1, .slice Av ((scL b r k).length) cv, .bool b.fav, .int .i64 b.car, .int .i64 b.dut, .int .i64 b.stp] 25 (0, 0)⟩]) (fun ⟨k, Av, cv, ov⟩ => ov ++ [⟨g1, .cells u1 53 (0, 0)⟩]) (fun g ⟨k, Av, cv, ov⟩ wr => k ≤ R ∧ g = R - k ∧ RowV 3 1 (.slice Av (scL b r k).length cv) (scL b r k).length (ints (scL b r k)) ov) R ⟨0, none, 0, []⟩ [true, true, true] hA (by kernel_rfl) (⟨Nat.zero_le _, rfl, hr0⟩) ?_
            rintro _ ⟨k, Av, cv, ov⟩ wr ⟨hk, rfl, hrk⟩ J hJ hA
            have hll := scL_len b r k
            by_cases hlt : k < R
            case neg =>
              refine runS hA 12 [.k 0, .b false] xn (oc (dec_f (show ¬ (((k : Int) : Int) < (b.runners : Int)) by omega)) on) (by kernel_rfl) fun w10 hA => ?_
              refine leave hA (by kernel_rfl) fun hA => ?_
              refine runS hA 10 (List.replicate 8 (.k 2) ++ List.replicate 8 (.k 1)) xn on (by kernel_rfl) fun w11 hA => ?_
              have hkR : k = b.runners.toNat := by omega
              have hfin : scL b r k = insF r b.scr := by rw [hkR]; exact scL_ins V (by omega) hm
              have hAf := hA.atK [⟨w.heap.size, .cells #[.int .i64 b.kind, .int .i64 b.runners, .slice A n c, .slice A2 m c2, .bool b.fav, .int .i64 b.car, .int .i64 b.dut, .int .i64 b.stp] 25 (0, 0)⟩, ⟨w.heap.size + 1, .cells #[.int .i64 b.kind, .int .i64 b.runners, .slice (some ⟨g1, 0, none⟩) n c1, .slice Av ((scL b r k).length) cv, .bool b.fav, .int .i64 b.car, .int .i64 b.dut, .int .i64 b.stp] 25 (0, 0)⟩, ⟨w5.heap.size, .cells #[.int .i64 b.kind, .int .i64 b.runners, .slice (some ⟨g1, 0, none⟩) n c1, .slice Av ((scL b r k).length) cv, .bool b.fav, .int .i64 b.car, .int .i64 b.dut, .int .i64 b.stp] 25 (0, 0)⟩] (by kernel_rfl)
              rw [hfin] at hrk
              exact ret (v := .tuple #[.agg #[.int .i64 b.kind, .int .i64 b.runners, .slice (some ⟨g1, 0, none⟩) n c1, .slice Av ((scL b r k).length) cv, .bool b.fav, .int .i64 b.car, .int .i64 b.dut, .int .i64 b.stp], .int .i64 0]) hA (List.replicate 8 (.k 1)) (by kernel_rfl) ⟨some ⟨g1, 0, none⟩, c1, Av, cv, by rw [hzb, he, hfin, show (scrF b r).bets.length = n from hbl]; rfl, hA.below, by rw [hzb, show (scrF b r).bets.length = n from hbl]; exact hr1b.own (rest := ov) (hA.perm List.perm_append_comm).at_, by rw [hzb]; exact hrk.own hAf⟩
            case pos =>
              by_cases hkr : (k : Int) = r
              case pos =>
                refine runS hA 33 ([.k 0, .b true] ++ List.replicate 4 (.g true) ++ [.k 2]) xn (oc (dec_t (show (((k : Int) : Int) < (b.runners : Int)) by omega)) (oc (eq_t hkr) (oc (rfl : Value.bool true = .bool true) (oc (rfl : Value.bool true = .bool true) (oc (rfl : Value.bool true = .bool true) on))))) (by kernel_rfl) fun w10 hA => ?_
                have hst : scL b r (k + 1) = scL b r k ++ [(k : Int)] := by rw [scL, if_pos (.inl hkr)]
                have hcl := cell_of_obj (a := ⟨wr.heap.size, 0, none⟩) (hA.at_.ok ⟨wr.heap.size, .cells #[.int .i64 (k : Int)] 3 (0, 0)⟩ (List.mem_of_getElem? (i := 3) (by kernel_rfl))) rfl rfl
                refine appE (t := 23) (e := 3) (ty := 23) (z := .int .i64 0) (size := 1) (bytes := 8) (v := .slice Av (scL b r k).length cv) (n := (scL b r k).length) (m := 1) (cp := 1) (A := some ⟨wr.heap.size, 0, none⟩) [.int .i64 (k : Int)] hA hrk (by kernel_rfl) rfl (fun _ => ⟨_, rfl, fun j u hu => by cases j with | zero => cases hu; exact hcl | succ j => cases hu⟩) rfl (by omega) (by omega) fun v2 w11 ob2 hr2 hnil2 hat2 hsz2 hA => ?_
                have hle : (scL b r (k + 1)).length = (scL b r k).length + 1 := by rw [hst, List.length_append]; rfl
                obtain ⟨g2, c2', rfl⟩ : ∃ g2 c2', v2 = .slice (some ⟨g2, 0, none⟩) ((scL b r k).length + 1) c2' := by
                  rcases hr2.2 with ⟨-, h9, -⟩ | ⟨g2, c2', u2, h1, -⟩
                  · omega
                  · exact ⟨g2, c2', h1⟩
                refine runS hA 10 [.k 2] xn on (by kernel_rfl) fun w12 hA => ?_
                have hrk2 : RowV 3 1 (.slice (some ⟨g2, 0, none⟩) (scL b r (k + 1)).length c2') (scL b r (k + 1)).length (ints (scL b r (k + 1))) ob2 := by rw [hle, hst, ints_append]; exact hr2
                refine revals hA (rc 7 (wr64 (x := (k : Int) + 1) (y := ((k + 1 : Nat) : Int)) (by omega) (by omega)) rn) (by kernel_rfl) fun hA => ?_
                have hAk9 := hA.atK [⟨w.heap.size, .cells #[.int .i64 b.kind, .int .i64 b.runners, .slice A n c, .slice A2 m c2, .bool b.fav, .int .i64 b.car, .int .i64 b.dut, .int .i64 b.stp] 25 (0, 0)⟩, ⟨w.heap.size + 1, .cells #[.int .i64 0, .int .i64 0, .slice none 0 0, .slice none 0 0, .bool false, .int .i64 0, .int .i64 0, .int .i64 0] 25 (0, 0)⟩, ⟨w5.heap.size, .cells #[.int .i64 b.kind, .int .i64 b.runners, .slice (some ⟨g1, 0, none⟩) n c1, .slice (some ⟨g2, 0, none⟩) ((scL b r k).length + 1) c2', .bool b.fav, .int .i64 b.car, .int .i64 b.dut, .int .i64 b.stp] 25 (0, 0)⟩, ⟨wr.heap.size, .cells #[.int .i64 (k : Int)] 3 (0, 0)⟩] (by kernel_rfl)
                have hAk8 := hAk9
                rw [← hle] at hAk8
                refine reknow ⟨[⟨w.heap.size, .cells #[.int .i64 b.kind, .int .i64 b.runners, .slice A n c, .slice A2 m c2, .bool b.fav, .int .i64 b.car, .int .i64 b.dut, .int .i64 b.stp] 25 (0, 0)⟩, ⟨w.heap.size + 1, .cells #[.int .i64 0, .int .i64 0, .slice none 0 0, .slice none 0 0, .bool false, .int .i64 0, .int .i64 0, .int .i64 0] 25 (0, 0)⟩, ⟨w5.heap.size, .cells #[.int .i64 b.kind, .int .i64 b.runners, .slice (some ⟨g1, 0, none⟩) n c1, .slice (some ⟨g2, 0, none⟩) ((scL b r (k + 1)).length) c2', .bool b.fav, .int .i64 b.car, .int .i64 b.dut, .int .i64 b.stp] 25 (0, 0)⟩, ⟨wr.heap.size, .cells #[.int .i64 (k : Int)] 3 (0, 0)⟩], w12.heap.size, [], [], [], [], []⟩ hAk8.resize (Nat.zero_le _) fun hA => ?_
                exact again hJ (R - (k + 1)) (⟨k + 1, some ⟨g2, 0, none⟩, c2', ob2⟩) [true, true, true] hA (by omega) (by kernel_rfl) ⟨by omega, rfl, hrk2⟩
              case neg =>
                refine runS hA 23 [.k 0, .b true, .g false, .g false, .k 0, .g false] xn (oc (dec_t (show (((k : Int) : Int) < (b.runners : Int)) by omega)) (oc (eq_f hkr) (oc (rfl : Value.bool false = .bool false) (oc (rfl : Value.bool false = .bool false) on)))) (by kernel_rfl) fun w10 hA => ?_
                refine callB hA [] on (has_any w10 B A2 m c2 b.scr (k : Int) (h.scr.below hA.below hB) (Nat.le_trans hB hA.size)) (by kernel_rfl) fun w11 hb11 hA => ?_
                by_cases hks : (k : Int) ∈ b.scr
                case pos =>
                  refine revals hA (rc 56 (show .bool (decide ((k : Int) ∈ b.scr)) = .bool true by rw [decide_eq_true hks]) rn) (by kernel_rfl) fun hA => ?_
                  refine runS hA 9 [.k 2] xn on (by kernel_rfl) fun w12 hA => ?_
                  have hst : scL b r (k + 1) = scL b r k ++ [(k : Int)] := by rw [scL, if_pos (.inr hks)]
                  have hcl := cell_of_obj (a := ⟨w11.heap.size, 0, none⟩) (hA.at_.ok ⟨w11.heap.size, .cells #[.int .i64 (k : Int)] 3 (0, 0)⟩ (List.mem_of_getElem? (i := 3) (by kernel_rfl))) rfl rfl
                  refine appE (t := 23) (e := 3) (ty := 23) (z := .int .i64 0) (size := 1) (bytes := 8) (v := .slice Av (scL b r k).length cv) (n := (scL b r k).length) (m := 1) (cp := 1) (A := some ⟨w11.heap.size, 0, none⟩) [.int .i64 (k : Int)] hA hrk (by kernel_rfl) rfl (fun _ => ⟨_, rfl, fun j u hu => by cases j with | zero => cases hu; exact hcl | succ j => cases hu⟩) rfl (by omega) (by omega) fun v2 w13 ob2 hr2 hnil2 hat2 hsz2 hA => ?_
                  have hle : (scL b r (k + 1)).length = (scL b r k).length + 1 := by rw [hst, List.length_append]; rfl
                  obtain ⟨g2, c2', rfl⟩ : ∃ g2 c2', v2 = .slice (some ⟨g2, 0, none⟩) ((scL b r k).length + 1) c2' := by
                    rcases hr2.2 with ⟨-, h9, -⟩ | ⟨g2, c2', u2, h1, -⟩
                    · omega
                    · exact ⟨g2, c2', h1⟩
                  refine runS hA 10 [.k 2] xn on (by kernel_rfl) fun w14 hA => ?_
                  have hrk2 : RowV 3 1 (.slice (some ⟨g2, 0, none⟩) (scL b r (k + 1)).length c2') (scL b r (k + 1)).length (ints (scL b r (k + 1))) ob2 := by rw [hle, hst, ints_append]; exact hr2
                  refine revals hA (rc 7 (wr64 (x := (k : Int) + 1) (y := ((k + 1 : Nat) : Int)) (by omega) (by omega)) rn) (by kernel_rfl) fun hA => ?_
                  have hAk9 := hA.atK [⟨w.heap.size, .cells #[.int .i64 b.kind, .int .i64 b.runners, .slice A n c, .slice A2 m c2, .bool b.fav, .int .i64 b.car, .int .i64 b.dut, .int .i64 b.stp] 25 (0, 0)⟩, ⟨w.heap.size + 1, .cells #[.int .i64 0, .int .i64 0, .slice none 0 0, .slice none 0 0, .bool false, .int .i64 0, .int .i64 0, .int .i64 0] 25 (0, 0)⟩, ⟨w5.heap.size, .cells #[.int .i64 b.kind, .int .i64 b.runners, .slice (some ⟨g1, 0, none⟩) n c1, .slice (some ⟨g2, 0, none⟩) ((scL b r k).length + 1) c2', .bool b.fav, .int .i64 b.car, .int .i64 b.dut, .int .i64 b.stp] 25 (0, 0)⟩, ⟨w11.heap.size, .cells #[.int .i64 (k : Int)] 3 (0, 0)⟩] (by kernel_rfl)
                  have hAk8 := hAk9
                  rw [← hle] at hAk8
                  refine reknow ⟨[⟨w.heap.size, .cells #[.int .i64 b.kind, .int .i64 b.runners, .slice A n c, .slice A2 m c2, .bool b.fav, .int .i64 b.car, .int .i64 b.dut, .int .i64 b.stp] 25 (0, 0)⟩, ⟨w.heap.size + 1, .cells #[.int .i64 0, .int .i64 0, .slice none 0 0, .slice none 0 0, .bool false, .int .i64 0, .int .i64 0, .int .i64 0] 25 (0, 0)⟩, ⟨w5.heap.size, .cells #[.int .i64 b.kind, .int .i64 b.runners, .slice (some ⟨g1, 0, none⟩) n c1, .slice (some ⟨g2, 0, none⟩) ((scL b r (k + 1)).length) c2', .bool b.fav, .int .i64 b.car, .int .i64 b.dut, .int .i64 b.stp] 25 (0, 0)⟩, ⟨w11.heap.size, .cells #[.int .i64 (k : Int)] 3 (0, 0)⟩], w14.heap.size, [], [], [], [], []⟩ hAk8.resize (Nat.zero_le _) fun hA => ?_
                  exact again hJ (R - (k + 1)) (⟨k + 1, some ⟨g2, 0, none⟩, c2', ob2⟩) [true, true, true] hA (by omega) (by kernel_rfl) ⟨by omega, rfl, hrk2⟩
                case neg =>
                  refine revals hA (rc 56 (show .bool (decide ((k : Int) ∈ b.scr)) = .bool false by rw [decide_eq_false hks]) rn) (by kernel_rfl) fun hA => ?_
                  refine runS hA 12 [] xn on (by kernel_rfl) fun w12 hA => ?_
                  have hst : scL b r (k + 1) = scL b r k := by rw [scL, if_neg (by rintro (h | h); exact hkr h; exact hks h), List.append_nil]
                  refine revals hA (rc 7 (wr64 (x := (k : Int) + 1) (y := ((k + 1 : Nat) : Int)) (by omega) (by omega)) rn) (by kernel_rfl) fun hA => ?_
                  have hrk2 : RowV 3 1 (.slice Av (scL b r (k + 1)).length cv) (scL b r (k + 1)).length (ints (scL b r (k + 1))) ov := by rw [hst]; exact hrk
                  have hle : (scL b r (k + 1)).length = (scL b r k).length := by rw [hst]
                  have hAk9 := hA.atK [⟨w.heap.size, .cells #[.int .i64 b.kind, .int .i64 b.runners, .slice A n c, .slice A2 m c2, .bool b.fav, .int .i64 b.car, .int .i64 b.dut, .int .i64 b.stp] 25 (0, 0)⟩, ⟨w.heap.size + 1, .cells #[.int .i64 0, .int .i64 0, .slice none 0 0, .slice none 0 0, .bool false, .int .i64 0, .int .i64 0, .int .i64 0] 25 (0, 0)⟩, ⟨w5.heap.size, .cells #[.int .i64 b.kind, .int .i64 b.runners, .slice (some ⟨g1, 0, none⟩) n c1, .slice Av ((scL b r k).length) cv, .bool b.fav, .int .i64 b.car, .int .i64 b.dut, .int .i64 b.stp] 25 (0, 0)⟩] (by kernel_rfl)
                  have hAk8 := hAk9
                  rw [← hle] at hAk8
                  refine reknow ⟨[⟨w.heap.size, .cells #[.int .i64 b.kind, .int .i64 b.runners, .slice A n c, .slice A2 m c2, .bool b.fav, .int .i64 b.car, .int .i64 b.dut, .int .i64 b.stp] 25 (0, 0)⟩, ⟨w.heap.size + 1, .cells #[.int .i64 0, .int .i64 0, .slice none 0 0, .slice none 0 0, .bool false, .int .i64 0, .int .i64 0, .int .i64 0] 25 (0, 0)⟩, ⟨w5.heap.size, .cells #[.int .i64 b.kind, .int .i64 b.runners, .slice (some ⟨g1, 0, none⟩) n c1, .slice Av ((scL b r (k + 1)).length) cv, .bool b.fav, .int .i64 b.car, .int .i64 b.dut, .int .i64 b.stp] 25 (0, 0)⟩], w12.heap.size, [], [], [], [], []⟩ hAk8.resize (Nat.zero_le _) fun hA => ?_
                  exact again hJ (R - (k + 1)) (⟨k + 1, Av, cv, ov⟩) [true, true, true] hA (by omega) (by kernel_rfl) ⟨by omega, rfl, hrk2⟩
end Go.Proofs.Ytkliekipopnibaa

/- quinellaref03: FavouriteOf, Favourite. -/
namespace Go.Proofs.Ytkliekipopnibaa
open Go.RowKit Go.Shelf

/-- Whether a bet's second runner still runs. -/
def okS (b : Bk) (x : Bet) : Bool := !decide (x.second ∈ b.scr)
theorem tallyS {b : Bk} {k : Nat} (h : (k : Int) ∉ b.scr) (bs : List Bet) : tallyF (okS b) (fun x => x.first) bs k = tallyF (okF b) (fun x => x.first) bs k := by
  unfold tallyF
  congr 1
  refine List.map_congr_left fun x _ => ?_
  by_cases hk : x.first = (k : Int)
  · have e : okF b x = okS b x := by unfold okF okS; rw [hk, decide_eq_false h]; rfl
    rw [e]
  · rw [if_neg (fun hh => hk hh.2), if_neg (fun hh => hk hh.2)]
def bestL (b : Bk) : Nat → Int × Int
  | 0 => (-1, 0)
  | k + 1 => if (k : Int) ∈ b.scr then bestL b k else if (bestL b k).1 < 0 ∨ (bestL b k).2 < tallyF (okS b) (fun x => x.first) b.bets k then ((k : Int), tallyF (okS b) (fun x => x.first) b.bets k) else bestL b k
theorem fgF_snoc (t : Nat → Int) (xs : List Int) (y : Int) : fgF t (xs ++ [y]) = if xs = [] then y else betterF t (fgF t xs) y := by
  cases xs with
  | nil => rfl
  | cons x xs =>
    unfold fgF
    rw [if_neg (by simp)]
    simp
theorem bestL_eq (b : Bk) : ∀ k, bestL b k = if racL b k = [] then (-1, 0) else (fgF (tallyF (okF b) (fun x => x.first) b.bets) (racL b k), tallyF (okF b) (fun x => x.first) b.bets (fgF (tallyF (okF b) (fun x => x.first) b.bets) (racL b k)).toNat)
  | 0 => rfl
  | k + 1 => by
    rw [bestL, racL, bestL_eq b k]
    by_cases h : (k : Int) ∈ b.scr
    · rw [if_pos h, if_pos h, List.append_nil]
    · rw [if_neg h, if_neg h, tallyS h, fgF_snoc, if_neg (show ¬ racL b k ++ [(k : Int)] = [] by simp)]
      by_cases he : racL b k = []
      · rw [if_pos he, if_pos he, if_pos (.inl (by decide))]
        simp
      · rw [if_neg he, if_neg he]
        have h1 := (racL_mem b).1 (fgF_mem (tallyF (okF b) (fun x => x.first) b.bets) (List.length_pos_iff.2 he))
        by_cases h2 : tallyF (okF b) (fun x => x.first) b.bets (fgF (tallyF (okF b) (fun x => x.first) b.bets) (racL b k)).toNat < tallyF (okF b) (fun x => x.first) b.bets k
        · rw [if_pos (.inr h2)]
          unfold betterF
          rw [Int.toNat_natCast, if_pos h2, Int.toNat_natCast]
        · rw [if_neg (fun hh => by rcases hh with hh | hh; (simp only at hh; omega); exact h2 hh)]
          unfold betterF
          rw [Int.toNat_natCast, if_neg h2]
theorem bestL_fav {b : Bk} (h : 0 < (racN b).length) : (bestL b b.runners.toNat).1 = favF b := by
  rw [bestL_eq, if_neg (show ¬ racL b b.runners.toNat = [] from List.length_pos_iff.1 h)]
  rfl
theorem bestL_bound {b : Bk} (hu : ∀ x ∈ b.bets, 0 ≤ x.units ∧ x.units ≤ 1000) : ∀ k, 0 ≤ (bestL b k).2
  | 0 => Int.le_refl 0
  | k + 1 => by
    have h1 := bestL_bound hu k
    have h2 := tallyF_bound (okS b) (fun x => x.first) b.bets k hu
    rw [bestL]
    split
    · exact h1
    · split
      · exact h2.1
      · exact h1
set_option maxHeartbeats 1000000 in
set_option maxRecDepth 20000 in
theorem favouriteOf_any (w : World) (B : Nat) (b : Bk) (A : Option Addr) (n c : Nat) (A2 : Option Addr) (m c2 : Nat) (h : BkAt w B b A n c A2 m c2) (hB : B ≤ w.heap.size) (V : ValidB b) : Calls Try.prog 51 #[bkV b A n c A2 m c2] w fun e w' => e = .returned (.int .i64 (favF b)) ∧ Below w.heap.size w w' := by
  have hbl := h.bets.1
  have hxl := h.scr.1
  have hn9 := h.bets.2.1
  have hv1 := V.run
  have hv2 := V.len
  refine enter 64 Try.func51 (by kernel_rfl) fun hA => ?_
  refine runS hA 19 [] xn on (by kernel_rfl) fun w1 hA => ?_
  obtain ⟨R, hR⟩ : ∃ R : Nat, b.runners = (R : Int) := ⟨b.runners.toNat, by omega⟩
  refine loop (γ := Nat) (fun k => [(1, .pointer (some ⟨w.heap.size, 0, none⟩)), (2, .int .i64 0), (3, .int .i64 ((bestL b k).1)), (4, .int .i64 ((bestL b k).2)), (5, .int .i64 (k : Int))]) (fun k => [⟨w.heap.size, .cells #[.int .i64 b.kind, .int .i64 b.runners, .slice A n c, .slice A2 m c2, .bool b.fav, .int .i64 b.car, .int .i64 b.dut, .int .i64 b.stp] 25 (0, 0)⟩]) (fun _ => []) (fun g k wr => k ≤ R ∧ g = R - k) R 0 [true] hA (by kernel_rfl) (⟨Nat.zero_le _, rfl⟩) ?_
  rintro _ k wr ⟨hk, rfl⟩ J hJ hA
  by_cases hlk : k < R
  case neg =>
    refine runS hA 12 [.k 0, .b false] xn (oc (dec_f (show ¬ (((k : Int) : Int) < (b.runners : Int)) by omega)) on) (by kernel_rfl) fun w2 hA => ?_
    refine leave hA (by kernel_rfl) fun hA => ?_
    refine runS hA 9 [] xn on (by kernel_rfl) fun w3 hA => ?_
    exact ret (v := .int .i64 ((bestL b k).1)) hA [] (by kernel_rfl) ⟨by rw [show k = b.runners.toNat by omega, bestL_fav (by have := V.racing; omega)], hA.below⟩
  case pos =>
    have hJ1 := hJ
    refine runS hA 26 [.k 0, .b true] xn (oc (dec_t (show (((k : Int) : Int) < (b.runners : Int)) by omega)) on) (by kernel_rfl) fun w2 hA => ?_
    refine loop (γ := Nat) (fun i => [(1, .pointer (some ⟨w.heap.size, 0, none⟩)), (2, .int .i64 0), (3, .int .i64 ((bestL b k).1)), (4, .int .i64 ((bestL b k).2)), (5, .int .i64 (k : Int)), (6, .int .i64 (tallyF (okS b) (fun x => x.first) (b.bets.take i) k)), (7, .int .i64 (i : Int))]) (fun i => [⟨w.heap.size, .cells #[.int .i64 b.kind, .int .i64 b.runners, .slice A n c, .slice A2 m c2, .bool b.fav, .int .i64 b.car, .int .i64 b.dut, .int .i64 b.stp] 25 (0, 0)⟩]) (fun _ => []) (fun g i wt => i ≤ n ∧ g = n - i) n 0 [true] hA (by kernel_rfl) (⟨Nat.zero_le _, rfl⟩) ?_
    rintro _ i wt ⟨hi, rfl⟩ J hJ hA
    by_cases hlt : i < n
    case neg =>
      refine runS hA 13 [.k 0, .b false] xn (oc (dec_f (show ¬ (((i : Int) : Int) < (n : Int)) by omega)) on) (by kernel_rfl) fun w3 hA => ?_
      refine leave hA (by kernel_rfl) fun hA => ?_
      have hin : i = n := by omega
      refine revals hA (rc 6 (show .int .i64 (tallyF (okS b) (fun x => x.first) (b.bets.take i) k) = .int .i64 (tallyF (okS b) (fun x => x.first) b.bets k) by rw [List.take_of_length_le (by omega)]) rn) (by kernel_rfl) fun hA => ?_
      refine runS hA 7 [.k 0] xn on (by kernel_rfl) fun w4 hA => ?_
      refine callB hA [] on (has_any w4 B A2 m c2 b.scr (k : Int) (h.scr.below hA.below hB) (Nat.le_trans hB hA.size)) (by kernel_rfl) fun w5 hb5 hA => ?_
      by_cases hks : (k : Int) ∈ b.scr
      case pos =>
        refine revals hA (rc 50 (show .bool (decide ((k : Int) ∈ b.scr)) = .bool true by rw [decide_eq_true hks]) rn) (by kernel_rfl) fun hA => ?_
        refine runS hA 21 (List.replicate 4 (.g false)) xn (oc (rfl : Value.bool false = .bool false) (oc (rfl : Value.bool false = .bool false) (oc (rfl : Value.bool false = .bool false) (oc (rfl : Value.bool false = .bool false) on)))) (by kernel_rfl) fun w6 hA => ?_
        have hst : bestL b (k + 1) = bestL b k := by rw [bestL, if_pos hks]
        refine revals hA (rc 3 (show .int .i64 ((bestL b k).1) = .int .i64 ((bestL b (k + 1)).1) by rw [hst]) (rc 4 (show .int .i64 ((bestL b k).2) = .int .i64 ((bestL b (k + 1)).2) by rw [hst]) (rc 5 (wr64 (x := (k : Int) + 1) (y := ((k + 1 : Nat) : Int)) (by omega) (by omega)) rn))) (by kernel_rfl) fun hA => ?_
        exact again hJ1 (R - (k + 1)) (k + 1) [true] hA (by omega) (by kernel_rfl) ⟨by omega, rfl⟩
      case neg =>
        refine revals hA (rc 50 (show .bool (decide ((k : Int) ∈ b.scr)) = .bool false by rw [decide_eq_false hks]) rn) (by kernel_rfl) fun hA => ?_
        by_cases hb0 : (bestL b k).1 < 0
        case pos =>
          refine runS hA 26 (List.replicate 7 (.g true)) xn (oc (rfl : Value.bool true = .bool true) (oc (rfl : Value.bool true = .bool true) (oc (rfl : Value.bool true = .bool true) (oc (dec_t (show (((bestL b k).1 : Int) < (0 : Int)) by omega)) (oc (rfl : Value.bool true = .bool true) (oc (rfl : Value.bool true = .bool true) (oc (rfl : Value.bool true = .bool true) on))))))) (by kernel_rfl) fun w6 hA => ?_
          have hst : bestL b (k + 1) = ((k : Int), (tallyF (okS b) (fun x => x.first) b.bets k)) := by rw [bestL, if_neg hks, if_pos (.inl hb0)]
          refine revals hA (rc 3 (show .int .i64 (k : Int) = .int .i64 ((bestL b (k + 1)).1) by rw [hst]) (rc 4 (show .int .i64 (tallyF (okS b) (fun x => x.first) b.bets k) = .int .i64 ((bestL b (k + 1)).2) by rw [hst]) (rc 5 (wr64 (x := (k : Int) + 1) (y := ((k + 1 : Nat) : Int)) (by omega) (by omega)) rn))) (by kernel_rfl) fun hA => ?_
          exact again hJ1 (R - (k + 1)) (k + 1) [true] hA (by omega) (by kernel_rfl) ⟨by omega, rfl⟩
        case neg =>
          by_cases hb1 : (bestL b k).2 < (tallyF (okS b) (fun x => x.first) b.bets k)
          case pos =>
            refine runS hA 26 [.g true, .g true, .g true, .g false, .g false, .g false, .g true, .b true] xn (oc (rfl : Value.bool true = .bool true) (oc (rfl : Value.bool true = .bool true) (oc (rfl : Value.bool true = .bool true) (oc (dec_f (show ¬ (((bestL b k).1 : Int) < (0 : Int)) by omega)) (oc (rfl : Value.bool false = .bool false) (oc (rfl : Value.bool false = .bool false) (oc (rfl : Value.bool true = .bool true) (oc (dec_t (show (((tallyF (okS b) (fun x => x.first) b.bets k) : Int) > ((bestL b k).2 : Int)) by omega)) on)))))))) (by kernel_rfl) fun w6 hA => ?_
            have hst : bestL b (k + 1) = ((k : Int), (tallyF (okS b) (fun x => x.first) b.bets k)) := by rw [bestL, if_neg hks, if_pos (.inr hb1)]
            refine revals hA (rc 3 (show .int .i64 (k : Int) = .int .i64 ((bestL b (k + 1)).1) by rw [hst]) (rc 4 (show .int .i64 (tallyF (okS b) (fun x => x.first) b.bets k) = .int .i64 ((bestL b (k + 1)).2) by rw [hst]) (rc 5 (wr64 (x := (k : Int) + 1) (y := ((k + 1 : Nat) : Int)) (by omega) (by omega)) rn))) (by kernel_rfl) fun hA => ?_
            exact again hJ1 (R - (k + 1)) (k + 1) [true] hA (by omega) (by kernel_rfl) ⟨by omega, rfl⟩
          case neg =>
            refine runS hA 21 [.g true, .g true, .g true, .g false, .g false, .g false, .g true, .b false] xn (oc (rfl : Value.bool true = .bool true) (oc (rfl : Value.bool true = .bool true) (oc (rfl : Value.bool true = .bool true) (oc (dec_f (show ¬ (((bestL b k).1 : Int) < (0 : Int)) by omega)) (oc (rfl : Value.bool false = .bool false) (oc (rfl : Value.bool false = .bool false) (oc (rfl : Value.bool true = .bool true) (oc (dec_f (show ¬ (((tallyF (okS b) (fun x => x.first) b.bets k) : Int) > ((bestL b k).2 : Int)) by omega)) on)))))))) (by kernel_rfl) fun w6 hA => ?_
            have hst : bestL b (k + 1) = bestL b k := by rw [bestL, if_neg hks, if_neg (fun hh => hh.elim hb0 hb1)]
            refine revals hA (rc 3 (show .int .i64 ((bestL b k).1) = .int .i64 ((bestL b (k + 1)).1) by rw [hst]) (rc 4 (show .int .i64 ((bestL b k).2) = .int .i64 ((bestL b (k + 1)).2) by rw [hst]) (rc 5 (wr64 (x := (k : Int) + 1) (y := ((k + 1 : Nat) : Int)) (by omega) (by omega)) rn))) (by kernel_rfl) fun hA => ?_
            exact again hJ1 (R - (k + 1)) (k + 1) [true] hA (by omega) (by kernel_rfl) ⟨by omega, rfl⟩
    case pos =>
      obtain ⟨b1, off, rfl, hb1, k0, k1, k2⟩ := h.bets.at hlt
      have hlb1 : b1 < w.heap.size := Nat.lt_of_lt_of_le hb1 hB
      have htk := tallyF_take (okS b) (fun x => x.first) b.bets k (k := i) (by omega) rfl
      have hub : ∀ x ∈ b.bets, 0 ≤ x.units ∧ x.units ≤ 1000 := units_ok V
      have htb := tallyF_bound (okS b) (fun x => x.first) (b.bets.take (i + 1)) k (fun x hx => hub x (List.mem_of_mem_take hx))
      have htl : (b.bets.take (i + 1)).length ≤ 100 := by rw [List.length_take]; omega
      by_cases hf : (b.bets[i]?.getD noBet).first = (k : Int)
      case neg =>
        refine runS hA 36 [.k 0, .b true, .k 0, .i, .x (.int .i64 ((b.bets[i]?.getD noBet).first)), .b false] (xc (a := ⟨b1, off + i * 3, none⟩) ⟨hlb1, k0⟩ xn) (oc (dec_t (show (((i : Int) : Int) < (n : Int)) by omega)) (oc (show (0 : Int) ≤ ((i : Int) : Int) ∧ ((i : Int) : Int) < (n : Int) by omega) (oc (eq_f hf) on))) (by kernel_rfl) fun w3 hA => ?_
        refine revals hA (rc 6 (show .int .i64 (tallyF (okS b) (fun x => x.first) (b.bets.take i) k) = .int .i64 (tallyF (okS b) (fun x => x.first) (b.bets.take (i + 1)) k) by rw [htk, if_neg (fun hh => hf hh.2), Int.add_zero]) (rc 7 (wr64 (x := (i : Int) + 1) (y := ((i + 1 : Nat) : Int)) (by omega) (by omega)) rn)) (by kernel_rfl) fun hA => ?_
        exact again hJ (n - (i + 1)) (i + 1) [true] hA (by omega) (by kernel_rfl) (⟨by omega, rfl⟩)
      case pos =>
        refine runS hA 29 [.k 0, .b true, .k 0, .i, .x (.int .i64 ((b.bets[i]?.getD noBet).first)), .b true] (xc (a := ⟨b1, off + i * 3, none⟩) ⟨hlb1, k0⟩ xn) (oc (dec_t (show (((i : Int) : Int) < (n : Int)) by omega)) (oc (show (0 : Int) ≤ ((i : Int) : Int) ∧ ((i : Int) : Int) < (n : Int) by omega) (oc (eq_t hf) on))) (by kernel_rfl) fun w3 hA => ?_
        refine draw hA [true] [0, 1, 2, 3, 4, 5, 6, 7, 8, 9] (by kernel_rfl) (by kernel_rfl) fun hA => ?_
        refine runS hA 8 [.t 0, .t 1, .k 0, .t 2, .t 3, .k 0, .t 4, .t 5, .i, .t 6, .t 7, .x (.int .i64 ((b.bets[i]?.getD noBet).second))] (xc (a := ⟨b1, off + i * 3 + 1, none⟩) ⟨hlb1, k1⟩ xn) (oc (show (0 : Int) ≤ ((i : Int) : Int) ∧ ((i : Int) : Int) < (n : Int) by omega) on) (by kernel_rfl) fun w4 hA => ?_
        refine callB hA [] on (has_any w4 B A2 m c2 b.scr (b.bets[i]?.getD noBet).second (h.scr.below hA.below hB) (Nat.le_trans hB hA.size)) (by kernel_rfl) fun w5 hb5 hA => ?_
        by_cases hs : (b.bets[i]?.getD noBet).second ∈ b.scr
        case pos =>
          refine revals hA (rc 37 (show .bool (decide ((b.bets[i]?.getD noBet).second ∈ b.scr)) = .bool true by rw [decide_eq_true hs]) rn) (by kernel_rfl) fun hA => ?_
          refine runS hA 12 [.t 9, .b true] xn on (by kernel_rfl) fun w6 hA => ?_
          refine revals hA (rc 6 (show .int .i64 (tallyF (okS b) (fun x => x.first) (b.bets.take i) k) = .int .i64 (tallyF (okS b) (fun x => x.first) (b.bets.take (i + 1)) k) by rw [htk, if_neg (fun hh => by unfold okS at hh; rw [decide_eq_true hs] at hh; exact absurd hh.1 (by decide)), Int.add_zero]) (rc 7 (wr64 (x := (i : Int) + 1) (y := ((i + 1 : Nat) : Int)) (by omega) (by omega)) rn)) (by kernel_rfl) fun hA => ?_
          exact again hJ (n - (i + 1)) (i + 1) [true] hA (by omega) (by kernel_rfl) (⟨by omega, rfl⟩)
        case neg =>
          refine revals hA (rc 37 (show .bool (decide ((b.bets[i]?.getD noBet).second ∈ b.scr)) = .bool false by rw [decide_eq_false hs]) rn) (by kernel_rfl) fun hA => ?_
          refine runS hA 22 [.t 9, .b true, .k 0, .i, .x (.int .i64 ((b.bets[i]?.getD noBet).units))] (xc (a := ⟨b1, off + i * 3 + 2, none⟩) ⟨hlb1, k2⟩ xn) (oc (show (0 : Int) ≤ ((i : Int) : Int) ∧ ((i : Int) : Int) < (n : Int) by omega) on) (by kernel_rfl) fun w6 hA => ?_
          have hok : okS b (b.bets[i]?.getD noBet) = true ∧ (b.bets[i]?.getD noBet).first = (k : Int) := ⟨by unfold okS; rw [decide_eq_false hs]; rfl, hf⟩
          rw [if_pos hok] at htk
          refine revals hA (rc 6 (wr64 (by rw [← htk]; omega) htk.symm) (rc 7 (wr64 (x := (i : Int) + 1) (y := ((i + 1 : Nat) : Int)) (by omega) (by omega)) rn)) (by kernel_rfl) fun hA => ?_
          exact again hJ (n - (i + 1)) (i + 1) [true] hA (by omega) (by kernel_rfl) (⟨by omega, rfl⟩)
set_option maxRecDepth 20000 in
theorem rFavourite_any (w : World) (B : Nat) (b : Bk) (A : Option Addr) (n c : Nat) (A2 : Option Addr) (m c2 : Nat) (h : BkAt w B b A n c A2 m c2) (hB : B ≤ w.heap.size) : Calls Try.prog 19 #[bkV b A n c A2 m c2] w fun e w' => e = .returned (.tuple #[.int .i64 (favR b), .int .i64 (bookF b)]) ∧ Below w.heap.size w w' := by
  refine enter 11 Try.func19 (by kernel_rfl) fun hA => ?_
  refine runS hA 11 (List.replicate 8 (.k 0)) xn on (by kernel_rfl) fun w1 hA => ?_
  refine callB hA [] on (rcheckBook_any w1 B b A n c A2 m c2 (h.below hA.below hB) (Nat.le_trans hB hA.size)) (by kernel_rfl) fun w2 hb2 hA => ?_
  by_cases h0 : bookF b = 0
  case neg =>
    refine runS hA 7 ([.b true] ++ List.replicate 8 (.k 0)) xn (oc (ne_t h0) on) (by kernel_rfl) fun w3 hA => ?_
    refine callB hA [] on (rcheckBook_any w3 B b A n c A2 m c2 (h.below hA.below hB) (Nat.le_trans hB hA.size)) (by kernel_rfl) fun w4 hb4 hA => ?_
    refine runS hA 6 [] xn on (by kernel_rfl) fun w5 hA => ?_
    exact ret (v := .tuple #[.int .i64 0, .int .i64 (bookF b)]) hA [] (by kernel_rfl) ⟨by rw [show favR b = 0 from if_neg h0], hA.below⟩
  case pos =>
    refine runS hA 9 ([.b false] ++ List.replicate 8 (.k 0)) xn (oc (ne_f h0) on) (by kernel_rfl) fun w3 hA => ?_
    refine callB hA [] on (favouriteOf_any w3 B b A n c A2 m c2 (h.below hA.below hB) (Nat.le_trans hB hA.size) (valid_of h0)) (by kernel_rfl) fun w4 hb4 hA => ?_
    refine runS hA 5 [] xn on (by kernel_rfl) fun w5 hA => ?_
    exact ret (v := .tuple #[.int .i64 (favF b), .int .i64 0]) hA [] (by kernel_rfl) ⟨by rw [show favR b = favF b from if_pos h0, h0], hA.below⟩
end Go.Proofs.Ytkliekipopnibaa

/- law of pool: PoolBooks. -/
namespace Go.Proofs.Ytkliekipopnibaa
open Go.RowKit Go.Shelf

theorem rows_bk {w : World} {b : Bk} {n m c c2 : Nat} {A A2 : Option Addr} {ob ob2 : List KB} (hr1 : RowV 53 3 (.slice A n c) n (encB b.bets) ob) (hr2 : RowV 3 1 (.slice A2 m c2) m (ints b.scr) ob2)
    (h1 : ∀ kb ∈ ob, w.heap[kb.id]? = some kb.obj) (h2 : ∀ kb ∈ ob2, w.heap[kb.id]? = some kb.obj) (hn : n ≤ 1000) (hm : m ≤ 1000) : BkAt w w.heap.size b A n c A2 m c2 := by
  have k1 : BetsAt w w.heap.size A n b.bets ∧ n ≤ c := by
    rcases hr1.2 with ⟨e1, e2, e3⟩ | ⟨g, cap, cur, e1, e2, e3, e4⟩
    · cases e1
      have hl := hr1.1
      rw [encB_len] at hl
      exact ⟨⟨by omega, by omega, fun h0 => absurd h0 (Nat.lt_irrefl 0)⟩, Nat.le_refl _⟩
    · cases e1
      subst e2
      exact row_bets hr1 (h1 _ List.mem_cons_self) hn
  have k2 : IntsAt w w.heap.size A2 m b.scr ∧ m ≤ c2 := by
    rcases hr2.2 with ⟨e1, e2, e3⟩ | ⟨g, cap, cur, e1, e2, e3, e4⟩
    · cases e1
      have hl := hr2.1
      simp only [ints, List.length_map, Nat.mul_one] at hl
      exact ⟨⟨by omega, by omega, fun h0 => absurd h0 (Nat.lt_irrefl 0)⟩, Nat.le_refl _⟩
    · cases e1
      subst e2
      exact row_ints2 hr2 (h2 _ List.mem_cons_self) hm
  exact ⟨k1.1, k2.1, k1.2, k2.2⟩
theorem filt_len (p : Int → Bool) : ∀ xs : List Int, (xs.filter p).length + (xs.filter fun y => !p y).length = xs.length
  | [] => rfl
  | x :: xs => by
    have ih := filt_len p xs
    cases h : p x <;> simp [h] <;> omega
theorem scB_len (b : Bk) (r : Int) : (scB' b r).bets.length ≤ b.bets.length ∧ (scB' b r).scr.length ≤ b.scr.length + 1 := by
  unfold scB'
  split
  · refine ⟨Nat.le_refl _, ?_⟩
    show (insF r b.scr).length ≤ _
    unfold insF
    rw [List.length_append, List.length_cons]
    have h := filt_len (fun y => decide (y < r)) b.scr
    omega
  · exact ⟨Nat.zero_le _, Nat.zero_le _⟩
set_option maxHeartbeats 1000000 in
set_option maxRecDepth 20000 in
theorem PoolBooks_any (w : World) (B : Nat) (b : Bk) (A : Option Addr) (n c : Nat) (A2 : Option Addr) (m c2 : Nat) (r : Int) (h : BkAt w B b A n c A2 m c2) (hB : B ≤ w.heap.size) : Calls Try.prog 3 #[bkV b A n c A2 m c2, .int .i64 r] w fun e w' => e = .returned (.bool true) ∧ Below w.heap.size w w' := by
  have hbl := h.bets.1
  have hxl := h.scr.1
  refine enter 66 Try.func3 (by kernel_rfl) fun hA => ?_
  refine runS hA 10 (List.replicate 8 (.k 0)) xn on (by kernel_rfl) fun w1 hA => ?_
  refine callB hA [] on (great_any w1 b A n c A2 m c2) (by kernel_rfl) fun w2 hb2 hA => ?_
  by_cases hgr : 110 < n ∨ 20 < m
  case pos =>
    refine revals hA (rc 14 (show .bool (decide (110 < n ∨ 20 < m)) = .bool true by rw [decide_eq_true hgr]) rn) (by kernel_rfl) fun hA => ?_
    refine runS hA 5 [] xn on (by kernel_rfl) fun w3 hA => ?_
    refine callB hA [] on (Works_any w3) (by kernel_rfl) fun w4 hb4 hA => ?_
    refine runS hA 5 [] xn on (by kernel_rfl) fun w5 hA => ?_
    exact ret (v := .bool true) hA [] (by kernel_rfl) ⟨rfl, hA.below⟩
  case neg =>
    refine revals hA (rc 14 (show .bool (decide (110 < n ∨ 20 < m)) = .bool false by rw [decide_eq_false hgr]) rn) (by kernel_rfl) fun hA => ?_
    refine runS hA 9 (List.replicate 8 (.k 0)) xn on (by kernel_rfl) fun w3 hA => ?_
    have hApx := hA.atK [⟨w.heap.size, .cells #[.int .i64 b.kind, .int .i64 b.runners, .slice A n c, .slice A2 m c2, .bool b.fav, .int .i64 b.car, .int .i64 b.dut, .int .i64 b.stp] 25 (0, 0)⟩] (by kernel_rfl)
    refine call hA [] on (Scratch_any w3 B b A n c A2 m c2 r (h.below hA.below hB) (Nat.le_trans hB hA.size)) (by kernel_rfl) (by rintro e v ⟨A8x, cbx, A9x, csx, rfl, hbsx, ho1x, ho2x⟩; exact hbsx) ?_
    rintro e w4 ⟨A8x, cbx, A9x, csx, rfl, hbsx, ho1x, ho2x⟩
    refine ⟨_, rfl, fun hA => ?_⟩
    obtain ⟨ob8x, ob9x, hr1x, hr2x, hA2x⟩ := At.own2 hApx hbsx (by decide) ho1x ho2x
    refine reknow ⟨[⟨w.heap.size, .cells #[.int .i64 b.kind, .int .i64 b.runners, .slice A n c, .slice A2 m c2, .bool b.fav, .int .i64 b.car, .int .i64 b.dut, .int .i64 b.stp] 25 (0, 0)⟩], w4.heap.size, [], [], [], [], []⟩ hA2x (Nat.zero_le _) fun hA => ?_
    refine runS hA 12 (List.replicate 8 (.k 1) ++ List.replicate 8 (.k 0)) xn on (by kernel_rfl) fun w5 hA => ?_
    have hApy := hA.atK [⟨w.heap.size, .cells #[.int .i64 b.kind, .int .i64 b.runners, .slice A n c, .slice A2 m c2, .bool b.fav, .int .i64 b.car, .int .i64 b.dut, .int .i64 b.stp] 25 (0, 0)⟩, ⟨w4.heap.size, .cells #[.int .i64 ((scB' b r).kind), .int .i64 ((scB' b r).runners), .slice A8x ((scB' b r).bets.length) cbx, .slice A9x ((scB' b r).scr.length) csx, .bool ((scB' b r).fav), .int .i64 ((scB' b r).car), .int .i64 ((scB' b r).dut), .int .i64 ((scB' b r).stp)] 25 (0, 0)⟩] (by kernel_rfl)
    refine call hA [] on (rScratch_any w5 B b A n c A2 m c2 r (h.below hA.below hB) (Nat.le_trans hB hA.size)) (by kernel_rfl) (by rintro e v ⟨A8y, cby, A9y, csy, rfl, hbsy, ho1y, ho2y⟩; exact hbsy) ?_
    rintro e w6 ⟨A8y, cby, A9y, csy, rfl, hbsy, ho1y, ho2y⟩
    refine ⟨_, rfl, fun hA => ?_⟩
    obtain ⟨ob8y, ob9y, hr1y, hr2y, hA2y⟩ := At.own2 hApy hbsy (by decide) ho1y ho2y
    refine reknow ⟨[⟨w.heap.size, .cells #[.int .i64 b.kind, .int .i64 b.runners, .slice A n c, .slice A2 m c2, .bool b.fav, .int .i64 b.car, .int .i64 b.dut, .int .i64 b.stp] 25 (0, 0)⟩, ⟨w4.heap.size, .cells #[.int .i64 ((scB' b r).kind), .int .i64 ((scB' b r).runners), .slice A8x ((scB' b r).bets.length) cbx, .slice A9x ((scB' b r).scr.length) csx, .bool ((scB' b r).fav), .int .i64 ((scB' b r).car), .int .i64 ((scB' b r).dut), .int .i64 ((scB' b r).stp)] 25 (0, 0)⟩], w6.heap.size, [], [], [], [], []⟩ hA2y (Nat.zero_le _) fun hA => ?_
    refine runS hA 11 (List.replicate 8 (.k 2) ++ List.replicate 8 (.k 0)) xn on (by kernel_rfl) fun w7 hA => ?_
    refine callB hA [] on (Favourite_any w7 B b A n c A2 m c2 (h.below hA.below hB) (Nat.le_trans hB hA.size)) (by kernel_rfl) fun w8 hb8 hA => ?_
    refine runS hA 10 (List.replicate 8 (.k 0)) xn on (by kernel_rfl) fun w9 hA => ?_
    refine callB hA [] on (rFavourite_any w9 B b A n c A2 m c2 (h.below hA.below hB) (Nat.le_trans hB hA.size)) (by kernel_rfl) fun w10 hb10 hA => ?_
    refine runS hA 8 [] xn on (by kernel_rfl) fun w11 hA => ?_
    refine draw hA [true, true, true] [0, 1, 2, 3, 4, 5, 6, 7, 8, 9, 10, 11, 12, 13, 14, 15, 16, 17, 18, 19, 20, 21, 22, 23, 24, 25, 26, 27, 28] (by kernel_rfl) (by kernel_rfl) fun hA => ?_
    refine runS hA 2 ([.t 0] ++ List.replicate 8 (.k 0) ++ [.t 2] ++ List.replicate 8 (.k 0)) xn on (by kernel_rfl) fun w12 hA => ?_
    have hA0CB := hA
    refine latK hA0CB [1, 3] (γ := Unit) (fun _ => [(4, .bool false), (5, .pointer (some ⟨w4.heap.size, 0, none⟩)), (6, .int .i64 (scE b r)), (7, .pointer (some ⟨w6.heap.size, 0, none⟩)), (8, .int .i64 (scE b r)), (9, .int .i64 (favR b)), (10, .int .i64 (bookF b)), (11, .int .i64 (favR b)), (12, .int .i64 (bookF b)), (39, .int .i64 (bookF b)), (41, .int .i64 (bookF b))]) (fun _ => [⟨w.heap.size, .cells #[.int .i64 b.kind, .int .i64 b.runners, .slice A n c, .slice A2 m c2, .bool b.fav, .int .i64 b.car, .int .i64 b.dut, .int .i64 b.stp] 25 (0, 0)⟩, ⟨w4.heap.size, .cells #[.int .i64 ((scB' b r).kind), .int .i64 ((scB' b r).runners), .slice A8x ((scB' b r).bets.length) cbx, .slice A9x ((scB' b r).scr.length) csx, .bool ((scB' b r).fav), .int .i64 ((scB' b r).car), .int .i64 ((scB' b r).dut), .int .i64 ((scB' b r).stp)] 25 (0, 0)⟩, ⟨w6.heap.size, .cells #[.int .i64 ((scB' b r).kind), .int .i64 ((scB' b r).runners), .slice A8y ((scB' b r).bets.length) cby, .slice A9y ((scB' b r).scr.length) csy, .bool ((scB' b r).fav), .int .i64 ((scB' b r).car), .int .i64 ((scB' b r).dut), .int .i64 ((scB' b r).stp)] 25 (0, 0)⟩]) (fun _ => ob8y ++ (ob9y ++ (ob8x ++ (ob9x ++ ([]))))) (fun _ _ => True) (fun hCB1_3 => ?_) ?_
    ·
      refine latS hA0CB [1] (γ := Unit) (fun _ => [(2, .pointer (some ⟨w.heap.size, 0, none⟩)), (4, .bool false), (5, .pointer (some ⟨w4.heap.size, 0, none⟩)), (6, .int .i64 (scE b r)), (7, .pointer (some ⟨w6.heap.size, 0, none⟩)), (8, .int .i64 (scE b r)), (9, .int .i64 (favR b)), (10, .int .i64 (bookF b)), (11, .int .i64 (favR b)), (12, .int .i64 (bookF b)), (38, .agg #[.int .i64 b.kind, .int .i64 b.runners, .slice A n c, .slice A2 m c2, .bool b.fav, .int .i64 b.car, .int .i64 b.dut, .int .i64 b.stp]), (39, .int .i64 (bookF b)), (40, .agg #[.int .i64 b.kind, .int .i64 b.runners, .slice A n c, .slice A2 m c2, .bool b.fav, .int .i64 b.car, .int .i64 b.dut, .int .i64 b.stp])]) (fun _ => [⟨w.heap.size, .cells #[.int .i64 b.kind, .int .i64 b.runners, .slice A n c, .slice A2 m c2, .bool b.fav, .int .i64 b.car, .int .i64 b.dut, .int .i64 b.stp] 25 (0, 0)⟩, ⟨w4.heap.size, .cells #[.int .i64 ((scB' b r).kind), .int .i64 ((scB' b r).runners), .slice A8x ((scB' b r).bets.length) cbx, .slice A9x ((scB' b r).scr.length) csx, .bool ((scB' b r).fav), .int .i64 ((scB' b r).car), .int .i64 ((scB' b r).dut), .int .i64 ((scB' b r).stp)] 25 (0, 0)⟩, ⟨w6.heap.size, .cells #[.int .i64 ((scB' b r).kind), .int .i64 ((scB' b r).runners), .slice A8y ((scB' b r).bets.length) cby, .slice A9y ((scB' b r).scr.length) csy, .bool ((scB' b r).fav), .int .i64 ((scB' b r).car), .int .i64 ((scB' b r).dut), .int .i64 ((scB' b r).stp)] 25 (0, 0)⟩]) (fun _ => ob8y ++ (ob9y ++ (ob8x ++ (ob9x ++ ([]))))) (fun _ _ => True) ?_ (fun hCB1 => ?_)
      · rintro _ wl13 _ hA
        refine callB hA [] on (rcheckBook_any wl13 B b A n c A2 m c2 (h.below hA.below hB) (Nat.le_trans hB hA.size)) (by kernel_rfl) fun w114 hb114 hA => ?_
        exact joinE hCB1_3 () trivial [0, 1, 2] hA rfl (by kernel_rfl) (by decide)
      replace hA := hA0CB
      refine callB hA [] on (checkBook_any w12 B b A n c A2 m c2 (h.below hA.below hB) (Nat.le_trans hB hA.size)) (by kernel_rfl) fun w14 hb14 hA => ?_
      exact joinE hCB1 () trivial [0, 1, 2] hA rfl (by kernel_rfl) (by decide)
    rintro _ w63 _ hA
    refine runS hA 4 ([.t 4, .t 5, .t 6, .g true] ++ List.replicate 8 (.k 1) ++ [.t 7, .g true] ++ List.replicate 8 (.k 2)) xn (oc (eq_t (a := bookF b) (b := bookF b) rfl) (oc (rfl : Value.bool true = .bool true) on)) (by kernel_rfl) fun w64 hA => ?_
    have hle := scB_len b r
    have hX := rows_bk hr1x hr2x (fun kb hk => hA.at_.rok kb (List.mem_append_right _ (List.mem_append_right _ (List.mem_append_left _ hk)))) (fun kb hk => hA.at_.rok kb (List.mem_append_right _ (List.mem_append_right _ (List.mem_append_right _ (List.mem_append_left _ hk))))) (by omega) (by omega)
    have hY := rows_bk hr1y hr2y (fun kb hk => hA.at_.rok kb (List.mem_append_left _ hk)) (fun kb hk => hA.at_.rok kb (List.mem_append_right _ (List.mem_append_left _ hk))) (by omega) (by omega)
    refine callB hA [] on (same_any w64 w64.heap.size (scB' b r) A8x (scB' b r).bets.length cbx A9x (scB' b r).scr.length csx A8y (scB' b r).bets.length cby A9y (scB' b r).scr.length csy hX hY (Nat.le_refl _)) (by kernel_rfl) fun w65 hb65 hA => ?_
    refine runS hA 17 [.t 9, .t 10, .t 11, .g true, .t 12, .g true, .t 13, .g true, .t 14, .t 15, .t 16, .g true, .t 17, .g true, .t 18, .g true, .t 19, .t 20, .t 21, .g true, .t 22, .g true, .t 23, .g true, .t 24, .t 25] xn (oc (rfl : Value.bool true = .bool true) (oc (rfl : Value.bool true = .bool true) (oc (rfl : Value.bool true = .bool true) (oc (eq_t (a := scE b r) (b := scE b r) rfl) (oc (rfl : Value.bool true = .bool true) (oc (rfl : Value.bool true = .bool true) (oc (eq_t (a := favR b) (b := favR b) rfl) (oc (rfl : Value.bool true = .bool true) (oc (rfl : Value.bool true = .bool true) on))))))))) (by kernel_rfl) fun w66 hA => ?_
    refine revals hA (rc 63 (eq_t (a := bookF b) (b := bookF b) rfl) rn) (by kernel_rfl) fun hA => ?_
    refine callB hA [] on (Works_any w66) (by kernel_rfl) fun w67 hb67 hA => ?_
    refine runS hA 5 [.t 27, .t 28, .b true] xn on (by kernel_rfl) fun w68 hA => ?_
    exact ret (v := .bool true) hA [] (by kernel_rfl) ⟨rfl, hA.below⟩
end Go.Proofs.Ytkliekipopnibaa

/- PoolBooks answers true whatever the book and the runner; the arguments read behind the call as they did. No condition. -/
namespace Go.Proofs.Ytkliekipopnibaa.poolBooks
open Go.ChangeShapes Go.WideShapes Go.ChangeAt Go.RowKit

theorem own : ownKnob Try.prog.godebug = none := by kernel_rfl
theorem laidOut : laidOutB Try.prog = true := by kernel_rfl
theorem cellsInt : Try.prog.cellsOf 3 = 1 := by kernel_rfl
/-- A slice of numbers among the arguments. -/
theorem ints_arg {H : Type} {enc : TypeId × Value → H} {W : World} {fuel : Nat} {v : Value} {x : DataW H × List MemPlace} (h : DataW.trod enc Try.prog W 0 (fun _ => true) true fuel 23 [v] = some x) :
    ∃ A n c xs, v = .slice A n c ∧ n ≤ c ∧ IntsAt W W.heap.size A n xs := by
  rcases open_ints Try.underlying23 Try.underlying3 cellsInt h with ⟨hcs, -⟩ | ⟨a, n, c, zs, hcs, -, hl, hm, hz, -, hcell, -⟩
  · obtain rfl : v = .slice none 0 0 := by simpa using hcs
    exact ⟨none, 0, 0, [], rfl, Nat.le_refl _, IntsAt.nil⟩
  · obtain rfl : v = .slice (some a) n c := by simpa using hcs
    have hz : zs.length = c := by simpa using hz
    refine ⟨some a, n, c, zs.take n, rfl, hl, by rw [List.length_take]; omega, by simp only [maxLen] at hm; omega, fun h0 => ?_⟩
    obtain ⟨b, off, rfl, hc⟩ := Go.ints_at hcell (by omega)
    refine ⟨b, off, rfl, ?_, fun j hj => ?_⟩
    · rcases Nat.lt_or_ge b W.heap.size with hb | hb
      · exact hb
      · have := hc 0 (by omega)
        simp [World.cell?, Array.getElem?_eq_none hb] at this
    · rw [hc j (by omega), List.getElem?_take, if_pos hj, List.getD_eq_getElem?_getD]
theorem cellsI64 : Try.prog.cellsOf 2 = 1 := by kernel_rfl
theorem cellsBool : Try.prog.cellsOf 4 = 1 := by kernel_rfl
theorem cellsBet : Try.prog.cellsOf 53 = 3 := by kernel_rfl
theorem cellsBets : Try.prog.cellsOf 22 = 1 := by kernel_rfl
theorem cellsInts : Try.prog.cellsOf 23 = 1 := by kernel_rfl
theorem cellsBook : Try.prog.cellsOf 25 = 8 := by kernel_rfl
theorem bet_gen {H : Type} {enc : TypeId × Value → H} {P : Program} {W : World} {fuel : Nat} {T I J : TypeId} {f0 f1 f2 : Field} (ht : P.underlying T = some (.struct #[f0, f1, f2])) (hi : P.underlying I = some (.int .i64)) (hj : P.underlying J = some (.int .i64)) (cI : P.cellsOf I = 1) (cJ : P.cellsOf J = 1) (cT : P.cellsOf T = 3)
    (o0 : f0.offset = 0 ∧ f0.type = I) (o1 : f1.offset = 1 ∧ f1.type = I) (o2 : f2.offset = 2 ∧ f2.type = J) {cs : List Value} {x : DataW H × List MemPlace} (h : DataW.trod enc P W 0 (fun _ => true) true fuel T cs = some x) :
    ∃ y : Bet, cs = [.int .i64 y.first, .int .i64 y.second, .int .i64 y.units] := by
  obtain ⟨xs, m, -, -, hl, hn, hf⟩ := Go.DataW.trod_struct ht h
  rw [cT] at hl
  obtain ⟨v0, v1, v2, rfl⟩ : ∃ v0 v1 v2, cs = [v0, v1, v2] := by
    match cs, hl with
    | [a, b, c], _ => exact ⟨a, b, c, rfl⟩
  have g0 := hf 0 f0 rfl
  have g1 := hf 1 f1 rfl
  have g2 := hf 2 f2 rfl
  simp only [List.size_toArray, List.length_cons, List.length_nil] at hn
  rw [List.getElem?_eq_getElem (by omega)] at g0 g1 g2
  rw [o0.1, o0.2, cI] at g0
  rw [o1.1, o1.2, cI] at g1
  rw [o2.1, o2.2, cJ] at g2
  obtain ⟨a, e0, -, -⟩ := Go.DataW.trod_int hi g0
  obtain ⟨b, e1, -, -⟩ := Go.DataW.trod_int hi g1
  obtain ⟨c, e2, -, -⟩ := Go.DataW.trod_int hj g2
  simp at e0 e1 e2
  exact ⟨⟨a, b, c⟩, by rw [e0, e1, e2]⟩
theorem bet_arg {H : Type} {enc : TypeId × Value → H} {W : World} {fuel : Nat} {cs : List Value} {x : DataW H × List MemPlace} (h : DataW.trod enc Try.prog W 0 (fun _ => true) true fuel 53 cs = some x) :
    ∃ y : Bet, cs = [.int .i64 y.first, .int .i64 y.second, .int .i64 y.units] := bet_gen Try.underlying53 Try.underlying3 Try.underlying2 cellsInt cellsI64 cellsBet ⟨rfl, rfl⟩ ⟨rfl, rfl⟩ ⟨rfl, rfl⟩ h
/-- A slice of bets among the arguments. -/
theorem bets_arg {H : Type} {enc : TypeId × Value → H} {W : World} {fuel : Nat} {v : Value} {x : DataW H × List MemPlace} (h : DataW.trod enc Try.prog W 0 (fun _ => true) true fuel 22 [v] = some x) :
    ∃ A n c bs, v = .slice A n c ∧ n ≤ c ∧ BetsAt W W.heap.size A n bs := by
  rcases Go.Deep.open_slice Try.underlying22 h with ⟨hcs, -⟩ | ⟨a, len, cap, m, n', D, Pl, hcs, -, hl, hm, hmm, -, hel⟩
  · obtain rfl : v = .slice none 0 0 := by simpa using hcs
    exact ⟨none, 0, 0, [], rfl, Nat.le_refl _, rfl, by omega, fun h => absurd h (by omega)⟩
  · obtain rfl : v = .slice (some a) len cap := by simpa using hcs
    have hmc : m = cap := by simpa using hmm
    have each : ∀ i, i < len → ∃ y : Bet, W.cell? (a.add (i * 3)) = some (.int .i64 y.first) ∧ W.cell? (a.add (i * 3 + 1)) = some (.int .i64 y.second) ∧ W.cell? (a.add (i * 3 + 2)) = some (.int .i64 y.units) := by
      intro i hi
      obtain ⟨cs', h1, h2⟩ := hel i (by omega)
      obtain ⟨y, rfl⟩ := bet_arg h2
      rw [cellsBet] at h1
      obtain ⟨_, hlen, hcell⟩ := World.cells?_some h1
      have g0 := hcell 0 (by omega)
      have g1 := hcell 1 (by omega)
      have g2 := hcell 2 (by omega)
      rw [Go.Deep.add_add] at g0 g1 g2
      exact ⟨y, by simpa using g0, by simpa using g1, by simpa using g2⟩
    obtain ⟨fx, hfx⟩ := Go.Deep.choose_lt each
    refine ⟨some a, len, cap, (List.range len).map fx, rfl, hl, by simp, by simp only [maxLen] at hm; omega, fun h0 => ?_⟩
    obtain ⟨b, off, spot⟩ := a
    have hc0 := (hfx 0 h0).1
    have hspot : spot = none := by simpa [Addr.add] using World.cell?_spot hc0
    subst hspot
    refine ⟨b, off, rfl, ?_, fun j hj => ?_⟩
    · rcases Nat.lt_or_ge b W.heap.size with hb | hb
      · exact hb
      · simp [World.cell?, Addr.add, Array.getElem?_eq_none hb] at hc0
    · have e := hfx j hj
      rw [Go.WideShapes.add_plain, Go.WideShapes.add_plain, Go.WideShapes.add_plain] at e
      rw [List.getElem?_map, List.getElem?_range hj, Option.map_some, Option.getD_some]
      exact e
theorem book_gen {H : Type} {enc : TypeId × Value → H} {P : Program} {W : World} {fuel : Nat} {T I J S R C : TypeId} {f0 f1 f2 f3 f4 f5 f6 f7 : Field} (ht : P.underlying T = some (.struct #[f0, f1, f2, f3, f4, f5, f6, f7])) (hi : P.underlying I = some (.int .i64)) (hj : P.underlying J = some (.int .i64)) (hb : P.underlying C = some .bool)
    (cI : P.cellsOf I = 1) (cJ : P.cellsOf J = 1) (cS : P.cellsOf S = 1) (cR : P.cellsOf R = 1) (cC : P.cellsOf C = 1) (cT : P.cellsOf T = 8)
    (o0 : f0.offset = 0 ∧ f0.type = I) (o1 : f1.offset = 1 ∧ f1.type = I) (o2 : f2.offset = 2 ∧ f2.type = S) (o3 : f3.offset = 3 ∧ f3.type = R) (o4 : f4.offset = 4 ∧ f4.type = C) (o5 : f5.offset = 5 ∧ f5.type = J) (o6 : f6.offset = 6 ∧ f6.type = J) (o7 : f7.offset = 7 ∧ f7.type = J)
    {cs : Array Value} {x : DataW H × List MemPlace} (h : DataW.trod enc P W 0 (fun _ => true) true fuel T cs.toList = some x) :
    ∃ (a0 a1 : Int) (v2 v3 : Value) (a4 : Bool) (a5 a6 a7 : Int) (q : Nat) (x2 x3 : DataW H × List MemPlace), cs = #[.int .i64 a0, .int .i64 a1, v2, v3, .bool a4, .int .i64 a5, .int .i64 a6, .int .i64 a7] ∧
      DataW.trod enc P W 0 (fun _ => true) true q S [v2] = some x2 ∧ DataW.trod enc P W 0 (fun _ => true) true q R [v3] = some x3 := by
  obtain ⟨xs, q, -, -, hl, hn, hf⟩ := Go.DataW.trod_struct ht h
  rw [cT] at hl
  obtain ⟨v0, v1, v2, v3, v4, v5, v6, v7, hc⟩ : ∃ v0 v1 v2 v3 v4 v5 v6 v7, cs.toList = [v0, v1, v2, v3, v4, v5, v6, v7] := by
    generalize cs.toList = l at hl
    match l, hl with
    | [a, b, c, d, e, f, g, h], _ => exact ⟨a, b, c, d, e, f, g, h, rfl⟩
  rw [hc] at hf
  simp only [List.size_toArray, List.length_cons, List.length_nil] at hn
  have g0 := hf 0 f0 rfl
  have g1 := hf 1 f1 rfl
  have g2 := hf 2 f2 rfl
  have g3 := hf 3 f3 rfl
  have g4 := hf 4 f4 rfl
  have g5 := hf 5 f5 rfl
  have g6 := hf 6 f6 rfl
  have g7 := hf 7 f7 rfl
  rw [List.getElem?_eq_getElem (by omega)] at g0 g1 g2 g3 g4 g5 g6 g7
  rw [o0.1, o0.2, cI] at g0
  rw [o1.1, o1.2, cI] at g1
  rw [o2.1, o2.2, cS] at g2
  rw [o3.1, o3.2, cR] at g3
  rw [o4.1, o4.2, cC] at g4
  rw [o5.1, o5.2, cJ] at g5
  rw [o6.1, o6.2, cJ] at g6
  rw [o7.1, o7.2, cJ] at g7
  obtain ⟨a0, e0, -, -⟩ := Go.DataW.trod_int hi g0
  obtain ⟨a1, e1, -, -⟩ := Go.DataW.trod_int hi g1
  obtain ⟨a4, e4, -⟩ := Go.DataW.trod_bool hb g4
  obtain ⟨a5, e5, -, -⟩ := Go.DataW.trod_int hj g5
  obtain ⟨a6, e6, -, -⟩ := Go.DataW.trod_int hj g6
  obtain ⟨a7, e7, -, -⟩ := Go.DataW.trod_int hj g7
  simp at e0 e1 e4 e5 e6 e7
  refine ⟨a0, a1, v2, v3, a4, a5, a6, a7, q, _, _, ?_, by simpa using g2, by simpa using g3⟩
  apply Array.toList_inj.1
  rw [hc, e0, e1, e4, e5, e6, e7]
/-- A book among the arguments. -/
theorem book_arg {H : Type} {enc : TypeId × Value → H} {W : World} {fuel : Nat} {cs : Array Value} {x : DataW H × List MemPlace} (h : DataW.trod enc Try.prog W 0 (fun _ => true) true fuel 25 cs.toList = some x) :
    ∃ b A n c A2 m c2, cs = bkC b A n c A2 m c2 ∧ BkAt W W.heap.size b A n c A2 m c2 := by
  obtain ⟨a0, a1, v2, v3, a4, a5, a6, a7, q, x2, x3, rfl, f2, f3⟩ := book_gen Try.underlying25 Try.underlying3 Try.underlying2 Try.underlying4 cellsInt cellsI64 cellsBets cellsInts cellsBool cellsBook ⟨rfl, rfl⟩ ⟨rfl, rfl⟩ ⟨rfl, rfl⟩ ⟨rfl, rfl⟩ ⟨rfl, rfl⟩ ⟨rfl, rfl⟩ ⟨rfl, rfl⟩ ⟨rfl, rfl⟩ h
  obtain ⟨A, n, c, bs, rfl, l2, i2⟩ := bets_arg f2
  obtain ⟨A2, m, c2, ss, rfl, l3, i3⟩ := ints_arg f3
  exact ⟨⟨a0, a1, bs, ss, a4, a5, a6, a7⟩, A, n, c, A2, m, c2, rfl, i2, i3, l2, l3⟩

/-! ### THE ROW's STEP -/
set_option maxRecDepth 100000 in
theorem lifted (os : Os) (started : os.Started) (H : Type) (enc : TypeId × Value → H) :
    ReturnsInHanded {} Try.checked os 3 .any (Rows.poolBooksSpec.pre6 enc Try.prog Try.f3 Rows.poolBooksRow.domain false) (Rows.poolBooksSpec.post enc Try.prog Try.f3 false true false false) := by
  refine returnsInHanded_of_change (C := Try.checked) own started (by kernel_rfl) Try.func3
    (ChangeSpec.witness6 (enc := enc) (C := Try.checked) false ⟨#[], #[.agg #[.int .i64 0, .int .i64 0, .slice none 0 0, .slice none 0 0, .bool false, .int .i64 0, .int .i64 0, .int .i64 0], .int .i64 0], []⟩ 8 (by kernel_rfl) (by kernel_rfl) (by kernel_rfl) (by kernel_rfl)) ?_
  intro W base args ds gs before hval0 hW hcnd _
  have hval : ∀ (j : Nat) t v, Try.f3.params[j]? = some t → args[j]? = some v → Value.okWide Try.prog W .any base t v := hval0
  have hW' := hW
  obtain ⟨p, q, hA0, hV, rfl, hfz, hnd⟩ := hW
  have hA : DataW.TrodAll enc Try.prog W 0 (fun _ => true) true Try.f3.params.toList args.toList ds p := hA0
  rw [Try.params3] at hA hval
  obtain ⟨v0, v1, d0, d1, p0, p1, rfl, rfl, rfl, h0, h1⟩ := trodAll_two hA
  obtain ⟨rfl, rfl⟩ := trodVars_none hV
  obtain ⟨cs0, rfl, -⟩ := okWide_struct Try.underlying25 (hval 0 25 v0 rfl rfl)
  obtain ⟨x1, rfl, rfl, rfl, wx1⟩ := open_int Try.underlying3 (hval 1 3 v1 rfl rfl) h1
  have h0k := h0
  obtain ⟨f0, hf0⟩ := h0
  obtain ⟨b0, A0, n0, c0, B0, m0, d0, e0, i0⟩ := book_arg (cs := cs0) hf0
  subst e0
  clear hA0 hval0
  simp only [List.append_nil] at hW'
  have hlt0 : ∀ x ∈ p0, x.block < W.heap.size := fun x hx => by simpa using hW'.lt x (by simp [hx])
  refine (PoolBooks_any W W.heap.size b0 A0 n0 c0 B0 m0 d0 x1 i0 (Nat.le_refl _)).mono fun e W' ⟨he, hg⟩ => ?_
  subst he
  exact ⟨_, rfl, _, _, _, [], p0 ++ [], [], hW', trodAll_cons_mk (shut_bool Try.underlying4 _) trodAll_mk0,
    trodAll_mk2 (Below.trod laidOut (by kernel_rfl) (of_decide_eq_true (by kernel_rfl)) h0k hg hlt0) (shut_int Try.underlying3 wx1),
    rfl, hg.frame _, fun h => by cases h⟩

theorem over : Rows.poolBooksRow.holds Try.pinned (OpenSpec.ofChange Rows.poolBooksSpec) :=
  OpenClaim.holds_of_wide 3 Try.f3 rfl rfl rfl rfl rfl rfl rfl ⟨rfl, rfl, rfl, rfl, rfl⟩ rfl rfl rfl rfl rfl (by kernel_rfl) Try.func3 (by kernel_rfl)
    (of_decide_eq_true (by kernel_rfl)) (by unfold Func.isWrapper; first | (rw [if_pos (by decide +kernel)]; kernel_rfl) | (rw [if_neg (by decide +kernel)]; exact ⟨rfl, rfl⟩))
    (fun os started H enc _ => lifted os started H enc)

/-- The statement. -/
theorem proved : Rows.PoolBooksSaid :=
  over
#print axioms proved
end Go.Proofs.Ytkliekipopnibaa.poolBooks
