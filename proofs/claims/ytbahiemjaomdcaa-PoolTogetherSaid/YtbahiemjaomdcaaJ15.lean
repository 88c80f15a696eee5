/- PoolTogether answers true whatever the book, the numbers of the finish, and which groups come in together; the arguments read behind the call as they did. No condition. -/
import Derived.Test.YtbahiemjaomdcaaJ14
import Derived.Test.YtbahiemjaomdcaaRows
import Derived.WalkKit
import Derived.ProofKit
import Derived.OpenShut
import Derived.Carry
import Derived.Deep.Slices
import Derived.ChangeSame

/- law of pool: PoolTogether. -/
namespace Go.Proofs.Ytbahiemjaomdcaa
open Go.RowKit Go.Shelf

set_option maxHeartbeats 4000000 in
set_option maxRecDepth 20000 in
theorem PoolTogether_any (w : World) (B : Nat) (b : Bk) (A : Option Addr) (n c : Nat) (A2 : Option Addr) (m c2 : Nat) (A3 : Option Addr) (ny cy : Nat) (ys : List Int) (o1 : Int) (h : BkAt w B b A n c A2 m c2) (hy : U8At w B A3 ny ys) (ho1 : 0 ≤ o1 ∧ o1 ≤ 255) (hB : B ≤ w.heap.size) : Calls Try.prog 9 #[bkV b A n c A2 m c2, .slice A3 ny cy, .int .u8 o1] w fun e w' => e = .returned (.bool true) ∧ Below w.heap.size w w' := by
  have hq9 : ∃ a1 : Nat, o1 = (a1 : Int) := ⟨o1.toNat, by omega⟩
  obtain ⟨a1, ha1⟩ := hq9
  subst ha1
  have hwa1 : IntKind.i64.wrap (a1 : Int) = (a1 : Int) := by rw [IntKind.wrap_i64]; omega
  refine enter 189 Try.func9 (by kernel_rfl) fun hA => ?_
  refine runS hA 10 (List.replicate 8 (.k 0)) xn on (by kernel_rfl) fun w1 hA => ?_
  have hbl := h.bets.1
  have hxl := h.scr.1
  have hyl := hy.1
  refine callB hA [] on (fine_any w1 B b A n c A2 m c2 (h.below hA.below hB) (Nat.le_trans hB hA.size)) (by kernel_rfl) fun w2 hb2 hA => ?_
  by_cases hfi : ¬ (110 < n ∨ 20 < m) ∧ bookF b = 0
  case neg =>
    refine revals hA (rc 26 (show .bool (decide (¬ (110 < n ∨ 20 < m) ∧ bookF b = 0)) = .bool false by rw [decide_eq_false hfi]) rn) (by kernel_rfl) fun hA => ?_
    refine runS hA 11 [.g true, .g true, .g true] xn (oc (rfl : Value.bool true = .bool true) (oc (rfl : Value.bool true = .bool true) (oc (rfl : Value.bool true = .bool true) on))) (by kernel_rfl) fun w3 hA => ?_
    refine callB hA [] on (Works_any w3) (by kernel_rfl) fun w4 hb4 hA => ?_
    refine runS hA 5 [] xn on (by kernel_rfl) fun w5 hA => ?_
    exact ret (v := .bool true) hA [] (by kernel_rfl) ⟨rfl, hA.below⟩
  case pos =>
    obtain ⟨hgr, h0⟩ := hfi
    have V := valid_of h0
    have hv1 := V.run
    have hv2 := V.len
    refine revals hA (rc 26 (show .bool (decide (¬ (110 < n ∨ 20 < m) ∧ bookF b = 0)) = .bool true by rw [decide_eq_true ⟨hgr, h0⟩]) rn) (by kernel_rfl) fun hA => ?_
    refine runS hA 5 [.g false, .g false, .g false] xn (oc (rfl : Value.bool false = .bool false) (oc (rfl : Value.bool false = .bool false) (oc (rfl : Value.bool false = .bool false) on))) (by kernel_rfl) fun w3 hA => ?_
    by_cases h20 : (ny : Int) > 20
    case pos =>
      refine revals hA (rc 31 (dec_t h20) rn) (by kernel_rfl) fun hA => ?_
      refine runS hA 6 [] xn on (by kernel_rfl) fun w4 hA => ?_
      refine callB hA [] on (Works_any w4) (by kernel_rfl) fun w5 hb5 hA => ?_
      refine runS hA 5 [] xn on (by kernel_rfl) fun w6 hA => ?_
      exact ret (v := .bool true) hA [] (by kernel_rfl) ⟨rfl, hA.below⟩
    case neg =>
      refine revals hA (rc 31 (dec_f h20) rn) (by kernel_rfl) fun hA => ?_
      refine runS hA 10 (List.replicate 8 (.k 0)) xn on (by kernel_rfl) fun w4 hA => ?_
      have hfin := finL_isFin V ys
      have hat0 := finL_at h0 ys
      have hq9 : ∃ FN, FN = (finL b ys 8).length := ⟨_, rfl⟩
      obtain ⟨FN, hFN⟩ := hq9
      have hF8 : FN ≤ 8 := by rw [hFN]; exact finL_len _ _ 8
      have hF1 : 0 < FN := by rw [hFN]; exact (fin_ok V hfin).pos
      have hApf := hA.atK [⟨w.heap.size, .cells #[.int .i64 b.kind, .int .i64 b.runners, .slice A n c, .slice A2 m c2, .bool b.fav, .int .i64 b.car, .int .i64 b.dut, .int .i64 b.stp] 25 (0, 0)⟩] (by kernel_rfl)
      have hP := Finish_any w4 B b A n c A2 m c2 A3 ny cy ys (h.below hA.below hB) (hy.below hA.below hB) (Nat.le_trans hB hA.size) V
      rw [← hFN] at hP
      refine call hA [] on (hP) (by kernel_rfl) (by rintro e v ⟨Af, cf, ob, rfl, hbf, hof, hfk⟩; exact hbf) ?_
      rintro e w5 ⟨Af, cf, ob, rfl, hbf, hof, hfk⟩
      refine ⟨_, rfl, fun hA => ?_⟩
      have hA2f := At.ownL hApf hbf hof
      have hf0 := hfk _ (fun kb hk => hA2f.rok kb (List.mem_append_left _ hk))
      have hq9 := hf0.2.2 hF1
      obtain ⟨bf, of, rfl, hbf1, hcf⟩ := hq9
      refine reknow ⟨[⟨w.heap.size, .cells #[.int .i64 b.kind, .int .i64 b.runners, .slice A n c, .slice A2 m c2, .bool b.fav, .int .i64 b.car, .int .i64 b.dut, .int .i64 b.stp] 25 (0, 0)⟩], w5.heap.size, [], [], [], [], []⟩ hA2f (Nat.zero_le _) fun hA => ?_
      refine runS hA 1 [] xn on (by kernel_rfl) fun w6 hA => ?_
      by_cases h2 : FN < 2
      case pos =>
        refine runS hA 13 [.b true] xn (oc (dec_t (show ((FN : Int) < (2 : Int)) by omega)) on) (by kernel_rfl) fun w7 hA => ?_
        refine callB hA [] on (Works_any w7) (by kernel_rfl) fun w8 hb8 hA => ?_
        refine runS hA 5 [] xn on (by kernel_rfl) fun w9 hA => ?_
        exact ret (v := .bool true) hA [] (by kernel_rfl) ⟨rfl, hA.below⟩
      case neg =>
        have hf1 := hfk _ (fun kb hk => hA.at_.rok kb (List.mem_append_left _ hk))
        have hx1 : BkAt w6 w6.heap.size b A n c A2 m c2 := (h.below hA.below hB).more (Nat.le_trans hB hA.size)
        have hK0 := hA.atK [⟨w.heap.size, .cells #[.int .i64 b.kind, .int .i64 b.runners, .slice A n c, .slice A2 m c2, .bool b.fav, .int .i64 b.car, .int .i64 b.dut, .int .i64 b.stp] 25 (0, 0)⟩] (by kernel_rfl)
        have hobb := hK0.ok ⟨w.heap.size, .cells #[.int .i64 b.kind, .int .i64 b.runners, .slice A n c, .slice A2 m c2, .bool b.fav, .int .i64 b.car, .int .i64 b.dut, .int .i64 b.stp] 25 (0, 0)⟩ (List.mem_of_getElem? (i := 0) (by kernel_rfl))
        have hcb0 := cell_lt (cell_of_obj (a := ⟨w.heap.size, 0, none⟩) hobb rfl rfl)
        have hcb1 := cell_lt (cell_of_obj (a := ⟨w.heap.size, 1, none⟩) hobb rfl rfl)
        have hcb2 := cell_lt (cell_of_obj (a := ⟨w.heap.size, 2, none⟩) hobb rfl rfl)
        have hcb3 := cell_lt (cell_of_obj (a := ⟨w.heap.size, 3, none⟩) hobb rfl rfl)
        have hcb4 := cell_lt (cell_of_obj (a := ⟨w.heap.size, 4, none⟩) hobb rfl rfl)
        have hcb5 := cell_lt (cell_of_obj (a := ⟨w.heap.size, 5, none⟩) hobb rfl rfl)
        have hcb6 := cell_lt (cell_of_obj (a := ⟨w.heap.size, 6, none⟩) hobb rfl rfl)
        have hcb7 := cell_lt (cell_of_obj (a := ⟨w.heap.size, 7, none⟩) hobb rfl rfl)
        have hWb := hA.below
        have hWs := hA.size
        refine rebase hA w6 (by kernel_rfl) (At.start _) fun hA => ?_
        have hq9 := fin_vals hf1
        obtain ⟨vs, hvl, hvr, hva⟩ := hq9
        have hq9 : ∃ k, k = a1 % (FN - 1) := ⟨_, rfl⟩
        obtain ⟨k, hmk⟩ := hq9
        have hlk : k < FN - 1 := by rw [hmk]; exact Nat.mod_lt _ (by omega)
        have hq9 : ∃ F, F = (finL b ys 8)[k]?.getD [] := ⟨_, rfl⟩
        obtain ⟨F, hF⟩ := hq9
        have hq9 : ∃ G, G = (finL b ys 8)[k + 1]?.getD [] := ⟨_, rfl⟩
        obtain ⟨G, hG⟩ := hq9
        refine runS hA 20 [.b false] xn (oc (dec_f (show ¬ ((FN : Int) < (2 : Int)) by omega)) on) (by kernel_rfl) fun w7 hA => ?_
        refine revals hA (rc 45 (wr64 (x := (FN : Int) - 1) (y := ((FN - 1 : Nat) : Int)) (by omega) (by omega)) rn) (by kernel_rfl) fun hA => ?_
        refine runS hA 1 [.z] xn (oc (show ((FN - 1 : Nat) : Int) ≠ (0 : Int) by omega) on) (by kernel_rfl) fun w8 hA => ?_
        refine revals hA (rc 46 (show .int .i64 ((IntKind.i64.wrap (a1 : Int)).tmod ((FN - 1 : Nat) : Int)) = .int .i64 (k : Int) by rw [hwa1, ← Int.ofNat_tmod, ← hmk]) rn) (by kernel_rfl) fun hA => ?_
        refine runS hA 15 [] xn on (by kernel_rfl) fun w9 hA => ?_
        have hr0 : RowV 23 1 (.slice none (outV vs (k + 1) 0).length 0) (outV vs (k + 1) 0).length (outV vs (k + 1) 0) [] := RowV.nil _ _
        refine loop (γ := Nat × Option Addr × Nat × List KB) (fun ⟨q, Ag, cg, og⟩ => [(3, .pointer (some ⟨w.heap.size, 0, none⟩)), (6, .bool false), (7, .slice (some ⟨bf, of, none⟩) FN cf), (8, .int .i64 (k : Int)), (9, .slice Ag ((outV vs (k + 1) q).length) cg), (10, .int .i64 (q : Int))]) (fun ⟨q, Ag, cg, og⟩ => []) (fun ⟨q, Ag, cg, og⟩ => og ++ ([])) (fun g ⟨q, Ag, cg, og⟩ wr => q ≤ FN ∧ g = FN - q ∧ RowV 23 1 (.slice Ag (outV vs (k + 1) q).length cg) (outV vs (k + 1) q).length (outV vs (k + 1) q) og) FN ⟨0, none, 0, []⟩ [] hA (by kernel_rfl) (⟨Nat.zero_le _, rfl, hr0⟩) ?_
        rintro _ ⟨q, Ag, cg, og⟩ wr ⟨hq, rfl, hrq⟩ J hJ hA
        have hol9 := outV_le vs (k + 1) q
        by_cases hlt : q < FN
        case pos =>
          have hcq := vals_cell hvr (j := q) (by omega)
          have hq9 := hva.at (j := q) (by omega)
          obtain ⟨Aq, cq, hq1, hq2, hq3⟩ := hq9
          rw [hq1] at hcq
          refine runS hA 19 [.b true] xn (oc (dec_t (show (((q : Int) : Int) < (FN : Int)) by omega)) on) (by kernel_rfl) fun w10 hA => ?_
          refine revals hA (rc 55 (wr64 (x := (k : Int) + 1) (y := ((k + 1 : Nat) : Int)) (by omega) (by omega)) rn) (by kernel_rfl) fun hA => ?_
          by_cases hqk : q = k + 1
          case pos =>
            refine runS hA 12 [.b false] xn (oc (ne_f (a := (q : Int)) (b := ((k + 1 : Nat) : Int)) (by omega)) on) (by kernel_rfl) fun w11 hA => ?_
            have hst : (outV vs (k + 1) (q + 1)) = (outV vs (k + 1) q) := by rw [outV, if_pos hqk, List.append_nil]
            refine revals hA (rc 9 (show .slice Ag ((outV vs (k + 1) q).length) cg = .slice Ag ((outV vs (k + 1) (q + 1)).length) cg by rw [hst]) (rc 10 (wr64 (x := (q : Int) + 1) (y := ((q + 1 : Nat) : Int)) (by omega) (by omega)) rn)) (by kernel_rfl) fun hA => ?_
            exact again hJ (FN - (q + 1)) (⟨q + 1, Ag, cg, og⟩) [] hA (by omega) (by kernel_rfl) (⟨by omega, rfl, by rw [hst]; exact hrq⟩)
          case neg =>
            refine runS hA 11 [.b true, .i, .x (.slice Aq (((finL b ys 8)[q]?.getD []).length) cq)] (xc (a := ⟨bf, of + q * 1, none⟩) hcq xn) (oc (ne_t (a := (q : Int)) (b := ((k + 1 : Nat) : Int)) (by omega)) (oc (show (0 : Int) ≤ ((q : Int) : Int) ∧ ((q : Int) : Int) < (FN : Int) by omega) on)) (by kernel_rfl) fun w11 hA => ?_
            have hob9 := cell_of_obj (a := ⟨wr.heap.size, 0, none⟩) (hA.at_.ok ⟨wr.heap.size, .cells #[.slice Aq (((finL b ys 8)[q]?.getD []).length) cq] 23 (0, 0)⟩ (List.mem_of_getElem? (i := 0) (by kernel_rfl))) rfl rfl
            have hst : (outV vs (k + 1) (q + 1)) = (outV vs (k + 1) q) ++ [.slice Aq ((finL b ys 8)[q]?.getD []).length cq] := by rw [outV, if_neg hqk, hq1]
            refine appES (t := 36) (e := 23) (ty := 36) (z := .slice none 0 0) (size := 1) (bytes := 24) (v := .slice Ag (outV vs (k + 1) q).length cg) (n := (outV vs (k + 1) q).length) (m := 1) (cp := 1) (A := some ⟨wr.heap.size, 0, none⟩) [.slice Aq ((finL b ys 8)[q]?.getD []).length cq] hA hrq (by kernel_rfl) rfl (fun _ => ⟨_, rfl, fun p u hu => by match p, hu with | 0, hu => cases hu; exact hob9⟩) rfl (by omega) (by omega) (by omega) fun g2 c2' w12 ob2q hr2q hA => ?_
            refine runS hA 9 [] xn on (by kernel_rfl) fun w13 hA => ?_
            have hle : (outV vs (k + 1) (q + 1)).length = (outV vs (k + 1) q).length + 1 := by rw [hst, List.length_append]; rfl
            have hrk2 : RowV 23 1 (.slice (some ⟨g2, 0, none⟩) (outV vs (k + 1) (q + 1)).length c2') (outV vs (k + 1) (q + 1)).length (outV vs (k + 1) (q + 1)) ob2q := by rw [hle, hst]; exact hr2q
            refine revals hA (rc 9 (show .slice (some ⟨g2, 0, none⟩) ((outV vs (k + 1) q).length + 1) c2' = .slice (some ⟨g2, 0, none⟩) ((outV vs (k + 1) (q + 1)).length) c2' by rw [hle]) (rc 10 (wr64 (x := (q : Int) + 1) (y := ((q + 1 : Nat) : Int)) (by omega) (by omega)) rn)) (by kernel_rfl) fun hA => ?_
            exact again hJ (FN - (q + 1)) (⟨q + 1, some ⟨g2, 0, none⟩, c2', ob2q⟩) [] hA (by omega) (by kernel_rfl) (⟨by omega, rfl, hrk2⟩)
        case neg =>
          refine runS hA 12 [.b false] xn (oc (dec_f (show ¬ (((q : Int) : Int) < (FN : Int)) by omega)) on) (by kernel_rfl) fun w10 hA => ?_
          refine leave hA (by kernel_rfl) fun hA => ?_
          refine runS hA 14 [] xn on (by kernel_rfl) fun w11 hA => ?_
          have hqF : q = FN := by omega
          have hgl : (outV vs (k + 1) q).length = FN - 1 := by rw [hqF, outV_len, if_pos (by omega)]
          have hq9 : ∃ R : Nat, b.runners = (R : Int) := ⟨b.runners.toNat, by omega⟩
          obtain ⟨R, hR⟩ := hq9
          have hq9 := hva.at (j := k) (by omega)
          obtain ⟨Ak, ck, hk1, hk2, hk3⟩ := hq9
          have hq9 := hva.at (j := k + 1) (by omega)
          obtain ⟨Al, cl, hl1, hl2, hl3⟩ := hq9
          rw [← hF] at hk1 hk2 hk3
          rw [← hG] at hl1 hl2 hl3
          have hck := vals_cell hvr (j := k) (by omega)
          rw [hk1] at hck
          have hcl := vals_cell hvr (j := k + 1) (by omega)
          rw [hl1] at hcl
          have hm0 : RowV 3 1 (.slice none (mrgL F G 0).length 0) (mrgL F G 0).length (ints (mrgL F G 0)) [] := RowV.nil _ _
          refine loop (γ := Nat × Option Addr × Nat × List KB) (fun ⟨r, Ab, cb, ob⟩ => [(3, .pointer (some ⟨w.heap.size, 0, none⟩)), (6, .bool false), (7, .slice (some ⟨bf, of, none⟩) FN cf), (8, .int .i64 (k : Int)), (9, .slice Ag ((outV vs (k + 1) q).length) cg), (10, .int .i64 (q : Int)), (11, .slice Ab ((mrgL F G r).length) cb), (12, .int .i64 (r : Int))]) (fun ⟨r, Ab, cb, ob⟩ => []) (fun ⟨r, Ab, cb, ob⟩ => ob ++ (og ++ ([]))) (fun g ⟨r, Ab, cb, ob⟩ wt => r ≤ R ∧ g = R - r ∧ RowV 3 1 (.slice Ab (mrgL F G r).length cb) (mrgL F G r).length (ints (mrgL F G r)) ob) R ⟨0, none, 0, []⟩ [] hA (by kernel_rfl) (⟨Nat.zero_le _, rfl, hm0⟩) ?_
          rintro _ ⟨r, Ab, cb, ob⟩ wt ⟨hr, rfl, hrb⟩ J hJ hA
          have hml9 := mrgL_len F G r
          by_cases hlr : r < R
          case pos =>
            have hlr2 : (r : Int) < b.runners := by omega
            refine runS hA 21 [.x (.int .i64 b.runners), .b true, .i, .x (.slice Ak F.length ck)] (xc (a := ⟨w.heap.size, 1, none⟩) hcb1 (xc (a := ⟨bf, of + k * 1, none⟩) hck xn)) (oc (dec_t (show (((r : Int) : Int) < (b.runners : Int)) by omega)) (oc (show (0 : Int) ≤ ((k : Int) : Int) ∧ ((k : Int) : Int) < (FN : Int) by omega) on)) (by kernel_rfl) fun w12 hA => ?_
            refine callB hA [] on (has_any w12 w6.heap.size Ak F.length ck F (r : Int) (hk3.below hA.below (Nat.le_refl _)) hA.size) (by kernel_rfl) fun w13 hb13 hA => ?_
            by_cases hrF : (r : Int) ∈ F
            case pos =>
              refine revals hA (rc 75 (show .bool (decide ((r : Int) ∈ F)) = .bool true by rw [decide_eq_true hrF]) rn) (by kernel_rfl) fun hA => ?_
              refine runS hA 16 (List.replicate 7 (.g true)) xn (oc (rfl : Value.bool true = .bool true) (oc (rfl : Value.bool true = .bool true) (oc (rfl : Value.bool true = .bool true) (oc (rfl : Value.bool true = .bool true) (oc (rfl : Value.bool true = .bool true) (oc (rfl : Value.bool true = .bool true) (oc (rfl : Value.bool true = .bool true) on))))))) (by kernel_rfl) fun w14 hA => ?_
              have hst : (mrgL F G (r + 1)) = (mrgL F G r) ++ [(r : Int)] := by rw [mrgL, if_pos (.inl hrF)]
              have hob9 := cell_of_obj (a := ⟨w13.heap.size, 0, none⟩) (hA.at_.ok ⟨w13.heap.size, .cells #[.int .i64 (r : Int)] 3 (0, 0)⟩ (List.mem_of_getElem? (i := 0) (by kernel_rfl))) rfl rfl
              refine appES (t := 23) (e := 3) (ty := 23) (z := .int .i64 0) (size := 1) (bytes := 8) (v := .slice Ab (mrgL F G r).length cb) (n := (mrgL F G r).length) (m := 1) (cp := 1) (A := some ⟨w13.heap.size, 0, none⟩) [.int .i64 (r : Int)] hA hrb (by kernel_rfl) rfl (fun _ => ⟨_, rfl, fun p u hu => by match p, hu with | 0, hu => cases hu; exact hob9⟩) rfl (by omega) (by omega) (by omega) fun g2 c2' w15 ob2q hr2q hA => ?_
              refine runS hA 9 [] xn on (by kernel_rfl) fun w16 hA => ?_
              have hle : (mrgL F G (r + 1)).length = (mrgL F G r).length + 1 := by rw [hst, List.length_append]; rfl
              have hrk2 : RowV 3 1 (.slice (some ⟨g2, 0, none⟩) (mrgL F G (r + 1)).length c2') (mrgL F G (r + 1)).length (ints (mrgL F G (r + 1))) ob2q := by rw [hle, hst, ints_append]; exact hr2q
              refine revals hA (rc 11 (show .slice (some ⟨g2, 0, none⟩) ((mrgL F G r).length + 1) c2' = .slice (some ⟨g2, 0, none⟩) ((mrgL F G (r + 1)).length) c2' by rw [hle]) (rc 12 (wr64 (x := (r : Int) + 1) (y := ((r + 1 : Nat) : Int)) (by omega) (by omega)) rn)) (by kernel_rfl) fun hA => ?_
              exact again hJ (R - (r + 1)) (⟨r + 1, some ⟨g2, 0, none⟩, c2', ob2q⟩) [] hA (by omega) (by kernel_rfl) (⟨by omega, rfl, hrk2⟩)
            case neg =>
              refine revals hA (rc 75 (show .bool (decide ((r : Int) ∈ F)) = .bool false by rw [decide_eq_false hrF]) rn) (by kernel_rfl) fun hA => ?_
              refine runS hA 4 [.g false, .g false, .g false] xn (oc (rfl : Value.bool false = .bool false) (oc (rfl : Value.bool false = .bool false) (oc (rfl : Value.bool false = .bool false) on))) (by kernel_rfl) fun w14 hA => ?_
              refine revals hA (rc 79 (wr64 (x := (k : Int) + 1) (y := ((k + 1 : Nat) : Int)) (by omega) (by omega)) rn) (by kernel_rfl) fun hA => ?_
              refine runS hA 3 [.g false, .i, .g false, .x (.slice Al G.length cl), .g false] (xc (a := ⟨bf, of + (k + 1) * 1, none⟩) hcl xn) (oc (rfl : Value.bool false = .bool false) (oc (show (0 : Int) ≤ (((k + 1 : Nat) : Int) : Int) ∧ (((k + 1 : Nat) : Int) : Int) < (FN : Int) by omega) (oc (rfl : Value.bool false = .bool false) (oc (rfl : Value.bool false = .bool false) on)))) (by kernel_rfl) fun w15 hA => ?_
              refine callB hA [] on (has_any w15 w6.heap.size Al G.length cl G (r : Int) (hl3.below hA.below (Nat.le_refl _)) hA.size) (by kernel_rfl) fun w16 hb16 hA => ?_
              by_cases hrG : (r : Int) ∈ G
              case pos =>
                refine revals hA (rc 83 (show .bool (decide ((r : Int) ∈ G)) = .bool true by rw [decide_eq_true hrG]) rn) (by kernel_rfl) fun hA => ?_
                refine runS hA 8 [] xn on (by kernel_rfl) fun w17 hA => ?_
                have hst : (mrgL F G (r + 1)) = (mrgL F G r) ++ [(r : Int)] := by rw [mrgL, if_pos (.inr hrG)]
                have hob9 := cell_of_obj (a := ⟨w16.heap.size, 0, none⟩) (hA.at_.ok ⟨w16.heap.size, .cells #[.int .i64 (r : Int)] 3 (0, 0)⟩ (List.mem_of_getElem? (i := 0) (by kernel_rfl))) rfl rfl
                refine appES (t := 23) (e := 3) (ty := 23) (z := .int .i64 0) (size := 1) (bytes := 8) (v := .slice Ab (mrgL F G r).length cb) (n := (mrgL F G r).length) (m := 1) (cp := 1) (A := some ⟨w16.heap.size, 0, none⟩) [.int .i64 (r : Int)] hA hrb (by kernel_rfl) rfl (fun _ => ⟨_, rfl, fun p u hu => by match p, hu with | 0, hu => cases hu; exact hob9⟩) rfl (by omega) (by omega) (by omega) fun g2 c2' w18 ob2q hr2q hA => ?_
                refine runS hA 9 [] xn on (by kernel_rfl) fun w19 hA => ?_
                have hle : (mrgL F G (r + 1)).length = (mrgL F G r).length + 1 := by rw [hst, List.length_append]; rfl
                have hrk2 : RowV 3 1 (.slice (some ⟨g2, 0, none⟩) (mrgL F G (r + 1)).length c2') (mrgL F G (r + 1)).length (ints (mrgL F G (r + 1))) ob2q := by rw [hle, hst, ints_append]; exact hr2q
                refine revals hA (rc 11 (show .slice (some ⟨g2, 0, none⟩) ((mrgL F G r).length + 1) c2' = .slice (some ⟨g2, 0, none⟩) ((mrgL F G (r + 1)).length) c2' by rw [hle]) (rc 12 (wr64 (x := (r : Int) + 1) (y := ((r + 1 : Nat) : Int)) (by omega) (by omega)) rn)) (by kernel_rfl) fun hA => ?_
                exact again hJ (R - (r + 1)) (⟨r + 1, some ⟨g2, 0, none⟩, c2', ob2q⟩) [] hA (by omega) (by kernel_rfl) (⟨by omega, rfl, hrk2⟩)
              case neg =>
                refine revals hA (rc 83 (show .bool (decide ((r : Int) ∈ G)) = .bool false by rw [decide_eq_false hrG]) rn) (by kernel_rfl) fun hA => ?_
                refine runS hA 12 [] xn on (by kernel_rfl) fun w17 hA => ?_
                have hst : (mrgL F G (r + 1)) = (mrgL F G r) := by rw [mrgL, if_neg (fun h9 => h9.elim hrF hrG), List.append_nil]
                refine revals hA (rc 11 (show .slice Ab ((mrgL F G r).length) cb = .slice Ab ((mrgL F G (r + 1)).length) cb by rw [hst]) (rc 12 (wr64 (x := (r : Int) + 1) (y := ((r + 1 : Nat) : Int)) (by omega) (by omega)) rn)) (by kernel_rfl) fun hA => ?_
                exact again hJ (R - (r + 1)) (⟨r + 1, Ab, cb, ob⟩) [] hA (by omega) (by kernel_rfl) (⟨by omega, rfl, by rw [hst]; exact hrb⟩)
          case neg =>
            have hlr2 : ¬ (r : Int) < b.runners := by omega
            refine runS hA 12 [.x (.int .i64 b.runners), .b false] (xc (a := ⟨w.heap.size, 1, none⟩) hcb1 xn) (oc (dec_f (show ¬ (((r : Int) : Int) < (b.runners : Int)) by omega)) on) (by kernel_rfl) fun w12 hA => ?_
            refine leave hA (by kernel_rfl) fun hA => ?_
            have hrR : r = b.runners.toNat := by omega
            have hq9 := row_blk hrq (by omega)
            obtain ⟨gg, cug, rfl, rfl⟩ := hq9
            have hA3 := ((hA.perm (List.perm_append_comm (l₁ := ob) (l₂ := [⟨gg, .cells cug 23 (0, 0)⟩] ++ []))).atK [] (by kernel_rfl)).resize.up
            refine reknow ⟨[⟨gg, .cells cug 23 (0, 0)⟩], w12.heap.size, [], [], [], [], []⟩ hA3 (Nat.zero_le _) fun hA => ?_
            have hold := row_old hrq (j := k) (by omega)
            rw [outV_get _ _ _ _ (by omega), if_pos (Nat.lt_succ_self k), hk1] at hold
            refine runS hA 9 [.i, .y 0 (.slice Ak F.length ck)] xn (oc (show (0 : Int) ≤ ((k : Int) : Int) ∧ ((k : Int) : Int) < ((outV vs (k + 1) q).length : Int) by omega) (oc (show cug[0 + k * 1]? = some (.slice Ak F.length ck) from hold) on)) (by kernel_rfl) fun w13 hA => ?_
            have hrg2 := row_put (v := .slice Ab ((mrgL F G r).length) cb) (j := k) hrq
            have hqF2 : q = (finL b ys 8).length := by omega
            have hA4 := (hA.atK [⟨gg, .cells (cug.setIfInBounds (0 + k * 1) (.slice Ab ((mrgL F G r).length) cb)) 23 (0, 0)⟩] (by kernel_rfl)).resize.lower (kn := [])
            refine reknow ⟨[], w13.heap.size, [], [], [], [], []⟩ hA4 (Nat.zero_le _) fun hA => ?_
            have hq9 : ∃ og2 : List KB, og2 = [⟨gg, .cells (cug.setIfInBounds (0 + k * 1) (.slice Ab ((mrgL F G r).length) cb)) 23 (0, 0)⟩] := ⟨_, rfl⟩
            obtain ⟨og2, hog2⟩ := hq9
            rw [← hog2] at hrg2
            replace hA := hA.cast (rows' := og2 ++ (ob ++ [])) (by rw [hog2, List.append_nil]; rfl)
            have hib := ints_at_row hrb (by omega)
            have hTl : (togF b (finL b ys 8) k).length = FN - 1 := by rw [tog_len (by omega), hFN]
            have hft := tog_ok V hfin (k := k) (by omega)
            have hq9 : ∃ WN, WN = (winF b (finL b ys 8)).length := ⟨_, rfl⟩
            obtain ⟨WN, hWN⟩ := hq9
            have hW9 : WN ≤ 1000 := by rw [hWN]; exact win_few h0 hfin
            have hq9 : ∃ VN, VN = (winF b (togF b (finL b ys 8) k)).length := ⟨_, rfl⟩
            obtain ⟨VN, hVN⟩ := hq9
            have hV9 : VN ≤ 1000 := by rw [hVN]; exact win_few h0 hft
            have hq9 : ∃ LN, LN = (dvL b (finL b ys 8)).length := ⟨_, rfl⟩
            obtain ⟨LN, hLN⟩ := hq9
            have hL9 : LN ≤ 1000 := by rw [hLN]; exact dvL_len2 h0 hfin
            have hq9 : ∃ MN, MN = (dvL b (togF b (finL b ys 8) k)).length := ⟨_, rfl⟩
            obtain ⟨MN, hMN⟩ := hq9
            have hM9 : MN ≤ 1000 := by rw [hMN]; exact dvL_len2 h0 hft
            have hLM : LN ≤ MN := by rw [hLN, hMN, dvL_len, dvL_len]; exact (tog_bkd V hfin (by omega)).2
            refine runS hA 6 [.x (.int .i64 b.kind), .x (.int .i64 b.runners), .x (.slice A n c), .x (.slice A2 m c2), .x (.bool b.fav), .x (.int .i64 b.car), .x (.int .i64 b.dut), .x (.int .i64 b.stp)] (xc (a := ⟨w.heap.size, 0, none⟩) hcb0 (xc (a := ⟨w.heap.size, 1, none⟩) hcb1 (xc (a := ⟨w.heap.size, 2, none⟩) hcb2 (xc (a := ⟨w.heap.size, 3, none⟩) hcb3 (xc (a := ⟨w.heap.size, 4, none⟩) hcb4 (xc (a := ⟨w.heap.size, 5, none⟩) hcb5 (xc (a := ⟨w.heap.size, 6, none⟩) hcb6 (xc (a := ⟨w.heap.size, 7, none⟩) hcb7 xn)))))))) on (by kernel_rfl) fun w14 hA => ?_
            have hApw := hA.atK [] (by kernel_rfl)
            refine call hA [] on (WinnersS_any w14 w6.heap.size b A n c A2 m c2 (some ⟨bf, of, none⟩) FN cf (finL b ys 8) WN (hx1.below hA.below (Nat.le_refl _)) ((hf1.below hA.below (Nat.le_refl _))) hA.size h0 hfin hWN.symm) (by kernel_rfl) (by rintro e v ⟨Aw, cw, rfl, hbw, how⟩; exact hbw) ?_
            rintro e w15 ⟨Aw, cw, rfl, hbw, how⟩
            refine ⟨_, rfl, fun hA => ?_⟩
            have hq9 := At.own hApw hbw how
            obtain ⟨ob8w, hrw, hA2w⟩ := hq9
            refine reknow ⟨[], w15.heap.size, [], [], [], [], []⟩ hA2w (Nat.zero_le _) fun hA => ?_
            have hptw := row_at hrw (by omega)
            refine runS hA 11 [.x (.int .i64 b.kind), .x (.int .i64 b.runners), .x (.slice A n c), .x (.slice A2 m c2), .x (.bool b.fav), .x (.int .i64 b.car), .x (.int .i64 b.dut), .x (.int .i64 b.stp)] (xc (a := ⟨w.heap.size, 0, none⟩) hcb0 (xc (a := ⟨w.heap.size, 1, none⟩) hcb1 (xc (a := ⟨w.heap.size, 2, none⟩) hcb2 (xc (a := ⟨w.heap.size, 3, none⟩) hcb3 (xc (a := ⟨w.heap.size, 4, none⟩) hcb4 (xc (a := ⟨w.heap.size, 5, none⟩) hcb5 (xc (a := ⟨w.heap.size, 6, none⟩) hcb6 (xc (a := ⟨w.heap.size, 7, none⟩) hcb7 xn)))))))) on (by kernel_rfl) fun w16 hA => ?_
            have hGv := (fin_row hrg2 (fun kb hk => hA.at_.rok kb (List.mem_append_right _ (List.mem_append_left _ hk))) (by have h9 := tog_vals (b := b) (hva.below hA.below) (k := k) (by omega) hF hG (c := cb) (A := Ab) (by rw [← hrR]; exact hib.1) (by rw [← hrR]; exact hib.2 _ (fun kb hk => hA.at_.rok kb (List.mem_append_right _ (List.mem_append_right _ (List.mem_append_left _ hk))))); rw [← hrR, ← hqF2] at h9; exact h9) (by omega))
            have hApv := hA.atK [] (by kernel_rfl)
            refine call hA [] on (WinnersS_any w16 w16.heap.size b A n c A2 m c2 (some ⟨gg, 0, none⟩) (outV vs (k + 1) q).length cg (togF b (finL b ys 8) k) VN ((hx1.below hA.below (Nat.le_refl _)).more hA.size) hGv (Nat.le_refl _) h0 hft hVN.symm) (by kernel_rfl) (by rintro e v ⟨Av, cv, rfl, hbv, hov⟩; exact hbv) ?_
            rintro e w17 ⟨Av, cv, rfl, hbv, hov⟩
            refine ⟨_, rfl, fun hA => ?_⟩
            have hq9 := At.own hApv hbv hov
            obtain ⟨ob8v, hrv, hA2v⟩ := hq9
            refine reknow ⟨[], w17.heap.size, [], [], [], [], []⟩ hA2v (Nat.zero_le _) fun hA => ?_
            have hptv := row_at hrv (by omega)
            refine runS hA 11 [.x (.int .i64 b.kind), .x (.int .i64 b.runners), .x (.slice A n c), .x (.slice A2 m c2), .x (.bool b.fav), .x (.int .i64 b.car), .x (.int .i64 b.dut), .x (.int .i64 b.stp)] (xc (a := ⟨w.heap.size, 0, none⟩) hcb0 (xc (a := ⟨w.heap.size, 1, none⟩) hcb1 (xc (a := ⟨w.heap.size, 2, none⟩) hcb2 (xc (a := ⟨w.heap.size, 3, none⟩) hcb3 (xc (a := ⟨w.heap.size, 4, none⟩) hcb4 (xc (a := ⟨w.heap.size, 5, none⟩) hcb5 (xc (a := ⟨w.heap.size, 6, none⟩) hcb6 (xc (a := ⟨w.heap.size, 7, none⟩) hcb7 xn)))))))) on (by kernel_rfl) fun w18 hA => ?_
            have hApl := hA.atK [] (by kernel_rfl)
            refine call hA [] on (paidS_any w18 w6.heap.size b A n c A2 m c2 (some ⟨bf, of, none⟩) FN cf (finL b ys 8) (dvL b (finL b ys 8)) LN (hx1.below hA.below (Nat.le_refl _)) ((hf1.below hA.below (Nat.le_refl _))) hA.size h0 hfin rfl hLN.symm) (by kernel_rfl) (by rintro e v ⟨Al, cl, rfl, hbl, hol⟩; exact hbl) ?_
            rintro e w19 ⟨Al, cl, rfl, hbl, hol⟩
            refine ⟨_, rfl, fun hA => ?_⟩
            have hq9 := At.own hApl hbl hol
            obtain ⟨ob8l, hrl, hA2l⟩ := hq9
            refine reknow ⟨[], w19.heap.size, [], [], [], [], []⟩ hA2l (Nat.zero_le _) fun hA => ?_
            have hptl := row_at hrl (by omega)
            refine runS hA 11 [.x (.int .i64 b.kind), .x (.int .i64 b.runners), .x (.slice A n c), .x (.slice A2 m c2), .x (.bool b.fav), .x (.int .i64 b.car), .x (.int .i64 b.dut), .x (.int .i64 b.stp)] (xc (a := ⟨w.heap.size, 0, none⟩) hcb0 (xc (a := ⟨w.heap.size, 1, none⟩) hcb1 (xc (a := ⟨w.heap.size, 2, none⟩) hcb2 (xc (a := ⟨w.heap.size, 3, none⟩) hcb3 (xc (a := ⟨w.heap.size, 4, none⟩) hcb4 (xc (a := ⟨w.heap.size, 5, none⟩) hcb5 (xc (a := ⟨w.heap.size, 6, none⟩) hcb6 (xc (a := ⟨w.heap.size, 7, none⟩) hcb7 xn)))))))) on (by kernel_rfl) fun w20 hA => ?_
            have hGm := (fin_row hrg2 (fun kb hk => hA.at_.rok kb (List.mem_append_right _ (List.mem_append_right _ (List.mem_append_right _ (List.mem_append_left _ hk))))) (by have h9 := tog_vals (b := b) (hva.below hA.below) (k := k) (by omega) hF hG (c := cb) (A := Ab) (by rw [← hrR]; exact hib.1) (by rw [← hrR]; exact hib.2 _ (fun kb hk => hA.at_.rok kb (List.mem_append_right _ (List.mem_append_right _ (List.mem_append_right _ (List.mem_append_right _ (List.mem_append_left _ hk))))))); rw [← hrR, ← hqF2] at h9; exact h9) (by omega))
            have hApm := hA.atK [] (by kernel_rfl)
            refine call hA [] on (paidS_any w20 w20.heap.size b A n c A2 m c2 (some ⟨gg, 0, none⟩) (outV vs (k + 1) q).length cg (togF b (finL b ys 8) k) (dvL b (togF b (finL b ys 8) k)) MN ((hx1.below hA.below (Nat.le_refl _)).more hA.size) hGm (Nat.le_refl _) h0 hft rfl hMN.symm) (by kernel_rfl) (by rintro e v ⟨Am, cm, rfl, hbm, hom⟩; exact hbm) ?_
            rintro e w21 ⟨Am, cm, rfl, hbm, hom⟩
            refine ⟨_, rfl, fun hA => ?_⟩
            have hq9 := At.own hApm hbm hom
            obtain ⟨ob8m, hrm, hA2m⟩ := hq9
            refine reknow ⟨[], w21.heap.size, [], [], [], [], []⟩ hA2m (Nat.zero_le _) fun hA => ?_
            have hptm := row_at hrm (by omega)
            refine runS hA 36 (List.replicate 6 (.g false)) xn (oc (rfl : Value.bool false = .bool false) (oc (rfl : Value.bool false = .bool false) (oc (rfl : Value.bool false = .bool false) (oc (rfl : Value.bool false = .bool false) (oc (rfl : Value.bool false = .bool false) (oc (rfl : Value.bool false = .bool false) on)))))) (by kernel_rfl) fun w22 hA => ?_
            refine loop (γ := Nat) (fun i => [(3, .pointer (some ⟨w.heap.size, 0, none⟩)), (7, .slice (some ⟨bf, of, none⟩) FN cf), (8, .int .i64 (k : Int)), (9, .slice (some ⟨gg, 0, none⟩) ((outV vs (k + 1) q).length) cg), (10, .int .i64 (q : Int)), (11, .slice Ab ((mrgL F G r).length) cb), (12, .int .i64 (r : Int)), (13, .slice Aw WN cw), (15, .slice Av VN cv), (17, .slice Al LN cl), (19, .slice Am MN cm), (21, .int .i64 (i : Int))]) (fun i => []) (fun _ => ob8m ++ (ob8l ++ (ob8v ++ (ob8w ++ (og2 ++ (ob ++ ([]))))))) (fun g i wi => i ≤ WN ∧ g = WN - i) WN 0 [] hA (by kernel_rfl) (⟨Nat.zero_le _, rfl⟩) ?_
            rintro _ i wi ⟨hi, rfl⟩ J hJi hA
            by_cases hli : i < WN
            case pos =>
              refine runS hA 26 [.b true] xn (oc (dec_t (show (((i : Int) : Int) < (WN : Int)) by omega)) on) (by kernel_rfl) fun w23 hA => ?_
              refine loop (γ := Nat) (fun j => [(3, .pointer (some ⟨w.heap.size, 0, none⟩)), (7, .slice (some ⟨bf, of, none⟩) FN cf), (8, .int .i64 (k : Int)), (9, .slice (some ⟨gg, 0, none⟩) ((outV vs (k + 1) q).length) cg), (10, .int .i64 (q : Int)), (11, .slice Ab ((mrgL F G r).length) cb), (12, .int .i64 (r : Int)), (13, .slice Aw WN cw), (15, .slice Av VN cv), (17, .slice Al LN cl), (19, .slice Am MN cm), (21, .int .i64 (i : Int)), (22, .bool (stF (winF b (togF b (finL b ys 8) k)) ((winF b (finL b ys 8))[i]?.getD (0, 0)) j)), (23, .int .i64 (j : Int))]) (fun j => []) (fun _ => ob8m ++ (ob8l ++ (ob8v ++ (ob8w ++ (og2 ++ (ob ++ ([]))))))) (fun g j wj => j ≤ VN ∧ g = VN - j) VN 0 [] hA (by kernel_rfl) (⟨Nat.zero_le _, rfl⟩) ?_
              rintro _ j wj ⟨hj, rfl⟩ J hJ hA
              by_cases hlj : j < VN
              case neg =>
                refine runS hA 12 [.b false] xn (oc (dec_f (show ¬ (((j : Int) : Int) < (VN : Int)) by omega)) on) (by kernel_rfl) fun w24 hA => ?_
                refine leave hA (by kernel_rfl) fun hA => ?_
                have hsa : (stF (winF b (togF b (finL b ys 8) k)) ((winF b (finL b ys 8))[i]?.getD (0, 0)) j) = true := stF_all (by omega) (tog_win V hfin (by omega) (get_mem (by omega)))
                refine revals hA (rc 22 (show .bool (stF (winF b (togF b (finL b ys 8) k)) ((winF b (finL b ys 8))[i]?.getD (0, 0)) j) = .bool true by rw [hsa]) rn) (by kernel_rfl) fun hA => ?_
                refine runS hA 17 [] xn on (by kernel_rfl) fun w25 hA => ?_
                refine revals hA (rc 21 (wr64 (x := (i : Int) + 1) (y := ((i + 1 : Nat) : Int)) (by omega) (by omega)) rn) (by kernel_rfl) fun hA => ?_
                exact again hJi (WN - (i + 1)) (i + 1) [] hA (by omega) (by kernel_rfl) (⟨by omega, rfl⟩)
              case pos =>
                have hss := stF_step (ps := (winF b (togF b (finL b ys 8) k))) (s := ((winF b (finL b ys 8))[i]?.getD (0, 0))) (j := j) (by omega)
                refine runS hA 14 [.b true] xn (oc (dec_t (show (((j : Int) : Int) < (VN : Int)) by omega)) on) (by kernel_rfl) fun w24 hA => ?_
                have hq9 := Bool.eq_false_or_eq_true (stF (winF b (togF b (finL b ys 8) k)) ((winF b (finL b ys 8))[i]?.getD (0, 0)) j)
                rcases hq9 with hst | hst
                ·
                  refine revals hA (rc 22 (show .bool (stF (winF b (togF b (finL b ys 8) k)) ((winF b (finL b ys 8))[i]?.getD (0, 0)) j) = .bool true by rw [hst]) rn) (by kernel_rfl) fun hA => ?_
                  refine draw hA [] [0, 1, 2, 3, 4, 5, 6, 7, 8, 9, 10, 11, 12] (by kernel_rfl) (by kernel_rfl) fun hA => ?_
                  refine runS hA 21 [.t 0, .t 1, .t 2, .g true, .t 3, .g true, .t 4, .g true, .t 5, .g true, .t 6, .g true, .t 7, .g true, .t 8, .g true, .t 9, .g true, .t 10, .g true, .t 11, .t 12, .b true] xn (oc (rfl : Value.bool true = .bool true) (oc (rfl : Value.bool true = .bool true) (oc (rfl : Value.bool true = .bool true) (oc (rfl : Value.bool true = .bool true) (oc (rfl : Value.bool true = .bool true) (oc (rfl : Value.bool true = .bool true) (oc (rfl : Value.bool true = .bool true) (oc (rfl : Value.bool true = .bool true) (oc (rfl : Value.bool true = .bool true) on))))))))) (by kernel_rfl) fun w25 hA => ?_
                  refine revals hA (rc 22 (show .bool true = .bool (stF (winF b (togF b (finL b ys 8) k)) ((winF b (finL b ys 8))[i]?.getD (0, 0)) (j + 1)) by rw [hss, hst]; rfl) (rc 23 (wr64 (x := (j : Int) + 1) (y := ((j + 1 : Nat) : Int)) (by omega) (by omega)) rn)) (by kernel_rfl) fun hA => ?_
                  exact again hJ (VN - (j + 1)) (j + 1) [] hA (by omega) (by kernel_rfl) (⟨by omega, rfl⟩)
                ·
                  refine revals hA (rc 22 (show .bool (stF (winF b (togF b (finL b ys 8) k)) ((winF b (finL b ys 8))[i]?.getD (0, 0)) j) = .bool false by rw [hst]) rn) (by kernel_rfl) fun hA => ?_
                  have hRw := hptw _ (fun kb hk => hA.at_.rok kb (List.mem_append_right _ (List.mem_append_right _ (List.mem_append_right _ (List.mem_append_left _ hk)))))
                  have hRv := hptv _ (fun kb hk => hA.at_.rok kb (List.mem_append_right _ (List.mem_append_right _ (List.mem_append_left _ hk))))
                  have hq9 := hRw.2.2 (by omega)
                  obtain ⟨bw, ow, rfl, hbw1, hcw⟩ := hq9
                  have hq9 := hRv.2.2 (by omega)
                  obtain ⟨bv, ov, rfl, hbv1, hcv⟩ := hq9
                  have hq9 := encW_get (winF b (finL b ys 8)) i (by omega)
                  obtain ⟨ge0, ge1⟩ := hq9
                  have hq9 := encW_get (winF b (togF b (finL b ys 8) k)) j (by omega)
                  obtain ⟨gf0, gf1⟩ := hq9
                  have e0 : bw < w24.heap.size ∧ w24.cell? ⟨bw, ow + i * 2, none⟩ = some (.int .i64 ((winF b (finL b ys 8))[i]?.getD (0, 0)).1) := ⟨hbw1, by have := hcw _ _ ge0; exact this⟩
                  have e1 : bw < w24.heap.size ∧ w24.cell? ⟨bw, ow + i * 2 + 1, none⟩ = some (.int .i64 ((winF b (finL b ys 8))[i]?.getD (0, 0)).2) := ⟨hbw1, by have := hcw _ _ ge1; exact this⟩
                  have f0 : bv < w24.heap.size ∧ w24.cell? ⟨bv, ov + j * 2, none⟩ = some (.int .i64 ((winF b (togF b (finL b ys 8) k))[j]?.getD (0, 0)).1) := ⟨hbv1, by have := hcv _ _ gf0; exact this⟩
                  have f1 : bv < w24.heap.size ∧ w24.cell? ⟨bv, ov + j * 2 + 1, none⟩ = some (.int .i64 ((winF b (togF b (finL b ys 8) k))[j]?.getD (0, 0)).2) := ⟨hbv1, by have := hcv _ _ gf1; exact this⟩
                  have hS9 := hA.atK [] (by kernel_rfl)
                  refine rebase hA w24 (by kernel_rfl) (At.start _) fun hA => ?_
                  refine draw hA [] [0, 1, 2, 3, 4, 5, 6, 7, 8, 9, 10, 11, 12] (by kernel_rfl) (by kernel_rfl) fun hA => ?_
                  refine runS hA 10 [.t 0, .t 1, .t 2, .g false, .t 3, .g false, .t 4, .g false, .i, .t 5, .g false, .x (.int .i64 (((winF b (togF b (finL b ys 8) k))[j]?.getD (0, 0)).1)), .x (.int .i64 (((winF b (togF b (finL b ys 8) k))[j]?.getD (0, 0)).2)), .t 6, .g false, .t 7, .g false, .t 8, .g false, .i, .t 9, .g false, .x (.int .i64 (((winF b (finL b ys 8))[i]?.getD (0, 0)).1)), .x (.int .i64 (((winF b (finL b ys 8))[i]?.getD (0, 0)).2))] (xc (a := ⟨bv, ov + j * 2, none⟩) f0 (xc (a := ⟨bv, ov + j * 2 + 1, none⟩) f1 (xc (a := ⟨bw, ow + i * 2, none⟩) e0 (xc (a := ⟨bw, ow + i * 2 + 1, none⟩) e1 xn)))) (oc (rfl : Value.bool false = .bool false) (oc (rfl : Value.bool false = .bool false) (oc (rfl : Value.bool false = .bool false) (oc (show (0 : Int) ≤ ((j : Int) : Int) ∧ ((j : Int) : Int) < (VN : Int) by omega) (oc (rfl : Value.bool false = .bool false) (oc (rfl : Value.bool false = .bool false) (oc (rfl : Value.bool false = .bool false) (oc (rfl : Value.bool false = .bool false) (oc (show (0 : Int) ≤ ((i : Int) : Int) ∧ ((i : Int) : Int) < (WN : Int) by omega) (oc (rfl : Value.bool false = .bool false) on)))))))))) (by kernel_rfl) fun w25 hA => ?_
                  refine opv (v := .bool (decide (((winF b (togF b (finL b ys 8) k))[j]?.getD (0, 0)) = ((winF b (finL b ys 8))[i]?.getD (0, 0))))) hA [] on (s := cmpSem .eql 69 (.tmp 148) (.tmp 152) (.agg #[.int .i64 (((winF b (togF b (finL b ys 8) k))[j]?.getD (0, 0)).1), .int .i64 (((winF b (togF b (finL b ys 8) k))[j]?.getD (0, 0)).2)]) (.agg #[.int .i64 (((winF b (finL b ys 8))[i]?.getD (0, 0)).1), .int .i64 (((winF b (finL b ys 8))[i]?.getD (0, 0)).2)])) (by kernel_rfl) (cmp_flat (n := 2) false (by kernel_rfl) _ (by kernel_rfl) (fun i hi => by match i, hi with | 0, _ => exact ⟨_, _, _, rfl, rfl⟩ | 1, _ => exact ⟨_, _, _, rfl, rfl⟩) (((winF b (togF b (finL b ys 8) k))[j]?.getD (0, 0)) = ((winF b (finL b ys 8))[i]?.getD (0, 0))) (by generalize ((winF b (togF b (finL b ys 8) k))[j]?.getD (0, 0)) = u; generalize ((winF b (finL b ys 8))[i]?.getD (0, 0)) = v; obtain ⟨u1, u2⟩ := u; obtain ⟨v1, v2⟩ := v; simp) (by kernel_rfl)) fun hA => ?_
                  refine runS hA 10 [.t 11, .t 12, .b true] xn on (by kernel_rfl) fun w26 hA => ?_
                  refine back hA (kn' := []) (by kernel_rfl) (At.call hS9 hA.below) fun hA => ?_
                  refine revals hA (rc 22 (show .bool (decide (((winF b (togF b (finL b ys 8) k))[j]?.getD (0, 0)) = ((winF b (finL b ys 8))[i]?.getD (0, 0)))) = .bool (stF (winF b (togF b (finL b ys 8) k)) ((winF b (finL b ys 8))[i]?.getD (0, 0)) (j + 1)) by rw [hss, hst]; rfl) (rc 23 (wr64 (x := (j : Int) + 1) (y := ((j + 1 : Nat) : Int)) (by omega) (by omega)) rn)) (by kernel_rfl) fun hA => ?_
                  exact again hJ (VN - (j + 1)) (j + 1) [] hA (by omega) (by kernel_rfl) (⟨by omega, rfl⟩)
            case neg =>
              refine runS hA 12 [.b false] xn (oc (dec_f (show ¬ (((i : Int) : Int) < (WN : Int)) by omega)) on) (by kernel_rfl) fun w23 hA => ?_
              refine leave hA (by kernel_rfl) fun hA => ?_
              refine runS hA 9 [] xn on (by kernel_rfl) fun w24 hA => ?_
              refine loop (γ := Nat) (fun i => [(3, .pointer (some ⟨w.heap.size, 0, none⟩)), (7, .slice (some ⟨bf, of, none⟩) FN cf), (8, .int .i64 (k : Int)), (9, .slice (some ⟨gg, 0, none⟩) ((outV vs (k + 1) q).length) cg), (10, .int .i64 (q : Int)), (11, .slice Ab ((mrgL F G r).length) cb), (12, .int .i64 (r : Int)), (13, .slice Aw WN cw), (15, .slice Av VN cv), (17, .slice Al LN cl), (19, .slice Am MN cm), (24, .int .i64 (i : Int))]) (fun i => []) (fun _ => ob8m ++ (ob8l ++ (ob8v ++ (ob8w ++ (og2 ++ (ob ++ ([]))))))) (fun g i wr => i ≤ LN ∧ g = LN - i) LN 0 [] hA (by kernel_rfl) (⟨Nat.zero_le _, rfl⟩) ?_
              rintro _ i wr ⟨hi, rfl⟩ J hJ hA
              by_cases hli : i < LN
              case neg =>
                refine runS hA 12 [.b false] xn (oc (dec_f (show ¬ (((i : Int) : Int) < (LN : Int)) by omega)) on) (by kernel_rfl) fun w25 hA => ?_
                refine leave hA (by kernel_rfl) fun hA => ?_
                refine runS hA 9 [] xn on (by kernel_rfl) fun w26 hA => ?_
                refine revals hA (rc 185 (dec_t (show (MN : Int) ≥ (LN : Int) by omega)) rn) (by kernel_rfl) fun hA => ?_
                refine runS hA 1 [] xn on (by kernel_rfl) fun w27 hA => ?_
                refine callB hA [] on (Works_any w27) (by kernel_rfl) fun w28 hb28 hA => ?_
                refine runS hA 5 [] xn on (by kernel_rfl) fun w29 hA => ?_
                refine back hA (by kernel_rfl) (At.plain (hWb.trans (hA.below.mono hWs))) fun hA => ?_
                exact ret (v := .bool true) hA [] (by kernel_rfl) ⟨rfl, hA.below⟩
              case pos =>
                refine runS hA 15 [.b true] xn (oc (dec_t (show (((i : Int) : Int) < (LN : Int)) by omega)) on) (by kernel_rfl) fun w25 hA => ?_
                have hRl := hptl _ (fun kb hk => hA.at_.rok kb (List.mem_append_right _ (List.mem_append_left _ hk)))
                have hRm := hptm _ (fun kb hk => hA.at_.rok kb (List.mem_append_left _ hk))
                have hq9 := hRl.2.2 (by omega)
                obtain ⟨bl1, ol, rfl, hbl1, hcbl1⟩ := hq9
                have hq9 := encD_get (dvL b (finL b ys 8)) i (by omega)
                obtain ⟨ge0, ge1, ge2⟩ := hq9
                have e0 : bl1 < w25.heap.size ∧ w25.cell? ⟨bl1, ol + i * 3, none⟩ = some (.int .i64 ((dvL b (finL b ys 8))[i]?.getD ((0, 0), 0)).1.1) := ⟨hbl1, by have := hcbl1 _ _ ge0; exact this⟩
                have e1 : bl1 < w25.heap.size ∧ w25.cell? ⟨bl1, ol + i * 3 + 1, none⟩ = some (.int .i64 ((dvL b (finL b ys 8))[i]?.getD ((0, 0), 0)).1.2) := ⟨hbl1, by have := hcbl1 _ _ ge1; exact this⟩
                have e2 : bl1 < w25.heap.size ∧ w25.cell? ⟨bl1, ol + i * 3 + 2, none⟩ = some (.int .i64 ((dvL b (finL b ys 8))[i]?.getD ((0, 0), 0)).2) := ⟨hbl1, by have := hcbl1 _ _ ge2; exact this⟩
                have hdn : pnF (dvL b (togF b (finL b ys 8) k)) (((dvL b (finL b ys 8))[i]?.getD ((0, 0), 0)).1.1, ((dvL b (finL b ys 8))[i]?.getD ((0, 0), 0)).1.2) ≤ ((dvL b (finL b ys 8))[i]?.getD ((0, 0), 0)).2 := by rw [dvL_get (by omega), pn_dv]; exact tog_dv V hfin (by omega) (get_mem (by rw [← dvL_len]; omega))
                have hS := hA.atK [] (by kernel_rfl)
                refine rebase hA w25 (by kernel_rfl) (At.start _) fun hA => ?_
                refine draw hA [] [0, 1, 2, 3, 4, 5, 6, 7, 8, 9, 10, 11, 12, 13, 14, 15, 16, 17] (by kernel_rfl) (by kernel_rfl) fun hA => ?_
                refine runS hA 16 [.t 0, .t 1, .t 2, .t 3, .i, .t 4, .t 5, .x (.int .i64 (((dvL b (finL b ys 8))[i]?.getD ((0, 0), 0)).1.1)), .t 6, .t 7, .t 8, .i, .t 9, .t 10, .x (.int .i64 (((dvL b (finL b ys 8))[i]?.getD ((0, 0), 0)).1.2)), .t 12, .t 13, .t 14, .i, .t 15, .t 16, .x (.int .i64 (((dvL b (finL b ys 8))[i]?.getD ((0, 0), 0)).2))] (xc (a := ⟨bl1, ol + i * 3, none⟩) e0 (xc (a := ⟨bl1, ol + i * 3 + 1, none⟩) e1 (xc (a := ⟨bl1, ol + i * 3 + 2, none⟩) e2 xn))) (oc (show (0 : Int) ≤ ((i : Int) : Int) ∧ ((i : Int) : Int) < (LN : Int) by omega) (oc (show (0 : Int) ≤ ((i : Int) : Int) ∧ ((i : Int) : Int) < (LN : Int) by omega) (oc (show (0 : Int) ≤ ((i : Int) : Int) ∧ ((i : Int) : Int) < (LN : Int) by omega) on))) (by kernel_rfl) fun w26 hA => ?_
                refine callB hA [] on (pence_any w26 w25.heap.size Am MN cm (dvL b (togF b (finL b ys 8) k)) ((dvL b (finL b ys 8))[i]?.getD ((0, 0), 0)).1.1 ((dvL b (finL b ys 8))[i]?.getD ((0, 0), 0)).1.2 (hRm.below hA.below (Nat.le_refl _)) hA.size) (by kernel_rfl) fun w27 hb27 hA => ?_
                refine runS hA 12 [.t 17, .b true, .b false] xn (oc (dec_f (show ¬ (((pnF (dvL b (togF b (finL b ys 8) k)) (((dvL b (finL b ys 8))[i]?.getD ((0, 0), 0)).1.1, ((dvL b (finL b ys 8))[i]?.getD ((0, 0), 0)).1.2)) : Int) > (((dvL b (finL b ys 8))[i]?.getD ((0, 0), 0)).2 : Int)) by omega)) on) (by kernel_rfl) fun w28 hA => ?_
                refine back hA (kn' := []) (by kernel_rfl) (At.call hS hA.below) fun hA => ?_
                refine revals hA (rc 24 (wr64 (x := (i : Int) + 1) (y := ((i + 1 : Nat) : Int)) (by omega) (by omega)) rn) (by kernel_rfl) fun hA => ?_
                exact again hJ (LN - (i + 1)) (i + 1) [] hA (by omega) (by kernel_rfl) (⟨by omega, rfl⟩)
end Go.Proofs.Ytbahiemjaomdcaa

/- PoolTogether answers true whatever the book, the numbers of the finish, and which groups come in together; the arguments read behind the call as they did. No condition. -/
namespace Go.Proofs.Ytbahiemjaomdcaa.poolTogether
open Go.ChangeShapes Go.WideShapes Go.ChangeAt Go.RowKit

theorem own : ownKnob Try.prog.godebug = none := by kernel_rfl
theorem laidOut : laidOutB Try.prog = true := by kernel_rfl
theorem cellsInt : Try.prog.cellsOf 3 = 1 := by kernel_rfl
/-- A slice of numbers among the arguments. -/
theorem ints_arg {H : Type} {enc : TypeId × Value → H} {W : World} {fuel : Nat} {v : Value} {x : DataW H × List MemPlace} (h : DataW.trod enc Try.prog W 0 (fun _ => true) true fuel 23 [v] = some x) :
    ∃ A n c xs, v = .slice A n c ∧ n ≤ c ∧ IntsAt W W.heap.size A n xs := by
  rcases open_ints Try.underlying23 Try.underlying3 cellsInt h with ⟨hcs, -⟩ | ⟨a, n, c, zs, hcs, -, hl, hm, hz, -, hcell, -⟩
  · obtain rfl : v = .slice none 0 0 := by simpa using hcs
    exact ⟨none, 0, 0, [], rfl, Nat.le_refl _, IntsAt.nil⟩
  · obtain rfl : v = .slice (some a) n c := by simpa using hcs
    have hz : zs.length = c := by simpa using hz
    refine ⟨some a, n, c, zs.take n, rfl, hl, by rw [List.length_take]; omega, by simp only [maxLen] at hm; omega, fun h0 => ?_⟩
    obtain ⟨b, off, rfl, hc⟩ := Go.ints_at hcell (by omega)
    refine ⟨b, off, rfl, ?_, fun j hj => ?_⟩
    · rcases Nat.lt_or_ge b W.heap.size with hb | hb
      · exact hb
      · have := hc 0 (by omega)
        simp [World.cell?, Array.getElem?_eq_none hb] at this
    · rw [hc j (by omega), List.getElem?_take, if_pos hj, List.getD_eq_getElem?_getD]
theorem cellsI64 : Try.prog.cellsOf 2 = 1 := by kernel_rfl
theorem cellsBool : Try.prog.cellsOf 4 = 1 := by kernel_rfl
theorem cellsBet : Try.prog.cellsOf 53 = 3 := by kernel_rfl
theorem cellsBets : Try.prog.cellsOf 22 = 1 := by kernel_rfl
theorem cellsInts : Try.prog.cellsOf 23 = 1 := by kernel_rfl
theorem cellsBook : Try.prog.cellsOf 25 = 8 := by kernel_rfl
theorem bet_gen {H : Type} {enc : TypeId × Value → H} {P : Program} {W : World} {fuel : Nat} {T I J : TypeId} {f0 f1 f2 : Field} (ht : P.underlying T = some (.struct #[f0, f1, f2])) (hi : P.underlying I = some (.int .i64)) (hj : P.underlying J = some (.int .i64)) (cI : P.cellsOf I = 1) (cJ : P.cellsOf J = 1) (cT : P.cellsOf T = 3)
    (o0 : f0.offset = 0 ∧ f0.type = I) (o1 : f1.offset = 1 ∧ f1.type = I) (o2 : f2.offset = 2 ∧ f2.type = J) {cs : List Value} {x : DataW H × List MemPlace} (h : DataW.trod enc P W 0 (fun _ => true) true fuel T cs = some x) :
    ∃ y : Bet, cs = [.int .i64 y.first, .int .i64 y.second, .int .i64 y.units] := by
  obtain ⟨xs, m, -, -, hl, hn, hf⟩ := Go.DataW.trod_struct ht h
  rw [cT] at hl
  obtain ⟨v0, v1, v2, rfl⟩ : ∃ v0 v1 v2, cs = [v0, v1, v2] := by
    match cs, hl with
    | [a, b, c], _ => exact ⟨a, b, c, rfl⟩
  have g0 := hf 0 f0 rfl
  have g1 := hf 1 f1 rfl
  have g2 := hf 2 f2 rfl
  simp only [List.size_toArray, List.length_cons, List.length_nil] at hn
  rw [List.getElem?_eq_getElem (by omega)] at g0 g1 g2
  rw [o0.1, o0.2, cI] at g0
  rw [o1.1, o1.2, cI] at g1
  rw [o2.1, o2.2, cJ] at g2
  obtain ⟨a, e0, -, -⟩ := Go.DataW.trod_int hi g0
  obtain ⟨b, e1, -, -⟩ := Go.DataW.trod_int hi g1
  obtain ⟨c, e2, -, -⟩ := Go.DataW.trod_int hj g2
  simp at e0 e1 e2
  exact ⟨⟨a, b, c⟩, by rw [e0, e1, e2]⟩
theorem bet_arg {H : Type} {enc : TypeId × Value → H} {W : World} {fuel : Nat} {cs : List Value} {x : DataW H × List MemPlace} (h : DataW.trod enc Try.prog W 0 (fun _ => true) true fuel 53 cs = some x) :
    ∃ y : Bet, cs = [.int .i64 y.first, .int .i64 y.second, .int .i64 y.units] := bet_gen Try.underlying53 Try.underlying3 Try.underlying2 cellsInt cellsI64 cellsBet ⟨rfl, rfl⟩ ⟨rfl, rfl⟩ ⟨rfl, rfl⟩ h
/-- A slice of bets among the arguments. -/
theorem bets_arg {H : Type} {enc : TypeId × Value → H} {W : World} {fuel : Nat} {v : Value} {x : DataW H × List MemPlace} (h : DataW.trod enc Try.prog W 0 (fun _ => true) true fuel 22 [v] = some x) :
    ∃ A n c bs, v = .slice A n c ∧ n ≤ c ∧ BetsAt W W.heap.size A n bs := by
  rcases Go.Deep.open_slice Try.underlying22 h with ⟨hcs, -⟩ | ⟨a, len, cap, m, n', D, Pl, hcs, -, hl, hm, hmm, -, hel⟩
  · obtain rfl : v = .slice none 0 0 := by simpa using hcs
    exact ⟨none, 0, 0, [], rfl, Nat.le_refl _, rfl, by omega, fun h => absurd h (by omega)⟩
  · obtain rfl : v = .slice (some a) len cap := by simpa using hcs
    have hmc : m = cap := by simpa using hmm
    have each : ∀ i, i < len → ∃ y : Bet, W.cell? (a.add (i * 3)) = some (.int .i64 y.first) ∧ W.cell? (a.add (i * 3 + 1)) = some (.int .i64 y.second) ∧ W.cell? (a.add (i * 3 + 2)) = some (.int .i64 y.units) := by
      intro i hi
      obtain ⟨cs', h1, h2⟩ := hel i (by omega)
      obtain ⟨y, rfl⟩ := bet_arg h2
      rw [cellsBet] at h1
      obtain ⟨_, hlen, hcell⟩ := World.cells?_some h1
      have g0 := hcell 0 (by omega)
      have g1 := hcell 1 (by omega)
      have g2 := hcell 2 (by omega)
      rw [Go.Deep.add_add] at g0 g1 g2
      exact ⟨y, by simpa using g0, by simpa using g1, by simpa using g2⟩
    obtain ⟨fx, hfx⟩ := Go.Deep.choose_lt each
    refine ⟨some a, len, cap, (List.range len).map fx, rfl, hl, by simp, by simp only [maxLen] at hm; omega, fun h0 => ?_⟩
    obtain ⟨b, off, spot⟩ := a
    have hc0 := (hfx 0 h0).1
    have hspot : spot = none := by simpa [Addr.add] using World.cell?_spot hc0
    subst hspot
    refine ⟨b, off, rfl, ?_, fun j hj => ?_⟩
    · rcases Nat.lt_or_ge b W.heap.size with hb | hb
      · exact hb
      · simp [World.cell?, Addr.add, Array.getElem?_eq_none hb] at hc0
    · have e := hfx j hj
      rw [Go.WideShapes.add_plain, Go.WideShapes.add_plain, Go.WideShapes.add_plain] at e
      rw [List.getElem?_map, List.getElem?_range hj, Option.map_some, Option.getD_some]
      exact e
theorem book_gen {H : Type} {enc : TypeId × Value → H} {P : Program} {W : World} {fuel : Nat} {T I J S R C : TypeId} {f0 f1 f2 f3 f4 f5 f6 f7 : Field} (ht : P.underlying T = some (.struct #[f0, f1, f2, f3, f4, f5, f6, f7])) (hi : P.underlying I = some (.int .i64)) (hj : P.underlying J = some (.int .i64)) (hb : P.underlying C = some .bool)
    (cI : P.cellsOf I = 1) (cJ : P.cellsOf J = 1) (cS : P.cellsOf S = 1) (cR : P.cellsOf R = 1) (cC : P.cellsOf C = 1) (cT : P.cellsOf T = 8)
    (o0 : f0.offset = 0 ∧ f0.type = I) (o1 : f1.offset = 1 ∧ f1.type = I) (o2 : f2.offset = 2 ∧ f2.type = S) (o3 : f3.offset = 3 ∧ f3.type = R) (o4 : f4.offset = 4 ∧ f4.type = C) (o5 : f5.offset = 5 ∧ f5.type = J) (o6 : f6.offset = 6 ∧ f6.type = J) (o7 : f7.offset = 7 ∧ f7.type = J)
    {cs : Array Value} {x : DataW H × List MemPlace} (h : DataW.trod enc P W 0 (fun _ => true) true fuel T cs.toList = some x) :
    ∃ (a0 a1 : Int) (v2 v3 : Value) (a4 : Bool) (a5 a6 a7 : Int) (q : Nat) (x2 x3 : DataW H × List MemPlace), cs = #[.int .i64 a0, .int .i64 a1, v2, v3, .bool a4, .int .i64 a5, .int .i64 a6, .int .i64 a7] ∧
      DataW.trod enc P W 0 (fun _ => true) true q S [v2] = some x2 ∧ DataW.trod enc P W 0 (fun _ => true) true q R [v3] = some x3 := by
  obtain ⟨xs, q, -, -, hl, hn, hf⟩ := Go.DataW.trod_struct ht h
  rw [cT] at hl
  obtain ⟨v0, v1, v2, v3, v4, v5, v6, v7, hc⟩ : ∃ v0 v1 v2 v3 v4 v5 v6 v7, cs.toList = [v0, v1, v2, v3, v4, v5, v6, v7] := by
    generalize cs.toList = l at hl
    match l, hl with
    | [a, b, c, d, e, f, g, h], _ => exact ⟨a, b, c, d, e, f, g, h, rfl⟩
  rw [hc] at hf
  simp only [List.size_toArray, List.length_cons, List.length_nil] at hn
  have g0 := hf 0 f0 rfl
  have g1 := hf 1 f1 rfl
  have g2 := hf 2 f2 rfl
  have g3 := hf 3 f3 rfl
  have g4 := hf 4 f4 rfl
  have g5 := hf 5 f5 rfl
  have g6 := hf 6 f6 rfl
  have g7 := hf 7 f7 rfl
  rw [List.getElem?_eq_getElem (by omega)] at g0 g1 g2 g3 g4 g5 g6 g7
  rw [o0.1, o0.2, cI] at g0
  rw [o1.1, o1.2, cI] at g1
  rw [o2.1, o2.2, cS] at g2
  rw [o3.1, o3.2, cR] at g3
  rw [o4.1, o4.2, cC] at g4
  rw [o5.1, o5.2, cJ] at g5
  rw [o6.1, o6.2, cJ] at g6
  rw [o7.1, o7.2, cJ] at g7
  obtain ⟨a0, e0, -, -⟩ := Go.DataW.trod_int hi g0
  obtain ⟨a1, e1, -, -⟩ := Go.DataW.trod_int hi g1
  obtain ⟨a4, e4, -⟩ := Go.DataW.trod_bool hb g4
  obtain ⟨a5, e5, -, -⟩ := Go.DataW.trod_int hj g5
  obtain ⟨a6, e6, -, -⟩ := Go.DataW.trod_int hj g6
  obtain ⟨a7, e7, -, -⟩ := Go.DataW.trod_int hj g7
  simp at e0 e1 e4 e5 e6 e7
  refine ⟨a0, a1, v2, v3, a4, a5, a6, a7, q, _, _, ?_, by simpa using g2, by simpa using g3⟩
  apply Array.toList_inj.1
  rw [hc, e0, e1, e4, e5, e6, e7]
/-- A book among the arguments. -/
theorem book_arg {H : Type} {enc : TypeId × Value → H} {W : World} {fuel : Nat} {cs : Array Value} {x : DataW H × List MemPlace} (h : DataW.trod enc Try.prog W 0 (fun _ => true) true fuel 25 cs.toList = some x) :
    ∃ b A n c A2 m c2, cs = bkC b A n c A2 m c2 ∧ BkAt W W.heap.size b A n c A2 m c2 := by
  obtain ⟨a0, a1, v2, v3, a4, a5, a6, a7, q, x2, x3, rfl, f2, f3⟩ := book_gen Try.underlying25 Try.underlying3 Try.underlying2 Try.underlying4 cellsInt cellsI64 cellsBets cellsInts cellsBool cellsBook ⟨rfl, rfl⟩ ⟨rfl, rfl⟩ ⟨rfl, rfl⟩ ⟨rfl, rfl⟩ ⟨rfl, rfl⟩ ⟨rfl, rfl⟩ ⟨rfl, rfl⟩ ⟨rfl, rfl⟩ h
  obtain ⟨A, n, c, bs, rfl, l2, i2⟩ := bets_arg f2
  obtain ⟨A2, m, c2, ss, rfl, l3, i3⟩ := ints_arg f3
  exact ⟨⟨a0, a1, bs, ss, a4, a5, a6, a7⟩, A, n, c, A2, m, c2, rfl, i2, i3, l2, l3⟩
theorem cellsByte : Try.prog.cellsOf 5 = 1 := by kernel_rfl
/-- A slice of bytes among the arguments. -/
theorem bytes_arg {H : Type} {enc : TypeId × Value → H} {W : World} {fuel : Nat} {v : Value} {x : DataW H × List MemPlace} (h : DataW.trod enc Try.prog W 0 (fun _ => true) true fuel 44 [v] = some x) :
    ∃ A n c xs, v = .slice A n c ∧ n ≤ c ∧ U8At W W.heap.size A n xs := by
  rcases open_ints Try.underlying44 Try.underlying5 cellsByte h with ⟨hcs, -⟩ | ⟨a, n, c, zs, hcs, -, hl, hm, hz, -, hcell, hwf⟩
  · obtain rfl : v = .slice none 0 0 := by simpa using hcs
    exact ⟨none, 0, 0, [], rfl, Nat.le_refl _, rfl, by omega, fun h => absurd h (by omega)⟩
  · obtain rfl : v = .slice (some a) n c := by simpa using hcs
    have hz : zs.length = c := by simpa using hz
    refine ⟨some a, n, c, zs.take n, rfl, hl, by rw [List.length_take]; omega, by simp only [maxLen] at hm; omega, fun h0 => ?_⟩
    obtain ⟨b, off, rfl, hc⟩ := Go.ints_at hcell (by omega)
    refine ⟨b, off, rfl, ?_, fun j hj => ⟨?_, ?_⟩⟩
    · rcases Nat.lt_or_ge b W.heap.size with hb | hb
      · exact hb
      · have := hc 0 (by omega)
        simp [World.cell?, Array.getElem?_eq_none hb] at this
    · rw [hc j (by omega), List.getElem?_take, if_pos hj, List.getD_eq_getElem?_getD]
    · rw [List.getElem?_take, if_pos hj]
      exact range_u8 hwf j

/-! ### THE ROW's STEP -/
set_option maxRecDepth 100000 in
theorem lifted (os : Os) (started : os.Started) (H : Type) (enc : TypeId × Value → H) :
    ReturnsInHanded {} Try.checked os 9 .any (Rows.poolTogetherSpec.pre6 enc Try.prog Try.f9 Rows.poolTogetherRow.domain false) (Rows.poolTogetherSpec.post enc Try.prog Try.f9 false true false false) := by
  refine returnsInHanded_of_change (C := Try.checked) own started (by kernel_rfl) Try.func9
    (ChangeSpec.witness6 (enc := enc) (C := Try.checked) false ⟨#[], #[.agg #[.int .i64 0, .int .i64 0, .slice none 0 0, .slice none 0 0, .bool false, .int .i64 0, .int .i64 0, .int .i64 0], .slice none 0 0, .int .u8 0], []⟩ 8 (by kernel_rfl) (by kernel_rfl) (by kernel_rfl) (by kernel_rfl)) ?_
  intro W base args ds gs before hval0 hW hcnd _
  have hval : ∀ (j : Nat) t v, Try.f9.params[j]? = some t → args[j]? = some v → Value.okWide Try.prog W .any base t v := hval0
  have hW' := hW
  obtain ⟨p, q, hA0, hV, rfl, hfz, hnd⟩ := hW
  have hA : DataW.TrodAll enc Try.prog W 0 (fun _ => true) true Try.f9.params.toList args.toList ds p := hA0
  rw [Try.params9] at hA hval
  obtain ⟨v0, v1, v2, d0, d1, d2, p0, p1, p2, rfl, rfl, rfl, h0, h1, h2⟩ := trodAll_three hA
  obtain ⟨rfl, rfl⟩ := trodVars_none hV
  obtain ⟨cs0, rfl, -⟩ := okWide_struct Try.underlying25 (hval 0 25 v0 rfl rfl)
  obtain ⟨A1, n1, c1, rfl⟩ := okWide_slice Try.underlying44 (hval 1 44 v1 rfl rfl)
  obtain ⟨x2, rfl, rfl, rfl, wx2⟩ := open_int Try.underlying5 (hval 2 5 v2 rfl rfl) h2
  have h0k := h0
  have h1k := h1
  obtain ⟨f0, hf0⟩ := h0
  obtain ⟨f1, hf1⟩ := h1
  obtain ⟨b0, A0, n0, c0, B0, m0, d0, e0, i0⟩ := book_arg (cs := cs0) hf0
  subst e0
  obtain ⟨A1', n1', c1', x1, e1, l1, i1⟩ := bytes_arg hf1
  cases e1
  clear hA0 hval0
  simp only [List.append_nil] at hW'
  have hlt0 : ∀ x ∈ p0, x.block < W.heap.size := fun x hx => by simpa using hW'.lt x (by simp [hx])
  have hlt1 : ∀ x ∈ p1, x.block < W.heap.size := fun x hx => by simpa using hW'.lt x (by simp [hx])
  have bd2 : 0 ≤ x2 ∧ x2 ≤ 255 := by have := bounds_u8 wx2; omega
  refine (PoolTogether_any W W.heap.size b0 A0 n0 c0 B0 m0 d0 A1 n1 c1 x1 x2 i0 i1 bd2 (Nat.le_refl _)).mono fun e W' ⟨he, hg⟩ => ?_
  subst he
  exact ⟨_, rfl, _, _, _, [], p0 ++ (p1 ++ []), [], hW', trodAll_cons_mk (shut_bool Try.underlying4 _) trodAll_mk0,
    trodAll_mk3 (Below.trod laidOut (by kernel_rfl) (of_decide_eq_true (by kernel_rfl)) h0k hg hlt0) (Below.trod laidOut (by kernel_rfl) (of_decide_eq_true (by kernel_rfl)) h1k hg hlt1) (shut_int Try.underlying5 wx2),
    rfl, hg.frame _, fun h => by cases h⟩

theorem over : Rows.poolTogetherRow.holds Try.pinned (OpenSpec.ofChange Rows.poolTogetherSpec) :=
  OpenClaim.holds_of_wide 9 Try.f9 rfl rfl rfl rfl rfl rfl rfl ⟨rfl, rfl, rfl, rfl, rfl⟩ rfl rfl rfl rfl rfl (by kernel_rfl) Try.func9 (by kernel_rfl)
    (of_decide_eq_true (by kernel_rfl)) (by unfold Func.isWrapper; first | (rw [if_pos (by decide +kernel)]; kernel_rfl) | (rw [if_neg (by decide +kernel)]; exact ⟨rfl, rfl⟩))
    (fun os started H enc _ => lifted os started H enc)

/-- The statement. -/
theorem proved : Rows.PoolTogetherSaid :=
  over
#print axioms proved
end Go.Proofs.Ytbahiemjaomdcaa.poolTogether
