/- Parts of a proof: VE VI VH VJ. -/
import Derived.Test.YtbahiemjaomdcaaGreatQ13

/- quinellaref03: FavouriteOf, Favourite. -/
namespace Go.Proofs.YtbahiemjaomdcaaGreat
open Go.RowKit Go.Shelf

/-- Whether a bet's second runner still runs. -/
def okS (b : Bk) (x : Bet) : Bool := !decide (x.second ∈ b.scr)
theorem tallyS {b : Bk} {k : Nat} (h : (k : Int) ∉ b.scr) (bs : List Bet) : tallyF (okS b) (fun x => x.first) bs k = tallyF (okF b) (fun x => x.first) bs k := by
  unfold tallyF
  congr 1
  refine List.map_congr_left fun x _ => ?_
  by_cases hk : x.first = (k : Int)
  · have e : okF b x = okS b x := by unfold okF okS; rw [hk, decide_eq_false h]; rfl
    rw [e]
  · rw [if_neg (fun hh => hk hh.2), if_neg (fun hh => hk hh.2)]
def bestL (b : Bk) : Nat → Int × Int
  | 0 => (-1, 0)
  | k + 1 => if (k : Int) ∈ b.scr then bestL b k else if (bestL b k).1 < 0 ∨ (bestL b k).2 < tallyF (okS b) (fun x => x.first) b.bets k then ((k : Int), tallyF (okS b) (fun x => x.first) b.bets k) else bestL b k
theorem fgF_snoc (t : Nat → Int) (xs : List Int) (y : Int) : fgF t (xs ++ [y]) = if xs = [] then y else betterF t (fgF t xs) y := by
  cases xs with
  | nil => rfl
  | cons x xs =>
    unfold fgF
    rw [if_neg (by simp)]
    simp
theorem bestL_eq (b : Bk) : ∀ k, bestL b k = if racL b k = [] then (-1, 0) else (fgF (tallyF (okF b) (fun x => x.first) b.bets) (racL b k), tallyF (okF b) (fun x => x.first) b.bets (fgF (tallyF (okF b) (fun x => x.first) b.bets) (racL b k)).toNat)
  | 0 => rfl
  | k + 1 => by
    rw [bestL, racL, bestL_eq b k]
    by_cases h : (k : Int) ∈ b.scr
    · rw [if_pos h, if_pos h, List.append_nil]
    · rw [if_neg h, if_neg h, tallyS h, fgF_snoc, if_neg (show ¬ racL b k ++ [(k : Int)] = [] by simp)]
      by_cases he : racL b k = []
      · rw [if_pos he, if_pos he, if_pos (.inl (by decide))]
        simp
      · rw [if_neg he, if_neg he]
        have h1 := (racL_mem b).1 (fgF_mem (tallyF (okF b) (fun x => x.first) b.bets) (List.length_pos_iff.2 he))
        by_cases h2 : tallyF (okF b) (fun x => x.first) b.bets (fgF (tallyF (okF b) (fun x => x.first) b.bets) (racL b k)).toNat < tallyF (okF b) (fun x => x.first) b.bets k
        · rw [if_pos (.inr h2)]
          unfold betterF
          rw [Int.toNat_natCast, if_pos h2, Int.toNat_natCast]
        · rw [if_neg (fun hh => by rcases hh with hh | hh; (simp only at hh; omega); exact h2 hh)]
          unfold betterF
          rw [Int.toNat_natCast, if_neg h2]
theorem bestL_fav {b : Bk} (h : 0 < (racN b).length) : (bestL b b.runners.toNat).1 = favF b := by
  rw [bestL_eq, if_neg (show ¬ racL b b.runners.toNat = [] from List.length_pos_iff.1 h)]
  rfl
set_option maxHeartbeats 1000000 in
set_option maxRecDepth 20000 in
theorem favouriteOf_any (w : World) (B : Nat) (b : Bk) (A : Option Addr) (n c : Nat) (A2 : Option Addr) (m c2 : Nat) (h : BkAt w B b A n c A2 m c2) (hB : B ≤ w.heap.size) (V : ValidB b) : Calls Tryz.prog 71 #[bkV b A n c A2 m c2] w fun e w' => e = .returned (.int .i64 (favF b)) ∧ Below w.heap.size w w' := by
  have hbl := h.bets.1
  have hxl := h.scr.1
  have hn9 := h.bets.2.1
  have hv1 := V.run
  have hv2 := V.len
  refine enter 64 Tryz.func71 (by kernel_rfl) fun hA => ?_
  refine runS hA 19 [] xn on (by kernel_rfl) fun w1 hA => ?_
  obtain ⟨R, hR⟩ : ∃ R : Nat, b.runners = (R : Int) := ⟨b.runners.toNat, by omega⟩
  refine loop (γ := Nat) (fun k => [(1, .pointer (some ⟨w.heap.size, 0, none⟩)), (2, .int .i64 0), (3, .int .i64 ((bestL b k).1)), (4, .int .i64 ((bestL b k).2)), (5, .int .i64 (k : Int))]) (fun k => [⟨w.heap.size, .cells #[.int .i64 b.kind, .int .i64 b.runners, .slice A n c, .slice A2 m c2, .bool b.fav, .int .i64 b.car, .int .i64 b.dut, .int .i64 b.stp] 25 (0, 0)⟩]) (fun _ => []) (fun g k wr => k ≤ R ∧ g = R - k) R 0 [true] hA (by kernel_rfl) (⟨Nat.zero_le _, rfl⟩) ?_
  rintro _ k wr ⟨hk, rfl⟩ J hJ hA
  by_cases hlk : k < R
  case neg =>
    refine runS hA 12 [.k 0, .b false] xn (oc (dec_f (show ¬ (((k : Int) : Int) < (b.runners : Int)) by omega)) on) (by kernel_rfl) fun w2 hA => ?_
    refine leave hA (by kernel_rfl) fun hA => ?_
    refine runS hA 9 [] xn on (by kernel_rfl) fun w3 hA => ?_
    exact ret (v := .int .i64 ((bestL b k).1)) hA [] (by kernel_rfl) ⟨by rw [show k = b.runners.toNat by omega, bestL_fav (by have := V.racing; omega)], hA.below⟩
  case pos =>
    have hJ1 := hJ
    refine runS hA 26 [.k 0, .b true] xn (oc (dec_t (show (((k : Int) : Int) < (b.runners : Int)) by omega)) on) (by kernel_rfl) fun w2 hA => ?_
    refine loop (γ := Nat) (fun i => [(1, .pointer (some ⟨w.heap.size, 0, none⟩)), (2, .int .i64 0), (3, .int .i64 ((bestL b k).1)), (4, .int .i64 ((bestL b k).2)), (5, .int .i64 (k : Int)), (6, .int .i64 (tallyF (okS b) (fun x => x.first) (b.bets.take i) k)), (7, .int .i64 (i : Int))]) (fun i => [⟨w.heap.size, .cells #[.int .i64 b.kind, .int .i64 b.runners, .slice A n c, .slice A2 m c2, .bool b.fav, .int .i64 b.car, .int .i64 b.dut, .int .i64 b.stp] 25 (0, 0)⟩]) (fun _ => []) (fun g i wt => i ≤ n ∧ g = n - i) n 0 [true] hA (by kernel_rfl) (⟨Nat.zero_le _, rfl⟩) ?_
    rintro _ i wt ⟨hi, rfl⟩ J hJ hA
    by_cases hlt : i < n
    case neg =>
      refine runS hA 13 [.k 0, .b false] xn (oc (dec_f (show ¬ (((i : Int) : Int) < (n : Int)) by omega)) on) (by kernel_rfl) fun w3 hA => ?_
      refine leave hA (by kernel_rfl) fun hA => ?_
      have hin : i = n := by omega
      refine revals hA (rc 6 (show .int .i64 (tallyF (okS b) (fun x => x.first) (b.bets.take i) k) = .int .i64 (tallyF (okS b) (fun x => x.first) b.bets k) by rw [List.take_of_length_le (by omega)]) rn) (by kernel_rfl) fun hA => ?_
      refine runS hA 7 [.k 0] xn on (by kernel_rfl) fun w4 hA => ?_
      refine callB hA [] on (has_any w4 B A2 m c2 b.scr (k : Int) (h.scr.below hA.below hB) (Nat.le_trans hB hA.size)) (by kernel_rfl) fun w5 hb5 hA => ?_
      by_cases hks : (k : Int) ∈ b.scr
      case pos =>
        refine revals hA (rc 50 (show .bool (decide ((k : Int) ∈ b.scr)) = .bool true by rw [decide_eq_true hks]) rn) (by kernel_rfl) fun hA => ?_
        refine runS hA 21 (List.replicate 4 (.g false)) xn (oc (rfl : Value.bool false = .bool false) (oc (rfl : Value.bool false = .bool false) (oc (rfl : Value.bool false = .bool false) (oc (rfl : Value.bool false = .bool false) on)))) (by kernel_rfl) fun w6 hA => ?_
        have hst : bestL b (k + 1) = bestL b k := by rw [bestL, if_pos hks]
        refine revals hA (rc 3 (show .int .i64 ((bestL b k).1) = .int .i64 ((bestL b (k + 1)).1) by rw [hst]) (rc 4 (show .int .i64 ((bestL b k).2) = .int .i64 ((bestL b (k + 1)).2) by rw [hst]) (rc 5 (wr64 (x := (k : Int) + 1) (y := ((k + 1 : Nat) : Int)) (by omega) (by omega)) rn))) (by kernel_rfl) fun hA => ?_
        exact again hJ1 (R - (k + 1)) (k + 1) [true] hA (by omega) (by kernel_rfl) ⟨by omega, rfl⟩
      case neg =>
        refine revals hA (rc 50 (show .bool (decide ((k : Int) ∈ b.scr)) = .bool false by rw [decide_eq_false hks]) rn) (by kernel_rfl) fun hA => ?_
        by_cases hb0 : (bestL b k).1 < 0
        case pos =>
          refine runS hA 26 (List.replicate 7 (.g true)) xn (oc (rfl : Value.bool true = .bool true) (oc (rfl : Value.bool true = .bool true) (oc (rfl : Value.bool true = .bool true) (oc (dec_t (show (((bestL b k).1 : Int) < (0 : Int)) by omega)) (oc (rfl : Value.bool true = .bool true) (oc (rfl : Value.bool true = .bool true) (oc (rfl : Value.bool true = .bool true) on))))))) (by kernel_rfl) fun w6 hA => ?_
          have hst : bestL b (k + 1) = ((k : Int), (tallyF (okS b) (fun x => x.first) b.bets k)) := by rw [bestL, if_neg hks, if_pos (.inl hb0)]
          refine revals hA (rc 3 (show .int .i64 (k : Int) = .int .i64 ((bestL b (k + 1)).1) by rw [hst]) (rc 4 (show .int .i64 (tallyF (okS b) (fun x => x.first) b.bets k) = .int .i64 ((bestL b (k + 1)).2) by rw [hst]) (rc 5 (wr64 (x := (k : Int) + 1) (y := ((k + 1 : Nat) : Int)) (by omega) (by omega)) rn))) (by kernel_rfl) fun hA => ?_
          exact again hJ1 (R - (k + 1)) (k + 1) [true] hA (by omega) (by kernel_rfl) ⟨by omega, rfl⟩
        case neg =>
          by_cases hb1 : (bestL b k).2 < (tallyF (okS b) (fun x => x.first) b.bets k)
          case pos =>
            refine runS hA 26 [.g true, .g true, .g true, .g false, .g false, .g false, .g true, .b true] xn (oc (rfl : Value.bool true = .bool true) (oc (rfl : Value.bool true = .bool true) (oc (rfl : Value.bool true = .bool true) (oc (dec_f (show ¬ (((bestL b k).1 : Int) < (0 : Int)) by omega)) (oc (rfl : Value.bool false = .bool false) (oc (rfl : Value.bool false = .bool false) (oc (rfl : Value.bool true = .bool true) (oc (dec_t (show (((tallyF (okS b) (fun x => x.first) b.bets k) : Int) > ((bestL b k).2 : Int)) by omega)) on)))))))) (by kernel_rfl) fun w6 hA => ?_
            have hst : bestL b (k + 1) = ((k : Int), (tallyF (okS b) (fun x => x.first) b.bets k)) := by rw [bestL, if_neg hks, if_pos (.inr hb1)]
            refine revals hA (rc 3 (show .int .i64 (k : Int) = .int .i64 ((bestL b (k + 1)).1) by rw [hst]) (rc 4 (show .int .i64 (tallyF (okS b) (fun x => x.first) b.bets k) = .int .i64 ((bestL b (k + 1)).2) by rw [hst]) (rc 5 (wr64 (x := (k : Int) + 1) (y := ((k + 1 : Nat) : Int)) (by omega) (by omega)) rn))) (by kernel_rfl) fun hA => ?_
            exact again hJ1 (R - (k + 1)) (k + 1) [true] hA (by omega) (by kernel_rfl) ⟨by omega, rfl⟩
          case neg =>
            refine runS hA 21 [.g true, .g true, .g true, .g false, .g false, .g false, .g true, .b false] xn (oc (rfl : Value.bool true = .bool true) (oc (rfl : Value.bool true = .bool true) (oc (rfl : Value.bool true = .bool true) (oc (dec_f (show ¬ (((bestL b k).1 : Int) < (0 : Int)) by omega)) (oc (rfl : Value.bool false = .bool false) (oc (rfl : Value.bool false = .bool false) (oc (rfl : Value.bool true = .bool true) (oc (dec_f (show ¬ (((tallyF (okS b) (fun x => x.first) b.bets k) : Int) > ((bestL b k).2 : Int)) by omega)) on)))))))) (by kernel_rfl) fun w6 hA => ?_
            have hst : bestL b (k + 1) = bestL b k := by rw [bestL, if_neg hks, if_neg (fun hh => hh.elim hb0 hb1)]
            refine revals hA (rc 3 (show .int .i64 ((bestL b k).1) = .int .i64 ((bestL b (k + 1)).1) by rw [hst]) (rc 4 (show .int .i64 ((bestL b k).2) = .int .i64 ((bestL b (k + 1)).2) by rw [hst]) (rc 5 (wr64 (x := (k : Int) + 1) (y := ((k + 1 : Nat) : Int)) (by omega) (by omega)) rn))) (by kernel_rfl) fun hA => ?_
            exact again hJ1 (R - (k + 1)) (k + 1) [true] hA (by omega) (by kernel_rfl) ⟨by omega, rfl⟩
    case pos =>
      obtain ⟨b1, off, rfl, hb1, k0, k1, k2⟩ := h.bets.at hlt
      have hlb1 : b1 < w.heap.size := Nat.lt_of_lt_of_le hb1 hB
      have htk := tallyF_take (okS b) (fun x => x.first) b.bets k (k := i) (by omega) rfl
      have hub : ∀ x ∈ b.bets, 0 ≤ x.units ∧ x.units ≤ 1000 := units_ok V
      have htb := tallyF_bound (okS b) (fun x => x.first) (b.bets.take (i + 1)) k (fun x hx => hub x (List.mem_of_mem_take hx))
      have htl : (b.bets.take (i + 1)).length ≤ 100 := by rw [List.length_take]; omega
      by_cases hf : (b.bets[i]?.getD noBet).first = (k : Int)
      case neg =>
        refine runS hA 36 [.k 0, .b true, .k 0, .i, .x (.int .i64 ((b.bets[i]?.getD noBet).first)), .b false] (xc (a := ⟨b1, off + i * 3, none⟩) ⟨hlb1, k0⟩ xn) (oc (dec_t (show (((i : Int) : Int) < (n : Int)) by omega)) (oc (show (0 : Int) ≤ ((i : Int) : Int) ∧ ((i : Int) : Int) < (n : Int) by omega) (oc (eq_f hf) on))) (by kernel_rfl) fun w3 hA => ?_
        refine revals hA (rc 6 (show .int .i64 (tallyF (okS b) (fun x => x.first) (b.bets.take i) k) = .int .i64 (tallyF (okS b) (fun x => x.first) (b.bets.take (i + 1)) k) by rw [htk, if_neg (fun hh => hf hh.2), Int.add_zero]) (rc 7 (wr64 (x := (i : Int) + 1) (y := ((i + 1 : Nat) : Int)) (by omega) (by omega)) rn)) (by kernel_rfl) fun hA => ?_
        exact again hJ (n - (i + 1)) (i + 1) [true] hA (by omega) (by kernel_rfl) (⟨by omega, rfl⟩)
      case pos =>
        refine runS hA 29 [.k 0, .b true, .k 0, .i, .x (.int .i64 ((b.bets[i]?.getD noBet).first)), .b true] (xc (a := ⟨b1, off + i * 3, none⟩) ⟨hlb1, k0⟩ xn) (oc (dec_t (show (((i : Int) : Int) < (n : Int)) by omega)) (oc (show (0 : Int) ≤ ((i : Int) : Int) ∧ ((i : Int) : Int) < (n : Int) by omega) (oc (eq_t hf) on))) (by kernel_rfl) fun w3 hA => ?_
        refine draw hA [true] [0, 1, 2, 3, 4, 5, 6, 7, 8, 9] (by kernel_rfl) (by kernel_rfl) fun hA => ?_
        refine runS hA 8 [.t 0, .t 1, .k 0, .t 2, .t 3, .k 0, .t 4, .t 5, .i, .t 6, .t 7, .x (.int .i64 ((b.bets[i]?.getD noBet).second))] (xc (a := ⟨b1, off + i * 3 + 1, none⟩) ⟨hlb1, k1⟩ xn) (oc (show (0 : Int) ≤ ((i : Int) : Int) ∧ ((i : Int) : Int) < (n : Int) by omega) on) (by kernel_rfl) fun w4 hA => ?_
        refine callB hA [] on (has_any w4 B A2 m c2 b.scr (b.bets[i]?.getD noBet).second (h.scr.below hA.below hB) (Nat.le_trans hB hA.size)) (by kernel_rfl) fun w5 hb5 hA => ?_
        by_cases hs : (b.bets[i]?.getD noBet).second ∈ b.scr
        case pos =>
          refine revals hA (rc 37 (show .bool (decide ((b.bets[i]?.getD noBet).second ∈ b.scr)) = .bool true by rw [decide_eq_true hs]) rn) (by kernel_rfl) fun hA => ?_
          refine runS hA 12 [.t 9, .b true] xn on (by kernel_rfl) fun w6 hA => ?_
          refine revals hA (rc 6 (show .int .i64 (tallyF (okS b) (fun x => x.first) (b.bets.take i) k) = .int .i64 (tallyF (okS b) (fun x => x.first) (b.bets.take (i + 1)) k) by rw [htk, if_neg (fun hh => by unfold okS at hh; rw [decide_eq_true hs] at hh; exact absurd hh.1 (by decide)), Int.add_zero]) (rc 7 (wr64 (x := (i : Int) + 1) (y := ((i + 1 : Nat) : Int)) (by omega) (by omega)) rn)) (by kernel_rfl) fun hA => ?_
          exact again hJ (n - (i + 1)) (i + 1) [true] hA (by omega) (by kernel_rfl) (⟨by omega, rfl⟩)
        case neg =>
          refine revals hA (rc 37 (show .bool (decide ((b.bets[i]?.getD noBet).second ∈ b.scr)) = .bool false by rw [decide_eq_false hs]) rn) (by kernel_rfl) fun hA => ?_
          refine runS hA 22 [.t 9, .b true, .k 0, .i, .x (.int .i64 ((b.bets[i]?.getD noBet).units))] (xc (a := ⟨b1, off + i * 3 + 2, none⟩) ⟨hlb1, k2⟩ xn) (oc (show (0 : Int) ≤ ((i : Int) : Int) ∧ ((i : Int) : Int) < (n : Int) by omega) on) (by kernel_rfl) fun w6 hA => ?_
          have hok : okS b (b.bets[i]?.getD noBet) = true ∧ (b.bets[i]?.getD noBet).first = (k : Int) := ⟨by unfold okS; rw [decide_eq_false hs]; rfl, hf⟩
          rw [if_pos hok] at htk
          refine revals hA (rc 6 (wr64 (by rw [← htk]; omega) htk.symm) (rc 7 (wr64 (x := (i : Int) + 1) (y := ((i + 1 : Nat) : Int)) (by omega) (by omega)) rn)) (by kernel_rfl) fun hA => ?_
          exact again hJ (n - (i + 1)) (i + 1) [true] hA (by omega) (by kernel_rfl) (⟨by omega, rfl⟩)
end Go.Proofs.YtbahiemjaomdcaaGreat

/- quinellaref03: isWinner. -/
namespace Go.Proofs.YtbahiemjaomdcaaGreat
open Go.RowKit Go.Shelf

set_option linter.unusedSimpArgs false in
set_option maxHeartbeats 4000000 in
set_option maxRecDepth 20000 in
theorem isWinner_any (w : World) (B : Nat) (b : Bk) (A : Option Addr) (n c : Nat) (A2 : Option Addr) (m c2 : Nat) (A3 : Option Addr) (nf cf : Nat) (fs : List (List Int)) (x y : Int) (hf : FinAt w B A3 nf fs) (hB : B ≤ w.heap.size) (K : FinOk b fs) : Calls Tryz.prog 76 #[bkV b A n c A2 m c2, .slice A3 nf cf, .int .i64 x, .int .i64 y] w fun e w' => e = .returned (.bool (winB b fs x y)) ∧ Below w.heap.size w w' := by
  have hfl := hf.1
  have hn9 := hf.2.1
  have hp0 := K.pos
  have hp1 := K.one
  obtain ⟨b0, off0, rfl, hb0, hc⟩ := hf.2.2 (by omega)
  have hb9 : b0 < w.heap.size := Nat.lt_of_lt_of_le hb0 hB
  obtain ⟨A0, c0, k1, k2, k3⟩ := hc 0 (by omega)
  have k1' : w.cell? ⟨b0, off0 + 0 * 1, none⟩ = some (.slice A0 (fs[0]?.getD []).length c0) := by simpa using k1
  refine enter 130 Tryz.func76 (by kernel_rfl) fun hA => ?_
  refine runS hA 14 [.i, .x (.slice A0 ((fs[0]?.getD []).length) c0)] (xc (a := ⟨b0, off0, none⟩) ⟨hb9, k1'⟩ xn) (oc (show (0 : Int) ≤ (0 : Int) ∧ (0 : Int) < (nf : Int) by omega) on) (by kernel_rfl) fun w1 hA => ?_
  by_cases ha : (fs[0]?.getD []).length = 1
  case pos =>
    refine revals hA (rc 9 (eq_t (a := ((fs[0]?.getD []).length : Int)) (b := 1) (by omega)) rn) (by kernel_rfl) fun hA => ?_
    obtain ⟨hp2, hp3⟩ := hp1 ha
    obtain ⟨A1, c1, l1, l2, l3⟩ := hc 1 (by omega)
    have l1' : w.cell? ⟨b0, off0 + 1 * 1, none⟩ = some (.slice A1 (fs[1]?.getD []).length c1) := by simpa using l1
    by_cases hk0 : b.kind = 0
    case pos =>
      refine runS hA 21 [.k 0, .b true] xn (oc (eq_t hk0) on) (by kernel_rfl) fun w2 hA => ?_
      by_cases hy : y = -1
      case pos =>
        refine revals hA (rc 22 (eq_t hy) rn) (by kernel_rfl) fun hA => ?_
        refine runS hA 5 [.g true, .g true, .i, .g true, .x (.slice A0 ((fs[0]?.getD []).length) c0), .g true] (xc (a := ⟨b0, off0, none⟩) ⟨hb9, k1'⟩ xn) (oc (rfl : Value.bool true = .bool true) (oc (rfl : Value.bool true = .bool true) (oc (show (0 : Int) ≤ (0 : Int) ∧ (0 : Int) < (nf : Int) by omega) (oc (rfl : Value.bool true = .bool true) (oc (rfl : Value.bool true = .bool true) on))))) (by kernel_rfl) fun w3 hA => ?_
        refine callB hA [] on (has_any w3 B A0 (fs[0]?.getD []).length c0 (fs[0]?.getD []) x (k3.below hA.below hB) (Nat.le_trans hB hA.size)) (by kernel_rfl) fun w4 hb4 hA => ?_
        by_cases hx0 : x ∈ (fs[0]?.getD [])
        case pos =>
          refine revals hA (rc 28 (show .bool (decide (x ∈ (fs[0]?.getD []))) = .bool true by rw [decide_eq_true hx0]) rn) (by kernel_rfl) fun hA => ?_
          refine runS hA 7 [] xn on (by kernel_rfl) fun w5 hA => ?_
          exact ret (v := .bool true) hA [] (by kernel_rfl) ⟨by rw [show winB b fs x y = true by simp [winB, ha, hk0, hy, hx0]], hA.below⟩
        case neg =>
          refine revals hA (rc 28 (show .bool (decide (x ∈ (fs[0]?.getD []))) = .bool false by rw [decide_eq_false hx0]) rn) (by kernel_rfl) fun hA => ?_
          refine runS hA 7 [] xn on (by kernel_rfl) fun w5 hA => ?_
          exact ret (v := .bool false) hA [] (by kernel_rfl) ⟨by rw [show winB b fs x y = false by simp [winB, ha, hk0, hy, hx0]], hA.below⟩
      case neg =>
        refine revals hA (rc 22 (eq_f hy) rn) (by kernel_rfl) fun hA => ?_
        refine runS hA 13 (List.replicate 5 (.g false)) xn (oc (rfl : Value.bool false = .bool false) (oc (rfl : Value.bool false = .bool false) (oc (rfl : Value.bool false = .bool false) (oc (rfl : Value.bool false = .bool false) (oc (rfl : Value.bool false = .bool false) on))))) (by kernel_rfl) fun w3 hA => ?_
        exact ret (v := .bool false) hA [] (by kernel_rfl) ⟨by rw [show winB b fs x y = false by simp [winB, ha, hk0, hy]], hA.below⟩
    case neg =>
      by_cases hk1 : b.kind = 1
      case pos =>
        refine runS hA 28 [.k 0, .b false, .b true] xn (oc (eq_f hk0) (oc (eq_t hk1) on)) (by kernel_rfl) fun w2 hA => ?_
        by_cases hy : y = -1
        case pos =>
          refine revals hA (rc 33 (eq_t hy) rn) (by kernel_rfl) fun hA => ?_
          refine runS hA 5 [.g true, .g true, .i, .g true, .x (.slice A0 ((fs[0]?.getD []).length) c0), .g true] (xc (a := ⟨b0, off0, none⟩) ⟨hb9, k1'⟩ xn) (oc (rfl : Value.bool true = .bool true) (oc (rfl : Value.bool true = .bool true) (oc (show (0 : Int) ≤ (0 : Int) ∧ (0 : Int) < (nf : Int) by omega) (oc (rfl : Value.bool true = .bool true) (oc (rfl : Value.bool true = .bool true) on))))) (by kernel_rfl) fun w3 hA => ?_
          refine callB hA [] on (has_any w3 B A0 (fs[0]?.getD []).length c0 (fs[0]?.getD []) x (k3.below hA.below hB) (Nat.le_trans hB hA.size)) (by kernel_rfl) fun w4 hb4 hA => ?_
          by_cases hx0 : x ∈ (fs[0]?.getD [])
          case pos =>
            refine revals hA (rc 39 (show .bool (decide (x ∈ (fs[0]?.getD []))) = .bool true by rw [decide_eq_true hx0]) rn) (by kernel_rfl) fun hA => ?_
            refine runS hA 17 (List.replicate 5 (.g true)) xn (oc (rfl : Value.bool true = .bool true) (oc (rfl : Value.bool true = .bool true) (oc (rfl : Value.bool true = .bool true) (oc (rfl : Value.bool true = .bool true) (oc (rfl : Value.bool true = .bool true) on))))) (by kernel_rfl) fun w5 hA => ?_
            exact ret (v := .bool true) hA [] (by kernel_rfl) ⟨by rw [show winB b fs x y = true by simp [winB, ha, hk0, hk1, hy, hx0]], hA.below⟩
          case neg =>
            refine revals hA (rc 39 (show .bool (decide (x ∈ (fs[0]?.getD []))) = .bool false by rw [decide_eq_false hx0]) rn) (by kernel_rfl) fun hA => ?_
            refine runS hA 7 [.g true, .g false, .g false, .g true, .g true, .i, .g true, .x (.slice A1 ((fs[1]?.getD []).length) c1), .g true] (xc (a := ⟨b0, off0 + 1, none⟩) ⟨hb9, l1'⟩ xn) (oc (rfl : Value.bool true = .bool true) (oc (rfl : Value.bool false = .bool false) (oc (rfl : Value.bool false = .bool false) (oc (rfl : Value.bool true = .bool true) (oc (rfl : Value.bool true = .bool true) (oc (show (0 : Int) ≤ (1 : Int) ∧ (1 : Int) < (nf : Int) by omega) (oc (rfl : Value.bool true = .bool true) (oc (rfl : Value.bool true = .bool true) on)))))))) (by kernel_rfl) fun w5 hA => ?_
            refine callB hA [] on (has_any w5 B A1 (fs[1]?.getD []).length c1 (fs[1]?.getD []) x (l3.below hA.below hB) (Nat.le_trans hB hA.size)) (by kernel_rfl) fun w6 hb6 hA => ?_
            by_cases hx1 : x ∈ (fs[1]?.getD [])
            case pos =>
              refine revals hA (rc 47 (show .bool (decide (x ∈ (fs[1]?.getD []))) = .bool true by rw [decide_eq_true hx1]) rn) (by kernel_rfl) fun hA => ?_
              refine runS hA 9 [.g false, .g true] xn (oc (rfl : Value.bool false = .bool false) (oc (rfl : Value.bool true = .bool true) on)) (by kernel_rfl) fun w7 hA => ?_
              exact ret (v := .bool true) hA [] (by kernel_rfl) ⟨by rw [show winB b fs x y = true by simp [winB, ha, hk0, hk1, hy, hx0, hx1]], hA.below⟩
            case neg =>
              refine revals hA (rc 47 (show .bool (decide (x ∈ (fs[1]?.getD []))) = .bool false by rw [decide_eq_false hx1]) rn) (by kernel_rfl) fun hA => ?_
              refine runS hA 9 [.g false, .g true] xn (oc (rfl : Value.bool false = .bool false) (oc (rfl : Value.bool true = .bool true) on)) (by kernel_rfl) fun w7 hA => ?_
              exact ret (v := .bool false) hA [] (by kernel_rfl) ⟨by rw [show winB b fs x y = false by simp [winB, ha, hk0, hk1, hy, hx0, hx1]], hA.below⟩
        case neg =>
          refine revals hA (rc 33 (eq_f hy) rn) (by kernel_rfl) fun hA => ?_
          refine runS hA 23 (List.replicate 7 (.g false)) xn (oc (rfl : Value.bool false = .bool false) (oc (rfl : Value.bool false = .bool false) (oc (rfl : Value.bool false = .bool false) (oc (rfl : Value.bool false = .bool false) (oc (rfl : Value.bool false = .bool false) (oc (rfl : Value.bool false = .bool false) (oc (rfl : Value.bool false = .bool false) on))))))) (by kernel_rfl) fun w3 hA => ?_
          exact ret (v := .bool false) hA [] (by kernel_rfl) ⟨by rw [show winB b fs x y = false by simp [winB, ha, hk0, hk1, hy]], hA.below⟩
      case neg =>
        by_cases hk2 : b.kind = 2
        case pos =>
          refine runS hA 36 [.k 0, .b false, .b false, .b true] xn (oc (eq_f hk0) (oc (eq_f hk1) (oc (eq_t hk2) on))) (by kernel_rfl) fun w2 hA => ?_
          by_cases hne : x ≠ y
          case pos =>
            refine revals hA (rc 55 (ne_t hne) rn) (by kernel_rfl) fun hA => ?_
            refine runS hA 5 [.g true, .g true, .i, .g true, .x (.slice A0 ((fs[0]?.getD []).length) c0), .g true] (xc (a := ⟨b0, off0, none⟩) ⟨hb9, k1'⟩ xn) (oc (rfl : Value.bool true = .bool true) (oc (rfl : Value.bool true = .bool true) (oc (show (0 : Int) ≤ (0 : Int) ∧ (0 : Int) < (nf : Int) by omega) (oc (rfl : Value.bool true = .bool true) (oc (rfl : Value.bool true = .bool true) on))))) (by kernel_rfl) fun w3 hA => ?_
            refine callB hA [] on (has_any w3 B A0 (fs[0]?.getD []).length c0 (fs[0]?.getD []) x (k3.below hA.below hB) (Nat.le_trans hB hA.size)) (by kernel_rfl) fun w4 hb4 hA => ?_
            by_cases hx0 : x ∈ (fs[0]?.getD [])
            case pos =>
              refine revals hA (rc 61 (show .bool (decide (x ∈ (fs[0]?.getD []))) = .bool true by rw [decide_eq_true hx0]) rn) (by kernel_rfl) fun hA => ?_
              refine runS hA 18 ([.g true, .g true, .g true] ++ List.replicate 5 (.g false) ++ [.g true, .g true, .g false, .g false, .g true, .g true, .i, .g true, .x (.slice A1 ((fs[1]?.getD []).length) c1), .g true]) (xc (a := ⟨b0, off0 + 1, none⟩) ⟨hb9, l1'⟩ xn) (oc (rfl : Value.bool true = .bool true) (oc (rfl : Value.bool true = .bool true) (oc (rfl : Value.bool true = .bool true) (oc (rfl : Value.bool false = .bool false) (oc (rfl : Value.bool false = .bool false) (oc (rfl : Value.bool false = .bool false) (oc (rfl : Value.bool false = .bool false) (oc (rfl : Value.bool false = .bool false) (oc (rfl : Value.bool true = .bool true) (oc (rfl : Value.bool true = .bool true) (oc (rfl : Value.bool false = .bool false) (oc (rfl : Value.bool false = .bool false) (oc (rfl : Value.bool true = .bool true) (oc (rfl : Value.bool true = .bool true) (oc (show (0 : Int) ≤ (1 : Int) ∧ (1 : Int) < (nf : Int) by omega) (oc (rfl : Value.bool true = .bool true) (oc (rfl : Value.bool true = .bool true) on))))))))))))))))) (by kernel_rfl) fun w5 hA => ?_
              refine callB hA [] on (has_any w5 B A1 (fs[1]?.getD []).length c1 (fs[1]?.getD []) y (l3.below hA.below hB) (Nat.le_trans hB hA.size)) (by kernel_rfl) fun w6 hb6 hA => ?_
              by_cases hy1 : y ∈ (fs[1]?.getD [])
              case pos =>
                refine revals hA (rc 80 (show .bool (decide (y ∈ (fs[1]?.getD []))) = .bool true by rw [decide_eq_true hy1]) rn) (by kernel_rfl) fun hA => ?_
                refine runS hA 9 [.g false, .g true] xn (oc (rfl : Value.bool false = .bool false) (oc (rfl : Value.bool true = .bool true) on)) (by kernel_rfl) fun w7 hA => ?_
                exact ret (v := .bool true) hA [] (by kernel_rfl) ⟨by rw [show winB b fs x y = true by simp [winB, ha, hk0, hk1, hk2, hne, hx0, hy1]], hA.below⟩
              case neg =>
                refine revals hA (rc 80 (show .bool (decide (y ∈ (fs[1]?.getD []))) = .bool false by rw [decide_eq_false hy1]) rn) (by kernel_rfl) fun hA => ?_
                refine runS hA 9 [.g false, .g true] xn (oc (rfl : Value.bool false = .bool false) (oc (rfl : Value.bool true = .bool true) on)) (by kernel_rfl) fun w7 hA => ?_
                exact ret (v := .bool false) hA [] (by kernel_rfl) ⟨by rw [show winB b fs x y = false by simp [winB, ha, hk0, hk1, hk2, hne, hx0, hy1]], hA.below⟩
            case neg =>
              refine revals hA (rc 61 (show .bool (decide (x ∈ (fs[0]?.getD []))) = .bool false by rw [decide_eq_false hx0]) rn) (by kernel_rfl) fun hA => ?_
              refine runS hA 28 (List.replicate 6 (.g false)) xn (oc (rfl : Value.bool false = .bool false) (oc (rfl : Value.bool false = .bool false) (oc (rfl : Value.bool false = .bool false) (oc (rfl : Value.bool false = .bool false) (oc (rfl : Value.bool false = .bool false) (oc (rfl : Value.bool false = .bool false) on)))))) (by kernel_rfl) fun w5 hA => ?_
              exact ret (v := .bool false) hA [] (by kernel_rfl) ⟨by rw [show winB b fs x y = false by simp [winB, ha, hk0, hk1, hk2, hne, hx0]], hA.below⟩
          case neg =>
            refine revals hA (rc 55 (ne_f (Classical.not_not.1 hne)) rn) (by kernel_rfl) fun hA => ?_
            refine runS hA 34 (List.replicate 11 (.g false)) xn (oc (rfl : Value.bool false = .bool false) (oc (rfl : Value.bool false = .bool false) (oc (rfl : Value.bool false = .bool false) (oc (rfl : Value.bool false = .bool false) (oc (rfl : Value.bool false = .bool false) (oc (rfl : Value.bool false = .bool false) (oc (rfl : Value.bool false = .bool false) (oc (rfl : Value.bool false = .bool false) (oc (rfl : Value.bool false = .bool false) (oc (rfl : Value.bool false = .bool false) (oc (rfl : Value.bool false = .bool false) on))))))))))) (by kernel_rfl) fun w3 hA => ?_
            exact ret (v := .bool false) hA [] (by kernel_rfl) ⟨by rw [show winB b fs x y = false by simp [winB, ha, hk0, hk1, hk2, hne]], hA.below⟩
        case neg =>
          refine runS hA 35 [.k 0, .b false, .b false, .b false] xn (oc (eq_f hk0) (oc (eq_f hk1) (oc (eq_f hk2) on))) (by kernel_rfl) fun w2 hA => ?_
          refine draw hA [true] [0, 1, 2, 3, 4, 5, 6, 7, 8, 9, 10, 11] (by kernel_rfl) (by kernel_rfl) fun hA => ?_
          refine runS hA 8 [.t 0, .t 1, .i, .t 2, .x (.slice A0 ((fs[0]?.getD []).length) c0), .t 3, .t 5, .t 6, .i, .t 7, .x (.slice A0 ((fs[0]?.getD []).length) c0), .t 8] (xc (a := ⟨b0, off0, none⟩) ⟨hb9, k1'⟩ (xc (a := ⟨b0, off0, none⟩) ⟨hb9, k1'⟩ xn)) (oc (show (0 : Int) ≤ (0 : Int) ∧ (0 : Int) < (nf : Int) by omega) (oc (show (0 : Int) ≤ (0 : Int) ∧ (0 : Int) < (nf : Int) by omega) on)) (by kernel_rfl) fun w3 hA => ?_
          have hA0IW := hA
          refine latK hA0IW [4, 9, 10, 11] (γ := Unit) (fun _ => [(1, .slice (some ⟨b0, off0, none⟩) nf cf), (2, .int .i64 x), (3, .int .i64 y), (8, .bool false), (9, .bool true), (10, .bool (decide (x ∈ (fs[0]?.getD [])))), (11, .bool (decide (y ∈ (fs[0]?.getD []))))]) (fun _ => [⟨w.heap.size, .cells #[.int .i64 b.kind, .int .i64 b.runners, .slice A n c, .slice A2 m c2, .bool b.fav, .int .i64 b.car, .int .i64 b.dut, .int .i64 b.stp] 25 (0, 0)⟩]) (fun _ => []) (fun _ _ => True) (fun hIW4_9 => ?_) ?_
          ·
            refine latS hA0IW [4] (γ := Unit) (fun _ => [(1, .slice (some ⟨b0, off0, none⟩) nf cf), (2, .int .i64 x), (3, .int .i64 y), (8, .bool false), (9, .bool true), (84, .slice (some ⟨b0, off0, none⟩) nf cf), (85, .pointer (some ⟨b0, off0, none⟩)), (86, .slice A0 ((fs[0]?.getD []).length) c0), (87, .int .i64 x), (88, .bool (decide (x ∈ (fs[0]?.getD [])))), (89, .slice (some ⟨b0, off0, none⟩) nf cf), (90, .pointer (some ⟨b0, off0, none⟩)), (91, .slice A0 ((fs[0]?.getD []).length) c0), (92, .int .i64 y)]) (fun _ => [⟨w.heap.size, .cells #[.int .i64 b.kind, .int .i64 b.runners, .slice A n c, .slice A2 m c2, .bool b.fav, .int .i64 b.car, .int .i64 b.dut, .int .i64 b.stp] 25 (0, 0)⟩]) (fun _ => []) (fun _ _ => True) ?_ (fun hIW4 => ?_)
            · rintro _ wl4 _ hA
              refine callB hA [] on (has_any wl4 B A0 (fs[0]?.getD []).length c0 (fs[0]?.getD []) y (k3.below hA.below hB) (Nat.le_trans hB hA.size)) (by kernel_rfl) fun w105 hb105 hA => ?_
              refine runS hA 2 [.t 10, .t 11] xn on (by kernel_rfl) fun w106 hA => ?_
              exact joinE hIW4_9 () trivial [0] hA rfl (by kernel_rfl) (by decide)
            replace hA := hA0IW
            refine callB hA [] on (has_any w3 B A0 (fs[0]?.getD []).length c0 (fs[0]?.getD []) x (k3.below hA.below hB) (Nat.le_trans hB hA.size)) (by kernel_rfl) fun w5 hb5 hA => ?_
            exact joinE hIW4 () trivial [0] hA rfl (by kernel_rfl) (by decide)
          rintro _ w54 _ hA
          refine runS hA 7 [.b true] xn on (by kernel_rfl) fun w55 hA => ?_
          by_cases hx0 : x ∈ (fs[0]?.getD [])
          case pos =>
            by_cases hy0 : y ∈ (fs[0]?.getD [])
            case pos =>
              by_cases hlt : x < y
              case pos =>
                refine revals hA (rc 10 (show .bool (decide (x ∈ (fs[0]?.getD []))) = .bool true by rw [decide_eq_true hx0]) (rc 11 (show .bool (decide (y ∈ (fs[0]?.getD []))) = .bool true by rw [decide_eq_true hy0]) (rc 96 (dec_t hlt) rn))) (by kernel_rfl) fun hA => ?_
                refine runS hA 18 ([.g true, .g true, .g true, .g false, .g true, .g true, .g false, .g true, .g true, .g false, .g false] ++ List.replicate 4 (.g true) ++ [.i, .g true, .x (.slice A1 ((fs[1]?.getD []).length) c1), .g true]) (xc (a := ⟨b0, off0 + 1, none⟩) ⟨hb9, l1'⟩ xn) (oc (rfl : Value.bool true = .bool true) (oc (rfl : Value.bool true = .bool true) (oc (rfl : Value.bool true = .bool true) (oc (rfl : Value.bool false = .bool false) (oc (rfl : Value.bool true = .bool true) (oc (rfl : Value.bool true = .bool true) (oc (rfl : Value.bool false = .bool false) (oc (rfl : Value.bool true = .bool true) (oc (rfl : Value.bool true = .bool true) (oc (rfl : Value.bool false = .bool false) (oc (rfl : Value.bool false = .bool false) (oc (rfl : Value.bool true = .bool true) (oc (rfl : Value.bool true = .bool true) (oc (rfl : Value.bool true = .bool true) (oc (rfl : Value.bool true = .bool true) (oc (show (0 : Int) ≤ (1 : Int) ∧ (1 : Int) < (nf : Int) by omega) (oc (rfl : Value.bool true = .bool true) (oc (rfl : Value.bool true = .bool true) on)))))))))))))))))) (by kernel_rfl) fun w56 hA => ?_
                refine callB hA [] on (has_any w56 B A1 (fs[1]?.getD []).length c1 (fs[1]?.getD []) y (l3.below hA.below hB) (Nat.le_trans hB hA.size)) (by kernel_rfl) fun w57 hb57 hA => ?_
                by_cases hy1 : y ∈ (fs[1]?.getD [])
                case pos =>
                  refine revals hA (rc 115 (show .bool (decide (y ∈ (fs[1]?.getD []))) = .bool true by rw [decide_eq_true hy1]) rn) (by kernel_rfl) fun hA => ?_
                  refine runS hA 18 (List.replicate 6 (.g true) ++ [.g false, .g true]) xn (oc (rfl : Value.bool true = .bool true) (oc (rfl : Value.bool true = .bool true) (oc (rfl : Value.bool true = .bool true) (oc (rfl : Value.bool true = .bool true) (oc (rfl : Value.bool true = .bool true) (oc (rfl : Value.bool true = .bool true) (oc (rfl : Value.bool false = .bool false) (oc (rfl : Value.bool true = .bool true) on)))))))) (by kernel_rfl) fun w58 hA => ?_
                  exact ret (v := .bool true) hA [] (by kernel_rfl) ⟨by rw [show winB b fs x y = true by simp [winB, ha, hk0, hk1, hk2, hx0, hy0, hlt, hy1]], hA.below⟩
                case neg =>
                  refine revals hA (rc 115 (show .bool (decide (y ∈ (fs[1]?.getD []))) = .bool false by rw [decide_eq_false hy1]) rn) (by kernel_rfl) fun hA => ?_
                  refine runS hA 8 [.g true, .g true, .g false, .g false, .g true, .g true, .i, .g true, .x (.slice A1 ((fs[1]?.getD []).length) c1), .g true] (xc (a := ⟨b0, off0 + 1, none⟩) ⟨hb9, l1'⟩ xn) (oc (rfl : Value.bool true = .bool true) (oc (rfl : Value.bool true = .bool true) (oc (rfl : Value.bool false = .bool false) (oc (rfl : Value.bool false = .bool false) (oc (rfl : Value.bool true = .bool true) (oc (rfl : Value.bool true = .bool true) (oc (show (0 : Int) ≤ (1 : Int) ∧ (1 : Int) < (nf : Int) by omega) (oc (rfl : Value.bool true = .bool true) (oc (rfl : Value.bool true = .bool true) on))))))))) (by kernel_rfl) fun w58 hA => ?_
                  refine callB hA [] on (has_any w58 B A1 (fs[1]?.getD []).length c1 (fs[1]?.getD []) x (l3.below hA.below hB) (Nat.le_trans hB hA.size)) (by kernel_rfl) fun w59 hb59 hA => ?_
                  by_cases hx1 : x ∈ (fs[1]?.getD [])
                  case pos =>
                    refine revals hA (rc 124 (show .bool (decide (x ∈ (fs[1]?.getD []))) = .bool true by rw [decide_eq_true hx1]) rn) (by kernel_rfl) fun hA => ?_
                    refine runS hA 9 [.g false, .g true, .g false, .g true] xn (oc (rfl : Value.bool false = .bool false) (oc (rfl : Value.bool true = .bool true) (oc (rfl : Value.bool false = .bool false) (oc (rfl : Value.bool true = .bool true) on)))) (by kernel_rfl) fun w60 hA => ?_
                    exact ret (v := .bool true) hA [] (by kernel_rfl) ⟨by rw [show winB b fs x y = true by simp [winB, ha, hk0, hk1, hk2, hx0, hy0, hlt, hy1, hx1]], hA.below⟩
                  case neg =>
                    refine revals hA (rc 124 (show .bool (decide (x ∈ (fs[1]?.getD []))) = .bool false by rw [decide_eq_false hx1]) rn) (by kernel_rfl) fun hA => ?_
                    refine runS hA 9 [.g false, .g true, .g false, .g true] xn (oc (rfl : Value.bool false = .bool false) (oc (rfl : Value.bool true = .bool true) (oc (rfl : Value.bool false = .bool false) (oc (rfl : Value.bool true = .bool true) on)))) (by kernel_rfl) fun w60 hA => ?_
                    exact ret (v := .bool false) hA [] (by kernel_rfl) ⟨by rw [show winB b fs x y = false by simp [winB, ha, hk0, hk1, hk2, hx0, hy0, hlt, hy1, hx1]], hA.below⟩
              case neg =>
                refine revals hA (rc 10 (show .bool (decide (x ∈ (fs[0]?.getD []))) = .bool true by rw [decide_eq_true hx0]) (rc 11 (show .bool (decide (y ∈ (fs[0]?.getD []))) = .bool true by rw [decide_eq_true hy0]) (rc 96 (dec_f hlt) rn))) (by kernel_rfl) fun hA => ?_
                refine runS hA 37 (List.replicate 8 (.g false)) xn (oc (rfl : Value.bool false = .bool false) (oc (rfl : Value.bool false = .bool false) (oc (rfl : Value.bool false = .bool false) (oc (rfl : Value.bool false = .bool false) (oc (rfl : Value.bool false = .bool false) (oc (rfl : Value.bool false = .bool false) (oc (rfl : Value.bool false = .bool false) (oc (rfl : Value.bool false = .bool false) on)))))))) (by kernel_rfl) fun w56 hA => ?_
                exact ret (v := .bool false) hA [] (by kernel_rfl) ⟨by rw [show winB b fs x y = false by simp [winB, ha, hk0, hk1, hk2, hx0, hy0, hlt]], hA.below⟩
            case neg =>
              by_cases hlt : x < y
              case pos =>
                refine revals hA (rc 10 (show .bool (decide (x ∈ (fs[0]?.getD []))) = .bool true by rw [decide_eq_true hx0]) (rc 11 (show .bool (decide (y ∈ (fs[0]?.getD []))) = .bool false by rw [decide_eq_false hy0]) (rc 96 (dec_t hlt) rn))) (by kernel_rfl) fun hA => ?_
                refine runS hA 18 ([.g true, .g true, .g true, .g false, .g true, .g true, .g false, .g true, .g true, .g false, .g false] ++ List.replicate 4 (.g true) ++ [.i, .g true, .x (.slice A1 ((fs[1]?.getD []).length) c1), .g true]) (xc (a := ⟨b0, off0 + 1, none⟩) ⟨hb9, l1'⟩ xn) (oc (rfl : Value.bool true = .bool true) (oc (rfl : Value.bool true = .bool true) (oc (rfl : Value.bool true = .bool true) (oc (rfl : Value.bool false = .bool false) (oc (rfl : Value.bool true = .bool true) (oc (rfl : Value.bool true = .bool true) (oc (rfl : Value.bool false = .bool false) (oc (rfl : Value.bool true = .bool true) (oc (rfl : Value.bool true = .bool true) (oc (rfl : Value.bool false = .bool false) (oc (rfl : Value.bool false = .bool false) (oc (rfl : Value.bool true = .bool true) (oc (rfl : Value.bool true = .bool true) (oc (rfl : Value.bool true = .bool true) (oc (rfl : Value.bool true = .bool true) (oc (show (0 : Int) ≤ (1 : Int) ∧ (1 : Int) < (nf : Int) by omega) (oc (rfl : Value.bool true = .bool true) (oc (rfl : Value.bool true = .bool true) on)))))))))))))))))) (by kernel_rfl) fun w56 hA => ?_
                refine callB hA [] on (has_any w56 B A1 (fs[1]?.getD []).length c1 (fs[1]?.getD []) y (l3.below hA.below hB) (Nat.le_trans hB hA.size)) (by kernel_rfl) fun w57 hb57 hA => ?_
                by_cases hy1 : y ∈ (fs[1]?.getD [])
                case pos =>
                  refine revals hA (rc 115 (show .bool (decide (y ∈ (fs[1]?.getD []))) = .bool true by rw [decide_eq_true hy1]) rn) (by kernel_rfl) fun hA => ?_
                  refine runS hA 18 (List.replicate 6 (.g true) ++ [.g false, .g true]) xn (oc (rfl : Value.bool true = .bool true) (oc (rfl : Value.bool true = .bool true) (oc (rfl : Value.bool true = .bool true) (oc (rfl : Value.bool true = .bool true) (oc (rfl : Value.bool true = .bool true) (oc (rfl : Value.bool true = .bool true) (oc (rfl : Value.bool false = .bool false) (oc (rfl : Value.bool true = .bool true) on)))))))) (by kernel_rfl) fun w58 hA => ?_
                  exact ret (v := .bool true) hA [] (by kernel_rfl) ⟨by rw [show winB b fs x y = true by simp [winB, ha, hk0, hk1, hk2, hx0, hy0, hlt, hy1]], hA.below⟩
                case neg =>
                  refine revals hA (rc 115 (show .bool (decide (y ∈ (fs[1]?.getD []))) = .bool false by rw [decide_eq_false hy1]) rn) (by kernel_rfl) fun hA => ?_
                  refine runS hA 18 ([.g true, .g true] ++ List.replicate 8 (.g false) ++ [.g true, .g false, .g true]) xn (oc (rfl : Value.bool true = .bool true) (oc (rfl : Value.bool true = .bool true) (oc (rfl : Value.bool false = .bool false) (oc (rfl : Value.bool false = .bool false) (oc (rfl : Value.bool false = .bool false) (oc (rfl : Value.bool false = .bool false) (oc (rfl : Value.bool false = .bool false) (oc (rfl : Value.bool false = .bool false) (oc (rfl : Value.bool false = .bool false) (oc (rfl : Value.bool false = .bool false) (oc (rfl : Value.bool true = .bool true) (oc (rfl : Value.bool false = .bool false) (oc (rfl : Value.bool true = .bool true) on))))))))))))) (by kernel_rfl) fun w58 hA => ?_
                  exact ret (v := .bool false) hA [] (by kernel_rfl) ⟨by rw [show winB b fs x y = false by simp [winB, ha, hk0, hk1, hk2, hx0, hy0, hlt, hy1]], hA.below⟩
              case neg =>
                refine revals hA (rc 10 (show .bool (decide (x ∈ (fs[0]?.getD []))) = .bool true by rw [decide_eq_true hx0]) (rc 11 (show .bool (decide (y ∈ (fs[0]?.getD []))) = .bool false by rw [decide_eq_false hy0]) (rc 96 (dec_f hlt) rn))) (by kernel_rfl) fun hA => ?_
                refine runS hA 37 (List.replicate 8 (.g false)) xn (oc (rfl : Value.bool false = .bool false) (oc (rfl : Value.bool false = .bool false) (oc (rfl : Value.bool false = .bool false) (oc (rfl : Value.bool false = .bool false) (oc (rfl : Value.bool false = .bool false) (oc (rfl : Value.bool false = .bool false) (oc (rfl : Value.bool false = .bool false) (oc (rfl : Value.bool false = .bool false) on)))))))) (by kernel_rfl) fun w56 hA => ?_
                exact ret (v := .bool false) hA [] (by kernel_rfl) ⟨by rw [show winB b fs x y = false by simp [winB, ha, hk0, hk1, hk2, hx0, hy0, hlt]], hA.below⟩
          case neg =>
            by_cases hy0 : y ∈ (fs[0]?.getD [])
            case pos =>
              by_cases hlt : x < y
              case pos =>
                refine revals hA (rc 10 (show .bool (decide (x ∈ (fs[0]?.getD []))) = .bool false by rw [decide_eq_false hx0]) (rc 11 (show .bool (decide (y ∈ (fs[0]?.getD []))) = .bool true by rw [decide_eq_true hy0]) (rc 96 (dec_t hlt) rn))) (by kernel_rfl) fun hA => ?_
                refine runS hA 27 ([.g true, .g true, .g true, .g false, .g true, .g true, .g false, .g true, .g true, .g false, .g false, .g true, .g true] ++ List.replicate 5 (.g false) ++ [.g true, .g true, .g false, .g false, .g true, .g true, .i, .g true, .x (.slice A1 ((fs[1]?.getD []).length) c1), .g true]) (xc (a := ⟨b0, off0 + 1, none⟩) ⟨hb9, l1'⟩ xn) (oc (rfl : Value.bool true = .bool true) (oc (rfl : Value.bool true = .bool true) (oc (rfl : Value.bool true = .bool true) (oc (rfl : Value.bool false = .bool false) (oc (rfl : Value.bool true = .bool true) (oc (rfl : Value.bool true = .bool true) (oc (rfl : Value.bool false = .bool false) (oc (rfl : Value.bool true = .bool true) (oc (rfl : Value.bool true = .bool true) (oc (rfl : Value.bool false = .bool false) (oc (rfl : Value.bool false = .bool false) (oc (rfl : Value.bool true = .bool true) (oc (rfl : Value.bool true = .bool true) (oc (rfl : Value.bool false = .bool false) (oc (rfl : Value.bool false = .bool false) (oc (rfl : Value.bool false = .bool false) (oc (rfl : Value.bool false = .bool false) (oc (rfl : Value.bool false = .bool false) (oc (rfl : Value.bool true = .bool true) (oc (rfl : Value.bool true = .bool true) (oc (rfl : Value.bool false = .bool false) (oc (rfl : Value.bool false = .bool false) (oc (rfl : Value.bool true = .bool true) (oc (rfl : Value.bool true = .bool true) (oc (show (0 : Int) ≤ (1 : Int) ∧ (1 : Int) < (nf : Int) by omega) (oc (rfl : Value.bool true = .bool true) (oc (rfl : Value.bool true = .bool true) on))))))))))))))))))))))))))) (by kernel_rfl) fun w56 hA => ?_
                refine callB hA [] on (has_any w56 B A1 (fs[1]?.getD []).length c1 (fs[1]?.getD []) x (l3.below hA.below hB) (Nat.le_trans hB hA.size)) (by kernel_rfl) fun w57 hb57 hA => ?_
                by_cases hx1 : x ∈ (fs[1]?.getD [])
                case pos =>
                  refine revals hA (rc 124 (show .bool (decide (x ∈ (fs[1]?.getD []))) = .bool true by rw [decide_eq_true hx1]) rn) (by kernel_rfl) fun hA => ?_
                  refine runS hA 9 [.g false, .g true, .g false, .g true] xn (oc (rfl : Value.bool false = .bool false) (oc (rfl : Value.bool true = .bool true) (oc (rfl : Value.bool false = .bool false) (oc (rfl : Value.bool true = .bool true) on)))) (by kernel_rfl) fun w58 hA => ?_
                  exact ret (v := .bool true) hA [] (by kernel_rfl) ⟨by rw [show winB b fs x y = true by simp [winB, ha, hk0, hk1, hk2, hx0, hy0, hlt, hx1]], hA.below⟩
                case neg =>
                  refine revals hA (rc 124 (show .bool (decide (x ∈ (fs[1]?.getD []))) = .bool false by rw [decide_eq_false hx1]) rn) (by kernel_rfl) fun hA => ?_
                  refine runS hA 9 [.g false, .g true, .g false, .g true] xn (oc (rfl : Value.bool false = .bool false) (oc (rfl : Value.bool true = .bool true) (oc (rfl : Value.bool false = .bool false) (oc (rfl : Value.bool true = .bool true) on)))) (by kernel_rfl) fun w58 hA => ?_
                  exact ret (v := .bool false) hA [] (by kernel_rfl) ⟨by rw [show winB b fs x y = false by simp [winB, ha, hk0, hk1, hk2, hx0, hy0, hlt, hx1]], hA.below⟩
              case neg =>
                refine revals hA (rc 10 (show .bool (decide (x ∈ (fs[0]?.getD []))) = .bool false by rw [decide_eq_false hx0]) (rc 11 (show .bool (decide (y ∈ (fs[0]?.getD []))) = .bool true by rw [decide_eq_true hy0]) (rc 96 (dec_f hlt) rn))) (by kernel_rfl) fun hA => ?_
                refine runS hA 37 (List.replicate 8 (.g false)) xn (oc (rfl : Value.bool false = .bool false) (oc (rfl : Value.bool false = .bool false) (oc (rfl : Value.bool false = .bool false) (oc (rfl : Value.bool false = .bool false) (oc (rfl : Value.bool false = .bool false) (oc (rfl : Value.bool false = .bool false) (oc (rfl : Value.bool false = .bool false) (oc (rfl : Value.bool false = .bool false) on)))))))) (by kernel_rfl) fun w56 hA => ?_
                exact ret (v := .bool false) hA [] (by kernel_rfl) ⟨by rw [show winB b fs x y = false by simp [winB, ha, hk0, hk1, hk2, hx0, hy0, hlt]], hA.below⟩
            case neg =>
              by_cases hlt : x < y
              case pos =>
                refine revals hA (rc 10 (show .bool (decide (x ∈ (fs[0]?.getD []))) = .bool false by rw [decide_eq_false hx0]) (rc 11 (show .bool (decide (y ∈ (fs[0]?.getD []))) = .bool false by rw [decide_eq_false hy0]) (rc 96 (dec_t hlt) rn))) (by kernel_rfl) fun hA => ?_
                refine runS hA 37 ([.g true, .g true, .g true, .g false, .g true, .g true, .g false, .g true, .g true, .g false, .g false, .g true, .g true] ++ List.replicate 5 (.g false) ++ [.g true, .g true] ++ List.replicate 8 (.g false) ++ [.g true, .g false, .g true]) xn (oc (rfl : Value.bool true = .bool true) (oc (rfl : Value.bool true = .bool true) (oc (rfl : Value.bool true = .bool true) (oc (rfl : Value.bool false = .bool false) (oc (rfl : Value.bool true = .bool true) (oc (rfl : Value.bool true = .bool true) (oc (rfl : Value.bool false = .bool false) (oc (rfl : Value.bool true = .bool true) (oc (rfl : Value.bool true = .bool true) (oc (rfl : Value.bool false = .bool false) (oc (rfl : Value.bool false = .bool false) (oc (rfl : Value.bool true = .bool true) (oc (rfl : Value.bool true = .bool true) (oc (rfl : Value.bool false = .bool false) (oc (rfl : Value.bool false = .bool false) (oc (rfl : Value.bool false = .bool false) (oc (rfl : Value.bool false = .bool false) (oc (rfl : Value.bool false = .bool false) (oc (rfl : Value.bool true = .bool true) (oc (rfl : Value.bool true = .bool true) (oc (rfl : Value.bool false = .bool false) (oc (rfl : Value.bool false = .bool false) (oc (rfl : Value.bool false = .bool false) (oc (rfl : Value.bool false = .bool false) (oc (rfl : Value.bool false = .bool false) (oc (rfl : Value.bool false = .bool false) (oc (rfl : Value.bool false = .bool false) (oc (rfl : Value.bool false = .bool false) (oc (rfl : Value.bool true = .bool true) (oc (rfl : Value.bool false = .bool false) (oc (rfl : Value.bool true = .bool true) on))))))))))))))))))))))))))))))) (by kernel_rfl) fun w56 hA => ?_
                exact ret (v := .bool false) hA [] (by kernel_rfl) ⟨by rw [show winB b fs x y = false by simp [winB, ha, hk0, hk1, hk2, hx0, hy0, hlt]], hA.below⟩
              case neg =>
                refine revals hA (rc 10 (show .bool (decide (x ∈ (fs[0]?.getD []))) = .bool false by rw [decide_eq_false hx0]) (rc 11 (show .bool (decide (y ∈ (fs[0]?.getD []))) = .bool false by rw [decide_eq_false hy0]) (rc 96 (dec_f hlt) rn))) (by kernel_rfl) fun hA => ?_
                refine runS hA 37 (List.replicate 8 (.g false)) xn (oc (rfl : Value.bool false = .bool false) (oc (rfl : Value.bool false = .bool false) (oc (rfl : Value.bool false = .bool false) (oc (rfl : Value.bool false = .bool false) (oc (rfl : Value.bool false = .bool false) (oc (rfl : Value.bool false = .bool false) (oc (rfl : Value.bool false = .bool false) (oc (rfl : Value.bool false = .bool false) on)))))))) (by kernel_rfl) fun w56 hA => ?_
                exact ret (v := .bool false) hA [] (by kernel_rfl) ⟨by rw [show winB b fs x y = false by simp [winB, ha, hk0, hk1, hk2, hx0, hy0, hlt]], hA.below⟩
  case neg =>
    refine revals hA (rc 9 (eq_f (a := ((fs[0]?.getD []).length : Int)) (b := 1) (by omega)) rn) (by kernel_rfl) fun hA => ?_
    by_cases hk0 : b.kind = 0
    case pos =>
      refine runS hA 21 [.k 0, .b true] xn (oc (eq_t hk0) on) (by kernel_rfl) fun w2 hA => ?_
      by_cases hy : y = -1
      case pos =>
        refine revals hA (rc 22 (eq_t hy) rn) (by kernel_rfl) fun hA => ?_
        refine runS hA 5 [.g true, .g true, .i, .g true, .x (.slice A0 ((fs[0]?.getD []).length) c0), .g true] (xc (a := ⟨b0, off0, none⟩) ⟨hb9, k1'⟩ xn) (oc (rfl : Value.bool true = .bool true) (oc (rfl : Value.bool true = .bool true) (oc (show (0 : Int) ≤ (0 : Int) ∧ (0 : Int) < (nf : Int) by omega) (oc (rfl : Value.bool true = .bool true) (oc (rfl : Value.bool true = .bool true) on))))) (by kernel_rfl) fun w3 hA => ?_
        refine callB hA [] on (has_any w3 B A0 (fs[0]?.getD []).length c0 (fs[0]?.getD []) x (k3.below hA.below hB) (Nat.le_trans hB hA.size)) (by kernel_rfl) fun w4 hb4 hA => ?_
        by_cases hx0 : x ∈ (fs[0]?.getD [])
        case pos =>
          refine revals hA (rc 28 (show .bool (decide (x ∈ (fs[0]?.getD []))) = .bool true by rw [decide_eq_true hx0]) rn) (by kernel_rfl) fun hA => ?_
          refine runS hA 7 [] xn on (by kernel_rfl) fun w5 hA => ?_
          exact ret (v := .bool true) hA [] (by kernel_rfl) ⟨by rw [show winB b fs x y = true by simp [winB, ha, hk0, hy, hx0]], hA.below⟩
        case neg =>
          refine revals hA (rc 28 (show .bool (decide (x ∈ (fs[0]?.getD []))) = .bool false by rw [decide_eq_false hx0]) rn) (by kernel_rfl) fun hA => ?_
          refine runS hA 7 [] xn on (by kernel_rfl) fun w5 hA => ?_
          exact ret (v := .bool false) hA [] (by kernel_rfl) ⟨by rw [show winB b fs x y = false by simp [winB, ha, hk0, hy, hx0]], hA.below⟩
      case neg =>
        refine revals hA (rc 22 (eq_f hy) rn) (by kernel_rfl) fun hA => ?_
        refine runS hA 13 (List.replicate 5 (.g false)) xn (oc (rfl : Value.bool false = .bool false) (oc (rfl : Value.bool false = .bool false) (oc (rfl : Value.bool false = .bool false) (oc (rfl : Value.bool false = .bool false) (oc (rfl : Value.bool false = .bool false) on))))) (by kernel_rfl) fun w3 hA => ?_
        exact ret (v := .bool false) hA [] (by kernel_rfl) ⟨by rw [show winB b fs x y = false by simp [winB, ha, hk0, hy]], hA.below⟩
    case neg =>
      by_cases hk1 : b.kind = 1
      case pos =>
        refine runS hA 28 [.k 0, .b false, .b true] xn (oc (eq_f hk0) (oc (eq_t hk1) on)) (by kernel_rfl) fun w2 hA => ?_
        by_cases hy : y = -1
        case pos =>
          refine revals hA (rc 33 (eq_t hy) rn) (by kernel_rfl) fun hA => ?_
          refine runS hA 5 [.g true, .g true, .i, .g true, .x (.slice A0 ((fs[0]?.getD []).length) c0), .g true] (xc (a := ⟨b0, off0, none⟩) ⟨hb9, k1'⟩ xn) (oc (rfl : Value.bool true = .bool true) (oc (rfl : Value.bool true = .bool true) (oc (show (0 : Int) ≤ (0 : Int) ∧ (0 : Int) < (nf : Int) by omega) (oc (rfl : Value.bool true = .bool true) (oc (rfl : Value.bool true = .bool true) on))))) (by kernel_rfl) fun w3 hA => ?_
          refine callB hA [] on (has_any w3 B A0 (fs[0]?.getD []).length c0 (fs[0]?.getD []) x (k3.below hA.below hB) (Nat.le_trans hB hA.size)) (by kernel_rfl) fun w4 hb4 hA => ?_
          by_cases hx0 : x ∈ (fs[0]?.getD [])
          case pos =>
            refine revals hA (rc 39 (show .bool (decide (x ∈ (fs[0]?.getD []))) = .bool true by rw [decide_eq_true hx0]) rn) (by kernel_rfl) fun hA => ?_
            refine runS hA 17 (List.replicate 5 (.g true)) xn (oc (rfl : Value.bool true = .bool true) (oc (rfl : Value.bool true = .bool true) (oc (rfl : Value.bool true = .bool true) (oc (rfl : Value.bool true = .bool true) (oc (rfl : Value.bool true = .bool true) on))))) (by kernel_rfl) fun w5 hA => ?_
            exact ret (v := .bool true) hA [] (by kernel_rfl) ⟨by rw [show winB b fs x y = true by simp [winB, ha, hk0, hk1, hy, hx0]], hA.below⟩
          case neg =>
            refine revals hA (rc 39 (show .bool (decide (x ∈ (fs[0]?.getD []))) = .bool false by rw [decide_eq_false hx0]) rn) (by kernel_rfl) fun hA => ?_
            refine runS hA 17 ([.g true] ++ List.replicate 8 (.g false) ++ [.g true]) xn (oc (rfl : Value.bool true = .bool true) (oc (rfl : Value.bool false = .bool false) (oc (rfl : Value.bool false = .bool false) (oc (rfl : Value.bool false = .bool false) (oc (rfl : Value.bool false = .bool false) (oc (rfl : Value.bool false = .bool false) (oc (rfl : Value.bool false = .bool false) (oc (rfl : Value.bool false = .bool false) (oc (rfl : Value.bool false = .bool false) (oc (rfl : Value.bool true = .bool true) on)))))))))) (by kernel_rfl) fun w5 hA => ?_
            exact ret (v := .bool false) hA [] (by kernel_rfl) ⟨by rw [show winB b fs x y = false by simp [winB, ha, hk0, hk1, hy, hx0]], hA.below⟩
        case neg =>
          refine revals hA (rc 33 (eq_f hy) rn) (by kernel_rfl) fun hA => ?_
          refine runS hA 23 (List.replicate 7 (.g false)) xn (oc (rfl : Value.bool false = .bool false) (oc (rfl : Value.bool false = .bool false) (oc (rfl : Value.bool false = .bool false) (oc (rfl : Value.bool false = .bool false) (oc (rfl : Value.bool false = .bool false) (oc (rfl : Value.bool false = .bool false) (oc (rfl : Value.bool false = .bool false) on))))))) (by kernel_rfl) fun w3 hA => ?_
          exact ret (v := .bool false) hA [] (by kernel_rfl) ⟨by rw [show winB b fs x y = false by simp [winB, ha, hk0, hk1, hy]], hA.below⟩
      case neg =>
        by_cases hk2 : b.kind = 2
        case pos =>
          refine runS hA 36 [.k 0, .b false, .b false, .b true] xn (oc (eq_f hk0) (oc (eq_f hk1) (oc (eq_t hk2) on))) (by kernel_rfl) fun w2 hA => ?_
          by_cases hne : x ≠ y
          case pos =>
            refine revals hA (rc 55 (ne_t hne) rn) (by kernel_rfl) fun hA => ?_
            refine runS hA 5 [.g true, .g true, .i, .g true, .x (.slice A0 ((fs[0]?.getD []).length) c0), .g true] (xc (a := ⟨b0, off0, none⟩) ⟨hb9, k1'⟩ xn) (oc (rfl : Value.bool true = .bool true) (oc (rfl : Value.bool true = .bool true) (oc (show (0 : Int) ≤ (0 : Int) ∧ (0 : Int) < (nf : Int) by omega) (oc (rfl : Value.bool true = .bool true) (oc (rfl : Value.bool true = .bool true) on))))) (by kernel_rfl) fun w3 hA => ?_
            refine callB hA [] on (has_any w3 B A0 (fs[0]?.getD []).length c0 (fs[0]?.getD []) x (k3.below hA.below hB) (Nat.le_trans hB hA.size)) (by kernel_rfl) fun w4 hb4 hA => ?_
            by_cases hx0 : x ∈ (fs[0]?.getD [])
            case pos =>
              refine revals hA (rc 61 (show .bool (decide (x ∈ (fs[0]?.getD []))) = .bool true by rw [decide_eq_true hx0]) rn) (by kernel_rfl) fun hA => ?_
              refine runS hA 9 (List.replicate 5 (.g true) ++ [.i, .g true, .x (.slice A0 ((fs[0]?.getD []).length) c0), .g true]) (xc (a := ⟨b0, off0, none⟩) ⟨hb9, k1'⟩ xn) (oc (rfl : Value.bool true = .bool true) (oc (rfl : Value.bool true = .bool true) (oc (rfl : Value.bool true = .bool true) (oc (rfl : Value.bool true = .bool true) (oc (rfl : Value.bool true = .bool true) (oc (show (0 : Int) ≤ (0 : Int) ∧ (0 : Int) < (nf : Int) by omega) (oc (rfl : Value.bool true = .bool true) (oc (rfl : Value.bool true = .bool true) on)))))))) (by kernel_rfl) fun w5 hA => ?_
              refine callB hA [] on (has_any w5 B A0 (fs[0]?.getD []).length c0 (fs[0]?.getD []) y (k3.below hA.below hB) (Nat.le_trans hB hA.size)) (by kernel_rfl) fun w6 hb6 hA => ?_
              by_cases hy0 : y ∈ (fs[0]?.getD [])
              case pos =>
                refine revals hA (rc 71 (show .bool (decide (y ∈ (fs[0]?.getD []))) = .bool true by rw [decide_eq_true hy0]) rn) (by kernel_rfl) fun hA => ?_
                refine runS hA 18 (List.replicate 6 (.g true)) xn (oc (rfl : Value.bool true = .bool true) (oc (rfl : Value.bool true = .bool true) (oc (rfl : Value.bool true = .bool true) (oc (rfl : Value.bool true = .bool true) (oc (rfl : Value.bool true = .bool true) (oc (rfl : Value.bool true = .bool true) on)))))) (by kernel_rfl) fun w7 hA => ?_
                exact ret (v := .bool true) hA [] (by kernel_rfl) ⟨by rw [show winB b fs x y = true by simp [winB, ha, hk0, hk1, hk2, hne, hx0, hy0]], hA.below⟩
              case neg =>
                refine revals hA (rc 71 (show .bool (decide (y ∈ (fs[0]?.getD []))) = .bool false by rw [decide_eq_false hy0]) rn) (by kernel_rfl) fun hA => ?_
                refine runS hA 18 ([.g true, .g true] ++ List.replicate 8 (.g false) ++ [.g true]) xn (oc (rfl : Value.bool true = .bool true) (oc (rfl : Value.bool true = .bool true) (oc (rfl : Value.bool false = .bool false) (oc (rfl : Value.bool false = .bool false) (oc (rfl : Value.bool false = .bool false) (oc (rfl : Value.bool false = .bool false) (oc (rfl : Value.bool false = .bool false) (oc (rfl : Value.bool false = .bool false) (oc (rfl : Value.bool false = .bool false) (oc (rfl : Value.bool false = .bool false) (oc (rfl : Value.bool true = .bool true) on))))))))))) (by kernel_rfl) fun w7 hA => ?_
                exact ret (v := .bool false) hA [] (by kernel_rfl) ⟨by rw [show winB b fs x y = false by simp [winB, ha, hk0, hk1, hk2, hne, hx0, hy0]], hA.below⟩
            case neg =>
              refine revals hA (rc 61 (show .bool (decide (x ∈ (fs[0]?.getD []))) = .bool false by rw [decide_eq_false hx0]) rn) (by kernel_rfl) fun hA => ?_
              refine runS hA 28 (List.replicate 6 (.g false)) xn (oc (rfl : Value.bool false = .bool false) (oc (rfl : Value.bool false = .bool false) (oc (rfl : Value.bool false = .bool false) (oc (rfl : Value.bool false = .bool false) (oc (rfl : Value.bool false = .bool false) (oc (rfl : Value.bool false = .bool false) on)))))) (by kernel_rfl) fun w5 hA => ?_
              exact ret (v := .bool false) hA [] (by kernel_rfl) ⟨by rw [show winB b fs x y = false by simp [winB, ha, hk0, hk1, hk2, hne, hx0]], hA.below⟩
          case neg =>
            refine revals hA (rc 55 (ne_f (Classical.not_not.1 hne)) rn) (by kernel_rfl) fun hA => ?_
            refine runS hA 34 (List.replicate 11 (.g false)) xn (oc (rfl : Value.bool false = .bool false) (oc (rfl : Value.bool false = .bool false) (oc (rfl : Value.bool false = .bool false) (oc (rfl : Value.bool false = .bool false) (oc (rfl : Value.bool false = .bool false) (oc (rfl : Value.bool false = .bool false) (oc (rfl : Value.bool false = .bool false) (oc (rfl : Value.bool false = .bool false) (oc (rfl : Value.bool false = .bool false) (oc (rfl : Value.bool false = .bool false) (oc (rfl : Value.bool false = .bool false) on))))))))))) (by kernel_rfl) fun w3 hA => ?_
            exact ret (v := .bool false) hA [] (by kernel_rfl) ⟨by rw [show winB b fs x y = false by simp [winB, ha, hk0, hk1, hk2, hne]], hA.below⟩
        case neg =>
          refine runS hA 35 [.k 0, .b false, .b false, .b false] xn (oc (eq_f hk0) (oc (eq_f hk1) (oc (eq_f hk2) on))) (by kernel_rfl) fun w2 hA => ?_
          refine draw hA [true] [0, 1, 2, 3, 4, 5, 6, 7, 8, 9, 10, 11] (by kernel_rfl) (by kernel_rfl) fun hA => ?_
          refine runS hA 8 [.t 0, .t 1, .i, .t 2, .x (.slice A0 ((fs[0]?.getD []).length) c0), .t 3, .t 5, .t 6, .i, .t 7, .x (.slice A0 ((fs[0]?.getD []).length) c0), .t 8] (xc (a := ⟨b0, off0, none⟩) ⟨hb9, k1'⟩ (xc (a := ⟨b0, off0, none⟩) ⟨hb9, k1'⟩ xn)) (oc (show (0 : Int) ≤ (0 : Int) ∧ (0 : Int) < (nf : Int) by omega) (oc (show (0 : Int) ≤ (0 : Int) ∧ (0 : Int) < (nf : Int) by omega) on)) (by kernel_rfl) fun w3 hA => ?_
          have hA0IW := hA
          refine latK hA0IW [4, 9, 10, 11] (γ := Unit) (fun _ => [(1, .slice (some ⟨b0, off0, none⟩) nf cf), (2, .int .i64 x), (3, .int .i64 y), (8, .bool false), (9, .bool false), (10, .bool (decide (x ∈ (fs[0]?.getD [])))), (11, .bool (decide (y ∈ (fs[0]?.getD []))))]) (fun _ => [⟨w.heap.size, .cells #[.int .i64 b.kind, .int .i64 b.runners, .slice A n c, .slice A2 m c2, .bool b.fav, .int .i64 b.car, .int .i64 b.dut, .int .i64 b.stp] 25 (0, 0)⟩]) (fun _ => []) (fun _ _ => True) (fun hIW4_9 => ?_) ?_
          ·
            refine latS hA0IW [4] (γ := Unit) (fun _ => [(1, .slice (some ⟨b0, off0, none⟩) nf cf), (2, .int .i64 x), (3, .int .i64 y), (8, .bool false), (9, .bool false), (84, .slice (some ⟨b0, off0, none⟩) nf cf), (85, .pointer (some ⟨b0, off0, none⟩)), (86, .slice A0 ((fs[0]?.getD []).length) c0), (87, .int .i64 x), (88, .bool (decide (x ∈ (fs[0]?.getD [])))), (89, .slice (some ⟨b0, off0, none⟩) nf cf), (90, .pointer (some ⟨b0, off0, none⟩)), (91, .slice A0 ((fs[0]?.getD []).length) c0), (92, .int .i64 y)]) (fun _ => [⟨w.heap.size, .cells #[.int .i64 b.kind, .int .i64 b.runners, .slice A n c, .slice A2 m c2, .bool b.fav, .int .i64 b.car, .int .i64 b.dut, .int .i64 b.stp] 25 (0, 0)⟩]) (fun _ => []) (fun _ _ => True) ?_ (fun hIW4 => ?_)
            · rintro _ wl4 _ hA
              refine callB hA [] on (has_any wl4 B A0 (fs[0]?.getD []).length c0 (fs[0]?.getD []) y (k3.below hA.below hB) (Nat.le_trans hB hA.size)) (by kernel_rfl) fun w105 hb105 hA => ?_
              refine runS hA 2 [.t 10, .t 11] xn on (by kernel_rfl) fun w106 hA => ?_
              exact joinE hIW4_9 () trivial [0] hA rfl (by kernel_rfl) (by decide)
            replace hA := hA0IW
            refine callB hA [] on (has_any w3 B A0 (fs[0]?.getD []).length c0 (fs[0]?.getD []) x (k3.below hA.below hB) (Nat.le_trans hB hA.size)) (by kernel_rfl) fun w5 hb5 hA => ?_
            exact joinE hIW4 () trivial [0] hA rfl (by kernel_rfl) (by decide)
          rintro _ w54 _ hA
          refine runS hA 7 [.b true] xn on (by kernel_rfl) fun w55 hA => ?_
          by_cases hx0 : x ∈ (fs[0]?.getD [])
          case pos =>
            by_cases hy0 : y ∈ (fs[0]?.getD [])
            case pos =>
              by_cases hlt : x < y
              case pos =>
                refine revals hA (rc 10 (show .bool (decide (x ∈ (fs[0]?.getD []))) = .bool true by rw [decide_eq_true hx0]) (rc 11 (show .bool (decide (y ∈ (fs[0]?.getD []))) = .bool true by rw [decide_eq_true hy0]) (rc 96 (dec_t hlt) rn))) (by kernel_rfl) fun hA => ?_
                refine runS hA 37 (List.replicate 13 (.g true)) xn (oc (rfl : Value.bool true = .bool true) (oc (rfl : Value.bool true = .bool true) (oc (rfl : Value.bool true = .bool true) (oc (rfl : Value.bool true = .bool true) (oc (rfl : Value.bool true = .bool true) (oc (rfl : Value.bool true = .bool true) (oc (rfl : Value.bool true = .bool true) (oc (rfl : Value.bool true = .bool true) (oc (rfl : Value.bool true = .bool true) (oc (rfl : Value.bool true = .bool true) (oc (rfl : Value.bool true = .bool true) (oc (rfl : Value.bool true = .bool true) (oc (rfl : Value.bool true = .bool true) on))))))))))))) (by kernel_rfl) fun w56 hA => ?_
                exact ret (v := .bool true) hA [] (by kernel_rfl) ⟨by rw [show winB b fs x y = true by simp [winB, ha, hk0, hk1, hk2, hx0, hy0, hlt]], hA.below⟩
              case neg =>
                refine revals hA (rc 10 (show .bool (decide (x ∈ (fs[0]?.getD []))) = .bool true by rw [decide_eq_true hx0]) (rc 11 (show .bool (decide (y ∈ (fs[0]?.getD []))) = .bool true by rw [decide_eq_true hy0]) (rc 96 (dec_f hlt) rn))) (by kernel_rfl) fun hA => ?_
                refine runS hA 37 (List.replicate 8 (.g false)) xn (oc (rfl : Value.bool false = .bool false) (oc (rfl : Value.bool false = .bool false) (oc (rfl : Value.bool false = .bool false) (oc (rfl : Value.bool false = .bool false) (oc (rfl : Value.bool false = .bool false) (oc (rfl : Value.bool false = .bool false) (oc (rfl : Value.bool false = .bool false) (oc (rfl : Value.bool false = .bool false) on)))))))) (by kernel_rfl) fun w56 hA => ?_
                exact ret (v := .bool false) hA [] (by kernel_rfl) ⟨by rw [show winB b fs x y = false by simp [winB, ha, hk0, hk1, hk2, hx0, hy0, hlt]], hA.below⟩
            case neg =>
              by_cases hlt : x < y
              case pos =>
                refine revals hA (rc 10 (show .bool (decide (x ∈ (fs[0]?.getD []))) = .bool true by rw [decide_eq_true hx0]) (rc 11 (show .bool (decide (y ∈ (fs[0]?.getD []))) = .bool false by rw [decide_eq_false hy0]) (rc 96 (dec_t hlt) rn))) (by kernel_rfl) fun hA => ?_
                refine runS hA 37 (List.replicate 9 (.g true) ++ List.replicate 8 (.g false) ++ [.g true]) xn (oc (rfl : Value.bool true = .bool true) (oc (rfl : Value.bool true = .bool true) (oc (rfl : Value.bool true = .bool true) (oc (rfl : Value.bool true = .bool true) (oc (rfl : Value.bool true = .bool true) (oc (rfl : Value.bool true = .bool true) (oc (rfl : Value.bool true = .bool true) (oc (rfl : Value.bool true = .bool true) (oc (rfl : Value.bool true = .bool true) (oc (rfl : Value.bool false = .bool false) (oc (rfl : Value.bool false = .bool false) (oc (rfl : Value.bool false = .bool false) (oc (rfl : Value.bool false = .bool false) (oc (rfl : Value.bool false = .bool false) (oc (rfl : Value.bool false = .bool false) (oc (rfl : Value.bool false = .bool false) (oc (rfl : Value.bool false = .bool false) (oc (rfl : Value.bool true = .bool true) on)))))))))))))))))) (by kernel_rfl) fun w56 hA => ?_
                exact ret (v := .bool false) hA [] (by kernel_rfl) ⟨by rw [show winB b fs x y = false by simp [winB, ha, hk0, hk1, hk2, hx0, hy0, hlt]], hA.below⟩
              case neg =>
                refine revals hA (rc 10 (show .bool (decide (x ∈ (fs[0]?.getD []))) = .bool true by rw [decide_eq_true hx0]) (rc 11 (show .bool (decide (y ∈ (fs[0]?.getD []))) = .bool false by rw [decide_eq_false hy0]) (rc 96 (dec_f hlt) rn))) (by kernel_rfl) fun hA => ?_
                refine runS hA 37 (List.replicate 8 (.g false)) xn (oc (rfl : Value.bool false = .bool false) (oc (rfl : Value.bool false = .bool false) (oc (rfl : Value.bool false = .bool false) (oc (rfl : Value.bool false = .bool false) (oc (rfl : Value.bool false = .bool false) (oc (rfl : Value.bool false = .bool false) (oc (rfl : Value.bool false = .bool false) (oc (rfl : Value.bool false = .bool false) on)))))))) (by kernel_rfl) fun w56 hA => ?_
                exact ret (v := .bool false) hA [] (by kernel_rfl) ⟨by rw [show winB b fs x y = false by simp [winB, ha, hk0, hk1, hk2, hx0, hy0, hlt]], hA.below⟩
          case neg =>
            by_cases hy0 : y ∈ (fs[0]?.getD [])
            case pos =>
              by_cases hlt : x < y
              case pos =>
                refine revals hA (rc 10 (show .bool (decide (x ∈ (fs[0]?.getD []))) = .bool false by rw [decide_eq_false hx0]) (rc 11 (show .bool (decide (y ∈ (fs[0]?.getD []))) = .bool true by rw [decide_eq_true hy0]) (rc 96 (dec_t hlt) rn))) (by kernel_rfl) fun hA => ?_
                refine runS hA 37 (List.replicate 6 (.g true) ++ [.g false, .g true, .g true] ++ List.replicate 8 (.g false) ++ [.g true]) xn (oc (rfl : Value.bool true = .bool true) (oc (rfl : Value.bool true = .bool true) (oc (rfl : Value.bool true = .bool true) (oc (rfl : Value.bool true = .bool true) (oc (rfl : Value.bool true = .bool true) (oc (rfl : Value.bool true = .bool true) (oc (rfl : Value.bool false = .bool false) (oc (rfl : Value.bool true = .bool true) (oc (rfl : Value.bool true = .bool true) (oc (rfl : Value.bool false = .bool false) (oc (rfl : Value.bool false = .bool false) (oc (rfl : Value.bool false = .bool false) (oc (rfl : Value.bool false = .bool false) (oc (rfl : Value.bool false = .bool false) (oc (rfl : Value.bool false = .bool false) (oc (rfl : Value.bool false = .bool false) (oc (rfl : Value.bool false = .bool false) (oc (rfl : Value.bool true = .bool true) on)))))))))))))))))) (by kernel_rfl) fun w56 hA => ?_
                exact ret (v := .bool false) hA [] (by kernel_rfl) ⟨by rw [show winB b fs x y = false by simp [winB, ha, hk0, hk1, hk2, hx0, hy0, hlt]], hA.below⟩
              case neg =>
                refine revals hA (rc 10 (show .bool (decide (x ∈ (fs[0]?.getD []))) = .bool false by rw [decide_eq_false hx0]) (rc 11 (show .bool (decide (y ∈ (fs[0]?.getD []))) = .bool true by rw [decide_eq_true hy0]) (rc 96 (dec_f hlt) rn))) (by kernel_rfl) fun hA => ?_
                refine runS hA 37 (List.replicate 8 (.g false)) xn (oc (rfl : Value.bool false = .bool false) (oc (rfl : Value.bool false = .bool false) (oc (rfl : Value.bool false = .bool false) (oc (rfl : Value.bool false = .bool false) (oc (rfl : Value.bool false = .bool false) (oc (rfl : Value.bool false = .bool false) (oc (rfl : Value.bool false = .bool false) (oc (rfl : Value.bool false = .bool false) on)))))))) (by kernel_rfl) fun w56 hA => ?_
                exact ret (v := .bool false) hA [] (by kernel_rfl) ⟨by rw [show winB b fs x y = false by simp [winB, ha, hk0, hk1, hk2, hx0, hy0, hlt]], hA.below⟩
            case neg =>
              by_cases hlt : x < y
              case pos =>
                refine revals hA (rc 10 (show .bool (decide (x ∈ (fs[0]?.getD []))) = .bool false by rw [decide_eq_false hx0]) (rc 11 (show .bool (decide (y ∈ (fs[0]?.getD []))) = .bool false by rw [decide_eq_false hy0]) (rc 96 (dec_t hlt) rn))) (by kernel_rfl) fun hA => ?_
                refine runS hA 37 (List.replicate 6 (.g true) ++ [.g false, .g true, .g true] ++ List.replicate 8 (.g false) ++ [.g true]) xn (oc (rfl : Value.bool true = .bool true) (oc (rfl : Value.bool true = .bool true) (oc (rfl : Value.bool true = .bool true) (oc (rfl : Value.bool true = .bool true) (oc (rfl : Value.bool true = .bool true) (oc (rfl : Value.bool true = .bool true) (oc (rfl : Value.bool false = .bool false) (oc (rfl : Value.bool true = .bool true) (oc (rfl : Value.bool true = .bool true) (oc (rfl : Value.bool false = .bool false) (oc (rfl : Value.bool false = .bool false) (oc (rfl : Value.bool false = .bool false) (oc (rfl : Value.bool false = .bool false) (oc (rfl : Value.bool false = .bool false) (oc (rfl : Value.bool false = .bool false) (oc (rfl : Value.bool false = .bool false) (oc (rfl : Value.bool false = .bool false) (oc (rfl : Value.bool true = .bool true) on)))))))))))))))))) (by kernel_rfl) fun w56 hA => ?_
                exact ret (v := .bool false) hA [] (by kernel_rfl) ⟨by rw [show winB b fs x y = false by simp [winB, ha, hk0, hk1, hk2, hx0, hy0, hlt]], hA.below⟩
              case neg =>
                refine revals hA (rc 10 (show .bool (decide (x ∈ (fs[0]?.getD []))) = .bool false by rw [decide_eq_false hx0]) (rc 11 (show .bool (decide (y ∈ (fs[0]?.getD []))) = .bool false by rw [decide_eq_false hy0]) (rc 96 (dec_f hlt) rn))) (by kernel_rfl) fun hA => ?_
                refine runS hA 37 (List.replicate 8 (.g false)) xn (oc (rfl : Value.bool false = .bool false) (oc (rfl : Value.bool false = .bool false) (oc (rfl : Value.bool false = .bool false) (oc (rfl : Value.bool false = .bool false) (oc (rfl : Value.bool false = .bool false) (oc (rfl : Value.bool false = .bool false) (oc (rfl : Value.bool false = .bool false) (oc (rfl : Value.bool false = .bool false) on)))))))) (by kernel_rfl) fun w56 hA => ?_
                exact ret (v := .bool false) hA [] (by kernel_rfl) ⟨by rw [show winB b fs x y = false by simp [winB, ha, hk0, hk1, hk2, hx0, hy0, hlt]], hA.below⟩
end Go.Proofs.YtbahiemjaomdcaaGreat

/- quinellalaw03: far; quinellaref03: CheckFinish. -/
namespace Go.Proofs.YtbahiemjaomdcaaGreat
open Go.RowKit Go.Shelf

end Go.Proofs.YtbahiemjaomdcaaGreat

/- quinellaref03: WinnersOf, Winners. -/
namespace Go.Proofs.YtbahiemjaomdcaaGreat
open Go.RowKit Go.Shelf

set_option maxHeartbeats 4000000 in
set_option maxRecDepth 20000 in
theorem winnersOf_any (w : World) (B : Nat) (b : Bk) (A : Option Addr) (n c : Nat) (A2 : Option Addr) (m c2 : Nat) (A3 : Option Addr) (nf cf : Nat) (fs : List (List Int)) (hf : FinAt w B A3 nf fs) (hB : B ≤ w.heap.size) (V : ValidB b) (K : FinOk b fs) : Calls Tryz.prog 51 #[bkV b A n c A2 m c2, .slice A3 nf cf] w fun e w' => ∃ v, e = .returned v ∧ Below w.heap.size w w' ∧ w'.ownsRow w.heap.size 57 2 v (allR b fs b.runners.toNat b.runners.toNat).length (encW (allR b fs b.runners.toNat b.runners.toNat)) := by
  have hv1 := V.run
  refine enter 32 Tryz.func51 (by kernel_rfl) fun hA => ?_
  refine runS hA 18 [] xn on (by kernel_rfl) fun w1 hA => ?_
  obtain ⟨R, hR⟩ : ∃ R : Nat, b.runners = (R : Int) := ⟨b.runners.toNat, by omega⟩
  have hRt : b.runners.toNat = R := by omega
  refine loop (γ := Nat × Option Addr × Nat × List KB) (fun ⟨k, Av, cv, ov⟩ => [(1, .slice A3 nf cf), (2, .pointer (some ⟨w.heap.size, 0, none⟩)), (4, .slice none 0 0), (5, .slice Av ((allR b fs R k).length) cv), (6, .int .i64 (k : Int))]) (fun ⟨k, Av, cv, ov⟩ => [⟨w.heap.size, .cells #[.int .i64 b.kind, .int .i64 b.runners, .slice A n c, .slice A2 m c2, .bool b.fav, .int .i64 b.car, .int .i64 b.dut, .int .i64 b.stp] 25 (0, 0)⟩]) (fun ⟨k, Av, cv, ov⟩ => ov ++ []) (fun g ⟨k, Av, cv, ov⟩ wr => (k ≤ R ∧ g = R - k) ∧ RowV 57 2 (.slice Av (allR b fs R k).length cv) (allR b fs R k).length (encW (allR b fs R k)) ov) R ⟨0, none, 0, []⟩ [true] hA (by kernel_rfl) (⟨⟨Nat.zero_le _, rfl⟩, RowV.nil _ _⟩) ?_
  rintro _ ⟨k, Av, cv, ov⟩ wr ⟨⟨hk, rfl⟩, hrk⟩ J hJ hA
  by_cases hlk : k < R
  case neg =>
    refine runS hA 12 [.k 0, .b false] xn (oc (dec_f (show ¬ (((k : Int) : Int) < (b.runners : Int)) by omega)) on) (by kernel_rfl) fun w2 hA => ?_
    refine leave hA (by kernel_rfl) fun hA => ?_
    refine runS hA 9 [] xn on (by kernel_rfl) fun w3 hA => ?_
    have hAf := hA.atK [⟨w.heap.size, .cells #[.int .i64 b.kind, .int .i64 b.runners, .slice A n c, .slice A2 m c2, .bool b.fav, .int .i64 b.car, .int .i64 b.dut, .int .i64 b.stp] 25 (0, 0)⟩] (by kernel_rfl)
    have hkR : k = R := by omega
    rw [hkR] at hrk
    exact ret (v := .slice Av ((allR b fs R k).length) cv) hA [] (by kernel_rfl) ⟨_, by rw [hkR], hA.below, by rw [hRt]; exact RowV.own (rest := []) hrk hAf⟩
  case pos =>
    have hJ1 := hJ
    refine runS hA 20 [.k 0, .b true] xn (oc (dec_t (show (((k : Int) : Int) < (b.runners : Int)) by omega)) on) (by kernel_rfl) fun w2 hA => ?_
    have hr0 : RowV 57 2 (.slice Av (allR b fs R k ++ rowR b fs (k : Int) 0).length cv) (allR b fs R k ++ rowR b fs (k : Int) 0).length (encW (allR b fs R k ++ rowR b fs (k : Int) 0)) ov := by rw [rowR, List.append_nil]; exact hrk
    refine revals hA (rc 5 (show .slice Av ((allR b fs R k).length) cv = .slice Av ((allR b fs R k ++ rowR b fs (k : Int) 0).length) cv by rw [rowR, List.append_nil]) rn) (by kernel_rfl) fun hA => ?_
    refine loop (γ := Nat × Option Addr × Nat × List KB) (fun ⟨j, Av, cv, ov⟩ => [(1, .slice A3 nf cf), (2, .pointer (some ⟨w.heap.size, 0, none⟩)), (4, .slice none 0 0), (5, .slice Av ((allR b fs R k ++ rowR b fs (k : Int) j).length) cv), (6, .int .i64 (k : Int)), (7, .int .i64 ((j : Int) - 1))]) (fun ⟨j, Av, cv, ov⟩ => [⟨w.heap.size, .cells #[.int .i64 b.kind, .int .i64 b.runners, .slice A n c, .slice A2 m c2, .bool b.fav, .int .i64 b.car, .int .i64 b.dut, .int .i64 b.stp] 25 (0, 0)⟩]) (fun ⟨j, Av, cv, ov⟩ => ov ++ []) (fun g ⟨j, Av, cv, ov⟩ wt => (j ≤ R + 1 ∧ g = R + 1 - j) ∧ RowV 57 2 (.slice Av (allR b fs R k ++ rowR b fs (k : Int) j).length cv) (allR b fs R k ++ rowR b fs (k : Int) j).length (encW (allR b fs R k ++ rowR b fs (k : Int) j)) ov) (R + 1) ⟨0, Av, cv, ov⟩ [true] hA (by kernel_rfl) (⟨⟨Nat.zero_le _, rfl⟩, hr0⟩) ?_
    rintro _ ⟨j, Av, cv, ov⟩ wt ⟨⟨hj, rfl⟩, hrj⟩ J hJ hA
    by_cases hlj : j < R + 1
    case neg =>
      refine runS hA 12 [.k 0, .b false] xn (oc (dec_f (show ¬ ((((j : Int) - 1) : Int) < (b.runners : Int)) by omega)) on) (by kernel_rfl) fun w3 hA => ?_
      refine leave hA (by kernel_rfl) fun hA => ?_
      refine runS hA 8 [] xn on (by kernel_rfl) fun w4 hA => ?_
      have hjR : j = R + 1 := by omega
      rw [hjR] at hrj
      refine revals hA (rc 5 (show .slice Av ((allR b fs R k ++ rowR b fs (k : Int) j).length) cv = .slice Av ((allR b fs R (k + 1)).length) cv by rw [hjR, allR]) (rc 6 (wr64 (x := (k : Int) + 1) (y := ((k + 1 : Nat) : Int)) (by omega) (by omega)) rn)) (by kernel_rfl) fun hA => ?_
      exact again hJ1 (R - (k + 1)) (⟨k + 1, Av, cv, ov⟩) [true] hA (by omega) (by kernel_rfl) (⟨⟨by omega, rfl⟩, hrj⟩)
    case pos =>
      refine runS hA 20 ([.k 0, .b true] ++ List.replicate 8 (.k 0)) xn (oc (dec_t (show ((((j : Int) - 1) : Int) < (b.runners : Int)) by omega)) on) (by kernel_rfl) fun w3 hA => ?_
      refine callB hA [] on (isWinner_any w3 B b A n c A2 m c2 A3 nf cf fs (k : Int) ((j : Int) - 1) (hf.below hA.below hB) (Nat.le_trans hB hA.size) K) (by kernel_rfl) fun w4 hb4 hA => ?_
      have hl1 := allR_len b fs R k
      have hl2 := rowR_len b fs (k : Int) j
      have hl3 : k * (R + 1) ≤ 8 * 9 := Nat.mul_le_mul (by omega) (by omega)
      rcases Bool.eq_false_or_eq_true (winB b fs (k : Int) ((j : Int) - 1)) with hw | hw
      ·
        refine revals hA (rc 24 (show .bool (winB b fs (k : Int) ((j : Int) - 1)) = .bool true by rw [hw]) rn) (by kernel_rfl) fun hA => ?_
        refine runS hA 9 [] xn on (by kernel_rfl) fun w5 hA => ?_
        have hst : (allR b fs R k ++ rowR b fs (k : Int) (j + 1)) = (allR b fs R k ++ rowR b fs (k : Int) j) ++ [((k : Int), (j : Int) - 1)] := by rw [rowR, if_pos hw, List.append_assoc]
        have hob := hA.at_.ok ⟨w4.heap.size, .cells #[.int .i64 (k : Int), .int .i64 ((j : Int) - 1)] 57 (0, 0)⟩ (List.mem_of_getElem? (i := 1) (by kernel_rfl))
        have hc0 := cell_of_obj (a := ⟨w4.heap.size, 0, none⟩) hob rfl rfl
        have hc1 := cell_of_obj (a := ⟨w4.heap.size, 1, none⟩) hob rfl rfl
        have hlb : (allR b fs R k ++ rowR b fs (k : Int) j).length ≤ 200 := by rw [List.length_append]; omega
        refine appE (t := 49) (e := 57) (ty := 49) (z := .agg #[.int .i64 0, .int .i64 0]) (size := 2) (bytes := 16) (v := .slice Av (allR b fs R k ++ rowR b fs (k : Int) j).length cv) (n := (allR b fs R k ++ rowR b fs (k : Int) j).length) (m := 1) (cp := 1) (A := some ⟨w4.heap.size, 0, none⟩) [.int .i64 (k : Int), .int .i64 ((j : Int) - 1)] hA hrj (by kernel_rfl) rfl (fun _ => ⟨_, rfl, fun q u hu => by match q, hu with | 0, hu => cases hu; exact hc0 | 1, hu => cases hu; exact hc1⟩) rfl (by omega) (by omega) fun v2 w6 ob2 hr2 hnil2 hat2 hsz2 hA => ?_
        have hle : (allR b fs R k ++ rowR b fs (k : Int) (j + 1)).length = (allR b fs R k ++ rowR b fs (k : Int) j).length + 1 := by rw [hst, List.length_append]; rfl
        obtain ⟨g2, c2', rfl⟩ : ∃ g2 c2', v2 = .slice (some ⟨g2, 0, none⟩) ((allR b fs R k ++ rowR b fs (k : Int) j).length + 1) c2' := by
          rcases hr2.2 with ⟨-, h9, -⟩ | ⟨g2, c2', u2, h1, -⟩
          · omega
          · exact ⟨g2, c2', h1⟩
        refine runS hA 9 [] xn on (by kernel_rfl) fun w7 hA => ?_
        have hrk2 : RowV 57 2 (.slice (some ⟨g2, 0, none⟩) (allR b fs R k ++ rowR b fs (k : Int) (j + 1)).length c2') (allR b fs R k ++ rowR b fs (k : Int) (j + 1)).length (encW (allR b fs R k ++ rowR b fs (k : Int) (j + 1))) ob2 := by rw [hle, hst, encW_app]; exact hr2
        refine revals hA (rc 5 (show .slice (some ⟨g2, 0, none⟩) ((allR b fs R k ++ rowR b fs (k : Int) j).length + 1) c2' = .slice (some ⟨g2, 0, none⟩) ((allR b fs R k ++ rowR b fs (k : Int) (j + 1)).length) c2' by rw [hle]) (rc 7 (wr64 (x := ((j : Int) - 1) + 1) (y := ((j + 1 : Nat) : Int) - 1) (by omega) (by omega)) rn)) (by kernel_rfl) fun hA => ?_
        exact again hJ (R + 1 - (j + 1)) (⟨j + 1, some ⟨g2, 0, none⟩, c2', ob2⟩) [true] hA (by omega) (by kernel_rfl) (⟨⟨by omega, rfl⟩, hrk2⟩)
      ·
        refine revals hA (rc 24 (show .bool (winB b fs (k : Int) ((j : Int) - 1)) = .bool false by rw [hw]) rn) (by kernel_rfl) fun hA => ?_
        refine runS hA 11 [] xn on (by kernel_rfl) fun w5 hA => ?_
        have hst : (allR b fs R k ++ rowR b fs (k : Int) (j + 1)) = (allR b fs R k ++ rowR b fs (k : Int) j) := by rw [rowR, if_neg (by rw [hw]; decide), List.append_nil]
        refine revals hA (rc 5 (show .slice Av ((allR b fs R k ++ rowR b fs (k : Int) j).length) cv = .slice Av ((allR b fs R k ++ rowR b fs (k : Int) (j + 1)).length) cv by rw [hst]) (rc 7 (wr64 (x := ((j : Int) - 1) + 1) (y := ((j + 1 : Nat) : Int) - 1) (by omega) (by omega)) rn)) (by kernel_rfl) fun hA => ?_
        exact again hJ (R + 1 - (j + 1)) (⟨j + 1, Av, cv, ov⟩) [true] hA (by omega) (by kernel_rfl) (⟨⟨by omega, rfl⟩, by rw [hst]; exact hrj⟩)
end Go.Proofs.YtbahiemjaomdcaaGreat
