/- PoolPays answers true whatever the book, the groups and the index of the bet; the arguments read behind the call as they did. No condition. -/
import Derived.Test.YtbahiemjaomdcaaGreatP17
import Derived.Test.YtbahiemjaomdcaaGreatRows
import Derived.WalkKit
import Derived.ProofKit
import Derived.OpenShut
import Derived.Carry
import Derived.Deep.Slices
import Derived.ChangeSame

/- law of pool: PoolPays. -/
namespace Go.Proofs.YtbahiemjaomdcaaGreat
open Go.RowKit Go.Shelf

theorem dvA_few (b : Bk) (fs : List (List Int)) : (dvA b fs).length ≤ 1000 := by
  by_cases h : atF b fs = 0
  · obtain ⟨h0, hfin⟩ := at_both h
    rw [(dvA_eq h0 hfin).1]
    exact dvL_len2 h0 hfin
  · rw [(dvA_bad h).2]
    exact Nat.zero_le _
theorem DividendsS_any (w : World) (B : Nat) (b : Bk) (A : Option Addr) (n c : Nat) (A2 : Option Addr) (m c2 : Nat) (A3 : Option Addr) (nf cf : Nat) (fs : List (List Int)) (h : BkAt w B b A n c A2 m c2) (hf : FinAt w B A3 nf fs) (hB : B ≤ w.heap.size) : Calls Tryz.prog 9 #[bkV b A n c A2 m c2, .slice A3 nf cf] w fun e w' => ∃ A9 c9, e = .returned (.tuple #[.slice A9 (dvA b fs).length c9, .int .i64 (dvE b fs)]) ∧ Below w.heap.size w w' ∧ w'.ownsRow w.heap.size 59 3 (.slice A9 (dvA b fs).length c9) (dvA b fs).length (encD (dvA b fs)) := by
  refine (Dividends_any w B b A n c A2 m c2 A3 nf cf fs h hf hB).mono ?_
  rintro e w' ⟨v, rfl, hb, ho, -⟩
  obtain ⟨A9, c9, rfl⟩ := own_slice ho
  exact ⟨A9, c9, rfl, hb, ho⟩
set_option maxHeartbeats 4000000 in
set_option maxRecDepth 20000 in
theorem PoolPays_any (w : World) (B : Nat) (b : Bk) (A : Option Addr) (n c : Nat) (A2 : Option Addr) (m c2 : Nat) (A3 : Option Addr) (nf cf : Nat) (fs : List (List Int)) (p : Int) (h : BkAt w B b A n c A2 m c2) (hf : FinAt w B A3 nf fs) (hB : B ≤ w.heap.size) : Calls Tryz.prog 3 #[bkV b A n c A2 m c2, .slice A3 nf cf, .int .i64 p] w fun e w' => e = .returned (.bool true) ∧ Below w.heap.size w w' := by
  have hbl := h.bets.1
  have hxl := h.scr.1
  have hdf := dvA_few b fs
  refine enter 95 Tryz.func3 (by kernel_rfl) fun hA => ?_
  refine runS hA 10 (List.replicate 8 (.k 0)) xn on (by kernel_rfl) fun w1 hA => ?_
  refine callB hA [] on (great_any w1 b A n c A2 m c2) (by kernel_rfl) fun w2 hb2 hA => ?_
  by_cases hgr : 110 < n ∨ 20 < m
  case pos =>
    refine revals hA (rc 20 (show .bool (decide (110 < n ∨ 20 < m)) = .bool true by rw [decide_eq_true hgr]) rn) (by kernel_rfl) fun hA => ?_
    refine runS hA 9 [.g true, .g true] xn (oc (rfl : Value.bool true = .bool true) (oc (rfl : Value.bool true = .bool true) on)) (by kernel_rfl) fun w3 hA => ?_
    refine callB hA [] on (Works_any w3) (by kernel_rfl) fun w4 hb4 hA => ?_
    refine runS hA 5 [] xn on (by kernel_rfl) fun w5 hA => ?_
    exact ret (v := .bool true) hA [] (by kernel_rfl) ⟨rfl, hA.below⟩
  case neg =>
    refine revals hA (rc 20 (show .bool (decide (110 < n ∨ 20 < m)) = .bool false by rw [decide_eq_false hgr]) rn) (by kernel_rfl) fun hA => ?_
    refine runS hA 2 [.g false] xn (oc (rfl : Value.bool false = .bool false) on) (by kernel_rfl) fun w3 hA => ?_
    refine call hA [] on (far_any w3 B A3 nf cf fs (hf.below hA.below hB) (Nat.le_trans hB hA.size)) (by kernel_rfl) (by rintro e v ⟨t, rfl, hbt⟩; exact hbt) ?_
    rintro e w4 ⟨t, rfl, hbt⟩
    refine ⟨_, rfl, fun hA => ?_⟩
    cases t with
    | true =>
      refine runS hA 6 [] xn on (by kernel_rfl) fun w5 hA => ?_
      refine callB hA [] on (Works_any w5) (by kernel_rfl) fun w6 hb6 hA => ?_
      refine runS hA 5 [] xn on (by kernel_rfl) fun w7 hA => ?_
      exact ret (v := .bool true) hA [] (by kernel_rfl) ⟨rfl, hA.below⟩
    | false =>
      refine runS hA 10 (List.replicate 8 (.k 0)) xn on (by kernel_rfl) fun w5 hA => ?_
      have hApl := hA.atK [⟨w.heap.size, .cells #[.int .i64 b.kind, .int .i64 b.runners, .slice A n c, .slice A2 m c2, .bool b.fav, .int .i64 b.car, .int .i64 b.dut, .int .i64 b.stp] 25 (0, 0)⟩] (by kernel_rfl)
      refine call hA [] on (DividendsS_any w5 B b A n c A2 m c2 A3 nf cf fs (h.below hA.below hB) (hf.below hA.below hB) (Nat.le_trans hB hA.size)) (by kernel_rfl) (by rintro e v ⟨Al, cl, rfl, hbl, hol⟩; exact hbl) ?_
      rintro e w6 ⟨Al, cl, rfl, hbl, hol⟩
      refine ⟨_, rfl, fun hA => ?_⟩
      have hq9 := At.own hApl hbl hol
      obtain ⟨ob8l, hrl, hA2l⟩ := hq9
      refine reknow ⟨[⟨w.heap.size, .cells #[.int .i64 b.kind, .int .i64 b.runners, .slice A n c, .slice A2 m c2, .bool b.fav, .int .i64 b.car, .int .i64 b.dut, .int .i64 b.stp] 25 (0, 0)⟩], w6.heap.size, [], [], [], [], []⟩ hA2l (Nat.zero_le _) fun hA => ?_
      have hptl := row_at hrl (by omega)
      refine runS hA 11 (List.replicate 8 (.k 0)) xn on (by kernel_rfl) fun w7 hA => ?_
      have hApm := hA.atK [⟨w.heap.size, .cells #[.int .i64 b.kind, .int .i64 b.runners, .slice A n c, .slice A2 m c2, .bool b.fav, .int .i64 b.car, .int .i64 b.dut, .int .i64 b.stp] 25 (0, 0)⟩] (by kernel_rfl)
      refine call hA [] on (rDividends_any w7 B b A n c A2 m c2 A3 nf cf fs (h.below hA.below hB) (hf.below hA.below hB) (Nat.le_trans hB hA.size)) (by kernel_rfl) (by rintro e v ⟨Am, cm, rfl, hbm, hom⟩; exact hbm) ?_
      rintro e w8 ⟨Am, cm, rfl, hbm, hom⟩
      refine ⟨_, rfl, fun hA => ?_⟩
      have hq9 := At.own hApm hbm hom
      obtain ⟨ob8m, hrm, hA2m⟩ := hq9
      refine reknow ⟨[⟨w.heap.size, .cells #[.int .i64 b.kind, .int .i64 b.runners, .slice A n c, .slice A2 m c2, .bool b.fav, .int .i64 b.car, .int .i64 b.dut, .int .i64 b.stp] 25 (0, 0)⟩], w8.heap.size, [], [], [], [], []⟩ hA2m (Nat.zero_le _) fun hA => ?_
      have hptm := row_at hrm (by omega)
      refine runS hA 11 (List.replicate 8 (.k 0)) xn on (by kernel_rfl) fun w9 hA => ?_
      refine callB hA [] on (Account_any w9 B b A n c A2 m c2 A3 nf cf fs (h.below hA.below hB) (hf.below hA.below hB) (Nat.le_trans hB hA.size)) (by kernel_rfl) fun w10 hb10 hA => ?_
      refine runS hA 12 (List.replicate 6 (.k 1) ++ List.replicate 8 (.k 0)) xn on (by kernel_rfl) fun w11 hA => ?_
      refine callB hA [] on (rAccount_any w11 B b A n c A2 m c2 A3 nf cf fs (h.below hA.below hB) (hf.below hA.below hB) (Nat.le_trans hB hA.size)) (by kernel_rfl) fun w12 hb12 hA => ?_
      refine runS hA 13 (List.replicate 6 (.k 2) ++ List.replicate 8 (.k 0)) xn on (by kernel_rfl) fun w13 hA => ?_
      refine callB hA [] on (Pay_any w13 B b A n c A2 m c2 A3 nf cf fs (h.below hA.below hB) (hf.below hA.below hB) (Nat.le_trans hB hA.size) p) (by kernel_rfl) fun w14 hb14 hA => ?_
      refine runS hA 12 (List.replicate 8 (.k 0)) xn on (by kernel_rfl) fun w15 hA => ?_
      refine callB hA [] on (rPay_any w15 B b A n c A2 m c2 A3 nf cf fs p (h.below hA.below hB) (hf.below hA.below hB) (Nat.le_trans hB hA.size)) (by kernel_rfl) fun w16 hb16 hA => ?_
      refine runS hA 11 [] xn on (by kernel_rfl) fun w17 hA => ?_
      have hX := hptl _ (fun kb hk => hA.at_.rok kb (List.mem_append_right _ (List.mem_append_left _ hk)))
      have hY := hptm _ (fun kb hk => hA.at_.rok kb (List.mem_append_left _ hk))
      refine callB hA [] on (ldiv_any w17 w17.heap.size Al (dvA b fs).length cl Am (dvA b fs).length cm (dvA b fs) (dvA b fs) hX hY (Nat.le_refl _)) (by kernel_rfl) fun w18 hb18 hA => ?_
      refine revals hA (rc 66 (show .bool (decide (dvA b fs = dvA b fs)) = .bool true by rw [decide_eq_true rfl]) rn) (by kernel_rfl) fun hA => ?_
      refine runS hA 4 [.g true, .g true, .g true] xn (oc (rfl : Value.bool true = .bool true) (oc (rfl : Value.bool true = .bool true) (oc (rfl : Value.bool true = .bool true) on))) (by kernel_rfl) fun w19 hA => ?_
      refine revals hA (rc 70 (eq_t (a := dvE b fs) (b := dvE b fs) rfl) rn) (by kernel_rfl) fun hA => ?_
      refine runS hA 4 ([.g true] ++ List.replicate 6 (.k 1) ++ [.g true] ++ List.replicate 6 (.k 2)) xn (oc (rfl : Value.bool true = .bool true) (oc (rfl : Value.bool true = .bool true) on)) (by kernel_rfl) fun w20 hA => ?_
      refine opv (v := .bool true) hA [] on (s := cmpSem .eql 35 (.tmp 73) (.tmp 74) (.agg #[.int .i64 ((AccountF b fs).inn), .int .i64 ((AccountF b fs).back), .int .i64 ((AccountF b fs).duty), .int .i64 ((AccountF b fs).paid), .int .i64 ((AccountF b fs).kept), .int .i64 ((AccountF b fs).over)]) (.agg #[.int .i64 ((AccountF b fs).inn), .int .i64 ((AccountF b fs).back), .int .i64 ((AccountF b fs).duty), .int .i64 ((AccountF b fs).paid), .int .i64 ((AccountF b fs).kept), .int .i64 ((AccountF b fs).over)])) (by kernel_rfl) (cmp_flat (n := 6) false (by kernel_rfl) _ (by kernel_rfl) (fun i hi => by match i, hi with | 0, _ => exact ⟨_, _, _, rfl, rfl⟩ | 1, _ => exact ⟨_, _, _, rfl, rfl⟩ | 2, _ => exact ⟨_, _, _, rfl, rfl⟩ | 3, _ => exact ⟨_, _, _, rfl, rfl⟩ | 4, _ => exact ⟨_, _, _, rfl, rfl⟩ | 5, _ => exact ⟨_, _, _, rfl, rfl⟩) (True) (⟨fun _ => trivial, fun _ => rfl⟩) (by kernel_rfl)) fun hA => ?_
      refine runS hA 5 [.g true, .g true, .g true] xn (oc (rfl : Value.bool true = .bool true) (oc (rfl : Value.bool true = .bool true) (oc (rfl : Value.bool true = .bool true) on))) (by kernel_rfl) fun w21 hA => ?_
      refine revals hA (rc 80 (eq_t (a := atF b fs) (b := atF b fs) rfl) rn) (by kernel_rfl) fun hA => ?_
      refine runS hA 5 [.g true, .g true, .g true] xn (oc (rfl : Value.bool true = .bool true) (oc (rfl : Value.bool true = .bool true) (oc (rfl : Value.bool true = .bool true) on))) (by kernel_rfl) fun w22 hA => ?_
      refine revals hA (rc 85 (eq_t (a := payA b fs p) (b := payA b fs p) rfl) rn) (by kernel_rfl) fun hA => ?_
      refine runS hA 5 [.g true, .g true, .g true] xn (oc (rfl : Value.bool true = .bool true) (oc (rfl : Value.bool true = .bool true) (oc (rfl : Value.bool true = .bool true) on))) (by kernel_rfl) fun w23 hA => ?_
      refine revals hA (rc 90 (eq_t (a := payE b fs p) (b := payE b fs p) rfl) rn) (by kernel_rfl) fun hA => ?_
      refine runS hA 2 [] xn on (by kernel_rfl) fun w24 hA => ?_
      refine callB hA [] on (Works_any w24) (by kernel_rfl) fun w25 hb25 hA => ?_
      refine runS hA 5 [] xn on (by kernel_rfl) fun w26 hA => ?_
      exact ret (v := .bool true) hA [] (by kernel_rfl) ⟨rfl, hA.below⟩
end Go.Proofs.YtbahiemjaomdcaaGreat

/- PoolPays answers true whatever the book, the groups and the index of the bet; the arguments read behind the call as they did. No condition. -/
namespace Go.Proofs.YtbahiemjaomdcaaGreat.poolPays
open Go.ChangeShapes Go.WideShapes Go.ChangeAt Go.RowKit

theorem own : ownKnob Tryz.prog.godebug = none := by kernel_rfl
theorem laidOut : laidOutB Tryz.prog = true := by kernel_rfl
theorem cellsInt : Tryz.prog.cellsOf 3 = 1 := by kernel_rfl
/-- A slice of numbers among the arguments. -/
theorem ints_arg {H : Type} {enc : TypeId × Value → H} {W : World} {fuel : Nat} {v : Value} {x : DataW H × List MemPlace} (h : DataW.trod enc Tryz.prog W 0 (fun _ => true) true fuel 23 [v] = some x) :
    ∃ A n c xs, v = .slice A n c ∧ n ≤ c ∧ IntsAt W W.heap.size A n xs := by
  rcases open_ints Tryz.underlying23 Tryz.underlying3 cellsInt h with ⟨hcs, -⟩ | ⟨a, n, c, zs, hcs, -, hl, hm, hz, -, hcell, -⟩
  · obtain rfl : v = .slice none 0 0 := by simpa using hcs
    exact ⟨none, 0, 0, [], rfl, Nat.le_refl _, IntsAt.nil⟩
  · obtain rfl : v = .slice (some a) n c := by simpa using hcs
    have hz : zs.length = c := by simpa using hz
    refine ⟨some a, n, c, zs.take n, rfl, hl, by rw [List.length_take]; omega, by simp only [maxLen] at hm; omega, fun h0 => ?_⟩
    obtain ⟨b, off, rfl, hc⟩ := Go.ints_at hcell (by omega)
    refine ⟨b, off, rfl, ?_, fun j hj => ?_⟩
    · rcases Nat.lt_or_ge b W.heap.size with hb | hb
      · exact hb
      · have := hc 0 (by omega)
        simp [World.cell?, Array.getElem?_eq_none hb] at this
    · rw [hc j (by omega), List.getElem?_take, if_pos hj, List.getD_eq_getElem?_getD]
theorem cellsI64 : Tryz.prog.cellsOf 2 = 1 := by kernel_rfl
theorem cellsBool : Tryz.prog.cellsOf 4 = 1 := by kernel_rfl
theorem cellsBet : Tryz.prog.cellsOf 93 = 3 := by kernel_rfl
theorem cellsBets : Tryz.prog.cellsOf 22 = 1 := by kernel_rfl
theorem cellsInts : Tryz.prog.cellsOf 23 = 1 := by kernel_rfl
theorem cellsBook : Tryz.prog.cellsOf 25 = 8 := by kernel_rfl
theorem bet_gen {H : Type} {enc : TypeId × Value → H} {P : Program} {W : World} {fuel : Nat} {T I J : TypeId} {f0 f1 f2 : Field} (ht : P.underlying T = some (.struct #[f0, f1, f2])) (hi : P.underlying I = some (.int .i64)) (hj : P.underlying J = some (.int .i64)) (cI : P.cellsOf I = 1) (cJ : P.cellsOf J = 1) (cT : P.cellsOf T = 3)
    (o0 : f0.offset = 0 ∧ f0.type = I) (o1 : f1.offset = 1 ∧ f1.type = I) (o2 : f2.offset = 2 ∧ f2.type = J) {cs : List Value} {x : DataW H × List MemPlace} (h : DataW.trod enc P W 0 (fun _ => true) true fuel T cs = some x) :
    ∃ y : Bet, cs = [.int .i64 y.first, .int .i64 y.second, .int .i64 y.units] := by
  obtain ⟨xs, m, -, -, hl, hn, hf⟩ := Go.DataW.trod_struct ht h
  rw [cT] at hl
  obtain ⟨v0, v1, v2, rfl⟩ : ∃ v0 v1 v2, cs = [v0, v1, v2] := by
    match cs, hl with
    | [a, b, c], _ => exact ⟨a, b, c, rfl⟩
  have g0 := hf 0 f0 rfl
  have g1 := hf 1 f1 rfl
  have g2 := hf 2 f2 rfl
  simp only [List.size_toArray, List.length_cons, List.length_nil] at hn
  rw [List.getElem?_eq_getElem (by omega)] at g0 g1 g2
  rw [o0.1, o0.2, cI] at g0
  rw [o1.1, o1.2, cI] at g1
  rw [o2.1, o2.2, cJ] at g2
  obtain ⟨a, e0, -, -⟩ := Go.DataW.trod_int hi g0
  obtain ⟨b, e1, -, -⟩ := Go.DataW.trod_int hi g1
  obtain ⟨c, e2, -, -⟩ := Go.DataW.trod_int hj g2
  simp at e0 e1 e2
  exact ⟨⟨a, b, c⟩, by rw [e0, e1, e2]⟩
theorem bet_arg {H : Type} {enc : TypeId × Value → H} {W : World} {fuel : Nat} {cs : List Value} {x : DataW H × List MemPlace} (h : DataW.trod enc Tryz.prog W 0 (fun _ => true) true fuel 93 cs = some x) :
    ∃ y : Bet, cs = [.int .i64 y.first, .int .i64 y.second, .int .i64 y.units] := bet_gen Tryz.underlying93 Tryz.underlying3 Tryz.underlying2 cellsInt cellsI64 cellsBet ⟨rfl, rfl⟩ ⟨rfl, rfl⟩ ⟨rfl, rfl⟩ h
/-- A slice of bets among the arguments. -/
theorem bets_arg {H : Type} {enc : TypeId × Value → H} {W : World} {fuel : Nat} {v : Value} {x : DataW H × List MemPlace} (h : DataW.trod enc Tryz.prog W 0 (fun _ => true) true fuel 22 [v] = some x) :
    ∃ A n c bs, v = .slice A n c ∧ n ≤ c ∧ BetsAt W W.heap.size A n bs := by
  rcases Go.Deep.open_slice Tryz.underlying22 h with ⟨hcs, -⟩ | ⟨a, len, cap, m, n', D, Pl, hcs, -, hl, hm, hmm, -, hel⟩
  · obtain rfl : v = .slice none 0 0 := by simpa using hcs
    exact ⟨none, 0, 0, [], rfl, Nat.le_refl _, rfl, by omega, fun h => absurd h (by omega)⟩
  · obtain rfl : v = .slice (some a) len cap := by simpa using hcs
    have hmc : m = cap := by simpa using hmm
    have each : ∀ i, i < len → ∃ y : Bet, W.cell? (a.add (i * 3)) = some (.int .i64 y.first) ∧ W.cell? (a.add (i * 3 + 1)) = some (.int .i64 y.second) ∧ W.cell? (a.add (i * 3 + 2)) = some (.int .i64 y.units) := by
      intro i hi
      obtain ⟨cs', h1, h2⟩ := hel i (by omega)
      obtain ⟨y, rfl⟩ := bet_arg h2
      rw [cellsBet] at h1
      obtain ⟨_, hlen, hcell⟩ := World.cells?_some h1
      have g0 := hcell 0 (by omega)
      have g1 := hcell 1 (by omega)
      have g2 := hcell 2 (by omega)
      rw [Go.Deep.add_add] at g0 g1 g2
      exact ⟨y, by simpa using g0, by simpa using g1, by simpa using g2⟩
    obtain ⟨fx, hfx⟩ := Go.Deep.choose_lt each
    refine ⟨some a, len, cap, (List.range len).map fx, rfl, hl, by simp, by simp only [maxLen] at hm; omega, fun h0 => ?_⟩
    obtain ⟨b, off, spot⟩ := a
    have hc0 := (hfx 0 h0).1
    have hspot : spot = none := by simpa [Addr.add] using World.cell?_spot hc0
    subst hspot
    refine ⟨b, off, rfl, ?_, fun j hj => ?_⟩
    · rcases Nat.lt_or_ge b W.heap.size with hb | hb
      · exact hb
      · simp [World.cell?, Addr.add, Array.getElem?_eq_none hb] at hc0
    · have e := hfx j hj
      rw [Go.WideShapes.add_plain, Go.WideShapes.add_plain, Go.WideShapes.add_plain] at e
      rw [List.getElem?_map, List.getElem?_range hj, Option.map_some, Option.getD_some]
      exact e
theorem book_gen {H : Type} {enc : TypeId × Value → H} {P : Program} {W : World} {fuel : Nat} {T I J S R C : TypeId} {f0 f1 f2 f3 f4 f5 f6 f7 : Field} (ht : P.underlying T = some (.struct #[f0, f1, f2, f3, f4, f5, f6, f7])) (hi : P.underlying I = some (.int .i64)) (hj : P.underlying J = some (.int .i64)) (hb : P.underlying C = some .bool)
    (cI : P.cellsOf I = 1) (cJ : P.cellsOf J = 1) (cS : P.cellsOf S = 1) (cR : P.cellsOf R = 1) (cC : P.cellsOf C = 1) (cT : P.cellsOf T = 8)
    (o0 : f0.offset = 0 ∧ f0.type = I) (o1 : f1.offset = 1 ∧ f1.type = I) (o2 : f2.offset = 2 ∧ f2.type = S) (o3 : f3.offset = 3 ∧ f3.type = R) (o4 : f4.offset = 4 ∧ f4.type = C) (o5 : f5.offset = 5 ∧ f5.type = J) (o6 : f6.offset = 6 ∧ f6.type = J) (o7 : f7.offset = 7 ∧ f7.type = J)
    {cs : Array Value} {x : DataW H × List MemPlace} (h : DataW.trod enc P W 0 (fun _ => true) true fuel T cs.toList = some x) :
    ∃ (a0 a1 : Int) (v2 v3 : Value) (a4 : Bool) (a5 a6 a7 : Int) (q : Nat) (x2 x3 : DataW H × List MemPlace), cs = #[.int .i64 a0, .int .i64 a1, v2, v3, .bool a4, .int .i64 a5, .int .i64 a6, .int .i64 a7] ∧
      DataW.trod enc P W 0 (fun _ => true) true q S [v2] = some x2 ∧ DataW.trod enc P W 0 (fun _ => true) true q R [v3] = some x3 := by
  obtain ⟨xs, q, -, -, hl, hn, hf⟩ := Go.DataW.trod_struct ht h
  rw [cT] at hl
  obtain ⟨v0, v1, v2, v3, v4, v5, v6, v7, hc⟩ : ∃ v0 v1 v2 v3 v4 v5 v6 v7, cs.toList = [v0, v1, v2, v3, v4, v5, v6, v7] := by
    generalize cs.toList = l at hl
    match l, hl with
    | [a, b, c, d, e, f, g, h], _ => exact ⟨a, b, c, d, e, f, g, h, rfl⟩
  rw [hc] at hf
  simp only [List.size_toArray, List.length_cons, List.length_nil] at hn
  have g0 := hf 0 f0 rfl
  have g1 := hf 1 f1 rfl
  have g2 := hf 2 f2 rfl
  have g3 := hf 3 f3 rfl
  have g4 := hf 4 f4 rfl
  have g5 := hf 5 f5 rfl
  have g6 := hf 6 f6 rfl
  have g7 := hf 7 f7 rfl
  rw [List.getElem?_eq_getElem (by omega)] at g0 g1 g2 g3 g4 g5 g6 g7
  rw [o0.1, o0.2, cI] at g0
  rw [o1.1, o1.2, cI] at g1
  rw [o2.1, o2.2, cS] at g2
  rw [o3.1, o3.2, cR] at g3
  rw [o4.1, o4.2, cC] at g4
  rw [o5.1, o5.2, cJ] at g5
  rw [o6.1, o6.2, cJ] at g6
  rw [o7.1, o7.2, cJ] at g7
  obtain ⟨a0, e0, -, -⟩ := Go.DataW.trod_int hi g0
  obtain ⟨a1, e1, -, -⟩ := Go.DataW.trod_int hi g1
  obtain ⟨a4, e4, -⟩ := Go.DataW.trod_bool hb g4
  obtain ⟨a5, e5, -, -⟩ := Go.DataW.trod_int hj g5
  obtain ⟨a6, e6, -, -⟩ := Go.DataW.trod_int hj g6
  obtain ⟨a7, e7, -, -⟩ := Go.DataW.trod_int hj g7
  simp at e0 e1 e4 e5 e6 e7
  refine ⟨a0, a1, v2, v3, a4, a5, a6, a7, q, _, _, ?_, by simpa using g2, by simpa using g3⟩
  apply Array.toList_inj.1
  rw [hc, e0, e1, e4, e5, e6, e7]
/-- A book among the arguments. -/
theorem book_arg {H : Type} {enc : TypeId × Value → H} {W : World} {fuel : Nat} {cs : Array Value} {x : DataW H × List MemPlace} (h : DataW.trod enc Tryz.prog W 0 (fun _ => true) true fuel 25 cs.toList = some x) :
    ∃ b A n c A2 m c2, cs = bkC b A n c A2 m c2 ∧ BkAt W W.heap.size b A n c A2 m c2 := by
  obtain ⟨a0, a1, v2, v3, a4, a5, a6, a7, q, x2, x3, rfl, f2, f3⟩ := book_gen Tryz.underlying25 Tryz.underlying3 Tryz.underlying2 Tryz.underlying4 cellsInt cellsI64 cellsBets cellsInts cellsBool cellsBook ⟨rfl, rfl⟩ ⟨rfl, rfl⟩ ⟨rfl, rfl⟩ ⟨rfl, rfl⟩ ⟨rfl, rfl⟩ ⟨rfl, rfl⟩ ⟨rfl, rfl⟩ ⟨rfl, rfl⟩ h
  obtain ⟨A, n, c, bs, rfl, l2, i2⟩ := bets_arg f2
  obtain ⟨A2, m, c2, ss, rfl, l3, i3⟩ := ints_arg f3
  exact ⟨⟨a0, a1, bs, ss, a4, a5, a6, a7⟩, A, n, c, A2, m, c2, rfl, i2, i3, l2, l3⟩
theorem cells_one {W : World} {a : Addr} {cs : List Value} (h : W.cells? 0 a 1 = some cs) : ∃ c0, cs = [c0] ∧ W.cell? a = some c0 := by
  have r1 : List.range 1 = [0] := rfl
  have a0 : a.add 0 = a := by simp [Addr.add]
  unfold World.cells? at h
  rw [if_pos (Nat.zero_le _), r1] at h
  cases h0 : W.cell? a with
  | none => simp [a0, h0] at h
  | some c0 =>
    simp [a0, h0] at h
    exact ⟨c0, h.symm, rfl⟩
/-- Groups among the arguments. -/
theorem finish_arg {H : Type} {enc : TypeId × Value → H} {W : World} {fuel : Nat} {v : Value} {x : DataW H × List MemPlace} (h : DataW.trod enc Tryz.prog W 0 (fun _ => true) true fuel 26 [v] = some x) :
    ∃ A n c fs, v = .slice A n c ∧ n ≤ c ∧ FinAt W W.heap.size A n fs := by
  rcases Go.Deep.open_slice Tryz.underlying26 h with ⟨hcs, -⟩ | ⟨a, len, cap, m, n', D, Pl, hcs, -, hl, hm, hmm, -, hel⟩
  · obtain rfl : v = .slice none 0 0 := by simpa using hcs
    exact ⟨none, 0, 0, [], rfl, Nat.le_refl _, rfl, by omega, fun h => absurd h (by omega)⟩
  · obtain rfl : v = .slice (some a) len cap := by simpa using hcs
    have hmc : m = cap := by simpa using hmm
    have each : ∀ i, i < len → ∃ s : List Int, ∃ A' c', W.cell? (a.add i) = some (.slice A' s.length c') ∧ s.length ≤ c' ∧ IntsAt W W.heap.size A' s.length s := by
      intro i hi
      obtain ⟨cs', h1, h2⟩ := hel i (by omega)
      rw [cellsInts, Nat.mul_one] at h1
      obtain ⟨c0, rfl, e0⟩ := cells_one h1
      obtain ⟨A', m', c', xs, rfl, hle, hi'⟩ := ints_arg (v := c0) h2
      obtain rfl := hi'.len
      exact ⟨xs, A', c', e0, hle, hi'⟩
    obtain ⟨fx, hfx⟩ := Go.Deep.choose_lt each
    refine ⟨some a, len, cap, (List.range len).map fx, rfl, hl, by simp, by simp only [maxLen] at hm; omega, fun h0 => ?_⟩
    obtain ⟨b, off, spot⟩ := a
    obtain ⟨A0, c0, hc0, -⟩ := hfx 0 h0
    have hspot : spot = none := by simpa [Addr.add] using World.cell?_spot hc0
    subst hspot
    refine ⟨b, off, rfl, ?_, fun j hj => ?_⟩
    · rcases Nat.lt_or_ge b W.heap.size with hb | hb
      · exact hb
      · simp [World.cell?, Addr.add, Array.getElem?_eq_none hb] at hc0
    · obtain ⟨A', c', e0, e1, e2⟩ := hfx j hj
      rw [Go.WideShapes.add_plain] at e0
      rw [List.getElem?_map, List.getElem?_range hj, Option.map_some, Option.getD_some]
      exact ⟨A', c', e0, e1, e2⟩

/-! ### THE ROW's STEP -/
set_option maxRecDepth 100000 in
theorem lifted (os : Os) (started : os.Started) (H : Type) (enc : TypeId × Value → H) :
    ReturnsInHanded {} Tryz.checked os 3 .any (Rows.poolPaysSpec.pre6 enc Tryz.prog Tryz.f3 Rows.poolPaysRow.domain false) (Rows.poolPaysSpec.post enc Tryz.prog Tryz.f3 false true false false) := by
  refine returnsInHanded_of_change (C := Tryz.checked) own started (by kernel_rfl) Tryz.func3
    (ChangeSpec.witness6 (enc := enc) (C := Tryz.checked) false ⟨#[], #[.agg #[.int .i64 0, .int .i64 0, .slice none 0 0, .slice none 0 0, .bool false, .int .i64 0, .int .i64 0, .int .i64 0], .slice none 0 0, .int .i64 0], []⟩ 8 (by kernel_rfl) (by kernel_rfl) (by kernel_rfl) (by kernel_rfl)) ?_
  intro W base args ds gs before hval0 hW hcnd _
  have hval : ∀ (j : Nat) t v, Tryz.f3.params[j]? = some t → args[j]? = some v → Value.okWide Tryz.prog W .any base t v := hval0
  have hW' := hW
  obtain ⟨p, q, hA0, hV, rfl, hfz, hnd⟩ := hW
  have hA : DataW.TrodAll enc Tryz.prog W 0 (fun _ => true) true Tryz.f3.params.toList args.toList ds p := hA0
  rw [Tryz.params3] at hA hval
  obtain ⟨v0, v1, v2, d0, d1, d2, p0, p1, p2, rfl, rfl, rfl, h0, h1, h2⟩ := trodAll_three hA
  obtain ⟨rfl, rfl⟩ := trodVars_none hV
  obtain ⟨cs0, rfl, -⟩ := okWide_struct Tryz.underlying25 (hval 0 25 v0 rfl rfl)
  obtain ⟨A1, n1, c1, rfl⟩ := okWide_slice Tryz.underlying26 (hval 1 26 v1 rfl rfl)
  obtain ⟨x2, rfl, rfl, rfl, wx2⟩ := open_int Tryz.underlying3 (hval 2 3 v2 rfl rfl) h2
  have h0k := h0
  have h1k := h1
  obtain ⟨f0, hf0⟩ := h0
  obtain ⟨f1, hf1⟩ := h1
  obtain ⟨b0, A0, n0, c0, B0, m0, d0, e0, i0⟩ := book_arg (cs := cs0) hf0
  subst e0
  obtain ⟨A1', n1', c1', x1, e1, l1, i1⟩ := finish_arg hf1
  cases e1
  clear hA0 hval0
  simp only [List.append_nil] at hW'
  have hlt0 : ∀ x ∈ p0, x.block < W.heap.size := fun x hx => by simpa using hW'.lt x (by simp [hx])
  have hlt1 : ∀ x ∈ p1, x.block < W.heap.size := fun x hx => by simpa using hW'.lt x (by simp [hx])
  refine (PoolPays_any W W.heap.size b0 A0 n0 c0 B0 m0 d0 A1 n1 c1 x1 x2 i0 i1 (Nat.le_refl _)).mono fun e W' ⟨he, hg⟩ => ?_
  subst he
  exact ⟨_, rfl, _, _, _, [], p0 ++ (p1 ++ []), [], hW', trodAll_cons_mk (shut_bool Tryz.underlying4 _) trodAll_mk0,
    trodAll_mk3 (Below.trod laidOut (by kernel_rfl) (of_decide_eq_true (by kernel_rfl)) h0k hg hlt0) (Below.trod laidOut (by kernel_rfl) (of_decide_eq_true (by kernel_rfl)) h1k hg hlt1) (shut_int Tryz.underlying3 wx2),
    rfl, hg.frame _, fun h => by cases h⟩

theorem over : Rows.poolPaysRow.holds Tryz.pinned (OpenSpec.ofChange Rows.poolPaysSpec) :=
  OpenClaim.holds_of_wide 3 Tryz.f3 rfl rfl rfl rfl rfl rfl rfl ⟨rfl, rfl, rfl, rfl, rfl⟩ rfl rfl rfl rfl rfl (by kernel_rfl) Tryz.func3 (by kernel_rfl)
    (of_decide_eq_true (by kernel_rfl)) (by unfold Func.isWrapper; first | (rw [if_pos (by decide +kernel)]; kernel_rfl) | (rw [if_neg (by decide +kernel)]; exact ⟨rfl, rfl⟩))
    (fun os started H enc _ => lifted os started H enc)

/-- The statement. -/
theorem proved : Rows.PoolPaysSaid :=
  over
#print axioms proved
end Go.Proofs.YtbahiemjaomdcaaGreat.poolPays
