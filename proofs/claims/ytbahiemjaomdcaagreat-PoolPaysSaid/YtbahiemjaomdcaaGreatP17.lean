/- Parts of a proof: WF YO ZF ZI ZJ. -/
import Derived.Test.YtbahiemjaomdcaaGreatP16

/- pool: two groups that come in together. -/
namespace Go.Proofs.YtbahiemjaomdcaaGreat
open Go.RowKit Go.Shelf

/-- The list without one place; the runners of two groups. -/
def outL (fs : List (List Int)) (q : Nat) : Nat → List (List Int)
  | 0 => []
  | n + 1 => outL fs q n ++ if n = q then [] else [fs[n]?.getD []]
def mrgL (F G : List Int) : Nat → List Int
  | 0 => []
  | n + 1 => mrgL F G n ++ if (n : Int) ∈ F ∨ (n : Int) ∈ G then [(n : Int)] else []
/-- The finish in which two groups come in together. -/
def togF (b : Bk) (fs : List (List Int)) (k : Nat) : List (List Int) := (outL fs (k + 1) fs.length).set k (mrgL (fs[k]?.getD []) (fs[k + 1]?.getD []) b.runners.toNat)
end Go.Proofs.YtbahiemjaomdcaaGreat

/- law of pool: groups that come in together, in the memory. -/
namespace Go.Proofs.YtbahiemjaomdcaaGreat
open Go.RowKit Go.Shelf

def vAt (vs : List Value) (j : Nat) : Value := vs[j]?.getD (.bool false)
def outV (vs : List Value) (q : Nat) : Nat → List Value
  | 0 => []
  | n + 1 => outV vs q n ++ if n = q then [] else [vAt vs n]
theorem ValsAt.at {w : World} {B : Nat} {fs : List (List Int)} {vs : List Value} (h : ValsAt w B fs vs) {j : Nat} (hj : j < fs.length) : ∃ A c, vAt vs j = .slice A (fs[j]?.getD []).length c ∧ (fs[j]?.getD []).length ≤ c ∧ IntsAt w B A (fs[j]?.getD []).length (fs[j]?.getD []) := by
  obtain ⟨A, c, h1, h2, h3⟩ := h.2 j hj
  exact ⟨A, c, by unfold vAt; rw [h1]; rfl, h2, h3⟩
theorem ValsAt.one {w : World} {B : Nat} {fs : List (List Int)} {vs : List Value} (h : ValsAt w B fs vs) {j : Nat} (hj : j < fs.length) : ([vAt vs j].all fun u => oneCell u) = true := by
  obtain ⟨A, c, h1, -⟩ := h.at hj
  rw [h1]
  rfl
theorem row_blk {T : TypeId} {k n c : Nat} {A : Option Addr} {vs : List Value} {ob : List KB} (hr : RowV T k (.slice A n c) n vs ob) (hn : 0 < n) : ∃ g cur, A = some ⟨g, 0, none⟩ ∧ ob = [⟨g, .cells cur T (0, 0)⟩] := by
  rcases hr.2 with ⟨-, h9, -⟩ | ⟨g, cap, cur, e1, e2, -⟩
  · omega
  · cases e1
    exact ⟨g, cur, rfl, e2⟩
def stF (ps : List (Int × Int)) (s : Int × Int) (j : Nat) : Bool := (ps.take j).any fun x => decide (x = s)
end Go.Proofs.YtbahiemjaomdcaaGreat

/- quinellaref03: DividendsOf, Dividends, AccountOf, Account, Pay. -/
namespace Go.Proofs.YtbahiemjaomdcaaGreat
open Go.RowKit Go.Shelf

theorem FinAt.more {w : World} {B C : Nat} {A : Option Addr} {n : Nat} {fs : List (List Int)} (h : FinAt w B A n fs) (hBC : B ≤ C) : FinAt w C A n fs := ⟨h.1, h.2.1, fun h0 => by
  obtain ⟨b, off, e, hb, hc⟩ := h.2.2 h0
  exact ⟨b, off, e, Nat.lt_of_lt_of_le hb hBC, fun j hj => let ⟨A', c', h1, h2, h3⟩ := hc j hj; ⟨A', c', h1, h2, h3.more hBC⟩⟩⟩
def dvP (b : Bk) (fs : List (List Int)) (i : Nat) : List ((Int × Int) × Int) := (bkN' b fs i).map fun s => (s, dvF (tilF b) fs s)
theorem dvP_len (b : Bk) (fs : List (List Int)) (i : Nat) : (dvP b fs i).length = (bkN' b fs i).length := by unfold dvP; rw [List.length_map]
theorem dvP_all {b : Bk} {fs : List (List Int)} {i : Nat} (h : (winF b fs).length ≤ i) : dvP b fs i = dvL b fs := by unfold dvP dvL; rw [bkN_all h]
theorem encD_app (xs ys : List ((Int × Int) × Int)) : encD (xs ++ ys) = encD xs ++ encD ys := by unfold encD; exact List.flatMap_append
theorem At.baseR {w0 w1 w : World} {kn rows : List KB} {sz : Nat} (h : At w1 w kn rows sz) (hb : Below w0.heap.size w0 w1) : At w0 w [] rows sz :=
  ⟨by simp, h.rok, by simp, fun kb hk => Nat.le_trans hb.size (h.rlow kb hk), by
    have := h.nd
    rw [List.map_append, List.nodup_append] at this
    rw [List.append_nil]
    exact this.1, h.size, hb.trans (h.below.mono hb.size)⟩
theorem shR_in {b : Bk} {fs : List (List Int)} {s : Int × Int} (hs : s ∈ bkd (tilF b) fs) : shR b fs = shF (tilF b) fs := if_neg fun e => by rw [e] at hs; cases hs
theorem quo_few {x y : Int} (hx : 0 ≤ x ∧ x ≤ 20000000) (hy : 0 < y) : (0 ≤ x.tdiv y ∧ x.tdiv y ≤ 20000000) ∧ x.tdiv y = x / y := by
  have e := Int.tdiv_eq_ediv_of_nonneg (b := y) hx.1
  have h1 := Int.ediv_nonneg hx.1 (Int.le_of_lt hy)
  have h2 := Int.ediv_le_self y hx.1
  rw [e]
  exact ⟨⟨h1, by omega⟩, rfl⟩
theorem dv_steps {b : Bk} {fs : List (List Int)} (V : ValidB b) {s : Int × Int} (hs : s ∈ bkd (tilF b) fs) : ((shF (tilF b) fs).tdiv (uL (tilF b) b.bets s)).tdiv b.stp * b.stp = dvF (tilF b) fs s ∧ (0 ≤ (shF (tilF b) fs).tdiv (uL (tilF b) b.bets s) ∧ (shF (tilF b) fs).tdiv (uL (tilF b) b.bets s) ≤ 20000000) ∧ (0 ≤ ((shF (tilF b) fs).tdiv (uL (tilF b) b.bets s)).tdiv b.stp ∧ ((shF (tilF b) fs).tdiv (uL (tilF b) b.bets s)).tdiv b.stp ≤ 20000000) := by
  obtain ⟨h1, h2, h3, h4, h5⟩ := dv_facts V hs
  have hst := V.stp
  have hsf := sh_few V fs
  have q1 := quo_few hsf h1
  have q2 := quo_few q1.1 (show 0 < b.stp by omega)
  refine ⟨?_, q1.1, q2.1⟩
  rw [q2.2, q1.2, h5, Int.ediv_ediv, if_neg (fun h => by have := h.1; omega), Int.sub_zero]
set_option maxHeartbeats 2000000 in
set_option maxRecDepth 20000 in
theorem rDivOf_any (w : World) (B : Nat) (b : Bk) (A : Option Addr) (n c : Nat) (A2 : Option Addr) (m c2 : Nat) (A3 : Option Addr) (nf cf : Nat) (fs : List (List Int)) (h : BkAt w B b A n c A2 m c2) (hf : FinAt w B A3 nf fs) (hB : B ≤ w.heap.size) (V : ValidB b) (hfin : isFinF b fs = true) : Calls Tryz.prog 39 #[bkV b A n c A2 m c2, .slice A3 nf cf] w fun e w' => ∃ A9 c9, e = .returned (.slice A9 (dvL b fs).length c9) ∧ Below w.heap.size w w' ∧ w'.ownsRow w.heap.size 59 3 (.slice A9 (dvL b fs).length c9) (dvL b fs).length (encD (dvL b fs)) := by
  have hwf := (fin_ok V hfin).ws
  have hvs := V.stp
  have hsf := sh_few V fs
  have hq9 : ∃ WN, WN = (winF b fs).length := ⟨_, rfl⟩
  obtain ⟨WN, hWN⟩ := hq9
  refine enter 54 Tryz.func39 (by kernel_rfl) fun hA => ?_
  refine runS hA 15 (List.replicate 8 (.k 0)) xn on (by kernel_rfl) fun w1 hA => ?_
  have hApw := hA.atK [⟨w.heap.size, .cells #[.int .i64 b.kind, .int .i64 b.runners, .slice A n c, .slice A2 m c2, .bool b.fav, .int .i64 b.car, .int .i64 b.dut, .int .i64 b.stp] 25 (0, 0)⟩] (by kernel_rfl)
  refine call hA [] on (winnersOfS_any w1 B b A n c A2 m c2 A3 nf cf fs WN (hf.below hA.below hB) (Nat.le_trans hB hA.size) V hfin hWN.symm) (by kernel_rfl) (by rintro e v ⟨Aw, cw, rfl, hbw, how⟩; exact hbw) ?_
  rintro e w2 ⟨Aw, cw, rfl, hbw, how⟩
  refine ⟨_, rfl, fun hA => ?_⟩
  have hq9 := At.own hApw hbw how
  obtain ⟨ob8w, hrw, hA2w⟩ := hq9
  have hRw := row_at hrw (by omega) _ (fun kb hk => hA2w.rok kb (List.mem_append_left _ hk))
  refine reknow ⟨[⟨w.heap.size, .cells #[.int .i64 b.kind, .int .i64 b.runners, .slice A n c, .slice A2 m c2, .bool b.fav, .int .i64 b.car, .int .i64 b.dut, .int .i64 b.stp] 25 (0, 0)⟩], w2.heap.size, [], [], [], [], []⟩ hA2w (Nat.zero_le _) fun hA => ?_
  have hx1 : BkAt w2 w2.heap.size b A n c A2 m c2 := (h.below hA.below hB).more (Nat.le_trans hB hA.size)
  have hf1 : FinAt w2 w2.heap.size A3 nf fs := (hf.below hA.below hB).more (Nat.le_trans hB hA.size)
  have hK0 := hA.atK [⟨w.heap.size, .cells #[.int .i64 b.kind, .int .i64 b.runners, .slice A n c, .slice A2 m c2, .bool b.fav, .int .i64 b.car, .int .i64 b.dut, .int .i64 b.stp] 25 (0, 0)⟩] (by kernel_rfl)
  have hobb := hK0.ok ⟨w.heap.size, .cells #[.int .i64 b.kind, .int .i64 b.runners, .slice A n c, .slice A2 m c2, .bool b.fav, .int .i64 b.car, .int .i64 b.dut, .int .i64 b.stp] 25 (0, 0)⟩ (List.mem_of_getElem? (i := 0) (by kernel_rfl))
  have hcb0 := cell_lt (cell_of_obj (a := ⟨w.heap.size, 0, none⟩) hobb rfl rfl)
  have hcb1 := cell_lt (cell_of_obj (a := ⟨w.heap.size, 1, none⟩) hobb rfl rfl)
  have hcb2 := cell_lt (cell_of_obj (a := ⟨w.heap.size, 2, none⟩) hobb rfl rfl)
  have hcb3 := cell_lt (cell_of_obj (a := ⟨w.heap.size, 3, none⟩) hobb rfl rfl)
  have hcb4 := cell_lt (cell_of_obj (a := ⟨w.heap.size, 4, none⟩) hobb rfl rfl)
  have hcb5 := cell_lt (cell_of_obj (a := ⟨w.heap.size, 5, none⟩) hobb rfl rfl)
  have hcb6 := cell_lt (cell_of_obj (a := ⟨w.heap.size, 6, none⟩) hobb rfl rfl)
  have hcb7 := cell_lt (cell_of_obj (a := ⟨w.heap.size, 7, none⟩) hobb rfl rfl)
  have hWb := hA.below
  have hWs := hA.size
  refine rebase hA w2 (by kernel_rfl) (At.start _) fun hA => ?_
  refine runS hA 7 [.x (.int .i64 b.kind), .x (.int .i64 b.runners), .x (.slice A n c), .x (.slice A2 m c2), .x (.bool b.fav), .x (.int .i64 b.car), .x (.int .i64 b.dut), .x (.int .i64 b.stp)] (xc (a := ⟨w.heap.size, 0, none⟩) hcb0 (xc (a := ⟨w.heap.size, 1, none⟩) hcb1 (xc (a := ⟨w.heap.size, 2, none⟩) hcb2 (xc (a := ⟨w.heap.size, 3, none⟩) hcb3 (xc (a := ⟨w.heap.size, 4, none⟩) hcb4 (xc (a := ⟨w.heap.size, 5, none⟩) hcb5 (xc (a := ⟨w.heap.size, 6, none⟩) hcb6 (xc (a := ⟨w.heap.size, 7, none⟩) hcb7 xn)))))))) on (by kernel_rfl) fun w3 hA => ?_
  refine callB hA [] on (rShare_any w3 w2.heap.size b A n c A2 m c2 A3 nf cf fs (hx1.below hA.below (Nat.le_refl _)) (hf1.below hA.below (Nat.le_refl _)) hA.size V hfin) (by kernel_rfl) fun w4 hb4 hA => ?_
  refine runS hA 10 [] xn on (by kernel_rfl) fun w5 hA => ?_
  have hr0 : RowV 59 3 (.slice none (dvP b fs 0).length 0) (dvP b fs 0).length (encD (dvP b fs 0)) [] := RowV.nil _ _
  refine loop (γ := Nat × Option Addr × Nat × List KB) (fun ⟨i, Av, cv, ov⟩ => [(2, .pointer (some ⟨w.heap.size, 0, none⟩)), (4, .slice none 0 0), (5, .slice Av ((dvP b fs i).length) cv), (6, .slice Aw WN cw), (7, .int .i64 (shR b fs)), (8, .int .i64 (i : Int))]) (fun ⟨i, Av, cv, ov⟩ => []) (fun ⟨i, Av, cv, ov⟩ => ov ++ ([])) (fun g ⟨i, Av, cv, ov⟩ wr => (i ≤ WN ∧ g = WN - i) ∧ RowV 59 3 (.slice Av (dvP b fs i).length cv) (dvP b fs i).length (encD (dvP b fs i)) ov) WN ⟨0, none, 0, []⟩ [] hA (by kernel_rfl) (⟨⟨Nat.zero_le _, rfl⟩, hr0⟩) ?_
  rintro _ ⟨i, Av, cv, ov⟩ wr ⟨⟨hi, rfl⟩, hrq⟩ J hJ hA
  have hbn := bkN_le b fs i
  have hdn := dvP_len b fs i
  by_cases hlt : i < WN
  case neg =>
    refine runS hA 12 [.b false] xn (oc (dec_f (show ¬ (((i : Int) : Int) < (WN : Int)) by omega)) on) (by kernel_rfl) fun w6 hA => ?_
    refine leave hA (by kernel_rfl) fun hA => ?_
    refine runS hA 9 [] xn on (by kernel_rfl) fun w7 hA => ?_
    have hdl : (dvP b fs i) = dvL b fs := dvP_all (by omega)
    have hBk : At w w7 [] (ov ++ []) w7.heap.size := ((hA.atK [] (by kernel_rfl)).resize.baseR hWb)
    refine back hA (kn' := []) (by kernel_rfl) hBk fun hA => ?_
    have hrf : RowV 59 3 (.slice Av (dvP b fs i).length cv) (dvL b fs).length (encD (dvL b fs)) ov := by rw [← hdl]; exact hrq
    have hAf := hA.atK [] (by kernel_rfl)
    exact ret (v := .slice Av ((dvP b fs i).length) cv) hA [] (by kernel_rfl) ⟨Av, cv, by rw [hdl], hA.below, by have h9 := hrf.own hAf; rw [hdl] at h9; exact h9⟩
  case pos =>
    have hst := bkN_step (b := b) (fs := fs) (i := i) (by omega)
    have hub := uL_bound (tilF b) ((winF b fs)[i]?.getD (0, 0)) b.bets (units_ok V)
    have hq9 := hRw.2.2 (by omega)
    obtain ⟨bw, ow, rfl, hbw1, hcw⟩ := hq9
    have hq9 := encW_get (winF b fs) i (by omega)
    obtain ⟨ge0, ge1⟩ := hq9
    have e0 : bw < w2.heap.size ∧ w2.cell? ⟨bw, ow + i * 2, none⟩ = some (.int .i64 ((winF b fs)[i]?.getD (0, 0)).1) := ⟨hbw1, by have := hcw _ _ ge0; exact this⟩
    have e1 : bw < w2.heap.size ∧ w2.cell? ⟨bw, ow + i * 2 + 1, none⟩ = some (.int .i64 ((winF b fs)[i]?.getD (0, 0)).2) := ⟨hbw1, by have := hcw _ _ ge1; exact this⟩
    refine runS hA 15 [.b true] xn (oc (dec_t (show (((i : Int) : Int) < (WN : Int)) by omega)) on) (by kernel_rfl) fun w6 hA => ?_
    refine draw hA [] [0, 1, 2, 3, 4, 5, 6] (by kernel_rfl) (by kernel_rfl) fun hA => ?_
    refine runS hA 5 [.t 0, .x (.int .i64 b.kind), .x (.int .i64 b.runners), .x (.slice A n c), .x (.slice A2 m c2), .x (.bool b.fav), .x (.int .i64 b.car), .x (.int .i64 b.dut), .x (.int .i64 b.stp), .t 1, .t 2, .t 3, .i, .t 4, .x (.int .i64 (((winF b fs)[i]?.getD (0, 0)).1)), .x (.int .i64 (((winF b fs)[i]?.getD (0, 0)).2))] (xc (a := ⟨w.heap.size, 0, none⟩) hcb0 (xc (a := ⟨w.heap.size, 1, none⟩) hcb1 (xc (a := ⟨w.heap.size, 2, none⟩) hcb2 (xc (a := ⟨w.heap.size, 3, none⟩) hcb3 (xc (a := ⟨w.heap.size, 4, none⟩) hcb4 (xc (a := ⟨w.heap.size, 5, none⟩) hcb5 (xc (a := ⟨w.heap.size, 6, none⟩) hcb6 (xc (a := ⟨w.heap.size, 7, none⟩) hcb7 (xc (a := ⟨bw, ow + i * 2, none⟩) e0 (xc (a := ⟨bw, ow + i * 2 + 1, none⟩) e1 xn)))))))))) (oc (show (0 : Int) ≤ ((i : Int) : Int) ∧ ((i : Int) : Int) < (WN : Int) by omega) on) (by kernel_rfl) fun w7 hA => ?_
    refine callB hA [] on (rUnits_any w7 w2.heap.size b A n c A2 m c2 ((winF b fs)[i]?.getD (0, 0)) (hx1.below hA.below (Nat.le_refl _)) hA.size V) (by kernel_rfl) fun w8 hb8 hA => ?_
    refine runS hA 7 [.t 6, .b true] xn on (by kernel_rfl) fun w9 hA => ?_
    by_cases hu : (uL (tilF b) b.bets ((winF b fs)[i]?.getD (0, 0))) > 0
    case neg =>
      refine revals hA (rc 29 (dec_f hu) rn) (by kernel_rfl) fun hA => ?_
      refine runS hA 11 [] xn on (by kernel_rfl) fun w10 hA => ?_
      rw [if_neg (by omega), List.append_nil] at hst
      have hsd : (dvP b fs (i + 1)) = (dvP b fs i) := by unfold dvP; rw [hst]
      refine revals hA (rc 5 (show .slice Av ((dvP b fs i).length) cv = .slice Av ((dvP b fs (i + 1)).length) cv by rw [hsd]) (rc 8 (wr64 (x := (i : Int) + 1) (y := ((i + 1 : Nat) : Int)) (by omega) (by omega)) rn)) (by kernel_rfl) fun hA => ?_
      exact again hJ (WN - (i + 1)) (⟨i + 1, Av, cv, ov⟩) [] hA (by omega) (by kernel_rfl) (⟨⟨by omega, rfl⟩, by rw [hsd]; exact hrq⟩)
    case pos =>
      refine revals hA (rc 29 (dec_t hu) rn) (by kernel_rfl) fun hA => ?_
      refine runS hA 3 [] xn on (by kernel_rfl) fun w10 hA => ?_
      rw [if_pos (by omega)] at hst
      have hmem : ((winF b fs)[i]?.getD (0, 0)) ∈ bkd (tilF b) fs := bkd_mem.2 ⟨get_mem (show i < (winF b fs).length by omega), by show (uL (tilF b) b.bets ((winF b fs)[i]?.getD (0, 0))) ≠ 0; omega⟩
      have hds := dv_steps V hmem
      have hda := dv_all V hmem
      have hsd : (dvP b fs (i + 1)) = (dvP b fs i) ++ [(((winF b fs)[i]?.getD (0, 0)), (dvF (tilF b) fs ((winF b fs)[i]?.getD (0, 0))))] := by unfold dvP; rw [hst, List.map_append]; rfl
      refine draw hA [] [0, 1, 2, 3, 4, 5, 6, 7, 8, 9, 10, 11, 12, 13, 14, 15, 16, 17, 18, 19, 20, 21] (by kernel_rfl) (by kernel_rfl) fun hA => ?_
      refine runS hA 12 [.t 0, .t 1, .t 2, .t 3, .i, .t 4, .t 5, .x (.int .i64 (((winF b fs)[i]?.getD (0, 0)).1)), .t 6, .t 7, .t 8, .i, .t 9, .t 10, .x (.int .i64 (((winF b fs)[i]?.getD (0, 0)).2)), .t 11] (xc (a := ⟨bw, ow + i * 2, none⟩) e0 (xc (a := ⟨bw, ow + i * 2 + 1, none⟩) e1 xn)) (oc (show (0 : Int) ≤ ((i : Int) : Int) ∧ ((i : Int) : Int) < (WN : Int) by omega) (oc (show (0 : Int) ≤ ((i : Int) : Int) ∧ ((i : Int) : Int) < (WN : Int) by omega) on)) (by kernel_rfl) fun w11 hA => ?_
      refine revals hA (rc 41 (show .int .i64 (shR b fs) = .int .i64 (shF (tilF b) fs) by rw [shR_in hmem]) rn) (by kernel_rfl) fun hA => ?_
      refine runS hA 2 [.t 12, .t 13, .z] xn (oc (show (uL (tilF b) b.bets ((winF b fs)[i]?.getD (0, 0))) ≠ (0 : Int) by omega) on) (by kernel_rfl) fun w12 hA => ?_
      refine revals hA (rc 43 (show .int .i64 (IntKind.i64.wrap ((shF (tilF b) fs).tdiv (uL (tilF b) b.bets ((winF b fs)[i]?.getD (0, 0))))) = .int .i64 ((shF (tilF b) fs).tdiv (uL (tilF b) b.bets ((winF b fs)[i]?.getD (0, 0)))) by rw [IntKind.wrap_i64]; congr 1; omega) rn) (by kernel_rfl) fun hA => ?_
      refine runS hA 3 [.t 14, .t 15, .x (.int .i64 b.stp), .t 16, .z] (xc (a := ⟨w.heap.size, 7, none⟩) hcb7 xn) (oc (show b.stp ≠ (0 : Int) by omega) on) (by kernel_rfl) fun w13 hA => ?_
      refine revals hA (rc 46 (show .int .i64 (IntKind.i64.wrap (((shF (tilF b) fs).tdiv (uL (tilF b) b.bets ((winF b fs)[i]?.getD (0, 0)))).tdiv b.stp)) = .int .i64 (((shF (tilF b) fs).tdiv (uL (tilF b) b.bets ((winF b fs)[i]?.getD (0, 0)))).tdiv b.stp) by rw [IntKind.wrap_i64]; congr 1; omega) rn) (by kernel_rfl) fun hA => ?_
      refine runS hA 3 [.t 17, .t 18, .x (.int .i64 b.stp), .t 19] (xc (a := ⟨w.heap.size, 7, none⟩) hcb7 xn) on (by kernel_rfl) fun w14 hA => ?_
      refine revals hA (rc 49 (show .int .i64 (IntKind.i64.wrap ((((shF (tilF b) fs).tdiv (uL (tilF b) b.bets ((winF b fs)[i]?.getD (0, 0)))).tdiv b.stp) * b.stp)) = .int .i64 (dvF (tilF b) fs ((winF b fs)[i]?.getD (0, 0))) by rw [hds.1, IntKind.wrap_i64]; congr 1; omega) rn) (by kernel_rfl) fun hA => ?_
      refine runS hA 3 [.t 20, .h 21, .b false] xn on (by kernel_rfl) fun w15 hA => ?_
      have hob := hA.at_.ok ⟨w8.heap.size, .cells #[.int .i64 (((winF b fs)[i]?.getD (0, 0)).1), .int .i64 (((winF b fs)[i]?.getD (0, 0)).2), .int .i64 (dvF (tilF b) fs ((winF b fs)[i]?.getD (0, 0)))] 59 (0, 0)⟩ (List.mem_of_getElem? (i := 0) (by kernel_rfl))
      have hy0 := cell_of_obj (a := ⟨w8.heap.size, 0, none⟩) hob rfl rfl
      have hy1 := cell_of_obj (a := ⟨w8.heap.size, 1, none⟩) hob rfl rfl
      have hy2 := cell_of_obj (a := ⟨w8.heap.size, 2, none⟩) hob rfl rfl
      refine appES (t := 30) (e := 59) (ty := 30) (z := .agg #[.int .i64 0, .int .i64 0, .int .i64 0]) (size := 3) (bytes := 24) (v := .slice Av (dvP b fs i).length cv) (n := (dvP b fs i).length) (m := 1) (cp := 1) (A := some ⟨w8.heap.size, 0, none⟩) (encD [(((winF b fs)[i]?.getD (0, 0)), (dvF (tilF b) fs ((winF b fs)[i]?.getD (0, 0))))]) hA hrq (by kernel_rfl) rfl (fun _ => ⟨_, rfl, fun p u hu => by match p, hu with | 0, hu => cases hu; exact hy0 | 1, hu => cases hu; exact hy1 | 2, hu => cases hu; exact hy2⟩) rfl (by omega) (by omega) (by omega) fun g2 c2' w16 ob2q hr2q hA => ?_
      have hle : (dvP b fs (i + 1)).length = (dvP b fs i).length + 1 := by rw [hsd, List.length_append]; rfl
      refine runS hA 9 [] xn on (by kernel_rfl) fun w17 hA => ?_
      have hrk2 : RowV 59 3 (.slice (some ⟨g2, 0, none⟩) (dvP b fs (i + 1)).length c2') (dvP b fs (i + 1)).length (encD (dvP b fs (i + 1))) ob2q := by rw [hle, hsd, encD_app]; exact hr2q
      refine revals hA (rc 5 (show .slice (some ⟨g2, 0, none⟩) ((dvP b fs i).length + 1) c2' = .slice (some ⟨g2, 0, none⟩) ((dvP b fs (i + 1)).length) c2' by rw [hle]) (rc 8 (wr64 (x := (i : Int) + 1) (y := ((i + 1 : Nat) : Int)) (by omega) (by omega)) rn)) (by kernel_rfl) fun hA => ?_
      exact again hJ (WN - (i + 1)) (⟨i + 1, some ⟨g2, 0, none⟩, c2', ob2q⟩) [false] hA (by omega) (by kernel_rfl) (⟨⟨by omega, rfl⟩, hrk2⟩)
end Go.Proofs.YtbahiemjaomdcaaGreat

/- quinellaref03: Dividends, AccountOf, Account, Pay. -/
namespace Go.Proofs.YtbahiemjaomdcaaGreat
open Go.RowKit Go.Shelf

theorem at_both {b : Bk} {fs : List (List Int)} (h : atF b fs = 0) : bookF b = 0 ∧ isFinF b fs = true := by
  unfold atF at h
  split at h
  · rename_i h1
    split at h
    · rename_i h2; exact ⟨h1, h2⟩
    · cases h
  · rename_i h1; exact absurd h h1
theorem dvA_bad {b : Bk} {fs : List (List Int)} (h : atF b fs ≠ 0) : dvE b fs = atF b fs ∧ dvA b fs = [] := by
  have e : dvE b fs = atF b fs := if_neg h
  exact ⟨e, if_neg (by rw [e]; exact h)⟩
theorem nil_row (w : World) (B : Nat) : w.ownsRow B 59 3 (.slice none 0 0) 0 (encD []) := ⟨rfl, .inl ⟨rfl, rfl⟩⟩
/-- The cells of a row of dividends. -/
theorem div_cells {g n c : Nat} {ds : List ((Int × Int) × Int)} {cur : Array Value} (hr : RowV 59 3 (.slice (some ⟨g, 0, none⟩) n c) n (encD ds) [⟨g, .cells cur 59 (0, 0)⟩]) {i : Nat} (hi : i < n) (hl : ds.length = n) : cur[0 + i * 3]? = some (.int .i64 (ds[i]?.getD ((0, 0), 0)).1.1) ∧ cur[0 + i * 3 + 1]? = some (.int .i64 (ds[i]?.getD ((0, 0), 0)).1.2) ∧ cur[0 + i * 3 + 2]? = some (.int .i64 (ds[i]?.getD ((0, 0), 0)).2) := by
  obtain ⟨h1, h2, h3⟩ := encD_get ds i (by omega)
  rcases hr.2 with ⟨h9, -, -⟩ | ⟨g', cap, cur', e1, e2, h4, h5, h6, h7⟩
  · cases h9
  · cases e1
    cases e2
    have get : ∀ q, q < n * 3 → cur[q]? = (encD ds)[q]? := fun q hq => by rw [← h7, List.getElem?_take_of_lt hq, Array.getElem?_toList]
    rw [Nat.zero_add]
    exact ⟨(get _ (by omega)).trans h1, (get _ (by omega)).trans h2, (get _ (by omega)).trans h3⟩
def pdM (b : Bk) (fs : List (List Int)) (i : Nat) : Int := (((dvL b fs).take i).map fun d => d.2 * uL (tilF b) b.bets d.1).sum
theorem pdM_step {b : Bk} {fs : List (List Int)} {i : Nat} (h : i < (dvL b fs).length) : pdM b fs (i + 1) = pdM b fs i + ((dvL b fs)[i]?.getD ((0, 0), 0)).2 * uL (tilF b) b.bets ((dvL b fs)[i]?.getD ((0, 0), 0)).1 := by
  unfold pdM
  rw [take_snoc (d := ((0, 0), 0)) h, List.map_append, List.sum_append]
  simp
theorem pdM_all {b : Bk} {fs : List (List Int)} {i : Nat} (h : (dvL b fs).length ≤ i) : pdM b fs i = pdF (tilF b) fs := by
  unfold pdM pdF
  rw [List.take_of_length_le h]
  unfold dvL
  rw [List.map_map]
  rfl
set_option maxRecDepth 20000 in
theorem rDividends_any (w : World) (B : Nat) (b : Bk) (A : Option Addr) (n c : Nat) (A2 : Option Addr) (m c2 : Nat) (A3 : Option Addr) (nf cf : Nat) (fs : List (List Int)) (h : BkAt w B b A n c A2 m c2) (hf : FinAt w B A3 nf fs) (hB : B ≤ w.heap.size) : Calls Tryz.prog 10 #[bkV b A n c A2 m c2, .slice A3 nf cf] w fun e w' => ∃ A9 c9, e = .returned (.tuple #[.slice A9 (dvA b fs).length c9, .int .i64 (dvE b fs)]) ∧ Below w.heap.size w w' ∧ w'.ownsRow w.heap.size 59 3 (.slice A9 (dvA b fs).length c9) (dvA b fs).length (encD (dvA b fs)) := by
  refine enter 21 Tryz.func10 (by kernel_rfl) fun hA => ?_
  refine runS hA 12 (List.replicate 8 (.k 0)) xn on (by kernel_rfl) fun w1 hA => ?_
  refine callB hA [] on (rCheckFinish_any w1 B b A n c A2 m c2 A3 nf cf fs (h.below hA.below hB) (hf.below hA.below hB) (Nat.le_trans hB hA.size)) (by kernel_rfl) fun w2 hb2 hA => ?_
  by_cases h0 : atF b fs = 0
  case neg =>
    have hbad := dvA_bad h0
    refine runS hA 8 ([.b true] ++ List.replicate 8 (.k 0)) xn (oc (ne_t h0) on) (by kernel_rfl) fun w3 hA => ?_
    refine callB hA [] on (rCheckFinish_any w3 B b A n c A2 m c2 A3 nf cf fs (h.below hA.below hB) (hf.below hA.below hB) (Nat.le_trans hB hA.size)) (by kernel_rfl) fun w4 hb4 hA => ?_
    refine runS hA 6 [] xn on (by kernel_rfl) fun w5 hA => ?_
    exact ret (v := .tuple #[.slice none 0 0, .int .i64 (atF b fs)]) hA [] (by kernel_rfl) ⟨none, 0, by rw [hbad.1, hbad.2]; rfl, hA.below, by rw [hbad.2]; exact nil_row _ _⟩
  case pos =>
    have hq9 := at_both h0
    obtain ⟨hk0, hfin⟩ := hq9
    have V := valid_of hk0
    have hq9 : ∃ LN, LN = (dvL b fs).length := ⟨_, rfl⟩
    obtain ⟨LN, hLN⟩ := hq9
    have hL9 : LN ≤ 1000 := by rw [hLN]; exact dvL_len2 hk0 hfin
    have hLb : LN = (bkd (tilF b) fs).length := by rw [hLN, dvL_len]
    have hda := dvA_eq hk0 hfin
    refine runS hA 10 ([.b false] ++ List.replicate 8 (.k 0)) xn (oc (ne_f h0) on) (by kernel_rfl) fun w3 hA => ?_
    have hApl := hA.atK [⟨w.heap.size, .cells #[.int .i64 b.kind, .int .i64 b.runners, .slice A n c, .slice A2 m c2, .bool b.fav, .int .i64 b.car, .int .i64 b.dut, .int .i64 b.stp] 25 (0, 0)⟩] (by kernel_rfl)
    have hP := rDivOf_any w3 B b A n c A2 m c2 A3 nf cf fs (h.below hA.below hB) (hf.below hA.below hB) (Nat.le_trans hB hA.size) V hfin
    rw [← hLN] at hP
    refine call hA [] on (hP) (by kernel_rfl) (by rintro e v ⟨Al, cl, rfl, hbl, hol⟩; exact hbl) ?_
    rintro e w4 ⟨Al, cl, rfl, hbl, hol⟩
    refine ⟨_, rfl, fun hA => ?_⟩
    have hq9 := At.own hApl hbl hol
    obtain ⟨ob8l, hrl, hA2l⟩ := hq9
    refine reknow ⟨[⟨w.heap.size, .cells #[.int .i64 b.kind, .int .i64 b.runners, .slice A n c, .slice A2 m c2, .bool b.fav, .int .i64 b.car, .int .i64 b.dut, .int .i64 b.stp] 25 (0, 0)⟩], w4.heap.size, [], [], [], [], []⟩ hA2l (Nat.zero_le _) fun hA => ?_
    refine runS hA 9 [] xn on (by kernel_rfl) fun w5 hA => ?_
    by_cases hb : bkd (tilF b) fs = []
    case pos =>
      have hl0 : LN = 0 := by rw [hLb, hb]; rfl
      have hd0 : dvL b fs = [] := List.length_eq_zero_iff.1 (by omega)
      refine revals hA (rc 19 (eq_t (a := (LN : Int)) (b := 0) (by omega)) rn) (by kernel_rfl) fun hA => ?_
      refine runS hA 11 [] xn on (by kernel_rfl) fun w6 hA => ?_
      exact ret (v := .tuple #[.slice none 0 0, .int .i64 19]) hA [] (by kernel_rfl) ⟨none, 0, by rw [hda.1, hda.2, if_pos hb, hd0]; rfl, hA.below, by rw [hda.1, hd0]; exact nil_row _ _⟩
    case neg =>
      have hl0 : 0 < LN := by rw [hLb]; exact List.length_pos_iff.2 hb
      refine revals hA (rc 19 (eq_f (a := (LN : Int)) (b := 0) (by omega)) rn) (by kernel_rfl) fun hA => ?_
      refine runS hA 13 [] xn on (by kernel_rfl) fun w6 hA => ?_
      have hAf := hA.atK [⟨w.heap.size, .cells #[.int .i64 b.kind, .int .i64 b.runners, .slice A n c, .slice A2 m c2, .bool b.fav, .int .i64 b.car, .int .i64 b.dut, .int .i64 b.stp] 25 (0, 0)⟩] (by kernel_rfl)
      exact ret (v := .tuple #[.slice Al LN cl, .int .i64 0]) hA [] (by kernel_rfl) ⟨Al, cl, by rw [hda.1, hda.2, if_neg hb, ← hLN], hA.below, by have h9 := hrl.own hAf; rw [hda.1, ← hLN]; exact h9⟩
set_option maxHeartbeats 1000000 in
set_option maxRecDepth 20000 in
theorem rAccountOf_any (w : World) (B : Nat) (b : Bk) (A : Option Addr) (n c : Nat) (A2 : Option Addr) (m c2 : Nat) (A3 : Option Addr) (nf cf : Nat) (fs : List (List Int)) (h : BkAt w B b A n c A2 m c2) (hf : FinAt w B A3 nf fs) (hB : B ≤ w.heap.size) (hk : bookF b = 0) (hfi : isFinF b fs = true) : Calls Tryz.prog 41 #[bkV b A n c A2 m c2, .slice A3 nf cf] w fun e w' => e = .returned (.agg (accC (AccountF b fs))) ∧ Below w.heap.size w w' := by
  have h0 : atF b fs = 0 := by unfold atF; rw [if_pos hk, if_pos hfi]
  have hq9 := at_both h0
  obtain ⟨hk0, hfin⟩ := hq9
  have V := valid_of hk0
  have hq9 : ∃ LN, LN = (dvL b fs).length := ⟨_, rfl⟩
  obtain ⟨LN, hLN⟩ := hq9
  have hL9 : LN ≤ 1000 := by rw [hLN]; exact dvL_len2 hk0 hfin
  have hLb : LN = (bkd (tilF b) fs).length := by rw [hLN, dvL_len]
  have hnf := net_facts V
  have hpf := pd_facts (fs := fs) V
  have hac := acc_eq hk0 hfin
  refine enter 54 Tryz.func41 (by kernel_rfl) fun hA => ?_
  refine runS hA 9 (List.replicate 8 (.k 0)) xn on (by kernel_rfl) fun w1 hA => ?_
  refine callB hA [] on (rNet_any w1 B b A n c A2 m c2 (h.below hA.below hB) (Nat.le_trans hB hA.size) V) (by kernel_rfl) fun w2 hb2 hA => ?_
  refine runS hA 8 (List.replicate 6 (.k 2) ++ List.replicate 8 (.k 0)) xn on (by kernel_rfl) fun w3 hA => ?_
  have hApl := hA.atK [⟨w.heap.size, .cells #[.int .i64 b.kind, .int .i64 b.runners, .slice A n c, .slice A2 m c2, .bool b.fav, .int .i64 b.car, .int .i64 b.dut, .int .i64 b.stp] 25 (0, 0)⟩, ⟨w.heap.size + 1, .cells #[.int .i64 0, .int .i64 0, .int .i64 0, .int .i64 0, .int .i64 0, .int .i64 0] 35 (0, 0)⟩, ⟨w2.heap.size, .cells #[.int .i64 ((netA b).inn), .int .i64 ((netA b).back), .int .i64 ((netA b).duty), .int .i64 ((netA b).paid), .int .i64 ((netA b).kept), .int .i64 ((netA b).over)] 35 (0, 0)⟩] (by kernel_rfl)
  have hP := rDivOf_any w3 B b A n c A2 m c2 A3 nf cf fs (h.below hA.below hB) (hf.below hA.below hB) (Nat.le_trans hB hA.size) V hfin
  rw [← hLN] at hP
  refine call hA [] on (hP) (by kernel_rfl) (by rintro e v ⟨Al, cl, rfl, hbl, hol⟩; exact hbl) ?_
  rintro e w4 ⟨Al, cl, rfl, hbl, hol⟩
  refine ⟨_, rfl, fun hA => ?_⟩
  have hq9 := At.own hApl hbl hol
  obtain ⟨ob8l, hrl, hA2l⟩ := hq9
  refine reknow ⟨[⟨w.heap.size, .cells #[.int .i64 b.kind, .int .i64 b.runners, .slice A n c, .slice A2 m c2, .bool b.fav, .int .i64 b.car, .int .i64 b.dut, .int .i64 b.stp] 25 (0, 0)⟩, ⟨w.heap.size + 1, .cells #[.int .i64 0, .int .i64 0, .int .i64 0, .int .i64 0, .int .i64 0, .int .i64 0] 35 (0, 0)⟩, ⟨w2.heap.size, .cells #[.int .i64 ((netA b).inn), .int .i64 ((netA b).back), .int .i64 ((netA b).duty), .int .i64 ((netA b).paid), .int .i64 ((netA b).kept), .int .i64 ((netA b).over)] 35 (0, 0)⟩], w4.heap.size, [], [], [], [], []⟩ hA2l (Nat.zero_le _) fun hA => ?_
  refine runS hA 9 [] xn on (by kernel_rfl) fun w5 hA => ?_
  by_cases hb : bkd (tilF b) fs = []
  case pos =>
    have hl0 : LN = 0 := by rw [hLb, hb]; rfl
    refine revals hA (rc 15 (eq_t (a := (LN : Int)) (b := 0) (by omega)) rn) (by kernel_rfl) fun hA => ?_
    refine runS hA 11 (List.replicate 6 (.k 2) ++ List.replicate 6 (.k 1)) xn on (by kernel_rfl) fun w6 hA => ?_
    exact ret (v := .agg #[.int .i64 ((netA b).inn), .int .i64 ((netA b).back), .int .i64 ((netA b).duty), .int .i64 ((netA b).paid), .int .i64 ((netA b).kept), .int .i64 ((netA b).over)]) hA (List.replicate 6 (.k 1)) (by kernel_rfl) ⟨by rw [hac, if_pos hb]; rfl, hA.below⟩
  case neg =>
    have hl0 : 0 < LN := by rw [hLb]; exact List.length_pos_iff.2 hb
    refine revals hA (rc 15 (eq_f (a := (LN : Int)) (b := 0) (by omega)) rn) (by kernel_rfl) fun hA => ?_
    refine runS hA 12 [] xn on (by kernel_rfl) fun w6 hA => ?_
    have hq9 := row_blk hrl (by omega)
    obtain ⟨gg, cug, rfl, rfl⟩ := hq9
    have hA3 := (hA.atK [⟨w.heap.size, .cells #[.int .i64 b.kind, .int .i64 b.runners, .slice A n c, .slice A2 m c2, .bool b.fav, .int .i64 b.car, .int .i64 b.dut, .int .i64 b.stp] 25 (0, 0)⟩, ⟨w.heap.size + 1, .cells #[.int .i64 0, .int .i64 0, .int .i64 0, .int .i64 0, .int .i64 0, .int .i64 0] 35 (0, 0)⟩, ⟨w2.heap.size, .cells #[.int .i64 ((netA b).inn), .int .i64 ((netA b).back), .int .i64 ((netA b).duty), .int .i64 ((netA b).paid), .int .i64 ((netA b).kept), .int .i64 ((netA b).over)] 35 (0, 0)⟩] (by kernel_rfl)).resize.up
    refine reknow ⟨[⟨w.heap.size, .cells #[.int .i64 b.kind, .int .i64 b.runners, .slice A n c, .slice A2 m c2, .bool b.fav, .int .i64 b.car, .int .i64 b.dut, .int .i64 b.stp] 25 (0, 0)⟩, ⟨w.heap.size + 1, .cells #[.int .i64 0, .int .i64 0, .int .i64 0, .int .i64 0, .int .i64 0, .int .i64 0] 35 (0, 0)⟩, ⟨w2.heap.size, .cells #[.int .i64 ((netA b).inn), .int .i64 ((netA b).back), .int .i64 ((netA b).duty), .int .i64 ((netA b).paid), .int .i64 ((netA b).kept), .int .i64 ((netA b).over)] 35 (0, 0)⟩, ⟨gg, .cells cug 59 (0, 0)⟩], w6.heap.size, [], [], [], [], []⟩ hA3 (Nat.zero_le _) fun hA => ?_
    refine loop (γ := Nat) (fun i => [(2, .pointer (some ⟨w.heap.size, 0, none⟩)), (4, .pointer (some ⟨w.heap.size + 1, 0, none⟩)), (5, .pointer (some ⟨w2.heap.size, 0, none⟩)), (6, .slice (some ⟨gg, 0, none⟩) LN cl), (7, .int .i64 (i : Int))]) (fun i => [⟨w.heap.size, .cells #[.int .i64 b.kind, .int .i64 b.runners, .slice A n c, .slice A2 m c2, .bool b.fav, .int .i64 b.car, .int .i64 b.dut, .int .i64 b.stp] 25 (0, 0)⟩, ⟨w.heap.size + 1, .cells #[.int .i64 0, .int .i64 0, .int .i64 0, .int .i64 0, .int .i64 0, .int .i64 0] 35 (0, 0)⟩, ⟨w2.heap.size, .cells #[.int .i64 ((netA b).inn), .int .i64 ((netA b).back), .int .i64 ((netA b).duty), .int .i64 (pdM b fs i), .int .i64 ((netA b).kept), .int .i64 ((netA b).over)] 35 (0, 0)⟩, ⟨gg, .cells cug 59 (0, 0)⟩]) (fun _ => []) (fun g i wr => (i ≤ LN ∧ g = LN - i) ∧ 0 ≤ (pdM b fs i) ∧ (pdM b fs i) ≤ 20000000 * (i : Int)) LN 0 [true, true, true, true] hA (by kernel_rfl) (⟨⟨Nat.zero_le _, rfl⟩, Int.le_refl 0, Int.le_refl 0⟩) ?_
    rintro _ i wr ⟨⟨hi, rfl⟩, hp1, hp2⟩ J hJ hA
    by_cases hlt : i < LN
    case neg =>
      have hpa : (pdM b fs i) = pdF (tilF b) fs := pdM_all (by omega)
      refine runS hA 12 [.b false] xn (oc (dec_f (show ¬ (((i : Int) : Int) < (LN : Int)) by omega)) on) (by kernel_rfl) fun w7 hA => ?_
      refine leave hA (by kernel_rfl) fun hA => ?_
      refine runS hA 9 [.k 2, .k 2] xn on (by kernel_rfl) fun w8 hA => ?_
      refine revals hA (rc 50 (show .int .i64 (IntKind.i64.wrap (((netA b).over) - (pdM b fs i))) = .int .i64 (netF (tilF b).a - pdF (tilF b) fs) by rw [hpa, show (netA b).over = netF (tilF b).a from rfl, IntKind.wrap_i64]; congr 1; omega) rn) (by kernel_rfl) fun hA => ?_
      refine runS hA 13 (List.replicate 8 (.k 2) ++ List.replicate 6 (.k 1)) xn on (by kernel_rfl) fun w9 hA => ?_
      exact ret (v := .agg #[.int .i64 ((netA b).inn), .int .i64 ((netA b).back), .int .i64 ((netA b).duty), .int .i64 (pdM b fs i), .int .i64 (netF (tilF b).a - pdF (tilF b) fs), .int .i64 0]) hA (List.replicate 6 (.k 1)) (by kernel_rfl) ⟨by rw [hac, if_neg hb, hpa]; rfl, hA.below⟩
    case pos =>
      have hdc := div_cells hrl (i := i) hlt hLN.symm
      have hst := pdM_step (b := b) (fs := fs) (i := i) (by omega)
      have hdg := dvL_get (b := b) (fs := fs) (i := i) (by omega)
      have hmem : ((dvL b fs)[i]?.getD ((0, 0), 0)).1 ∈ bkd (tilF b) fs := by rw [hdg]; exact get_mem (by omega)
      have hda := dv_all V hmem
      have hsf := sh_few V fs
      have hd2 : ((dvL b fs)[i]?.getD ((0, 0), 0)).2 = dvF (tilF b) fs ((dvL b fs)[i]?.getD ((0, 0), 0)).1 := by rw [hdg]
      rw [← hd2] at hda
      refine runS hA 14 [.b true] xn (oc (dec_t (show (((i : Int) : Int) < (LN : Int)) by omega)) on) (by kernel_rfl) fun w7 hA => ?_
      refine draw hA [true, true, true, true] [0, 1, 2, 3, 4, 5, 6, 7, 8, 9, 10, 11, 12, 13, 14, 15, 16, 17, 18, 19, 20, 21, 22] (by kernel_rfl) (by kernel_rfl) fun hA => ?_
      refine runS hA 19 ([.t 0, .t 1, .k 2, .t 2, .t 3, .t 4, .i, .t 5, .t 6, .y 3 (.int .i64 (((dvL b fs)[i]?.getD ((0, 0), 0)).2)), .t 7] ++ List.replicate 8 (.k 0) ++ [.t 8, .t 9, .t 10, .i, .t 11, .t 12, .y 3 (.int .i64 (((dvL b fs)[i]?.getD ((0, 0), 0)).1.1)), .t 13, .t 14, .t 15, .i, .t 16, .t 17, .y 3 (.int .i64 (((dvL b fs)[i]?.getD ((0, 0), 0)).1.2)), .t 18]) xn (oc (show (0 : Int) ≤ ((i : Int) : Int) ∧ ((i : Int) : Int) < (LN : Int) by omega) (oc (show cug[0 + i * 3 + 2]? = some (.int .i64 (((dvL b fs)[i]?.getD ((0, 0), 0)).2)) from hdc.2.2) (oc (show (0 : Int) ≤ ((i : Int) : Int) ∧ ((i : Int) : Int) < (LN : Int) by omega) (oc (show cug[0 + i * 3]? = some (.int .i64 (((dvL b fs)[i]?.getD ((0, 0), 0)).1.1)) from hdc.1) (oc (show (0 : Int) ≤ ((i : Int) : Int) ∧ ((i : Int) : Int) < (LN : Int) by omega) (oc (show cug[0 + i * 3 + 1]? = some (.int .i64 (((dvL b fs)[i]?.getD ((0, 0), 0)).1.2)) from hdc.2.1) on)))))) (by kernel_rfl) fun w8 hA => ?_
      refine callB hA [] on (rUnits_any w8 B b A n c A2 m c2 ((dvL b fs)[i]?.getD ((0, 0), 0)).1 (h.below hA.below hB) (Nat.le_trans hB hA.size) V) (by kernel_rfl) fun w9 hb9 hA => ?_
      refine runS hA 1 [.t 20] xn on (by kernel_rfl) fun w10 hA => ?_
      refine revals hA (rc 43 (show .int .i64 (IntKind.i64.wrap ((((dvL b fs)[i]?.getD ((0, 0), 0)).2) * (uL (tilF b) b.bets ((dvL b fs)[i]?.getD ((0, 0), 0)).1))) = .int .i64 (((dvL b fs)[i]?.getD ((0, 0), 0)).2 * (uL (tilF b) b.bets ((dvL b fs)[i]?.getD ((0, 0), 0)).1)) by rw [IntKind.wrap_i64]; congr 1; omega) rn) (by kernel_rfl) fun hA => ?_
      refine runS hA 1 [.t 21] xn on (by kernel_rfl) fun w11 hA => ?_
      refine revals hA (rc 44 (show .int .i64 (IntKind.i64.wrap ((pdM b fs i) + (((dvL b fs)[i]?.getD ((0, 0), 0)).2 * (uL (tilF b) b.bets ((dvL b fs)[i]?.getD ((0, 0), 0)).1)))) = .int .i64 (pdM b fs (i + 1)) by rw [hst, IntKind.wrap_i64]; congr 1; omega) rn) (by kernel_rfl) fun hA => ?_
      refine runS hA 11 [.t 22, .b false, .k 2] xn on (by kernel_rfl) fun w12 hA => ?_
      refine revals hA (rc 7 (wr64 (x := (i : Int) + 1) (y := ((i + 1 : Nat) : Int)) (by omega) (by omega)) rn) (by kernel_rfl) fun hA => ?_
      exact again hJ (LN - (i + 1)) (i + 1) [true, true, true, true] hA (by omega) (by kernel_rfl) (⟨⟨by omega, rfl⟩, by rw [hst]; omega, by rw [hst]; omega⟩)
set_option maxRecDepth 20000 in
theorem rAccount_any (w : World) (B : Nat) (b : Bk) (A : Option Addr) (n c : Nat) (A2 : Option Addr) (m c2 : Nat) (A3 : Option Addr) (nf cf : Nat) (fs : List (List Int)) (h : BkAt w B b A n c A2 m c2) (hf : FinAt w B A3 nf fs) (hB : B ≤ w.heap.size) : Calls Tryz.prog 12 #[bkV b A n c A2 m c2, .slice A3 nf cf] w fun e w' => e = .returned (.tuple #[.agg (accC (AccountF b fs)), .int .i64 (atF b fs)]) ∧ Below w.heap.size w w' := by
  refine enter 17 Tryz.func12 (by kernel_rfl) fun hA => ?_
  refine runS hA 12 (List.replicate 8 (.k 0)) xn on (by kernel_rfl) fun w1 hA => ?_
  refine callB hA [] on (rCheckFinish_any w1 B b A n c A2 m c2 A3 nf cf fs (h.below hA.below hB) (hf.below hA.below hB) (Nat.le_trans hB hA.size)) (by kernel_rfl) fun w2 hb2 hA => ?_
  by_cases h0 : atF b fs = 0
  case neg =>
    refine runS hA 9 ([.b true] ++ List.replicate 8 (.k 0)) xn (oc (ne_t h0) on) (by kernel_rfl) fun w3 hA => ?_
    refine callB hA [] on (rCheckFinish_any w3 B b A n c A2 m c2 A3 nf cf fs (h.below hA.below hB) (hf.below hA.below hB) (Nat.le_trans hB hA.size)) (by kernel_rfl) fun w4 hb4 hA => ?_
    refine runS hA 6 (List.replicate 6 (.k 1)) xn on (by kernel_rfl) fun w5 hA => ?_
    exact ret (v := .tuple #[.agg #[.int .i64 0, .int .i64 0, .int .i64 0, .int .i64 0, .int .i64 0, .int .i64 0], .int .i64 (atF b fs)]) hA (List.replicate 6 (.k 1)) (by kernel_rfl) ⟨by rw [show AccountF b fs = acc0 from if_neg h0]; rfl, hA.below⟩
  case pos =>
    have hq9 := at_both h0
    obtain ⟨hk0, hfin⟩ := hq9
    refine runS hA 10 ([.b false] ++ List.replicate 8 (.k 0)) xn (oc (ne_f h0) on) (by kernel_rfl) fun w3 hA => ?_
    refine callB hA [] on (rAccountOf_any w3 B b A n c A2 m c2 A3 nf cf fs (h.below hA.below hB) (hf.below hA.below hB) (Nat.le_trans hB hA.size) hk0 hfin) (by kernel_rfl) fun w4 hb4 hA => ?_
    refine runS hA 5 (List.replicate 6 (.k 1)) xn on (by kernel_rfl) fun w5 hA => ?_
    exact ret (v := .tuple #[.agg #[.int .i64 ((AccountF b fs).inn), .int .i64 ((AccountF b fs).back), .int .i64 ((AccountF b fs).duty), .int .i64 ((AccountF b fs).paid), .int .i64 ((AccountF b fs).kept), .int .i64 ((AccountF b fs).over)], .int .i64 0]) hA (List.replicate 6 (.k 1)) (by kernel_rfl) ⟨by rw [h0], hA.below⟩
end Go.Proofs.YtbahiemjaomdcaaGreat

/- quinellaref03: Pay. -/
namespace Go.Proofs.YtbahiemjaomdcaaGreat
open Go.RowKit Go.Shelf

theorem payE_bad {b : Bk} {fs : List (List Int)} {i : Int} (h : atF b fs ≠ 0) : payE b fs i = atF b fs ∧ payA b fs i = 0 := by
  have e : payE b fs i = atF b fs := if_neg h
  exact ⟨e, if_neg (by rw [e]; exact h)⟩
theorem payE_none {b : Bk} {fs : List (List Int)} {i : Int} (h : atF b fs = 0) (hi : ¬ (0 ≤ i ∧ i ≤ (b.bets.length : Int) - 1)) : payE b fs i = 5 ∧ payA b fs i = 0 := by
  have e : payE b fs i = 5 := by unfold payE; rw [if_pos h, if_neg hi]
  exact ⟨e, if_neg (by rw [e]; decide)⟩
set_option maxHeartbeats 2000000 in
set_option maxRecDepth 20000 in
theorem rPay_any (w : World) (B : Nat) (b : Bk) (A : Option Addr) (n c : Nat) (A2 : Option Addr) (m c2 : Nat) (A3 : Option Addr) (nf cf : Nat) (fs : List (List Int)) (p : Int) (h : BkAt w B b A n c A2 m c2) (hf : FinAt w B A3 nf fs) (hB : B ≤ w.heap.size) : Calls Tryz.prog 14 #[bkV b A n c A2 m c2, .slice A3 nf cf, .int .i64 p] w fun e w' => e = .returned (.tuple #[.int .i64 (payA b fs p), .int .i64 (payE b fs p)]) ∧ Below w.heap.size w w' := by
  have hbl := h.bets.1
  refine enter 75 Tryz.func14 (by kernel_rfl) fun hA => ?_
  refine runS hA 12 (List.replicate 8 (.k 0)) xn on (by kernel_rfl) fun w1 hA => ?_
  refine callB hA [] on (rCheckFinish_any w1 B b A n c A2 m c2 A3 nf cf fs (h.below hA.below hB) (hf.below hA.below hB) (Nat.le_trans hB hA.size)) (by kernel_rfl) fun w2 hb2 hA => ?_
  by_cases h0 : atF b fs = 0
  case neg =>
    have hbad := payE_bad (i := p) h0
    refine runS hA 8 ([.b true] ++ List.replicate 8 (.k 0)) xn (oc (ne_t h0) on) (by kernel_rfl) fun w3 hA => ?_
    refine callB hA [] on (rCheckFinish_any w3 B b A n c A2 m c2 A3 nf cf fs (h.below hA.below hB) (hf.below hA.below hB) (Nat.le_trans hB hA.size)) (by kernel_rfl) fun w4 hb4 hA => ?_
    refine runS hA 6 [] xn on (by kernel_rfl) fun w5 hA => ?_
    exact ret (v := .tuple #[.int .i64 0, .int .i64 (atF b fs)]) hA [] (by kernel_rfl) ⟨by rw [hbad.1, hbad.2], hA.below⟩
  case pos =>
    have hq9 := at_both h0
    obtain ⟨hk0, hfin⟩ := hq9
    have V := valid_of hk0
    have hv2 := V.len
    have hsf := sh_few V fs
    have hq9 : ∃ LN, LN = (dvL b fs).length := ⟨_, rfl⟩
    obtain ⟨LN, hLN⟩ := hq9
    have hL9 : LN ≤ 1000 := by rw [hLN]; exact dvL_len2 hk0 hfin
    refine runS hA 12 [.b false, .t 0] xn (oc (ne_f h0) on) (by kernel_rfl) fun w3 hA => ?_
    by_cases hn0 : p < 0
    case pos =>
      have hbad := payE_none (i := p) h0 (by omega)
      refine runS hA 17 (List.replicate 5 (.g true)) xn (oc (dec_t (show ((p : Int) < (0 : Int)) by omega)) (oc (rfl : Value.bool true = .bool true) (oc (rfl : Value.bool true = .bool true) (oc (rfl : Value.bool true = .bool true) (oc (rfl : Value.bool true = .bool true) on))))) (by kernel_rfl) fun w4 hA => ?_
      exact ret (v := .tuple #[.int .i64 0, .int .i64 5]) hA [] (by kernel_rfl) ⟨by rw [hbad.1, hbad.2], hA.below⟩
    case neg =>
      by_cases hn1 : p ≥ (n : Int)
      case pos =>
        have hbad := payE_none (i := p) h0 (by omega)
        refine runS hA 17 [.g false, .g false, .g false, .k 0, .g false, .g false, .b true] xn (oc (dec_f (show ¬ ((p : Int) < (0 : Int)) by omega)) (oc (rfl : Value.bool false = .bool false) (oc (rfl : Value.bool false = .bool false) (oc (rfl : Value.bool false = .bool false) (oc (rfl : Value.bool false = .bool false) (oc (dec_t (show ((p : Int) ≥ (n : Int)) by omega)) on)))))) (by kernel_rfl) fun w4 hA => ?_
        exact ret (v := .tuple #[.int .i64 0, .int .i64 5]) hA [] (by kernel_rfl) ⟨by rw [hbad.1, hbad.2], hA.below⟩
      case neg =>
        have hq9 : ∃ i : Nat, p = (i : Int) := ⟨p.toNat, by omega⟩
        obtain ⟨i, hi⟩ := hq9
        have hlt : i < n := by omega
        have hpe := pay_eq hk0 hfin (i := i) (by omega)
        have hq9 := h.bets.at hlt
        obtain ⟨b1, off, rfl, hb1, k0, k1, k2⟩ := hq9
        have hlb1 : b1 < w.heap.size := Nat.lt_of_lt_of_le hb1 hB
        have hxm : (b.bets[i]?.getD noBet) ∈ b.bets := get_mem (by omega)
        have hux := units_ok V _ hxm
        subst hi
        refine runS hA 26 ([.g false, .g false, .g false, .k 0, .g false, .g false, .b false, .k 0, .i, .x (.int .i64 ((b.bets[i]?.getD noBet).first)), .x (.int .i64 ((b.bets[i]?.getD noBet).second)), .x (.int .i64 ((b.bets[i]?.getD noBet).units)), .k 1, .k 1, .k 1] ++ List.replicate 8 (.k 0) ++ [.k 1, .k 1, .k 1]) (xc (a := ⟨b1, off + i * 3, none⟩) ⟨hlb1, k0⟩ (xc (a := ⟨b1, off + i * 3 + 1, none⟩) ⟨hlb1, k1⟩ (xc (a := ⟨b1, off + i * 3 + 2, none⟩) ⟨hlb1, k2⟩ xn))) (oc (dec_f (show ¬ (((i : Int) : Int) < (0 : Int)) by omega)) (oc (rfl : Value.bool false = .bool false) (oc (rfl : Value.bool false = .bool false) (oc (rfl : Value.bool false = .bool false) (oc (rfl : Value.bool false = .bool false) (oc (dec_f (show ¬ (((i : Int) : Int) ≥ (n : Int)) by omega)) (oc (show (0 : Int) ≤ ((i : Int) : Int) ∧ ((i : Int) : Int) < (n : Int) by omega) on))))))) (by kernel_rfl) fun w4 hA => ?_
        refine callB hA [] on (rOn_any w4 B b (some ⟨b1, off, none⟩) n c A2 m c2 (b.bets[i]?.getD noBet) (h.below hA.below hB) (Nat.le_trans hB hA.size) V hxm) (by kernel_rfl) fun w5 hb5 hA => ?_
        refine runS hA 12 [.k 2, .k 2] xn on (by kernel_rfl) fun w6 hA => ?_
        have hq9 := Bool.eq_false_or_eq_true (okT (tilF b) (b.bets[i]?.getD noBet))
        rcases hq9 with ho | ho
        ·
          refine revals hA (rc 40 (show .bool (okT (tilF b) (b.bets[i]?.getD noBet)) = .bool true by rw [ho]) rn) (by kernel_rfl) fun hA => ?_
          refine runS hA 10 (List.replicate 8 (.k 0)) xn on (by kernel_rfl) fun w7 hA => ?_
          have hApl := hA.atK [⟨w.heap.size, .cells #[.int .i64 b.kind, .int .i64 b.runners, .slice (some ⟨b1, off, none⟩) n c, .slice A2 m c2, .bool b.fav, .int .i64 b.car, .int .i64 b.dut, .int .i64 b.stp] 25 (0, 0)⟩, ⟨w2.heap.size, .cells #[.int .i64 ((b.bets[i]?.getD noBet).first), .int .i64 ((b.bets[i]?.getD noBet).second), .int .i64 ((b.bets[i]?.getD noBet).units)] 93 (0, 0)⟩, ⟨w5.heap.size, .cells #[.int .i64 ((onP b (b.bets[i]?.getD noBet)).1), .int .i64 ((onP b (b.bets[i]?.getD noBet)).2)] 57 (0, 0)⟩] (by kernel_rfl)
          have hP := rDivOf_any w7 B b (some ⟨b1, off, none⟩) n c A2 m c2 A3 nf cf fs (h.below hA.below hB) (hf.below hA.below hB) (Nat.le_trans hB hA.size) V hfin
          rw [← hLN] at hP
          refine call hA [] on (hP) (by kernel_rfl) (by rintro e v ⟨Al, cl, rfl, hbl9, hol⟩; exact hbl9) ?_
          rintro e w8 ⟨Al, cl, rfl, hbl9, hol⟩
          refine ⟨_, rfl, fun hA => ?_⟩
          have hq9 := At.own hApl hbl9 hol
          obtain ⟨ob8l, hrl, hA2l⟩ := hq9
          have hRl := row_at hrl (by omega) _ (fun kb hk => hA2l.rok kb (List.mem_append_left _ hk))
          refine reknow ⟨[⟨w.heap.size, .cells #[.int .i64 b.kind, .int .i64 b.runners, .slice (some ⟨b1, off, none⟩) n c, .slice A2 m c2, .bool b.fav, .int .i64 b.car, .int .i64 b.dut, .int .i64 b.stp] 25 (0, 0)⟩, ⟨w2.heap.size, .cells #[.int .i64 ((b.bets[i]?.getD noBet).first), .int .i64 ((b.bets[i]?.getD noBet).second), .int .i64 ((b.bets[i]?.getD noBet).units)] 93 (0, 0)⟩, ⟨w5.heap.size, .cells #[.int .i64 ((onP b (b.bets[i]?.getD noBet)).1), .int .i64 ((onP b (b.bets[i]?.getD noBet)).2)] 57 (0, 0)⟩], w8.heap.size, [], [], [], [], []⟩ hA2l (Nat.zero_le _) fun hA => ?_
          have hK0 := hA.atK [⟨w.heap.size, .cells #[.int .i64 b.kind, .int .i64 b.runners, .slice (some ⟨b1, off, none⟩) n c, .slice A2 m c2, .bool b.fav, .int .i64 b.car, .int .i64 b.dut, .int .i64 b.stp] 25 (0, 0)⟩, ⟨w2.heap.size, .cells #[.int .i64 ((b.bets[i]?.getD noBet).first), .int .i64 ((b.bets[i]?.getD noBet).second), .int .i64 ((b.bets[i]?.getD noBet).units)] 93 (0, 0)⟩, ⟨w5.heap.size, .cells #[.int .i64 ((onP b (b.bets[i]?.getD noBet)).1), .int .i64 ((onP b (b.bets[i]?.getD noBet)).2)] 57 (0, 0)⟩] (by kernel_rfl)
          have hobx := hK0.ok ⟨w2.heap.size, .cells #[.int .i64 ((b.bets[i]?.getD noBet).first), .int .i64 ((b.bets[i]?.getD noBet).second), .int .i64 ((b.bets[i]?.getD noBet).units)] 93 (0, 0)⟩ (List.mem_of_getElem? (i := 1) (by kernel_rfl))
          have hcx0 := cell_lt (cell_of_obj (a := ⟨w2.heap.size, 0, none⟩) hobx rfl rfl)
          have hcx1 := cell_lt (cell_of_obj (a := ⟨w2.heap.size, 1, none⟩) hobx rfl rfl)
          have hcx2 := cell_lt (cell_of_obj (a := ⟨w2.heap.size, 2, none⟩) hobx rfl rfl)
          have hobo := hK0.ok ⟨w5.heap.size, .cells #[.int .i64 ((onP b (b.bets[i]?.getD noBet)).1), .int .i64 ((onP b (b.bets[i]?.getD noBet)).2)] 57 (0, 0)⟩ (List.mem_of_getElem? (i := 2) (by kernel_rfl))
          have hco0 := cell_lt (cell_of_obj (a := ⟨w5.heap.size, 0, none⟩) hobo rfl rfl)
          have hco1 := cell_lt (cell_of_obj (a := ⟨w5.heap.size, 1, none⟩) hobo rfl rfl)
          have hWb := hA.below
          have hWs := hA.size
          refine rebase hA w8 (by kernel_rfl) (At.start _) fun hA => ?_
          refine runS hA 10 [] xn on (by kernel_rfl) fun w9 hA => ?_
          have hpn : pnF (dvL b fs) (onP b (b.bets[i]?.getD noBet)) = dvF (tilF b) fs (spX (tilF b) (b.bets[i]?.getD noBet)) := by rw [pn_dv, onP_ok ho]
          rw [if_pos ho] at hpe
          refine loop (γ := Nat) (fun j => [(8, .pointer (some ⟨w2.heap.size, 0, none⟩)), (9, .pointer (some ⟨w5.heap.size, 0, none⟩)), (11, .slice Al LN cl), (12, .int .i64 (j : Int))]) (fun j => []) (fun _ => []) (fun g j wr => j ≤ LN ∧ g = LN - j ∧ ∀ k, k < j → ((dvL b fs)[k]?.getD ((0, 0), 0)).1 ≠ (onP b (b.bets[i]?.getD noBet))) LN 0 [] hA (by kernel_rfl) (⟨Nat.zero_le _, rfl, fun k hk => absurd hk (Nat.not_lt_zero _)⟩) ?_
          rintro _ j wr ⟨hj, rfl, hs⟩ J hJ hA
          by_cases hlj : j < LN
          case neg =>
            have hno := pnF_no (ds := (dvL b fs)) (s := (onP b (b.bets[i]?.getD noBet))) (fun k hk => hs k (by omega))
            rw [hpn] at hno
            refine runS hA 12 [.b false] xn (oc (dec_f (show ¬ (((j : Int) : Int) < (LN : Int)) by omega)) on) (by kernel_rfl) fun w10 hA => ?_
            refine leave hA (by kernel_rfl) fun hA => ?_
            refine runS hA 9 [] xn on (by kernel_rfl) fun w11 hA => ?_
            refine back hA (by kernel_rfl) (At.plain (hWb.trans (hA.below.mono hWs))) fun hA => ?_
            exact ret (v := .tuple #[.int .i64 0, .int .i64 0]) hA [] (by kernel_rfl) ⟨by rw [hpe.1, hpe.2, hno, Int.zero_mul], hA.below⟩
          case pos =>
            have hq9 := hRl.2.2 (by omega)
            obtain ⟨bl1, ol, rfl, hbl1, hcl⟩ := hq9
            have hq9 := encD_get (dvL b fs) j (by omega)
            obtain ⟨ge0, ge1, ge2⟩ := hq9
            have e0 : bl1 < w8.heap.size ∧ w8.cell? ⟨bl1, ol + j * 3, none⟩ = some (.int .i64 ((dvL b fs)[j]?.getD ((0, 0), 0)).1.1) := ⟨hbl1, by have := hcl _ _ ge0; exact this⟩
            have e1 : bl1 < w8.heap.size ∧ w8.cell? ⟨bl1, ol + j * 3 + 1, none⟩ = some (.int .i64 ((dvL b fs)[j]?.getD ((0, 0), 0)).1.2) := ⟨hbl1, by have := hcl _ _ ge1; exact this⟩
            have e2 : bl1 < w8.heap.size ∧ w8.cell? ⟨bl1, ol + j * 3 + 2, none⟩ = some (.int .i64 ((dvL b fs)[j]?.getD ((0, 0), 0)).2) := ⟨hbl1, by have := hcl _ _ ge2; exact this⟩
            refine runS hA 15 [.b true] xn (oc (dec_t (show (((j : Int) : Int) < (LN : Int)) by omega)) on) (by kernel_rfl) fun w10 hA => ?_
            refine draw hA [] [0, 1, 2, 3, 4, 5, 6, 7, 8, 9, 10, 11, 12] (by kernel_rfl) (by kernel_rfl) fun hA => ?_
            refine runS hA 12 [.t 0, .x (.int .i64 ((onP b (b.bets[i]?.getD noBet)).1)), .x (.int .i64 ((onP b (b.bets[i]?.getD noBet)).2)), .t 1, .t 2, .t 3, .i, .t 4, .t 5, .x (.int .i64 (((dvL b fs)[j]?.getD ((0, 0), 0)).1.1)), .t 6, .t 7, .t 8, .i, .t 9, .t 10, .x (.int .i64 (((dvL b fs)[j]?.getD ((0, 0), 0)).1.2)), .t 11] (xc (a := ⟨w5.heap.size, 0, none⟩) hco0 (xc (a := ⟨w5.heap.size, 1, none⟩) hco1 (xc (a := ⟨bl1, ol + j * 3, none⟩) e0 (xc (a := ⟨bl1, ol + j * 3 + 1, none⟩) e1 xn)))) (oc (show (0 : Int) ≤ ((j : Int) : Int) ∧ ((j : Int) : Int) < (LN : Int) by omega) (oc (show (0 : Int) ≤ ((j : Int) : Int) ∧ ((j : Int) : Int) < (LN : Int) by omega) on)) (by kernel_rfl) fun w11 hA => ?_
            refine opv (v := .bool (decide ((onP b (b.bets[i]?.getD noBet)) = ((dvL b fs)[j]?.getD ((0, 0), 0)).1))) hA [] on (s := cmpSem .eql 57 (.tmp 54) (.tmp 65) (.agg #[.int .i64 ((onP b (b.bets[i]?.getD noBet)).1), .int .i64 ((onP b (b.bets[i]?.getD noBet)).2)]) (.agg #[.int .i64 (((dvL b fs)[j]?.getD ((0, 0), 0)).1.1), .int .i64 (((dvL b fs)[j]?.getD ((0, 0), 0)).1.2)])) (by kernel_rfl) (cmp_flat (n := 2) false (by kernel_rfl) _ (by kernel_rfl) (fun i hi => by match i, hi with | 0, _ => exact ⟨_, _, _, rfl, rfl⟩ | 1, _ => exact ⟨_, _, _, rfl, rfl⟩) ((onP b (b.bets[i]?.getD noBet)) = ((dvL b fs)[j]?.getD ((0, 0), 0)).1) (by generalize (onP b (b.bets[i]?.getD noBet)) = u; generalize ((dvL b fs)[j]?.getD ((0, 0), 0)).1 = v; obtain ⟨u1, u2⟩ := u; obtain ⟨v1, v2⟩ := v; simp) (by kernel_rfl)) fun hA => ?_
            by_cases he : (onP b (b.bets[i]?.getD noBet)) = ((dvL b fs)[j]?.getD ((0, 0), 0)).1
            case neg =>
              refine revals hA (rc 66 (show .bool (decide ((onP b (b.bets[i]?.getD noBet)) = ((dvL b fs)[j]?.getD ((0, 0), 0)).1)) = .bool false by rw [decide_eq_false he]) rn) (by kernel_rfl) fun hA => ?_
              refine runS hA 11 [.b true] xn on (by kernel_rfl) fun w12 hA => ?_
              refine revals hA (rc 12 (wr64 (x := (j : Int) + 1) (y := ((j + 1 : Nat) : Int)) (by omega) (by omega)) rn) (by kernel_rfl) fun hA => ?_
              exact again hJ (LN - (j + 1)) (j + 1) [] hA (by omega) (by kernel_rfl) (⟨by omega, rfl, fun k hk => by by_cases hkj : k = j; rw [hkj]; exact fun e9 => he e9.symm; exact hs k (by omega)⟩)
            case pos =>
              have hat := pnF_at (ds := (dvL b fs)) (s := (onP b (b.bets[i]?.getD noBet))) (i := j) (by omega) hs he.symm
              rw [hpn] at hat
              have hdn := dv_nonneg (fs := fs) V (spX (tilF b) (b.bets[i]?.getD noBet))
              have hpb := pay_bound (fs := fs) V hxm ho
              have hnf := net_facts V
              refine revals hA (rc 66 (show .bool (decide ((onP b (b.bets[i]?.getD noBet)) = ((dvL b fs)[j]?.getD ((0, 0), 0)).1)) = .bool true by rw [decide_eq_true he]) rn) (by kernel_rfl) fun hA => ?_
              refine runS hA 4 [.b true] xn on (by kernel_rfl) fun w12 hA => ?_
              refine draw hA [] [0, 1, 2, 3, 4, 5, 6, 7, 8, 9] (by kernel_rfl) (by kernel_rfl) fun hA => ?_
              refine runS hA 8 [.t 0, .t 1, .t 2, .i, .t 3, .t 4, .x (.int .i64 (((dvL b fs)[j]?.getD ((0, 0), 0)).2)), .t 5, .t 6, .x (.int .i64 ((b.bets[i]?.getD noBet).units)), .t 7] (xc (a := ⟨bl1, ol + j * 3 + 2, none⟩) e2 (xc (a := ⟨w2.heap.size, 2, none⟩) hcx2 xn)) (oc (show (0 : Int) ≤ ((j : Int) : Int) ∧ ((j : Int) : Int) < (LN : Int) by omega) on) (by kernel_rfl) fun w13 hA => ?_
              refine revals hA (rc 74 (show .int .i64 (IntKind.i64.wrap ((((dvL b fs)[j]?.getD ((0, 0), 0)).2) * ((b.bets[i]?.getD noBet).units))) = .int .i64 (dvF (tilF b) fs (spX (tilF b) (b.bets[i]?.getD noBet)) * (b.bets[i]?.getD noBet).units) by rw [← hat, IntKind.wrap_i64]; congr 1; omega) rn) (by kernel_rfl) fun hA => ?_
              refine runS hA 7 [.t 8, .t 9, .b true] xn on (by kernel_rfl) fun w14 hA => ?_
              refine leave hA (by kernel_rfl) fun hA => ?_
              refine runS hA 2 [] xn on (by kernel_rfl) fun w15 hA => ?_
              refine back hA (by kernel_rfl) (At.plain (hWb.trans (hA.below.mono hWs))) fun hA => ?_
              exact ret (v := .tuple #[.int .i64 (dvF (tilF b) fs (spX (tilF b) (b.bets[i]?.getD noBet)) * (b.bets[i]?.getD noBet).units), .int .i64 0]) hA [] (by kernel_rfl) ⟨by rw [hpe.1, hpe.2], hA.below⟩
        ·
          refine revals hA (rc 40 (show .bool (okT (tilF b) (b.bets[i]?.getD noBet)) = .bool false by rw [ho]) rn) (by kernel_rfl) fun hA => ?_
          rw [if_neg (by rw [ho]; decide)] at hpe
          refine runS hA 9 [.k 1] xn on (by kernel_rfl) fun w7 hA => ?_
          refine revals hA (rc 44 (show .int .i64 (IntKind.i64.wrap (100 * ((b.bets[i]?.getD noBet).units))) = .int .i64 (100 * (b.bets[i]?.getD noBet).units) by rw [IntKind.wrap_i64]; congr 1; omega) rn) (by kernel_rfl) fun hA => ?_
          refine runS hA 6 [] xn on (by kernel_rfl) fun w8 hA => ?_
          exact ret (v := .tuple #[.int .i64 (100 * (b.bets[i]?.getD noBet).units), .int .i64 0]) hA [] (by kernel_rfl) ⟨by rw [hpe.1, hpe.2], hA.below⟩
end Go.Proofs.YtbahiemjaomdcaaGreat
