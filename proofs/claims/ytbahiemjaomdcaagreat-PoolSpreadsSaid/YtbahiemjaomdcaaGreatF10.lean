/- Parts of a proof: WA WB WC. -/
import Derived.Test.YtbahiemjaomdcaaGreatF9

/- quinellalaw03: Bet, Book, pairs, in, div, Dividends, twos. -/
namespace Go.Proofs.YtbahiemjaomdcaaGreat
open Go.RowKit Go.Shelf

/-- Cells of a row of n parts of k cells each. -/
def PartsAt (w : World) (B : Nat) (A : Option Addr) (n k : Nat) (vs : List Value) : Prop :=
  vs.length = n * k ∧ n ≤ 1000000 ∧ (0 < n → ∃ b off, A = some ⟨b, off, none⟩ ∧ b < B ∧ ∀ q v, vs[q]? = some v → w.cell? ⟨b, off + q, none⟩ = some v)
theorem PartsAt.below {w w' : World} {B D : Nat} {A : Option Addr} {n k : Nat} {vs : List Value} (h : PartsAt w B A n k vs) (hb : Below D w w') (hD : B ≤ D) : PartsAt w' B A n k vs :=
  ⟨h.1, h.2.1, fun h0 => by obtain ⟨b, off, e, hlt, hc⟩ := h.2.2 h0; exact ⟨b, off, e, hlt, fun q v hv => (hb.cell (p := ⟨b, off + q, none⟩) (show b < D by omega)).trans (hc q v hv)⟩⟩
theorem PartsAt.more {w : World} {B B' : Nat} {A : Option Addr} {n k : Nat} {vs : List Value} (h : PartsAt w B A n k vs) (hB : B ≤ B') : PartsAt w B' A n k vs :=
  ⟨h.1, h.2.1, fun h0 => by obtain ⟨b, off, e, hlt, hc⟩ := h.2.2 h0; exact ⟨b, off, e, by omega, hc⟩⟩
theorem parts_row {w : World} {g n k : Nat} {vs : List Value} {cs : Array Value} {T : TypeId} (h : w.heap[g]? = some (.cells cs T (0, 0))) (hc : cs.toList.take (n * k) = vs) (hl : vs.length = n * k) (hm : n ≤ 1000000) : PartsAt w w.heap.size (some ⟨g, 0, none⟩) n k vs :=
  ⟨hl, hm, fun _ => ⟨g, 0, rfl, (Array.getElem?_eq_some_iff.1 h).1, fun q v hv => by
    refine cell_of_obj (T := T) (fz := (0, 0)) h rfl ?_
    have hq : q < n * k := by rw [← hl]; exact (List.getElem?_eq_some_iff.1 hv).1
    show cs[0 + q]? = _
    rw [Nat.zero_add, ← hv, ← hc, List.getElem?_take_of_lt hq, Array.getElem?_toList]⟩⟩
theorem PartsAt.own {w : World} {B : Nat} {T : TypeId} {v : Value} {n k : Nat} {vs : List Value} (h : w.ownsRow B T k v n vs) (hm : n ≤ 1000000) : ∃ A c, v = .slice A n c ∧ PartsAt w w.heap.size A n k vs := by
  rcases h.2 with ⟨h1, h2⟩ | ⟨g, cap, cur, h1, h2, h3, h4, h5, h6, h7⟩
  · subst h2
    exact ⟨none, 0, h1, h.1, hm, fun h0 => absurd h0 (Nat.lt_irrefl _)⟩
  · exact ⟨_, cap, h1, parts_row h3 h7 h.1 hm⟩
theorem encD_len : ∀ ds : List ((Int × Int) × Int), (encD ds).length = ds.length * 3
  | [] => rfl
  | x :: ds => by
    have ih := encD_len ds
    unfold encD at ih ⊢
    rw [List.flatMap_cons, List.length_append, ih]
    simp
    omega
theorem encD_get : ∀ (ds : List ((Int × Int) × Int)) (j : Nat), j < ds.length → (encD ds)[j * 3]? = some (.int .i64 (ds[j]?.getD ((0, 0), 0)).1.1) ∧ (encD ds)[j * 3 + 1]? = some (.int .i64 (ds[j]?.getD ((0, 0), 0)).1.2) ∧ (encD ds)[j * 3 + 2]? = some (.int .i64 (ds[j]?.getD ((0, 0), 0)).2)
  | [], _, h => absurd h (Nat.not_lt_zero _)
  | x :: ds, 0, _ => ⟨rfl, rfl, rfl⟩
  | x :: ds, j + 1, h => by
    obtain ⟨h1, h2, h3⟩ := encD_get ds j (by simpa using h)
    unfold encD at h1 h2 h3 ⊢
    rw [List.flatMap_cons, List.getElem?_append_right (by simp; omega), List.getElem?_append_right (by simp; omega), List.getElem?_append_right (by simp; omega)]
    simp only [List.length_cons, List.length_nil, List.getElem?_cons_succ]
    rw [show (j + 1) * 3 - 3 = j * 3 by omega, show (j + 1) * 3 + 1 - 3 = j * 3 + 1 by omega, show (j + 1) * 3 + 2 - 3 = j * 3 + 2 by omega]
    exact ⟨h1, h2, h3⟩
theorem encW_len : ∀ ds : List (Int × Int), (encW ds).length = ds.length * 2
  | [] => rfl
  | x :: ds => by
    have ih := encW_len ds
    unfold encW at ih ⊢
    rw [List.flatMap_cons, List.length_append, ih]
    simp
    omega
theorem encW_get : ∀ (ds : List (Int × Int)) (j : Nat), j < ds.length → (encW ds)[j * 2]? = some (.int .i64 (ds[j]?.getD (0, 0)).1) ∧ (encW ds)[j * 2 + 1]? = some (.int .i64 (ds[j]?.getD (0, 0)).2)
  | [], _, h => absurd h (Nat.not_lt_zero _)
  | x :: ds, 0, _ => ⟨rfl, rfl⟩
  | x :: ds, j + 1, h => by
    obtain ⟨h1, h2⟩ := encW_get ds j (by simpa using h)
    unfold encW at h1 h2 ⊢
    rw [List.flatMap_cons, List.getElem?_append_right (by simp; omega), List.getElem?_append_right (by simp; omega)]
    simp only [List.length_cons, List.length_nil, List.getElem?_cons_succ]
    rw [show (j + 1) * 2 - 2 = j * 2 by omega, show (j + 1) * 2 + 1 - 2 = j * 2 + 1 by omega]
    exact ⟨h1, h2⟩
theorem same_lists {α : Type} {xs ys : List α} (hl : xs.length = ys.length) (h : ∀ j, j < xs.length → xs[j]? = ys[j]?) : xs = ys := by
  apply List.ext_getElem?
  intro j
  by_cases hj : j < xs.length
  · exact h j hj
  · rw [List.getElem?_eq_none (by omega), List.getElem?_eq_none (by omega)]
theorem get_eq {α : Type} {xs ys : List α} {j : Nat} {d : α} (h1 : j < xs.length) (h2 : j < ys.length) : xs[j]? = ys[j]? ↔ xs[j]?.getD d = ys[j]?.getD d := by
  rw [List.getElem?_eq_getElem h1, List.getElem?_eq_getElem h2]
  simp
/-- The books of the examples. -/
def exB (k : Int) : Bk := ⟨k, 3, [⟨0, -1, 5⟩, ⟨1, -1, 3⟩, ⟨2, -1, 2⟩], [], false, 0, 100, 10⟩
def exC : Bk := ⟨2, 3, [⟨0, 1, 2⟩, ⟨1, 0, 3⟩], [], false, 50, 0, 10⟩
set_option maxRecDepth 20000 in
theorem Bet_any (w : World) (x y z : Int) : Calls Tryz.prog 52 #[.int .i64 x, .int .i64 y, .int .i64 z] w fun e w' => e = .returned (.agg #[.int .i64 x, .int .i64 y, .int .i64 z]) ∧ Below w.heap.size w w' := by
  refine enter 11 Tryz.func52 (by kernel_rfl) fun hA => ?_
  refine runS hA 15 [.k 0, .k 0, .k 0] xn on (by kernel_rfl) fun w1 hA => ?_
  exact ret (v := .agg #[.int .i64 x, .int .i64 y, .int .i64 z]) hA [.k 0, .k 0, .k 0] (by kernel_rfl) ⟨rfl, hA.below⟩
set_option maxRecDepth 20000 in
theorem div_any (w : World) (x y z : Int) : Calls Tryz.prog 32 #[.int .i64 x, .int .i64 y, .int .i64 z] w fun e w' => e = .returned (.agg #[.int .i64 x, .int .i64 y, .int .i64 z]) ∧ Below w.heap.size w w' := by
  refine enter 11 Tryz.func32 (by kernel_rfl) fun hA => ?_
  refine runS hA 15 [.k 0, .k 0, .k 0] xn on (by kernel_rfl) fun w1 hA => ?_
  exact ret (v := .agg #[.int .i64 x, .int .i64 y, .int .i64 z]) hA [.k 0, .k 0, .k 0] (by kernel_rfl) ⟨rfl, hA.below⟩
set_option maxRecDepth 20000 in
theorem in_any (w : World) (A : Option Addr) (n c : Nat) : Calls Tryz.prog 28 #[.slice A n c] w fun e w' => e = .returned (.slice A n c) ∧ Below w.heap.size w w' := by
  refine enter 4 Tryz.func28 (by kernel_rfl) fun hA => ?_
  refine runS hA 12 [] xn on (by kernel_rfl) fun w1 hA => ?_
  exact ret (v := .slice A n c) hA [] (by kernel_rfl) ⟨rfl, hA.below⟩
set_option maxRecDepth 20000 in
theorem Book_any (w : World) (k : Int) : Calls Tryz.prog 26 #[.int .i64 k] w fun e w' => ∃ g, e = .returned (bkV (exB k) (some ⟨g, 0, none⟩) 3 3 none 0 0) ∧ Below w.heap.size w w' ∧ w'.heap[g]? = some (.cells #[.int .i64 0, .int .i64 (-1), .int .i64 5, .int .i64 1, .int .i64 (-1), .int .i64 3, .int .i64 2, .int .i64 (-1), .int .i64 2] 93 (0, 0)) ∧ w.heap.size ≤ g := by
  refine enter 9 Tryz.func26 (by kernel_rfl) fun hA => ?_
  refine runS hA 8 [] xn on (by kernel_rfl) fun w1 hA => ?_
  refine callB hA [] on (Bet_any w1 (0) (-1) (5)) (by kernel_rfl) fun w2 hb2 hA => ?_
  refine callB hA [] on (Bet_any w2 (1) (-1) (3)) (by kernel_rfl) fun w3 hb3 hA => ?_
  refine callB hA [] on (Bet_any w3 (2) (-1) (2)) (by kernel_rfl) fun w4 hb4 hA => ?_
  refine runS hA 6 (List.replicate 8 (.k 0)) xn on (by kernel_rfl) fun w5 hA => ?_
  exact ret (v := .agg #[.int .i64 k, .int .i64 3, .slice (some ⟨w4.heap.size, 0, none⟩) 3 3, .slice none 0 0, .bool false, .int .i64 0, .int .i64 100, .int .i64 10]) hA (List.replicate 8 (.k 0)) (by kernel_rfl) ⟨w4.heap.size, rfl, hA.below, hA.at_.ok ⟨w4.heap.size, .cells #[.int .i64 0, .int .i64 (-1), .int .i64 5, .int .i64 1, .int .i64 (-1), .int .i64 3, .int .i64 2, .int .i64 (-1), .int .i64 2] 93 (0, 0)⟩ (List.mem_of_getElem? (i := 1) (by kernel_rfl)), hA.at_.low ⟨w4.heap.size, .cells #[.int .i64 0, .int .i64 (-1), .int .i64 5, .int .i64 1, .int .i64 (-1), .int .i64 3, .int .i64 2, .int .i64 (-1), .int .i64 2] 93 (0, 0)⟩ (List.mem_of_getElem? (i := 1) (by kernel_rfl))⟩
set_option maxRecDepth 20000 in
theorem pairs_any (w : World) : Calls Tryz.prog 27 #[] w fun e w' => ∃ g, e = .returned (bkV exC (some ⟨g, 0, none⟩) 2 2 none 0 0) ∧ Below w.heap.size w w' ∧ w'.heap[g]? = some (.cells #[.int .i64 0, .int .i64 1, .int .i64 2, .int .i64 1, .int .i64 0, .int .i64 3] 93 (0, 0)) ∧ w.heap.size ≤ g := by
  refine enter 5 Tryz.func27 (by kernel_rfl) fun hA => ?_
  refine runS hA 7 [] xn on (by kernel_rfl) fun w1 hA => ?_
  refine callB hA [] on (Bet_any w1 (0) (1) (2)) (by kernel_rfl) fun w2 hb2 hA => ?_
  refine callB hA [] on (Bet_any w2 (1) (0) (3)) (by kernel_rfl) fun w3 hb3 hA => ?_
  refine runS hA 6 (List.replicate 8 (.k 0)) xn on (by kernel_rfl) fun w4 hA => ?_
  exact ret (v := .agg #[.int .i64 2, .int .i64 3, .slice (some ⟨w3.heap.size, 0, none⟩) 2 2, .slice none 0 0, .bool false, .int .i64 50, .int .i64 0, .int .i64 10]) hA (List.replicate 8 (.k 0)) (by kernel_rfl) ⟨w3.heap.size, rfl, hA.below, hA.at_.ok ⟨w3.heap.size, .cells #[.int .i64 0, .int .i64 1, .int .i64 2, .int .i64 1, .int .i64 0, .int .i64 3] 93 (0, 0)⟩ (List.mem_of_getElem? (i := 1) (by kernel_rfl)), hA.at_.low ⟨w3.heap.size, .cells #[.int .i64 0, .int .i64 1, .int .i64 2, .int .i64 1, .int .i64 0, .int .i64 3] 93 (0, 0)⟩ (List.mem_of_getElem? (i := 1) (by kernel_rfl))⟩
set_option maxRecDepth 20000 in
theorem ldiv_any (w : World) (B : Nat) (A : Option Addr) (n c : Nat) (A2 : Option Addr) (m c2 : Nat) (xs ys : List ((Int × Int) × Int)) (hx : PartsAt w B A n 3 (encD xs)) (hy : PartsAt w B A2 m 3 (encD ys)) (hB : B ≤ w.heap.size) : Calls Tryz.prog 15 #[.slice A n c, .slice A2 m c2] w fun e w' => e = .returned (.bool (decide (xs = ys))) ∧ Below w.heap.size w w' := by
  have hxl : xs.length = n := by have h9 := hx.1; rw [encD_len] at h9; omega
  have hyl : ys.length = m := by have h9 := hy.1; rw [encD_len] at h9; omega
  refine enter 26 Tryz.func15 (by kernel_rfl) fun hA => ?_
  refine runS hA 15 [.t 0] xn on (by kernel_rfl) fun w1 hA => ?_
  by_cases hnm : n = m
  case neg =>
    refine runS hA 8 [.b true] xn (oc (ne_t (a := (n : Int)) (b := (m : Int)) (by omega)) on) (by kernel_rfl) fun w2 hA => ?_
    exact ret (v := .bool false) hA [] (by kernel_rfl) ⟨by rw [decide_eq_false (fun h => hnm (by rw [← hxl, h, hyl]))], hA.below⟩
  case pos =>
    refine runS hA 10 [.b false] xn (oc (ne_f (a := (n : Int)) (b := (m : Int)) (by omega)) on) (by kernel_rfl) fun w2 hA => ?_
    refine loop (γ := Nat) (fun i => [(0, .slice A n c), (1, .slice A2 m c2), (5, .int .i64 (i : Int))]) (fun i => []) (fun _ => []) (fun g i wr => i ≤ n ∧ g = n - i ∧ ∀ j, j < i → xs[j]? = ys[j]?) n 0 [] hA (by kernel_rfl) (⟨Nat.zero_le _, rfl, fun j hj => absurd hj (Nat.not_lt_zero _)⟩) ?_
    rintro _ i wr ⟨hi, rfl, hs⟩ J hJ hA
    by_cases hlt : i < n
    case neg =>
      refine runS hA 12 [.b false] xn (oc (dec_f (show ¬ (((i : Int) : Int) < (n : Int)) by omega)) on) (by kernel_rfl) fun w3 hA => ?_
      refine leave hA (by kernel_rfl) fun hA => ?_
      refine runS hA 8 [] xn on (by kernel_rfl) fun w4 hA => ?_
      exact ret (v := .bool true) hA [] (by kernel_rfl) ⟨by rw [decide_eq_true (same_lists (by omega) fun j hj => hs j (by omega))], hA.below⟩
    case pos =>
      obtain ⟨b1, o1, rfl, hb1, hc1⟩ := hx.2.2 (by omega)
      obtain ⟨b2, o2, rfl, hb2, hc2⟩ := hy.2.2 (by omega)
      obtain ⟨g0, g1, g2⟩ := encD_get xs i (by omega)
      obtain ⟨k0, k1, k2⟩ := encD_get ys i (by omega)
      refine runS hA 15 [.b true] xn (oc (dec_t (show (((i : Int) : Int) < (n : Int)) by omega)) on) (by kernel_rfl) fun w3 hA => ?_
      have e0 : b1 < w.heap.size ∧ w.cell? ⟨b1, o1 + i * 3, none⟩ = some (.int .i64 (xs[i]?.getD ((0, 0), 0)).1.1) := ⟨by omega, by have := hc1 _ _ g0; exact this⟩
      have f0 : b2 < w.heap.size ∧ w.cell? ⟨b2, o2 + i * 3, none⟩ = some (.int .i64 (ys[i]?.getD ((0, 0), 0)).1.1) := ⟨by omega, by have := hc2 _ _ k0; exact this⟩
      have e1 : b1 < w.heap.size ∧ w.cell? ⟨b1, o1 + i * 3 + 1, none⟩ = some (.int .i64 (xs[i]?.getD ((0, 0), 0)).1.2) := ⟨by omega, by have := hc1 _ _ g1; exact this⟩
      have f1 : b2 < w.heap.size ∧ w.cell? ⟨b2, o2 + i * 3 + 1, none⟩ = some (.int .i64 (ys[i]?.getD ((0, 0), 0)).1.2) := ⟨by omega, by have := hc2 _ _ k1; exact this⟩
      have e2 : b1 < w.heap.size ∧ w.cell? ⟨b1, o1 + i * 3 + 2, none⟩ = some (.int .i64 (xs[i]?.getD ((0, 0), 0)).2) := ⟨by omega, by have := hc1 _ _ g2; exact this⟩
      have f2 : b2 < w.heap.size ∧ w.cell? ⟨b2, o2 + i * 3 + 2, none⟩ = some (.int .i64 (ys[i]?.getD ((0, 0), 0)).2) := ⟨by omega, by have := hc2 _ _ k2; exact this⟩
      refine draw hA [] [0, 1, 2, 3, 4, 5, 6, 7, 8] (by kernel_rfl) (by kernel_rfl) fun hA => ?_
      refine runS hA 8 [.t 0, .t 1, .t 2, .i, .t 3, .x (.int .i64 ((xs[i]?.getD ((0, 0), 0)).1.1)), .x (.int .i64 ((xs[i]?.getD ((0, 0), 0)).1.2)), .x (.int .i64 ((xs[i]?.getD ((0, 0), 0)).2)), .t 4, .t 5, .t 6, .i, .t 7, .x (.int .i64 ((ys[i]?.getD ((0, 0), 0)).1.1)), .x (.int .i64 ((ys[i]?.getD ((0, 0), 0)).1.2)), .x (.int .i64 ((ys[i]?.getD ((0, 0), 0)).2))] (xc (a := ⟨b1, o1 + i * 3, none⟩) e0 (xc (a := ⟨b1, o1 + i * 3 + 1, none⟩) e1 (xc (a := ⟨b1, o1 + i * 3 + 2, none⟩) e2 (xc (a := ⟨b2, o2 + i * 3, none⟩) f0 (xc (a := ⟨b2, o2 + i * 3 + 1, none⟩) f1 (xc (a := ⟨b2, o2 + i * 3 + 2, none⟩) f2 xn)))))) (oc (show (0 : Int) ≤ ((i : Int) : Int) ∧ ((i : Int) : Int) < (n : Int) by omega) (oc (show (0 : Int) ≤ ((i : Int) : Int) ∧ ((i : Int) : Int) < (m : Int) by omega) on)) (by kernel_rfl) fun w4 hA => ?_
      refine opv (v := .bool (!decide ((xs[i]?.getD ((0, 0), 0)) = (ys[i]?.getD ((0, 0), 0))))) hA [] on (s := cmpSem .neq 59 (.tmp 20) (.tmp 24) (.agg #[.int .i64 ((xs[i]?.getD ((0, 0), 0)).1.1), .int .i64 ((xs[i]?.getD ((0, 0), 0)).1.2), .int .i64 ((xs[i]?.getD ((0, 0), 0)).2)]) (.agg #[.int .i64 ((ys[i]?.getD ((0, 0), 0)).1.1), .int .i64 ((ys[i]?.getD ((0, 0), 0)).1.2), .int .i64 ((ys[i]?.getD ((0, 0), 0)).2)])) (by kernel_rfl) (cmp_flat (n := 3) true (by kernel_rfl) _ (by kernel_rfl) (fun i hi => by match i, hi with | 0, _ => exact ⟨_, _, _, rfl, rfl⟩ | 1, _ => exact ⟨_, _, _, rfl, rfl⟩ | 2, _ => exact ⟨_, _, _, rfl, rfl⟩) ((xs[i]?.getD ((0, 0), 0)) = (ys[i]?.getD ((0, 0), 0))) (by generalize (xs[i]?.getD ((0, 0), 0)) = u; generalize (ys[i]?.getD ((0, 0), 0)) = v; obtain ⟨⟨u1, u2⟩, u3⟩ := u; obtain ⟨⟨v1, v2⟩, v3⟩ := v; simp [and_assoc]) (by kernel_rfl)) fun hA => ?_
      by_cases he : (xs[i]?.getD ((0, 0), 0)) = (ys[i]?.getD ((0, 0), 0))
      case neg =>
        refine revals hA (rc 25 (show .bool (!decide ((xs[i]?.getD ((0, 0), 0)) = (ys[i]?.getD ((0, 0), 0)))) = .bool true by rw [decide_eq_false he]; rfl) rn) (by kernel_rfl) fun hA => ?_
        refine runS hA 11 [.b true] xn on (by kernel_rfl) fun w5 hA => ?_
        refine leave hA (by kernel_rfl) fun hA => ?_
        refine runS hA 2 [] xn on (by kernel_rfl) fun w6 hA => ?_
        exact ret (v := .bool false) hA [] (by kernel_rfl) ⟨by rw [decide_eq_false (fun h => he (by rw [h]))], hA.below⟩
      case pos =>
        refine revals hA (rc 25 (show .bool (!decide ((xs[i]?.getD ((0, 0), 0)) = (ys[i]?.getD ((0, 0), 0)))) = .bool false by rw [decide_eq_true he]; rfl) rn) (by kernel_rfl) fun hA => ?_
        refine runS hA 11 [.b true] xn on (by kernel_rfl) fun w5 hA => ?_
        refine revals hA (rc 5 (wr64 (x := (i : Int) + 1) (y := ((i + 1 : Nat) : Int)) (by have := hx.2.1; omega) (by omega)) rn) (by kernel_rfl) fun hA => ?_
        exact again hJ (n - (i + 1)) (i + 1) [] hA (by omega) (by kernel_rfl) (⟨by omega, rfl, fun j hj => by by_cases hji : j = i; rw [hji]; exact (get_eq (by omega) (by omega)).2 he; exact hs j (by omega)⟩)
set_option maxRecDepth 20000 in
theorem ltwo_any (w : World) (B : Nat) (A : Option Addr) (n c : Nat) (A2 : Option Addr) (m c2 : Nat) (xs ys : List (Int × Int)) (hx : PartsAt w B A n 2 (encW xs)) (hy : PartsAt w B A2 m 2 (encW ys)) (hB : B ≤ w.heap.size) : Calls Tryz.prog 33 #[.slice A n c, .slice A2 m c2] w fun e w' => e = .returned (.bool (decide (xs = ys))) ∧ Below w.heap.size w w' := by
  have hxl : xs.length = n := by have h9 := hx.1; rw [encW_len] at h9; omega
  have hyl : ys.length = m := by have h9 := hy.1; rw [encW_len] at h9; omega
  refine enter 26 Tryz.func33 (by kernel_rfl) fun hA => ?_
  refine runS hA 15 [.t 0] xn on (by kernel_rfl) fun w1 hA => ?_
  by_cases hnm : n = m
  case neg =>
    refine runS hA 8 [.b true] xn (oc (ne_t (a := (n : Int)) (b := (m : Int)) (by omega)) on) (by kernel_rfl) fun w2 hA => ?_
    exact ret (v := .bool false) hA [] (by kernel_rfl) ⟨by rw [decide_eq_false (fun h => hnm (by rw [← hxl, h, hyl]))], hA.below⟩
  case pos =>
    refine runS hA 10 [.b false] xn (oc (ne_f (a := (n : Int)) (b := (m : Int)) (by omega)) on) (by kernel_rfl) fun w2 hA => ?_
    refine loop (γ := Nat) (fun i => [(0, .slice A n c), (1, .slice A2 m c2), (5, .int .i64 (i : Int))]) (fun i => []) (fun _ => []) (fun g i wr => i ≤ n ∧ g = n - i ∧ ∀ j, j < i → xs[j]? = ys[j]?) n 0 [] hA (by kernel_rfl) (⟨Nat.zero_le _, rfl, fun j hj => absurd hj (Nat.not_lt_zero _)⟩) ?_
    rintro _ i wr ⟨hi, rfl, hs⟩ J hJ hA
    by_cases hlt : i < n
    case neg =>
      refine runS hA 12 [.b false] xn (oc (dec_f (show ¬ (((i : Int) : Int) < (n : Int)) by omega)) on) (by kernel_rfl) fun w3 hA => ?_
      refine leave hA (by kernel_rfl) fun hA => ?_
      refine runS hA 8 [] xn on (by kernel_rfl) fun w4 hA => ?_
      exact ret (v := .bool true) hA [] (by kernel_rfl) ⟨by rw [decide_eq_true (same_lists (by omega) fun j hj => hs j (by omega))], hA.below⟩
    case pos =>
      obtain ⟨b1, o1, rfl, hb1, hc1⟩ := hx.2.2 (by omega)
      obtain ⟨b2, o2, rfl, hb2, hc2⟩ := hy.2.2 (by omega)
      obtain ⟨g0, g1⟩ := encW_get xs i (by omega)
      obtain ⟨k0, k1⟩ := encW_get ys i (by omega)
      refine runS hA 15 [.b true] xn (oc (dec_t (show (((i : Int) : Int) < (n : Int)) by omega)) on) (by kernel_rfl) fun w3 hA => ?_
      have e0 : b1 < w.heap.size ∧ w.cell? ⟨b1, o1 + i * 2, none⟩ = some (.int .i64 (xs[i]?.getD (0, 0)).1) := ⟨by omega, by have := hc1 _ _ g0; exact this⟩
      have f0 : b2 < w.heap.size ∧ w.cell? ⟨b2, o2 + i * 2, none⟩ = some (.int .i64 (ys[i]?.getD (0, 0)).1) := ⟨by omega, by have := hc2 _ _ k0; exact this⟩
      have e1 : b1 < w.heap.size ∧ w.cell? ⟨b1, o1 + i * 2 + 1, none⟩ = some (.int .i64 (xs[i]?.getD (0, 0)).2) := ⟨by omega, by have := hc1 _ _ g1; exact this⟩
      have f1 : b2 < w.heap.size ∧ w.cell? ⟨b2, o2 + i * 2 + 1, none⟩ = some (.int .i64 (ys[i]?.getD (0, 0)).2) := ⟨by omega, by have := hc2 _ _ k1; exact this⟩
      refine draw hA [] [0, 1, 2, 3, 4, 5, 6, 7, 8] (by kernel_rfl) (by kernel_rfl) fun hA => ?_
      refine runS hA 8 [.t 0, .t 1, .t 2, .i, .t 3, .x (.int .i64 ((xs[i]?.getD (0, 0)).1)), .x (.int .i64 ((xs[i]?.getD (0, 0)).2)), .t 4, .t 5, .t 6, .i, .t 7, .x (.int .i64 ((ys[i]?.getD (0, 0)).1)), .x (.int .i64 ((ys[i]?.getD (0, 0)).2))] (xc (a := ⟨b1, o1 + i * 2, none⟩) e0 (xc (a := ⟨b1, o1 + i * 2 + 1, none⟩) e1 (xc (a := ⟨b2, o2 + i * 2, none⟩) f0 (xc (a := ⟨b2, o2 + i * 2 + 1, none⟩) f1 xn)))) (oc (show (0 : Int) ≤ ((i : Int) : Int) ∧ ((i : Int) : Int) < (n : Int) by omega) (oc (show (0 : Int) ≤ ((i : Int) : Int) ∧ ((i : Int) : Int) < (m : Int) by omega) on)) (by kernel_rfl) fun w4 hA => ?_
      refine opv (v := .bool (!decide ((xs[i]?.getD (0, 0)) = (ys[i]?.getD (0, 0))))) hA [] on (s := cmpSem .neq 57 (.tmp 20) (.tmp 24) (.agg #[.int .i64 ((xs[i]?.getD (0, 0)).1), .int .i64 ((xs[i]?.getD (0, 0)).2)]) (.agg #[.int .i64 ((ys[i]?.getD (0, 0)).1), .int .i64 ((ys[i]?.getD (0, 0)).2)])) (by kernel_rfl) (cmp_flat (n := 2) true (by kernel_rfl) _ (by kernel_rfl) (fun i hi => by match i, hi with | 0, _ => exact ⟨_, _, _, rfl, rfl⟩ | 1, _ => exact ⟨_, _, _, rfl, rfl⟩) ((xs[i]?.getD (0, 0)) = (ys[i]?.getD (0, 0))) (by generalize (xs[i]?.getD (0, 0)) = u; generalize (ys[i]?.getD (0, 0)) = v; obtain ⟨u1, u2⟩ := u; obtain ⟨v1, v2⟩ := v; simp) (by kernel_rfl)) fun hA => ?_
      by_cases he : (xs[i]?.getD (0, 0)) = (ys[i]?.getD (0, 0))
      case neg =>
        refine revals hA (rc 25 (show .bool (!decide ((xs[i]?.getD (0, 0)) = (ys[i]?.getD (0, 0)))) = .bool true by rw [decide_eq_false he]; rfl) rn) (by kernel_rfl) fun hA => ?_
        refine runS hA 11 [.b true] xn on (by kernel_rfl) fun w5 hA => ?_
        refine leave hA (by kernel_rfl) fun hA => ?_
        refine runS hA 2 [] xn on (by kernel_rfl) fun w6 hA => ?_
        exact ret (v := .bool false) hA [] (by kernel_rfl) ⟨by rw [decide_eq_false (fun h => he (by rw [h]))], hA.below⟩
      case pos =>
        refine revals hA (rc 25 (show .bool (!decide ((xs[i]?.getD (0, 0)) = (ys[i]?.getD (0, 0)))) = .bool false by rw [decide_eq_true he]; rfl) rn) (by kernel_rfl) fun hA => ?_
        refine runS hA 11 [.b true] xn on (by kernel_rfl) fun w5 hA => ?_
        refine revals hA (rc 5 (wr64 (x := (i : Int) + 1) (y := ((i + 1 : Nat) : Int)) (by have := hx.2.1; omega) (by omega)) rn) (by kernel_rfl) fun hA => ?_
        exact again hJ (n - (i + 1)) (i + 1) [] hA (by omega) (by kernel_rfl) (⟨by omega, rfl, fun j hj => by by_cases hji : j = i; rw [hji]; exact (get_eq (by omega) (by omega)).2 he; exact hs j (by omega)⟩)
end Go.Proofs.YtbahiemjaomdcaaGreat

/- quinellalaw03: the values of the examples. -/
namespace Go.Proofs.YtbahiemjaomdcaaGreat
open Go.RowKit Go.Shelf

theorem srt_at (xs ys : List Int) (hp : ys.Perm xs) (hs : ys.Pairwise fun x y => decide (x ≤ y) = true) : srtF xs = ys := by
  unfold srtF
  refine List.Perm.eq_of_pairwise (fun a b _ _ h1 h2 => ?_) (List.pairwise_mergeSort (le := fun x y : Int => decide (x ≤ y)) (by intro a b c h1 h2; simp only [decide_eq_true_eq] at *; omega) (by intro a b; simp only [Bool.or_eq_true, decide_eq_true_eq]; omega) xs) hs ((List.mergeSort_perm xs _).trans hp.symm)
  simp only [decide_eq_true_eq] at h1 h2
  omega
theorem srt102 : srtF [1, 0, 2] = [0, 1, 2] := srt_at _ _ (by decide) (by decide)
/-- The book B with runner 2 scratched. -/
def exS (f : Bool) : Bk := ⟨0, 3, [⟨0, -1, 5⟩, ⟨1, -1, 3⟩, ⟨2, -1, 2⟩], [2], f, 0, 100, 10⟩
theorem wkB0 : bookF (exB 0) = 0 := by kernel_rfl
theorem wkU : dvE (exB 0) [[0, 1], [2]] = 0 ∧ dvA (exB 0) [[0, 1], [2]] = [((0, -1), 90), ((1, -1), 150)] := ⟨by kernel_rfl, by kernel_rfl⟩
def payW (t : Till) (ws : List (Int × Int)) : PM := delF ws (unitF t t.b.bets (zerF ws))
theorem payF_w {b : Bk} {fs : List (List Int)} {ws : List (Int × Int)} (h : winF b fs = ws) : payF (tilF b) fs = payW (tilF b) ws := by
  show payW (tilF b) (winF b fs) = _
  rw [h]
theorem srt201 : srtF [2, 0] = [0, 2] := srt_at _ _ (by decide) (by decide)
theorem pla_at {x : Int} {ys zs : List Int} {fs : List (List Int)} (h : srtF (x :: ys) = zs) : plaF ([x] :: ys :: fs) = zs := h
theorem wkV' : winF (exB 1) [[1], [0, 2]] = [(0, -1), (1, -1), (2, -1)] := by
  show sinF (plaF [[1], [0, 2]]) = _
  rw [pla_at srt102]
  rfl
theorem wkX' : winF exC [[2], [0], [1]] = [(2, 0)] := by
  show prsF (pairF [2]) (plaF [[2], [0], [1]]) = _
  rw [pla_at srt201]
  kernel_rfl
theorem wkV : dvE (exB 1) [[1], [0, 2]] = 0 ∧ dvA (exB 1) [[1], [0, 2]] = [((0, -1), 60), ((1, -1), 100), ((2, -1), 150)] := by
  unfold dvA dvE
  rw [payF_w wkV', wkV']
  exact ⟨by kernel_rfl, by kernel_rfl⟩
theorem wkA : atF (exB 0) [[0, 2], [1]] = 0 ∧ AccountF (exB 0) [[0, 2], [1]] = ⟨1000, 0, 100, 890, 10, 0⟩ := ⟨by kernel_rfl, by kernel_rfl⟩
theorem wkS : scE (exB 0) 2 = 0 ∧ scB' (exB 0) 2 = exS false := ⟨by kernel_rfl, by kernel_rfl⟩
theorem wkW : atF (exS true) [[0], [1]] = 0 ∧ AccountF (exS true) [[0], [1]] = ⟨1000, 0, 100, 840, 60, 0⟩ := ⟨by kernel_rfl, by kernel_rfl⟩
theorem wkX : atF exC [[2], [0], [1]] = 0 ∧ winA exC [[2], [0], [1]] = [(2, 0)] := by
  unfold winA
  rw [wkX']
  exact ⟨by kernel_rfl, by kernel_rfl⟩
theorem wkE7 : dvE exC [[2], [0], [1]] = 19 ∧ dvA exC [[2], [0], [1]] = [] := by
  unfold dvA dvE
  rw [payF_w wkX', wkX']
  exact ⟨by kernel_rfl, by kernel_rfl⟩
theorem wkY : atF exC [[0, 1], [2]] = 0 ∧ AccountF exC [[0, 1], [2]] = ⟨550, 0, 0, 530, 20, 0⟩ := ⟨by kernel_rfl, by kernel_rfl⟩
theorem wkN : payE (exB 0) [[0, 1], [2]] 0 = 0 ∧ payA (exB 0) [[0, 1], [2]] 0 = 450 := ⟨by kernel_rfl, by kernel_rfl⟩
theorem wkF : favR (exB 0) = 0 := by kernel_rfl
theorem wkR : sprF (exB 0) = (890, 900) := by kernel_rfl
theorem wkC : atF (exB 0) [[0], [2]] = 22 := by kernel_rfl
end Go.Proofs.YtbahiemjaomdcaaGreat

/- quinellalaw03: Works. -/
namespace Go.Proofs.YtbahiemjaomdcaaGreat
open Go.RowKit Go.Shelf

theorem ints_lit {w : World} {g : Nat} {xs : List Int} (h : w.heap[g]? = some (.cells (ints xs).toArray 3 (0, 0))) (hm : xs.length ≤ 1000) : IntsAt w w.heap.size (some ⟨g, 0, none⟩) xs.length xs :=
  ⟨rfl, by omega, fun _ => ⟨g, 0, rfl, (Array.getElem?_eq_some_iff.1 h).1, fun j hj => by
    refine cell_of_obj h rfl ?_
    show (ints xs).toArray[0 + j]? = _
    rw [Nat.zero_add, List.getElem?_toArray]
    unfold ints
    rw [List.getElem?_map, List.getElem?_eq_getElem hj]
    rfl⟩⟩
theorem fin1 {w : World} {g g0 : Nat} {xs0 : List Int} (h : w.heap[g]? = some (.cells #[.slice (some ⟨g0, 0, none⟩) xs0.length xs0.length] 23 (0, 0)))
    (h0 : w.heap[g0]? = some (.cells (ints xs0).toArray 3 (0, 0))) (l0 : xs0.length ≤ 1000) : FinAt w w.heap.size (some ⟨g, 0, none⟩) 1 [xs0] :=
  ⟨rfl, by decide, fun _ => ⟨g, 0, rfl, (Array.getElem?_eq_some_iff.1 h).1, fun j hj => by
    match j, hj with
    | 0, _ => exact ⟨_, _, cell_of_obj (a := ⟨g, 0 + 0, none⟩) h rfl rfl, Nat.le_refl _, ints_lit h0 l0⟩⟩⟩
theorem fin2 {w : World} {g g0 g1 : Nat} {xs0 xs1 : List Int} (h : w.heap[g]? = some (.cells #[.slice (some ⟨g0, 0, none⟩) xs0.length xs0.length, .slice (some ⟨g1, 0, none⟩) xs1.length xs1.length] 23 (0, 0)))
    (h0 : w.heap[g0]? = some (.cells (ints xs0).toArray 3 (0, 0))) (l0 : xs0.length ≤ 1000) (h1 : w.heap[g1]? = some (.cells (ints xs1).toArray 3 (0, 0))) (l1 : xs1.length ≤ 1000) : FinAt w w.heap.size (some ⟨g, 0, none⟩) 2 [xs0, xs1] :=
  ⟨rfl, by decide, fun _ => ⟨g, 0, rfl, (Array.getElem?_eq_some_iff.1 h).1, fun j hj => by
    match j, hj with
    | 0, _ => exact ⟨_, _, cell_of_obj (a := ⟨g, 0 + 0, none⟩) h rfl rfl, Nat.le_refl _, ints_lit h0 l0⟩
    | 1, _ => exact ⟨_, _, cell_of_obj (a := ⟨g, 0 + 1, none⟩) h rfl rfl, Nat.le_refl _, ints_lit h1 l1⟩⟩⟩
theorem fin3 {w : World} {g g0 g1 g2 : Nat} {xs0 xs1 xs2 : List Int} (h : w.heap[g]? = some (.cells #[.slice (some ⟨g0, 0, none⟩) xs0.length xs0.length, .slice (some ⟨g1, 0, none⟩) xs1.length xs1.length, .slice (some ⟨g2, 0, none⟩) xs2.length xs2.length] 23 (0, 0)))
    (h0 : w.heap[g0]? = some (.cells (ints xs0).toArray 3 (0, 0))) (l0 : xs0.length ≤ 1000) (h1 : w.heap[g1]? = some (.cells (ints xs1).toArray 3 (0, 0))) (l1 : xs1.length ≤ 1000) (h2 : w.heap[g2]? = some (.cells (ints xs2).toArray 3 (0, 0))) (l2 : xs2.length ≤ 1000) : FinAt w w.heap.size (some ⟨g, 0, none⟩) 3 [xs0, xs1, xs2] :=
  ⟨rfl, by decide, fun _ => ⟨g, 0, rfl, (Array.getElem?_eq_some_iff.1 h).1, fun j hj => by
    match j, hj with
    | 0, _ => exact ⟨_, _, cell_of_obj (a := ⟨g, 0 + 0, none⟩) h rfl rfl, Nat.le_refl _, ints_lit h0 l0⟩
    | 1, _ => exact ⟨_, _, cell_of_obj (a := ⟨g, 0 + 1, none⟩) h rfl rfl, Nat.le_refl _, ints_lit h1 l1⟩
    | 2, _ => exact ⟨_, _, cell_of_obj (a := ⟨g, 0 + 2, none⟩) h rfl rfl, Nat.le_refl _, ints_lit h2 l2⟩⟩⟩
theorem bets_lit {w : World} {g : Nat} {bs : List Bet} (h : w.heap[g]? = some (.cells (encB bs).toArray 93 (0, 0))) (hm : bs.length ≤ 1000) : BetsAt w w.heap.size (some ⟨g, 0, none⟩) bs.length bs :=
  bets_row h (fun q _ => List.getElem?_toArray) rfl (by omega)
theorem no_ints (w : World) : IntsAt w w.heap.size none 0 [] := ⟨rfl, by decide, fun h => absurd h (by decide)⟩
theorem exB_at {w : World} {g : Nat} (k : Int) (h : w.heap[g]? = some (.cells (encB (exB k).bets).toArray 93 (0, 0))) : BkAt w w.heap.size (exB k) (some ⟨g, 0, none⟩) 3 3 none 0 0 := ⟨bets_lit h (show 3 ≤ 1000 by decide), no_ints w, Nat.le_refl _, Nat.le_refl _⟩
theorem exC_at {w : World} {g : Nat} (h : w.heap[g]? = some (.cells (encB exC.bets).toArray 93 (0, 0))) : BkAt w w.heap.size exC (some ⟨g, 0, none⟩) 2 2 none 0 0 := ⟨bets_lit h (by decide), no_ints w, Nat.le_refl _, Nat.le_refl _⟩
theorem row_bets {w : World} {g n c : Nat} {cu : Array Value} {bs : List Bet} (hr : RowV 93 3 (.slice (some ⟨g, 0, none⟩) n c) n (encB bs) [⟨g, .cells cu 93 (0, 0)⟩]) (h : w.heap[g]? = some (.cells cu 93 (0, 0))) (hm : n ≤ 1000) : BetsAt w w.heap.size (some ⟨g, 0, none⟩) n bs ∧ n ≤ c := by
  rcases hr.2 with ⟨h1, -⟩ | ⟨g', cap, cur, h1, h2, h3, -, -, h6⟩
  · cases h1
  · cases h1
    cases h2
    have hl := hr.1
    rw [encB_len] at hl
    refine ⟨bets_row h (fun q hq => ?_) (by omega) (by omega), h3⟩
    rw [← h6, List.getElem?_take_of_lt hq, Array.getElem?_toList]
theorem row_ints2 {w : World} {g n c : Nat} {cu : Array Value} {xs : List Int} (hr : RowV 3 1 (.slice (some ⟨g, 0, none⟩) n c) n (ints xs) [⟨g, .cells cu 3 (0, 0)⟩]) (h : w.heap[g]? = some (.cells cu 3 (0, 0))) (hm : n ≤ 1000) : IntsAt w w.heap.size (some ⟨g, 0, none⟩) n xs ∧ n ≤ c := by
  rcases hr.2 with ⟨h1, -⟩ | ⟨g', cap, cur, h1, h2, h3, -, -, h6⟩
  · cases h1
  · cases h1
    cases h2
    have hl := hr.1
    simp only [ints, List.length_map, Nat.mul_one] at hl
    rw [Nat.mul_one] at h6
    refine ⟨⟨hl, by omega, fun _ => ⟨g, 0, rfl, (Array.getElem?_eq_some_iff.1 h).1, fun j hj => ?_⟩⟩, h3⟩
    refine cell_of_obj h rfl ?_
    show cu[0 + j]? = _
    rw [Nat.zero_add]
    exact take_get h6 hj hl
theorem row_parts {w : World} {T : TypeId} {g n c k : Nat} {cu : Array Value} {vs : List Value} (hr : RowV T k (.slice (some ⟨g, 0, none⟩) n c) n vs [⟨g, .cells cu T (0, 0)⟩]) (h : w.heap[g]? = some (.cells cu T (0, 0))) (hm : n ≤ 1000) : PartsAt w w.heap.size (some ⟨g, 0, none⟩) n k vs := by
  rcases hr.2 with ⟨h1, -⟩ | ⟨g', cap, cur, h1, h2, h3, -, -, h6⟩
  · cases h1
  · cases h1
    cases h2
    exact parts_row h h6 hr.1 (by omega)
theorem rows_at {w : World} {b : Bk} {n m g1 c1 g2 c2 : Nat} {u1 u2 : Array Value} (hr1 : RowV 93 3 (.slice (some ⟨g1, 0, none⟩) n c1) n (encB b.bets) [⟨g1, .cells u1 93 (0, 0)⟩]) (hr2 : RowV 3 1 (.slice (some ⟨g2, 0, none⟩) m c2) m (ints b.scr) [⟨g2, .cells u2 3 (0, 0)⟩])
    (h1 : w.heap[g1]? = some (.cells u1 93 (0, 0))) (h2 : w.heap[g2]? = some (.cells u2 3 (0, 0))) (hn : n ≤ 1000) (hm : m ≤ 1000) : BkAt w w.heap.size b (some ⟨g1, 0, none⟩) n c1 (some ⟨g2, 0, none⟩) m c2 := by
  obtain ⟨k1, k2⟩ := row_bets hr1 h1 hn
  obtain ⟨k3, k4⟩ := row_ints2 hr2 h2 hm
  exact ⟨k1, k3, k2, k4⟩
@[reducible] def kB (g : Nat) : KB := ⟨g, .cells #[.int .i64 0, .int .i64 (-1), .int .i64 5, .int .i64 1, .int .i64 (-1), .int .i64 3, .int .i64 2, .int .i64 (-1), .int .i64 2] 93 (0, 0)⟩
@[reducible] def kC (g : Nat) : KB := ⟨g, .cells #[.int .i64 0, .int .i64 1, .int .i64 2, .int .i64 1, .int .i64 0, .int .i64 3] 93 (0, 0)⟩
@[reducible] def cK (b : Bk) (g n : Nat) : Array Value := #[.int .i64 (b.kind), .int .i64 (b.runners), .slice (some ⟨g, 0, none⟩) n n, .slice none 0 0, .bool (b.fav), .int .i64 (b.car), .int .i64 (b.dut), .int .i64 (b.stp)]
@[reducible] def xK (b : Bk) (p g n : Nat) : KB := ⟨p, .cells (cK b g n) 25 (0, 0)⟩
@[reducible] def vK (b : Bk) (g n : Nat) : Value := .agg (cK b g n)
@[reducible] def cS (f : Bool) (g c h d : Nat) : Array Value := #[.int .i64 0, .int .i64 3, .slice (some ⟨g, 0, none⟩) 3 c, .slice (some ⟨h, 0, none⟩) 1 d, .bool f, .int .i64 0, .int .i64 100, .int .i64 10]
@[reducible] def xS (f : Bool) (p g c h d : Nat) : KB := ⟨p, .cells (cS f g c h d) 25 (0, 0)⟩
@[reducible] def vS (f : Bool) (g c h d : Nat) : Value := .agg (cS f g c h d)
set_option maxHeartbeats 8000000 in
set_option maxRecDepth 20000 in
theorem Works_any (w : World) : Calls Tryz.prog 8 #[] w fun e w' => e = .returned (.bool true) ∧ Below w.heap.size w w' := by
  refine enter 219 Tryz.func8 (by kernel_rfl) fun hA => ?_
  refine runS hA 7 [] xn on (by kernel_rfl) fun w1 hA => ?_
  have hAp := hA.atK [] (by kernel_rfl)
  refine call hA [] on (Book_any w1 0) (by kernel_rfl) (by rintro e v ⟨g1, rfl, hbg1, hgg1, hlg1⟩; exact hbg1) ?_
  rintro e w2 ⟨g1, rfl, hbg1, hgg1, hlg1⟩
  refine ⟨_, rfl, fun hA => ?_⟩
  have hAq := At.know hAp hbg1 hgg1 hlg1
  refine reknow ⟨[(kB g1)], w2.heap.size, [], [], [], [], []⟩ hAq (Nat.zero_le _) fun hA => ?_
  have hAp := hA.atK [(kB g1)] (by kernel_rfl)
  refine call hA [] on (Book_any w2 1) (by kernel_rfl) (by rintro e v ⟨g2, rfl, hbg2, hgg2, hlg2⟩; exact hbg2) ?_
  rintro e w3 ⟨g2, rfl, hbg2, hgg2, hlg2⟩
  refine ⟨_, rfl, fun hA => ?_⟩
  have hAq := At.know hAp hbg2 hgg2 hlg2
  refine reknow ⟨[(kB g1), (kB g2)], w3.heap.size, [], [], [], [], []⟩ hAq (Nat.zero_le _) fun hA => ?_
  have hAp := hA.atK [(kB g1), (kB g2)] (by kernel_rfl)
  refine call hA [] on (pairs_any w3) (by kernel_rfl) (by rintro e v ⟨g3, rfl, hbg3, hgg3, hlg3⟩; exact hbg3) ?_
  rintro e w4 ⟨g3, rfl, hbg3, hgg3, hlg3⟩
  refine ⟨_, rfl, fun hA => ?_⟩
  have hAq := At.know hAp hbg3 hgg3 hlg3
  refine reknow ⟨[(kB g1), (kB g2), (kC g3)], w4.heap.size, [], [], [], [], []⟩ hAq (Nat.zero_le _) fun hA => ?_
  refine runS hA 9 (List.replicate 8 (.k 3) ++ List.replicate 8 (.k 4) ++ List.replicate 8 (.k 5)) xn on (by kernel_rfl) fun w5 hA => ?_
  refine draw hA [true, true, true, true, true, true] [0, 1, 2, 3, 4, 5, 6, 7, 8, 9, 10] (by kernel_rfl) (by kernel_rfl) fun hA => ?_
  refine runS hA 1 ([.t 0] ++ List.replicate 8 (.k 3)) xn on (by kernel_rfl) fun w6 hA => ?_
  have hA0RU := hA
  refine latK hA0RU [1, 2, 3, 4, 5, 6, 7, 8, 9, 10] (γ := Nat × Nat × Nat × Nat × Nat × Array Value) (fun ⟨bRU1, bRU2, bRU3, gu, cu, uu⟩ => [(0, .bool false), (1, .pointer (some ⟨w4.heap.size, 0, none⟩)), (2, .pointer (some ⟨w4.heap.size + 1, 0, none⟩)), (3, .pointer (some ⟨w4.heap.size + 2, 0, none⟩)), (4, .slice (some ⟨gu, 0, none⟩) 2 cu), (5, .int .i64 0)]) (fun ⟨bRU1, bRU2, bRU3, gu, cu, uu⟩ => [(kB g1), (kB g2), (kC g3), (xK (exB 0) w4.heap.size g1 3), (xK (exB 1) (w4.heap.size + 1) g2 3), (xK exC (w4.heap.size + 2) g3 2)]) (fun ⟨bRU1, bRU2, bRU3, gu, cu, uu⟩ => [⟨gu, .cells uu 59 (0, 0)⟩]) (fun ⟨bRU1, bRU2, bRU3, gu, cu, uu⟩ _ => RowV 59 3 (.slice (some ⟨gu, 0, none⟩) 2 cu) 2 (encD [((0, -1), 90), ((1, -1), 150)]) [⟨gu, .cells uu 59 (0, 0)⟩]) (fun hRU1_2_3_4_5 => ?_) ?_
  ·
    refine latS hA0RU [1, 2, 3, 4] (γ := Nat × Nat × Nat) (fun ⟨bRU1, bRU2, bRU3⟩ => [(0, .bool false), (1, .pointer (some ⟨w4.heap.size, 0, none⟩)), (2, .pointer (some ⟨w4.heap.size + 1, 0, none⟩)), (3, .pointer (some ⟨w4.heap.size + 2, 0, none⟩)), (31, (vK (exB 0) g1 3)), (32, .slice (some ⟨bRU1, 0, none⟩) 2 2), (33, .slice (some ⟨bRU2, 0, none⟩) 1 1), (34, .slice (some ⟨bRU3, 0, none⟩) 2 2), (35, .slice (some ⟨bRU3, 0, none⟩) 2 2)]) (fun ⟨bRU1, bRU2, bRU3⟩ => [(kB g1), (kB g2), (kC g3), (xK (exB 0) w4.heap.size g1 3), (xK (exB 1) (w4.heap.size + 1) g2 3), (xK exC (w4.heap.size + 2) g3 2), ⟨bRU1, .cells #[.int .i64 0, .int .i64 1] 3 (0, 0)⟩, ⟨bRU2, .cells #[.int .i64 2] 3 (0, 0)⟩, ⟨bRU3, .cells #[.slice (some ⟨bRU1, 0, none⟩) 2 2, .slice (some ⟨bRU2, 0, none⟩) 1 1] 23 (0, 0)⟩]) (fun ⟨bRU1, bRU2, bRU3⟩ => []) (fun ⟨bRU1, bRU2, bRU3⟩ _ => True) ?_ (fun hRU1_2_3_4 => ?_)
    · rintro ⟨bRU1, bRU2, bRU3⟩ wl7 _ hA
      have hAp := hA.atK [(kB g1), (kB g2), (kC g3), (xK (exB 0) w4.heap.size g1 3), (xK (exB 1) (w4.heap.size + 1) g2 3), (xK exC (w4.heap.size + 2) g3 2), ⟨bRU1, .cells #[.int .i64 0, .int .i64 1] 3 (0, 0)⟩, ⟨bRU2, .cells #[.int .i64 2] 3 (0, 0)⟩, ⟨bRU3, .cells #[.slice (some ⟨bRU1, 0, none⟩) 2 2, .slice (some ⟨bRU2, 0, none⟩) 1 1] 23 (0, 0)⟩] (by kernel_rfl)
      have hP := Dividends_any wl7 wl7.heap.size (exB 0) (some ⟨g1, 0, none⟩) 3 3 none 0 0 (some ⟨bRU3, 0, none⟩) 2 2 [[0, 1], [2]] (exB_at 0 (hA.at_.ok (kB g1) (List.mem_of_getElem? (i := 0) (by kernel_rfl)))) (fin2 (hA.at_.ok ⟨bRU3, .cells #[.slice (some ⟨bRU1, 0, none⟩) 2 2, .slice (some ⟨bRU2, 0, none⟩) 1 1] 23 (0, 0)⟩ (List.mem_of_getElem? (i := 8) (by kernel_rfl))) (xs0 := [0, 1]) (hA.at_.ok ⟨bRU1, .cells #[.int .i64 0, .int .i64 1] 3 (0, 0)⟩ (List.mem_of_getElem? (i := 6) (by kernel_rfl))) (by decide) (xs1 := [2]) (hA.at_.ok ⟨bRU2, .cells #[.int .i64 2] 3 (0, 0)⟩ (List.mem_of_getElem? (i := 7) (by kernel_rfl))) (by decide)) (Nat.le_refl _)
      rw [wkU.1, wkU.2] at hP
      refine call hA [] on (hP) (by kernel_rfl) (by rintro e v ⟨v, rfl, hbd, hown, hnil⟩; exact hbd) ?_
      rintro e w108 ⟨v, rfl, hbd, hown, hnil⟩
      refine ⟨_, rfl, fun hA => ?_⟩
      obtain ⟨ob9, hr9, hA2⟩ := At.own hAp hbd hown
      obtain ⟨gu, cu, uu, hv9, rfl, -⟩ : ∃ gz cz uz, v = .slice (some ⟨gz, 0, none⟩) 2 cz ∧ ob9 = [⟨gz, .cells uz 59 (0, 0)⟩] ∧ True := by
        rcases hr9.2 with ⟨-, h9, -⟩ | ⟨gz, cz, uz, h8, h9, -⟩
        · exact absurd h9 (by decide)
        · exact ⟨gz, cz, uz, h8, h9, trivial⟩
      cases hv9
      refine reknow ⟨[(kB g1), (kB g2), (kC g3), (xK (exB 0) w4.heap.size g1 3), (xK (exB 1) (w4.heap.size + 1) g2 3), (xK exC (w4.heap.size + 2) g3 2), ⟨bRU1, .cells #[.int .i64 0, .int .i64 1] 3 (0, 0)⟩, ⟨bRU2, .cells #[.int .i64 2] 3 (0, 0)⟩, ⟨bRU3, .cells #[.slice (some ⟨bRU1, 0, none⟩) 2 2, .slice (some ⟨bRU2, 0, none⟩) 1 1] 23 (0, 0)⟩], w108.heap.size, [], [], [], [], []⟩ hA2 (Nat.zero_le _) fun hA => ?_
      refine runS hA 5 [.t 6, .t 7, .t 8, .t 9, .t 10] xn on (by kernel_rfl) fun w109 hA => ?_
      exact joinE hRU1_2_3_4_5 ⟨bRU1, bRU2, bRU3, gu, cu, uu⟩ hr9 [0, 1, 2, 3, 4, 5] hA rfl (by kernel_rfl) (by decide)
    refine latS hA0RU [1, 2, 3] (γ := Nat × Nat × Nat) (fun ⟨bRU1, bRU2, bRU3⟩ => [(0, .bool false), (1, .pointer (some ⟨w4.heap.size, 0, none⟩)), (2, .pointer (some ⟨w4.heap.size + 1, 0, none⟩)), (3, .pointer (some ⟨w4.heap.size + 2, 0, none⟩)), (31, (vK (exB 0) g1 3)), (32, .slice (some ⟨bRU1, 0, none⟩) 2 2), (33, .slice (some ⟨bRU2, 0, none⟩) 1 1), (34, .slice (some ⟨bRU3, 0, none⟩) 2 2)]) (fun ⟨bRU1, bRU2, bRU3⟩ => [(kB g1), (kB g2), (kC g3), (xK (exB 0) w4.heap.size g1 3), (xK (exB 1) (w4.heap.size + 1) g2 3), (xK exC (w4.heap.size + 2) g3 2), ⟨bRU1, .cells #[.int .i64 0, .int .i64 1] 3 (0, 0)⟩, ⟨bRU2, .cells #[.int .i64 2] 3 (0, 0)⟩, ⟨bRU3, .cells #[.slice (some ⟨bRU1, 0, none⟩) 2 2, .slice (some ⟨bRU2, 0, none⟩) 1 1] 23 (0, 0)⟩]) (fun ⟨bRU1, bRU2, bRU3⟩ => []) (fun ⟨bRU1, bRU2, bRU3⟩ _ => True) ?_ (fun hRU1_2_3 => ?_)
    · rintro ⟨bRU1, bRU2, bRU3⟩ wl8 _ hA
      refine callB hA [] on (in_any wl8 (some ⟨bRU3, 0, none⟩) 2 2) (by kernel_rfl) fun w109 hb109 hA => ?_
      exact joinE hRU1_2_3_4 ⟨bRU1, bRU2, bRU3⟩ trivial [0, 1, 2, 3, 4, 5, 6, 7, 8] hA rfl (by kernel_rfl) (by decide)
    refine latS hA0RU [1, 2] (γ := Nat × Nat) (fun ⟨bRU1, bRU2⟩ => [(0, .bool false), (1, .pointer (some ⟨w4.heap.size, 0, none⟩)), (2, .pointer (some ⟨w4.heap.size + 1, 0, none⟩)), (3, .pointer (some ⟨w4.heap.size + 2, 0, none⟩)), (31, (vK (exB 0) g1 3)), (32, .slice (some ⟨bRU1, 0, none⟩) 2 2), (33, .slice (some ⟨bRU2, 0, none⟩) 1 1)]) (fun ⟨bRU1, bRU2⟩ => [(kB g1), (kB g2), (kC g3), (xK (exB 0) w4.heap.size g1 3), (xK (exB 1) (w4.heap.size + 1) g2 3), (xK exC (w4.heap.size + 2) g3 2), ⟨bRU1, .cells #[.int .i64 0, .int .i64 1] 3 (0, 0)⟩, ⟨bRU2, .cells #[.int .i64 2] 3 (0, 0)⟩]) (fun ⟨bRU1, bRU2⟩ => []) (fun ⟨bRU1, bRU2⟩ _ => True) ?_ (fun hRU1_2 => ?_)
    · rintro ⟨bRU1, bRU2⟩ wl9 _ hA
      refine runS hA 1 [.h 3] xn on (by kernel_rfl) fun w110 hA => ?_
      exact joinE hRU1_2_3 ⟨bRU1, bRU2, wl9.heap.size⟩ trivial [0, 1, 2, 3, 4, 5, 6, 7, 8] hA rfl (by kernel_rfl) (by decide)
    refine latS hA0RU [2] (γ := Nat) (fun bRU2 => [(0, .bool false), (1, .pointer (some ⟨w4.heap.size, 0, none⟩)), (2, .pointer (some ⟨w4.heap.size + 1, 0, none⟩)), (3, .pointer (some ⟨w4.heap.size + 2, 0, none⟩)), (31, (vK (exB 0) g1 3)), (33, .slice (some ⟨bRU2, 0, none⟩) 1 1)]) (fun bRU2 => [(kB g1), (kB g2), (kC g3), (xK (exB 0) w4.heap.size g1 3), (xK (exB 1) (w4.heap.size + 1) g2 3), (xK exC (w4.heap.size + 2) g3 2), ⟨bRU2, .cells #[.int .i64 2] 3 (0, 0)⟩]) (fun bRU2 => []) (fun bRU2 _ => True) ?_ (fun hRU2 => ?_)
    · rintro bRU2 wl10 _ hA
      refine runS hA 1 [.h 1] xn on (by kernel_rfl) fun w111 hA => ?_
      exact joinE hRU1_2 ⟨wl10.heap.size, bRU2⟩ trivial [0, 1, 2, 3, 4, 5, 7, 6] hA rfl (by kernel_rfl) (by decide)
    refine latS hA0RU [1] (γ := Nat) (fun bRU1 => [(0, .bool false), (1, .pointer (some ⟨w4.heap.size, 0, none⟩)), (2, .pointer (some ⟨w4.heap.size + 1, 0, none⟩)), (3, .pointer (some ⟨w4.heap.size + 2, 0, none⟩)), (31, (vK (exB 0) g1 3)), (32, .slice (some ⟨bRU1, 0, none⟩) 2 2)]) (fun bRU1 => [(kB g1), (kB g2), (kC g3), (xK (exB 0) w4.heap.size g1 3), (xK (exB 1) (w4.heap.size + 1) g2 3), (xK exC (w4.heap.size + 2) g3 2), ⟨bRU1, .cells #[.int .i64 0, .int .i64 1] 3 (0, 0)⟩]) (fun bRU1 => []) (fun bRU1 _ => True) ?_ (fun hRU1 => ?_)
    · rintro bRU1 wl11 _ hA
      refine runS hA 1 [.h 2] xn on (by kernel_rfl) fun w112 hA => ?_
      exact joinE hRU1_2 ⟨bRU1, wl11.heap.size⟩ trivial [0, 1, 2, 3, 4, 5, 6, 7] hA rfl (by kernel_rfl) (by decide)
    replace hA := hA0RU
    refine manyS hA 1 [2] (by kernel_rfl) ⟨fun hA => ?_, fun hA => ?_, trivial⟩
    ·
      refine runS hA 1 [] xn on (by kernel_rfl) fun w12 hA => ?_
      exact joinE hRU1 (w4.heap.size + 3) trivial [0, 1, 2, 3, 4, 5, 6] hA rfl (by kernel_rfl) (by decide)
    ·
      refine runS hA 1 [] xn on (by kernel_rfl) fun w12 hA => ?_
      exact joinE hRU2 (w4.heap.size + 3) trivial [0, 1, 2, 3, 4, 5, 6] hA rfl (by kernel_rfl) (by decide)
  rintro ⟨bRU1, bRU2, bRU3, gu, cu, uu⟩ w61 hrRU0 hA
  have hru := hrRU0
  refine runS hA 3 [.b true] xn on (by kernel_rfl) fun w62 hA => ?_
  refine draw hA [true, true, true, true, true, true] [0, 1, 2, 3, 4, 5, 6, 7, 8, 9, 10] (by kernel_rfl) (by kernel_rfl) fun hA => ?_
  refine runS hA 1 ([.t 0] ++ List.replicate 8 (.k 4)) xn on (by kernel_rfl) fun w63 hA => ?_
  have hA0RV := hA
  refine latK hA0RV [1, 2, 3, 4, 5, 6, 7, 8, 9, 10] (γ := Nat × Nat × Nat × Nat × Nat × Array Value) (fun ⟨bRV1, bRV2, bRV3, gv, cv, uv⟩ => [(0, .bool false), (1, .pointer (some ⟨w4.heap.size, 0, none⟩)), (3, .pointer (some ⟨w4.heap.size + 2, 0, none⟩)), (4, .slice (some ⟨gu, 0, none⟩) 2 cu), (5, .int .i64 0), (6, .slice (some ⟨gv, 0, none⟩) 3 cv), (7, .int .i64 0)]) (fun ⟨bRV1, bRV2, bRV3, gv, cv, uv⟩ => [(kB g1), (kB g2), (kC g3), (xK (exB 0) w4.heap.size g1 3), (xK (exB 1) (w4.heap.size + 1) g2 3), (xK exC (w4.heap.size + 2) g3 2)]) (fun ⟨bRV1, bRV2, bRV3, gv, cv, uv⟩ => [⟨gv, .cells uv 59 (0, 0)⟩, ⟨gu, .cells uu 59 (0, 0)⟩]) (fun ⟨bRV1, bRV2, bRV3, gv, cv, uv⟩ _ => RowV 59 3 (.slice (some ⟨gv, 0, none⟩) 3 cv) 3 (encD [((0, -1), 60), ((1, -1), 100), ((2, -1), 150)]) [⟨gv, .cells uv 59 (0, 0)⟩]) (fun hRV1_2_3_4_5 => ?_) ?_
  ·
    refine latS hA0RV [1, 2, 3, 4] (γ := Nat × Nat × Nat) (fun ⟨bRV1, bRV2, bRV3⟩ => [(0, .bool false), (1, .pointer (some ⟨w4.heap.size, 0, none⟩)), (2, .pointer (some ⟨w4.heap.size + 1, 0, none⟩)), (3, .pointer (some ⟨w4.heap.size + 2, 0, none⟩)), (4, .slice (some ⟨gu, 0, none⟩) 2 cu), (5, .int .i64 0), (40, (vK (exB 1) g2 3)), (41, .slice (some ⟨bRV1, 0, none⟩) 1 1), (42, .slice (some ⟨bRV2, 0, none⟩) 2 2), (43, .slice (some ⟨bRV3, 0, none⟩) 2 2), (44, .slice (some ⟨bRV3, 0, none⟩) 2 2)]) (fun ⟨bRV1, bRV2, bRV3⟩ => [(kB g1), (kB g2), (kC g3), (xK (exB 0) w4.heap.size g1 3), (xK (exB 1) (w4.heap.size + 1) g2 3), (xK exC (w4.heap.size + 2) g3 2), ⟨bRV1, .cells #[.int .i64 1] 3 (0, 0)⟩, ⟨bRV2, .cells #[.int .i64 0, .int .i64 2] 3 (0, 0)⟩, ⟨bRV3, .cells #[.slice (some ⟨bRV1, 0, none⟩) 1 1, .slice (some ⟨bRV2, 0, none⟩) 2 2] 23 (0, 0)⟩]) (fun ⟨bRV1, bRV2, bRV3⟩ => [⟨gu, .cells uu 59 (0, 0)⟩]) (fun ⟨bRV1, bRV2, bRV3⟩ _ => True) ?_ (fun hRV1_2_3_4 => ?_)
    · rintro ⟨bRV1, bRV2, bRV3⟩ wl64 _ hA
      have hAp := hA.atK [(kB g1), (kB g2), (kC g3), (xK (exB 0) w4.heap.size g1 3), (xK (exB 1) (w4.heap.size + 1) g2 3), (xK exC (w4.heap.size + 2) g3 2), ⟨bRV1, .cells #[.int .i64 1] 3 (0, 0)⟩, ⟨bRV2, .cells #[.int .i64 0, .int .i64 2] 3 (0, 0)⟩, ⟨bRV3, .cells #[.slice (some ⟨bRV1, 0, none⟩) 1 1, .slice (some ⟨bRV2, 0, none⟩) 2 2] 23 (0, 0)⟩] (by kernel_rfl)
      have hP := Dividends_any wl64 wl64.heap.size (exB 1) (some ⟨g2, 0, none⟩) 3 3 none 0 0 (some ⟨bRV3, 0, none⟩) 2 2 [[1], [0, 2]] (exB_at 1 (hA.at_.ok (kB g2) (List.mem_of_getElem? (i := 1) (by kernel_rfl)))) (fin2 (hA.at_.ok ⟨bRV3, .cells #[.slice (some ⟨bRV1, 0, none⟩) 1 1, .slice (some ⟨bRV2, 0, none⟩) 2 2] 23 (0, 0)⟩ (List.mem_of_getElem? (i := 8) (by kernel_rfl))) (xs0 := [1]) (hA.at_.ok ⟨bRV1, .cells #[.int .i64 1] 3 (0, 0)⟩ (List.mem_of_getElem? (i := 6) (by kernel_rfl))) (by decide) (xs1 := [0, 2]) (hA.at_.ok ⟨bRV2, .cells #[.int .i64 0, .int .i64 2] 3 (0, 0)⟩ (List.mem_of_getElem? (i := 7) (by kernel_rfl))) (by decide)) (Nat.le_refl _)
      rw [wkV.1, wkV.2] at hP
      refine call hA [] on (hP) (by kernel_rfl) (by rintro e v ⟨v, rfl, hbd, hown, hnil⟩; exact hbd) ?_
      rintro e w165 ⟨v, rfl, hbd, hown, hnil⟩
      refine ⟨_, rfl, fun hA => ?_⟩
      obtain ⟨ob9, hr9, hA2⟩ := At.own hAp hbd hown
      obtain ⟨gv, cv, uv, hv9, rfl, -⟩ : ∃ gz cz uz, v = .slice (some ⟨gz, 0, none⟩) 3 cz ∧ ob9 = [⟨gz, .cells uz 59 (0, 0)⟩] ∧ True := by
        rcases hr9.2 with ⟨-, h9, -⟩ | ⟨gz, cz, uz, h8, h9, -⟩
        · exact absurd h9 (by decide)
        · exact ⟨gz, cz, uz, h8, h9, trivial⟩
      cases hv9
      refine reknow ⟨[(kB g1), (kB g2), (kC g3), (xK (exB 0) w4.heap.size g1 3), (xK (exB 1) (w4.heap.size + 1) g2 3), (xK exC (w4.heap.size + 2) g3 2), ⟨bRV1, .cells #[.int .i64 1] 3 (0, 0)⟩, ⟨bRV2, .cells #[.int .i64 0, .int .i64 2] 3 (0, 0)⟩, ⟨bRV3, .cells #[.slice (some ⟨bRV1, 0, none⟩) 1 1, .slice (some ⟨bRV2, 0, none⟩) 2 2] 23 (0, 0)⟩], w165.heap.size, [], [], [], [], []⟩ hA2 (Nat.zero_le _) fun hA => ?_
      refine runS hA 5 [.t 6, .t 7, .t 8, .t 9, .t 10] xn on (by kernel_rfl) fun w166 hA => ?_
      exact joinE hRV1_2_3_4_5 ⟨bRV1, bRV2, bRV3, gv, cv, uv⟩ hr9 [0, 1, 2, 3, 4, 5] hA rfl (by kernel_rfl) (by decide)
    refine latS hA0RV [1, 2, 3] (γ := Nat × Nat × Nat) (fun ⟨bRV1, bRV2, bRV3⟩ => [(0, .bool false), (1, .pointer (some ⟨w4.heap.size, 0, none⟩)), (2, .pointer (some ⟨w4.heap.size + 1, 0, none⟩)), (3, .pointer (some ⟨w4.heap.size + 2, 0, none⟩)), (4, .slice (some ⟨gu, 0, none⟩) 2 cu), (5, .int .i64 0), (40, (vK (exB 1) g2 3)), (41, .slice (some ⟨bRV1, 0, none⟩) 1 1), (42, .slice (some ⟨bRV2, 0, none⟩) 2 2), (43, .slice (some ⟨bRV3, 0, none⟩) 2 2)]) (fun ⟨bRV1, bRV2, bRV3⟩ => [(kB g1), (kB g2), (kC g3), (xK (exB 0) w4.heap.size g1 3), (xK (exB 1) (w4.heap.size + 1) g2 3), (xK exC (w4.heap.size + 2) g3 2), ⟨bRV1, .cells #[.int .i64 1] 3 (0, 0)⟩, ⟨bRV2, .cells #[.int .i64 0, .int .i64 2] 3 (0, 0)⟩, ⟨bRV3, .cells #[.slice (some ⟨bRV1, 0, none⟩) 1 1, .slice (some ⟨bRV2, 0, none⟩) 2 2] 23 (0, 0)⟩]) (fun ⟨bRV1, bRV2, bRV3⟩ => [⟨gu, .cells uu 59 (0, 0)⟩]) (fun ⟨bRV1, bRV2, bRV3⟩ _ => True) ?_ (fun hRV1_2_3 => ?_)
    · rintro ⟨bRV1, bRV2, bRV3⟩ wl65 _ hA
      refine callB hA [] on (in_any wl65 (some ⟨bRV3, 0, none⟩) 2 2) (by kernel_rfl) fun w166 hb166 hA => ?_
      exact joinE hRV1_2_3_4 ⟨bRV1, bRV2, bRV3⟩ trivial [0, 1, 2, 3, 4, 5, 6, 7, 8] hA rfl (by kernel_rfl) (by decide)
    refine latS hA0RV [1, 2] (γ := Nat × Nat) (fun ⟨bRV1, bRV2⟩ => [(0, .bool false), (1, .pointer (some ⟨w4.heap.size, 0, none⟩)), (2, .pointer (some ⟨w4.heap.size + 1, 0, none⟩)), (3, .pointer (some ⟨w4.heap.size + 2, 0, none⟩)), (4, .slice (some ⟨gu, 0, none⟩) 2 cu), (5, .int .i64 0), (40, (vK (exB 1) g2 3)), (41, .slice (some ⟨bRV1, 0, none⟩) 1 1), (42, .slice (some ⟨bRV2, 0, none⟩) 2 2)]) (fun ⟨bRV1, bRV2⟩ => [(kB g1), (kB g2), (kC g3), (xK (exB 0) w4.heap.size g1 3), (xK (exB 1) (w4.heap.size + 1) g2 3), (xK exC (w4.heap.size + 2) g3 2), ⟨bRV1, .cells #[.int .i64 1] 3 (0, 0)⟩, ⟨bRV2, .cells #[.int .i64 0, .int .i64 2] 3 (0, 0)⟩]) (fun ⟨bRV1, bRV2⟩ => [⟨gu, .cells uu 59 (0, 0)⟩]) (fun ⟨bRV1, bRV2⟩ _ => True) ?_ (fun hRV1_2 => ?_)
    · rintro ⟨bRV1, bRV2⟩ wl66 _ hA
      refine runS hA 1 [.h 3] xn on (by kernel_rfl) fun w167 hA => ?_
      exact joinE hRV1_2_3 ⟨bRV1, bRV2, wl66.heap.size⟩ trivial [0, 1, 2, 3, 4, 5, 6, 7, 8] hA rfl (by kernel_rfl) (by decide)
    refine latS hA0RV [2] (γ := Nat) (fun bRV2 => [(0, .bool false), (1, .pointer (some ⟨w4.heap.size, 0, none⟩)), (2, .pointer (some ⟨w4.heap.size + 1, 0, none⟩)), (3, .pointer (some ⟨w4.heap.size + 2, 0, none⟩)), (4, .slice (some ⟨gu, 0, none⟩) 2 cu), (5, .int .i64 0), (40, (vK (exB 1) g2 3)), (42, .slice (some ⟨bRV2, 0, none⟩) 2 2)]) (fun bRV2 => [(kB g1), (kB g2), (kC g3), (xK (exB 0) w4.heap.size g1 3), (xK (exB 1) (w4.heap.size + 1) g2 3), (xK exC (w4.heap.size + 2) g3 2), ⟨bRV2, .cells #[.int .i64 0, .int .i64 2] 3 (0, 0)⟩]) (fun bRV2 => [⟨gu, .cells uu 59 (0, 0)⟩]) (fun bRV2 _ => True) ?_ (fun hRV2 => ?_)
    · rintro bRV2 wl67 _ hA
      refine runS hA 1 [.h 1] xn on (by kernel_rfl) fun w168 hA => ?_
      exact joinE hRV1_2 ⟨wl67.heap.size, bRV2⟩ trivial [0, 1, 2, 3, 4, 5, 7, 6] hA rfl (by kernel_rfl) (by decide)
    refine latS hA0RV [1] (γ := Nat) (fun bRV1 => [(0, .bool false), (1, .pointer (some ⟨w4.heap.size, 0, none⟩)), (2, .pointer (some ⟨w4.heap.size + 1, 0, none⟩)), (3, .pointer (some ⟨w4.heap.size + 2, 0, none⟩)), (4, .slice (some ⟨gu, 0, none⟩) 2 cu), (5, .int .i64 0), (40, (vK (exB 1) g2 3)), (41, .slice (some ⟨bRV1, 0, none⟩) 1 1)]) (fun bRV1 => [(kB g1), (kB g2), (kC g3), (xK (exB 0) w4.heap.size g1 3), (xK (exB 1) (w4.heap.size + 1) g2 3), (xK exC (w4.heap.size + 2) g3 2), ⟨bRV1, .cells #[.int .i64 1] 3 (0, 0)⟩]) (fun bRV1 => [⟨gu, .cells uu 59 (0, 0)⟩]) (fun bRV1 _ => True) ?_ (fun hRV1 => ?_)
    · rintro bRV1 wl68 _ hA
      refine runS hA 1 [.h 2] xn on (by kernel_rfl) fun w169 hA => ?_
      exact joinE hRV1_2 ⟨bRV1, wl68.heap.size⟩ trivial [0, 1, 2, 3, 4, 5, 6, 7] hA rfl (by kernel_rfl) (by decide)
    replace hA := hA0RV
    refine manyS hA 1 [2] (by kernel_rfl) ⟨fun hA => ?_, fun hA => ?_, trivial⟩
    ·
      refine runS hA 1 [] xn on (by kernel_rfl) fun w69 hA => ?_
      exact joinE hRV1 w61.heap.size trivial [0, 1, 2, 3, 4, 5, 6] hA rfl (by kernel_rfl) (by decide)
    ·
      refine runS hA 1 [] xn on (by kernel_rfl) fun w69 hA => ?_
      exact joinE hRV2 w61.heap.size trivial [0, 1, 2, 3, 4, 5, 6] hA rfl (by kernel_rfl) (by decide)
  rintro ⟨bRV1, bRV2, bRV3, gv, cv, uv⟩ w118 hrRV0 hA
  have hrv := hrRV0
  refine runS hA 3 [.b true] xn on (by kernel_rfl) fun w119 hA => ?_
  refine draw hA [true, true, true, true, true, true] [0, 1, 2, 3, 4, 5, 6, 7, 8, 9, 10, 11] (by kernel_rfl) (by kernel_rfl) fun hA => ?_
  refine runS hA 1 ([.t 0] ++ List.replicate 8 (.k 3)) xn on (by kernel_rfl) fun w120 hA => ?_
  have hA0RA := hA
  refine latK hA0RA [1, 2, 3, 4, 5, 6, 7, 8, 9, 10, 11] (γ := Nat × Nat × Nat × Nat) (fun ⟨bRA1, bRA2, bRA3, bRA9⟩ => [(0, .bool false), (1, .pointer (some ⟨w4.heap.size, 0, none⟩)), (3, .pointer (some ⟨w4.heap.size + 2, 0, none⟩)), (4, .slice (some ⟨gu, 0, none⟩) 2 cu), (5, .int .i64 0), (6, .slice (some ⟨gv, 0, none⟩) 3 cv), (7, .int .i64 0), (8, .pointer (some ⟨bRA9, 0, none⟩)), (9, .int .i64 0)]) (fun ⟨bRA1, bRA2, bRA3, bRA9⟩ => [(kB g1), (kB g2), (kC g3), (xK (exB 0) w4.heap.size g1 3), (xK (exB 1) (w4.heap.size + 1) g2 3), (xK exC (w4.heap.size + 2) g3 2), ⟨bRA9, .cells #[.int .i64 1000, .int .i64 0, .int .i64 100, .int .i64 890, .int .i64 10, .int .i64 0] 35 (0, 0)⟩]) (fun ⟨bRA1, bRA2, bRA3, bRA9⟩ => [⟨gv, .cells uv 59 (0, 0)⟩, ⟨gu, .cells uu 59 (0, 0)⟩]) (fun ⟨bRA1, bRA2, bRA3, bRA9⟩ _ => True) (fun hRA1_2_3_4_5_9_10 => ?_) ?_
  ·
    refine latS hA0RA [1, 2, 3, 4, 5, 6, 7, 8, 9] (γ := Nat × Nat × Nat × Nat) (fun ⟨bRA1, bRA2, bRA3, bRA9⟩ => [(0, .bool false), (1, .pointer (some ⟨w4.heap.size, 0, none⟩)), (3, .pointer (some ⟨w4.heap.size + 2, 0, none⟩)), (4, .slice (some ⟨gu, 0, none⟩) 2 cu), (5, .int .i64 0), (6, .slice (some ⟨gv, 0, none⟩) 3 cv), (7, .int .i64 0), (8, .pointer (some ⟨bRA9, 0, none⟩)), (48, .tuple #[.agg #[.int .i64 1000, .int .i64 0, .int .i64 100, .int .i64 890, .int .i64 10, .int .i64 0], .int .i64 0]), (49, (vK (exB 0) g1 3)), (50, .slice (some ⟨bRA1, 0, none⟩) 2 2), (51, .slice (some ⟨bRA2, 0, none⟩) 1 1), (52, .slice (some ⟨bRA3, 0, none⟩) 2 2), (53, .slice (some ⟨bRA3, 0, none⟩) 2 2), (54, .tuple #[.agg #[.int .i64 1000, .int .i64 0, .int .i64 100, .int .i64 890, .int .i64 10, .int .i64 0], .int .i64 0]), (55, .agg #[.int .i64 1000, .int .i64 0, .int .i64 100, .int .i64 890, .int .i64 10, .int .i64 0]), (56, .int .i64 0)]) (fun ⟨bRA1, bRA2, bRA3, bRA9⟩ => [(kB g1), (kB g2), (kC g3), (xK (exB 0) w4.heap.size g1 3), (xK (exB 1) (w4.heap.size + 1) g2 3), (xK exC (w4.heap.size + 2) g3 2), ⟨bRA1, .cells #[.int .i64 0, .int .i64 2] 3 (0, 0)⟩, ⟨bRA2, .cells #[.int .i64 1] 3 (0, 0)⟩, ⟨bRA3, .cells #[.slice (some ⟨bRA1, 0, none⟩) 2 2, .slice (some ⟨bRA2, 0, none⟩) 1 1] 23 (0, 0)⟩, ⟨bRA9, .cells #[.int .i64 0, .int .i64 0, .int .i64 0, .int .i64 0, .int .i64 0, .int .i64 0] 35 (0, 0)⟩]) (fun ⟨bRA1, bRA2, bRA3, bRA9⟩ => [⟨gv, .cells uv 59 (0, 0)⟩, ⟨gu, .cells uu 59 (0, 0)⟩]) (fun ⟨bRA1, bRA2, bRA3, bRA9⟩ _ => True) ?_ (fun hRA1_2_3_4_5_9 => ?_)
    · rintro ⟨bRA1, bRA2, bRA3, bRA9⟩ wl121 _ hA
      refine runS hA 2 ([.h 10] ++ List.replicate 6 (.k 9) ++ [.t 11]) xn on (by kernel_rfl) fun w222 hA => ?_
      exact joinE hRA1_2_3_4_5_9_10 ⟨bRA1, bRA2, bRA3, bRA9⟩ trivial [0, 1, 2, 3, 4, 5, 9] hA rfl (by kernel_rfl) (by decide)
    refine latS hA0RA [1, 2, 3, 4, 9] (γ := Nat × Nat × Nat × Nat) (fun ⟨bRA1, bRA2, bRA3, bRA9⟩ => [(0, .bool false), (1, .pointer (some ⟨w4.heap.size, 0, none⟩)), (3, .pointer (some ⟨w4.heap.size + 2, 0, none⟩)), (4, .slice (some ⟨gu, 0, none⟩) 2 cu), (5, .int .i64 0), (6, .slice (some ⟨gv, 0, none⟩) 3 cv), (7, .int .i64 0), (8, .pointer (some ⟨bRA9, 0, none⟩)), (49, (vK (exB 0) g1 3)), (50, .slice (some ⟨bRA1, 0, none⟩) 2 2), (51, .slice (some ⟨bRA2, 0, none⟩) 1 1), (52, .slice (some ⟨bRA3, 0, none⟩) 2 2), (53, .slice (some ⟨bRA3, 0, none⟩) 2 2)]) (fun ⟨bRA1, bRA2, bRA3, bRA9⟩ => [(kB g1), (kB g2), (kC g3), (xK (exB 0) w4.heap.size g1 3), (xK (exB 1) (w4.heap.size + 1) g2 3), (xK exC (w4.heap.size + 2) g3 2), ⟨bRA1, .cells #[.int .i64 0, .int .i64 2] 3 (0, 0)⟩, ⟨bRA2, .cells #[.int .i64 1] 3 (0, 0)⟩, ⟨bRA3, .cells #[.slice (some ⟨bRA1, 0, none⟩) 2 2, .slice (some ⟨bRA2, 0, none⟩) 1 1] 23 (0, 0)⟩, ⟨bRA9, .cells #[.int .i64 0, .int .i64 0, .int .i64 0, .int .i64 0, .int .i64 0, .int .i64 0] 35 (0, 0)⟩]) (fun ⟨bRA1, bRA2, bRA3, bRA9⟩ => [⟨gv, .cells uv 59 (0, 0)⟩, ⟨gu, .cells uu 59 (0, 0)⟩]) (fun ⟨bRA1, bRA2, bRA3, bRA9⟩ _ => True) ?_ (fun hRA1_2_3_4_9 => ?_)
    · rintro ⟨bRA1, bRA2, bRA3, bRA9⟩ wl122 _ hA
      have hP := Account_any wl122 wl122.heap.size (exB 0) (some ⟨g1, 0, none⟩) 3 3 none 0 0 (some ⟨bRA3, 0, none⟩) 2 2 [[0, 2], [1]] (exB_at 0 (hA.at_.ok (kB g1) (List.mem_of_getElem? (i := 0) (by kernel_rfl)))) (fin2 (hA.at_.ok ⟨bRA3, .cells #[.slice (some ⟨bRA1, 0, none⟩) 2 2, .slice (some ⟨bRA2, 0, none⟩) 1 1] 23 (0, 0)⟩ (List.mem_of_getElem? (i := 8) (by kernel_rfl))) (xs0 := [0, 2]) (hA.at_.ok ⟨bRA1, .cells #[.int .i64 0, .int .i64 2] 3 (0, 0)⟩ (List.mem_of_getElem? (i := 6) (by kernel_rfl))) (by decide) (xs1 := [1]) (hA.at_.ok ⟨bRA2, .cells #[.int .i64 1] 3 (0, 0)⟩ (List.mem_of_getElem? (i := 7) (by kernel_rfl))) (by decide)) (Nat.le_refl _)
      rw [wkA.1, wkA.2] at hP
      refine callB hA [] on (hP) (by kernel_rfl) fun w223 hb223 hA => ?_
      refine runS hA 3 [.t 6, .t 7, .t 8] xn on (by kernel_rfl) fun w224 hA => ?_
      exact joinE hRA1_2_3_4_5_9 ⟨bRA1, bRA2, bRA3, bRA9⟩ trivial [0, 1, 2, 3, 4, 5, 6, 7, 8, 9] hA rfl (by kernel_rfl) (by decide)
    refine latS hA0RA [1, 2, 3, 4, 5, 6, 7, 8] (γ := Nat × Nat × Nat) (fun ⟨bRA1, bRA2, bRA3⟩ => [(0, .bool false), (1, .pointer (some ⟨w4.heap.size, 0, none⟩)), (3, .pointer (some ⟨w4.heap.size + 2, 0, none⟩)), (4, .slice (some ⟨gu, 0, none⟩) 2 cu), (5, .int .i64 0), (6, .slice (some ⟨gv, 0, none⟩) 3 cv), (7, .int .i64 0), (48, .tuple #[.agg #[.int .i64 1000, .int .i64 0, .int .i64 100, .int .i64 890, .int .i64 10, .int .i64 0], .int .i64 0]), (49, (vK (exB 0) g1 3)), (50, .slice (some ⟨bRA1, 0, none⟩) 2 2), (51, .slice (some ⟨bRA2, 0, none⟩) 1 1), (52, .slice (some ⟨bRA3, 0, none⟩) 2 2), (53, .slice (some ⟨bRA3, 0, none⟩) 2 2), (54, .tuple #[.agg #[.int .i64 1000, .int .i64 0, .int .i64 100, .int .i64 890, .int .i64 10, .int .i64 0], .int .i64 0]), (55, .agg #[.int .i64 1000, .int .i64 0, .int .i64 100, .int .i64 890, .int .i64 10, .int .i64 0]), (56, .int .i64 0)]) (fun ⟨bRA1, bRA2, bRA3⟩ => [(kB g1), (kB g2), (kC g3), (xK (exB 0) w4.heap.size g1 3), (xK (exB 1) (w4.heap.size + 1) g2 3), (xK exC (w4.heap.size + 2) g3 2), ⟨bRA1, .cells #[.int .i64 0, .int .i64 2] 3 (0, 0)⟩, ⟨bRA2, .cells #[.int .i64 1] 3 (0, 0)⟩, ⟨bRA3, .cells #[.slice (some ⟨bRA1, 0, none⟩) 2 2, .slice (some ⟨bRA2, 0, none⟩) 1 1] 23 (0, 0)⟩]) (fun ⟨bRA1, bRA2, bRA3⟩ => [⟨gv, .cells uv 59 (0, 0)⟩, ⟨gu, .cells uu 59 (0, 0)⟩]) (fun ⟨bRA1, bRA2, bRA3⟩ _ => True) ?_ (fun hRA1_2_3_4_5 => ?_)
    · rintro ⟨bRA1, bRA2, bRA3⟩ wl123 _ hA
      refine runS hA 1 [.h 9] xn on (by kernel_rfl) fun w224 hA => ?_
      exact joinE hRA1_2_3_4_5_9 ⟨bRA1, bRA2, bRA3, wl123.heap.size⟩ trivial [0, 1, 2, 3, 4, 5, 6, 7, 8, 9] hA rfl (by kernel_rfl) (by decide)
    refine latS hA0RA [1, 2, 3, 9] (γ := Nat × Nat × Nat × Nat) (fun ⟨bRA1, bRA2, bRA3, bRA9⟩ => [(0, .bool false), (1, .pointer (some ⟨w4.heap.size, 0, none⟩)), (3, .pointer (some ⟨w4.heap.size + 2, 0, none⟩)), (4, .slice (some ⟨gu, 0, none⟩) 2 cu), (5, .int .i64 0), (6, .slice (some ⟨gv, 0, none⟩) 3 cv), (7, .int .i64 0), (8, .pointer (some ⟨bRA9, 0, none⟩)), (49, (vK (exB 0) g1 3)), (50, .slice (some ⟨bRA1, 0, none⟩) 2 2), (51, .slice (some ⟨bRA2, 0, none⟩) 1 1), (52, .slice (some ⟨bRA3, 0, none⟩) 2 2)]) (fun ⟨bRA1, bRA2, bRA3, bRA9⟩ => [(kB g1), (kB g2), (kC g3), (xK (exB 0) w4.heap.size g1 3), (xK (exB 1) (w4.heap.size + 1) g2 3), (xK exC (w4.heap.size + 2) g3 2), ⟨bRA1, .cells #[.int .i64 0, .int .i64 2] 3 (0, 0)⟩, ⟨bRA2, .cells #[.int .i64 1] 3 (0, 0)⟩, ⟨bRA3, .cells #[.slice (some ⟨bRA1, 0, none⟩) 2 2, .slice (some ⟨bRA2, 0, none⟩) 1 1] 23 (0, 0)⟩, ⟨bRA9, .cells #[.int .i64 0, .int .i64 0, .int .i64 0, .int .i64 0, .int .i64 0, .int .i64 0] 35 (0, 0)⟩]) (fun ⟨bRA1, bRA2, bRA3, bRA9⟩ => [⟨gv, .cells uv 59 (0, 0)⟩, ⟨gu, .cells uu 59 (0, 0)⟩]) (fun ⟨bRA1, bRA2, bRA3, bRA9⟩ _ => True) ?_ (fun hRA1_2_3_9 => ?_)
    · rintro ⟨bRA1, bRA2, bRA3, bRA9⟩ wl124 _ hA
      refine callB hA [] on (in_any wl124 (some ⟨bRA3, 0, none⟩) 2 2) (by kernel_rfl) fun w225 hb225 hA => ?_
      exact joinE hRA1_2_3_4_9 ⟨bRA1, bRA2, bRA3, bRA9⟩ trivial [0, 1, 2, 3, 4, 5, 6, 7, 8, 9] hA rfl (by kernel_rfl) (by decide)
    refine latS hA0RA [1, 2, 3, 4] (γ := Nat × Nat × Nat) (fun ⟨bRA1, bRA2, bRA3⟩ => [(0, .bool false), (1, .pointer (some ⟨w4.heap.size, 0, none⟩)), (3, .pointer (some ⟨w4.heap.size + 2, 0, none⟩)), (4, .slice (some ⟨gu, 0, none⟩) 2 cu), (5, .int .i64 0), (6, .slice (some ⟨gv, 0, none⟩) 3 cv), (7, .int .i64 0), (49, (vK (exB 0) g1 3)), (50, .slice (some ⟨bRA1, 0, none⟩) 2 2), (51, .slice (some ⟨bRA2, 0, none⟩) 1 1), (52, .slice (some ⟨bRA3, 0, none⟩) 2 2), (53, .slice (some ⟨bRA3, 0, none⟩) 2 2)]) (fun ⟨bRA1, bRA2, bRA3⟩ => [(kB g1), (kB g2), (kC g3), (xK (exB 0) w4.heap.size g1 3), (xK (exB 1) (w4.heap.size + 1) g2 3), (xK exC (w4.heap.size + 2) g3 2), ⟨bRA1, .cells #[.int .i64 0, .int .i64 2] 3 (0, 0)⟩, ⟨bRA2, .cells #[.int .i64 1] 3 (0, 0)⟩, ⟨bRA3, .cells #[.slice (some ⟨bRA1, 0, none⟩) 2 2, .slice (some ⟨bRA2, 0, none⟩) 1 1] 23 (0, 0)⟩]) (fun ⟨bRA1, bRA2, bRA3⟩ => [⟨gv, .cells uv 59 (0, 0)⟩, ⟨gu, .cells uu 59 (0, 0)⟩]) (fun ⟨bRA1, bRA2, bRA3⟩ _ => True) ?_ (fun hRA1_2_3_4 => ?_)
    · rintro ⟨bRA1, bRA2, bRA3⟩ wl125 _ hA
      refine manyS hA 5 [9] (by kernel_rfl) ⟨fun hA => ?_, fun hA => ?_, trivial⟩
      ·
        have hP := Account_any wl125 wl125.heap.size (exB 0) (some ⟨g1, 0, none⟩) 3 3 none 0 0 (some ⟨bRA3, 0, none⟩) 2 2 [[0, 2], [1]] (exB_at 0 (hA.at_.ok (kB g1) (List.mem_of_getElem? (i := 0) (by kernel_rfl)))) (fin2 (hA.at_.ok ⟨bRA3, .cells #[.slice (some ⟨bRA1, 0, none⟩) 2 2, .slice (some ⟨bRA2, 0, none⟩) 1 1] 23 (0, 0)⟩ (List.mem_of_getElem? (i := 8) (by kernel_rfl))) (xs0 := [0, 2]) (hA.at_.ok ⟨bRA1, .cells #[.int .i64 0, .int .i64 2] 3 (0, 0)⟩ (List.mem_of_getElem? (i := 6) (by kernel_rfl))) (by decide) (xs1 := [1]) (hA.at_.ok ⟨bRA2, .cells #[.int .i64 1] 3 (0, 0)⟩ (List.mem_of_getElem? (i := 7) (by kernel_rfl))) (by decide)) (Nat.le_refl _)
        rw [wkA.1, wkA.2] at hP
        refine callB hA [] on (hP) (by kernel_rfl) fun w226 hb226 hA => ?_
        refine runS hA 3 [.t 6, .t 7, .t 8] xn on (by kernel_rfl) fun w227 hA => ?_
        exact joinE hRA1_2_3_4_5 ⟨bRA1, bRA2, bRA3⟩ trivial [0, 1, 2, 3, 4, 5, 6, 7, 8] hA rfl (by kernel_rfl) (by decide)
      ·
        refine runS hA 1 [] xn on (by kernel_rfl) fun w226 hA => ?_
        exact joinE hRA1_2_3_4_9 ⟨bRA1, bRA2, bRA3, wl125.heap.size⟩ trivial [0, 1, 2, 3, 4, 5, 6, 7, 8, 9] hA rfl (by kernel_rfl) (by decide)
    refine latS hA0RA [1, 2, 9] (γ := Nat × Nat × Nat) (fun ⟨bRA1, bRA2, bRA9⟩ => [(0, .bool false), (1, .pointer (some ⟨w4.heap.size, 0, none⟩)), (3, .pointer (some ⟨w4.heap.size + 2, 0, none⟩)), (4, .slice (some ⟨gu, 0, none⟩) 2 cu), (5, .int .i64 0), (6, .slice (some ⟨gv, 0, none⟩) 3 cv), (7, .int .i64 0), (8, .pointer (some ⟨bRA9, 0, none⟩)), (49, (vK (exB 0) g1 3)), (50, .slice (some ⟨bRA1, 0, none⟩) 2 2), (51, .slice (some ⟨bRA2, 0, none⟩) 1 1)]) (fun ⟨bRA1, bRA2, bRA9⟩ => [(kB g1), (kB g2), (kC g3), (xK (exB 0) w4.heap.size g1 3), (xK (exB 1) (w4.heap.size + 1) g2 3), (xK exC (w4.heap.size + 2) g3 2), ⟨bRA1, .cells #[.int .i64 0, .int .i64 2] 3 (0, 0)⟩, ⟨bRA2, .cells #[.int .i64 1] 3 (0, 0)⟩, ⟨bRA9, .cells #[.int .i64 0, .int .i64 0, .int .i64 0, .int .i64 0, .int .i64 0, .int .i64 0] 35 (0, 0)⟩]) (fun ⟨bRA1, bRA2, bRA9⟩ => [⟨gv, .cells uv 59 (0, 0)⟩, ⟨gu, .cells uu 59 (0, 0)⟩]) (fun ⟨bRA1, bRA2, bRA9⟩ _ => True) ?_ (fun hRA1_2_9 => ?_)
    · rintro ⟨bRA1, bRA2, bRA9⟩ wl126 _ hA
      refine runS hA 1 [.h 3] xn on (by kernel_rfl) fun w227 hA => ?_
      exact joinE hRA1_2_3_9 ⟨bRA1, bRA2, wl126.heap.size, bRA9⟩ trivial [0, 1, 2, 3, 4, 5, 6, 7, 9, 8] hA rfl (by kernel_rfl) (by decide)
    refine latS hA0RA [1, 2, 3] (γ := Nat × Nat × Nat) (fun ⟨bRA1, bRA2, bRA3⟩ => [(0, .bool false), (1, .pointer (some ⟨w4.heap.size, 0, none⟩)), (3, .pointer (some ⟨w4.heap.size + 2, 0, none⟩)), (4, .slice (some ⟨gu, 0, none⟩) 2 cu), (5, .int .i64 0), (6, .slice (some ⟨gv, 0, none⟩) 3 cv), (7, .int .i64 0), (49, (vK (exB 0) g1 3)), (50, .slice (some ⟨bRA1, 0, none⟩) 2 2), (51, .slice (some ⟨bRA2, 0, none⟩) 1 1), (52, .slice (some ⟨bRA3, 0, none⟩) 2 2)]) (fun ⟨bRA1, bRA2, bRA3⟩ => [(kB g1), (kB g2), (kC g3), (xK (exB 0) w4.heap.size g1 3), (xK (exB 1) (w4.heap.size + 1) g2 3), (xK exC (w4.heap.size + 2) g3 2), ⟨bRA1, .cells #[.int .i64 0, .int .i64 2] 3 (0, 0)⟩, ⟨bRA2, .cells #[.int .i64 1] 3 (0, 0)⟩, ⟨bRA3, .cells #[.slice (some ⟨bRA1, 0, none⟩) 2 2, .slice (some ⟨bRA2, 0, none⟩) 1 1] 23 (0, 0)⟩]) (fun ⟨bRA1, bRA2, bRA3⟩ => [⟨gv, .cells uv 59 (0, 0)⟩, ⟨gu, .cells uu 59 (0, 0)⟩]) (fun ⟨bRA1, bRA2, bRA3⟩ _ => True) ?_ (fun hRA1_2_3 => ?_)
    · rintro ⟨bRA1, bRA2, bRA3⟩ wl127 _ hA
      refine manyS hA 4 [9] (by kernel_rfl) ⟨fun hA => ?_, fun hA => ?_, trivial⟩
      ·
        refine callB hA [] on (in_any wl127 (some ⟨bRA3, 0, none⟩) 2 2) (by kernel_rfl) fun w228 hb228 hA => ?_
        exact joinE hRA1_2_3_4 ⟨bRA1, bRA2, bRA3⟩ trivial [0, 1, 2, 3, 4, 5, 6, 7, 8] hA rfl (by kernel_rfl) (by decide)
      ·
        refine runS hA 1 [] xn on (by kernel_rfl) fun w228 hA => ?_
        exact joinE hRA1_2_3_9 ⟨bRA1, bRA2, bRA3, wl127.heap.size⟩ trivial [0, 1, 2, 3, 4, 5, 6, 7, 8, 9] hA rfl (by kernel_rfl) (by decide)
    refine latS hA0RA [2, 9] (γ := Nat × Nat) (fun ⟨bRA2, bRA9⟩ => [(0, .bool false), (1, .pointer (some ⟨w4.heap.size, 0, none⟩)), (3, .pointer (some ⟨w4.heap.size + 2, 0, none⟩)), (4, .slice (some ⟨gu, 0, none⟩) 2 cu), (5, .int .i64 0), (6, .slice (some ⟨gv, 0, none⟩) 3 cv), (7, .int .i64 0), (8, .pointer (some ⟨bRA9, 0, none⟩)), (49, (vK (exB 0) g1 3)), (51, .slice (some ⟨bRA2, 0, none⟩) 1 1)]) (fun ⟨bRA2, bRA9⟩ => [(kB g1), (kB g2), (kC g3), (xK (exB 0) w4.heap.size g1 3), (xK (exB 1) (w4.heap.size + 1) g2 3), (xK exC (w4.heap.size + 2) g3 2), ⟨bRA2, .cells #[.int .i64 1] 3 (0, 0)⟩, ⟨bRA9, .cells #[.int .i64 0, .int .i64 0, .int .i64 0, .int .i64 0, .int .i64 0, .int .i64 0] 35 (0, 0)⟩]) (fun ⟨bRA2, bRA9⟩ => [⟨gv, .cells uv 59 (0, 0)⟩, ⟨gu, .cells uu 59 (0, 0)⟩]) (fun ⟨bRA2, bRA9⟩ _ => True) ?_ (fun hRA2_9 => ?_)
    · rintro ⟨bRA2, bRA9⟩ wl128 _ hA
      refine runS hA 1 [.h 1] xn on (by kernel_rfl) fun w229 hA => ?_
      exact joinE hRA1_2_9 ⟨wl128.heap.size, bRA2, bRA9⟩ trivial [0, 1, 2, 3, 4, 5, 8, 6, 7] hA rfl (by kernel_rfl) (by decide)
    refine latS hA0RA [1, 9] (γ := Nat × Nat) (fun ⟨bRA1, bRA9⟩ => [(0, .bool false), (1, .pointer (some ⟨w4.heap.size, 0, none⟩)), (3, .pointer (some ⟨w4.heap.size + 2, 0, none⟩)), (4, .slice (some ⟨gu, 0, none⟩) 2 cu), (5, .int .i64 0), (6, .slice (some ⟨gv, 0, none⟩) 3 cv), (7, .int .i64 0), (8, .pointer (some ⟨bRA9, 0, none⟩)), (49, (vK (exB 0) g1 3)), (50, .slice (some ⟨bRA1, 0, none⟩) 2 2)]) (fun ⟨bRA1, bRA9⟩ => [(kB g1), (kB g2), (kC g3), (xK (exB 0) w4.heap.size g1 3), (xK (exB 1) (w4.heap.size + 1) g2 3), (xK exC (w4.heap.size + 2) g3 2), ⟨bRA1, .cells #[.int .i64 0, .int .i64 2] 3 (0, 0)⟩, ⟨bRA9, .cells #[.int .i64 0, .int .i64 0, .int .i64 0, .int .i64 0, .int .i64 0, .int .i64 0] 35 (0, 0)⟩]) (fun ⟨bRA1, bRA9⟩ => [⟨gv, .cells uv 59 (0, 0)⟩, ⟨gu, .cells uu 59 (0, 0)⟩]) (fun ⟨bRA1, bRA9⟩ _ => True) ?_ (fun hRA1_9 => ?_)
    · rintro ⟨bRA1, bRA9⟩ wl129 _ hA
      refine runS hA 1 [.h 2] xn on (by kernel_rfl) fun w230 hA => ?_
      exact joinE hRA1_2_9 ⟨bRA1, wl129.heap.size, bRA9⟩ trivial [0, 1, 2, 3, 4, 5, 6, 8, 7] hA rfl (by kernel_rfl) (by decide)
    refine latS hA0RA [1, 2] (γ := Nat × Nat) (fun ⟨bRA1, bRA2⟩ => [(0, .bool false), (1, .pointer (some ⟨w4.heap.size, 0, none⟩)), (3, .pointer (some ⟨w4.heap.size + 2, 0, none⟩)), (4, .slice (some ⟨gu, 0, none⟩) 2 cu), (5, .int .i64 0), (6, .slice (some ⟨gv, 0, none⟩) 3 cv), (7, .int .i64 0), (49, (vK (exB 0) g1 3)), (50, .slice (some ⟨bRA1, 0, none⟩) 2 2), (51, .slice (some ⟨bRA2, 0, none⟩) 1 1)]) (fun ⟨bRA1, bRA2⟩ => [(kB g1), (kB g2), (kC g3), (xK (exB 0) w4.heap.size g1 3), (xK (exB 1) (w4.heap.size + 1) g2 3), (xK exC (w4.heap.size + 2) g3 2), ⟨bRA1, .cells #[.int .i64 0, .int .i64 2] 3 (0, 0)⟩, ⟨bRA2, .cells #[.int .i64 1] 3 (0, 0)⟩]) (fun ⟨bRA1, bRA2⟩ => [⟨gv, .cells uv 59 (0, 0)⟩, ⟨gu, .cells uu 59 (0, 0)⟩]) (fun ⟨bRA1, bRA2⟩ _ => True) ?_ (fun hRA1_2 => ?_)
    · rintro ⟨bRA1, bRA2⟩ wl130 _ hA
      refine manyS hA 3 [9] (by kernel_rfl) ⟨fun hA => ?_, fun hA => ?_, trivial⟩
      ·
        refine runS hA 1 [] xn on (by kernel_rfl) fun w231 hA => ?_
        exact joinE hRA1_2_3 ⟨bRA1, bRA2, wl130.heap.size⟩ trivial [0, 1, 2, 3, 4, 5, 6, 7, 8] hA rfl (by kernel_rfl) (by decide)
      ·
        refine runS hA 1 [] xn on (by kernel_rfl) fun w231 hA => ?_
        exact joinE hRA1_2_9 ⟨bRA1, bRA2, wl130.heap.size⟩ trivial [0, 1, 2, 3, 4, 5, 6, 7, 8] hA rfl (by kernel_rfl) (by decide)
    refine latS hA0RA [9] (γ := Nat) (fun bRA9 => [(0, .bool false), (1, .pointer (some ⟨w4.heap.size, 0, none⟩)), (3, .pointer (some ⟨w4.heap.size + 2, 0, none⟩)), (4, .slice (some ⟨gu, 0, none⟩) 2 cu), (5, .int .i64 0), (6, .slice (some ⟨gv, 0, none⟩) 3 cv), (7, .int .i64 0), (8, .pointer (some ⟨bRA9, 0, none⟩)), (49, (vK (exB 0) g1 3))]) (fun bRA9 => [(kB g1), (kB g2), (kC g3), (xK (exB 0) w4.heap.size g1 3), (xK (exB 1) (w4.heap.size + 1) g2 3), (xK exC (w4.heap.size + 2) g3 2), ⟨bRA9, .cells #[.int .i64 0, .int .i64 0, .int .i64 0, .int .i64 0, .int .i64 0, .int .i64 0] 35 (0, 0)⟩]) (fun bRA9 => [⟨gv, .cells uv 59 (0, 0)⟩, ⟨gu, .cells uu 59 (0, 0)⟩]) (fun bRA9 _ => True) ?_ (fun hRA9 => ?_)
    · rintro bRA9 wl131 _ hA
      refine manyS hA 1 [2] (by kernel_rfl) ⟨fun hA => ?_, fun hA => ?_, trivial⟩
      ·
        refine runS hA 1 [] xn on (by kernel_rfl) fun w232 hA => ?_
        exact joinE hRA1_9 ⟨wl131.heap.size, bRA9⟩ trivial [0, 1, 2, 3, 4, 5, 7, 6] hA rfl (by kernel_rfl) (by decide)
      ·
        refine runS hA 1 [] xn on (by kernel_rfl) fun w232 hA => ?_
        exact joinE hRA2_9 ⟨wl131.heap.size, bRA9⟩ trivial [0, 1, 2, 3, 4, 5, 7, 6] hA rfl (by kernel_rfl) (by decide)
    refine latS hA0RA [2] (γ := Nat) (fun bRA2 => [(0, .bool false), (1, .pointer (some ⟨w4.heap.size, 0, none⟩)), (3, .pointer (some ⟨w4.heap.size + 2, 0, none⟩)), (4, .slice (some ⟨gu, 0, none⟩) 2 cu), (5, .int .i64 0), (6, .slice (some ⟨gv, 0, none⟩) 3 cv), (7, .int .i64 0), (49, (vK (exB 0) g1 3)), (51, .slice (some ⟨bRA2, 0, none⟩) 1 1)]) (fun bRA2 => [(kB g1), (kB g2), (kC g3), (xK (exB 0) w4.heap.size g1 3), (xK (exB 1) (w4.heap.size + 1) g2 3), (xK exC (w4.heap.size + 2) g3 2), ⟨bRA2, .cells #[.int .i64 1] 3 (0, 0)⟩]) (fun bRA2 => [⟨gv, .cells uv 59 (0, 0)⟩, ⟨gu, .cells uu 59 (0, 0)⟩]) (fun bRA2 _ => True) ?_ (fun hRA2 => ?_)
    · rintro bRA2 wl132 _ hA
      refine manyS hA 1 [9] (by kernel_rfl) ⟨fun hA => ?_, fun hA => ?_, trivial⟩
      ·
        refine runS hA 1 [] xn on (by kernel_rfl) fun w233 hA => ?_
        exact joinE hRA1_2 ⟨wl132.heap.size, bRA2⟩ trivial [0, 1, 2, 3, 4, 5, 7, 6] hA rfl (by kernel_rfl) (by decide)
      ·
        refine runS hA 1 [] xn on (by kernel_rfl) fun w233 hA => ?_
        exact joinE hRA2_9 ⟨bRA2, wl132.heap.size⟩ trivial [0, 1, 2, 3, 4, 5, 6, 7] hA rfl (by kernel_rfl) (by decide)
    refine latS hA0RA [1] (γ := Nat) (fun bRA1 => [(0, .bool false), (1, .pointer (some ⟨w4.heap.size, 0, none⟩)), (3, .pointer (some ⟨w4.heap.size + 2, 0, none⟩)), (4, .slice (some ⟨gu, 0, none⟩) 2 cu), (5, .int .i64 0), (6, .slice (some ⟨gv, 0, none⟩) 3 cv), (7, .int .i64 0), (49, (vK (exB 0) g1 3)), (50, .slice (some ⟨bRA1, 0, none⟩) 2 2)]) (fun bRA1 => [(kB g1), (kB g2), (kC g3), (xK (exB 0) w4.heap.size g1 3), (xK (exB 1) (w4.heap.size + 1) g2 3), (xK exC (w4.heap.size + 2) g3 2), ⟨bRA1, .cells #[.int .i64 0, .int .i64 2] 3 (0, 0)⟩]) (fun bRA1 => [⟨gv, .cells uv 59 (0, 0)⟩, ⟨gu, .cells uu 59 (0, 0)⟩]) (fun bRA1 _ => True) ?_ (fun hRA1 => ?_)
    · rintro bRA1 wl133 _ hA
      refine manyS hA 2 [9] (by kernel_rfl) ⟨fun hA => ?_, fun hA => ?_, trivial⟩
      ·
        refine runS hA 1 [] xn on (by kernel_rfl) fun w234 hA => ?_
        exact joinE hRA1_2 ⟨bRA1, wl133.heap.size⟩ trivial [0, 1, 2, 3, 4, 5, 6, 7] hA rfl (by kernel_rfl) (by decide)
      ·
        refine runS hA 1 [] xn on (by kernel_rfl) fun w234 hA => ?_
        exact joinE hRA1_9 ⟨bRA1, wl133.heap.size⟩ trivial [0, 1, 2, 3, 4, 5, 6, 7] hA rfl (by kernel_rfl) (by decide)
    replace hA := hA0RA
    refine manyS hA 1 [2, 9] (by kernel_rfl) ⟨fun hA => ?_, fun hA => ?_, fun hA => ?_, trivial⟩
    ·
      refine runS hA 1 [] xn on (by kernel_rfl) fun w134 hA => ?_
      exact joinE hRA1 w118.heap.size trivial [0, 1, 2, 3, 4, 5, 6] hA rfl (by kernel_rfl) (by decide)
    ·
      refine runS hA 1 [] xn on (by kernel_rfl) fun w134 hA => ?_
      exact joinE hRA2 w118.heap.size trivial [0, 1, 2, 3, 4, 5, 6] hA rfl (by kernel_rfl) (by decide)
    ·
      refine runS hA 1 [] xn on (by kernel_rfl) fun w134 hA => ?_
      exact joinE hRA9 w118.heap.size trivial [0, 1, 2, 3, 4, 5, 6] hA rfl (by kernel_rfl) (by decide)
  rintro ⟨bRA1, bRA2, bRA3, bRA9⟩ w183 _ hA
  refine runS hA 5 ([.b true] ++ List.replicate 8 (.k 3)) xn on (by kernel_rfl) fun w184 hA => ?_
  have hAp := hA.atK [(kB g1), (kB g2), (kC g3), (xK (exB 0) w4.heap.size g1 3), (xK (exB 1) (w4.heap.size + 1) g2 3), (xK exC (w4.heap.size + 2) g3 2), ⟨bRA9, .cells #[.int .i64 1000, .int .i64 0, .int .i64 100, .int .i64 890, .int .i64 10, .int .i64 0] 35 (0, 0)⟩] (by kernel_rfl)
  have hP := Scratch_any w184 w184.heap.size (exB 0) (some ⟨g1, 0, none⟩) 3 3 none 0 0 2 (exB_at 0 (hA.at_.ok (kB g1) (List.mem_of_getElem? (i := 0) (by kernel_rfl)))) (Nat.le_refl _)
  rw [wkS.1, wkS.2] at hP
  refine call hA [] on (hP) (by kernel_rfl) (by rintro e v ⟨A8, cbs, A9, css, rfl, hbs, ho1, ho2⟩; exact hbs) ?_
  rintro e w185 ⟨A8, cbs, A9, css, rfl, hbs, ho1, ho2⟩
  refine ⟨_, rfl, fun hA => ?_⟩
  obtain ⟨ob8, ob9, hr1s, hr2s, hA2⟩ := At.own2 hAp hbs (by decide) ho1 ho2
  obtain ⟨gbs, cz1, ubs, hv9, rfl, -⟩ : ∃ gz cz uz, Value.slice A8 (exS false).bets.length cbs = .slice (some ⟨gz, 0, none⟩) (exS false).bets.length cz ∧ ob8 = [⟨gz, .cells uz 93 (0, 0)⟩] ∧ True := by
    rcases hr1s.2 with ⟨-, h9, -⟩ | ⟨gz, cz, uz, h8, h9, -⟩
    · exact absurd h9 (by decide)
    · exact ⟨gz, cz, uz, h8, h9, trivial⟩
  cases hv9
  obtain ⟨gss, cz2, uss, hv9, rfl, -⟩ : ∃ gz cz uz, Value.slice A9 (exS false).scr.length css = .slice (some ⟨gz, 0, none⟩) (exS false).scr.length cz ∧ ob9 = [⟨gz, .cells uz 3 (0, 0)⟩] ∧ True := by
    rcases hr2s.2 with ⟨-, h9, -⟩ | ⟨gz, cz, uz, h8, h9, -⟩
    · exact absurd h9 (by decide)
    · exact ⟨gz, cz, uz, h8, h9, trivial⟩
  cases hv9
  refine reknow ⟨[(kB g1), (kB g2), (kC g3), (xK (exB 0) w4.heap.size g1 3), (xK (exB 1) (w4.heap.size + 1) g2 3), (xK exC (w4.heap.size + 2) g3 2), ⟨bRA9, .cells #[.int .i64 1000, .int .i64 0, .int .i64 100, .int .i64 890, .int .i64 10, .int .i64 0] 35 (0, 0)⟩], w185.heap.size, [], [], [], [], []⟩ hA2 (Nat.zero_le _) fun hA => ?_
  refine runS hA 15 (List.replicate 9 (.k 7)) xn on (by kernel_rfl) fun w186 hA => ?_
  refine draw hA [true, true, true, true, true, true, true, true] [0, 1, 2, 3, 4, 5, 6, 7, 8, 9, 10, 11] (by kernel_rfl) (by kernel_rfl) fun hA => ?_
  refine runS hA 1 ([.t 0] ++ List.replicate 8 (.k 7)) xn on (by kernel_rfl) fun w187 hA => ?_
  have hA0RW := hA
  refine latK hA0RW [1, 2, 3, 4, 5, 6, 7, 8, 9, 10, 11] (γ := Nat × Nat × Nat × Nat) (fun ⟨bRW1, bRW2, bRW3, bRW9⟩ => [(0, .bool false), (1, .pointer (some ⟨w4.heap.size, 0, none⟩)), (3, .pointer (some ⟨w4.heap.size + 2, 0, none⟩)), (4, .slice (some ⟨gu, 0, none⟩) 2 cu), (5, .int .i64 0), (6, .slice (some ⟨gv, 0, none⟩) 3 cv), (7, .int .i64 0), (8, .pointer (some ⟨bRA9, 0, none⟩)), (9, .int .i64 0), (11, .int .i64 0), (12, .pointer (some ⟨bRW9, 0, none⟩)), (13, .int .i64 0)]) (fun ⟨bRW1, bRW2, bRW3, bRW9⟩ => [(kB g1), (kB g2), (kC g3), (xK (exB 0) w4.heap.size g1 3), (xK (exB 1) (w4.heap.size + 1) g2 3), (xK exC (w4.heap.size + 2) g3 2), ⟨bRA9, .cells #[.int .i64 1000, .int .i64 0, .int .i64 100, .int .i64 890, .int .i64 10, .int .i64 0] 35 (0, 0)⟩, (xS true w185.heap.size gbs cbs gss css), ⟨bRW9, .cells #[.int .i64 1000, .int .i64 0, .int .i64 100, .int .i64 840, .int .i64 60, .int .i64 0] 35 (0, 0)⟩]) (fun ⟨bRW1, bRW2, bRW3, bRW9⟩ => [⟨gbs, .cells ubs 93 (0, 0)⟩, ⟨gss, .cells uss 3 (0, 0)⟩, ⟨gv, .cells uv 59 (0, 0)⟩, ⟨gu, .cells uu 59 (0, 0)⟩]) (fun ⟨bRW1, bRW2, bRW3, bRW9⟩ _ => True) (fun hRW1_2_3_4_5_9_10 => ?_) ?_
  ·
    refine latS hA0RW [1, 2, 3, 4, 5, 6, 7, 8, 9] (γ := Nat × Nat × Nat × Nat) (fun ⟨bRW1, bRW2, bRW3, bRW9⟩ => [(0, .bool false), (1, .pointer (some ⟨w4.heap.size, 0, none⟩)), (3, .pointer (some ⟨w4.heap.size + 2, 0, none⟩)), (4, .slice (some ⟨gu, 0, none⟩) 2 cu), (5, .int .i64 0), (6, .slice (some ⟨gv, 0, none⟩) 3 cv), (7, .int .i64 0), (8, .pointer (some ⟨bRA9, 0, none⟩)), (9, .int .i64 0), (10, .pointer (some ⟨w185.heap.size, 0, none⟩)), (11, .int .i64 0), (12, .pointer (some ⟨bRW9, 0, none⟩)), (63, .tuple #[.agg #[.int .i64 1000, .int .i64 0, .int .i64 100, .int .i64 840, .int .i64 60, .int .i64 0], .int .i64 0]), (64, (vS true gbs cbs gss css)), (65, .slice (some ⟨bRW1, 0, none⟩) 1 1), (66, .slice (some ⟨bRW2, 0, none⟩) 1 1), (67, .slice (some ⟨bRW3, 0, none⟩) 2 2), (68, .slice (some ⟨bRW3, 0, none⟩) 2 2), (69, .tuple #[.agg #[.int .i64 1000, .int .i64 0, .int .i64 100, .int .i64 840, .int .i64 60, .int .i64 0], .int .i64 0]), (70, .agg #[.int .i64 1000, .int .i64 0, .int .i64 100, .int .i64 840, .int .i64 60, .int .i64 0]), (71, .int .i64 0)]) (fun ⟨bRW1, bRW2, bRW3, bRW9⟩ => [(kB g1), (kB g2), (kC g3), (xK (exB 0) w4.heap.size g1 3), (xK (exB 1) (w4.heap.size + 1) g2 3), (xK exC (w4.heap.size + 2) g3 2), ⟨bRA9, .cells #[.int .i64 1000, .int .i64 0, .int .i64 100, .int .i64 890, .int .i64 10, .int .i64 0] 35 (0, 0)⟩, (xS true w185.heap.size gbs cbs gss css), ⟨bRW1, .cells #[.int .i64 0] 3 (0, 0)⟩, ⟨bRW2, .cells #[.int .i64 1] 3 (0, 0)⟩, ⟨bRW3, .cells #[.slice (some ⟨bRW1, 0, none⟩) 1 1, .slice (some ⟨bRW2, 0, none⟩) 1 1] 23 (0, 0)⟩, ⟨bRW9, .cells #[.int .i64 0, .int .i64 0, .int .i64 0, .int .i64 0, .int .i64 0, .int .i64 0] 35 (0, 0)⟩]) (fun ⟨bRW1, bRW2, bRW3, bRW9⟩ => [⟨gbs, .cells ubs 93 (0, 0)⟩, ⟨gss, .cells uss 3 (0, 0)⟩, ⟨gv, .cells uv 59 (0, 0)⟩, ⟨gu, .cells uu 59 (0, 0)⟩]) (fun ⟨bRW1, bRW2, bRW3, bRW9⟩ _ => True) ?_ (fun hRW1_2_3_4_5_9 => ?_)
    · rintro ⟨bRW1, bRW2, bRW3, bRW9⟩ wl188 _ hA
      refine runS hA 2 ([.h 10] ++ List.replicate 6 (.k 11) ++ [.t 11]) xn on (by kernel_rfl) fun w289 hA => ?_
      exact joinE hRW1_2_3_4_5_9_10 ⟨bRW1, bRW2, bRW3, bRW9⟩ trivial [0, 1, 2, 3, 4, 5, 6, 7, 11] hA rfl (by kernel_rfl) (by decide)
    refine latS hA0RW [1, 2, 3, 4, 9] (γ := Nat × Nat × Nat × Nat) (fun ⟨bRW1, bRW2, bRW3, bRW9⟩ => [(0, .bool false), (1, .pointer (some ⟨w4.heap.size, 0, none⟩)), (3, .pointer (some ⟨w4.heap.size + 2, 0, none⟩)), (4, .slice (some ⟨gu, 0, none⟩) 2 cu), (5, .int .i64 0), (6, .slice (some ⟨gv, 0, none⟩) 3 cv), (7, .int .i64 0), (8, .pointer (some ⟨bRA9, 0, none⟩)), (9, .int .i64 0), (10, .pointer (some ⟨w185.heap.size, 0, none⟩)), (11, .int .i64 0), (12, .pointer (some ⟨bRW9, 0, none⟩)), (64, (vS true gbs cbs gss css)), (65, .slice (some ⟨bRW1, 0, none⟩) 1 1), (66, .slice (some ⟨bRW2, 0, none⟩) 1 1), (67, .slice (some ⟨bRW3, 0, none⟩) 2 2), (68, .slice (some ⟨bRW3, 0, none⟩) 2 2)]) (fun ⟨bRW1, bRW2, bRW3, bRW9⟩ => [(kB g1), (kB g2), (kC g3), (xK (exB 0) w4.heap.size g1 3), (xK (exB 1) (w4.heap.size + 1) g2 3), (xK exC (w4.heap.size + 2) g3 2), ⟨bRA9, .cells #[.int .i64 1000, .int .i64 0, .int .i64 100, .int .i64 890, .int .i64 10, .int .i64 0] 35 (0, 0)⟩, (xS true w185.heap.size gbs cbs gss css), ⟨bRW1, .cells #[.int .i64 0] 3 (0, 0)⟩, ⟨bRW2, .cells #[.int .i64 1] 3 (0, 0)⟩, ⟨bRW3, .cells #[.slice (some ⟨bRW1, 0, none⟩) 1 1, .slice (some ⟨bRW2, 0, none⟩) 1 1] 23 (0, 0)⟩, ⟨bRW9, .cells #[.int .i64 0, .int .i64 0, .int .i64 0, .int .i64 0, .int .i64 0, .int .i64 0] 35 (0, 0)⟩]) (fun ⟨bRW1, bRW2, bRW3, bRW9⟩ => [⟨gbs, .cells ubs 93 (0, 0)⟩, ⟨gss, .cells uss 3 (0, 0)⟩, ⟨gv, .cells uv 59 (0, 0)⟩, ⟨gu, .cells uu 59 (0, 0)⟩]) (fun ⟨bRW1, bRW2, bRW3, bRW9⟩ _ => True) ?_ (fun hRW1_2_3_4_9 => ?_)
    · rintro ⟨bRW1, bRW2, bRW3, bRW9⟩ wl189 _ hA
      have hP := Account_any wl189 wl189.heap.size (exS true) (some ⟨gbs, 0, none⟩) 3 cbs (some ⟨gss, 0, none⟩) 1 css (some ⟨bRW3, 0, none⟩) 2 2 [[0], [1]] (rows_at (b := exS true) (n := 3) (m := 1) hr1s hr2s (hA.at_.rok ⟨gbs, .cells ubs 93 (0, 0)⟩ (by simp)) (hA.at_.rok ⟨gss, .cells uss 3 (0, 0)⟩ (by simp)) (by decide) (by decide)) (fin2 (hA.at_.ok ⟨bRW3, .cells #[.slice (some ⟨bRW1, 0, none⟩) 1 1, .slice (some ⟨bRW2, 0, none⟩) 1 1] 23 (0, 0)⟩ (List.mem_of_getElem? (i := 10) (by kernel_rfl))) (xs0 := [0]) (hA.at_.ok ⟨bRW1, .cells #[.int .i64 0] 3 (0, 0)⟩ (List.mem_of_getElem? (i := 8) (by kernel_rfl))) (by decide) (xs1 := [1]) (hA.at_.ok ⟨bRW2, .cells #[.int .i64 1] 3 (0, 0)⟩ (List.mem_of_getElem? (i := 9) (by kernel_rfl))) (by decide)) (Nat.le_refl _)
      rw [wkW.1, wkW.2] at hP
      refine callB hA [] on (hP) (by kernel_rfl) fun w290 hb290 hA => ?_
      refine runS hA 3 [.t 6, .t 7, .t 8] xn on (by kernel_rfl) fun w291 hA => ?_
      exact joinE hRW1_2_3_4_5_9 ⟨bRW1, bRW2, bRW3, bRW9⟩ trivial [0, 1, 2, 3, 4, 5, 6, 7, 8, 9, 10, 11] hA rfl (by kernel_rfl) (by decide)
    refine latS hA0RW [1, 2, 3, 4, 5, 6, 7, 8] (γ := Nat × Nat × Nat) (fun ⟨bRW1, bRW2, bRW3⟩ => [(0, .bool false), (1, .pointer (some ⟨w4.heap.size, 0, none⟩)), (3, .pointer (some ⟨w4.heap.size + 2, 0, none⟩)), (4, .slice (some ⟨gu, 0, none⟩) 2 cu), (5, .int .i64 0), (6, .slice (some ⟨gv, 0, none⟩) 3 cv), (7, .int .i64 0), (8, .pointer (some ⟨bRA9, 0, none⟩)), (9, .int .i64 0), (10, .pointer (some ⟨w185.heap.size, 0, none⟩)), (11, .int .i64 0), (63, .tuple #[.agg #[.int .i64 1000, .int .i64 0, .int .i64 100, .int .i64 840, .int .i64 60, .int .i64 0], .int .i64 0]), (64, (vS true gbs cbs gss css)), (65, .slice (some ⟨bRW1, 0, none⟩) 1 1), (66, .slice (some ⟨bRW2, 0, none⟩) 1 1), (67, .slice (some ⟨bRW3, 0, none⟩) 2 2), (68, .slice (some ⟨bRW3, 0, none⟩) 2 2), (69, .tuple #[.agg #[.int .i64 1000, .int .i64 0, .int .i64 100, .int .i64 840, .int .i64 60, .int .i64 0], .int .i64 0]), (70, .agg #[.int .i64 1000, .int .i64 0, .int .i64 100, .int .i64 840, .int .i64 60, .int .i64 0]), (71, .int .i64 0)]) (fun ⟨bRW1, bRW2, bRW3⟩ => [(kB g1), (kB g2), (kC g3), (xK (exB 0) w4.heap.size g1 3), (xK (exB 1) (w4.heap.size + 1) g2 3), (xK exC (w4.heap.size + 2) g3 2), ⟨bRA9, .cells #[.int .i64 1000, .int .i64 0, .int .i64 100, .int .i64 890, .int .i64 10, .int .i64 0] 35 (0, 0)⟩, (xS true w185.heap.size gbs cbs gss css), ⟨bRW1, .cells #[.int .i64 0] 3 (0, 0)⟩, ⟨bRW2, .cells #[.int .i64 1] 3 (0, 0)⟩, ⟨bRW3, .cells #[.slice (some ⟨bRW1, 0, none⟩) 1 1, .slice (some ⟨bRW2, 0, none⟩) 1 1] 23 (0, 0)⟩]) (fun ⟨bRW1, bRW2, bRW3⟩ => [⟨gbs, .cells ubs 93 (0, 0)⟩, ⟨gss, .cells uss 3 (0, 0)⟩, ⟨gv, .cells uv 59 (0, 0)⟩, ⟨gu, .cells uu 59 (0, 0)⟩]) (fun ⟨bRW1, bRW2, bRW3⟩ _ => True) ?_ (fun hRW1_2_3_4_5 => ?_)
    · rintro ⟨bRW1, bRW2, bRW3⟩ wl190 _ hA
      refine runS hA 1 [.h 9] xn on (by kernel_rfl) fun w291 hA => ?_
      exact joinE hRW1_2_3_4_5_9 ⟨bRW1, bRW2, bRW3, wl190.heap.size⟩ trivial [0, 1, 2, 3, 4, 5, 6, 7, 8, 9, 10, 11] hA rfl (by kernel_rfl) (by decide)
    refine latS hA0RW [1, 2, 3, 9] (γ := Nat × Nat × Nat × Nat) (fun ⟨bRW1, bRW2, bRW3, bRW9⟩ => [(0, .bool false), (1, .pointer (some ⟨w4.heap.size, 0, none⟩)), (3, .pointer (some ⟨w4.heap.size + 2, 0, none⟩)), (4, .slice (some ⟨gu, 0, none⟩) 2 cu), (5, .int .i64 0), (6, .slice (some ⟨gv, 0, none⟩) 3 cv), (7, .int .i64 0), (8, .pointer (some ⟨bRA9, 0, none⟩)), (9, .int .i64 0), (10, .pointer (some ⟨w185.heap.size, 0, none⟩)), (11, .int .i64 0), (12, .pointer (some ⟨bRW9, 0, none⟩)), (64, (vS true gbs cbs gss css)), (65, .slice (some ⟨bRW1, 0, none⟩) 1 1), (66, .slice (some ⟨bRW2, 0, none⟩) 1 1), (67, .slice (some ⟨bRW3, 0, none⟩) 2 2)]) (fun ⟨bRW1, bRW2, bRW3, bRW9⟩ => [(kB g1), (kB g2), (kC g3), (xK (exB 0) w4.heap.size g1 3), (xK (exB 1) (w4.heap.size + 1) g2 3), (xK exC (w4.heap.size + 2) g3 2), ⟨bRA9, .cells #[.int .i64 1000, .int .i64 0, .int .i64 100, .int .i64 890, .int .i64 10, .int .i64 0] 35 (0, 0)⟩, (xS true w185.heap.size gbs cbs gss css), ⟨bRW1, .cells #[.int .i64 0] 3 (0, 0)⟩, ⟨bRW2, .cells #[.int .i64 1] 3 (0, 0)⟩, ⟨bRW3, .cells #[.slice (some ⟨bRW1, 0, none⟩) 1 1, .slice (some ⟨bRW2, 0, none⟩) 1 1] 23 (0, 0)⟩, ⟨bRW9, .cells #[.int .i64 0, .int .i64 0, .int .i64 0, .int .i64 0, .int .i64 0, .int .i64 0] 35 (0, 0)⟩]) (fun ⟨bRW1, bRW2, bRW3, bRW9⟩ => [⟨gbs, .cells ubs 93 (0, 0)⟩, ⟨gss, .cells uss 3 (0, 0)⟩, ⟨gv, .cells uv 59 (0, 0)⟩, ⟨gu, .cells uu 59 (0, 0)⟩]) (fun ⟨bRW1, bRW2, bRW3, bRW9⟩ _ => True) ?_ (fun hRW1_2_3_9 => ?_)
    · rintro ⟨bRW1, bRW2, bRW3, bRW9⟩ wl191 _ hA
      refine callB hA [] on (in_any wl191 (some ⟨bRW3, 0, none⟩) 2 2) (by kernel_rfl) fun w292 hb292 hA => ?_
      exact joinE hRW1_2_3_4_9 ⟨bRW1, bRW2, bRW3, bRW9⟩ trivial [0, 1, 2, 3, 4, 5, 6, 7, 8, 9, 10, 11] hA rfl (by kernel_rfl) (by decide)
    refine latS hA0RW [1, 2, 3, 4] (γ := Nat × Nat × Nat) (fun ⟨bRW1, bRW2, bRW3⟩ => [(0, .bool false), (1, .pointer (some ⟨w4.heap.size, 0, none⟩)), (3, .pointer (some ⟨w4.heap.size + 2, 0, none⟩)), (4, .slice (some ⟨gu, 0, none⟩) 2 cu), (5, .int .i64 0), (6, .slice (some ⟨gv, 0, none⟩) 3 cv), (7, .int .i64 0), (8, .pointer (some ⟨bRA9, 0, none⟩)), (9, .int .i64 0), (10, .pointer (some ⟨w185.heap.size, 0, none⟩)), (11, .int .i64 0), (64, (vS true gbs cbs gss css)), (65, .slice (some ⟨bRW1, 0, none⟩) 1 1), (66, .slice (some ⟨bRW2, 0, none⟩) 1 1), (67, .slice (some ⟨bRW3, 0, none⟩) 2 2), (68, .slice (some ⟨bRW3, 0, none⟩) 2 2)]) (fun ⟨bRW1, bRW2, bRW3⟩ => [(kB g1), (kB g2), (kC g3), (xK (exB 0) w4.heap.size g1 3), (xK (exB 1) (w4.heap.size + 1) g2 3), (xK exC (w4.heap.size + 2) g3 2), ⟨bRA9, .cells #[.int .i64 1000, .int .i64 0, .int .i64 100, .int .i64 890, .int .i64 10, .int .i64 0] 35 (0, 0)⟩, (xS true w185.heap.size gbs cbs gss css), ⟨bRW1, .cells #[.int .i64 0] 3 (0, 0)⟩, ⟨bRW2, .cells #[.int .i64 1] 3 (0, 0)⟩, ⟨bRW3, .cells #[.slice (some ⟨bRW1, 0, none⟩) 1 1, .slice (some ⟨bRW2, 0, none⟩) 1 1] 23 (0, 0)⟩]) (fun ⟨bRW1, bRW2, bRW3⟩ => [⟨gbs, .cells ubs 93 (0, 0)⟩, ⟨gss, .cells uss 3 (0, 0)⟩, ⟨gv, .cells uv 59 (0, 0)⟩, ⟨gu, .cells uu 59 (0, 0)⟩]) (fun ⟨bRW1, bRW2, bRW3⟩ _ => True) ?_ (fun hRW1_2_3_4 => ?_)
    · rintro ⟨bRW1, bRW2, bRW3⟩ wl192 _ hA
      refine manyS hA 5 [9] (by kernel_rfl) ⟨fun hA => ?_, fun hA => ?_, trivial⟩
      ·
        have hP := Account_any wl192 wl192.heap.size (exS true) (some ⟨gbs, 0, none⟩) 3 cbs (some ⟨gss, 0, none⟩) 1 css (some ⟨bRW3, 0, none⟩) 2 2 [[0], [1]] (rows_at (b := exS true) (n := 3) (m := 1) hr1s hr2s (hA.at_.rok ⟨gbs, .cells ubs 93 (0, 0)⟩ (by simp)) (hA.at_.rok ⟨gss, .cells uss 3 (0, 0)⟩ (by simp)) (by decide) (by decide)) (fin2 (hA.at_.ok ⟨bRW3, .cells #[.slice (some ⟨bRW1, 0, none⟩) 1 1, .slice (some ⟨bRW2, 0, none⟩) 1 1] 23 (0, 0)⟩ (List.mem_of_getElem? (i := 10) (by kernel_rfl))) (xs0 := [0]) (hA.at_.ok ⟨bRW1, .cells #[.int .i64 0] 3 (0, 0)⟩ (List.mem_of_getElem? (i := 8) (by kernel_rfl))) (by decide) (xs1 := [1]) (hA.at_.ok ⟨bRW2, .cells #[.int .i64 1] 3 (0, 0)⟩ (List.mem_of_getElem? (i := 9) (by kernel_rfl))) (by decide)) (Nat.le_refl _)
        rw [wkW.1, wkW.2] at hP
        refine callB hA [] on (hP) (by kernel_rfl) fun w293 hb293 hA => ?_
        refine runS hA 3 [.t 6, .t 7, .t 8] xn on (by kernel_rfl) fun w294 hA => ?_
        exact joinE hRW1_2_3_4_5 ⟨bRW1, bRW2, bRW3⟩ trivial [0, 1, 2, 3, 4, 5, 6, 7, 8, 9, 10] hA rfl (by kernel_rfl) (by decide)
      ·
        refine runS hA 1 [] xn on (by kernel_rfl) fun w293 hA => ?_
        exact joinE hRW1_2_3_4_9 ⟨bRW1, bRW2, bRW3, wl192.heap.size⟩ trivial [0, 1, 2, 3, 4, 5, 6, 7, 8, 9, 10, 11] hA rfl (by kernel_rfl) (by decide)
    refine latS hA0RW [1, 2, 9] (γ := Nat × Nat × Nat) (fun ⟨bRW1, bRW2, bRW9⟩ => [(0, .bool false), (1, .pointer (some ⟨w4.heap.size, 0, none⟩)), (3, .pointer (some ⟨w4.heap.size + 2, 0, none⟩)), (4, .slice (some ⟨gu, 0, none⟩) 2 cu), (5, .int .i64 0), (6, .slice (some ⟨gv, 0, none⟩) 3 cv), (7, .int .i64 0), (8, .pointer (some ⟨bRA9, 0, none⟩)), (9, .int .i64 0), (10, .pointer (some ⟨w185.heap.size, 0, none⟩)), (11, .int .i64 0), (12, .pointer (some ⟨bRW9, 0, none⟩)), (64, (vS true gbs cbs gss css)), (65, .slice (some ⟨bRW1, 0, none⟩) 1 1), (66, .slice (some ⟨bRW2, 0, none⟩) 1 1)]) (fun ⟨bRW1, bRW2, bRW9⟩ => [(kB g1), (kB g2), (kC g3), (xK (exB 0) w4.heap.size g1 3), (xK (exB 1) (w4.heap.size + 1) g2 3), (xK exC (w4.heap.size + 2) g3 2), ⟨bRA9, .cells #[.int .i64 1000, .int .i64 0, .int .i64 100, .int .i64 890, .int .i64 10, .int .i64 0] 35 (0, 0)⟩, (xS true w185.heap.size gbs cbs gss css), ⟨bRW1, .cells #[.int .i64 0] 3 (0, 0)⟩, ⟨bRW2, .cells #[.int .i64 1] 3 (0, 0)⟩, ⟨bRW9, .cells #[.int .i64 0, .int .i64 0, .int .i64 0, .int .i64 0, .int .i64 0, .int .i64 0] 35 (0, 0)⟩]) (fun ⟨bRW1, bRW2, bRW9⟩ => [⟨gbs, .cells ubs 93 (0, 0)⟩, ⟨gss, .cells uss 3 (0, 0)⟩, ⟨gv, .cells uv 59 (0, 0)⟩, ⟨gu, .cells uu 59 (0, 0)⟩]) (fun ⟨bRW1, bRW2, bRW9⟩ _ => True) ?_ (fun hRW1_2_9 => ?_)
    · rintro ⟨bRW1, bRW2, bRW9⟩ wl193 _ hA
      refine runS hA 1 [.h 3] xn on (by kernel_rfl) fun w294 hA => ?_
      exact joinE hRW1_2_3_9 ⟨bRW1, bRW2, wl193.heap.size, bRW9⟩ trivial [0, 1, 2, 3, 4, 5, 6, 7, 8, 9, 11, 10] hA rfl (by kernel_rfl) (by decide)
    refine latS hA0RW [1, 2, 3] (γ := Nat × Nat × Nat) (fun ⟨bRW1, bRW2, bRW3⟩ => [(0, .bool false), (1, .pointer (some ⟨w4.heap.size, 0, none⟩)), (3, .pointer (some ⟨w4.heap.size + 2, 0, none⟩)), (4, .slice (some ⟨gu, 0, none⟩) 2 cu), (5, .int .i64 0), (6, .slice (some ⟨gv, 0, none⟩) 3 cv), (7, .int .i64 0), (8, .pointer (some ⟨bRA9, 0, none⟩)), (9, .int .i64 0), (10, .pointer (some ⟨w185.heap.size, 0, none⟩)), (11, .int .i64 0), (64, (vS true gbs cbs gss css)), (65, .slice (some ⟨bRW1, 0, none⟩) 1 1), (66, .slice (some ⟨bRW2, 0, none⟩) 1 1), (67, .slice (some ⟨bRW3, 0, none⟩) 2 2)]) (fun ⟨bRW1, bRW2, bRW3⟩ => [(kB g1), (kB g2), (kC g3), (xK (exB 0) w4.heap.size g1 3), (xK (exB 1) (w4.heap.size + 1) g2 3), (xK exC (w4.heap.size + 2) g3 2), ⟨bRA9, .cells #[.int .i64 1000, .int .i64 0, .int .i64 100, .int .i64 890, .int .i64 10, .int .i64 0] 35 (0, 0)⟩, (xS true w185.heap.size gbs cbs gss css), ⟨bRW1, .cells #[.int .i64 0] 3 (0, 0)⟩, ⟨bRW2, .cells #[.int .i64 1] 3 (0, 0)⟩, ⟨bRW3, .cells #[.slice (some ⟨bRW1, 0, none⟩) 1 1, .slice (some ⟨bRW2, 0, none⟩) 1 1] 23 (0, 0)⟩]) (fun ⟨bRW1, bRW2, bRW3⟩ => [⟨gbs, .cells ubs 93 (0, 0)⟩, ⟨gss, .cells uss 3 (0, 0)⟩, ⟨gv, .cells uv 59 (0, 0)⟩, ⟨gu, .cells uu 59 (0, 0)⟩]) (fun ⟨bRW1, bRW2, bRW3⟩ _ => True) ?_ (fun hRW1_2_3 => ?_)
    · rintro ⟨bRW1, bRW2, bRW3⟩ wl194 _ hA
      refine manyS hA 4 [9] (by kernel_rfl) ⟨fun hA => ?_, fun hA => ?_, trivial⟩
      ·
        refine callB hA [] on (in_any wl194 (some ⟨bRW3, 0, none⟩) 2 2) (by kernel_rfl) fun w295 hb295 hA => ?_
        exact joinE hRW1_2_3_4 ⟨bRW1, bRW2, bRW3⟩ trivial [0, 1, 2, 3, 4, 5, 6, 7, 8, 9, 10] hA rfl (by kernel_rfl) (by decide)
      ·
        refine runS hA 1 [] xn on (by kernel_rfl) fun w295 hA => ?_
        exact joinE hRW1_2_3_9 ⟨bRW1, bRW2, bRW3, wl194.heap.size⟩ trivial [0, 1, 2, 3, 4, 5, 6, 7, 8, 9, 10, 11] hA rfl (by kernel_rfl) (by decide)
    refine latS hA0RW [2, 9] (γ := Nat × Nat) (fun ⟨bRW2, bRW9⟩ => [(0, .bool false), (1, .pointer (some ⟨w4.heap.size, 0, none⟩)), (3, .pointer (some ⟨w4.heap.size + 2, 0, none⟩)), (4, .slice (some ⟨gu, 0, none⟩) 2 cu), (5, .int .i64 0), (6, .slice (some ⟨gv, 0, none⟩) 3 cv), (7, .int .i64 0), (8, .pointer (some ⟨bRA9, 0, none⟩)), (9, .int .i64 0), (10, .pointer (some ⟨w185.heap.size, 0, none⟩)), (11, .int .i64 0), (12, .pointer (some ⟨bRW9, 0, none⟩)), (64, (vS true gbs cbs gss css)), (66, .slice (some ⟨bRW2, 0, none⟩) 1 1)]) (fun ⟨bRW2, bRW9⟩ => [(kB g1), (kB g2), (kC g3), (xK (exB 0) w4.heap.size g1 3), (xK (exB 1) (w4.heap.size + 1) g2 3), (xK exC (w4.heap.size + 2) g3 2), ⟨bRA9, .cells #[.int .i64 1000, .int .i64 0, .int .i64 100, .int .i64 890, .int .i64 10, .int .i64 0] 35 (0, 0)⟩, (xS true w185.heap.size gbs cbs gss css), ⟨bRW2, .cells #[.int .i64 1] 3 (0, 0)⟩, ⟨bRW9, .cells #[.int .i64 0, .int .i64 0, .int .i64 0, .int .i64 0, .int .i64 0, .int .i64 0] 35 (0, 0)⟩]) (fun ⟨bRW2, bRW9⟩ => [⟨gbs, .cells ubs 93 (0, 0)⟩, ⟨gss, .cells uss 3 (0, 0)⟩, ⟨gv, .cells uv 59 (0, 0)⟩, ⟨gu, .cells uu 59 (0, 0)⟩]) (fun ⟨bRW2, bRW9⟩ _ => True) ?_ (fun hRW2_9 => ?_)
    · rintro ⟨bRW2, bRW9⟩ wl195 _ hA
      refine runS hA 1 [.h 1] xn on (by kernel_rfl) fun w296 hA => ?_
      exact joinE hRW1_2_9 ⟨wl195.heap.size, bRW2, bRW9⟩ trivial [0, 1, 2, 3, 4, 5, 6, 7, 10, 8, 9] hA rfl (by kernel_rfl) (by decide)
    refine latS hA0RW [1, 9] (γ := Nat × Nat) (fun ⟨bRW1, bRW9⟩ => [(0, .bool false), (1, .pointer (some ⟨w4.heap.size, 0, none⟩)), (3, .pointer (some ⟨w4.heap.size + 2, 0, none⟩)), (4, .slice (some ⟨gu, 0, none⟩) 2 cu), (5, .int .i64 0), (6, .slice (some ⟨gv, 0, none⟩) 3 cv), (7, .int .i64 0), (8, .pointer (some ⟨bRA9, 0, none⟩)), (9, .int .i64 0), (10, .pointer (some ⟨w185.heap.size, 0, none⟩)), (11, .int .i64 0), (12, .pointer (some ⟨bRW9, 0, none⟩)), (64, (vS true gbs cbs gss css)), (65, .slice (some ⟨bRW1, 0, none⟩) 1 1)]) (fun ⟨bRW1, bRW9⟩ => [(kB g1), (kB g2), (kC g3), (xK (exB 0) w4.heap.size g1 3), (xK (exB 1) (w4.heap.size + 1) g2 3), (xK exC (w4.heap.size + 2) g3 2), ⟨bRA9, .cells #[.int .i64 1000, .int .i64 0, .int .i64 100, .int .i64 890, .int .i64 10, .int .i64 0] 35 (0, 0)⟩, (xS true w185.heap.size gbs cbs gss css), ⟨bRW1, .cells #[.int .i64 0] 3 (0, 0)⟩, ⟨bRW9, .cells #[.int .i64 0, .int .i64 0, .int .i64 0, .int .i64 0, .int .i64 0, .int .i64 0] 35 (0, 0)⟩]) (fun ⟨bRW1, bRW9⟩ => [⟨gbs, .cells ubs 93 (0, 0)⟩, ⟨gss, .cells uss 3 (0, 0)⟩, ⟨gv, .cells uv 59 (0, 0)⟩, ⟨gu, .cells uu 59 (0, 0)⟩]) (fun ⟨bRW1, bRW9⟩ _ => True) ?_ (fun hRW1_9 => ?_)
    · rintro ⟨bRW1, bRW9⟩ wl196 _ hA
      refine runS hA 1 [.h 2] xn on (by kernel_rfl) fun w297 hA => ?_
      exact joinE hRW1_2_9 ⟨bRW1, wl196.heap.size, bRW9⟩ trivial [0, 1, 2, 3, 4, 5, 6, 7, 8, 10, 9] hA rfl (by kernel_rfl) (by decide)
    refine latS hA0RW [1, 2] (γ := Nat × Nat) (fun ⟨bRW1, bRW2⟩ => [(0, .bool false), (1, .pointer (some ⟨w4.heap.size, 0, none⟩)), (3, .pointer (some ⟨w4.heap.size + 2, 0, none⟩)), (4, .slice (some ⟨gu, 0, none⟩) 2 cu), (5, .int .i64 0), (6, .slice (some ⟨gv, 0, none⟩) 3 cv), (7, .int .i64 0), (8, .pointer (some ⟨bRA9, 0, none⟩)), (9, .int .i64 0), (10, .pointer (some ⟨w185.heap.size, 0, none⟩)), (11, .int .i64 0), (64, (vS true gbs cbs gss css)), (65, .slice (some ⟨bRW1, 0, none⟩) 1 1), (66, .slice (some ⟨bRW2, 0, none⟩) 1 1)]) (fun ⟨bRW1, bRW2⟩ => [(kB g1), (kB g2), (kC g3), (xK (exB 0) w4.heap.size g1 3), (xK (exB 1) (w4.heap.size + 1) g2 3), (xK exC (w4.heap.size + 2) g3 2), ⟨bRA9, .cells #[.int .i64 1000, .int .i64 0, .int .i64 100, .int .i64 890, .int .i64 10, .int .i64 0] 35 (0, 0)⟩, (xS true w185.heap.size gbs cbs gss css), ⟨bRW1, .cells #[.int .i64 0] 3 (0, 0)⟩, ⟨bRW2, .cells #[.int .i64 1] 3 (0, 0)⟩]) (fun ⟨bRW1, bRW2⟩ => [⟨gbs, .cells ubs 93 (0, 0)⟩, ⟨gss, .cells uss 3 (0, 0)⟩, ⟨gv, .cells uv 59 (0, 0)⟩, ⟨gu, .cells uu 59 (0, 0)⟩]) (fun ⟨bRW1, bRW2⟩ _ => True) ?_ (fun hRW1_2 => ?_)
    · rintro ⟨bRW1, bRW2⟩ wl197 _ hA
      refine manyS hA 3 [9] (by kernel_rfl) ⟨fun hA => ?_, fun hA => ?_, trivial⟩
      ·
        refine runS hA 1 [] xn on (by kernel_rfl) fun w298 hA => ?_
        exact joinE hRW1_2_3 ⟨bRW1, bRW2, wl197.heap.size⟩ trivial [0, 1, 2, 3, 4, 5, 6, 7, 8, 9, 10] hA rfl (by kernel_rfl) (by decide)
      ·
        refine runS hA 1 [] xn on (by kernel_rfl) fun w298 hA => ?_
        exact joinE hRW1_2_9 ⟨bRW1, bRW2, wl197.heap.size⟩ trivial [0, 1, 2, 3, 4, 5, 6, 7, 8, 9, 10] hA rfl (by kernel_rfl) (by decide)
    refine latS hA0RW [9] (γ := Nat) (fun bRW9 => [(0, .bool false), (1, .pointer (some ⟨w4.heap.size, 0, none⟩)), (3, .pointer (some ⟨w4.heap.size + 2, 0, none⟩)), (4, .slice (some ⟨gu, 0, none⟩) 2 cu), (5, .int .i64 0), (6, .slice (some ⟨gv, 0, none⟩) 3 cv), (7, .int .i64 0), (8, .pointer (some ⟨bRA9, 0, none⟩)), (9, .int .i64 0), (10, .pointer (some ⟨w185.heap.size, 0, none⟩)), (11, .int .i64 0), (12, .pointer (some ⟨bRW9, 0, none⟩)), (64, (vS true gbs cbs gss css))]) (fun bRW9 => [(kB g1), (kB g2), (kC g3), (xK (exB 0) w4.heap.size g1 3), (xK (exB 1) (w4.heap.size + 1) g2 3), (xK exC (w4.heap.size + 2) g3 2), ⟨bRA9, .cells #[.int .i64 1000, .int .i64 0, .int .i64 100, .int .i64 890, .int .i64 10, .int .i64 0] 35 (0, 0)⟩, (xS true w185.heap.size gbs cbs gss css), ⟨bRW9, .cells #[.int .i64 0, .int .i64 0, .int .i64 0, .int .i64 0, .int .i64 0, .int .i64 0] 35 (0, 0)⟩]) (fun bRW9 => [⟨gbs, .cells ubs 93 (0, 0)⟩, ⟨gss, .cells uss 3 (0, 0)⟩, ⟨gv, .cells uv 59 (0, 0)⟩, ⟨gu, .cells uu 59 (0, 0)⟩]) (fun bRW9 _ => True) ?_ (fun hRW9 => ?_)
    · rintro bRW9 wl198 _ hA
      refine manyS hA 1 [2] (by kernel_rfl) ⟨fun hA => ?_, fun hA => ?_, trivial⟩
      ·
        refine runS hA 1 [] xn on (by kernel_rfl) fun w299 hA => ?_
        exact joinE hRW1_9 ⟨wl198.heap.size, bRW9⟩ trivial [0, 1, 2, 3, 4, 5, 6, 7, 9, 8] hA rfl (by kernel_rfl) (by decide)
      ·
        refine runS hA 1 [] xn on (by kernel_rfl) fun w299 hA => ?_
        exact joinE hRW2_9 ⟨wl198.heap.size, bRW9⟩ trivial [0, 1, 2, 3, 4, 5, 6, 7, 9, 8] hA rfl (by kernel_rfl) (by decide)
    refine latS hA0RW [2] (γ := Nat) (fun bRW2 => [(0, .bool false), (1, .pointer (some ⟨w4.heap.size, 0, none⟩)), (3, .pointer (some ⟨w4.heap.size + 2, 0, none⟩)), (4, .slice (some ⟨gu, 0, none⟩) 2 cu), (5, .int .i64 0), (6, .slice (some ⟨gv, 0, none⟩) 3 cv), (7, .int .i64 0), (8, .pointer (some ⟨bRA9, 0, none⟩)), (9, .int .i64 0), (10, .pointer (some ⟨w185.heap.size, 0, none⟩)), (11, .int .i64 0), (64, (vS true gbs cbs gss css)), (66, .slice (some ⟨bRW2, 0, none⟩) 1 1)]) (fun bRW2 => [(kB g1), (kB g2), (kC g3), (xK (exB 0) w4.heap.size g1 3), (xK (exB 1) (w4.heap.size + 1) g2 3), (xK exC (w4.heap.size + 2) g3 2), ⟨bRA9, .cells #[.int .i64 1000, .int .i64 0, .int .i64 100, .int .i64 890, .int .i64 10, .int .i64 0] 35 (0, 0)⟩, (xS true w185.heap.size gbs cbs gss css), ⟨bRW2, .cells #[.int .i64 1] 3 (0, 0)⟩]) (fun bRW2 => [⟨gbs, .cells ubs 93 (0, 0)⟩, ⟨gss, .cells uss 3 (0, 0)⟩, ⟨gv, .cells uv 59 (0, 0)⟩, ⟨gu, .cells uu 59 (0, 0)⟩]) (fun bRW2 _ => True) ?_ (fun hRW2 => ?_)
    · rintro bRW2 wl199 _ hA
      refine manyS hA 1 [9] (by kernel_rfl) ⟨fun hA => ?_, fun hA => ?_, trivial⟩
      ·
        refine runS hA 1 [] xn on (by kernel_rfl) fun w300 hA => ?_
        exact joinE hRW1_2 ⟨wl199.heap.size, bRW2⟩ trivial [0, 1, 2, 3, 4, 5, 6, 7, 9, 8] hA rfl (by kernel_rfl) (by decide)
      ·
        refine runS hA 1 [] xn on (by kernel_rfl) fun w300 hA => ?_
        exact joinE hRW2_9 ⟨bRW2, wl199.heap.size⟩ trivial [0, 1, 2, 3, 4, 5, 6, 7, 8, 9] hA rfl (by kernel_rfl) (by decide)
    refine latS hA0RW [1] (γ := Nat) (fun bRW1 => [(0, .bool false), (1, .pointer (some ⟨w4.heap.size, 0, none⟩)), (3, .pointer (some ⟨w4.heap.size + 2, 0, none⟩)), (4, .slice (some ⟨gu, 0, none⟩) 2 cu), (5, .int .i64 0), (6, .slice (some ⟨gv, 0, none⟩) 3 cv), (7, .int .i64 0), (8, .pointer (some ⟨bRA9, 0, none⟩)), (9, .int .i64 0), (10, .pointer (some ⟨w185.heap.size, 0, none⟩)), (11, .int .i64 0), (64, (vS true gbs cbs gss css)), (65, .slice (some ⟨bRW1, 0, none⟩) 1 1)]) (fun bRW1 => [(kB g1), (kB g2), (kC g3), (xK (exB 0) w4.heap.size g1 3), (xK (exB 1) (w4.heap.size + 1) g2 3), (xK exC (w4.heap.size + 2) g3 2), ⟨bRA9, .cells #[.int .i64 1000, .int .i64 0, .int .i64 100, .int .i64 890, .int .i64 10, .int .i64 0] 35 (0, 0)⟩, (xS true w185.heap.size gbs cbs gss css), ⟨bRW1, .cells #[.int .i64 0] 3 (0, 0)⟩]) (fun bRW1 => [⟨gbs, .cells ubs 93 (0, 0)⟩, ⟨gss, .cells uss 3 (0, 0)⟩, ⟨gv, .cells uv 59 (0, 0)⟩, ⟨gu, .cells uu 59 (0, 0)⟩]) (fun bRW1 _ => True) ?_ (fun hRW1 => ?_)
    · rintro bRW1 wl200 _ hA
      refine manyS hA 2 [9] (by kernel_rfl) ⟨fun hA => ?_, fun hA => ?_, trivial⟩
      ·
        refine runS hA 1 [] xn on (by kernel_rfl) fun w301 hA => ?_
        exact joinE hRW1_2 ⟨bRW1, wl200.heap.size⟩ trivial [0, 1, 2, 3, 4, 5, 6, 7, 8, 9] hA rfl (by kernel_rfl) (by decide)
      ·
        refine runS hA 1 [] xn on (by kernel_rfl) fun w301 hA => ?_
        exact joinE hRW1_9 ⟨bRW1, wl200.heap.size⟩ trivial [0, 1, 2, 3, 4, 5, 6, 7, 8, 9] hA rfl (by kernel_rfl) (by decide)
    replace hA := hA0RW
    refine manyS hA 1 [2, 9] (by kernel_rfl) ⟨fun hA => ?_, fun hA => ?_, fun hA => ?_, trivial⟩
    ·
      refine runS hA 1 [] xn on (by kernel_rfl) fun w201 hA => ?_
      exact joinE hRW1 (w185.heap.size + 1) trivial [0, 1, 2, 3, 4, 5, 6, 7, 8] hA rfl (by kernel_rfl) (by decide)
    ·
      refine runS hA 1 [] xn on (by kernel_rfl) fun w201 hA => ?_
      exact joinE hRW2 (w185.heap.size + 1) trivial [0, 1, 2, 3, 4, 5, 6, 7, 8] hA rfl (by kernel_rfl) (by decide)
    ·
      refine runS hA 1 [] xn on (by kernel_rfl) fun w201 hA => ?_
      exact joinE hRW9 (w185.heap.size + 1) trivial [0, 1, 2, 3, 4, 5, 6, 7, 8] hA rfl (by kernel_rfl) (by decide)
  rintro ⟨bRW1, bRW2, bRW3, bRW9⟩ w250 _ hA
  refine runS hA 3 [.b true] xn on (by kernel_rfl) fun w251 hA => ?_
  refine draw hA [true, true, true, true, true, true, true, true, true] [0, 1, 2, 3, 4, 5, 6, 7, 8, 9, 10, 11] (by kernel_rfl) (by kernel_rfl) fun hA => ?_
  refine runS hA 1 ([.t 0] ++ List.replicate 8 (.k 5)) xn on (by kernel_rfl) fun w252 hA => ?_
  have hA0RX := hA
  refine latK hA0RX [1, 2, 3, 4, 5, 6, 7, 8, 9, 10, 11] (γ := Nat × Nat × Nat × Nat × Nat × Nat × Array Value) (fun ⟨bRX1, bRX2, bRX3, bRX4, gx, cx, ux⟩ => [(0, .bool false), (1, .pointer (some ⟨w4.heap.size, 0, none⟩)), (3, .pointer (some ⟨w4.heap.size + 2, 0, none⟩)), (4, .slice (some ⟨gu, 0, none⟩) 2 cu), (5, .int .i64 0), (6, .slice (some ⟨gv, 0, none⟩) 3 cv), (7, .int .i64 0), (8, .pointer (some ⟨bRA9, 0, none⟩)), (9, .int .i64 0), (11, .int .i64 0), (12, .pointer (some ⟨bRW9, 0, none⟩)), (13, .int .i64 0), (14, .slice (some ⟨gx, 0, none⟩) 1 cx), (15, .int .i64 0)]) (fun ⟨bRX1, bRX2, bRX3, bRX4, gx, cx, ux⟩ => [(kB g1), (kB g2), (kC g3), (xK (exB 0) w4.heap.size g1 3), (xK (exB 1) (w4.heap.size + 1) g2 3), (xK exC (w4.heap.size + 2) g3 2), ⟨bRA9, .cells #[.int .i64 1000, .int .i64 0, .int .i64 100, .int .i64 890, .int .i64 10, .int .i64 0] 35 (0, 0)⟩, (xS true w185.heap.size gbs cbs gss css), ⟨bRW9, .cells #[.int .i64 1000, .int .i64 0, .int .i64 100, .int .i64 840, .int .i64 60, .int .i64 0] 35 (0, 0)⟩]) (fun ⟨bRX1, bRX2, bRX3, bRX4, gx, cx, ux⟩ => [⟨gx, .cells ux 57 (0, 0)⟩, ⟨gbs, .cells ubs 93 (0, 0)⟩, ⟨gss, .cells uss 3 (0, 0)⟩, ⟨gv, .cells uv 59 (0, 0)⟩, ⟨gu, .cells uu 59 (0, 0)⟩]) (fun ⟨bRX1, bRX2, bRX3, bRX4, gx, cx, ux⟩ _ => RowV 57 2 (.slice (some ⟨gx, 0, none⟩) 1 cx) 1 (encW [(2, 0)]) [⟨gx, .cells ux 57 (0, 0)⟩]) (fun hRX1_2_3_4_5_6 => ?_) ?_
  ·
    refine latS hA0RX [1, 2, 3, 4, 5] (γ := Nat × Nat × Nat × Nat) (fun ⟨bRX1, bRX2, bRX3, bRX4⟩ => [(0, .bool false), (1, .pointer (some ⟨w4.heap.size, 0, none⟩)), (3, .pointer (some ⟨w4.heap.size + 2, 0, none⟩)), (4, .slice (some ⟨gu, 0, none⟩) 2 cu), (5, .int .i64 0), (6, .slice (some ⟨gv, 0, none⟩) 3 cv), (7, .int .i64 0), (8, .pointer (some ⟨bRA9, 0, none⟩)), (9, .int .i64 0), (11, .int .i64 0), (12, .pointer (some ⟨bRW9, 0, none⟩)), (13, .int .i64 0), (73, (vK exC g3 2)), (74, .slice (some ⟨bRX1, 0, none⟩) 1 1), (75, .slice (some ⟨bRX2, 0, none⟩) 1 1), (76, .slice (some ⟨bRX3, 0, none⟩) 1 1), (77, .slice (some ⟨bRX4, 0, none⟩) 3 3), (78, .slice (some ⟨bRX4, 0, none⟩) 3 3)]) (fun ⟨bRX1, bRX2, bRX3, bRX4⟩ => [(kB g1), (kB g2), (kC g3), (xK (exB 0) w4.heap.size g1 3), (xK (exB 1) (w4.heap.size + 1) g2 3), (xK exC (w4.heap.size + 2) g3 2), ⟨bRA9, .cells #[.int .i64 1000, .int .i64 0, .int .i64 100, .int .i64 890, .int .i64 10, .int .i64 0] 35 (0, 0)⟩, (xS true w185.heap.size gbs cbs gss css), ⟨bRW9, .cells #[.int .i64 1000, .int .i64 0, .int .i64 100, .int .i64 840, .int .i64 60, .int .i64 0] 35 (0, 0)⟩, ⟨bRX1, .cells #[.int .i64 2] 3 (0, 0)⟩, ⟨bRX2, .cells #[.int .i64 0] 3 (0, 0)⟩, ⟨bRX3, .cells #[.int .i64 1] 3 (0, 0)⟩, ⟨bRX4, .cells #[.slice (some ⟨bRX1, 0, none⟩) 1 1, .slice (some ⟨bRX2, 0, none⟩) 1 1, .slice (some ⟨bRX3, 0, none⟩) 1 1] 23 (0, 0)⟩]) (fun ⟨bRX1, bRX2, bRX3, bRX4⟩ => [⟨gbs, .cells ubs 93 (0, 0)⟩, ⟨gss, .cells uss 3 (0, 0)⟩, ⟨gv, .cells uv 59 (0, 0)⟩, ⟨gu, .cells uu 59 (0, 0)⟩]) (fun ⟨bRX1, bRX2, bRX3, bRX4⟩ _ => True) ?_ (fun hRX1_2_3_4_5 => ?_)
    · rintro ⟨bRX1, bRX2, bRX3, bRX4⟩ wl253 _ hA
      have hAp := hA.atK [(kB g1), (kB g2), (kC g3), (xK (exB 0) w4.heap.size g1 3), (xK (exB 1) (w4.heap.size + 1) g2 3), (xK exC (w4.heap.size + 2) g3 2), ⟨bRA9, .cells #[.int .i64 1000, .int .i64 0, .int .i64 100, .int .i64 890, .int .i64 10, .int .i64 0] 35 (0, 0)⟩, (xS true w185.heap.size gbs cbs gss css), ⟨bRW9, .cells #[.int .i64 1000, .int .i64 0, .int .i64 100, .int .i64 840, .int .i64 60, .int .i64 0] 35 (0, 0)⟩, ⟨bRX1, .cells #[.int .i64 2] 3 (0, 0)⟩, ⟨bRX2, .cells #[.int .i64 0] 3 (0, 0)⟩, ⟨bRX3, .cells #[.int .i64 1] 3 (0, 0)⟩, ⟨bRX4, .cells #[.slice (some ⟨bRX1, 0, none⟩) 1 1, .slice (some ⟨bRX2, 0, none⟩) 1 1, .slice (some ⟨bRX3, 0, none⟩) 1 1] 23 (0, 0)⟩] (by kernel_rfl)
      have hP := Winners_any wl253 wl253.heap.size exC (some ⟨g3, 0, none⟩) 2 2 none 0 0 (some ⟨bRX4, 0, none⟩) 3 3 [[2], [0], [1]] (exC_at (hA.at_.ok (kC g3) (List.mem_of_getElem? (i := 2) (by kernel_rfl)))) (fin3 (hA.at_.ok ⟨bRX4, .cells #[.slice (some ⟨bRX1, 0, none⟩) 1 1, .slice (some ⟨bRX2, 0, none⟩) 1 1, .slice (some ⟨bRX3, 0, none⟩) 1 1] 23 (0, 0)⟩ (List.mem_of_getElem? (i := 12) (by kernel_rfl))) (xs0 := [2]) (hA.at_.ok ⟨bRX1, .cells #[.int .i64 2] 3 (0, 0)⟩ (List.mem_of_getElem? (i := 9) (by kernel_rfl))) (by decide) (xs1 := [0]) (hA.at_.ok ⟨bRX2, .cells #[.int .i64 0] 3 (0, 0)⟩ (List.mem_of_getElem? (i := 10) (by kernel_rfl))) (by decide) (xs2 := [1]) (hA.at_.ok ⟨bRX3, .cells #[.int .i64 1] 3 (0, 0)⟩ (List.mem_of_getElem? (i := 11) (by kernel_rfl))) (by decide)) (Nat.le_refl _)
      rw [wkX.1, wkX.2] at hP
      refine call hA [] on (hP) (by kernel_rfl) (by rintro e v ⟨v, rfl, hbd, hown, hnil⟩; exact hbd) ?_
      rintro e w354 ⟨v, rfl, hbd, hown, hnil⟩
      refine ⟨_, rfl, fun hA => ?_⟩
      obtain ⟨ob9, hr9, hA2⟩ := At.own hAp hbd hown
      obtain ⟨gx, cx, ux, hv9, rfl, -⟩ : ∃ gz cz uz, v = .slice (some ⟨gz, 0, none⟩) 1 cz ∧ ob9 = [⟨gz, .cells uz 57 (0, 0)⟩] ∧ True := by
        rcases hr9.2 with ⟨-, h9, -⟩ | ⟨gz, cz, uz, h8, h9, -⟩
        · exact absurd h9 (by decide)
        · exact ⟨gz, cz, uz, h8, h9, trivial⟩
      cases hv9
      refine reknow ⟨[(kB g1), (kB g2), (kC g3), (xK (exB 0) w4.heap.size g1 3), (xK (exB 1) (w4.heap.size + 1) g2 3), (xK exC (w4.heap.size + 2) g3 2), ⟨bRA9, .cells #[.int .i64 1000, .int .i64 0, .int .i64 100, .int .i64 890, .int .i64 10, .int .i64 0] 35 (0, 0)⟩, (xS true w185.heap.size gbs cbs gss css), ⟨bRW9, .cells #[.int .i64 1000, .int .i64 0, .int .i64 100, .int .i64 840, .int .i64 60, .int .i64 0] 35 (0, 0)⟩, ⟨bRX1, .cells #[.int .i64 2] 3 (0, 0)⟩, ⟨bRX2, .cells #[.int .i64 0] 3 (0, 0)⟩, ⟨bRX3, .cells #[.int .i64 1] 3 (0, 0)⟩, ⟨bRX4, .cells #[.slice (some ⟨bRX1, 0, none⟩) 1 1, .slice (some ⟨bRX2, 0, none⟩) 1 1, .slice (some ⟨bRX3, 0, none⟩) 1 1] 23 (0, 0)⟩], w354.heap.size, [], [], [], [], []⟩ hA2 (Nat.zero_le _) fun hA => ?_
      refine runS hA 5 [.t 7, .t 8, .t 9, .t 10, .t 11] xn on (by kernel_rfl) fun w355 hA => ?_
      exact joinE hRX1_2_3_4_5_6 ⟨bRX1, bRX2, bRX3, bRX4, gx, cx, ux⟩ hr9 [0, 1, 2, 3, 4, 5, 6, 7, 8] hA rfl (by kernel_rfl) (by decide)
    refine latS hA0RX [1, 2, 3, 4] (γ := Nat × Nat × Nat × Nat) (fun ⟨bRX1, bRX2, bRX3, bRX4⟩ => [(0, .bool false), (1, .pointer (some ⟨w4.heap.size, 0, none⟩)), (3, .pointer (some ⟨w4.heap.size + 2, 0, none⟩)), (4, .slice (some ⟨gu, 0, none⟩) 2 cu), (5, .int .i64 0), (6, .slice (some ⟨gv, 0, none⟩) 3 cv), (7, .int .i64 0), (8, .pointer (some ⟨bRA9, 0, none⟩)), (9, .int .i64 0), (11, .int .i64 0), (12, .pointer (some ⟨bRW9, 0, none⟩)), (13, .int .i64 0), (73, (vK exC g3 2)), (74, .slice (some ⟨bRX1, 0, none⟩) 1 1), (75, .slice (some ⟨bRX2, 0, none⟩) 1 1), (76, .slice (some ⟨bRX3, 0, none⟩) 1 1), (77, .slice (some ⟨bRX4, 0, none⟩) 3 3)]) (fun ⟨bRX1, bRX2, bRX3, bRX4⟩ => [(kB g1), (kB g2), (kC g3), (xK (exB 0) w4.heap.size g1 3), (xK (exB 1) (w4.heap.size + 1) g2 3), (xK exC (w4.heap.size + 2) g3 2), ⟨bRA9, .cells #[.int .i64 1000, .int .i64 0, .int .i64 100, .int .i64 890, .int .i64 10, .int .i64 0] 35 (0, 0)⟩, (xS true w185.heap.size gbs cbs gss css), ⟨bRW9, .cells #[.int .i64 1000, .int .i64 0, .int .i64 100, .int .i64 840, .int .i64 60, .int .i64 0] 35 (0, 0)⟩, ⟨bRX1, .cells #[.int .i64 2] 3 (0, 0)⟩, ⟨bRX2, .cells #[.int .i64 0] 3 (0, 0)⟩, ⟨bRX3, .cells #[.int .i64 1] 3 (0, 0)⟩, ⟨bRX4, .cells #[.slice (some ⟨bRX1, 0, none⟩) 1 1, .slice (some ⟨bRX2, 0, none⟩) 1 1, .slice (some ⟨bRX3, 0, none⟩) 1 1] 23 (0, 0)⟩]) (fun ⟨bRX1, bRX2, bRX3, bRX4⟩ => [⟨gbs, .cells ubs 93 (0, 0)⟩, ⟨gss, .cells uss 3 (0, 0)⟩, ⟨gv, .cells uv 59 (0, 0)⟩, ⟨gu, .cells uu 59 (0, 0)⟩]) (fun ⟨bRX1, bRX2, bRX3, bRX4⟩ _ => True) ?_ (fun hRX1_2_3_4 => ?_)
    · rintro ⟨bRX1, bRX2, bRX3, bRX4⟩ wl254 _ hA
      refine callB hA [] on (in_any wl254 (some ⟨bRX4, 0, none⟩) 3 3) (by kernel_rfl) fun w355 hb355 hA => ?_
      exact joinE hRX1_2_3_4_5 ⟨bRX1, bRX2, bRX3, bRX4⟩ trivial [0, 1, 2, 3, 4, 5, 6, 7, 8, 9, 10, 11, 12] hA rfl (by kernel_rfl) (by decide)
    refine latS hA0RX [1, 2, 3] (γ := Nat × Nat × Nat) (fun ⟨bRX1, bRX2, bRX3⟩ => [(0, .bool false), (1, .pointer (some ⟨w4.heap.size, 0, none⟩)), (3, .pointer (some ⟨w4.heap.size + 2, 0, none⟩)), (4, .slice (some ⟨gu, 0, none⟩) 2 cu), (5, .int .i64 0), (6, .slice (some ⟨gv, 0, none⟩) 3 cv), (7, .int .i64 0), (8, .pointer (some ⟨bRA9, 0, none⟩)), (9, .int .i64 0), (11, .int .i64 0), (12, .pointer (some ⟨bRW9, 0, none⟩)), (13, .int .i64 0), (73, (vK exC g3 2)), (74, .slice (some ⟨bRX1, 0, none⟩) 1 1), (75, .slice (some ⟨bRX2, 0, none⟩) 1 1), (76, .slice (some ⟨bRX3, 0, none⟩) 1 1)]) (fun ⟨bRX1, bRX2, bRX3⟩ => [(kB g1), (kB g2), (kC g3), (xK (exB 0) w4.heap.size g1 3), (xK (exB 1) (w4.heap.size + 1) g2 3), (xK exC (w4.heap.size + 2) g3 2), ⟨bRA9, .cells #[.int .i64 1000, .int .i64 0, .int .i64 100, .int .i64 890, .int .i64 10, .int .i64 0] 35 (0, 0)⟩, (xS true w185.heap.size gbs cbs gss css), ⟨bRW9, .cells #[.int .i64 1000, .int .i64 0, .int .i64 100, .int .i64 840, .int .i64 60, .int .i64 0] 35 (0, 0)⟩, ⟨bRX1, .cells #[.int .i64 2] 3 (0, 0)⟩, ⟨bRX2, .cells #[.int .i64 0] 3 (0, 0)⟩, ⟨bRX3, .cells #[.int .i64 1] 3 (0, 0)⟩]) (fun ⟨bRX1, bRX2, bRX3⟩ => [⟨gbs, .cells ubs 93 (0, 0)⟩, ⟨gss, .cells uss 3 (0, 0)⟩, ⟨gv, .cells uv 59 (0, 0)⟩, ⟨gu, .cells uu 59 (0, 0)⟩]) (fun ⟨bRX1, bRX2, bRX3⟩ _ => True) ?_ (fun hRX1_2_3 => ?_)
    · rintro ⟨bRX1, bRX2, bRX3⟩ wl255 _ hA
      refine runS hA 1 [.h 4] xn on (by kernel_rfl) fun w356 hA => ?_
      exact joinE hRX1_2_3_4 ⟨bRX1, bRX2, bRX3, wl255.heap.size⟩ trivial [0, 1, 2, 3, 4, 5, 6, 7, 8, 9, 10, 11, 12] hA rfl (by kernel_rfl) (by decide)
    refine latS hA0RX [2, 3] (γ := Nat × Nat) (fun ⟨bRX2, bRX3⟩ => [(0, .bool false), (1, .pointer (some ⟨w4.heap.size, 0, none⟩)), (3, .pointer (some ⟨w4.heap.size + 2, 0, none⟩)), (4, .slice (some ⟨gu, 0, none⟩) 2 cu), (5, .int .i64 0), (6, .slice (some ⟨gv, 0, none⟩) 3 cv), (7, .int .i64 0), (8, .pointer (some ⟨bRA9, 0, none⟩)), (9, .int .i64 0), (11, .int .i64 0), (12, .pointer (some ⟨bRW9, 0, none⟩)), (13, .int .i64 0), (73, (vK exC g3 2)), (75, .slice (some ⟨bRX2, 0, none⟩) 1 1), (76, .slice (some ⟨bRX3, 0, none⟩) 1 1)]) (fun ⟨bRX2, bRX3⟩ => [(kB g1), (kB g2), (kC g3), (xK (exB 0) w4.heap.size g1 3), (xK (exB 1) (w4.heap.size + 1) g2 3), (xK exC (w4.heap.size + 2) g3 2), ⟨bRA9, .cells #[.int .i64 1000, .int .i64 0, .int .i64 100, .int .i64 890, .int .i64 10, .int .i64 0] 35 (0, 0)⟩, (xS true w185.heap.size gbs cbs gss css), ⟨bRW9, .cells #[.int .i64 1000, .int .i64 0, .int .i64 100, .int .i64 840, .int .i64 60, .int .i64 0] 35 (0, 0)⟩, ⟨bRX2, .cells #[.int .i64 0] 3 (0, 0)⟩, ⟨bRX3, .cells #[.int .i64 1] 3 (0, 0)⟩]) (fun ⟨bRX2, bRX3⟩ => [⟨gbs, .cells ubs 93 (0, 0)⟩, ⟨gss, .cells uss 3 (0, 0)⟩, ⟨gv, .cells uv 59 (0, 0)⟩, ⟨gu, .cells uu 59 (0, 0)⟩]) (fun ⟨bRX2, bRX3⟩ _ => True) ?_ (fun hRX2_3 => ?_)
    · rintro ⟨bRX2, bRX3⟩ wl256 _ hA
      refine runS hA 1 [.h 1] xn on (by kernel_rfl) fun w357 hA => ?_
      exact joinE hRX1_2_3 ⟨wl256.heap.size, bRX2, bRX3⟩ trivial [0, 1, 2, 3, 4, 5, 6, 7, 8, 11, 9, 10] hA rfl (by kernel_rfl) (by decide)
    refine latS hA0RX [1, 3] (γ := Nat × Nat) (fun ⟨bRX1, bRX3⟩ => [(0, .bool false), (1, .pointer (some ⟨w4.heap.size, 0, none⟩)), (3, .pointer (some ⟨w4.heap.size + 2, 0, none⟩)), (4, .slice (some ⟨gu, 0, none⟩) 2 cu), (5, .int .i64 0), (6, .slice (some ⟨gv, 0, none⟩) 3 cv), (7, .int .i64 0), (8, .pointer (some ⟨bRA9, 0, none⟩)), (9, .int .i64 0), (11, .int .i64 0), (12, .pointer (some ⟨bRW9, 0, none⟩)), (13, .int .i64 0), (73, (vK exC g3 2)), (74, .slice (some ⟨bRX1, 0, none⟩) 1 1), (76, .slice (some ⟨bRX3, 0, none⟩) 1 1)]) (fun ⟨bRX1, bRX3⟩ => [(kB g1), (kB g2), (kC g3), (xK (exB 0) w4.heap.size g1 3), (xK (exB 1) (w4.heap.size + 1) g2 3), (xK exC (w4.heap.size + 2) g3 2), ⟨bRA9, .cells #[.int .i64 1000, .int .i64 0, .int .i64 100, .int .i64 890, .int .i64 10, .int .i64 0] 35 (0, 0)⟩, (xS true w185.heap.size gbs cbs gss css), ⟨bRW9, .cells #[.int .i64 1000, .int .i64 0, .int .i64 100, .int .i64 840, .int .i64 60, .int .i64 0] 35 (0, 0)⟩, ⟨bRX1, .cells #[.int .i64 2] 3 (0, 0)⟩, ⟨bRX3, .cells #[.int .i64 1] 3 (0, 0)⟩]) (fun ⟨bRX1, bRX3⟩ => [⟨gbs, .cells ubs 93 (0, 0)⟩, ⟨gss, .cells uss 3 (0, 0)⟩, ⟨gv, .cells uv 59 (0, 0)⟩, ⟨gu, .cells uu 59 (0, 0)⟩]) (fun ⟨bRX1, bRX3⟩ _ => True) ?_ (fun hRX1_3 => ?_)
    · rintro ⟨bRX1, bRX3⟩ wl257 _ hA
      refine runS hA 1 [.h 2] xn on (by kernel_rfl) fun w358 hA => ?_
      exact joinE hRX1_2_3 ⟨bRX1, wl257.heap.size, bRX3⟩ trivial [0, 1, 2, 3, 4, 5, 6, 7, 8, 9, 11, 10] hA rfl (by kernel_rfl) (by decide)
    refine latS hA0RX [1, 2] (γ := Nat × Nat) (fun ⟨bRX1, bRX2⟩ => [(0, .bool false), (1, .pointer (some ⟨w4.heap.size, 0, none⟩)), (3, .pointer (some ⟨w4.heap.size + 2, 0, none⟩)), (4, .slice (some ⟨gu, 0, none⟩) 2 cu), (5, .int .i64 0), (6, .slice (some ⟨gv, 0, none⟩) 3 cv), (7, .int .i64 0), (8, .pointer (some ⟨bRA9, 0, none⟩)), (9, .int .i64 0), (11, .int .i64 0), (12, .pointer (some ⟨bRW9, 0, none⟩)), (13, .int .i64 0), (73, (vK exC g3 2)), (74, .slice (some ⟨bRX1, 0, none⟩) 1 1), (75, .slice (some ⟨bRX2, 0, none⟩) 1 1)]) (fun ⟨bRX1, bRX2⟩ => [(kB g1), (kB g2), (kC g3), (xK (exB 0) w4.heap.size g1 3), (xK (exB 1) (w4.heap.size + 1) g2 3), (xK exC (w4.heap.size + 2) g3 2), ⟨bRA9, .cells #[.int .i64 1000, .int .i64 0, .int .i64 100, .int .i64 890, .int .i64 10, .int .i64 0] 35 (0, 0)⟩, (xS true w185.heap.size gbs cbs gss css), ⟨bRW9, .cells #[.int .i64 1000, .int .i64 0, .int .i64 100, .int .i64 840, .int .i64 60, .int .i64 0] 35 (0, 0)⟩, ⟨bRX1, .cells #[.int .i64 2] 3 (0, 0)⟩, ⟨bRX2, .cells #[.int .i64 0] 3 (0, 0)⟩]) (fun ⟨bRX1, bRX2⟩ => [⟨gbs, .cells ubs 93 (0, 0)⟩, ⟨gss, .cells uss 3 (0, 0)⟩, ⟨gv, .cells uv 59 (0, 0)⟩, ⟨gu, .cells uu 59 (0, 0)⟩]) (fun ⟨bRX1, bRX2⟩ _ => True) ?_ (fun hRX1_2 => ?_)
    · rintro ⟨bRX1, bRX2⟩ wl258 _ hA
      refine runS hA 1 [.h 3] xn on (by kernel_rfl) fun w359 hA => ?_
      exact joinE hRX1_2_3 ⟨bRX1, bRX2, wl258.heap.size⟩ trivial [0, 1, 2, 3, 4, 5, 6, 7, 8, 9, 10, 11] hA rfl (by kernel_rfl) (by decide)
    refine latS hA0RX [3] (γ := Nat) (fun bRX3 => [(0, .bool false), (1, .pointer (some ⟨w4.heap.size, 0, none⟩)), (3, .pointer (some ⟨w4.heap.size + 2, 0, none⟩)), (4, .slice (some ⟨gu, 0, none⟩) 2 cu), (5, .int .i64 0), (6, .slice (some ⟨gv, 0, none⟩) 3 cv), (7, .int .i64 0), (8, .pointer (some ⟨bRA9, 0, none⟩)), (9, .int .i64 0), (11, .int .i64 0), (12, .pointer (some ⟨bRW9, 0, none⟩)), (13, .int .i64 0), (73, (vK exC g3 2)), (76, .slice (some ⟨bRX3, 0, none⟩) 1 1)]) (fun bRX3 => [(kB g1), (kB g2), (kC g3), (xK (exB 0) w4.heap.size g1 3), (xK (exB 1) (w4.heap.size + 1) g2 3), (xK exC (w4.heap.size + 2) g3 2), ⟨bRA9, .cells #[.int .i64 1000, .int .i64 0, .int .i64 100, .int .i64 890, .int .i64 10, .int .i64 0] 35 (0, 0)⟩, (xS true w185.heap.size gbs cbs gss css), ⟨bRW9, .cells #[.int .i64 1000, .int .i64 0, .int .i64 100, .int .i64 840, .int .i64 60, .int .i64 0] 35 (0, 0)⟩, ⟨bRX3, .cells #[.int .i64 1] 3 (0, 0)⟩]) (fun bRX3 => [⟨gbs, .cells ubs 93 (0, 0)⟩, ⟨gss, .cells uss 3 (0, 0)⟩, ⟨gv, .cells uv 59 (0, 0)⟩, ⟨gu, .cells uu 59 (0, 0)⟩]) (fun bRX3 _ => True) ?_ (fun hRX3 => ?_)
    · rintro bRX3 wl259 _ hA
      refine manyS hA 1 [2] (by kernel_rfl) ⟨fun hA => ?_, fun hA => ?_, trivial⟩
      ·
        refine runS hA 1 [] xn on (by kernel_rfl) fun w360 hA => ?_
        exact joinE hRX1_3 ⟨wl259.heap.size, bRX3⟩ trivial [0, 1, 2, 3, 4, 5, 6, 7, 8, 10, 9] hA rfl (by kernel_rfl) (by decide)
      ·
        refine runS hA 1 [] xn on (by kernel_rfl) fun w360 hA => ?_
        exact joinE hRX2_3 ⟨wl259.heap.size, bRX3⟩ trivial [0, 1, 2, 3, 4, 5, 6, 7, 8, 10, 9] hA rfl (by kernel_rfl) (by decide)
    refine latS hA0RX [2] (γ := Nat) (fun bRX2 => [(0, .bool false), (1, .pointer (some ⟨w4.heap.size, 0, none⟩)), (3, .pointer (some ⟨w4.heap.size + 2, 0, none⟩)), (4, .slice (some ⟨gu, 0, none⟩) 2 cu), (5, .int .i64 0), (6, .slice (some ⟨gv, 0, none⟩) 3 cv), (7, .int .i64 0), (8, .pointer (some ⟨bRA9, 0, none⟩)), (9, .int .i64 0), (11, .int .i64 0), (12, .pointer (some ⟨bRW9, 0, none⟩)), (13, .int .i64 0), (73, (vK exC g3 2)), (75, .slice (some ⟨bRX2, 0, none⟩) 1 1)]) (fun bRX2 => [(kB g1), (kB g2), (kC g3), (xK (exB 0) w4.heap.size g1 3), (xK (exB 1) (w4.heap.size + 1) g2 3), (xK exC (w4.heap.size + 2) g3 2), ⟨bRA9, .cells #[.int .i64 1000, .int .i64 0, .int .i64 100, .int .i64 890, .int .i64 10, .int .i64 0] 35 (0, 0)⟩, (xS true w185.heap.size gbs cbs gss css), ⟨bRW9, .cells #[.int .i64 1000, .int .i64 0, .int .i64 100, .int .i64 840, .int .i64 60, .int .i64 0] 35 (0, 0)⟩, ⟨bRX2, .cells #[.int .i64 0] 3 (0, 0)⟩]) (fun bRX2 => [⟨gbs, .cells ubs 93 (0, 0)⟩, ⟨gss, .cells uss 3 (0, 0)⟩, ⟨gv, .cells uv 59 (0, 0)⟩, ⟨gu, .cells uu 59 (0, 0)⟩]) (fun bRX2 _ => True) ?_ (fun hRX2 => ?_)
    · rintro bRX2 wl260 _ hA
      refine manyS hA 1 [3] (by kernel_rfl) ⟨fun hA => ?_, fun hA => ?_, trivial⟩
      ·
        refine runS hA 1 [] xn on (by kernel_rfl) fun w361 hA => ?_
        exact joinE hRX1_2 ⟨wl260.heap.size, bRX2⟩ trivial [0, 1, 2, 3, 4, 5, 6, 7, 8, 10, 9] hA rfl (by kernel_rfl) (by decide)
      ·
        refine runS hA 1 [] xn on (by kernel_rfl) fun w361 hA => ?_
        exact joinE hRX2_3 ⟨bRX2, wl260.heap.size⟩ trivial [0, 1, 2, 3, 4, 5, 6, 7, 8, 9, 10] hA rfl (by kernel_rfl) (by decide)
    refine latS hA0RX [1] (γ := Nat) (fun bRX1 => [(0, .bool false), (1, .pointer (some ⟨w4.heap.size, 0, none⟩)), (3, .pointer (some ⟨w4.heap.size + 2, 0, none⟩)), (4, .slice (some ⟨gu, 0, none⟩) 2 cu), (5, .int .i64 0), (6, .slice (some ⟨gv, 0, none⟩) 3 cv), (7, .int .i64 0), (8, .pointer (some ⟨bRA9, 0, none⟩)), (9, .int .i64 0), (11, .int .i64 0), (12, .pointer (some ⟨bRW9, 0, none⟩)), (13, .int .i64 0), (73, (vK exC g3 2)), (74, .slice (some ⟨bRX1, 0, none⟩) 1 1)]) (fun bRX1 => [(kB g1), (kB g2), (kC g3), (xK (exB 0) w4.heap.size g1 3), (xK (exB 1) (w4.heap.size + 1) g2 3), (xK exC (w4.heap.size + 2) g3 2), ⟨bRA9, .cells #[.int .i64 1000, .int .i64 0, .int .i64 100, .int .i64 890, .int .i64 10, .int .i64 0] 35 (0, 0)⟩, (xS true w185.heap.size gbs cbs gss css), ⟨bRW9, .cells #[.int .i64 1000, .int .i64 0, .int .i64 100, .int .i64 840, .int .i64 60, .int .i64 0] 35 (0, 0)⟩, ⟨bRX1, .cells #[.int .i64 2] 3 (0, 0)⟩]) (fun bRX1 => [⟨gbs, .cells ubs 93 (0, 0)⟩, ⟨gss, .cells uss 3 (0, 0)⟩, ⟨gv, .cells uv 59 (0, 0)⟩, ⟨gu, .cells uu 59 (0, 0)⟩]) (fun bRX1 _ => True) ?_ (fun hRX1 => ?_)
    · rintro bRX1 wl261 _ hA
      refine manyS hA 2 [3] (by kernel_rfl) ⟨fun hA => ?_, fun hA => ?_, trivial⟩
      ·
        refine runS hA 1 [] xn on (by kernel_rfl) fun w362 hA => ?_
        exact joinE hRX1_2 ⟨bRX1, wl261.heap.size⟩ trivial [0, 1, 2, 3, 4, 5, 6, 7, 8, 9, 10] hA rfl (by kernel_rfl) (by decide)
      ·
        refine runS hA 1 [] xn on (by kernel_rfl) fun w362 hA => ?_
        exact joinE hRX1_3 ⟨bRX1, wl261.heap.size⟩ trivial [0, 1, 2, 3, 4, 5, 6, 7, 8, 9, 10] hA rfl (by kernel_rfl) (by decide)
    replace hA := hA0RX
    refine manyS hA 1 [2, 3] (by kernel_rfl) ⟨fun hA => ?_, fun hA => ?_, fun hA => ?_, trivial⟩
    ·
      refine runS hA 1 [] xn on (by kernel_rfl) fun w262 hA => ?_
      exact joinE hRX1 w250.heap.size trivial [0, 1, 2, 3, 4, 5, 6, 7, 8, 9] hA rfl (by kernel_rfl) (by decide)
    ·
      refine runS hA 1 [] xn on (by kernel_rfl) fun w262 hA => ?_
      exact joinE hRX2 w250.heap.size trivial [0, 1, 2, 3, 4, 5, 6, 7, 8, 9] hA rfl (by kernel_rfl) (by decide)
    ·
      refine runS hA 1 [] xn on (by kernel_rfl) fun w262 hA => ?_
      exact joinE hRX3 w250.heap.size trivial [0, 1, 2, 3, 4, 5, 6, 7, 8, 9] hA rfl (by kernel_rfl) (by decide)
  rintro ⟨bRX1, bRX2, bRX3, bRX4, gx, cx, ux⟩ w311 hrRX0 hA
  have hrx := hrRX0
  refine runS hA 3 [.b true] xn on (by kernel_rfl) fun w312 hA => ?_
  refine draw hA [true, true, true, true, true, true, true, true, true] [0, 1, 2, 3, 4, 5, 6, 7, 8, 9, 10, 11] (by kernel_rfl) (by kernel_rfl) fun hA => ?_
  refine runS hA 1 ([.t 0] ++ List.replicate 8 (.k 5)) xn on (by kernel_rfl) fun w313 hA => ?_
  have hA0RE := hA
  refine latK hA0RE [1, 2, 3, 4, 5, 6, 7, 8, 9, 10, 11] (γ := Nat × Nat × Nat × Nat) (fun ⟨bRE1, bRE2, bRE3, bRE4⟩ => [(0, .bool false), (1, .pointer (some ⟨w4.heap.size, 0, none⟩)), (3, .pointer (some ⟨w4.heap.size + 2, 0, none⟩)), (4, .slice (some ⟨gu, 0, none⟩) 2 cu), (5, .int .i64 0), (6, .slice (some ⟨gv, 0, none⟩) 3 cv), (7, .int .i64 0), (8, .pointer (some ⟨bRA9, 0, none⟩)), (9, .int .i64 0), (11, .int .i64 0), (12, .pointer (some ⟨bRW9, 0, none⟩)), (13, .int .i64 0), (14, .slice (some ⟨gx, 0, none⟩) 1 cx), (15, .int .i64 0), (17, .int .i64 19)]) (fun ⟨bRE1, bRE2, bRE3, bRE4⟩ => [(kB g1), (kB g2), (kC g3), (xK (exB 0) w4.heap.size g1 3), (xK (exB 1) (w4.heap.size + 1) g2 3), (xK exC (w4.heap.size + 2) g3 2), ⟨bRA9, .cells #[.int .i64 1000, .int .i64 0, .int .i64 100, .int .i64 890, .int .i64 10, .int .i64 0] 35 (0, 0)⟩, (xS true w185.heap.size gbs cbs gss css), ⟨bRW9, .cells #[.int .i64 1000, .int .i64 0, .int .i64 100, .int .i64 840, .int .i64 60, .int .i64 0] 35 (0, 0)⟩]) (fun ⟨bRE1, bRE2, bRE3, bRE4⟩ => [⟨gx, .cells ux 57 (0, 0)⟩, ⟨gbs, .cells ubs 93 (0, 0)⟩, ⟨gss, .cells uss 3 (0, 0)⟩, ⟨gv, .cells uv 59 (0, 0)⟩, ⟨gu, .cells uu 59 (0, 0)⟩]) (fun ⟨bRE1, bRE2, bRE3, bRE4⟩ _ => True) (fun hRE1_2_3_4_5_6 => ?_) ?_
  ·
    refine latS hA0RE [1, 2, 3, 4, 5] (γ := Nat × Nat × Nat × Nat) (fun ⟨bRE1, bRE2, bRE3, bRE4⟩ => [(0, .bool false), (1, .pointer (some ⟨w4.heap.size, 0, none⟩)), (3, .pointer (some ⟨w4.heap.size + 2, 0, none⟩)), (4, .slice (some ⟨gu, 0, none⟩) 2 cu), (5, .int .i64 0), (6, .slice (some ⟨gv, 0, none⟩) 3 cv), (7, .int .i64 0), (8, .pointer (some ⟨bRA9, 0, none⟩)), (9, .int .i64 0), (11, .int .i64 0), (12, .pointer (some ⟨bRW9, 0, none⟩)), (13, .int .i64 0), (14, .slice (some ⟨gx, 0, none⟩) 1 cx), (15, .int .i64 0), (83, (vK exC g3 2)), (84, .slice (some ⟨bRE1, 0, none⟩) 1 1), (85, .slice (some ⟨bRE2, 0, none⟩) 1 1), (86, .slice (some ⟨bRE3, 0, none⟩) 1 1), (87, .slice (some ⟨bRE4, 0, none⟩) 3 3), (88, .slice (some ⟨bRE4, 0, none⟩) 3 3)]) (fun ⟨bRE1, bRE2, bRE3, bRE4⟩ => [(kB g1), (kB g2), (kC g3), (xK (exB 0) w4.heap.size g1 3), (xK (exB 1) (w4.heap.size + 1) g2 3), (xK exC (w4.heap.size + 2) g3 2), ⟨bRA9, .cells #[.int .i64 1000, .int .i64 0, .int .i64 100, .int .i64 890, .int .i64 10, .int .i64 0] 35 (0, 0)⟩, (xS true w185.heap.size gbs cbs gss css), ⟨bRW9, .cells #[.int .i64 1000, .int .i64 0, .int .i64 100, .int .i64 840, .int .i64 60, .int .i64 0] 35 (0, 0)⟩, ⟨bRE1, .cells #[.int .i64 2] 3 (0, 0)⟩, ⟨bRE2, .cells #[.int .i64 0] 3 (0, 0)⟩, ⟨bRE3, .cells #[.int .i64 1] 3 (0, 0)⟩, ⟨bRE4, .cells #[.slice (some ⟨bRE1, 0, none⟩) 1 1, .slice (some ⟨bRE2, 0, none⟩) 1 1, .slice (some ⟨bRE3, 0, none⟩) 1 1] 23 (0, 0)⟩]) (fun ⟨bRE1, bRE2, bRE3, bRE4⟩ => [⟨gx, .cells ux 57 (0, 0)⟩, ⟨gbs, .cells ubs 93 (0, 0)⟩, ⟨gss, .cells uss 3 (0, 0)⟩, ⟨gv, .cells uv 59 (0, 0)⟩, ⟨gu, .cells uu 59 (0, 0)⟩]) (fun ⟨bRE1, bRE2, bRE3, bRE4⟩ _ => True) ?_ (fun hRE1_2_3_4_5 => ?_)
    · rintro ⟨bRE1, bRE2, bRE3, bRE4⟩ wl314 _ hA
      have hP := Dividends_any wl314 wl314.heap.size exC (some ⟨g3, 0, none⟩) 2 2 none 0 0 (some ⟨bRE4, 0, none⟩) 3 3 [[2], [0], [1]] (exC_at (hA.at_.ok (kC g3) (List.mem_of_getElem? (i := 2) (by kernel_rfl)))) (fin3 (hA.at_.ok ⟨bRE4, .cells #[.slice (some ⟨bRE1, 0, none⟩) 1 1, .slice (some ⟨bRE2, 0, none⟩) 1 1, .slice (some ⟨bRE3, 0, none⟩) 1 1] 23 (0, 0)⟩ (List.mem_of_getElem? (i := 12) (by kernel_rfl))) (xs0 := [2]) (hA.at_.ok ⟨bRE1, .cells #[.int .i64 2] 3 (0, 0)⟩ (List.mem_of_getElem? (i := 9) (by kernel_rfl))) (by decide) (xs1 := [0]) (hA.at_.ok ⟨bRE2, .cells #[.int .i64 0] 3 (0, 0)⟩ (List.mem_of_getElem? (i := 10) (by kernel_rfl))) (by decide) (xs2 := [1]) (hA.at_.ok ⟨bRE3, .cells #[.int .i64 1] 3 (0, 0)⟩ (List.mem_of_getElem? (i := 11) (by kernel_rfl))) (by decide)) (Nat.le_refl _)
      rw [wkE7.1, wkE7.2] at hP
      have hP2 := hP.mono (R' := fun e w' => e = .returned (.tuple #[.slice none 0 0, .int .i64 19]) ∧ Below wl314.heap.size wl314 w') (by rintro e w' ⟨v, rfl, hbd, -, hnil⟩; exact ⟨by rw [hnil (by decide)], hbd⟩)
      refine callB hA [] on (hP2) (by kernel_rfl) fun w415 hb415 hA => ?_
      refine runS hA 5 [.t 7, .t 8, .t 9, .t 10, .t 11] xn on (by kernel_rfl) fun w416 hA => ?_
      exact joinE hRE1_2_3_4_5_6 ⟨bRE1, bRE2, bRE3, bRE4⟩ trivial [0, 1, 2, 3, 4, 5, 6, 7, 8] hA rfl (by kernel_rfl) (by decide)
    refine latS hA0RE [1, 2, 3, 4] (γ := Nat × Nat × Nat × Nat) (fun ⟨bRE1, bRE2, bRE3, bRE4⟩ => [(0, .bool false), (1, .pointer (some ⟨w4.heap.size, 0, none⟩)), (3, .pointer (some ⟨w4.heap.size + 2, 0, none⟩)), (4, .slice (some ⟨gu, 0, none⟩) 2 cu), (5, .int .i64 0), (6, .slice (some ⟨gv, 0, none⟩) 3 cv), (7, .int .i64 0), (8, .pointer (some ⟨bRA9, 0, none⟩)), (9, .int .i64 0), (11, .int .i64 0), (12, .pointer (some ⟨bRW9, 0, none⟩)), (13, .int .i64 0), (14, .slice (some ⟨gx, 0, none⟩) 1 cx), (15, .int .i64 0), (83, (vK exC g3 2)), (84, .slice (some ⟨bRE1, 0, none⟩) 1 1), (85, .slice (some ⟨bRE2, 0, none⟩) 1 1), (86, .slice (some ⟨bRE3, 0, none⟩) 1 1), (87, .slice (some ⟨bRE4, 0, none⟩) 3 3)]) (fun ⟨bRE1, bRE2, bRE3, bRE4⟩ => [(kB g1), (kB g2), (kC g3), (xK (exB 0) w4.heap.size g1 3), (xK (exB 1) (w4.heap.size + 1) g2 3), (xK exC (w4.heap.size + 2) g3 2), ⟨bRA9, .cells #[.int .i64 1000, .int .i64 0, .int .i64 100, .int .i64 890, .int .i64 10, .int .i64 0] 35 (0, 0)⟩, (xS true w185.heap.size gbs cbs gss css), ⟨bRW9, .cells #[.int .i64 1000, .int .i64 0, .int .i64 100, .int .i64 840, .int .i64 60, .int .i64 0] 35 (0, 0)⟩, ⟨bRE1, .cells #[.int .i64 2] 3 (0, 0)⟩, ⟨bRE2, .cells #[.int .i64 0] 3 (0, 0)⟩, ⟨bRE3, .cells #[.int .i64 1] 3 (0, 0)⟩, ⟨bRE4, .cells #[.slice (some ⟨bRE1, 0, none⟩) 1 1, .slice (some ⟨bRE2, 0, none⟩) 1 1, .slice (some ⟨bRE3, 0, none⟩) 1 1] 23 (0, 0)⟩]) (fun ⟨bRE1, bRE2, bRE3, bRE4⟩ => [⟨gx, .cells ux 57 (0, 0)⟩, ⟨gbs, .cells ubs 93 (0, 0)⟩, ⟨gss, .cells uss 3 (0, 0)⟩, ⟨gv, .cells uv 59 (0, 0)⟩, ⟨gu, .cells uu 59 (0, 0)⟩]) (fun ⟨bRE1, bRE2, bRE3, bRE4⟩ _ => True) ?_ (fun hRE1_2_3_4 => ?_)
    · rintro ⟨bRE1, bRE2, bRE3, bRE4⟩ wl315 _ hA
      refine callB hA [] on (in_any wl315 (some ⟨bRE4, 0, none⟩) 3 3) (by kernel_rfl) fun w416 hb416 hA => ?_
      exact joinE hRE1_2_3_4_5 ⟨bRE1, bRE2, bRE3, bRE4⟩ trivial [0, 1, 2, 3, 4, 5, 6, 7, 8, 9, 10, 11, 12] hA rfl (by kernel_rfl) (by decide)
    refine latS hA0RE [1, 2, 3] (γ := Nat × Nat × Nat) (fun ⟨bRE1, bRE2, bRE3⟩ => [(0, .bool false), (1, .pointer (some ⟨w4.heap.size, 0, none⟩)), (3, .pointer (some ⟨w4.heap.size + 2, 0, none⟩)), (4, .slice (some ⟨gu, 0, none⟩) 2 cu), (5, .int .i64 0), (6, .slice (some ⟨gv, 0, none⟩) 3 cv), (7, .int .i64 0), (8, .pointer (some ⟨bRA9, 0, none⟩)), (9, .int .i64 0), (11, .int .i64 0), (12, .pointer (some ⟨bRW9, 0, none⟩)), (13, .int .i64 0), (14, .slice (some ⟨gx, 0, none⟩) 1 cx), (15, .int .i64 0), (83, (vK exC g3 2)), (84, .slice (some ⟨bRE1, 0, none⟩) 1 1), (85, .slice (some ⟨bRE2, 0, none⟩) 1 1), (86, .slice (some ⟨bRE3, 0, none⟩) 1 1)]) (fun ⟨bRE1, bRE2, bRE3⟩ => [(kB g1), (kB g2), (kC g3), (xK (exB 0) w4.heap.size g1 3), (xK (exB 1) (w4.heap.size + 1) g2 3), (xK exC (w4.heap.size + 2) g3 2), ⟨bRA9, .cells #[.int .i64 1000, .int .i64 0, .int .i64 100, .int .i64 890, .int .i64 10, .int .i64 0] 35 (0, 0)⟩, (xS true w185.heap.size gbs cbs gss css), ⟨bRW9, .cells #[.int .i64 1000, .int .i64 0, .int .i64 100, .int .i64 840, .int .i64 60, .int .i64 0] 35 (0, 0)⟩, ⟨bRE1, .cells #[.int .i64 2] 3 (0, 0)⟩, ⟨bRE2, .cells #[.int .i64 0] 3 (0, 0)⟩, ⟨bRE3, .cells #[.int .i64 1] 3 (0, 0)⟩]) (fun ⟨bRE1, bRE2, bRE3⟩ => [⟨gx, .cells ux 57 (0, 0)⟩, ⟨gbs, .cells ubs 93 (0, 0)⟩, ⟨gss, .cells uss 3 (0, 0)⟩, ⟨gv, .cells uv 59 (0, 0)⟩, ⟨gu, .cells uu 59 (0, 0)⟩]) (fun ⟨bRE1, bRE2, bRE3⟩ _ => True) ?_ (fun hRE1_2_3 => ?_)
    · rintro ⟨bRE1, bRE2, bRE3⟩ wl316 _ hA
      refine runS hA 1 [.h 4] xn on (by kernel_rfl) fun w417 hA => ?_
      exact joinE hRE1_2_3_4 ⟨bRE1, bRE2, bRE3, wl316.heap.size⟩ trivial [0, 1, 2, 3, 4, 5, 6, 7, 8, 9, 10, 11, 12] hA rfl (by kernel_rfl) (by decide)
    refine latS hA0RE [2, 3] (γ := Nat × Nat) (fun ⟨bRE2, bRE3⟩ => [(0, .bool false), (1, .pointer (some ⟨w4.heap.size, 0, none⟩)), (3, .pointer (some ⟨w4.heap.size + 2, 0, none⟩)), (4, .slice (some ⟨gu, 0, none⟩) 2 cu), (5, .int .i64 0), (6, .slice (some ⟨gv, 0, none⟩) 3 cv), (7, .int .i64 0), (8, .pointer (some ⟨bRA9, 0, none⟩)), (9, .int .i64 0), (11, .int .i64 0), (12, .pointer (some ⟨bRW9, 0, none⟩)), (13, .int .i64 0), (14, .slice (some ⟨gx, 0, none⟩) 1 cx), (15, .int .i64 0), (83, (vK exC g3 2)), (85, .slice (some ⟨bRE2, 0, none⟩) 1 1), (86, .slice (some ⟨bRE3, 0, none⟩) 1 1)]) (fun ⟨bRE2, bRE3⟩ => [(kB g1), (kB g2), (kC g3), (xK (exB 0) w4.heap.size g1 3), (xK (exB 1) (w4.heap.size + 1) g2 3), (xK exC (w4.heap.size + 2) g3 2), ⟨bRA9, .cells #[.int .i64 1000, .int .i64 0, .int .i64 100, .int .i64 890, .int .i64 10, .int .i64 0] 35 (0, 0)⟩, (xS true w185.heap.size gbs cbs gss css), ⟨bRW9, .cells #[.int .i64 1000, .int .i64 0, .int .i64 100, .int .i64 840, .int .i64 60, .int .i64 0] 35 (0, 0)⟩, ⟨bRE2, .cells #[.int .i64 0] 3 (0, 0)⟩, ⟨bRE3, .cells #[.int .i64 1] 3 (0, 0)⟩]) (fun ⟨bRE2, bRE3⟩ => [⟨gx, .cells ux 57 (0, 0)⟩, ⟨gbs, .cells ubs 93 (0, 0)⟩, ⟨gss, .cells uss 3 (0, 0)⟩, ⟨gv, .cells uv 59 (0, 0)⟩, ⟨gu, .cells uu 59 (0, 0)⟩]) (fun ⟨bRE2, bRE3⟩ _ => True) ?_ (fun hRE2_3 => ?_)
    · rintro ⟨bRE2, bRE3⟩ wl317 _ hA
      refine runS hA 1 [.h 1] xn on (by kernel_rfl) fun w418 hA => ?_
      exact joinE hRE1_2_3 ⟨wl317.heap.size, bRE2, bRE3⟩ trivial [0, 1, 2, 3, 4, 5, 6, 7, 8, 11, 9, 10] hA rfl (by kernel_rfl) (by decide)
    refine latS hA0RE [1, 3] (γ := Nat × Nat) (fun ⟨bRE1, bRE3⟩ => [(0, .bool false), (1, .pointer (some ⟨w4.heap.size, 0, none⟩)), (3, .pointer (some ⟨w4.heap.size + 2, 0, none⟩)), (4, .slice (some ⟨gu, 0, none⟩) 2 cu), (5, .int .i64 0), (6, .slice (some ⟨gv, 0, none⟩) 3 cv), (7, .int .i64 0), (8, .pointer (some ⟨bRA9, 0, none⟩)), (9, .int .i64 0), (11, .int .i64 0), (12, .pointer (some ⟨bRW9, 0, none⟩)), (13, .int .i64 0), (14, .slice (some ⟨gx, 0, none⟩) 1 cx), (15, .int .i64 0), (83, (vK exC g3 2)), (84, .slice (some ⟨bRE1, 0, none⟩) 1 1), (86, .slice (some ⟨bRE3, 0, none⟩) 1 1)]) (fun ⟨bRE1, bRE3⟩ => [(kB g1), (kB g2), (kC g3), (xK (exB 0) w4.heap.size g1 3), (xK (exB 1) (w4.heap.size + 1) g2 3), (xK exC (w4.heap.size + 2) g3 2), ⟨bRA9, .cells #[.int .i64 1000, .int .i64 0, .int .i64 100, .int .i64 890, .int .i64 10, .int .i64 0] 35 (0, 0)⟩, (xS true w185.heap.size gbs cbs gss css), ⟨bRW9, .cells #[.int .i64 1000, .int .i64 0, .int .i64 100, .int .i64 840, .int .i64 60, .int .i64 0] 35 (0, 0)⟩, ⟨bRE1, .cells #[.int .i64 2] 3 (0, 0)⟩, ⟨bRE3, .cells #[.int .i64 1] 3 (0, 0)⟩]) (fun ⟨bRE1, bRE3⟩ => [⟨gx, .cells ux 57 (0, 0)⟩, ⟨gbs, .cells ubs 93 (0, 0)⟩, ⟨gss, .cells uss 3 (0, 0)⟩, ⟨gv, .cells uv 59 (0, 0)⟩, ⟨gu, .cells uu 59 (0, 0)⟩]) (fun ⟨bRE1, bRE3⟩ _ => True) ?_ (fun hRE1_3 => ?_)
    · rintro ⟨bRE1, bRE3⟩ wl318 _ hA
      refine runS hA 1 [.h 2] xn on (by kernel_rfl) fun w419 hA => ?_
      exact joinE hRE1_2_3 ⟨bRE1, wl318.heap.size, bRE3⟩ trivial [0, 1, 2, 3, 4, 5, 6, 7, 8, 9, 11, 10] hA rfl (by kernel_rfl) (by decide)
    refine latS hA0RE [1, 2] (γ := Nat × Nat) (fun ⟨bRE1, bRE2⟩ => [(0, .bool false), (1, .pointer (some ⟨w4.heap.size, 0, none⟩)), (3, .pointer (some ⟨w4.heap.size + 2, 0, none⟩)), (4, .slice (some ⟨gu, 0, none⟩) 2 cu), (5, .int .i64 0), (6, .slice (some ⟨gv, 0, none⟩) 3 cv), (7, .int .i64 0), (8, .pointer (some ⟨bRA9, 0, none⟩)), (9, .int .i64 0), (11, .int .i64 0), (12, .pointer (some ⟨bRW9, 0, none⟩)), (13, .int .i64 0), (14, .slice (some ⟨gx, 0, none⟩) 1 cx), (15, .int .i64 0), (83, (vK exC g3 2)), (84, .slice (some ⟨bRE1, 0, none⟩) 1 1), (85, .slice (some ⟨bRE2, 0, none⟩) 1 1)]) (fun ⟨bRE1, bRE2⟩ => [(kB g1), (kB g2), (kC g3), (xK (exB 0) w4.heap.size g1 3), (xK (exB 1) (w4.heap.size + 1) g2 3), (xK exC (w4.heap.size + 2) g3 2), ⟨bRA9, .cells #[.int .i64 1000, .int .i64 0, .int .i64 100, .int .i64 890, .int .i64 10, .int .i64 0] 35 (0, 0)⟩, (xS true w185.heap.size gbs cbs gss css), ⟨bRW9, .cells #[.int .i64 1000, .int .i64 0, .int .i64 100, .int .i64 840, .int .i64 60, .int .i64 0] 35 (0, 0)⟩, ⟨bRE1, .cells #[.int .i64 2] 3 (0, 0)⟩, ⟨bRE2, .cells #[.int .i64 0] 3 (0, 0)⟩]) (fun ⟨bRE1, bRE2⟩ => [⟨gx, .cells ux 57 (0, 0)⟩, ⟨gbs, .cells ubs 93 (0, 0)⟩, ⟨gss, .cells uss 3 (0, 0)⟩, ⟨gv, .cells uv 59 (0, 0)⟩, ⟨gu, .cells uu 59 (0, 0)⟩]) (fun ⟨bRE1, bRE2⟩ _ => True) ?_ (fun hRE1_2 => ?_)
    · rintro ⟨bRE1, bRE2⟩ wl319 _ hA
      refine runS hA 1 [.h 3] xn on (by kernel_rfl) fun w420 hA => ?_
      exact joinE hRE1_2_3 ⟨bRE1, bRE2, wl319.heap.size⟩ trivial [0, 1, 2, 3, 4, 5, 6, 7, 8, 9, 10, 11] hA rfl (by kernel_rfl) (by decide)
    refine latS hA0RE [3] (γ := Nat) (fun bRE3 => [(0, .bool false), (1, .pointer (some ⟨w4.heap.size, 0, none⟩)), (3, .pointer (some ⟨w4.heap.size + 2, 0, none⟩)), (4, .slice (some ⟨gu, 0, none⟩) 2 cu), (5, .int .i64 0), (6, .slice (some ⟨gv, 0, none⟩) 3 cv), (7, .int .i64 0), (8, .pointer (some ⟨bRA9, 0, none⟩)), (9, .int .i64 0), (11, .int .i64 0), (12, .pointer (some ⟨bRW9, 0, none⟩)), (13, .int .i64 0), (14, .slice (some ⟨gx, 0, none⟩) 1 cx), (15, .int .i64 0), (83, (vK exC g3 2)), (86, .slice (some ⟨bRE3, 0, none⟩) 1 1)]) (fun bRE3 => [(kB g1), (kB g2), (kC g3), (xK (exB 0) w4.heap.size g1 3), (xK (exB 1) (w4.heap.size + 1) g2 3), (xK exC (w4.heap.size + 2) g3 2), ⟨bRA9, .cells #[.int .i64 1000, .int .i64 0, .int .i64 100, .int .i64 890, .int .i64 10, .int .i64 0] 35 (0, 0)⟩, (xS true w185.heap.size gbs cbs gss css), ⟨bRW9, .cells #[.int .i64 1000, .int .i64 0, .int .i64 100, .int .i64 840, .int .i64 60, .int .i64 0] 35 (0, 0)⟩, ⟨bRE3, .cells #[.int .i64 1] 3 (0, 0)⟩]) (fun bRE3 => [⟨gx, .cells ux 57 (0, 0)⟩, ⟨gbs, .cells ubs 93 (0, 0)⟩, ⟨gss, .cells uss 3 (0, 0)⟩, ⟨gv, .cells uv 59 (0, 0)⟩, ⟨gu, .cells uu 59 (0, 0)⟩]) (fun bRE3 _ => True) ?_ (fun hRE3 => ?_)
    · rintro bRE3 wl320 _ hA
      refine manyS hA 1 [2] (by kernel_rfl) ⟨fun hA => ?_, fun hA => ?_, trivial⟩
      ·
        refine runS hA 1 [] xn on (by kernel_rfl) fun w421 hA => ?_
        exact joinE hRE1_3 ⟨wl320.heap.size, bRE3⟩ trivial [0, 1, 2, 3, 4, 5, 6, 7, 8, 10, 9] hA rfl (by kernel_rfl) (by decide)
      ·
        refine runS hA 1 [] xn on (by kernel_rfl) fun w421 hA => ?_
        exact joinE hRE2_3 ⟨wl320.heap.size, bRE3⟩ trivial [0, 1, 2, 3, 4, 5, 6, 7, 8, 10, 9] hA rfl (by kernel_rfl) (by decide)
    refine latS hA0RE [2] (γ := Nat) (fun bRE2 => [(0, .bool false), (1, .pointer (some ⟨w4.heap.size, 0, none⟩)), (3, .pointer (some ⟨w4.heap.size + 2, 0, none⟩)), (4, .slice (some ⟨gu, 0, none⟩) 2 cu), (5, .int .i64 0), (6, .slice (some ⟨gv, 0, none⟩) 3 cv), (7, .int .i64 0), (8, .pointer (some ⟨bRA9, 0, none⟩)), (9, .int .i64 0), (11, .int .i64 0), (12, .pointer (some ⟨bRW9, 0, none⟩)), (13, .int .i64 0), (14, .slice (some ⟨gx, 0, none⟩) 1 cx), (15, .int .i64 0), (83, (vK exC g3 2)), (85, .slice (some ⟨bRE2, 0, none⟩) 1 1)]) (fun bRE2 => [(kB g1), (kB g2), (kC g3), (xK (exB 0) w4.heap.size g1 3), (xK (exB 1) (w4.heap.size + 1) g2 3), (xK exC (w4.heap.size + 2) g3 2), ⟨bRA9, .cells #[.int .i64 1000, .int .i64 0, .int .i64 100, .int .i64 890, .int .i64 10, .int .i64 0] 35 (0, 0)⟩, (xS true w185.heap.size gbs cbs gss css), ⟨bRW9, .cells #[.int .i64 1000, .int .i64 0, .int .i64 100, .int .i64 840, .int .i64 60, .int .i64 0] 35 (0, 0)⟩, ⟨bRE2, .cells #[.int .i64 0] 3 (0, 0)⟩]) (fun bRE2 => [⟨gx, .cells ux 57 (0, 0)⟩, ⟨gbs, .cells ubs 93 (0, 0)⟩, ⟨gss, .cells uss 3 (0, 0)⟩, ⟨gv, .cells uv 59 (0, 0)⟩, ⟨gu, .cells uu 59 (0, 0)⟩]) (fun bRE2 _ => True) ?_ (fun hRE2 => ?_)
    · rintro bRE2 wl321 _ hA
      refine manyS hA 1 [3] (by kernel_rfl) ⟨fun hA => ?_, fun hA => ?_, trivial⟩
      ·
        refine runS hA 1 [] xn on (by kernel_rfl) fun w422 hA => ?_
        exact joinE hRE1_2 ⟨wl321.heap.size, bRE2⟩ trivial [0, 1, 2, 3, 4, 5, 6, 7, 8, 10, 9] hA rfl (by kernel_rfl) (by decide)
      ·
        refine runS hA 1 [] xn on (by kernel_rfl) fun w422 hA => ?_
        exact joinE hRE2_3 ⟨bRE2, wl321.heap.size⟩ trivial [0, 1, 2, 3, 4, 5, 6, 7, 8, 9, 10] hA rfl (by kernel_rfl) (by decide)
    refine latS hA0RE [1] (γ := Nat) (fun bRE1 => [(0, .bool false), (1, .pointer (some ⟨w4.heap.size, 0, none⟩)), (3, .pointer (some ⟨w4.heap.size + 2, 0, none⟩)), (4, .slice (some ⟨gu, 0, none⟩) 2 cu), (5, .int .i64 0), (6, .slice (some ⟨gv, 0, none⟩) 3 cv), (7, .int .i64 0), (8, .pointer (some ⟨bRA9, 0, none⟩)), (9, .int .i64 0), (11, .int .i64 0), (12, .pointer (some ⟨bRW9, 0, none⟩)), (13, .int .i64 0), (14, .slice (some ⟨gx, 0, none⟩) 1 cx), (15, .int .i64 0), (83, (vK exC g3 2)), (84, .slice (some ⟨bRE1, 0, none⟩) 1 1)]) (fun bRE1 => [(kB g1), (kB g2), (kC g3), (xK (exB 0) w4.heap.size g1 3), (xK (exB 1) (w4.heap.size + 1) g2 3), (xK exC (w4.heap.size + 2) g3 2), ⟨bRA9, .cells #[.int .i64 1000, .int .i64 0, .int .i64 100, .int .i64 890, .int .i64 10, .int .i64 0] 35 (0, 0)⟩, (xS true w185.heap.size gbs cbs gss css), ⟨bRW9, .cells #[.int .i64 1000, .int .i64 0, .int .i64 100, .int .i64 840, .int .i64 60, .int .i64 0] 35 (0, 0)⟩, ⟨bRE1, .cells #[.int .i64 2] 3 (0, 0)⟩]) (fun bRE1 => [⟨gx, .cells ux 57 (0, 0)⟩, ⟨gbs, .cells ubs 93 (0, 0)⟩, ⟨gss, .cells uss 3 (0, 0)⟩, ⟨gv, .cells uv 59 (0, 0)⟩, ⟨gu, .cells uu 59 (0, 0)⟩]) (fun bRE1 _ => True) ?_ (fun hRE1 => ?_)
    · rintro bRE1 wl322 _ hA
      refine manyS hA 2 [3] (by kernel_rfl) ⟨fun hA => ?_, fun hA => ?_, trivial⟩
      ·
        refine runS hA 1 [] xn on (by kernel_rfl) fun w423 hA => ?_
        exact joinE hRE1_2 ⟨bRE1, wl322.heap.size⟩ trivial [0, 1, 2, 3, 4, 5, 6, 7, 8, 9, 10] hA rfl (by kernel_rfl) (by decide)
      ·
        refine runS hA 1 [] xn on (by kernel_rfl) fun w423 hA => ?_
        exact joinE hRE1_3 ⟨bRE1, wl322.heap.size⟩ trivial [0, 1, 2, 3, 4, 5, 6, 7, 8, 9, 10] hA rfl (by kernel_rfl) (by decide)
    replace hA := hA0RE
    refine manyS hA 1 [2, 3] (by kernel_rfl) ⟨fun hA => ?_, fun hA => ?_, fun hA => ?_, trivial⟩
    ·
      refine runS hA 1 [] xn on (by kernel_rfl) fun w323 hA => ?_
      exact joinE hRE1 w311.heap.size trivial [0, 1, 2, 3, 4, 5, 6, 7, 8, 9] hA rfl (by kernel_rfl) (by decide)
    ·
      refine runS hA 1 [] xn on (by kernel_rfl) fun w323 hA => ?_
      exact joinE hRE2 w311.heap.size trivial [0, 1, 2, 3, 4, 5, 6, 7, 8, 9] hA rfl (by kernel_rfl) (by decide)
    ·
      refine runS hA 1 [] xn on (by kernel_rfl) fun w323 hA => ?_
      exact joinE hRE3 w311.heap.size trivial [0, 1, 2, 3, 4, 5, 6, 7, 8, 9] hA rfl (by kernel_rfl) (by decide)
  rintro ⟨bRE1, bRE2, bRE3, bRE4⟩ w372 _ hA
  refine runS hA 3 [.b true] xn on (by kernel_rfl) fun w373 hA => ?_
  refine draw hA [true, true, true, true, true, true, true, true, true] [0, 1, 2, 3, 4, 5, 6, 7, 8, 9, 10, 11] (by kernel_rfl) (by kernel_rfl) fun hA => ?_
  refine runS hA 1 ([.t 0] ++ List.replicate 8 (.k 5)) xn on (by kernel_rfl) fun w374 hA => ?_
  have hA0RY := hA
  refine latK hA0RY [1, 2, 3, 4, 5, 6, 7, 8, 9, 10, 11] (γ := Nat × Nat × Nat × Nat) (fun ⟨bRY1, bRY2, bRY3, bRY9⟩ => [(0, .bool false), (1, .pointer (some ⟨w4.heap.size, 0, none⟩)), (4, .slice (some ⟨gu, 0, none⟩) 2 cu), (5, .int .i64 0), (6, .slice (some ⟨gv, 0, none⟩) 3 cv), (7, .int .i64 0), (8, .pointer (some ⟨bRA9, 0, none⟩)), (9, .int .i64 0), (11, .int .i64 0), (12, .pointer (some ⟨bRW9, 0, none⟩)), (13, .int .i64 0), (14, .slice (some ⟨gx, 0, none⟩) 1 cx), (15, .int .i64 0), (17, .int .i64 19), (18, .pointer (some ⟨bRY9, 0, none⟩)), (19, .int .i64 0)]) (fun ⟨bRY1, bRY2, bRY3, bRY9⟩ => [(kB g1), (kB g2), (kC g3), (xK (exB 0) w4.heap.size g1 3), (xK (exB 1) (w4.heap.size + 1) g2 3), (xK exC (w4.heap.size + 2) g3 2), ⟨bRA9, .cells #[.int .i64 1000, .int .i64 0, .int .i64 100, .int .i64 890, .int .i64 10, .int .i64 0] 35 (0, 0)⟩, (xS true w185.heap.size gbs cbs gss css), ⟨bRW9, .cells #[.int .i64 1000, .int .i64 0, .int .i64 100, .int .i64 840, .int .i64 60, .int .i64 0] 35 (0, 0)⟩, ⟨bRY9, .cells #[.int .i64 550, .int .i64 0, .int .i64 0, .int .i64 530, .int .i64 20, .int .i64 0] 35 (0, 0)⟩]) (fun ⟨bRY1, bRY2, bRY3, bRY9⟩ => [⟨gx, .cells ux 57 (0, 0)⟩, ⟨gbs, .cells ubs 93 (0, 0)⟩, ⟨gss, .cells uss 3 (0, 0)⟩, ⟨gv, .cells uv 59 (0, 0)⟩, ⟨gu, .cells uu 59 (0, 0)⟩]) (fun ⟨bRY1, bRY2, bRY3, bRY9⟩ _ => True) (fun hRY1_2_3_4_5_9_10 => ?_) ?_
  ·
    refine latS hA0RY [1, 2, 3, 4, 5, 6, 7, 8, 9] (γ := Nat × Nat × Nat × Nat) (fun ⟨bRY1, bRY2, bRY3, bRY9⟩ => [(0, .bool false), (1, .pointer (some ⟨w4.heap.size, 0, none⟩)), (3, .pointer (some ⟨w4.heap.size + 2, 0, none⟩)), (4, .slice (some ⟨gu, 0, none⟩) 2 cu), (5, .int .i64 0), (6, .slice (some ⟨gv, 0, none⟩) 3 cv), (7, .int .i64 0), (8, .pointer (some ⟨bRA9, 0, none⟩)), (9, .int .i64 0), (11, .int .i64 0), (12, .pointer (some ⟨bRW9, 0, none⟩)), (13, .int .i64 0), (14, .slice (some ⟨gx, 0, none⟩) 1 cx), (15, .int .i64 0), (17, .int .i64 19), (18, .pointer (some ⟨bRY9, 0, none⟩)), (92, .tuple #[.agg #[.int .i64 550, .int .i64 0, .int .i64 0, .int .i64 530, .int .i64 20, .int .i64 0], .int .i64 0]), (93, (vK exC g3 2)), (94, .slice (some ⟨bRY1, 0, none⟩) 2 2), (95, .slice (some ⟨bRY2, 0, none⟩) 1 1), (96, .slice (some ⟨bRY3, 0, none⟩) 2 2), (97, .slice (some ⟨bRY3, 0, none⟩) 2 2), (98, .tuple #[.agg #[.int .i64 550, .int .i64 0, .int .i64 0, .int .i64 530, .int .i64 20, .int .i64 0], .int .i64 0]), (99, .agg #[.int .i64 550, .int .i64 0, .int .i64 0, .int .i64 530, .int .i64 20, .int .i64 0]), (100, .int .i64 0)]) (fun ⟨bRY1, bRY2, bRY3, bRY9⟩ => [(kB g1), (kB g2), (kC g3), (xK (exB 0) w4.heap.size g1 3), (xK (exB 1) (w4.heap.size + 1) g2 3), (xK exC (w4.heap.size + 2) g3 2), ⟨bRA9, .cells #[.int .i64 1000, .int .i64 0, .int .i64 100, .int .i64 890, .int .i64 10, .int .i64 0] 35 (0, 0)⟩, (xS true w185.heap.size gbs cbs gss css), ⟨bRW9, .cells #[.int .i64 1000, .int .i64 0, .int .i64 100, .int .i64 840, .int .i64 60, .int .i64 0] 35 (0, 0)⟩, ⟨bRY1, .cells #[.int .i64 0, .int .i64 1] 3 (0, 0)⟩, ⟨bRY2, .cells #[.int .i64 2] 3 (0, 0)⟩, ⟨bRY3, .cells #[.slice (some ⟨bRY1, 0, none⟩) 2 2, .slice (some ⟨bRY2, 0, none⟩) 1 1] 23 (0, 0)⟩, ⟨bRY9, .cells #[.int .i64 0, .int .i64 0, .int .i64 0, .int .i64 0, .int .i64 0, .int .i64 0] 35 (0, 0)⟩]) (fun ⟨bRY1, bRY2, bRY3, bRY9⟩ => [⟨gx, .cells ux 57 (0, 0)⟩, ⟨gbs, .cells ubs 93 (0, 0)⟩, ⟨gss, .cells uss 3 (0, 0)⟩, ⟨gv, .cells uv 59 (0, 0)⟩, ⟨gu, .cells uu 59 (0, 0)⟩]) (fun ⟨bRY1, bRY2, bRY3, bRY9⟩ _ => True) ?_ (fun hRY1_2_3_4_5_9 => ?_)
    · rintro ⟨bRY1, bRY2, bRY3, bRY9⟩ wl375 _ hA
      refine runS hA 2 ([.h 10] ++ List.replicate 6 (.k 12) ++ [.t 11]) xn on (by kernel_rfl) fun w476 hA => ?_
      exact joinE hRY1_2_3_4_5_9_10 ⟨bRY1, bRY2, bRY3, bRY9⟩ trivial [0, 1, 2, 3, 4, 5, 6, 7, 8, 12] hA rfl (by kernel_rfl) (by decide)
    refine latS hA0RY [1, 2, 3, 4, 9] (γ := Nat × Nat × Nat × Nat) (fun ⟨bRY1, bRY2, bRY3, bRY9⟩ => [(0, .bool false), (1, .pointer (some ⟨w4.heap.size, 0, none⟩)), (3, .pointer (some ⟨w4.heap.size + 2, 0, none⟩)), (4, .slice (some ⟨gu, 0, none⟩) 2 cu), (5, .int .i64 0), (6, .slice (some ⟨gv, 0, none⟩) 3 cv), (7, .int .i64 0), (8, .pointer (some ⟨bRA9, 0, none⟩)), (9, .int .i64 0), (11, .int .i64 0), (12, .pointer (some ⟨bRW9, 0, none⟩)), (13, .int .i64 0), (14, .slice (some ⟨gx, 0, none⟩) 1 cx), (15, .int .i64 0), (17, .int .i64 19), (18, .pointer (some ⟨bRY9, 0, none⟩)), (93, (vK exC g3 2)), (94, .slice (some ⟨bRY1, 0, none⟩) 2 2), (95, .slice (some ⟨bRY2, 0, none⟩) 1 1), (96, .slice (some ⟨bRY3, 0, none⟩) 2 2), (97, .slice (some ⟨bRY3, 0, none⟩) 2 2)]) (fun ⟨bRY1, bRY2, bRY3, bRY9⟩ => [(kB g1), (kB g2), (kC g3), (xK (exB 0) w4.heap.size g1 3), (xK (exB 1) (w4.heap.size + 1) g2 3), (xK exC (w4.heap.size + 2) g3 2), ⟨bRA9, .cells #[.int .i64 1000, .int .i64 0, .int .i64 100, .int .i64 890, .int .i64 10, .int .i64 0] 35 (0, 0)⟩, (xS true w185.heap.size gbs cbs gss css), ⟨bRW9, .cells #[.int .i64 1000, .int .i64 0, .int .i64 100, .int .i64 840, .int .i64 60, .int .i64 0] 35 (0, 0)⟩, ⟨bRY1, .cells #[.int .i64 0, .int .i64 1] 3 (0, 0)⟩, ⟨bRY2, .cells #[.int .i64 2] 3 (0, 0)⟩, ⟨bRY3, .cells #[.slice (some ⟨bRY1, 0, none⟩) 2 2, .slice (some ⟨bRY2, 0, none⟩) 1 1] 23 (0, 0)⟩, ⟨bRY9, .cells #[.int .i64 0, .int .i64 0, .int .i64 0, .int .i64 0, .int .i64 0, .int .i64 0] 35 (0, 0)⟩]) (fun ⟨bRY1, bRY2, bRY3, bRY9⟩ => [⟨gx, .cells ux 57 (0, 0)⟩, ⟨gbs, .cells ubs 93 (0, 0)⟩, ⟨gss, .cells uss 3 (0, 0)⟩, ⟨gv, .cells uv 59 (0, 0)⟩, ⟨gu, .cells uu 59 (0, 0)⟩]) (fun ⟨bRY1, bRY2, bRY3, bRY9⟩ _ => True) ?_ (fun hRY1_2_3_4_9 => ?_)
    · rintro ⟨bRY1, bRY2, bRY3, bRY9⟩ wl376 _ hA
      have hP := Account_any wl376 wl376.heap.size exC (some ⟨g3, 0, none⟩) 2 2 none 0 0 (some ⟨bRY3, 0, none⟩) 2 2 [[0, 1], [2]] (exC_at (hA.at_.ok (kC g3) (List.mem_of_getElem? (i := 2) (by kernel_rfl)))) (fin2 (hA.at_.ok ⟨bRY3, .cells #[.slice (some ⟨bRY1, 0, none⟩) 2 2, .slice (some ⟨bRY2, 0, none⟩) 1 1] 23 (0, 0)⟩ (List.mem_of_getElem? (i := 11) (by kernel_rfl))) (xs0 := [0, 1]) (hA.at_.ok ⟨bRY1, .cells #[.int .i64 0, .int .i64 1] 3 (0, 0)⟩ (List.mem_of_getElem? (i := 9) (by kernel_rfl))) (by decide) (xs1 := [2]) (hA.at_.ok ⟨bRY2, .cells #[.int .i64 2] 3 (0, 0)⟩ (List.mem_of_getElem? (i := 10) (by kernel_rfl))) (by decide)) (Nat.le_refl _)
      rw [wkY.1, wkY.2] at hP
      refine callB hA [] on (hP) (by kernel_rfl) fun w477 hb477 hA => ?_
      refine runS hA 3 [.t 6, .t 7, .t 8] xn on (by kernel_rfl) fun w478 hA => ?_
      exact joinE hRY1_2_3_4_5_9 ⟨bRY1, bRY2, bRY3, bRY9⟩ trivial [0, 1, 2, 3, 4, 5, 6, 7, 8, 9, 10, 11, 12] hA rfl (by kernel_rfl) (by decide)
    refine latS hA0RY [1, 2, 3, 4, 5, 6, 7, 8] (γ := Nat × Nat × Nat) (fun ⟨bRY1, bRY2, bRY3⟩ => [(0, .bool false), (1, .pointer (some ⟨w4.heap.size, 0, none⟩)), (3, .pointer (some ⟨w4.heap.size + 2, 0, none⟩)), (4, .slice (some ⟨gu, 0, none⟩) 2 cu), (5, .int .i64 0), (6, .slice (some ⟨gv, 0, none⟩) 3 cv), (7, .int .i64 0), (8, .pointer (some ⟨bRA9, 0, none⟩)), (9, .int .i64 0), (11, .int .i64 0), (12, .pointer (some ⟨bRW9, 0, none⟩)), (13, .int .i64 0), (14, .slice (some ⟨gx, 0, none⟩) 1 cx), (15, .int .i64 0), (17, .int .i64 19), (92, .tuple #[.agg #[.int .i64 550, .int .i64 0, .int .i64 0, .int .i64 530, .int .i64 20, .int .i64 0], .int .i64 0]), (93, (vK exC g3 2)), (94, .slice (some ⟨bRY1, 0, none⟩) 2 2), (95, .slice (some ⟨bRY2, 0, none⟩) 1 1), (96, .slice (some ⟨bRY3, 0, none⟩) 2 2), (97, .slice (some ⟨bRY3, 0, none⟩) 2 2), (98, .tuple #[.agg #[.int .i64 550, .int .i64 0, .int .i64 0, .int .i64 530, .int .i64 20, .int .i64 0], .int .i64 0]), (99, .agg #[.int .i64 550, .int .i64 0, .int .i64 0, .int .i64 530, .int .i64 20, .int .i64 0]), (100, .int .i64 0)]) (fun ⟨bRY1, bRY2, bRY3⟩ => [(kB g1), (kB g2), (kC g3), (xK (exB 0) w4.heap.size g1 3), (xK (exB 1) (w4.heap.size + 1) g2 3), (xK exC (w4.heap.size + 2) g3 2), ⟨bRA9, .cells #[.int .i64 1000, .int .i64 0, .int .i64 100, .int .i64 890, .int .i64 10, .int .i64 0] 35 (0, 0)⟩, (xS true w185.heap.size gbs cbs gss css), ⟨bRW9, .cells #[.int .i64 1000, .int .i64 0, .int .i64 100, .int .i64 840, .int .i64 60, .int .i64 0] 35 (0, 0)⟩, ⟨bRY1, .cells #[.int .i64 0, .int .i64 1] 3 (0, 0)⟩, ⟨bRY2, .cells #[.int .i64 2] 3 (0, 0)⟩, ⟨bRY3, .cells #[.slice (some ⟨bRY1, 0, none⟩) 2 2, .slice (some ⟨bRY2, 0, none⟩) 1 1] 23 (0, 0)⟩]) (fun ⟨bRY1, bRY2, bRY3⟩ => [⟨gx, .cells ux 57 (0, 0)⟩, ⟨gbs, .cells ubs 93 (0, 0)⟩, ⟨gss, .cells uss 3 (0, 0)⟩, ⟨gv, .cells uv 59 (0, 0)⟩, ⟨gu, .cells uu 59 (0, 0)⟩]) (fun ⟨bRY1, bRY2, bRY3⟩ _ => True) ?_ (fun hRY1_2_3_4_5 => ?_)
    · rintro ⟨bRY1, bRY2, bRY3⟩ wl377 _ hA
      refine runS hA 1 [.h 9] xn on (by kernel_rfl) fun w478 hA => ?_
      exact joinE hRY1_2_3_4_5_9 ⟨bRY1, bRY2, bRY3, wl377.heap.size⟩ trivial [0, 1, 2, 3, 4, 5, 6, 7, 8, 9, 10, 11, 12] hA rfl (by kernel_rfl) (by decide)
    refine latS hA0RY [1, 2, 3, 9] (γ := Nat × Nat × Nat × Nat) (fun ⟨bRY1, bRY2, bRY3, bRY9⟩ => [(0, .bool false), (1, .pointer (some ⟨w4.heap.size, 0, none⟩)), (3, .pointer (some ⟨w4.heap.size + 2, 0, none⟩)), (4, .slice (some ⟨gu, 0, none⟩) 2 cu), (5, .int .i64 0), (6, .slice (some ⟨gv, 0, none⟩) 3 cv), (7, .int .i64 0), (8, .pointer (some ⟨bRA9, 0, none⟩)), (9, .int .i64 0), (11, .int .i64 0), (12, .pointer (some ⟨bRW9, 0, none⟩)), (13, .int .i64 0), (14, .slice (some ⟨gx, 0, none⟩) 1 cx), (15, .int .i64 0), (17, .int .i64 19), (18, .pointer (some ⟨bRY9, 0, none⟩)), (93, (vK exC g3 2)), (94, .slice (some ⟨bRY1, 0, none⟩) 2 2), (95, .slice (some ⟨bRY2, 0, none⟩) 1 1), (96, .slice (some ⟨bRY3, 0, none⟩) 2 2)]) (fun ⟨bRY1, bRY2, bRY3, bRY9⟩ => [(kB g1), (kB g2), (kC g3), (xK (exB 0) w4.heap.size g1 3), (xK (exB 1) (w4.heap.size + 1) g2 3), (xK exC (w4.heap.size + 2) g3 2), ⟨bRA9, .cells #[.int .i64 1000, .int .i64 0, .int .i64 100, .int .i64 890, .int .i64 10, .int .i64 0] 35 (0, 0)⟩, (xS true w185.heap.size gbs cbs gss css), ⟨bRW9, .cells #[.int .i64 1000, .int .i64 0, .int .i64 100, .int .i64 840, .int .i64 60, .int .i64 0] 35 (0, 0)⟩, ⟨bRY1, .cells #[.int .i64 0, .int .i64 1] 3 (0, 0)⟩, ⟨bRY2, .cells #[.int .i64 2] 3 (0, 0)⟩, ⟨bRY3, .cells #[.slice (some ⟨bRY1, 0, none⟩) 2 2, .slice (some ⟨bRY2, 0, none⟩) 1 1] 23 (0, 0)⟩, ⟨bRY9, .cells #[.int .i64 0, .int .i64 0, .int .i64 0, .int .i64 0, .int .i64 0, .int .i64 0] 35 (0, 0)⟩]) (fun ⟨bRY1, bRY2, bRY3, bRY9⟩ => [⟨gx, .cells ux 57 (0, 0)⟩, ⟨gbs, .cells ubs 93 (0, 0)⟩, ⟨gss, .cells uss 3 (0, 0)⟩, ⟨gv, .cells uv 59 (0, 0)⟩, ⟨gu, .cells uu 59 (0, 0)⟩]) (fun ⟨bRY1, bRY2, bRY3, bRY9⟩ _ => True) ?_ (fun hRY1_2_3_9 => ?_)
    · rintro ⟨bRY1, bRY2, bRY3, bRY9⟩ wl378 _ hA
      refine callB hA [] on (in_any wl378 (some ⟨bRY3, 0, none⟩) 2 2) (by kernel_rfl) fun w479 hb479 hA => ?_
      exact joinE hRY1_2_3_4_9 ⟨bRY1, bRY2, bRY3, bRY9⟩ trivial [0, 1, 2, 3, 4, 5, 6, 7, 8, 9, 10, 11, 12] hA rfl (by kernel_rfl) (by decide)
    refine latS hA0RY [1, 2, 3, 4] (γ := Nat × Nat × Nat) (fun ⟨bRY1, bRY2, bRY3⟩ => [(0, .bool false), (1, .pointer (some ⟨w4.heap.size, 0, none⟩)), (3, .pointer (some ⟨w4.heap.size + 2, 0, none⟩)), (4, .slice (some ⟨gu, 0, none⟩) 2 cu), (5, .int .i64 0), (6, .slice (some ⟨gv, 0, none⟩) 3 cv), (7, .int .i64 0), (8, .pointer (some ⟨bRA9, 0, none⟩)), (9, .int .i64 0), (11, .int .i64 0), (12, .pointer (some ⟨bRW9, 0, none⟩)), (13, .int .i64 0), (14, .slice (some ⟨gx, 0, none⟩) 1 cx), (15, .int .i64 0), (17, .int .i64 19), (93, (vK exC g3 2)), (94, .slice (some ⟨bRY1, 0, none⟩) 2 2), (95, .slice (some ⟨bRY2, 0, none⟩) 1 1), (96, .slice (some ⟨bRY3, 0, none⟩) 2 2), (97, .slice (some ⟨bRY3, 0, none⟩) 2 2)]) (fun ⟨bRY1, bRY2, bRY3⟩ => [(kB g1), (kB g2), (kC g3), (xK (exB 0) w4.heap.size g1 3), (xK (exB 1) (w4.heap.size + 1) g2 3), (xK exC (w4.heap.size + 2) g3 2), ⟨bRA9, .cells #[.int .i64 1000, .int .i64 0, .int .i64 100, .int .i64 890, .int .i64 10, .int .i64 0] 35 (0, 0)⟩, (xS true w185.heap.size gbs cbs gss css), ⟨bRW9, .cells #[.int .i64 1000, .int .i64 0, .int .i64 100, .int .i64 840, .int .i64 60, .int .i64 0] 35 (0, 0)⟩, ⟨bRY1, .cells #[.int .i64 0, .int .i64 1] 3 (0, 0)⟩, ⟨bRY2, .cells #[.int .i64 2] 3 (0, 0)⟩, ⟨bRY3, .cells #[.slice (some ⟨bRY1, 0, none⟩) 2 2, .slice (some ⟨bRY2, 0, none⟩) 1 1] 23 (0, 0)⟩]) (fun ⟨bRY1, bRY2, bRY3⟩ => [⟨gx, .cells ux 57 (0, 0)⟩, ⟨gbs, .cells ubs 93 (0, 0)⟩, ⟨gss, .cells uss 3 (0, 0)⟩, ⟨gv, .cells uv 59 (0, 0)⟩, ⟨gu, .cells uu 59 (0, 0)⟩]) (fun ⟨bRY1, bRY2, bRY3⟩ _ => True) ?_ (fun hRY1_2_3_4 => ?_)
    · rintro ⟨bRY1, bRY2, bRY3⟩ wl379 _ hA
      refine manyS hA 5 [9] (by kernel_rfl) ⟨fun hA => ?_, fun hA => ?_, trivial⟩
      ·
        have hP := Account_any wl379 wl379.heap.size exC (some ⟨g3, 0, none⟩) 2 2 none 0 0 (some ⟨bRY3, 0, none⟩) 2 2 [[0, 1], [2]] (exC_at (hA.at_.ok (kC g3) (List.mem_of_getElem? (i := 2) (by kernel_rfl)))) (fin2 (hA.at_.ok ⟨bRY3, .cells #[.slice (some ⟨bRY1, 0, none⟩) 2 2, .slice (some ⟨bRY2, 0, none⟩) 1 1] 23 (0, 0)⟩ (List.mem_of_getElem? (i := 11) (by kernel_rfl))) (xs0 := [0, 1]) (hA.at_.ok ⟨bRY1, .cells #[.int .i64 0, .int .i64 1] 3 (0, 0)⟩ (List.mem_of_getElem? (i := 9) (by kernel_rfl))) (by decide) (xs1 := [2]) (hA.at_.ok ⟨bRY2, .cells #[.int .i64 2] 3 (0, 0)⟩ (List.mem_of_getElem? (i := 10) (by kernel_rfl))) (by decide)) (Nat.le_refl _)
        rw [wkY.1, wkY.2] at hP
        refine callB hA [] on (hP) (by kernel_rfl) fun w480 hb480 hA => ?_
        refine runS hA 3 [.t 6, .t 7, .t 8] xn on (by kernel_rfl) fun w481 hA => ?_
        exact joinE hRY1_2_3_4_5 ⟨bRY1, bRY2, bRY3⟩ trivial [0, 1, 2, 3, 4, 5, 6, 7, 8, 9, 10, 11] hA rfl (by kernel_rfl) (by decide)
      ·
        refine runS hA 1 [] xn on (by kernel_rfl) fun w480 hA => ?_
        exact joinE hRY1_2_3_4_9 ⟨bRY1, bRY2, bRY3, wl379.heap.size⟩ trivial [0, 1, 2, 3, 4, 5, 6, 7, 8, 9, 10, 11, 12] hA rfl (by kernel_rfl) (by decide)
    refine latS hA0RY [1, 2, 9] (γ := Nat × Nat × Nat) (fun ⟨bRY1, bRY2, bRY9⟩ => [(0, .bool false), (1, .pointer (some ⟨w4.heap.size, 0, none⟩)), (3, .pointer (some ⟨w4.heap.size + 2, 0, none⟩)), (4, .slice (some ⟨gu, 0, none⟩) 2 cu), (5, .int .i64 0), (6, .slice (some ⟨gv, 0, none⟩) 3 cv), (7, .int .i64 0), (8, .pointer (some ⟨bRA9, 0, none⟩)), (9, .int .i64 0), (11, .int .i64 0), (12, .pointer (some ⟨bRW9, 0, none⟩)), (13, .int .i64 0), (14, .slice (some ⟨gx, 0, none⟩) 1 cx), (15, .int .i64 0), (17, .int .i64 19), (18, .pointer (some ⟨bRY9, 0, none⟩)), (93, (vK exC g3 2)), (94, .slice (some ⟨bRY1, 0, none⟩) 2 2), (95, .slice (some ⟨bRY2, 0, none⟩) 1 1)]) (fun ⟨bRY1, bRY2, bRY9⟩ => [(kB g1), (kB g2), (kC g3), (xK (exB 0) w4.heap.size g1 3), (xK (exB 1) (w4.heap.size + 1) g2 3), (xK exC (w4.heap.size + 2) g3 2), ⟨bRA9, .cells #[.int .i64 1000, .int .i64 0, .int .i64 100, .int .i64 890, .int .i64 10, .int .i64 0] 35 (0, 0)⟩, (xS true w185.heap.size gbs cbs gss css), ⟨bRW9, .cells #[.int .i64 1000, .int .i64 0, .int .i64 100, .int .i64 840, .int .i64 60, .int .i64 0] 35 (0, 0)⟩, ⟨bRY1, .cells #[.int .i64 0, .int .i64 1] 3 (0, 0)⟩, ⟨bRY2, .cells #[.int .i64 2] 3 (0, 0)⟩, ⟨bRY9, .cells #[.int .i64 0, .int .i64 0, .int .i64 0, .int .i64 0, .int .i64 0, .int .i64 0] 35 (0, 0)⟩]) (fun ⟨bRY1, bRY2, bRY9⟩ => [⟨gx, .cells ux 57 (0, 0)⟩, ⟨gbs, .cells ubs 93 (0, 0)⟩, ⟨gss, .cells uss 3 (0, 0)⟩, ⟨gv, .cells uv 59 (0, 0)⟩, ⟨gu, .cells uu 59 (0, 0)⟩]) (fun ⟨bRY1, bRY2, bRY9⟩ _ => True) ?_ (fun hRY1_2_9 => ?_)
    · rintro ⟨bRY1, bRY2, bRY9⟩ wl380 _ hA
      refine runS hA 1 [.h 3] xn on (by kernel_rfl) fun w481 hA => ?_
      exact joinE hRY1_2_3_9 ⟨bRY1, bRY2, wl380.heap.size, bRY9⟩ trivial [0, 1, 2, 3, 4, 5, 6, 7, 8, 9, 10, 12, 11] hA rfl (by kernel_rfl) (by decide)
    refine latS hA0RY [1, 2, 3] (γ := Nat × Nat × Nat) (fun ⟨bRY1, bRY2, bRY3⟩ => [(0, .bool false), (1, .pointer (some ⟨w4.heap.size, 0, none⟩)), (3, .pointer (some ⟨w4.heap.size + 2, 0, none⟩)), (4, .slice (some ⟨gu, 0, none⟩) 2 cu), (5, .int .i64 0), (6, .slice (some ⟨gv, 0, none⟩) 3 cv), (7, .int .i64 0), (8, .pointer (some ⟨bRA9, 0, none⟩)), (9, .int .i64 0), (11, .int .i64 0), (12, .pointer (some ⟨bRW9, 0, none⟩)), (13, .int .i64 0), (14, .slice (some ⟨gx, 0, none⟩) 1 cx), (15, .int .i64 0), (17, .int .i64 19), (93, (vK exC g3 2)), (94, .slice (some ⟨bRY1, 0, none⟩) 2 2), (95, .slice (some ⟨bRY2, 0, none⟩) 1 1), (96, .slice (some ⟨bRY3, 0, none⟩) 2 2)]) (fun ⟨bRY1, bRY2, bRY3⟩ => [(kB g1), (kB g2), (kC g3), (xK (exB 0) w4.heap.size g1 3), (xK (exB 1) (w4.heap.size + 1) g2 3), (xK exC (w4.heap.size + 2) g3 2), ⟨bRA9, .cells #[.int .i64 1000, .int .i64 0, .int .i64 100, .int .i64 890, .int .i64 10, .int .i64 0] 35 (0, 0)⟩, (xS true w185.heap.size gbs cbs gss css), ⟨bRW9, .cells #[.int .i64 1000, .int .i64 0, .int .i64 100, .int .i64 840, .int .i64 60, .int .i64 0] 35 (0, 0)⟩, ⟨bRY1, .cells #[.int .i64 0, .int .i64 1] 3 (0, 0)⟩, ⟨bRY2, .cells #[.int .i64 2] 3 (0, 0)⟩, ⟨bRY3, .cells #[.slice (some ⟨bRY1, 0, none⟩) 2 2, .slice (some ⟨bRY2, 0, none⟩) 1 1] 23 (0, 0)⟩]) (fun ⟨bRY1, bRY2, bRY3⟩ => [⟨gx, .cells ux 57 (0, 0)⟩, ⟨gbs, .cells ubs 93 (0, 0)⟩, ⟨gss, .cells uss 3 (0, 0)⟩, ⟨gv, .cells uv 59 (0, 0)⟩, ⟨gu, .cells uu 59 (0, 0)⟩]) (fun ⟨bRY1, bRY2, bRY3⟩ _ => True) ?_ (fun hRY1_2_3 => ?_)
    · rintro ⟨bRY1, bRY2, bRY3⟩ wl381 _ hA
      refine manyS hA 4 [9] (by kernel_rfl) ⟨fun hA => ?_, fun hA => ?_, trivial⟩
      ·
        refine callB hA [] on (in_any wl381 (some ⟨bRY3, 0, none⟩) 2 2) (by kernel_rfl) fun w482 hb482 hA => ?_
        exact joinE hRY1_2_3_4 ⟨bRY1, bRY2, bRY3⟩ trivial [0, 1, 2, 3, 4, 5, 6, 7, 8, 9, 10, 11] hA rfl (by kernel_rfl) (by decide)
      ·
        refine runS hA 1 [] xn on (by kernel_rfl) fun w482 hA => ?_
        exact joinE hRY1_2_3_9 ⟨bRY1, bRY2, bRY3, wl381.heap.size⟩ trivial [0, 1, 2, 3, 4, 5, 6, 7, 8, 9, 10, 11, 12] hA rfl (by kernel_rfl) (by decide)
    refine latS hA0RY [2, 9] (γ := Nat × Nat) (fun ⟨bRY2, bRY9⟩ => [(0, .bool false), (1, .pointer (some ⟨w4.heap.size, 0, none⟩)), (3, .pointer (some ⟨w4.heap.size + 2, 0, none⟩)), (4, .slice (some ⟨gu, 0, none⟩) 2 cu), (5, .int .i64 0), (6, .slice (some ⟨gv, 0, none⟩) 3 cv), (7, .int .i64 0), (8, .pointer (some ⟨bRA9, 0, none⟩)), (9, .int .i64 0), (11, .int .i64 0), (12, .pointer (some ⟨bRW9, 0, none⟩)), (13, .int .i64 0), (14, .slice (some ⟨gx, 0, none⟩) 1 cx), (15, .int .i64 0), (17, .int .i64 19), (18, .pointer (some ⟨bRY9, 0, none⟩)), (93, (vK exC g3 2)), (95, .slice (some ⟨bRY2, 0, none⟩) 1 1)]) (fun ⟨bRY2, bRY9⟩ => [(kB g1), (kB g2), (kC g3), (xK (exB 0) w4.heap.size g1 3), (xK (exB 1) (w4.heap.size + 1) g2 3), (xK exC (w4.heap.size + 2) g3 2), ⟨bRA9, .cells #[.int .i64 1000, .int .i64 0, .int .i64 100, .int .i64 890, .int .i64 10, .int .i64 0] 35 (0, 0)⟩, (xS true w185.heap.size gbs cbs gss css), ⟨bRW9, .cells #[.int .i64 1000, .int .i64 0, .int .i64 100, .int .i64 840, .int .i64 60, .int .i64 0] 35 (0, 0)⟩, ⟨bRY2, .cells #[.int .i64 2] 3 (0, 0)⟩, ⟨bRY9, .cells #[.int .i64 0, .int .i64 0, .int .i64 0, .int .i64 0, .int .i64 0, .int .i64 0] 35 (0, 0)⟩]) (fun ⟨bRY2, bRY9⟩ => [⟨gx, .cells ux 57 (0, 0)⟩, ⟨gbs, .cells ubs 93 (0, 0)⟩, ⟨gss, .cells uss 3 (0, 0)⟩, ⟨gv, .cells uv 59 (0, 0)⟩, ⟨gu, .cells uu 59 (0, 0)⟩]) (fun ⟨bRY2, bRY9⟩ _ => True) ?_ (fun hRY2_9 => ?_)
    · rintro ⟨bRY2, bRY9⟩ wl382 _ hA
      refine runS hA 1 [.h 1] xn on (by kernel_rfl) fun w483 hA => ?_
      exact joinE hRY1_2_9 ⟨wl382.heap.size, bRY2, bRY9⟩ trivial [0, 1, 2, 3, 4, 5, 6, 7, 8, 11, 9, 10] hA rfl (by kernel_rfl) (by decide)
    refine latS hA0RY [1, 9] (γ := Nat × Nat) (fun ⟨bRY1, bRY9⟩ => [(0, .bool false), (1, .pointer (some ⟨w4.heap.size, 0, none⟩)), (3, .pointer (some ⟨w4.heap.size + 2, 0, none⟩)), (4, .slice (some ⟨gu, 0, none⟩) 2 cu), (5, .int .i64 0), (6, .slice (some ⟨gv, 0, none⟩) 3 cv), (7, .int .i64 0), (8, .pointer (some ⟨bRA9, 0, none⟩)), (9, .int .i64 0), (11, .int .i64 0), (12, .pointer (some ⟨bRW9, 0, none⟩)), (13, .int .i64 0), (14, .slice (some ⟨gx, 0, none⟩) 1 cx), (15, .int .i64 0), (17, .int .i64 19), (18, .pointer (some ⟨bRY9, 0, none⟩)), (93, (vK exC g3 2)), (94, .slice (some ⟨bRY1, 0, none⟩) 2 2)]) (fun ⟨bRY1, bRY9⟩ => [(kB g1), (kB g2), (kC g3), (xK (exB 0) w4.heap.size g1 3), (xK (exB 1) (w4.heap.size + 1) g2 3), (xK exC (w4.heap.size + 2) g3 2), ⟨bRA9, .cells #[.int .i64 1000, .int .i64 0, .int .i64 100, .int .i64 890, .int .i64 10, .int .i64 0] 35 (0, 0)⟩, (xS true w185.heap.size gbs cbs gss css), ⟨bRW9, .cells #[.int .i64 1000, .int .i64 0, .int .i64 100, .int .i64 840, .int .i64 60, .int .i64 0] 35 (0, 0)⟩, ⟨bRY1, .cells #[.int .i64 0, .int .i64 1] 3 (0, 0)⟩, ⟨bRY9, .cells #[.int .i64 0, .int .i64 0, .int .i64 0, .int .i64 0, .int .i64 0, .int .i64 0] 35 (0, 0)⟩]) (fun ⟨bRY1, bRY9⟩ => [⟨gx, .cells ux 57 (0, 0)⟩, ⟨gbs, .cells ubs 93 (0, 0)⟩, ⟨gss, .cells uss 3 (0, 0)⟩, ⟨gv, .cells uv 59 (0, 0)⟩, ⟨gu, .cells uu 59 (0, 0)⟩]) (fun ⟨bRY1, bRY9⟩ _ => True) ?_ (fun hRY1_9 => ?_)
    · rintro ⟨bRY1, bRY9⟩ wl383 _ hA
      refine runS hA 1 [.h 2] xn on (by kernel_rfl) fun w484 hA => ?_
      exact joinE hRY1_2_9 ⟨bRY1, wl383.heap.size, bRY9⟩ trivial [0, 1, 2, 3, 4, 5, 6, 7, 8, 9, 11, 10] hA rfl (by kernel_rfl) (by decide)
    refine latS hA0RY [1, 2] (γ := Nat × Nat) (fun ⟨bRY1, bRY2⟩ => [(0, .bool false), (1, .pointer (some ⟨w4.heap.size, 0, none⟩)), (3, .pointer (some ⟨w4.heap.size + 2, 0, none⟩)), (4, .slice (some ⟨gu, 0, none⟩) 2 cu), (5, .int .i64 0), (6, .slice (some ⟨gv, 0, none⟩) 3 cv), (7, .int .i64 0), (8, .pointer (some ⟨bRA9, 0, none⟩)), (9, .int .i64 0), (11, .int .i64 0), (12, .pointer (some ⟨bRW9, 0, none⟩)), (13, .int .i64 0), (14, .slice (some ⟨gx, 0, none⟩) 1 cx), (15, .int .i64 0), (17, .int .i64 19), (93, (vK exC g3 2)), (94, .slice (some ⟨bRY1, 0, none⟩) 2 2), (95, .slice (some ⟨bRY2, 0, none⟩) 1 1)]) (fun ⟨bRY1, bRY2⟩ => [(kB g1), (kB g2), (kC g3), (xK (exB 0) w4.heap.size g1 3), (xK (exB 1) (w4.heap.size + 1) g2 3), (xK exC (w4.heap.size + 2) g3 2), ⟨bRA9, .cells #[.int .i64 1000, .int .i64 0, .int .i64 100, .int .i64 890, .int .i64 10, .int .i64 0] 35 (0, 0)⟩, (xS true w185.heap.size gbs cbs gss css), ⟨bRW9, .cells #[.int .i64 1000, .int .i64 0, .int .i64 100, .int .i64 840, .int .i64 60, .int .i64 0] 35 (0, 0)⟩, ⟨bRY1, .cells #[.int .i64 0, .int .i64 1] 3 (0, 0)⟩, ⟨bRY2, .cells #[.int .i64 2] 3 (0, 0)⟩]) (fun ⟨bRY1, bRY2⟩ => [⟨gx, .cells ux 57 (0, 0)⟩, ⟨gbs, .cells ubs 93 (0, 0)⟩, ⟨gss, .cells uss 3 (0, 0)⟩, ⟨gv, .cells uv 59 (0, 0)⟩, ⟨gu, .cells uu 59 (0, 0)⟩]) (fun ⟨bRY1, bRY2⟩ _ => True) ?_ (fun hRY1_2 => ?_)
    · rintro ⟨bRY1, bRY2⟩ wl384 _ hA
      refine manyS hA 3 [9] (by kernel_rfl) ⟨fun hA => ?_, fun hA => ?_, trivial⟩
      ·
        refine runS hA 1 [] xn on (by kernel_rfl) fun w485 hA => ?_
        exact joinE hRY1_2_3 ⟨bRY1, bRY2, wl384.heap.size⟩ trivial [0, 1, 2, 3, 4, 5, 6, 7, 8, 9, 10, 11] hA rfl (by kernel_rfl) (by decide)
      ·
        refine runS hA 1 [] xn on (by kernel_rfl) fun w485 hA => ?_
        exact joinE hRY1_2_9 ⟨bRY1, bRY2, wl384.heap.size⟩ trivial [0, 1, 2, 3, 4, 5, 6, 7, 8, 9, 10, 11] hA rfl (by kernel_rfl) (by decide)
    refine latS hA0RY [9] (γ := Nat) (fun bRY9 => [(0, .bool false), (1, .pointer (some ⟨w4.heap.size, 0, none⟩)), (3, .pointer (some ⟨w4.heap.size + 2, 0, none⟩)), (4, .slice (some ⟨gu, 0, none⟩) 2 cu), (5, .int .i64 0), (6, .slice (some ⟨gv, 0, none⟩) 3 cv), (7, .int .i64 0), (8, .pointer (some ⟨bRA9, 0, none⟩)), (9, .int .i64 0), (11, .int .i64 0), (12, .pointer (some ⟨bRW9, 0, none⟩)), (13, .int .i64 0), (14, .slice (some ⟨gx, 0, none⟩) 1 cx), (15, .int .i64 0), (17, .int .i64 19), (18, .pointer (some ⟨bRY9, 0, none⟩)), (93, (vK exC g3 2))]) (fun bRY9 => [(kB g1), (kB g2), (kC g3), (xK (exB 0) w4.heap.size g1 3), (xK (exB 1) (w4.heap.size + 1) g2 3), (xK exC (w4.heap.size + 2) g3 2), ⟨bRA9, .cells #[.int .i64 1000, .int .i64 0, .int .i64 100, .int .i64 890, .int .i64 10, .int .i64 0] 35 (0, 0)⟩, (xS true w185.heap.size gbs cbs gss css), ⟨bRW9, .cells #[.int .i64 1000, .int .i64 0, .int .i64 100, .int .i64 840, .int .i64 60, .int .i64 0] 35 (0, 0)⟩, ⟨bRY9, .cells #[.int .i64 0, .int .i64 0, .int .i64 0, .int .i64 0, .int .i64 0, .int .i64 0] 35 (0, 0)⟩]) (fun bRY9 => [⟨gx, .cells ux 57 (0, 0)⟩, ⟨gbs, .cells ubs 93 (0, 0)⟩, ⟨gss, .cells uss 3 (0, 0)⟩, ⟨gv, .cells uv 59 (0, 0)⟩, ⟨gu, .cells uu 59 (0, 0)⟩]) (fun bRY9 _ => True) ?_ (fun hRY9 => ?_)
    · rintro bRY9 wl385 _ hA
      refine manyS hA 1 [2] (by kernel_rfl) ⟨fun hA => ?_, fun hA => ?_, trivial⟩
      ·
        refine runS hA 1 [] xn on (by kernel_rfl) fun w486 hA => ?_
        exact joinE hRY1_9 ⟨wl385.heap.size, bRY9⟩ trivial [0, 1, 2, 3, 4, 5, 6, 7, 8, 10, 9] hA rfl (by kernel_rfl) (by decide)
      ·
        refine runS hA 1 [] xn on (by kernel_rfl) fun w486 hA => ?_
        exact joinE hRY2_9 ⟨wl385.heap.size, bRY9⟩ trivial [0, 1, 2, 3, 4, 5, 6, 7, 8, 10, 9] hA rfl (by kernel_rfl) (by decide)
    refine latS hA0RY [2] (γ := Nat) (fun bRY2 => [(0, .bool false), (1, .pointer (some ⟨w4.heap.size, 0, none⟩)), (3, .pointer (some ⟨w4.heap.size + 2, 0, none⟩)), (4, .slice (some ⟨gu, 0, none⟩) 2 cu), (5, .int .i64 0), (6, .slice (some ⟨gv, 0, none⟩) 3 cv), (7, .int .i64 0), (8, .pointer (some ⟨bRA9, 0, none⟩)), (9, .int .i64 0), (11, .int .i64 0), (12, .pointer (some ⟨bRW9, 0, none⟩)), (13, .int .i64 0), (14, .slice (some ⟨gx, 0, none⟩) 1 cx), (15, .int .i64 0), (17, .int .i64 19), (93, (vK exC g3 2)), (95, .slice (some ⟨bRY2, 0, none⟩) 1 1)]) (fun bRY2 => [(kB g1), (kB g2), (kC g3), (xK (exB 0) w4.heap.size g1 3), (xK (exB 1) (w4.heap.size + 1) g2 3), (xK exC (w4.heap.size + 2) g3 2), ⟨bRA9, .cells #[.int .i64 1000, .int .i64 0, .int .i64 100, .int .i64 890, .int .i64 10, .int .i64 0] 35 (0, 0)⟩, (xS true w185.heap.size gbs cbs gss css), ⟨bRW9, .cells #[.int .i64 1000, .int .i64 0, .int .i64 100, .int .i64 840, .int .i64 60, .int .i64 0] 35 (0, 0)⟩, ⟨bRY2, .cells #[.int .i64 2] 3 (0, 0)⟩]) (fun bRY2 => [⟨gx, .cells ux 57 (0, 0)⟩, ⟨gbs, .cells ubs 93 (0, 0)⟩, ⟨gss, .cells uss 3 (0, 0)⟩, ⟨gv, .cells uv 59 (0, 0)⟩, ⟨gu, .cells uu 59 (0, 0)⟩]) (fun bRY2 _ => True) ?_ (fun hRY2 => ?_)
    · rintro bRY2 wl386 _ hA
      refine manyS hA 1 [9] (by kernel_rfl) ⟨fun hA => ?_, fun hA => ?_, trivial⟩
      ·
        refine runS hA 1 [] xn on (by kernel_rfl) fun w487 hA => ?_
        exact joinE hRY1_2 ⟨wl386.heap.size, bRY2⟩ trivial [0, 1, 2, 3, 4, 5, 6, 7, 8, 10, 9] hA rfl (by kernel_rfl) (by decide)
      ·
        refine runS hA 1 [] xn on (by kernel_rfl) fun w487 hA => ?_
        exact joinE hRY2_9 ⟨bRY2, wl386.heap.size⟩ trivial [0, 1, 2, 3, 4, 5, 6, 7, 8, 9, 10] hA rfl (by kernel_rfl) (by decide)
    refine latS hA0RY [1] (γ := Nat) (fun bRY1 => [(0, .bool false), (1, .pointer (some ⟨w4.heap.size, 0, none⟩)), (3, .pointer (some ⟨w4.heap.size + 2, 0, none⟩)), (4, .slice (some ⟨gu, 0, none⟩) 2 cu), (5, .int .i64 0), (6, .slice (some ⟨gv, 0, none⟩) 3 cv), (7, .int .i64 0), (8, .pointer (some ⟨bRA9, 0, none⟩)), (9, .int .i64 0), (11, .int .i64 0), (12, .pointer (some ⟨bRW9, 0, none⟩)), (13, .int .i64 0), (14, .slice (some ⟨gx, 0, none⟩) 1 cx), (15, .int .i64 0), (17, .int .i64 19), (93, (vK exC g3 2)), (94, .slice (some ⟨bRY1, 0, none⟩) 2 2)]) (fun bRY1 => [(kB g1), (kB g2), (kC g3), (xK (exB 0) w4.heap.size g1 3), (xK (exB 1) (w4.heap.size + 1) g2 3), (xK exC (w4.heap.size + 2) g3 2), ⟨bRA9, .cells #[.int .i64 1000, .int .i64 0, .int .i64 100, .int .i64 890, .int .i64 10, .int .i64 0] 35 (0, 0)⟩, (xS true w185.heap.size gbs cbs gss css), ⟨bRW9, .cells #[.int .i64 1000, .int .i64 0, .int .i64 100, .int .i64 840, .int .i64 60, .int .i64 0] 35 (0, 0)⟩, ⟨bRY1, .cells #[.int .i64 0, .int .i64 1] 3 (0, 0)⟩]) (fun bRY1 => [⟨gx, .cells ux 57 (0, 0)⟩, ⟨gbs, .cells ubs 93 (0, 0)⟩, ⟨gss, .cells uss 3 (0, 0)⟩, ⟨gv, .cells uv 59 (0, 0)⟩, ⟨gu, .cells uu 59 (0, 0)⟩]) (fun bRY1 _ => True) ?_ (fun hRY1 => ?_)
    · rintro bRY1 wl387 _ hA
      refine manyS hA 2 [9] (by kernel_rfl) ⟨fun hA => ?_, fun hA => ?_, trivial⟩
      ·
        refine runS hA 1 [] xn on (by kernel_rfl) fun w488 hA => ?_
        exact joinE hRY1_2 ⟨bRY1, wl387.heap.size⟩ trivial [0, 1, 2, 3, 4, 5, 6, 7, 8, 9, 10] hA rfl (by kernel_rfl) (by decide)
      ·
        refine runS hA 1 [] xn on (by kernel_rfl) fun w488 hA => ?_
        exact joinE hRY1_9 ⟨bRY1, wl387.heap.size⟩ trivial [0, 1, 2, 3, 4, 5, 6, 7, 8, 9, 10] hA rfl (by kernel_rfl) (by decide)
    replace hA := hA0RY
    refine manyS hA 1 [2, 9] (by kernel_rfl) ⟨fun hA => ?_, fun hA => ?_, fun hA => ?_, trivial⟩
    ·
      refine runS hA 1 [] xn on (by kernel_rfl) fun w388 hA => ?_
      exact joinE hRY1 w372.heap.size trivial [0, 1, 2, 3, 4, 5, 6, 7, 8, 9] hA rfl (by kernel_rfl) (by decide)
    ·
      refine runS hA 1 [] xn on (by kernel_rfl) fun w388 hA => ?_
      exact joinE hRY2 w372.heap.size trivial [0, 1, 2, 3, 4, 5, 6, 7, 8, 9] hA rfl (by kernel_rfl) (by decide)
    ·
      refine runS hA 1 [] xn on (by kernel_rfl) fun w388 hA => ?_
      exact joinE hRY9 w372.heap.size trivial [0, 1, 2, 3, 4, 5, 6, 7, 8, 9] hA rfl (by kernel_rfl) (by decide)
  rintro ⟨bRY1, bRY2, bRY3, bRY9⟩ w437 _ hA
  refine runS hA 3 [.b true] xn on (by kernel_rfl) fun w438 hA => ?_
  refine draw hA [true, true, true, true, true, true, true, true, true, true] [0, 1, 2, 3, 4, 5, 6, 7, 8, 9, 10] (by kernel_rfl) (by kernel_rfl) fun hA => ?_
  refine runS hA 1 ([.t 0] ++ List.replicate 8 (.k 3)) xn on (by kernel_rfl) fun w439 hA => ?_
  have hA0RN := hA
  refine latK hA0RN [1, 2, 3, 4, 5, 6, 7, 8, 9, 10] (γ := Nat × Nat × Nat) (fun ⟨bRN1, bRN2, bRN3⟩ => [(0, .bool false), (1, .pointer (some ⟨w4.heap.size, 0, none⟩)), (4, .slice (some ⟨gu, 0, none⟩) 2 cu), (5, .int .i64 0), (6, .slice (some ⟨gv, 0, none⟩) 3 cv), (7, .int .i64 0), (8, .pointer (some ⟨bRA9, 0, none⟩)), (9, .int .i64 0), (11, .int .i64 0), (12, .pointer (some ⟨bRW9, 0, none⟩)), (13, .int .i64 0), (14, .slice (some ⟨gx, 0, none⟩) 1 cx), (15, .int .i64 0), (17, .int .i64 19), (18, .pointer (some ⟨bRY9, 0, none⟩)), (19, .int .i64 0), (20, .int .i64 450), (21, .int .i64 0)]) (fun ⟨bRN1, bRN2, bRN3⟩ => [(kB g1), (kB g2), (kC g3), (xK (exB 0) w4.heap.size g1 3), (xK (exB 1) (w4.heap.size + 1) g2 3), (xK exC (w4.heap.size + 2) g3 2), ⟨bRA9, .cells #[.int .i64 1000, .int .i64 0, .int .i64 100, .int .i64 890, .int .i64 10, .int .i64 0] 35 (0, 0)⟩, (xS true w185.heap.size gbs cbs gss css), ⟨bRW9, .cells #[.int .i64 1000, .int .i64 0, .int .i64 100, .int .i64 840, .int .i64 60, .int .i64 0] 35 (0, 0)⟩, ⟨bRY9, .cells #[.int .i64 550, .int .i64 0, .int .i64 0, .int .i64 530, .int .i64 20, .int .i64 0] 35 (0, 0)⟩]) (fun ⟨bRN1, bRN2, bRN3⟩ => [⟨gx, .cells ux 57 (0, 0)⟩, ⟨gbs, .cells ubs 93 (0, 0)⟩, ⟨gss, .cells uss 3 (0, 0)⟩, ⟨gv, .cells uv 59 (0, 0)⟩, ⟨gu, .cells uu 59 (0, 0)⟩]) (fun ⟨bRN1, bRN2, bRN3⟩ _ => True) (fun hRN1_2_3_4_5 => ?_) ?_
  ·
    refine latS hA0RN [1, 2, 3, 4] (γ := Nat × Nat × Nat) (fun ⟨bRN1, bRN2, bRN3⟩ => [(0, .bool false), (1, .pointer (some ⟨w4.heap.size, 0, none⟩)), (4, .slice (some ⟨gu, 0, none⟩) 2 cu), (5, .int .i64 0), (6, .slice (some ⟨gv, 0, none⟩) 3 cv), (7, .int .i64 0), (8, .pointer (some ⟨bRA9, 0, none⟩)), (9, .int .i64 0), (11, .int .i64 0), (12, .pointer (some ⟨bRW9, 0, none⟩)), (13, .int .i64 0), (14, .slice (some ⟨gx, 0, none⟩) 1 cx), (15, .int .i64 0), (17, .int .i64 19), (18, .pointer (some ⟨bRY9, 0, none⟩)), (19, .int .i64 0), (102, (vK (exB 0) g1 3)), (103, .slice (some ⟨bRN1, 0, none⟩) 2 2), (104, .slice (some ⟨bRN2, 0, none⟩) 1 1), (105, .slice (some ⟨bRN3, 0, none⟩) 2 2), (106, .slice (some ⟨bRN3, 0, none⟩) 2 2)]) (fun ⟨bRN1, bRN2, bRN3⟩ => [(kB g1), (kB g2), (kC g3), (xK (exB 0) w4.heap.size g1 3), (xK (exB 1) (w4.heap.size + 1) g2 3), (xK exC (w4.heap.size + 2) g3 2), ⟨bRA9, .cells #[.int .i64 1000, .int .i64 0, .int .i64 100, .int .i64 890, .int .i64 10, .int .i64 0] 35 (0, 0)⟩, (xS true w185.heap.size gbs cbs gss css), ⟨bRW9, .cells #[.int .i64 1000, .int .i64 0, .int .i64 100, .int .i64 840, .int .i64 60, .int .i64 0] 35 (0, 0)⟩, ⟨bRY9, .cells #[.int .i64 550, .int .i64 0, .int .i64 0, .int .i64 530, .int .i64 20, .int .i64 0] 35 (0, 0)⟩, ⟨bRN1, .cells #[.int .i64 0, .int .i64 1] 3 (0, 0)⟩, ⟨bRN2, .cells #[.int .i64 2] 3 (0, 0)⟩, ⟨bRN3, .cells #[.slice (some ⟨bRN1, 0, none⟩) 2 2, .slice (some ⟨bRN2, 0, none⟩) 1 1] 23 (0, 0)⟩]) (fun ⟨bRN1, bRN2, bRN3⟩ => [⟨gx, .cells ux 57 (0, 0)⟩, ⟨gbs, .cells ubs 93 (0, 0)⟩, ⟨gss, .cells uss 3 (0, 0)⟩, ⟨gv, .cells uv 59 (0, 0)⟩, ⟨gu, .cells uu 59 (0, 0)⟩]) (fun ⟨bRN1, bRN2, bRN3⟩ _ => True) ?_ (fun hRN1_2_3_4 => ?_)
    · rintro ⟨bRN1, bRN2, bRN3⟩ wl440 _ hA
      have hP := Pay_any wl440 wl440.heap.size (exB 0) (some ⟨g1, 0, none⟩) 3 3 none 0 0 (some ⟨bRN3, 0, none⟩) 2 2 [[0, 1], [2]] (exB_at 0 (hA.at_.ok (kB g1) (List.mem_of_getElem? (i := 0) (by kernel_rfl)))) (fin2 (hA.at_.ok ⟨bRN3, .cells #[.slice (some ⟨bRN1, 0, none⟩) 2 2, .slice (some ⟨bRN2, 0, none⟩) 1 1] 23 (0, 0)⟩ (List.mem_of_getElem? (i := 12) (by kernel_rfl))) (xs0 := [0, 1]) (hA.at_.ok ⟨bRN1, .cells #[.int .i64 0, .int .i64 1] 3 (0, 0)⟩ (List.mem_of_getElem? (i := 10) (by kernel_rfl))) (by decide) (xs1 := [2]) (hA.at_.ok ⟨bRN2, .cells #[.int .i64 2] 3 (0, 0)⟩ (List.mem_of_getElem? (i := 11) (by kernel_rfl))) (by decide)) (Nat.le_refl _) 0
      rw [wkN.1, wkN.2] at hP
      refine callB hA [] on (hP) (by kernel_rfl) fun w541 hb541 hA => ?_
      refine runS hA 5 [.t 6, .t 7, .t 8, .t 9, .t 10] xn on (by kernel_rfl) fun w542 hA => ?_
      exact joinE hRN1_2_3_4_5 ⟨bRN1, bRN2, bRN3⟩ trivial [0, 1, 2, 3, 4, 5, 6, 7, 8, 9] hA rfl (by kernel_rfl) (by decide)
    refine latS hA0RN [1, 2, 3] (γ := Nat × Nat × Nat) (fun ⟨bRN1, bRN2, bRN3⟩ => [(0, .bool false), (1, .pointer (some ⟨w4.heap.size, 0, none⟩)), (4, .slice (some ⟨gu, 0, none⟩) 2 cu), (5, .int .i64 0), (6, .slice (some ⟨gv, 0, none⟩) 3 cv), (7, .int .i64 0), (8, .pointer (some ⟨bRA9, 0, none⟩)), (9, .int .i64 0), (11, .int .i64 0), (12, .pointer (some ⟨bRW9, 0, none⟩)), (13, .int .i64 0), (14, .slice (some ⟨gx, 0, none⟩) 1 cx), (15, .int .i64 0), (17, .int .i64 19), (18, .pointer (some ⟨bRY9, 0, none⟩)), (19, .int .i64 0), (102, (vK (exB 0) g1 3)), (103, .slice (some ⟨bRN1, 0, none⟩) 2 2), (104, .slice (some ⟨bRN2, 0, none⟩) 1 1), (105, .slice (some ⟨bRN3, 0, none⟩) 2 2)]) (fun ⟨bRN1, bRN2, bRN3⟩ => [(kB g1), (kB g2), (kC g3), (xK (exB 0) w4.heap.size g1 3), (xK (exB 1) (w4.heap.size + 1) g2 3), (xK exC (w4.heap.size + 2) g3 2), ⟨bRA9, .cells #[.int .i64 1000, .int .i64 0, .int .i64 100, .int .i64 890, .int .i64 10, .int .i64 0] 35 (0, 0)⟩, (xS true w185.heap.size gbs cbs gss css), ⟨bRW9, .cells #[.int .i64 1000, .int .i64 0, .int .i64 100, .int .i64 840, .int .i64 60, .int .i64 0] 35 (0, 0)⟩, ⟨bRY9, .cells #[.int .i64 550, .int .i64 0, .int .i64 0, .int .i64 530, .int .i64 20, .int .i64 0] 35 (0, 0)⟩, ⟨bRN1, .cells #[.int .i64 0, .int .i64 1] 3 (0, 0)⟩, ⟨bRN2, .cells #[.int .i64 2] 3 (0, 0)⟩, ⟨bRN3, .cells #[.slice (some ⟨bRN1, 0, none⟩) 2 2, .slice (some ⟨bRN2, 0, none⟩) 1 1] 23 (0, 0)⟩]) (fun ⟨bRN1, bRN2, bRN3⟩ => [⟨gx, .cells ux 57 (0, 0)⟩, ⟨gbs, .cells ubs 93 (0, 0)⟩, ⟨gss, .cells uss 3 (0, 0)⟩, ⟨gv, .cells uv 59 (0, 0)⟩, ⟨gu, .cells uu 59 (0, 0)⟩]) (fun ⟨bRN1, bRN2, bRN3⟩ _ => True) ?_ (fun hRN1_2_3 => ?_)
    · rintro ⟨bRN1, bRN2, bRN3⟩ wl441 _ hA
      refine callB hA [] on (in_any wl441 (some ⟨bRN3, 0, none⟩) 2 2) (by kernel_rfl) fun w542 hb542 hA => ?_
      exact joinE hRN1_2_3_4 ⟨bRN1, bRN2, bRN3⟩ trivial [0, 1, 2, 3, 4, 5, 6, 7, 8, 9, 10, 11, 12] hA rfl (by kernel_rfl) (by decide)
    refine latS hA0RN [1, 2] (γ := Nat × Nat) (fun ⟨bRN1, bRN2⟩ => [(0, .bool false), (1, .pointer (some ⟨w4.heap.size, 0, none⟩)), (4, .slice (some ⟨gu, 0, none⟩) 2 cu), (5, .int .i64 0), (6, .slice (some ⟨gv, 0, none⟩) 3 cv), (7, .int .i64 0), (8, .pointer (some ⟨bRA9, 0, none⟩)), (9, .int .i64 0), (11, .int .i64 0), (12, .pointer (some ⟨bRW9, 0, none⟩)), (13, .int .i64 0), (14, .slice (some ⟨gx, 0, none⟩) 1 cx), (15, .int .i64 0), (17, .int .i64 19), (18, .pointer (some ⟨bRY9, 0, none⟩)), (19, .int .i64 0), (102, (vK (exB 0) g1 3)), (103, .slice (some ⟨bRN1, 0, none⟩) 2 2), (104, .slice (some ⟨bRN2, 0, none⟩) 1 1)]) (fun ⟨bRN1, bRN2⟩ => [(kB g1), (kB g2), (kC g3), (xK (exB 0) w4.heap.size g1 3), (xK (exB 1) (w4.heap.size + 1) g2 3), (xK exC (w4.heap.size + 2) g3 2), ⟨bRA9, .cells #[.int .i64 1000, .int .i64 0, .int .i64 100, .int .i64 890, .int .i64 10, .int .i64 0] 35 (0, 0)⟩, (xS true w185.heap.size gbs cbs gss css), ⟨bRW9, .cells #[.int .i64 1000, .int .i64 0, .int .i64 100, .int .i64 840, .int .i64 60, .int .i64 0] 35 (0, 0)⟩, ⟨bRY9, .cells #[.int .i64 550, .int .i64 0, .int .i64 0, .int .i64 530, .int .i64 20, .int .i64 0] 35 (0, 0)⟩, ⟨bRN1, .cells #[.int .i64 0, .int .i64 1] 3 (0, 0)⟩, ⟨bRN2, .cells #[.int .i64 2] 3 (0, 0)⟩]) (fun ⟨bRN1, bRN2⟩ => [⟨gx, .cells ux 57 (0, 0)⟩, ⟨gbs, .cells ubs 93 (0, 0)⟩, ⟨gss, .cells uss 3 (0, 0)⟩, ⟨gv, .cells uv 59 (0, 0)⟩, ⟨gu, .cells uu 59 (0, 0)⟩]) (fun ⟨bRN1, bRN2⟩ _ => True) ?_ (fun hRN1_2 => ?_)
    · rintro ⟨bRN1, bRN2⟩ wl442 _ hA
      refine runS hA 1 [.h 3] xn on (by kernel_rfl) fun w543 hA => ?_
      exact joinE hRN1_2_3 ⟨bRN1, bRN2, wl442.heap.size⟩ trivial [0, 1, 2, 3, 4, 5, 6, 7, 8, 9, 10, 11, 12] hA rfl (by kernel_rfl) (by decide)
    refine latS hA0RN [2] (γ := Nat) (fun bRN2 => [(0, .bool false), (1, .pointer (some ⟨w4.heap.size, 0, none⟩)), (4, .slice (some ⟨gu, 0, none⟩) 2 cu), (5, .int .i64 0), (6, .slice (some ⟨gv, 0, none⟩) 3 cv), (7, .int .i64 0), (8, .pointer (some ⟨bRA9, 0, none⟩)), (9, .int .i64 0), (11, .int .i64 0), (12, .pointer (some ⟨bRW9, 0, none⟩)), (13, .int .i64 0), (14, .slice (some ⟨gx, 0, none⟩) 1 cx), (15, .int .i64 0), (17, .int .i64 19), (18, .pointer (some ⟨bRY9, 0, none⟩)), (19, .int .i64 0), (102, (vK (exB 0) g1 3)), (104, .slice (some ⟨bRN2, 0, none⟩) 1 1)]) (fun bRN2 => [(kB g1), (kB g2), (kC g3), (xK (exB 0) w4.heap.size g1 3), (xK (exB 1) (w4.heap.size + 1) g2 3), (xK exC (w4.heap.size + 2) g3 2), ⟨bRA9, .cells #[.int .i64 1000, .int .i64 0, .int .i64 100, .int .i64 890, .int .i64 10, .int .i64 0] 35 (0, 0)⟩, (xS true w185.heap.size gbs cbs gss css), ⟨bRW9, .cells #[.int .i64 1000, .int .i64 0, .int .i64 100, .int .i64 840, .int .i64 60, .int .i64 0] 35 (0, 0)⟩, ⟨bRY9, .cells #[.int .i64 550, .int .i64 0, .int .i64 0, .int .i64 530, .int .i64 20, .int .i64 0] 35 (0, 0)⟩, ⟨bRN2, .cells #[.int .i64 2] 3 (0, 0)⟩]) (fun bRN2 => [⟨gx, .cells ux 57 (0, 0)⟩, ⟨gbs, .cells ubs 93 (0, 0)⟩, ⟨gss, .cells uss 3 (0, 0)⟩, ⟨gv, .cells uv 59 (0, 0)⟩, ⟨gu, .cells uu 59 (0, 0)⟩]) (fun bRN2 _ => True) ?_ (fun hRN2 => ?_)
    · rintro bRN2 wl443 _ hA
      refine runS hA 1 [.h 1] xn on (by kernel_rfl) fun w544 hA => ?_
      exact joinE hRN1_2 ⟨wl443.heap.size, bRN2⟩ trivial [0, 1, 2, 3, 4, 5, 6, 7, 8, 9, 11, 10] hA rfl (by kernel_rfl) (by decide)
    refine latS hA0RN [1] (γ := Nat) (fun bRN1 => [(0, .bool false), (1, .pointer (some ⟨w4.heap.size, 0, none⟩)), (4, .slice (some ⟨gu, 0, none⟩) 2 cu), (5, .int .i64 0), (6, .slice (some ⟨gv, 0, none⟩) 3 cv), (7, .int .i64 0), (8, .pointer (some ⟨bRA9, 0, none⟩)), (9, .int .i64 0), (11, .int .i64 0), (12, .pointer (some ⟨bRW9, 0, none⟩)), (13, .int .i64 0), (14, .slice (some ⟨gx, 0, none⟩) 1 cx), (15, .int .i64 0), (17, .int .i64 19), (18, .pointer (some ⟨bRY9, 0, none⟩)), (19, .int .i64 0), (102, (vK (exB 0) g1 3)), (103, .slice (some ⟨bRN1, 0, none⟩) 2 2)]) (fun bRN1 => [(kB g1), (kB g2), (kC g3), (xK (exB 0) w4.heap.size g1 3), (xK (exB 1) (w4.heap.size + 1) g2 3), (xK exC (w4.heap.size + 2) g3 2), ⟨bRA9, .cells #[.int .i64 1000, .int .i64 0, .int .i64 100, .int .i64 890, .int .i64 10, .int .i64 0] 35 (0, 0)⟩, (xS true w185.heap.size gbs cbs gss css), ⟨bRW9, .cells #[.int .i64 1000, .int .i64 0, .int .i64 100, .int .i64 840, .int .i64 60, .int .i64 0] 35 (0, 0)⟩, ⟨bRY9, .cells #[.int .i64 550, .int .i64 0, .int .i64 0, .int .i64 530, .int .i64 20, .int .i64 0] 35 (0, 0)⟩, ⟨bRN1, .cells #[.int .i64 0, .int .i64 1] 3 (0, 0)⟩]) (fun bRN1 => [⟨gx, .cells ux 57 (0, 0)⟩, ⟨gbs, .cells ubs 93 (0, 0)⟩, ⟨gss, .cells uss 3 (0, 0)⟩, ⟨gv, .cells uv 59 (0, 0)⟩, ⟨gu, .cells uu 59 (0, 0)⟩]) (fun bRN1 _ => True) ?_ (fun hRN1 => ?_)
    · rintro bRN1 wl444 _ hA
      refine runS hA 1 [.h 2] xn on (by kernel_rfl) fun w545 hA => ?_
      exact joinE hRN1_2 ⟨bRN1, wl444.heap.size⟩ trivial [0, 1, 2, 3, 4, 5, 6, 7, 8, 9, 10, 11] hA rfl (by kernel_rfl) (by decide)
    replace hA := hA0RN
    refine manyS hA 1 [2] (by kernel_rfl) ⟨fun hA => ?_, fun hA => ?_, trivial⟩
    ·
      refine runS hA 1 [] xn on (by kernel_rfl) fun w445 hA => ?_
      exact joinE hRN1 w437.heap.size trivial [0, 1, 2, 3, 4, 5, 6, 7, 8, 9, 10] hA rfl (by kernel_rfl) (by decide)
    ·
      refine runS hA 1 [] xn on (by kernel_rfl) fun w445 hA => ?_
      exact joinE hRN2 w437.heap.size trivial [0, 1, 2, 3, 4, 5, 6, 7, 8, 9, 10] hA rfl (by kernel_rfl) (by decide)
  rintro ⟨bRN1, bRN2, bRN3⟩ w494 _ hA
  refine runS hA 5 ([.b true] ++ List.replicate 8 (.k 3)) xn on (by kernel_rfl) fun w495 hA => ?_
  have hP := Favourite_any w495 w495.heap.size (exB 0) (some ⟨g1, 0, none⟩) 3 3 none 0 0 (exB_at 0 (hA.at_.ok (kB g1) (List.mem_of_getElem? (i := 0) (by kernel_rfl)))) (Nat.le_refl _)
  rw [wkF, wkB0] at hP
  refine callB hA [] on (hP) (by kernel_rfl) fun w496 hb496 hA => ?_
  refine runS hA 10 (List.replicate 8 (.k 3)) xn on (by kernel_rfl) fun w497 hA => ?_
  have hP := Spread_any w497 w497.heap.size (exB 0) (some ⟨g1, 0, none⟩) 3 3 none 0 0 (exB_at 0 (hA.at_.ok (kB g1) (List.mem_of_getElem? (i := 0) (by kernel_rfl)))) (Nat.le_refl _)
  rw [wkR, wkB0] at hP
  refine callB hA [] on (hP) (by kernel_rfl) fun w498 hb498 hA => ?_
  refine runS hA 9 [.k 10, .k 10] xn on (by kernel_rfl) fun w499 hA => ?_
  refine draw hA [true, true, true, true, true, true, true, true, true, true, true] [0, 1, 2, 3, 4, 5, 6] (by kernel_rfl) (by kernel_rfl) fun hA => ?_
  refine runS hA 1 ([.t 0] ++ List.replicate 8 (.k 3)) xn on (by kernel_rfl) fun w500 hA => ?_
  have hA0RC := hA
  refine latK hA0RC [1, 2, 3, 4, 5, 6] (γ := Nat × Nat × Nat) (fun ⟨bRC1, bRC2, bRC3⟩ => [(0, .bool false), (4, .slice (some ⟨gu, 0, none⟩) 2 cu), (5, .int .i64 0), (6, .slice (some ⟨gv, 0, none⟩) 3 cv), (7, .int .i64 0), (8, .pointer (some ⟨bRA9, 0, none⟩)), (9, .int .i64 0), (11, .int .i64 0), (12, .pointer (some ⟨bRW9, 0, none⟩)), (13, .int .i64 0), (14, .slice (some ⟨gx, 0, none⟩) 1 cx), (15, .int .i64 0), (17, .int .i64 19), (18, .pointer (some ⟨bRY9, 0, none⟩)), (19, .int .i64 0), (20, .int .i64 450), (21, .int .i64 0), (22, .int .i64 0), (23, .int .i64 0), (24, .pointer (some ⟨w498.heap.size, 0, none⟩)), (25, .int .i64 0), (26, .int .i64 22)]) (fun ⟨bRC1, bRC2, bRC3⟩ => [(kB g1), (kB g2), (kC g3), (xK (exB 0) w4.heap.size g1 3), (xK (exB 1) (w4.heap.size + 1) g2 3), (xK exC (w4.heap.size + 2) g3 2), ⟨bRA9, .cells #[.int .i64 1000, .int .i64 0, .int .i64 100, .int .i64 890, .int .i64 10, .int .i64 0] 35 (0, 0)⟩, (xS true w185.heap.size gbs cbs gss css), ⟨bRW9, .cells #[.int .i64 1000, .int .i64 0, .int .i64 100, .int .i64 840, .int .i64 60, .int .i64 0] 35 (0, 0)⟩, ⟨bRY9, .cells #[.int .i64 550, .int .i64 0, .int .i64 0, .int .i64 530, .int .i64 20, .int .i64 0] 35 (0, 0)⟩, ⟨w498.heap.size, .cells #[.int .i64 890, .int .i64 900] 44 (0, 0)⟩]) (fun ⟨bRC1, bRC2, bRC3⟩ => [⟨gx, .cells ux 57 (0, 0)⟩, ⟨gbs, .cells ubs 93 (0, 0)⟩, ⟨gss, .cells uss 3 (0, 0)⟩, ⟨gv, .cells uv 59 (0, 0)⟩, ⟨gu, .cells uu 59 (0, 0)⟩]) (fun ⟨bRC1, bRC2, bRC3⟩ _ => True) (fun hRC1_2_3_4_5 => ?_) ?_
  ·
    refine latS hA0RC [1, 2, 3, 4] (γ := Nat × Nat × Nat) (fun ⟨bRC1, bRC2, bRC3⟩ => [(0, .bool false), (1, .pointer (some ⟨w4.heap.size, 0, none⟩)), (4, .slice (some ⟨gu, 0, none⟩) 2 cu), (5, .int .i64 0), (6, .slice (some ⟨gv, 0, none⟩) 3 cv), (7, .int .i64 0), (8, .pointer (some ⟨bRA9, 0, none⟩)), (9, .int .i64 0), (11, .int .i64 0), (12, .pointer (some ⟨bRW9, 0, none⟩)), (13, .int .i64 0), (14, .slice (some ⟨gx, 0, none⟩) 1 cx), (15, .int .i64 0), (17, .int .i64 19), (18, .pointer (some ⟨bRY9, 0, none⟩)), (19, .int .i64 0), (20, .int .i64 450), (21, .int .i64 0), (22, .int .i64 0), (23, .int .i64 0), (24, .pointer (some ⟨w498.heap.size, 0, none⟩)), (25, .int .i64 0), (120, (vK (exB 0) g1 3)), (121, .slice (some ⟨bRC1, 0, none⟩) 1 1), (122, .slice (some ⟨bRC2, 0, none⟩) 1 1), (123, .slice (some ⟨bRC3, 0, none⟩) 2 2), (124, .slice (some ⟨bRC3, 0, none⟩) 2 2)]) (fun ⟨bRC1, bRC2, bRC3⟩ => [(kB g1), (kB g2), (kC g3), (xK (exB 0) w4.heap.size g1 3), (xK (exB 1) (w4.heap.size + 1) g2 3), (xK exC (w4.heap.size + 2) g3 2), ⟨bRA9, .cells #[.int .i64 1000, .int .i64 0, .int .i64 100, .int .i64 890, .int .i64 10, .int .i64 0] 35 (0, 0)⟩, (xS true w185.heap.size gbs cbs gss css), ⟨bRW9, .cells #[.int .i64 1000, .int .i64 0, .int .i64 100, .int .i64 840, .int .i64 60, .int .i64 0] 35 (0, 0)⟩, ⟨bRY9, .cells #[.int .i64 550, .int .i64 0, .int .i64 0, .int .i64 530, .int .i64 20, .int .i64 0] 35 (0, 0)⟩, ⟨w498.heap.size, .cells #[.int .i64 890, .int .i64 900] 44 (0, 0)⟩, ⟨bRC1, .cells #[.int .i64 0] 3 (0, 0)⟩, ⟨bRC2, .cells #[.int .i64 2] 3 (0, 0)⟩, ⟨bRC3, .cells #[.slice (some ⟨bRC1, 0, none⟩) 1 1, .slice (some ⟨bRC2, 0, none⟩) 1 1] 23 (0, 0)⟩]) (fun ⟨bRC1, bRC2, bRC3⟩ => [⟨gx, .cells ux 57 (0, 0)⟩, ⟨gbs, .cells ubs 93 (0, 0)⟩, ⟨gss, .cells uss 3 (0, 0)⟩, ⟨gv, .cells uv 59 (0, 0)⟩, ⟨gu, .cells uu 59 (0, 0)⟩]) (fun ⟨bRC1, bRC2, bRC3⟩ _ => True) ?_ (fun hRC1_2_3_4 => ?_)
    · rintro ⟨bRC1, bRC2, bRC3⟩ wl501 _ hA
      have hP := CheckFinish_any wl501 wl501.heap.size (exB 0) (some ⟨g1, 0, none⟩) 3 3 none 0 0 (some ⟨bRC3, 0, none⟩) 2 2 [[0], [2]] (exB_at 0 (hA.at_.ok (kB g1) (List.mem_of_getElem? (i := 0) (by kernel_rfl)))) (fin2 (hA.at_.ok ⟨bRC3, .cells #[.slice (some ⟨bRC1, 0, none⟩) 1 1, .slice (some ⟨bRC2, 0, none⟩) 1 1] 23 (0, 0)⟩ (List.mem_of_getElem? (i := 13) (by kernel_rfl))) (xs0 := [0]) (hA.at_.ok ⟨bRC1, .cells #[.int .i64 0] 3 (0, 0)⟩ (List.mem_of_getElem? (i := 11) (by kernel_rfl))) (by decide) (xs1 := [2]) (hA.at_.ok ⟨bRC2, .cells #[.int .i64 2] 3 (0, 0)⟩ (List.mem_of_getElem? (i := 12) (by kernel_rfl))) (by decide)) (Nat.le_refl _)
      rw [wkC] at hP
      refine callB hA [] on (hP) (by kernel_rfl) fun w602 hb602 hA => ?_
      refine runS hA 1 [.t 6] xn on (by kernel_rfl) fun w603 hA => ?_
      exact joinE hRC1_2_3_4_5 ⟨bRC1, bRC2, bRC3⟩ trivial [0, 1, 2, 3, 4, 5, 6, 7, 8, 9, 10] hA rfl (by kernel_rfl) (by decide)
    refine latS hA0RC [1, 2, 3] (γ := Nat × Nat × Nat) (fun ⟨bRC1, bRC2, bRC3⟩ => [(0, .bool false), (1, .pointer (some ⟨w4.heap.size, 0, none⟩)), (4, .slice (some ⟨gu, 0, none⟩) 2 cu), (5, .int .i64 0), (6, .slice (some ⟨gv, 0, none⟩) 3 cv), (7, .int .i64 0), (8, .pointer (some ⟨bRA9, 0, none⟩)), (9, .int .i64 0), (11, .int .i64 0), (12, .pointer (some ⟨bRW9, 0, none⟩)), (13, .int .i64 0), (14, .slice (some ⟨gx, 0, none⟩) 1 cx), (15, .int .i64 0), (17, .int .i64 19), (18, .pointer (some ⟨bRY9, 0, none⟩)), (19, .int .i64 0), (20, .int .i64 450), (21, .int .i64 0), (22, .int .i64 0), (23, .int .i64 0), (24, .pointer (some ⟨w498.heap.size, 0, none⟩)), (25, .int .i64 0), (120, (vK (exB 0) g1 3)), (121, .slice (some ⟨bRC1, 0, none⟩) 1 1), (122, .slice (some ⟨bRC2, 0, none⟩) 1 1), (123, .slice (some ⟨bRC3, 0, none⟩) 2 2)]) (fun ⟨bRC1, bRC2, bRC3⟩ => [(kB g1), (kB g2), (kC g3), (xK (exB 0) w4.heap.size g1 3), (xK (exB 1) (w4.heap.size + 1) g2 3), (xK exC (w4.heap.size + 2) g3 2), ⟨bRA9, .cells #[.int .i64 1000, .int .i64 0, .int .i64 100, .int .i64 890, .int .i64 10, .int .i64 0] 35 (0, 0)⟩, (xS true w185.heap.size gbs cbs gss css), ⟨bRW9, .cells #[.int .i64 1000, .int .i64 0, .int .i64 100, .int .i64 840, .int .i64 60, .int .i64 0] 35 (0, 0)⟩, ⟨bRY9, .cells #[.int .i64 550, .int .i64 0, .int .i64 0, .int .i64 530, .int .i64 20, .int .i64 0] 35 (0, 0)⟩, ⟨w498.heap.size, .cells #[.int .i64 890, .int .i64 900] 44 (0, 0)⟩, ⟨bRC1, .cells #[.int .i64 0] 3 (0, 0)⟩, ⟨bRC2, .cells #[.int .i64 2] 3 (0, 0)⟩, ⟨bRC3, .cells #[.slice (some ⟨bRC1, 0, none⟩) 1 1, .slice (some ⟨bRC2, 0, none⟩) 1 1] 23 (0, 0)⟩]) (fun ⟨bRC1, bRC2, bRC3⟩ => [⟨gx, .cells ux 57 (0, 0)⟩, ⟨gbs, .cells ubs 93 (0, 0)⟩, ⟨gss, .cells uss 3 (0, 0)⟩, ⟨gv, .cells uv 59 (0, 0)⟩, ⟨gu, .cells uu 59 (0, 0)⟩]) (fun ⟨bRC1, bRC2, bRC3⟩ _ => True) ?_ (fun hRC1_2_3 => ?_)
    · rintro ⟨bRC1, bRC2, bRC3⟩ wl502 _ hA
      refine callB hA [] on (in_any wl502 (some ⟨bRC3, 0, none⟩) 2 2) (by kernel_rfl) fun w603 hb603 hA => ?_
      exact joinE hRC1_2_3_4 ⟨bRC1, bRC2, bRC3⟩ trivial [0, 1, 2, 3, 4, 5, 6, 7, 8, 9, 10, 11, 12, 13] hA rfl (by kernel_rfl) (by decide)
    refine latS hA0RC [1, 2] (γ := Nat × Nat) (fun ⟨bRC1, bRC2⟩ => [(0, .bool false), (1, .pointer (some ⟨w4.heap.size, 0, none⟩)), (4, .slice (some ⟨gu, 0, none⟩) 2 cu), (5, .int .i64 0), (6, .slice (some ⟨gv, 0, none⟩) 3 cv), (7, .int .i64 0), (8, .pointer (some ⟨bRA9, 0, none⟩)), (9, .int .i64 0), (11, .int .i64 0), (12, .pointer (some ⟨bRW9, 0, none⟩)), (13, .int .i64 0), (14, .slice (some ⟨gx, 0, none⟩) 1 cx), (15, .int .i64 0), (17, .int .i64 19), (18, .pointer (some ⟨bRY9, 0, none⟩)), (19, .int .i64 0), (20, .int .i64 450), (21, .int .i64 0), (22, .int .i64 0), (23, .int .i64 0), (24, .pointer (some ⟨w498.heap.size, 0, none⟩)), (25, .int .i64 0), (120, (vK (exB 0) g1 3)), (121, .slice (some ⟨bRC1, 0, none⟩) 1 1), (122, .slice (some ⟨bRC2, 0, none⟩) 1 1)]) (fun ⟨bRC1, bRC2⟩ => [(kB g1), (kB g2), (kC g3), (xK (exB 0) w4.heap.size g1 3), (xK (exB 1) (w4.heap.size + 1) g2 3), (xK exC (w4.heap.size + 2) g3 2), ⟨bRA9, .cells #[.int .i64 1000, .int .i64 0, .int .i64 100, .int .i64 890, .int .i64 10, .int .i64 0] 35 (0, 0)⟩, (xS true w185.heap.size gbs cbs gss css), ⟨bRW9, .cells #[.int .i64 1000, .int .i64 0, .int .i64 100, .int .i64 840, .int .i64 60, .int .i64 0] 35 (0, 0)⟩, ⟨bRY9, .cells #[.int .i64 550, .int .i64 0, .int .i64 0, .int .i64 530, .int .i64 20, .int .i64 0] 35 (0, 0)⟩, ⟨w498.heap.size, .cells #[.int .i64 890, .int .i64 900] 44 (0, 0)⟩, ⟨bRC1, .cells #[.int .i64 0] 3 (0, 0)⟩, ⟨bRC2, .cells #[.int .i64 2] 3 (0, 0)⟩]) (fun ⟨bRC1, bRC2⟩ => [⟨gx, .cells ux 57 (0, 0)⟩, ⟨gbs, .cells ubs 93 (0, 0)⟩, ⟨gss, .cells uss 3 (0, 0)⟩, ⟨gv, .cells uv 59 (0, 0)⟩, ⟨gu, .cells uu 59 (0, 0)⟩]) (fun ⟨bRC1, bRC2⟩ _ => True) ?_ (fun hRC1_2 => ?_)
    · rintro ⟨bRC1, bRC2⟩ wl503 _ hA
      refine runS hA 1 [.h 3] xn on (by kernel_rfl) fun w604 hA => ?_
      exact joinE hRC1_2_3 ⟨bRC1, bRC2, wl503.heap.size⟩ trivial [0, 1, 2, 3, 4, 5, 6, 7, 8, 9, 10, 11, 12, 13] hA rfl (by kernel_rfl) (by decide)
    refine latS hA0RC [2] (γ := Nat) (fun bRC2 => [(0, .bool false), (1, .pointer (some ⟨w4.heap.size, 0, none⟩)), (4, .slice (some ⟨gu, 0, none⟩) 2 cu), (5, .int .i64 0), (6, .slice (some ⟨gv, 0, none⟩) 3 cv), (7, .int .i64 0), (8, .pointer (some ⟨bRA9, 0, none⟩)), (9, .int .i64 0), (11, .int .i64 0), (12, .pointer (some ⟨bRW9, 0, none⟩)), (13, .int .i64 0), (14, .slice (some ⟨gx, 0, none⟩) 1 cx), (15, .int .i64 0), (17, .int .i64 19), (18, .pointer (some ⟨bRY9, 0, none⟩)), (19, .int .i64 0), (20, .int .i64 450), (21, .int .i64 0), (22, .int .i64 0), (23, .int .i64 0), (24, .pointer (some ⟨w498.heap.size, 0, none⟩)), (25, .int .i64 0), (120, (vK (exB 0) g1 3)), (122, .slice (some ⟨bRC2, 0, none⟩) 1 1)]) (fun bRC2 => [(kB g1), (kB g2), (kC g3), (xK (exB 0) w4.heap.size g1 3), (xK (exB 1) (w4.heap.size + 1) g2 3), (xK exC (w4.heap.size + 2) g3 2), ⟨bRA9, .cells #[.int .i64 1000, .int .i64 0, .int .i64 100, .int .i64 890, .int .i64 10, .int .i64 0] 35 (0, 0)⟩, (xS true w185.heap.size gbs cbs gss css), ⟨bRW9, .cells #[.int .i64 1000, .int .i64 0, .int .i64 100, .int .i64 840, .int .i64 60, .int .i64 0] 35 (0, 0)⟩, ⟨bRY9, .cells #[.int .i64 550, .int .i64 0, .int .i64 0, .int .i64 530, .int .i64 20, .int .i64 0] 35 (0, 0)⟩, ⟨w498.heap.size, .cells #[.int .i64 890, .int .i64 900] 44 (0, 0)⟩, ⟨bRC2, .cells #[.int .i64 2] 3 (0, 0)⟩]) (fun bRC2 => [⟨gx, .cells ux 57 (0, 0)⟩, ⟨gbs, .cells ubs 93 (0, 0)⟩, ⟨gss, .cells uss 3 (0, 0)⟩, ⟨gv, .cells uv 59 (0, 0)⟩, ⟨gu, .cells uu 59 (0, 0)⟩]) (fun bRC2 _ => True) ?_ (fun hRC2 => ?_)
    · rintro bRC2 wl504 _ hA
      refine runS hA 1 [.h 1] xn on (by kernel_rfl) fun w605 hA => ?_
      exact joinE hRC1_2 ⟨wl504.heap.size, bRC2⟩ trivial [0, 1, 2, 3, 4, 5, 6, 7, 8, 9, 10, 12, 11] hA rfl (by kernel_rfl) (by decide)
    refine latS hA0RC [1] (γ := Nat) (fun bRC1 => [(0, .bool false), (1, .pointer (some ⟨w4.heap.size, 0, none⟩)), (4, .slice (some ⟨gu, 0, none⟩) 2 cu), (5, .int .i64 0), (6, .slice (some ⟨gv, 0, none⟩) 3 cv), (7, .int .i64 0), (8, .pointer (some ⟨bRA9, 0, none⟩)), (9, .int .i64 0), (11, .int .i64 0), (12, .pointer (some ⟨bRW9, 0, none⟩)), (13, .int .i64 0), (14, .slice (some ⟨gx, 0, none⟩) 1 cx), (15, .int .i64 0), (17, .int .i64 19), (18, .pointer (some ⟨bRY9, 0, none⟩)), (19, .int .i64 0), (20, .int .i64 450), (21, .int .i64 0), (22, .int .i64 0), (23, .int .i64 0), (24, .pointer (some ⟨w498.heap.size, 0, none⟩)), (25, .int .i64 0), (120, (vK (exB 0) g1 3)), (121, .slice (some ⟨bRC1, 0, none⟩) 1 1)]) (fun bRC1 => [(kB g1), (kB g2), (kC g3), (xK (exB 0) w4.heap.size g1 3), (xK (exB 1) (w4.heap.size + 1) g2 3), (xK exC (w4.heap.size + 2) g3 2), ⟨bRA9, .cells #[.int .i64 1000, .int .i64 0, .int .i64 100, .int .i64 890, .int .i64 10, .int .i64 0] 35 (0, 0)⟩, (xS true w185.heap.size gbs cbs gss css), ⟨bRW9, .cells #[.int .i64 1000, .int .i64 0, .int .i64 100, .int .i64 840, .int .i64 60, .int .i64 0] 35 (0, 0)⟩, ⟨bRY9, .cells #[.int .i64 550, .int .i64 0, .int .i64 0, .int .i64 530, .int .i64 20, .int .i64 0] 35 (0, 0)⟩, ⟨w498.heap.size, .cells #[.int .i64 890, .int .i64 900] 44 (0, 0)⟩, ⟨bRC1, .cells #[.int .i64 0] 3 (0, 0)⟩]) (fun bRC1 => [⟨gx, .cells ux 57 (0, 0)⟩, ⟨gbs, .cells ubs 93 (0, 0)⟩, ⟨gss, .cells uss 3 (0, 0)⟩, ⟨gv, .cells uv 59 (0, 0)⟩, ⟨gu, .cells uu 59 (0, 0)⟩]) (fun bRC1 _ => True) ?_ (fun hRC1 => ?_)
    · rintro bRC1 wl505 _ hA
      refine runS hA 1 [.h 2] xn on (by kernel_rfl) fun w606 hA => ?_
      exact joinE hRC1_2 ⟨bRC1, wl505.heap.size⟩ trivial [0, 1, 2, 3, 4, 5, 6, 7, 8, 9, 10, 11, 12] hA rfl (by kernel_rfl) (by decide)
    replace hA := hA0RC
    refine manyS hA 1 [2] (by kernel_rfl) ⟨fun hA => ?_, fun hA => ?_, trivial⟩
    ·
      refine runS hA 1 [] xn on (by kernel_rfl) fun w506 hA => ?_
      exact joinE hRC1 (w498.heap.size + 1) trivial [0, 1, 2, 3, 4, 5, 6, 7, 8, 9, 10, 11] hA rfl (by kernel_rfl) (by decide)
    ·
      refine runS hA 1 [] xn on (by kernel_rfl) fun w506 hA => ?_
      exact joinE hRC2 (w498.heap.size + 1) trivial [0, 1, 2, 3, 4, 5, 6, 7, 8, 9, 10, 11] hA rfl (by kernel_rfl) (by decide)
  rintro ⟨bRC1, bRC2, bRC3⟩ w555 _ hA
  refine runS hA 59 [.b true] xn on (by kernel_rfl) fun w556 hA => ?_
  refine callB hA [] on (div_any w556 0 (-1) 90) (by kernel_rfl) fun w557 hb557 hA => ?_
  refine callB hA [] on (div_any w557 1 (-1) 150) (by kernel_rfl) fun w558 hb558 hA => ?_
  refine runS hA 1 [] xn on (by kernel_rfl) fun w559 hA => ?_
  have hP := ldiv_any w559 w559.heap.size (some ⟨gu, 0, none⟩) 2 cu (some ⟨w558.heap.size, 0, none⟩) 2 2 [((0, -1), 90), ((1, -1), 150)] [((0, -1), 90), ((1, -1), 150)] (row_parts hru (hA.at_.rok ⟨gu, .cells uu 59 (0, 0)⟩ (by simp)) (by decide)) (parts_row (hA.at_.ok ⟨w558.heap.size, .cells #[.int .i64 0, .int .i64 (-1), .int .i64 90, .int .i64 1, .int .i64 (-1), .int .i64 150] 59 (0, 0)⟩ (List.mem_of_getElem? (i := 11) (by kernel_rfl))) rfl rfl (by decide)) (Nat.le_refl _)
  refine callB hA [] on (hP) (by kernel_rfl) fun w560 hb560 hA => ?_
  refine runS hA 2 [] xn on (by kernel_rfl) fun w561 hA => ?_
  refine callB hA [] on (div_any w561 0 (-1) 60) (by kernel_rfl) fun w562 hb562 hA => ?_
  refine callB hA [] on (div_any w562 1 (-1) 100) (by kernel_rfl) fun w563 hb563 hA => ?_
  refine callB hA [] on (div_any w563 2 (-1) 150) (by kernel_rfl) fun w564 hb564 hA => ?_
  refine runS hA 1 [] xn on (by kernel_rfl) fun w565 hA => ?_
  have hP := ldiv_any w565 w565.heap.size (some ⟨gv, 0, none⟩) 3 cv (some ⟨w564.heap.size, 0, none⟩) 3 3 [((0, -1), 60), ((1, -1), 100), ((2, -1), 150)] [((0, -1), 60), ((1, -1), 100), ((2, -1), 150)] (row_parts hrv (hA.at_.rok ⟨gv, .cells uv 59 (0, 0)⟩ (by simp)) (by decide)) (parts_row (hA.at_.ok ⟨w564.heap.size, .cells #[.int .i64 0, .int .i64 (-1), .int .i64 60, .int .i64 1, .int .i64 (-1), .int .i64 100, .int .i64 2, .int .i64 (-1), .int .i64 150] 59 (0, 0)⟩ (List.mem_of_getElem? (i := 12) (by kernel_rfl))) rfl rfl (by decide)) (Nat.le_refl _)
  refine callB hA [] on (hP) (by kernel_rfl) fun w566 hb566 hA => ?_
  refine runS hA 4 (List.replicate 6 (.k 6)) xn on (by kernel_rfl) fun w567 hA => ?_
  refine opv (v := .bool true) hA [] on (s := cmpSem .eql 35 (.tmp 186) (.tmp 187) (.agg #[.int .i64 1000, .int .i64 0, .int .i64 100, .int .i64 890, .int .i64 10, .int .i64 0]) (.agg #[.int .i64 1000, .int .i64 0, .int .i64 100, .int .i64 890, .int .i64 10, .int .i64 0])) (by kernel_rfl) (cmp_flat (n := 6) false (by kernel_rfl) _ (by kernel_rfl) (fun i hi => by match i, hi with | 0, _ => exact ⟨_, _, _, rfl, rfl⟩ | 1, _ => exact ⟨_, _, _, rfl, rfl⟩ | 2, _ => exact ⟨_, _, _, rfl, rfl⟩ | 3, _ => exact ⟨_, _, _, rfl, rfl⟩ | 4, _ => exact ⟨_, _, _, rfl, rfl⟩ | 5, _ => exact ⟨_, _, _, rfl, rfl⟩) (True) (⟨fun _ => trivial, fun _ => rfl⟩) (by kernel_rfl)) fun hA => ?_
  refine runS hA 4 (List.replicate 6 (.k 8)) xn on (by kernel_rfl) fun w568 hA => ?_
  refine opv (v := .bool true) hA [] on (s := cmpSem .eql 35 (.tmp 191) (.tmp 192) (.agg #[.int .i64 1000, .int .i64 0, .int .i64 100, .int .i64 840, .int .i64 60, .int .i64 0]) (.agg #[.int .i64 1000, .int .i64 0, .int .i64 100, .int .i64 840, .int .i64 60, .int .i64 0])) (by kernel_rfl) (cmp_flat (n := 6) false (by kernel_rfl) _ (by kernel_rfl) (fun i hi => by match i, hi with | 0, _ => exact ⟨_, _, _, rfl, rfl⟩ | 1, _ => exact ⟨_, _, _, rfl, rfl⟩ | 2, _ => exact ⟨_, _, _, rfl, rfl⟩ | 3, _ => exact ⟨_, _, _, rfl, rfl⟩ | 4, _ => exact ⟨_, _, _, rfl, rfl⟩ | 5, _ => exact ⟨_, _, _, rfl, rfl⟩) (True) (⟨fun _ => trivial, fun _ => rfl⟩) (by kernel_rfl)) fun hA => ?_
  refine runS hA 5 [] xn on (by kernel_rfl) fun w569 hA => ?_
  have hP := ltwo_any w569 w569.heap.size (some ⟨gx, 0, none⟩) 1 cx (some ⟨w568.heap.size, 0, none⟩) 1 1 [(2, 0)] [(2, 0)] (row_parts hrx (hA.at_.rok ⟨gx, .cells ux 57 (0, 0)⟩ (by simp)) (by decide)) (parts_row (hA.at_.ok ⟨w568.heap.size, .cells #[.int .i64 2, .int .i64 0] 57 (0, 0)⟩ (List.mem_of_getElem? (i := 13) (by kernel_rfl))) rfl rfl (by decide)) (Nat.le_refl _)
  refine callB hA [] on (hP) (by kernel_rfl) fun w570 hb570 hA => ?_
  refine runS hA 4 (List.replicate 6 (.k 9)) xn on (by kernel_rfl) fun w571 hA => ?_
  refine opv (v := .bool true) hA [] on (s := cmpSem .eql 35 (.tmp 202) (.tmp 203) (.agg #[.int .i64 550, .int .i64 0, .int .i64 0, .int .i64 530, .int .i64 20, .int .i64 0]) (.agg #[.int .i64 550, .int .i64 0, .int .i64 0, .int .i64 530, .int .i64 20, .int .i64 0])) (by kernel_rfl) (cmp_flat (n := 6) false (by kernel_rfl) _ (by kernel_rfl) (fun i hi => by match i, hi with | 0, _ => exact ⟨_, _, _, rfl, rfl⟩ | 1, _ => exact ⟨_, _, _, rfl, rfl⟩ | 2, _ => exact ⟨_, _, _, rfl, rfl⟩ | 3, _ => exact ⟨_, _, _, rfl, rfl⟩ | 4, _ => exact ⟨_, _, _, rfl, rfl⟩ | 5, _ => exact ⟨_, _, _, rfl, rfl⟩) (True) (⟨fun _ => trivial, fun _ => rfl⟩) (by kernel_rfl)) fun hA => ?_
  refine runS hA 12 [.k 10, .k 10] xn on (by kernel_rfl) fun w572 hA => ?_
  refine opv (v := .bool true) hA [] on (s := cmpSem .eql 44 (.tmp 215) (.tmp 216) (.agg #[.int .i64 890, .int .i64 900]) (.agg #[.int .i64 890, .int .i64 900])) (by kernel_rfl) (cmp_flat (n := 2) false (by kernel_rfl) _ (by kernel_rfl) (fun i hi => by match i, hi with | 0, _ => exact ⟨_, _, _, rfl, rfl⟩ | 1, _ => exact ⟨_, _, _, rfl, rfl⟩) (True) (⟨fun _ => trivial, fun _ => rfl⟩) (by kernel_rfl)) fun hA => ?_
  refine runS hA 5 [] xn on (by kernel_rfl) fun w573 hA => ?_
  exact ret (v := .bool true) hA [] (by kernel_rfl) ⟨rfl, hA.below⟩
end Go.Proofs.YtbahiemjaomdcaaGreat
