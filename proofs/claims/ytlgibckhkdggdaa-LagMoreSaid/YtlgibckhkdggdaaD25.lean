/- Parts of a proof: UC. -/
import Derived.Test.YtlgibckhkdggdaaH24
import Derived.Deep.Upon

/- lag: LagMore. -/
namespace Go.Proofs.Ytlgibckhkdggdaa
open Go.RowKit Go.Shelf

attribute [local go_sem] Oper.semAt_some

/-- More comes, from a number of turns on: the first i numbers of it. -/
def upP (xs : List Int) (a : Int) (f i : Nat) : List Int := mapL (fun j => if f ≤ j ∧ j < i then min 100 (xs[j]?.getD 0 + a) else xs[j]?.getD 0) xs.length
theorem upP_len (xs : List Int) (a : Int) (f i : Nat) : (upP xs a f i).length = xs.length := mapL_len _ _
theorem upP_get {xs : List Int} {a : Int} {f i j : Nat} (h : j < xs.length) : (upP xs a f i)[j]?.getD 0 = if f ≤ j ∧ j < i then min 100 (xs[j]?.getD 0 + a) else xs[j]?.getD 0 := mapL_get h
theorem upP_start (xs : List Int) (a : Int) (f : Nat) : upP xs a f f = xs := by
  refine ints_ext (upP_len _ _ _ _) fun j hj => ?_
  rw [upP_len] at hj
  rw [upP_get hj, if_neg (by omega)]
theorem upP_set {xs : List Int} {a : Int} {f i : Nat} (hf : f ≤ i) (hi : i < xs.length) : (upP xs a f i).set i (min 100 (xs[i]?.getD 0 + a)) = upP xs a f (i + 1) := by
  refine ints_ext (by rw [List.length_set, upP_len, upP_len]) fun j hj => ?_
  rw [List.length_set, upP_len] at hj
  rw [upP_get hj, List.getElem?_set]
  by_cases h : i = j
  · subst h
    rw [if_pos rfl, upP_len, if_pos hi, if_pos (by omega)]
    rfl
  · rw [if_neg h, upP_get hj]
    by_cases h2 : f ≤ j ∧ j < i
    · rw [if_pos h2, if_pos (by omega)]
    · rw [if_neg h2, if_neg (by omega)]
/-- Less is added for few turns: the first i numbers of it. -/
def loP (xs : List Int) (a : Int) (i : Nat) : List Int := mapL (fun j => if j < i then max 0 (xs[j]?.getD 0 - a) else xs[j]?.getD 0) xs.length
theorem loP_len (xs : List Int) (a : Int) (i : Nat) : (loP xs a i).length = xs.length := mapL_len _ _
theorem loP_get {xs : List Int} {a : Int} {i j : Nat} (h : j < xs.length) : (loP xs a i)[j]?.getD 0 = if j < i then max 0 (xs[j]?.getD 0 - a) else xs[j]?.getD 0 := mapL_get h
theorem loP_start (xs : List Int) (a : Int) : loP xs a 0 = xs := by
  refine ints_ext (loP_len _ _ _) fun j hj => ?_
  rw [loP_len] at hj
  rw [loP_get hj, if_neg (by omega)]
theorem loP_set {xs : List Int} {a : Int} {i : Nat} (hi : i < xs.length) : (loP xs a i).set i (max 0 (xs[i]?.getD 0 - a)) = loP xs a (i + 1) := by
  refine ints_ext (by rw [List.length_set, loP_len, loP_len]) fun j hj => ?_
  rw [List.length_set, loP_len] at hj
  rw [loP_get hj, List.getElem?_set]
  by_cases h : i = j
  · subst h
    rw [if_pos rfl, loP_len, if_pos hi, if_pos (by omega)]
    rfl
  · rw [if_neg h, loP_get hj]
    by_cases h2 : j < i
    · rw [if_pos h2, if_pos (by omega)]
    · rw [if_neg h2, if_neg (by omega)]
/-- What LagMore asks of a curve and a chain. -/
def AskQ (wv lv : Int) (cs : List Int) (css : List (List Int)) : Prop := curveF cs = 0 → chainF css = 0 → (waitV cs css).2 = (lateV cs css).2 ∧ ((waitV cs css).2 = 0 ∧ wv ≤ (waitV cs css).1 ∧ lv ≤ (lateV cs css).1 ∨ (waitV cs css).2 = 18)
theorem askQ_of {cs cs' : List Int} {css css' : List (List Int)} {wv lv : Int} (ha : askedR cs css = 0) (hw : waitV cs css = (wv, 0)) (hl : lateV cs css = (lv, 0)) (h1 : curveF cs' = 0 → ∀ k, mst cs k ≤ mst cs' k) (h2 : chainF css' = 0 → ∀ k, lvl css' (css'.length - 1) k ≤ lvl css (css.length - 1) k) : AskQ wv lv cs' css' := fun hc hch => by
  obtain ⟨e, h⟩ := both_err hc hch
  refine ⟨e, ?_⟩
  rcases h with ⟨h, ha'⟩ | h
  · have := more_ok ha ha' (h1 hc) (h2 hch)
    rw [hw, hl] at this
    exact .inl ⟨h, this.1, this.2⟩
  · exact .inr h
theorem ask_up {xs : List Int} {css : List (List Int)} {a wv lv : Int} {f i : Nat} (h0 : 0 ≤ a) (ha : askedR xs css = 0) (hw : waitV xs css = (wv, 0)) (hl : lateV xs css = (lv, 0)) : AskQ wv lv (upP xs a f i) css := by
  have hc := curve_nums (asked_fair ha).1
  refine askQ_of ha hw hl (fun _ k => mst_grow hc.1 (upP_len _ _ _ _).symm (fun j hj => ?_) k) (fun _ k => Int.le_refl _)
  rw [upP_get hj]
  have := hc.2.2.1 j hj
  split
  · omega
  · exact Int.le_refl _
theorem ask_slow {xs : List Int} {css : List (List Int)} {a wv lv : Int} {i : Nat} (h0 : 0 ≤ a) (ha : askedR xs css = 0) (hw : waitV xs css = (wv, 0)) (hl : lateV xs css = (lv, 0)) : AskQ wv lv xs (css.set 0 (loP (css[0]?.getD []) a i)) := by
  have hch := (asked_fair ha).2.1
  have hn := chain_pos hch
  refine askQ_of ha hw hl (fun _ k => Int.le_refl _) (fun _ k => ?_)
  rw [List.length_set]
  refine lvl_grow (fun j hj k => ?_) k
  rw [List.getElem?_set]
  by_cases h : 0 = j
  · subst h
    rw [if_pos rfl, if_pos (by omega)]
    have hc := curve_nums (chain_curves hch (j := 0) (by omega))
    refine leastF_grow (by simp only [Option.getD_some]; rw [loP_len]; exact hc.1) (by simp only [Option.getD_some]; rw [loP_len]) (fun j hj => ?_) k
    simp only [Option.getD_some] at hj ⊢
    rw [loP_len] at hj
    rw [loP_get hj]
    have := hc.2.2.1 j hj
    split
    · omega
    · exact Int.le_refl _
  · rw [if_neg h]
    exact Int.le_refl _
theorem ask_wide {xs : List Int} {css : List (List Int)} {wv lv : Int} (sh : List Int) (ha : askedR xs css = 0) (hw : waitV xs css = (wv, 0)) (hl : lateV xs css = (lv, 0)) : AskQ wv lv xs (css ++ [sh]) :=
  askQ_of ha hw hl (fun _ _ => Int.le_refl _) (fun _ k => lvl_shaft css sh (chain_pos (asked_fair ha).2.1).1 k)
/-- Two boxes of two bytes. -/
structure Bx (W : World) (N : Nat) (p0 p1 q0 q1 : Int) : Prop where
  a : W.cell? ⟨N, 0, none⟩ = some (.int .u8 p0)
  b : W.cell? ⟨N, 1, none⟩ = some (.int .u8 p1)
  c : W.cell? ⟨N + 1, 0, none⟩ = some (.int .u8 q0)
  d : W.cell? ⟨N + 1, 1, none⟩ = some (.int .u8 q1)
  lt : N + 2 ≤ W.heap.size
theorem Bx.up {W W' : World} {N : Nat} {p0 p1 q0 q1 : Int} (h : Bx W N p0 p1 q0 q1) (hb : Below W.heap.size W W') : Bx W' N p0 p1 q0 q1 := by
  have hl := h.lt
  exact ⟨(hb.cell (p := ⟨N, 0, none⟩) (show N < W.heap.size by omega)).trans h.a, (hb.cell (p := ⟨N, 1, none⟩) (show N < W.heap.size by omega)).trans h.b, (hb.cell (p := ⟨N + 1, 0, none⟩) (show N + 1 < W.heap.size by omega)).trans h.c, (hb.cell (p := ⟨N + 1, 1, none⟩) (show N + 1 < W.heap.size by omega)).trans h.d, Nat.le_trans hl hb.size⟩
theorem bx_new (w : World) (p0 p1 q0 q1 : Value) (T : TypeId) : ((w.alloc (.cells #[p0, p1] T)).alloc (.cells #[q0, q1] T)).cell? ⟨w.heap.size, 0, none⟩ = some p0 ∧ ((w.alloc (.cells #[p0, p1] T)).alloc (.cells #[q0, q1] T)).cell? ⟨w.heap.size, 1, none⟩ = some p1 ∧ ((w.alloc (.cells #[p0, p1] T)).alloc (.cells #[q0, q1] T)).cell? ⟨w.heap.size + 1, 0, none⟩ = some q0 ∧ ((w.alloc (.cells #[p0, p1] T)).alloc (.cells #[q0, q1] T)).cell? ⟨w.heap.size + 1, 1, none⟩ = some q1 := by
  have h1 : (w.alloc (.cells #[p0, p1] T)).heap.size = w.heap.size + 1 := by simp
  refine ⟨?_, ?_, ?_, ?_⟩
  · rw [World.cell?_alloc_lt _ _ _ (by rw [h1]; exact Nat.lt_succ_self _)]
    exact cell_new w _ _ 0
  · rw [World.cell?_alloc_lt _ _ _ (by rw [h1]; exact Nat.lt_succ_self _)]
    exact cell_new w _ _ 1
  · rw [← h1]
    exact cell_new _ _ _ 0
  · rw [← h1]
    exact cell_new _ _ _ 1
theorem grown_set (W : World) (b i : Nat) (v : Value) : W.grownBy (W.setCell ⟨b, i, none⟩ v) (some b) :=
  ⟨rfl, rfl, rfl, by simp, fun _ hk hne => World.heap_setCells_other W b i [v] hk (fun e => hne (by rw [e]))⟩
theorem own_smT {W : World} {B n : Nat} {T : TypeId} {v : Value} {vs : List Value} (h : W.ownsRow B T 1 v n vs) (hn : 1 ≤ n) : ∃ g c, v = .slice (some ⟨g, 0, none⟩) n c ∧ n ≤ c := by
  rcases h.2 with ⟨-, h0⟩ | ⟨g, cap, cur, e, -, -, hc, -⟩
  · omega
  · exact ⟨g, cap, e, hc⟩
/-- The slices of a row of rows, as they lie. -/
theorem rows_vals {w : World} {B b off K : Nat} {css : List (List Int)} (h : RowsAt w B (some ⟨b, off, none⟩) K css) :
    ∃ vs : List Value, vs.length = K ∧ (∀ j u, vs[j]? = some u → w.cell? ((⟨b, off, none⟩ : Addr).add j) = some u) ∧ (∀ u ∈ vs, u.oneCell' = true) ∧ ∀ j, j < K → ∃ A m c, vs[j]? = some (.slice A m c) ∧ IntsAt w B A m (css[j]?.getD []) := by
  have hat : ∀ j, j < K → ∃ A m c, w.cell? ⟨b, off + j, none⟩ = some (.slice A m c) ∧ IntsAt w B A m (css[j]?.getD []) := fun j hj => by
    obtain ⟨b', o', cs, A, m, c, e, -, hcs, hc, hi⟩ := h.at hj
    cases e
    exact ⟨A, m, c, hc, by rw [hcs]; exact hi⟩
  have hget : ∀ j, j < K → ((List.range K).map fun j => (w.cell? ⟨b, off + j, none⟩).getD undef)[j]? = some ((w.cell? ⟨b, off + j, none⟩).getD undef) := fun j hj => by simp [hj]
  refine ⟨(List.range K).map fun j => (w.cell? ⟨b, off + j, none⟩).getD undef, by simp, fun j u hu => ?_, fun u hu => ?_, fun j hj => ?_⟩
  · have hj : j < K := by
      have := (List.getElem?_eq_some_iff.1 hu).1
      simpa using this
    rw [hget j hj] at hu
    obtain ⟨A, m, c, hc, -⟩ := hat j hj
    rw [show (⟨b, off, none⟩ : Addr).add j = ⟨b, off + j, none⟩ by simp [Addr.add]]
    rw [hc] at hu ⊢
    exact hu
  · obtain ⟨j, hj, rfl⟩ := List.mem_map.1 hu
    obtain ⟨A, m, c, hc, -⟩ := hat j (List.mem_range.1 hj)
    rw [hc]
    rfl
  · obtain ⟨A, m, c, hc, hi⟩ := hat j hj
    exact ⟨A, m, c, by rw [hget j hj, hc]; rfl, hi⟩
theorem vals_in {w W : World} {B K : Nat} {k : Option Nat} {vs : List Value} {css : List (List Int)} (hl : vs.length = K) (hk' : css.length = K) (h : ∀ j, j < K → ∃ A m c, vs[j]? = some (.slice A m c) ∧ IntsAt w B A m (css[j]?.getD [])) (hb : ∀ p : Addr, p.block < B → W.cell? p = w.cell? p) (hB : B ≤ W.heap.size) (hk : ∀ g, k = some g → B ≤ g) : RowsIn W k vs css := by
  refine ⟨by omega, fun j hj => ?_⟩
  obtain ⟨A, m, c, e, hi⟩ := h j (by omega)
  rw [e]
  exact ints_in (hi.keep hb (Nat.le_refl _)) hB hk
theorem RowsIn.set {W : World} {k : Option Nat} {vs : List Value} {css : List (List Int)} {x : Value} {cs : List Int} (h : RowsIn W k vs css) (hx : RowIn W k x cs) (i : Nat) : RowsIn W k (vs.set i x) (css.set i cs) := by
  refine ⟨by rw [List.length_set, List.length_set]; exact h.1, fun j hj => ?_⟩
  rw [List.length_set] at hj
  rw [List.getElem?_set, List.getElem?_set]
  by_cases hij : i = j
  · subst hij
    rw [if_pos rfl, if_pos rfl, if_pos (by rw [h.1]; exact hj), if_pos hj]
    exact hx
  · rw [if_neg hij, if_neg hij]
    exact h.2 j hj
/-- The three curves and chains that LagMore looks at. -/
def Trio (W : World) (N : Nat) (wv lv : Int) : Prop :=
  N + 2 ≤ W.heap.size ∧ ∀ i, i < 3 → ∃ A n c cs A2 K c2 css, W.cell? ⟨N, i, none⟩ = some (.slice A n c) ∧ IntsAt W W.heap.size A n cs ∧ W.cell? ⟨N + 1, i, none⟩ = some (.slice A2 K c2) ∧ RowsAt W W.heap.size A2 K css ∧ AskQ wv lv cs css
theorem Trio.up {W W' : World} {N : Nat} {wv lv : Int} (h : Trio W N wv lv) (hb : Below W.heap.size W W') : Trio W' N wv lv := by
  refine ⟨Nat.le_trans h.1 hb.size, fun i hi => ?_⟩
  have hl := h.1
  obtain ⟨A, n, c, cs, A2, K, c2, css, h1, h2, h3, h4, h5⟩ := h.2 i hi
  exact ⟨A, n, c, cs, A2, K, c2, css, (hb.cell (p := ⟨N, i, none⟩) (show N < W.heap.size by omega)).trans h1, ints_up h2 hb, (hb.cell (p := ⟨N + 1, i, none⟩) (show N + 1 < W.heap.size by omega)).trans h3, rows_up h4 hb, h5⟩
theorem trio_new (W : World) (T T2 : TypeId) (v0 v1 v2 u0 u1 u2 : Value) (i : Nat) : ((W.alloc (.cells #[v0, v1, v2] T)).alloc (.cells #[u0, u1, u2] T2)).cell? ⟨W.heap.size, i, none⟩ = #[v0, v1, v2][i]? ∧ ((W.alloc (.cells #[v0, v1, v2] T)).alloc (.cells #[u0, u1, u2] T2)).cell? ⟨W.heap.size + 1, i, none⟩ = #[u0, u1, u2][i]? := by
  have h1 : (W.alloc (.cells #[v0, v1, v2] T)).heap.size = W.heap.size + 1 := by simp
  refine ⟨?_, ?_⟩
  · rw [World.cell?_alloc_lt _ _ _ (by rw [h1]; exact Nat.lt_succ_self _)]
    exact cell_new W _ _ i
  · rw [← h1]
    exact cell_new _ _ _ i

set_option maxRecDepth 100000 in
set_option maxHeartbeats 32000000 in
theorem LagMore_any (w : World) (A A2 A5 : Option Addr) (n c K c2 l c5 : Nat) (xs : List Int) (css : List (List Int)) (sh : List Int) (m0 m1 f0 f1 : Int) (hx : IntsAt w w.heap.size A n xs) (hy : RowsAt w w.heap.size A2 K css) (hs : IntsAt w w.heap.size A5 l sh) (b0 : 0 ≤ m0 ∧ m0 ≤ 255) (b1 : 0 ≤ m1 ∧ m1 ≤ 255) (b2 : 0 ≤ f0 ∧ f0 ≤ 255) (b3 : 0 ≤ f1 ∧ f1 ≤ 255) :
    Calls Try.prog 14 #[.slice A n c, .slice A2 K c2, .agg #[.int .u8 m0, .int .u8 m1], .agg #[.int .u8 f0, .int .u8 f1], .slice A5 l c5] w fun e w' => e = .returned (.bool true) ∧ Below w.heap.size w w' := by
  obtain ⟨i0, hi, hz0, hz1, hz2⟩ := info_parts infoI64
  obtain ⟨i1, hj, hy0, hy1, hy2⟩ := info_parts infoRow
  have hm1 := hx.small
  have hm2 := hy.2.1
  have hm5 := hs.small
  have Hlx := Lib.hid hx.len
  have Hlk := Lib.hid hy.1
  have Hls := Lib.hid hs.len
  obtain ⟨p0, rfl⟩ : ∃ o : Nat, m0 = (o : Int) := ⟨m0.toNat, by omega⟩
  obtain ⟨p1, rfl⟩ : ∃ o : Nat, m1 = (o : Int) := ⟨m1.toNat, by omega⟩
  obtain ⟨q0, rfl⟩ : ∃ o : Nat, f0 = (o : Int) := ⟨f0.toNat, by omega⟩
  obtain ⟨q1, rfl⟩ : ∃ o : Nat, f1 = (o : Int) := ⟨f1.toNat, by omega⟩
  go_enter Try.func14, Try.ntmps14
  go_wp2_with (fail)
  obtain ⟨W0, hW0⟩ : ∃ W, W = ((w.alloc (.cells #[.int .u8 (p0 : Int), .int .u8 (p1 : Int)] 69)).alloc (.cells #[.int .u8 (q0 : Int), .int .u8 (q1 : Int)] 69)) := ⟨_, rfl⟩
  have Bw0 : Below w.heap.size w W0 := by rw [hW0]; exact ((Below.refl _ w).alloc (Nat.le_refl _) _).alloc (by simp) _
  have X0 : Bx W0 w.heap.size p0 p1 q0 q1 := by
    obtain ⟨k1, k2, k3, k4⟩ := bx_new w (.int .u8 (p0 : Int)) (.int .u8 (p1 : Int)) (.int .u8 (q0 : Int)) (.int .u8 (q1 : Int)) 69
    rw [hW0]
    exact ⟨k1, k2, k3, k4, by simp⟩
  rw [← hW0]
  have X0 := Lib.hid X0
  clear hW0
  refine (strong_any W0 A A2 n c K c2 xs css ((hx.below Bw0 (Nat.le_refl _)).more Bw0.size) ((hy.below Bw0 (Nat.le_refl _)).more Bw0.size)).mono ?_
  rintro e w1 ⟨b, rfl, hA, hb⟩
  have Bw1 := Bw0.trans (hb.mono Bw0.size)
  have X0 := Lib.hid (X0.out.up hb)
  clear hb Bw0
  cases b with
  | false =>
    clear hA
    go_wp2_with (fail)
    refine (Works_any w1).mono ?_
    rintro e wl ⟨rfl, hb2⟩
    go_wp2_with (fail)
    exact bodyPost_ret (results_tmp rfl _ _ _) rfl ⟨rfl, Bw1.trans (hb2.mono Bw1.size)⟩
  | true =>
    have HA := Lib.hid (hA rfl)
    clear hA
    by_cases h12 : 12 < (l : Int)
    · go_wp2_with (fail)
      refine (great_any w1 A5 l c5).mono ?_
      rintro e w2 ⟨rfl, rfl⟩
      rw [decide_eq_true h12]
      clear h12
      go_wp2_with (fail)
      refine (Works_any w2).mono ?_
      rintro e wl ⟨rfl, hb2⟩
      go_wp2_with (fail)
      exact bodyPost_ret (results_tmp rfl _ _ _) rfl ⟨rfl, Bw1.trans (hb2.mono Bw1.size)⟩
    go_wp2_with (fail)
    refine (great_any w1 A5 l c5).mono ?_
    rintro e w2 ⟨rfl, rfl⟩
    rw [show decide ((12 : Int) < (l : Int)) = false from decide_eq_false (by omega)]
    have hl12 : l ≤ 12 := by omega
    have HC := Lib.hid (show curveF xs = 0 ∧ chainF css = 0 from ⟨(asked_fair HA.out).1, (asked_fair HA.out).2.1⟩)
    have hn6 : 1 ≤ n ∧ n ≤ 6 := by have := curve_nums HC.out.1; rw [Hlx.out] at this; exact ⟨this.1, this.2.1⟩
    have hK3 : 1 ≤ K ∧ K ≤ 3 := by have := chain_pos HC.out.2; rw [Hlk.out] at this; exact this
    obtain ⟨wv, hwv, hw1, hw2⟩ := wait_fits HA.out
    obtain ⟨L, hL, hL20⟩ := late_fits HA.out
    have Hwv := Lib.hid hwv
    have HL := Lib.hid hL
    have Bw2 := Bw1
    clear hwv hL Bw1 h12
    go_wp2_with (fail)
    refine (Wait_any w2 _ _ A A2 n c K c2 xs css (hx.below Bw2 (Nat.le_refl _)) Bw2.size (hy.below Bw2 (Nat.le_refl _)) Bw2.size).mono ?_
    rintro e w3 ⟨rfl, hb⟩
    rw [Hwv.out]
    have Bw3 := Bw2.trans (hb.mono Bw2.size)
    have X0 := Lib.hid (X0.out.up hb)
    clear hb Bw2
    go_wp2_with (fail)
    refine (Late_any w3 _ _ A A2 n c K c2 xs css (hx.below Bw3 (Nat.le_refl _)) Bw3.size (hy.below Bw3 (Nat.le_refl _)) Bw3.size).mono ?_
    rintro e w4 ⟨rfl, hb⟩
    rw [HL.out]
    have Bw4 := Bw3.trans (hb.mono Bw3.size)
    have X0 := Lib.hid (X0.out.up hb)
    clear hb Bw3
    -- up
    obtain ⟨bx, ox, rfl, hbx, -⟩ := hx.cell (k := 0) (by omega)
    have hr0 := World.ownsRow_made (base := w4.heap.size) (e := 2) (size := 1) w4 #[] 0 (Nat.le_refl _) (by simp [maxLen]) rfl
    have hba : Below w4.heap.size w4 (w4.alloc (.cells #[] 2)) := (Below.refl _ _).alloc (Nat.le_refl _) _
    have ix := Lib.hid (hx.below (Bw4.trans (hba.mono Bw4.size)) (Nat.le_refl _))
    obtain ⟨f, hf⟩ : ∃ f, f = q0 % n := ⟨_, rfl⟩
    have hfn : f < n := by rw [hf]; exact Nat.mod_lt _ (by omega)
    have uf1 : IntKind.i64.wrap (q0 : Int) = (q0 : Int) := by rw [IntKind.wrap_i64]; omega
    have uf2 : (q0 : Int).tmod (n : Int) = (f : Int) := by rw [hf]; exact (Int.ofNat_tmod q0 n).symm
    have uf3 : IntKind.i64.wrap (f : Int) = (f : Int) := by rw [IntKind.wrap_i64]; omega
    have hn0 : ¬ n = 0 := by omega
    clear hf
    go_wp2_with (at_builtin; refine wpList_append_own_at _ rfl _ _ 22 rfl w4.heap.size 2 i0 (.int .i64 0) 1 8 Try.underlying22 hi hz0 hz1 hz2 rfl (by decide) (.slice (some ⟨w4.heap.size, 0, none⟩) 0 0) 0 [] rfl hr0 ⟨bx, ox, none⟩ n c (xs.map (.int .i64)) rfl (by simp [Hlx.out]) (ints_cells ix.out) (by simp [Value.oneCell']) (by simp only [maxLen]; omega) (by omega) (by simp) ?_; intro v' wA hown hgrow _ hat; rw [Nat.zero_add, List.nil_append] at hown; obtain ⟨g15, c15, rfl, hc15⟩ := own_sm hown (by omega); have hbA := hba.trans ((Below.refl _ _).grown hgrow (by simp) (fun r e => (hr0.lt r e).1)); have XA := X0.out.up hbA; obtain ⟨-, -, k80, -, -⟩ := XA)
    have B4z := Bw4.size
    obtain ⟨a, ha⟩ : ∃ a, a = p0 % 9 := ⟨_, rfl⟩
    have ha9 : a < 9 := by omega
    have ua1 : IntKind.i64.wrap (p0 : Int) = (p0 : Int) := by rw [IntKind.wrap_i64]; omega
    have ua2 : (p0 : Int).tmod 9 = (a : Int) := by rw [ha]; exact (Int.ofNat_tmod p0 9).symm
    have ua3 : IntKind.i64.wrap (a : Int) = (a : Int) := by rw [IntKind.wrap_i64]; omega
    have hup0 := Lib.hid (upP_start xs (a : Int) f)
    clear ha k80
    go_loopg [16] (n - f) (fun g' v16 wr => ∃ i : Nat, (f ≤ i ∧ i ≤ n ∧ g' = n - i ∧ v16 = .int .i64 (i : Int)) ∧ wr.ownsRow w4.heap.size 2 1 (.slice (some ⟨g15, 0, none⟩) n c15) n ((upP xs (a : Int) f i).map (.int .i64)) ∧ Below w4.heap.size w4 wr)
    case atStart => exact ⟨f, ⟨Nat.le_refl _, by omega, by omega, rfl⟩, by rw [hup0.out]; exact hown, hbA⟩
    case round =>
      clear hown hbA hgrow hat
      obtain ⟨i, ⟨hfi, hin, rfl, rfl⟩, hrow, hb⟩ := hrel
      have hbz := hb.size
      by_cases hlt : i < n
      case pos =>
        have hwi : IntKind.i64.wrap ((i : Int) + 1) = (i : Int) + 1 := by rw [IntKind.wrap_i64]; omega
        have d1 := own_cell hrow hlt
        have fz := row_frozen hrow i
        rw [upP_get (by rw [Hlx.out]; exact hlt), if_neg (by omega)] at d1
        have k70 := (X0.out.up hb).a
        have hg15 := (hrow.lt g15 rfl)
        have hxb := (curve_nums HC.out.1).2.2.1 i (by rw [Hlx.out]; exact hlt)
        have hset := Lib.hid (upP_set (xs := xs) (a := (a : Int)) (f := f) (i := i) hfi (by rw [Hlx.out]; exact hlt))
        obtain ⟨x, hxe⟩ : ∃ x, x = xs[i]?.getD 0 := ⟨_, rfl⟩
        rw [← hxe] at d1 hxb hset
        have Hx := Lib.hid hxe
        obtain ⟨y, hye⟩ : ∃ y, y = x + (a : Int) := ⟨_, rfl⟩
        have uy : IntKind.i64.wrap (x + (a : Int)) = y := by rw [IntKind.wrap_i64]; omega
        have Hye := Lib.hid hye
        clear hxe hye
        go_wp2
        go_still_tail 12, (by kernel_rfl)
        change wpList _ _ _ _ _ wr.drew
        have hbS := Lib.hid (fun v => (hb.setCell (p := ⟨g15, i, none⟩) hg15.1 v).trans (below_drew _))
        have hrs := Lib.hid (fun v => World.ownsRow.drew (row_set hrow i v))
        clear hrow hb
        rcases (by omega : y < 100 ∨ y = 100 ∨ 100 < y) with h | h | h
        · have h1 : ¬ 100 < y := by omega
          have h2 : ¬ 100 ≤ y := by omega
          have h3 : y ≤ 100 := by omega
          go_wp2
          go_roundg (n - (i + 1))
          case measure => omega
          case rel => exact ⟨i + 1, ⟨by omega, by omega, rfl, by simp⟩, by rw [← hset.out, ← Hye.out, Int.min_eq_right h3, List.map_set]; exact hrs.out _, hbS.out _⟩
        · subst h
          go_wp2
          go_roundg (n - (i + 1))
          case measure => omega
          case rel => exact ⟨i + 1, ⟨by omega, by omega, rfl, by simp⟩, by rw [← hset.out, ← Hye.out, Int.min_self, List.map_set]; exact hrs.out _, hbS.out _⟩
        · have h1 : ¬ y < 100 := by omega
          have h2 : ¬ y ≤ 100 := by omega
          have h3 : 100 ≤ y := by omega
          go_wp2
          go_roundg (n - (i + 1))
          case measure => omega
          case rel => exact ⟨i + 1, ⟨by omega, by omega, rfl, by simp⟩, by rw [← hset.out, ← Hye.out, Int.min_eq_left h3, List.map_set]; exact hrs.out _, hbS.out _⟩
      case neg =>
        obtain rfl : i = n := by omega
        have i15 := OwnZ.ints hrow (by omega)
        have Bw5 := Bw4.trans (hb.mono B4z)
        have X0 := Lib.hid (X0.out.up hb)
        have I15 := Lib.hid i15
        obtain ⟨w5, rfl⟩ : ∃ w5, w5 = wr := ⟨_, rfl⟩
        clear hrow hb hlt hbz i15 B4z Bw4
        obtain ⟨n, rfl⟩ : ∃ n, n = i := ⟨_, rfl⟩
        have B5z := Bw5.size
        -- slow
        obtain ⟨b2, o2, csx, A6, m6, c6, rfl, hb2, hcs0, hcell0, hci0⟩ := (hy.below Bw5 (Nat.le_refl _)).at (j := 0) (by omega)
        rw [Nat.add_zero] at hcell0
        have Hcs0 := Lib.hid (show css[0]?.getD [] = csx by rw [hcs0]; rfl)
        have Hcc := Lib.hid (show curveF csx = 0 by have := chain_curves HC.out.2 (j := 0) (by rw [Hlk.out]; omega); rw [Hcs0.out] at this; exact this)
        have Hcl := Lib.hid hci0.1
        have hm6 : 1 ≤ m6 ∧ m6 ≤ 6 := by have := curve_nums Hcc.out; rw [Hcl.out] at this; exact ⟨this.1, this.2.1⟩
        obtain ⟨b6, o6, rfl, hb6, -⟩ := hci0.cell (k := 0) (by omega)
        have Hci := Lib.hid hci0
        have hr0 := World.ownsRow_made (base := w5.heap.size) (e := 22) (size := 1) w5 #[] 0 (Nat.le_refl _) (by simp [maxLen]) rfl
        have hba : Below w5.heap.size w5 (w5.alloc (.cells #[] 22)) := (Below.refl _ _).alloc (Nat.le_refl _) _
        obtain ⟨vs, hvl, hvc, hvo, hvi⟩ := rows_vals (hy.below (Bw5.trans (hba.mono Bw5.size)) (Nat.le_refl _))
        obtain ⟨A0, m0', c0', e0, -⟩ := hvi 0 (by omega)
        have Hvs := Lib.hid (And.intro hvl (And.intro hvc (And.intro hvo hvi)))
        have Hv0 := Lib.hid e0
        clear hcs0 hci0 hvl hvc hvo hvi e0
        go_wp2_with (at_builtin; (first | (refine wpList_append_own_at _ rfl _ _ 23 rfl w5.heap.size 22 i1 (.slice none 0 0) 1 24 Try.underlying23 hj hy0 hy1 hy2 rfl (by decide) (.slice (some ⟨w5.heap.size, 0, none⟩) 0 0) 0 [] rfl hr0 ⟨b2, o2, none⟩ K c2 vs rfl (by rw [Nat.mul_one]; exact Hvs.out.1) Hvs.out.2.1 Hvs.out.2.2.1 (by simp only [maxLen]; omega) (by omega) (by simp) ?_; intro v' wA hown hgrow _ hat; rw [Nat.zero_add, List.nil_append] at hown; obtain ⟨g17, c17, rfl, hc17⟩ := own_smT hown hK3.1; have hbA := hba.trans ((Below.refl _ _).grown hgrow (by simp) (fun r e => (hr0.lt r e).1)); have hsA := hbA.size; have hcA := (hbA.cell (p := ⟨b2, o2, none⟩) (show b2 < w5.heap.size by omega)).trans hcell0; have hr1 := World.ownsRow_made (base := wA.heap.size) (e := 2) (size := 1) wA #[] 0 (Nat.le_refl _) (by simp [maxLen]) rfl; have hbB : Below wA.heap.size wA (wA.alloc (.cells #[] 2)) := (Below.refl _ _).alloc (Nat.le_refl _) _; have ixB := Lib.hid ((Hci.out.below hbA (by omega)).below hbB (by omega)); have hb2A : b2 < wA.heap.size := by omega) | (refine wpList_append_own_at _ rfl _ _ 22 rfl wA.heap.size 2 i0 (.int .i64 0) 1 8 Try.underlying22 hi hz0 hz1 hz2 rfl (by decide) (.slice (some ⟨wA.heap.size, 0, none⟩) 0 0) 0 [] rfl hr1 ⟨b6, o6, none⟩ m6 c6 (csx.map (.int .i64)) rfl (by simp [Hcl.out]) (ints_cells ixB.out) (by simp [Value.oneCell']) (by simp only [maxLen]; omega) (by omega) (by simp) ?_; intro v2 wB hown2 hgrow2 _ hat2; rw [Nat.zero_add, List.nil_append] at hown2; obtain ⟨gi, ci, rfl, hci⟩ := own_sm hown2 hm6.1; have hg17 := hown.lt g17 rfl; have hgi := hown2.lt gi rfl; have hown3 := (hown.alloc (.cells #[] 2)).kept hgrow2 (.inr (by simp [Value.ownBlock]; omega)); have fz := row_frozen hown3 0; have k17 := hown3.cellAt 0 (by omega); rw [Hv0.out] at k17)))
        -- slow[0]
        have hbA2 : Below w5.heap.size w5 wA := hbA
        have hbX : Below w5.heap.size w5 wB := hbA.trans (((Below.refl _ _).alloc (Nat.le_refl _) _).trans ((Below.refl _ _).grown hgrow2 (by simp) (fun r e => (hr1.lt r e).1)) |>.mono hsA)
        have hbC : Below w5.heap.size w5 (wB.setCell ⟨g17, 0, none⟩ (.slice (some ⟨gi, 0, none⟩) m6 ci)) := hbX.setCell (p := ⟨g17, 0, none⟩) hg17.1 _
        have hownO := row_set hown3 0 (.slice (some ⟨gi, 0, none⟩) m6 ci)
        have hownI := hown2.kept (grown_set wB g17 0 (.slice (some ⟨gi, 0, none⟩) m6 ci)) (.inr (by simp [Value.ownBlock]; omega))
        have hgig : g17 < wA.heap.size := hg17.2
        have hgiA := hgi.1
        obtain ⟨wC, hwC⟩ : ∃ W, W = wB.setCell ⟨g17, 0, none⟩ (.slice (some ⟨gi, 0, none⟩) m6 ci) := ⟨_, rfl⟩
        rw [← hwC] at hbC hownO hownI
        have HOI := Lib.hid (And.intro hownO hownI)
        have HC' := Lib.hid (And.intro hbC (And.intro hg17.1 (And.intro hgig hgiA)))
        clear hbX hbA2 hbA hba hcA hown hown2 hown3 hgrow hgrow2 hgi hg17 hr0 hr1 hbB ixB fz k17 hat hat2 hsA hbC hownO hownI hgig hgiA hcell0 hb2A
        obtain ⟨b, hb'⟩ : ∃ a, a = p1 % 9 := ⟨_, rfl⟩
        obtain ⟨s, hse⟩ : ∃ s, s = q1 % m6 := ⟨_, rfl⟩
        have hsm : s < m6 := by rw [hse]; exact Nat.mod_lt _ (by omega)
        have hb9 : b < 9 := by omega
        have us1 : IntKind.i64.wrap (q1 : Int) = (q1 : Int) := by rw [IntKind.wrap_i64]; omega
        have us2 : (q1 : Int).tmod (m6 : Int) = (s : Int) := by rw [hse]; exact (Int.ofNat_tmod q1 m6).symm
        have us3 : IntKind.i64.wrap (s : Int) = (s : Int) := by rw [IntKind.wrap_i64]; omega
        have ub1 : IntKind.i64.wrap (p1 : Int) = (p1 : Int) := by rw [IntKind.wrap_i64]; omega
        have ub2 : (p1 : Int).tmod 9 = (b : Int) := by rw [hb']; exact (Int.ofNat_tmod p1 9).symm
        have ub3 : IntKind.i64.wrap (b : Int) = (b : Int) := by rw [IntKind.wrap_i64]; omega
        have hm60 : ¬ m6 = 0 := by omega
        have hlo0 := Lib.hid (loP_start csx (b : Int))
        clear hb' hse
        rw [← hwC]
        clear hwC
        go_wp2
        go_loopg [18] (s + 1) (fun g' v18 wr => ∃ i : Nat, (i ≤ s + 1 ∧ g' = s + 1 - i ∧ v18 = .int .i64 (i : Int)) ∧ (wr.ownsRow wA.heap.size 2 1 (.slice (some ⟨gi, 0, none⟩) m6 ci) m6 ((loP csx (b : Int) i).map (.int .i64)) ∧ wr.ownsRow w5.heap.size 22 1 (.slice (some ⟨g17, 0, none⟩) K c17) K (vs.set 0 (.slice (some ⟨gi, 0, none⟩) m6 ci))) ∧ Below w5.heap.size w5 wr)
        case atStart => exact ⟨0, ⟨by omega, rfl, rfl⟩, ⟨by rw [hlo0.out]; exact HOI.out.2, HOI.out.1⟩, HC'.out.1⟩
        case round =>
          obtain ⟨i, ⟨his, rfl, rfl⟩, ⟨hinn, hout⟩, hb⟩ := hrel
          obtain ⟨-, hg1, hg2, hg3⟩ := HC'.out
          have k17 := hout.cellAt 0 (by omega)
          rw [List.getElem?_set_self (by rw [Hvs.out.1]; omega)] at k17
          have k80 := (X0.out.up hb).d
          have hgio := (hinn.lt gi rfl).2
          have hg17o := (hout.lt g17 rfl).2
          have hwi : IntKind.i64.wrap ((i : Int) + 1) = (i : Int) + 1 := by rw [IntKind.wrap_i64]; omega
          by_cases hlt : (i : Int) ≤ (s : Int)
          case pos =>
            go_wp2
            go_quiet (fail)
            go_wp2
            have hinn' := own_drew (q := nq) hinn rfl
            have hout' := own_belowT hout (below_drewN (D := wr.heap.size) wr nq) (Nat.le_refl _)
            have hb' : Below w5.heap.size w5 (wr.drewN nq) := hb.trans (below_drewN _ _)
            have k17' : (wr.drewN nq).cell? ⟨g17, 0, none⟩ = some (.slice (some ⟨gi, 0, none⟩) m6 ci) := k17
            clear hinn hout hb k17 k80
            generalize wr.drewN nq = wq at hinn' hout' hb' k17' ⊢
            have him : i < m6 := by omega
            have d1 := own_cell hinn' him
            have fz := row_frozen hinn' i
            rw [loP_get (by rw [Hcl.out]; exact him), if_neg (Nat.lt_irrefl i)] at d1
            have k71 := (X0.out.up hb').b
            have hgio := (hinn'.lt gi rfl).2
            have hxb := (curve_nums Hcc.out).2.2.1 i (by rw [Hcl.out]; exact him)
            have hset := Lib.hid (loP_set (xs := csx) (a := (b : Int)) (i := i) (by rw [Hcl.out]; exact him))
            obtain ⟨x, hxe⟩ : ∃ x, x = csx[i]?.getD 0 := ⟨_, rfl⟩
            rw [← hxe] at d1 hxb hset
            obtain ⟨y, hye⟩ : ∃ y, y = x - (b : Int) := ⟨_, rfl⟩
            have uy : IntKind.i64.wrap (x - (b : Int)) = y := by rw [IntKind.wrap_i64]; omega
            have Hye := Lib.hid hye
            clear hxe hye
            have hbS := Lib.hid (fun v => (hb'.setCell (p := ⟨gi, i, none⟩) (show w5.heap.size ≤ gi by omega) v).trans (below_drew _))
            have hrs := Lib.hid (fun v => World.ownsRow.drew (row_set hinn' i v))
            have hos := Lib.hid (fun v => own_belowT (hout'.kept (grown_set wq gi i v) (.inr (by simp [Value.ownBlock]; omega))) (below_drew (D := (wq.setCell ⟨gi, i, none⟩ v).heap.size) _) (Nat.le_refl _))
            clear hinn' hout' hb'
            go_still_tail 16, (by kernel_rfl)
            change wpList _ _ _ _ _ wq.drew
            rcases (by omega : 0 < y ∨ y = 0 ∨ y < 0) with h | h | h
            · have h1 : ¬ y < 0 := by omega
              have h2 : ¬ y ≤ 0 := by omega
              have h3 : 0 ≤ y := by omega
              go_wp2
              go_roundg (s + 1 - (i + 1))
              case measure => omega
              case rel => exact ⟨i + 1, ⟨by omega, rfl, by simp⟩, ⟨by rw [← hset.out, ← Hye.out, Int.max_eq_right h3, List.map_set]; exact hrs.out _, hos.out _⟩, hbS.out _⟩
            · subst h
              go_wp2
              go_roundg (s + 1 - (i + 1))
              case measure => omega
              case rel => exact ⟨i + 1, ⟨by omega, rfl, by simp⟩, ⟨by rw [← hset.out, ← Hye.out, Int.max_self, List.map_set]; exact hrs.out _, hos.out _⟩, hbS.out _⟩
            · have h1 : ¬ 0 < y := by omega
              have h2 : ¬ 0 ≤ y := by omega
              have h3 : y ≤ 0 := by omega
              go_wp2
              go_roundg (s + 1 - (i + 1))
              case measure => omega
              case rel => exact ⟨i + 1, ⟨by omega, rfl, by simp⟩, ⟨by rw [← hset.out, ← Hye.out, Int.max_eq_left h3, List.map_set]; exact hrs.out _, hos.out _⟩, hbS.out _⟩
          case neg =>
            have hse := Lib.hid (show i = s + 1 by omega)
            go_wp2
            go_quiet (fail)
            have hinn := own_drew (q := nq) hinn rfl
            have hout := own_belowT hout (below_drewN (D := wr.heap.size) wr nq) (Nat.le_refl _)
            have hb : Below w5.heap.size w5 (wr.drewN nq) := hb.trans (below_drewN _ _)
            clear k17 k80 hgio hg17o
            generalize wr.drewN nq = w6 at hinn hout hb ⊢
            have hk0 : ∀ p : Addr, p.block < w.heap.size → w6.cell? p = (w5.alloc (.cells #[] 22)).cell? p := fun p hp => (hb.cell (by omega)).trans (World.cell?_alloc_lt w5 _ p (by omega)).symm
            have hrows := (vals_in (W := w6) (k := some g17) Hvs.out.1 Hlk.out Hvs.out.2.2.2 hk0 (by have := hb.size; omega) (fun g e => by cases e; omega)).set (row_in (k := some g17) hinn (by omega) (fun g e => by cases e; exact hg2)) 0
            obtain ⟨A8, c8, e8, hc8, r8⟩ := rows_own hout hrows (by omega)
            cases e8
            have Bw6 := Bw5.trans (hb.mono B5z)
            have I15 := Lib.hid (ints_up I15.out hb)
            have R17 := Lib.hid r8
            have B6z := Bw6.size
            clear hinn hout hb hk0 hrows r8 his hg1 hg2 hg3 hwi X0
            -- wide
            have hr0 := World.ownsRow_made (base := w6.heap.size) (e := 22) (size := 1) w6 #[] 0 (Nat.le_refl _) (by simp [maxLen]) rfl
            have hba : Below w6.heap.size w6 (w6.alloc (.cells #[] 22)) := (Below.refl _ _).alloc (Nat.le_refl _) _
            obtain ⟨vs2, hvl, hvc, hvo, hvi⟩ := rows_vals (hy.below (Bw6.trans (hba.mono B6z)) (Nat.le_refl _))
            have Hvs2 := Lib.hid (And.intro hvl (And.intro hvc (And.intro hvo hvi)))
            clear hvl hvc hvo hvi
            go_wp2_with (at_builtin; (first | (refine wpList_append_own_at _ rfl _ _ 23 rfl w6.heap.size 22 i1 (.slice none 0 0) 1 24 Try.underlying23 hj hy0 hy1 hy2 rfl (by decide) (.slice (some ⟨w6.heap.size, 0, none⟩) 0 0) 0 [] rfl hr0 ⟨b2, o2, none⟩ K c2 vs2 rfl (by rw [Nat.mul_one]; exact Hvs2.out.1) Hvs2.out.2.1 Hvs2.out.2.2.1 (by simp only [maxLen]; omega) (by omega) (by simp) ?_; intro v' wD hown hgrow _ hat; rw [Nat.zero_add, List.nil_append] at hown; have hbD := hba.trans ((Below.refl _ _).grown hgrow (by simp) (fun r e => (hr0.lt r e).1)); have hsD := hbD.size) | (refine wpList_append_own_at _ rfl _ _ 23 rfl w6.heap.size 22 i1 (.slice none 0 0) 1 24 Try.underlying23 hj hy0 hy1 hy2 rfl (by decide) _ _ _ rfl (hown.alloc _) ⟨wD.heap.size, 0, none⟩ 1 1 [.slice A5 l c5] rfl rfl (cell_one_new _ _ _) (by simp [Value.oneCell']) (by simp only [maxLen]; omega) (by omega) (by simp; omega) ?_; intro v3 wE hown2 hgrow2 _ hat2; obtain ⟨g20, c20, e20, hc20⟩ := own_smT hown2 (by omega); subst e20)))
            have hk0 : ∀ p : Addr, p.block < w.heap.size → wD.cell? p = (w6.alloc (.cells #[] 22)).cell? p := fun p hp => (hbD.cell (by omega)).trans (World.cell?_alloc_lt w6 _ p (by omega)).symm
            have hBD := Bw6.trans (hbD.mono B6z)
            have hrow1 := vals_in (W := wD) (k := v'.ownBlock) Hvs2.out.1 Hlk.out Hvs2.out.2.2.2 hk0 (by omega) (fun g e => by have := (hown.lt g e).1; omega)
            have hsr := ints_in (W := wD) (c := c5) (k := v'.ownBlock) (hs.below hBD (Nat.le_refl _)) (by omega) (fun g e => by have := (hown.lt g e).1; omega)
            have hrow2 := (hrow1.alloc (.cells #[.slice A5 l c5] 22)).push (hsr.alloc _) hgrow2 hat2
            obtain ⟨A9, c9, e9, hc9, r9⟩ := rows_own hown2 hrow2 (by omega)
            cases e9
            have hbE : Below w6.heap.size w6 wE := (hbD.alloc hsD _).trans ((Below.refl _ _).grown hgrow2 (by simp; omega) (fun r e => (hown.lt r e).1))
            obtain ⟨W7, hW7⟩ : ∃ W, W = ((wE.alloc (.cells #[.slice (some ⟨g15, 0, none⟩) n c15, .slice (some ⟨bx, ox, none⟩) n c, .slice (some ⟨bx, ox, none⟩) n c] 22)).alloc (.cells #[.slice (some ⟨b2, o2, none⟩) K c2, .slice (some ⟨g17, 0, none⟩) K c17, .slice (some ⟨g20, 0, none⟩) (K + 1) c20] 23)) := ⟨_, rfl⟩
            have hE7 : Below wE.heap.size wE W7 := by rw [hW7]; exact ((Below.refl _ _).alloc (Nat.le_refl _) _).alloc (by simp) _
            have BwE := Bw6.trans (hbE.mono B6z)
            have Bw7 := BwE.trans (hE7.mono BwE.size)
            have i15 := ints_up (ints_up I15.out hbE) hE7
            have r17 := rows_up (rows_up R17.out hbE) hE7
            have r20 := rows_up r9 hE7
            have ix7 := (hx.below Bw7 (Nat.le_refl _)).more Bw7.size
            have iy7 := (hy.below Bw7 (Nat.le_refl _)).more Bw7.size
            have q0 := ask_up (a := (a : Int)) (f := f) (i := n) (by omega) HA.out Hwv.out HL.out
            have q1 := ask_slow (a := (b : Int)) (i := i) (by omega) HA.out Hwv.out HL.out
            rw [Hcs0.out] at q1
            have q2 := ask_wide sh HA.out Hwv.out HL.out
            have tn := fun i => trio_new wE 22 23 (.slice (some ⟨g15, 0, none⟩) n c15) (.slice (some ⟨bx, ox, none⟩) n c) (.slice (some ⟨bx, ox, none⟩) n c) (.slice (some ⟨b2, o2, none⟩) K c2) (.slice (some ⟨g17, 0, none⟩) K c17) (.slice (some ⟨g20, 0, none⟩) (K + 1) c20) i
            rw [← hW7] at tn
            have TR := Lib.hid (show Trio W7 wE.heap.size wv (L : Int) from ⟨by rw [hW7]; simp, fun i hi => by
              rcases (by omega : i = 0 ∨ i = 1 ∨ i = 2) with rfl | rfl | rfl
              · exact ⟨_, _, _, _, _, _, _, _, (tn 0).1, i15, (tn 0).2, iy7, q0⟩
              · exact ⟨_, _, _, _, _, _, _, _, (tn 1).1, ix7, (tn 1).2, r17, q1⟩
              · exact ⟨_, _, _, _, _, _, _, _, (tn 2).1, ix7, (tn 2).2, r20, q2⟩⟩)
            rw [← hW7]
            obtain ⟨N, hN⟩ : ∃ N, N = wE.heap.size := ⟨_, rfl⟩
            rw [← hN] at TR ⊢
            have B7z := Bw7.size
            clear tn q0 q1 q2 i15 r17 r20 ix7 iy7 hE7 hW7 hN hbE BwE hk0 hBD hrow1 hrow2 hsr hown hown2 hgrow hgrow2 hat hat2 hbD hsD r9 hr0 hba
            clear I15 R17 Hvs Hvs2 HOI HC' Hv0 ix
            go_loopg [22] 3 (fun g' v22 wr => ∃ i : Nat, (i ≤ 3 ∧ g' = 3 - i ∧ v22 = .int .i64 (i : Int)) ∧ Hid (Trio wr N wv (L : Int)) ∧ Below W7.heap.size W7 wr)
            case atStart => exact ⟨0, ⟨by omega, rfl, rfl⟩, TR, Below.refl _ _⟩
            case round =>
              clear TR
              obtain ⟨i, ⟨hi3, rfl, rfl⟩, TR, hb⟩ := hrel
              obtain ⟨v1, rfl⟩ : ∃ v1, v1 = wr := ⟨_, rfl⟩
              have hbz := hb.size
              by_cases hlt : i < 3
              case neg =>
                have hlt' : ¬ (i : Int) < 3 := by omega
                have Bv1 := Bw7.trans (hb.mono B7z)
                clear hlt TR hb
                go_wp2_with (fail)
                refine (Works_any v1).mono ?_
                rintro e wl ⟨rfl, hb2⟩
                go_wp2_with (fail)
                exact bodyPost_ret (results_tmp rfl _ _ _) rfl ⟨rfl, Bv1.trans (hb2.mono Bv1.size)⟩
              case pos =>
                have hlt' : (i : Int) < 3 := by omega
                have hwi : IntKind.i64.wrap ((i : Int) + 1) = (i : Int) + 1 := by rw [IntKind.wrap_i64]; omega
                obtain ⟨A1, n1, c1, cs1, A3, K3, c3, css3, h1, h2, h3, h4, h5⟩ := TR.out.2 i hlt
                have hNl := TR.out.1
                have F := Lib.hid (And.intro h2 (And.intro h4 h5))
                have k1 := Lib.hid h1
                have k3 := Lib.hid h3
                clear h2 h4 h5
                go_wp2_with (fail)
                refine (rCheckCurve_any v1 _ A1 n1 c1 cs1 F.out.1).mono ?_
                rintro e v2 ⟨rfl, q, hq⟩
                have hb2 : Below v1.heap.size v1 v2 := by rw [hq]; exact below_drewN _ _
                have hbn := hb.trans (hb2.mono hbz)
                have TR2 := Lib.hid (TR.out.up hb2)
                have F2 := Lib.hid (And.intro (ints_up F.out.1 hb2) (rows_up F.out.2.1 hb2))
                have h1' := (hb2.cell (p := ⟨N, i, none⟩) (show N < v1.heap.size by omega)).trans h1
                have h3' := (hb2.cell (p := ⟨N + 1, i, none⟩) (show N + 1 < v1.heap.size by omega)).trans h3
                have hNl2 := TR2.out.1
                clear hq h1 h3
                obtain ⟨r, hr⟩ : ∃ r, r = curveF cs1 := ⟨_, rfl⟩
                rw [← hr]
                by_cases h0 : r = 0
                case neg =>
                  have hne : (r != 0) = true := by rw [bne_iff_ne]; exact h0
                  clear hr h0 h1' h3' hb2
                  go_wp2_with (fail)
                  go_roundg (3 - (i + 1))
                  case measure => omega
                  case rel => exact ⟨i + 1, ⟨by omega, rfl, by simp⟩, TR2, hbn⟩
                case pos =>
                  subst h0
                  have Hr1 := Lib.hid hr.symm
                  clear hr
                  go_wp2_with (fail)
                  refine (rCheckChain_any v2 _ A3 K3 c3 css3 F2.out.2).mono ?_
                  rintro e v3 ⟨rfl, q, hq⟩
                  have hb3 : Below v2.heap.size v2 v3 := by rw [hq]; exact below_drewN _ _
                  have hbn3 := hbn.trans (hb3.mono hbn.size)
                  have TR3 := Lib.hid (TR2.out.up hb3)
                  have F3 := Lib.hid (And.intro (ints_up F2.out.1 hb3) (rows_up F2.out.2 hb3))
                  have h1 := (hb3.cell (p := ⟨N, i, none⟩) (show N < v2.heap.size by omega)).trans h1'
                  have h3 := (hb3.cell (p := ⟨N + 1, i, none⟩) (show N + 1 < v2.heap.size by omega)).trans h3'
                  have hNl3 := TR3.out.1
                  clear hq h1' h3' hb2 hb3 hbn
                  obtain ⟨r, hr⟩ : ∃ r, r = chainF css3 := ⟨_, rfl⟩
                  rw [← hr]
                  by_cases h0 : r = 0
                  case neg =>
                    have hne : (r != 0) = true := by rw [bne_iff_ne]; exact h0
                    clear hr h0 h1 h3
                    go_wp2_with (fail)
                    go_roundg (3 - (i + 1))
                    case measure => omega
                    case rel => exact ⟨i + 1, ⟨by omega, rfl, by simp⟩, TR3, hbn3⟩
                  case pos =>
                    subst h0
                    have Hr2 := Lib.hid hr.symm
                    clear hr
                    go_wp2_with (fail)
                    obtain ⟨he1, he2⟩ := F.out.2.2 Hr1.out Hr2.out
                    obtain ⟨V, hV⟩ : ∃ V, V = waitV cs1 css3 := ⟨_, rfl⟩
                    obtain ⟨Q, hQ⟩ : ∃ V, V = lateV cs1 css3 := ⟨_, rfl⟩
                    rw [← hV, ← hQ] at he1
                    rw [← hV, ← hQ] at he2
                    obtain ⟨vv, ve⟩ := V
                    obtain ⟨qv, qe⟩ := Q
                    have HV := Lib.hid hV.symm
                    have HQ := Lib.hid hQ.symm
                    simp only [] at he1 he2
                    subst he1
                    clear hV hQ
                    refine region_held_wp 1 (fun W' => ∃ q, W' = v3.drewN q) (fun i => [3, 7].contains i) (by kernel_rfl) ?_
                    intro KR hKR
                    have hS : ∃ q, v3.drew = v3.drewN q := ⟨1, rfl⟩
                    refine wpAnyHI_takeW (i := 0) (v := ?v0) (some 154) rfl rfl (by kernel_rfl) (by kernel_rfl) (by kernel_rfl) (by kernel_rfl) (fun _ _ _ h => h) (.inl ⟨by kernel_rfl, fun W' hS' => ?y0⟩) ?z0
                    case y0 => go_simp; try exact rfl
                    refine wpAnyHI_takeW (i := 1) (v := ?v1) (some 155) rfl rfl (by kernel_rfl) (by kernel_rfl) (by kernel_rfl) (by kernel_rfl) (fun _ _ _ h => h) (.inl ⟨by kernel_rfl, fun W' hS' => ?y1⟩) ?z1
                    case y1 => go_simp; try exact rfl
                    refine wpAnyHI_takeW (i := 2) (v := ?v2) (some 156) rfl rfl (by kernel_rfl) (by kernel_rfl) (by kernel_rfl) (by kernel_rfl) (fun _ _ _ h => h) (.inl ⟨by kernel_rfl, fun W' hS' => ?y2⟩) ?z2
                    case y2 => go_simp; try exact rfl
                    refine wpAnyHI_takeW (i := 4) (v := ?v4) (some 158) rfl rfl (by kernel_rfl) (by kernel_rfl) (by kernel_rfl) (by kernel_rfl) (fun _ _ _ h => h) (.inl ⟨by kernel_rfl, fun W' hS' => ?y4⟩) ?z4
                    case y4 => go_simp; try exact rfl
                    refine wpAnyHI_takeW (i := 5) (v := ?v5) (some 159) rfl rfl (by kernel_rfl) (by kernel_rfl) (by kernel_rfl) (by kernel_rfl) (fun _ _ _ h => h) (.inl ⟨by kernel_rfl, fun W' hS' => ?y5⟩) ?z5
                    case y5 => go_simp; try exact rfl
                    refine wpAnyHI_takeW (i := 6) (v := ?v6) (some 160) rfl rfl (by kernel_rfl) (by kernel_rfl) (by kernel_rfl) (by kernel_rfl) (fun _ _ _ h => h) (.inl ⟨by kernel_rfl, fun W' hS' => ?y6⟩) ?z6
                    case y6 => go_simp; try exact rfl
                    refine wpAnyHI_takeE (i := 3) (v := ?v3) (some 157) rfl rfl (by kernel_rfl) (by kernel_rfl) (by kernel_rfl) (by kernel_rfl) (by kernel_rfl) (fun _ _ _ h => h) hS (.inl ⟨by kernel_rfl, fun W' hS' => ?y3⟩) ?z3
                    case y3 => obtain ⟨_, rfl⟩ := hS'; go_simp; try exact rfl
                    refine wpAnyHI_takeE (i := 7) (v := ?v7) (some 161) rfl rfl (by kernel_rfl) (by kernel_rfl) (by kernel_rfl) (by kernel_rfl) (by kernel_rfl) (fun _ _ _ h => h) hS (.inl ⟨by kernel_rfl, fun W' hS' => ?y7⟩) ?z7
                    case y7 => obtain ⟨_, rfl⟩ := hS'; go_simp; try exact rfl
                    have hbd : Below v3.heap.size v3 v3.drew := below_drew _
                    have F' := Lib.hid (And.intro (ints_up F3.out.1 hbd) (rows_up F3.out.2 hbd))
                    have TRd := Lib.hid (TR3.out.up hbd)
                    have hbnd := hbn3.trans (hbd.mono hbn3.size)
                    have h1d := (hbd.cell (p := ⟨N, i, none⟩) (show N < v3.heap.size by omega)).trans h1
                    have h3d := (hbd.cell (p := ⟨N + 1, i, none⟩) (show N + 1 < v3.heap.size by omega)).trans h3
                    have hNd := TRd.out.1
                    clear hS h1 h3 hbd
                    generalize v3.drew = wd at F' TRd hbnd h1d h3d hNd ⊢
                    refine wpAnyHI_one (i := 8) rfl (by kernel_rfl) ?_
                    intro K1 hK1
                    go_simp
                    refine ⟨trivial, (callsIn_wide.2 (Wait_any wd _ _ A1 A3 n1 c1 K3 c3 cs1 css3 F'.out.1 (Nat.le_refl _) F'.out.2 (Nat.le_refl _))).mono ?_⟩
                    rintro e v4 ⟨rfl, hb2⟩
                    rw [HV.out]
                    have TR4 := Lib.hid (TRd.out.up hb2)
                    have F4 := Lib.hid (And.intro (ints_up F'.out.1 hb2) (rows_up F'.out.2 hb2))
                    have h1 := (hb2.cell (p := ⟨N, i, none⟩) (show N < wd.heap.size by omega)).trans h1d
                    have h3 := (hb2.cell (p := ⟨N + 1, i, none⟩) (show N + 1 < wd.heap.size by omega)).trans h3d
                    have hNl4 := TR4.out.1
                    have hbn4 := hbnd.trans (hb2.mono hbnd.size)
                    refine hK1 _ _ ⟨fun h => (by cases h), ?_⟩
                    clear hK1 K1 hb2 TRd F' hbnd h1d h3d hNd
                    refine wpAnyHI_takeW (i := 9) (v := ?v9) (some 153) rfl rfl (by kernel_rfl) (by kernel_rfl) (by kernel_rfl) (by kernel_rfl) (fun _ _ _ h => h) (.inl ⟨by kernel_rfl, fun W' hS' => ?y9⟩) ?z9
                    case y9 => go_simp; try exact rfl
                    refine wpAnyHI_takeW (i := 10) (v := ?v10) (some 163) rfl rfl (by kernel_rfl) (by kernel_rfl) (by kernel_rfl) (by kernel_rfl) (fun _ _ _ h => h) (.inl ⟨by kernel_rfl, fun W' hS' => ?y10⟩) ?z10
                    case y10 => go_simp; try exact rfl
                    refine wpAnyHI_takeW (i := 11) (v := ?v11) (some 164) rfl rfl (by kernel_rfl) (by kernel_rfl) (by kernel_rfl) (by kernel_rfl) (fun _ _ _ h => h) (.inl ⟨by kernel_rfl, fun W' hS' => ?y11⟩) ?z11
                    case y11 => go_simp; try exact rfl
                    refine wpAnyHI_tail (k := 12) rfl rfl (by kernel_rfl) (by kernel_rfl) ?_
                    simp only [List.drop_succ_cons, List.drop_zero]
                    gi_wp2_with (fail)
                    go_wp2_with (fail)
                    refine region_held_wp 1 (fun W' => ∃ q, W' = v4.drewN q) (fun i => [3, 7].contains i) (by kernel_rfl) ?_
                    intro KR hKR
                    have hS : ∃ q, v4.drew = v4.drewN q := ⟨1, rfl⟩
                    refine wpAnyHI_takeW (i := 0) (v := ?v0b) (some 166) rfl rfl (by kernel_rfl) (by kernel_rfl) (by kernel_rfl) (by kernel_rfl) (fun _ _ _ h => h) (.inl ⟨by kernel_rfl, fun W' hS' => ?y0b⟩) ?z0b
                    case y0b => go_simp; try exact rfl
                    refine wpAnyHI_takeW (i := 1) (v := ?v1b) (some 167) rfl rfl (by kernel_rfl) (by kernel_rfl) (by kernel_rfl) (by kernel_rfl) (fun _ _ _ h => h) (.inl ⟨by kernel_rfl, fun W' hS' => ?y1b⟩) ?z1b
                    case y1b => go_simp; try exact rfl
                    refine wpAnyHI_takeW (i := 2) (v := ?v2b) (some 168) rfl rfl (by kernel_rfl) (by kernel_rfl) (by kernel_rfl) (by kernel_rfl) (fun _ _ _ h => h) (.inl ⟨by kernel_rfl, fun W' hS' => ?y2b⟩) ?z2b
                    case y2b => go_simp; try exact rfl
                    refine wpAnyHI_takeW (i := 4) (v := ?v4b) (some 170) rfl rfl (by kernel_rfl) (by kernel_rfl) (by kernel_rfl) (by kernel_rfl) (fun _ _ _ h => h) (.inl ⟨by kernel_rfl, fun W' hS' => ?y4b⟩) ?z4b
                    case y4b => go_simp; try exact rfl
                    refine wpAnyHI_takeW (i := 5) (v := ?v5b) (some 171) rfl rfl (by kernel_rfl) (by kernel_rfl) (by kernel_rfl) (by kernel_rfl) (fun _ _ _ h => h) (.inl ⟨by kernel_rfl, fun W' hS' => ?y5b⟩) ?z5b
                    case y5b => go_simp; try exact rfl
                    refine wpAnyHI_takeW (i := 6) (v := ?v6b) (some 172) rfl rfl (by kernel_rfl) (by kernel_rfl) (by kernel_rfl) (by kernel_rfl) (fun _ _ _ h => h) (.inl ⟨by kernel_rfl, fun W' hS' => ?y6b⟩) ?z6b
                    case y6b => go_simp; try exact rfl
                    refine wpAnyHI_takeE (i := 3) (v := ?v3b) (some 169) rfl rfl (by kernel_rfl) (by kernel_rfl) (by kernel_rfl) (by kernel_rfl) (by kernel_rfl) (fun _ _ _ h => h) hS (.inl ⟨by kernel_rfl, fun W' hS' => ?y3b⟩) ?z3b
                    case y3b => obtain ⟨_, rfl⟩ := hS'; go_simp; try exact rfl
                    refine wpAnyHI_takeE (i := 7) (v := ?v7b) (some 173) rfl rfl (by kernel_rfl) (by kernel_rfl) (by kernel_rfl) (by kernel_rfl) (by kernel_rfl) (fun _ _ _ h => h) hS (.inl ⟨by kernel_rfl, fun W' hS' => ?y7b⟩) ?z7b
                    case y7b => obtain ⟨_, rfl⟩ := hS'; go_simp; try exact rfl
                    have hbd : Below v4.heap.size v4 v4.drew := below_drew _
                    have F' := Lib.hid (And.intro (ints_up F4.out.1 hbd) (rows_up F4.out.2 hbd))
                    have TRd := Lib.hid (TR4.out.up hbd)
                    have hbnd := hbn4.trans (hbd.mono hbn4.size)
                    have h1d := (hbd.cell (p := ⟨N, i, none⟩) (show N < v4.heap.size by omega)).trans h1
                    have h3d := (hbd.cell (p := ⟨N + 1, i, none⟩) (show N + 1 < v4.heap.size by omega)).trans h3
                    have hNd := TRd.out.1
                    clear hS h1 h3 hbd
                    generalize v4.drew = wd at F' TRd hbnd h1d h3d hNd ⊢
                    refine wpAnyHI_one (i := 8) rfl (by kernel_rfl) ?_
                    intro K1 hK1
                    go_simp
                    refine ⟨trivial, (callsIn_wide.2 (Late_any wd _ _ A1 A3 n1 c1 K3 c3 cs1 css3 F'.out.1 (Nat.le_refl _) F'.out.2 (Nat.le_refl _))).mono ?_⟩
                    rintro e v5 ⟨rfl, hb2⟩
                    rw [HQ.out]
                    have TR4 := Lib.hid (TRd.out.up hb2)
                    have F4 := Lib.hid (And.intro (ints_up F'.out.1 hb2) (rows_up F'.out.2 hb2))
                    have h1 := (hb2.cell (p := ⟨N, i, none⟩) (show N < wd.heap.size by omega)).trans h1d
                    have h3 := (hb2.cell (p := ⟨N + 1, i, none⟩) (show N + 1 < wd.heap.size by omega)).trans h3d
                    have hNl4 := TR4.out.1
                    have hbn4 := hbnd.trans (hb2.mono hbnd.size)
                    refine hK1 _ _ ⟨fun h => (by cases h), ?_⟩
                    clear hK1 K1 hb2 TRd F' hbnd h1d h3d hNd
                    refine wpAnyHI_takeW (i := 9) (v := ?v9b) (some 165) rfl rfl (by kernel_rfl) (by kernel_rfl) (by kernel_rfl) (by kernel_rfl) (fun _ _ _ h => h) (.inl ⟨by kernel_rfl, fun W' hS' => ?y9b⟩) ?z9b
                    case y9b => go_simp; try exact rfl
                    refine wpAnyHI_takeW (i := 10) (v := ?v10b) (some 175) rfl rfl (by kernel_rfl) (by kernel_rfl) (by kernel_rfl) (by kernel_rfl) (fun _ _ _ h => h) (.inl ⟨by kernel_rfl, fun W' hS' => ?y10b⟩) ?z10b
                    case y10b => go_simp; try exact rfl
                    refine wpAnyHI_takeW (i := 11) (v := ?v11b) (some 176) rfl rfl (by kernel_rfl) (by kernel_rfl) (by kernel_rfl) (by kernel_rfl) (fun _ _ _ h => h) (.inl ⟨by kernel_rfl, fun W' hS' => ?y11b⟩) ?z11b
                    case y11b => go_simp; try exact rfl
                    refine wpAnyHI_tail (k := 12) rfl rfl (by kernel_rfl) (by kernel_rfl) ?_
                    simp only [List.drop_succ_cons, List.drop_zero]
                    gi_wp2_with (fail)
                    clear h1 h3
                    rcases he2 with ⟨rfl, hle1, hle2⟩ | rfl
                    · have z1 : ¬ vv < wv := by omega
                      have z2 : ¬ qv < (L : Int) := by omega
                      go_wp2
                      go_roundg (3 - (i + 1))
                      case measure => omega
                      case rel => exact ⟨i + 1, ⟨by omega, rfl, by simp⟩, TR4, hbn4⟩
                    · go_wp2
                      go_roundg (3 - (i + 1))
                      case measure => omega
                      case rel => exact ⟨i + 1, ⟨by omega, rfl, by simp⟩, TR4, hbn4⟩
end Go.Proofs.Ytlgibckhkdggdaa
