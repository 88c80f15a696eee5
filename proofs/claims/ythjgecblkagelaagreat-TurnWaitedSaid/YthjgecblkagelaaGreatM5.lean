/- Parts of a proof: Q. -/
import Derived.Test.YthjgecblkagelaaGreatM4

/- slices.Backward over ints, following, unpulled. -/
namespace Go.Proofs.YthjgecblkagelaaGreat
open Go.RowKit Go.Shelf

attribute [local go_sem] Oper.semAt_some

/-- The first k of the n indices, from the last one on. -/
def ridx (n k : Nat) : List (Fin n) := (List.finRange n).reverse.take k
theorem ridx_zero (n : Nat) : ridx n 0 = [] := rfl
theorem ridx_succ {n k : Nat} (h : k < n) (j : Fin n) (hj : j.1 + k + 1 = n) : ridx n (k + 1) = ridx n k ++ [j] := by
  unfold ridx
  rw [List.take_succ_eq_append_getElem (by simpa using h)]
  congr 2
  rw [List.getElem_reverse]
  apply Fin.ext
  simp
  omega
theorem ridx_length {n k : Nat} (h : k ≤ n) : (ridx n k).length = k := by unfold ridx; simp [h]
theorem ridx_all (n : Nat) : ridx n n = (List.finRange n).reverse := by unfold ridx; rw [List.take_of_length_le (by simp)]

/-- What lies below n₀, and block Bs, lie as they lay. -/
def BelowAnd (n₀ Bs : Nat) (W W' : World) : Prop := Below n₀ W W' ∧ W'.heap[Bs]? = W.heap[Bs]?
theorem BelowAnd.refl (n₀ Bs : Nat) (W : World) : BelowAnd n₀ Bs W W := ⟨Below.refl _ _, rfl⟩
theorem BelowAnd.trans {n₀ Bs : Nat} {A B C : World} (h : BelowAnd n₀ Bs A B) (k : BelowAnd n₀ Bs B C) : BelowAnd n₀ Bs A C := ⟨h.1.trans k.1, k.2.trans h.2⟩
theorem belowAnd_b {n₀ Bs : Nat} {w : World} (hn : n₀ ≤ w.heap.size) (hB : Bs < w.heap.size) (W : World) (l : Nat) (o o' : Obj) (hl : w.heap.size ≤ l) (h : W.heap[l]? = some o) (h1 : o.isCells = false) (h2 : o.isWalk = false) : BelowAnd n₀ Bs W (W.putObj l o') :=
  ⟨belowK_b hn W l o o' hl h h1 h2, World.putObj_heap_other (by omega)⟩

set_option maxRecDepth 100000 in
set_option maxHeartbeats 2000000 in
theorem back1_in (F : Fence) (n : Nat) (h8 : F.fn 122) (hro : F.round = none) (hn : 1 ≤ n) (l Bs n₀ : Nat) (A : Option Addr) (len cap : Nat) (ts : List Int) (J Jx : List (Fin len) → World → Prop)
    (hY : ∀ pre x W, J pre W → pre.length < len → YieldAt F (n - 1) Tryz.prog l (encIx len ts x) W fun e W' =>
      (e = .returned (.bool true) ∧ J (pre ++ [x]) W' ∧ BelowAnd n₀ Bs W W') ∨ (e = .returned (.bool false) ∧ Jx (pre ++ [x]) W'))
    (W : World) (hBc : W.cell? ⟨Bs, 0, none⟩ = some (.slice A len cap)) (hx : IntsAt W n₀ A len ts) (h0 : J [] W) :
    CallsIn F n Tryz.prog 122 #[.func (.yield l) #[] #[], .pointer (some ⟨Bs, 0, none⟩)] W fun e W' => (∃ v, e = .returned v) ∧
      ((∃ ys, ys = (List.finRange len).reverse ∧ J ys W') ∨ (∃ pre, (∃ k, k ≤ len ∧ pre = ridx len k) ∧ Jx pre W')) := by
  have hm := hx.small
  refine callsIn_of_wp Tryz.func122 rfl h8 ?_ hro
  simp only [Tryz.ntmps122, List.size_toArray, List.length_cons, List.length_nil, Nat.reduceAdd, Nat.reduceSub, Array.replicate_succ, Array.replicate_zero, List.push_toArray, List.append_toArray, List.nil_append, List.cons_append]
  gi_wp2
  gi_loopw [3] (fun i wr => ∃ (k : Nat) (z : Int), k ≤ len ∧ z = (len : Int) - 1 - k ∧ i = .int .i64 z ∧ J (ridx len k) wr ∧ BelowAnd n₀ Bs W wr)
    (fun i _ => (intOf i + 1).toNat)
  case atStart => exact ⟨0, (len : Int) - 1, Nat.zero_le _, by simp, by go_num, h0, BelowAnd.refl _ _ _⟩
  case round =>
    obtain ⟨k, z, hk, hz, rfl, hJs, hnx⟩ := hrel
    have hcell : wr.cell? ⟨Bs, 0, none⟩ = some (.slice A len cap) := (by unfold World.cell?; rw [hnx.2] : wr.cell? ⟨Bs, 0, none⟩ = W.cell? ⟨Bs, 0, none⟩).trans hBc
    by_cases hlt : k < len
    · obtain ⟨j, rfl⟩ : ∃ j : Nat, z = j := ⟨(len - 1 - k), by omega⟩
      have hj : j < len := by omega
      have Hz := Lib.hid hz
      clear hz
      obtain ⟨b, off, rfl, hb, hcx'⟩ := (hx.below hnx.1 (Nat.le_refl _)).cell hj
      obtain ⟨fn, tmps, assign, body, hy, hR⟩ := hY _ ⟨j, hj⟩ wr hJs (by rw [ridx_length hk]; exact hlt)
      dsimp only [encIx] at hy
      gi_wp2
      refine hR.mono ?_
      rintro e W3 (⟨rfl, hJ3, hk3⟩ | ⟨rfl, hJx3⟩)
      · gi_wp2
        go_roundw
        case rel => exact ⟨k + 1, (j : Int) - 1, by omega, by have := Hz.out; omega, by go_num, by rw [ridx_succ hlt ⟨j, hj⟩ (by have := Hz.out; simp; omega)]; exact hJ3, hnx.trans hk3⟩
        case measure => simp [intOf]
      · gi_wp2
        refine bodyPost_ret (results_none rfl _ _ _) rfl ?_
        exact ⟨⟨_, rfl⟩, .inr ⟨_, ⟨k + 1, by omega, (ridx_succ hlt ⟨j, hj⟩ (by have := Hz.out; simp; omega)).symm⟩, hJx3⟩⟩
    · obtain rfl : k = len := by omega
      obtain rfl : z = -1 := by omega
      gi_wp2
      go_end0
      exact ⟨⟨_, rfl⟩, .inl ⟨_, rfl, by rw [← ridx_all]; exact hJs⟩⟩

theorem back_stops (F : Fence) (n : Nat) (h8 : F.fn 122) (hro : F.round = none) (hn : 1 ≤ n) (Bs n₀ : Nat) (A : Option Addr) (len cap : Nat) (ts : List Int) (w : World) (hBs : Bs < w.heap.size) (hn₀ : n₀ ≤ w.heap.size)
    (hc : w.cell? ⟨Bs, 0, none⟩ = some (.slice A len cap)) (hx : IntsAt w n₀ A len ts) :
    SeqStopsK F n Tryz.prog 122 #[.pointer (some ⟨Bs, 0, none⟩)] (encIx len ts) (BelowAnd n₀ Bs) (fun ys => ys = (List.finRange len).reverse) (fun pre => ∃ k, k ≤ len ∧ pre = ridx len k) len w := fun l J Jx W hW _ _ hY h0 =>
  back1_in F n h8 hro hn l Bs n₀ A len cap ts J Jx hY W ((hW.cell (p := ⟨Bs, 0, none⟩) hBs).trans hc) (hx.below hW hn₀) h0

set_option maxHeartbeats 1000000 in
theorem backward_box (A : Option Addr) (len cap : Nat) (w : World) :
    Calls Tryz.prog 109 #[.slice A len cap] w fun e w' =>
      ∃ Bs, e = .returned (.func (.func 122) #[] #[.pointer (some ⟨Bs, 0, none⟩)]) ∧ Boxed w' Bs 22 (.slice A len cap) ∧ Below w.heap.size w w' := by
  go_enter Tryz.func109, Tryz.ntmps109
  go_wp2
  go_ret
  refine ⟨w.heap.size, ?_, Boxed.new w 22 (.slice A len cap), (Below.refl _ _).alloc (Nat.le_refl _) _⟩
  simp

/-- A range over slices.Backward(ts), in a function that is called plainly. -/
theorem range_back {g : Operand} {ps : Array Tmp} {assign body : Code} {Q : Exit → Act → World → Prop} {a : Act} {w : World} {Bs n₀ : Nat} {A : Option Addr} {len cap : Nat} {ts : List Int}
    (hg : a.eval g = .func (.func 122) #[] #[.pointer (some ⟨Bs, 0, none⟩)]) (hBs : Bs < w.heap.size) (hn₀ : n₀ ≤ w.heap.size) (hc : w.cell? ⟨Bs, 0, none⟩ = some (.slice A len cap)) (hx : IntsAt w n₀ A len ts) (hps : ps.size = 2)
    (I : List (Fin len) → World → Prop) (Ix : Code → List (Fin len) → World → Prop) (hI : OwnFrom w.heap.size I) (hIx : ∀ c, OwnFrom w.heap.size (Ix c)) (h0 : I [] w) (a₁ : Fin len → Act)
    (hassign : ∀ (l : Nat) (x : Fin len) (W : World) (K : Act → World → Prop), K (a₁ x) W →
      assign.wpIn (Fence.wide.inRound l) 1 Tryz.prog (Exit.then K (fun _ _ _ => False)) { tmps := (ps.zip #[.int .i64 (x.1 : Int), .int .i64 (ts[x.1]?.getD 0)]).foldl (fun t (p, v) => t.setIfInBounds p v) a.tmps, defers := [] } W)
    (hbody : ∀ (l : Nat) (pre : List (Fin len)) (x : Fin len) (W : World), I pre W → body.wpIn (Fence.wide.inRound l) 1 Tryz.prog (ownPostG w.heap.size (BelowAnd n₀ Bs) I Ix (pre ++ [x]) W) (a₁ x) W)
    (hdone : ∀ (D : Nat) (W : World), w.heap.size ≤ D → I (List.finRange len).reverse W → W.heap[D]? = some (.deferred (some [])) → Q .normal { a with defers := { target := .collected D, args := #[] } :: a.defers } W)
    (hstop : ∀ (D : Nat) (c : Code) (pre : List (Fin len)) (W : World), w.heap.size ≤ D → (∃ rest, (List.finRange len).reverse = pre ++ rest) → Ix c pre W → W.heap[D]? = some (.deferred (some [])) → c.wpIn Fence.wide 3 Tryz.prog Q { a with defers := { target := .collected D, args := #[] } :: a.defers } W) :
    (Code.rangeFunc g ps assign body).wpIn Fence.wide 3 Tryz.prog Q a w :=
  wpIn_rangeFunc_ownG rfl (by omega) hg trivial (enters_of Tryz.func122 (by kernel_rfl) rfl)
    (back_stops Fence.wide 2 trivial rfl (by omega) Bs n₀ A len cap ts w hBs hn₀ hc hx) BelowAnd.trans (belowAnd_b hn₀ hBs) (Below.refl _ _) (fun _ => by simp [encIx, hps])
    I Ix hI hIx h0 a₁ hassign (fun l pre x W h _ => hbody l pre x W h) (fun D xs W hD hS h hK => by subst hS; exact hdone D W hD h hK) (fun D c pre W hD hS h hK => by
      obtain ⟨k, hk, rfl⟩ := hS
      exact hstop D c _ W hD ⟨(List.finRange len).reverse.drop k, (List.take_append_drop k _).symm⟩ h hK)

def followStep (ts : List Int) (i : Nat) (s : Pl × Bool) : Pl × Bool :=
  if s.2 then s else if s.1.get i < ts[i]?.getD 0 then (s.1.set i (s.1.get i + 1), true) else (s.1.set i 0, false)
def followL (ts : List Int) {n : Nat} (l : List (Fin n)) (p : Pl) : Pl × Bool := l.foldl (fun s i => followStep ts i.1 s) (p, false)
def followF (ts : List Int) (p : Pl) : Pl := (followL ts (List.finRange ts.length).reverse p).1
theorem followL_snoc (ts : List Int) {n : Nat} (l : List (Fin n)) (i : Fin n) (p : Pl) : followL ts (l ++ [i]) p = followStep ts i.1 (followL ts l p) := by simp [followL]
theorem follow_true (ts : List Int) {n : Nat} (l : List (Fin n)) (q : Pl) : l.foldl (fun s i => followStep ts i.1 s) (q, true) = (q, true) := by
  induction l with
  | nil => rfl
  | cons x xs ih => exact ih
theorem followL_true (ts : List Int) {n : Nat} (l m : List (Fin n)) (p q : Pl) (h : followL ts l p = (q, true)) : followL ts (l ++ m) p = (q, true) := by
  unfold followL at *
  rw [List.foldl_append, h]
  exact follow_true ts m q

theorem following_results (W : World) (tmps : Array Value) (b4 : Nat) (q : Pl) (h3 : PlAt W b4 q) (t3 : tmps.getD 4 undef = .pointer (some ⟨b4, 0, none⟩)) :
    (results Tryz.f99 tmps).run Tryz.prog W = .ok (plv q) W := by
  obtain ⟨c0, c1, c2, c3, c4, c5⟩ := h3.cells
  simp only [Array.getD_eq_getD_getElem?] at t3
  simp [results, Tryz.results99, go_sem, t3, c0, c1, c2, c3, c4, c5]

set_option maxRecDepth 100000 in
set_option maxHeartbeats 2000000 in
theorem following_any (w : World) (B : Nat) (A : Option Addr) (n c : Nat) (ts : List Int) (hx : IntsAt w B A n ts) (hB : B ≤ w.heap.size) (h5 : n ≤ 5) (h12 : ∀ i, i < n → 1 ≤ ts[i]?.getD 0 ∧ ts[i]?.getD 0 ≤ 12)
    (p : Pl) (hp : PlOk ts p) :
    Calls Tryz.prog 99 #[.agg #[.slice A n c], plv p] w fun e w' =>
      e = .returned (plv (followF ts p)) ∧ PlOk ts (followF ts p) ∧ Below w.heap.size w w' := by
  have hb0 : Below w.heap.size w (((w.alloc (.cells #[.slice A n c] 57)).alloc (.cells (plc p) 64)).alloc (.cells (plc ⟨0, 0, 0, 0, 0, 0⟩) 64)) :=
    (((Below.refl _ w).alloc (Nat.le_refl _) _).alloc (by simp) _).alloc (by simp; omega) _
  have x0 := ((Boxed.new w 57 (.slice A n c)).alloc (.cells (plc p) 64)).alloc (.cells (plc ⟨0, 0, 0, 0, 0, 0⟩) 64)
  have x1 := (PlAt.new (w.alloc (.cells #[.slice A n c] 57)) p).alloc (.cells (plc ⟨0, 0, 0, 0, 0, 0⟩) 64)
  have x2 := PlAt.new ((w.alloc (.cells #[.slice A n c] 57)).alloc (.cells (plc p) 64)) ⟨0, 0, 0, 0, 0, 0⟩
  simp only [World.size_alloc, Nat.add_assoc, Nat.reduceAdd] at x1 x2
  refine (callsIn_wide (n := 3)).1 ?_
  refine callsIn_of_wp_marks Tryz.func99 rfl trivial ?_ rfl
  simp only [Tryz.ntmps99, List.size_toArray, List.length_cons, List.length_nil, Nat.reduceAdd, Nat.reduceSub, Array.replicate_succ, Array.replicate_zero, List.push_toArray, List.append_toArray, List.nil_append, List.cons_append]
  gi_wp2_with (fail)
  refine ⟨trivial, ?_⟩
  refine (callsIn_wide.2 (backward_box _ _ _ _)).mono ?_
  rintro e w2 ⟨Bs, rfl, hBs, hb2⟩
  have hB2 : Below w.heap.size w w2 := hb0.trans (hb2.mono hb0.size)
  have y1 := x1.below hb2 x1.lt
  have y2 := x2.below hb2 x2.lt
  have hz := y2.lt
  have hne : Bs ≠ w.heap.size + 1 := fun e => by subst e; have := hBs.cell; rw [y1.cells.1] at this; cases this
  have hne2 : Bs ≠ w.heap.size + 2 := fun e => by subst e; have := hBs.cell; rw [y2.cells.1] at this; cases this
  clear hb2 hb0 x0 x1 x2
  gi_wp2_with (fail)
  refine range_back (n₀ := w.heap.size) (ts := ts) (Bs := Bs) (A := A) (cap := c) rfl hBs.lt hB2.size hBs.cell ((hx.below hB2 hB).more hB) rfl
    (fun pre W => ((∃ q, followL ts pre p = (q, false) ∧ PlOk ts q ∧ PlAt W (w.heap.size + 1) q) ∧ PlAt W (w.heap.size + 2) ⟨0, 0, 0, 0, 0, 0⟩) ∧ Below w.heap.size w W)
    (fun c' pre W => (c' = .ret ∧ ∃ q, followL ts pre p = (q, true) ∧ PlOk ts q ∧ PlAt W (w.heap.size + 2) q) ∧ Below w.heap.size w W)
    ?hI ?hIx ?h0 ?a1 ?assign ?body ?done ?stop
  case assign =>
    intro l x W K hK
    gi_wp2
    exact hK
  case hI =>
    refine OwnFrom.and (Own.from (fun s A B row hs hg hr => ?_) _) (ownFrom_below (Nat.le_refl _) hB2.size)
    obtain ⟨⟨q, e1, e2, e3⟩, e4⟩ := hs
    exact ⟨⟨q, e1, e2, e3.own hg hr⟩, e4.own hg hr⟩
  case hIx => 
    intro c
    refine OwnFrom.and (Own.from (fun s A B row hs hg hr => ?_) _) (ownFrom_below (Nat.le_refl _) hB2.size)
    obtain ⟨e0, q, e1, e2, e3⟩ := hs
    exact ⟨e0, q, e1, e2, e3.own hg hr⟩
  case h0 => exact ⟨⟨⟨p, rfl, hp, y1⟩, y2⟩, hB2⟩
  case body =>
    rintro l pre x W ⟨⟨⟨q, e1, e2, z1⟩, z2⟩, hBW⟩
    have hx5 : x.1 < 5 := Nat.lt_of_lt_of_le x.2 h5
    have hstep := followL_snoc ts pre x p
    rw [e1] at hstep
    have Hs := Lib.hid hstep
    clear hstep e1
    have hzW := z2.lt
    have hq := e2 x.1 (by rw [hx.len]; exact x.2)
    have ht := h12 x.1 x.2
    have g1 := z1.get hx5
    have g1f := z1.frozen (1 + x.1)
    have hlt5 : (x.1 : Int) < 5 := by omega
    by_cases hlt : q.get x.1 < ts[x.1]?.getD 0
    · have hss : followStep ts x.1 (q, false) = (q.set x.1 (q.get x.1 + 1), true) := by simp [followStep, hlt]
      have Hss := Lib.hid hss
      clear hss
      have z1' := z1.set hx5 (q.get x.1 + 1)
      obtain ⟨c0, c1, c2, c3, c4, c5⟩ := z1'.cells
      have z2' := z2.other (show w.heap.size + 2 ≠ w.heap.size + 1 by omega) (1 + x.1) (.int .i64 (q.get x.1 + 1))
      obtain ⟨f0, f1, f2, f3, f4, f5⟩ := z2'.frozens
      obtain ⟨r0, r1, r2, r3, r4, r5⟩ := z2'.cells
      gi_wp2_with (fail)
      refine ⟨((KeepsOthers.setCell _ _ _).from _).trans (st6_others.from _), ⟨rfl, _, Hs.out.trans Hss.out, ?_, z2'.store _⟩, st6_below (hBW.setCell (p := ⟨w.heap.size + 1, 1 + x.1, none⟩) (by simp) _) (by omega)⟩
      intro i hi
      have hi2 := e2 i hi
      rw [Pl.get_set _ _ _ _ hx5]
      by_cases hix : i = x.1
      · rw [if_pos hix]; subst hix; omega
      · rw [if_neg hix]; exact hi2
    · have hss : followStep ts x.1 (q, false) = (q.set x.1 0, false) := by simp [followStep, hlt]
      have Hss := Lib.hid hss
      clear hss
      gi_wp2_with (fail)
      refine ⟨(KeepsOthers.setCell _ _ _).from _, ⟨(Below.refl _ _).setCell (p := ⟨w.heap.size + 1, 1 + x.1, none⟩) (by simp) _, Below.heap_setCell _ _ _ _ hne⟩, ⟨⟨_, Hs.out.trans Hss.out, ?_, z1.set hx5 _⟩, z2.other (by omega) _ _⟩, hBW.setCell (p := ⟨w.heap.size + 1, 1 + x.1, none⟩) (by simp) _⟩
      intro i hi
      have hi2 := e2 i hi
      rw [Pl.get_set _ _ _ _ hx5]
      by_cases hix : i = x.1
      · rw [if_pos hix]; subst hix; omega
      · rw [if_neg hix]; exact hi2
  case done =>
    rintro D W hD ⟨⟨⟨q, e1, e2, z1⟩, z2⟩, hBW⟩ hK
    obtain ⟨c0, c1, c2, c3, c4, c5⟩ := z1.cells
    obtain ⟨f0, f1, f2, f3, f4, f5⟩ := z2.frozens
    obtain ⟨r0, r1, r2, r3, r4, r5⟩ := z2.cells
    gi_wp2_with (fail)
    have hK' := (st6_others (W := W) (b := w.heap.size + 2) (x0 := .int .i64 q.n) (x1 := .int .i64 q.a) (x2 := .int .i64 q.b) (x3 := .int .i64 q.c) (x4 := .int .i64 q.d) (x5 := .int .i64 q.e)).same D _ hK rfl
    refine ⟨by simp, .inl ⟨_, _, rfl, run_takeDeferred hK', ?_⟩⟩
    have hn : followF ts p = q := by
      unfold followF
      have hl := hx.len
      subst hl
      rw [e1]
    refine ⟨plv q, following_results _ _ (w.heap.size + 2) _ ((z2.store q).put hK') (by simp), ?_, ?_, below_put (st6_below hBW (by omega)) hK' (by omega)⟩
    · rw [hn]
    · rw [hn]; exact e2
  case stop =>
    rintro D c' pre W hD ⟨rest, hrest⟩ ⟨⟨rfl, q, e1, e2, z2⟩, hBW⟩ hK
    gi_wp2
    refine ⟨by simp, .inl ⟨_, _, rfl, run_takeDeferred hK, ?_⟩⟩
    have hn : followF ts p = q := by
      unfold followF
      have hl := hx.len
      subst hl
      rw [hrest, followL_true ts pre rest p q e1]
    refine ⟨plv q, following_results _ _ (w.heap.size + 2) _ (z2.put hK) (by simp), ?_, ?_, below_put hBW hK (by omega)⟩
    · rw [hn]
    · rw [hn]; exact e2
end Go.Proofs.YthjgecblkagelaaGreat
