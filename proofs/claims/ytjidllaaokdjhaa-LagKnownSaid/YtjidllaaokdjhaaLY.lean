/- lag: the worst of a board. -/
import Derived.Test.YtjidllaaokdjhaaLX
namespace Go.Proofs.Ytjidllaaokdjhaa
open Go.RowKit Go.Shelf

attribute [local go_sem] Oper.semAt_some

@[reducible] def brdC (A : Option Addr) (n c : Nat) (q : Nat → Int) (A1 A2 : Option Addr) (n1 n2 c1 c2 : Nat) : Array Value := #[.slice A n c, .int .i64 (q 0), .int .i64 (q 1), .int .i64 (q 2), .int .i64 (q 3), .int .i64 (q 4), .int .i64 (q 5), .int .i64 (q 6), .slice A1 n1 c1, .slice A2 n2 c2]
@[reducible] def brdV (A : Option Addr) (n c : Nat) (q : Nat → Int) (A1 A2 : Option Addr) (n1 n2 c1 c2 : Nat) : Value := .agg (brdC A n c q A1 A2 n1 n2 c1 c2)
abbrev BrdAt (W : World) (b : Nat) (A : Option Addr) (n c : Nat) (q : Nat → Int) (A1 A2 : Option Addr) (n1 n2 c1 c2 : Nat) : Prop := W.heap[b]? = some (.cells (brdC A n c q A1 A2 n1 n2 c1 c2) 108 (0, 0))
section
variable {W W' : World} {b : Nat} {A : Option Addr} {n c : Nat} {q : Nat → Int} {A1 A2 : Option Addr} {n1 n2 c1 c2 : Nat}
theorem BrdAt.lt (h : BrdAt W b A n c q A1 A2 n1 n2 c1 c2) : b < W.heap.size := (Array.getElem?_eq_some_iff.1 h).1
theorem BrdAt.cells (h : BrdAt W b A n c q A1 A2 n1 n2 c1 c2) : W.cell? ⟨b, 0, none⟩ = some (.slice A n c) ∧ W.cell? ⟨b, 1, none⟩ = some (.int .i64 (q 0)) ∧ W.cell? ⟨b, 2, none⟩ = some (.int .i64 (q 1)) ∧ W.cell? ⟨b, 3, none⟩ = some (.int .i64 (q 2)) ∧ W.cell? ⟨b, 4, none⟩ = some (.int .i64 (q 3)) ∧ W.cell? ⟨b, 5, none⟩ = some (.int .i64 (q 4)) ∧ W.cell? ⟨b, 6, none⟩ = some (.int .i64 (q 5)) ∧ W.cell? ⟨b, 7, none⟩ = some (.int .i64 (q 6)) ∧ W.cell? ⟨b, 8, none⟩ = some (.slice A1 n1 c1) ∧ W.cell? ⟨b, 9, none⟩ = some (.slice A2 n2 c2) := by
  simp [World.cell?, h]
theorem BrdAt.new (W : World) : BrdAt (W.alloc (.cells (brdC A n c q A1 A2 n1 n2 c1 c2) 108)) W.heap.size A n c q A1 A2 n1 n2 c1 c2 := World.alloc_heap_new W _
theorem BrdAt.below {D : Nat} (h : BrdAt W b A n c q A1 A2 n1 n2 c1 c2) (hb : Below D W W') (hD : b < D) : BrdAt W' b A n c q A1 A2 n1 n2 c1 c2 := (hb.block b hD).trans h
end

set_option maxHeartbeats 1000000 in
theorem behind1_any (w : World) (b b2 B1 B2 : Nat) (A : Option Addr) (n c : Nat) (q : Nat → Int) (A1 A2 : Option Addr) (n1 n2 c1 c2 k t : Nat) (ts os : List Int) (hb : BrdAt w b A n c q A1 A2 n1 n2 c1 c2) (h2 : w.cell? ⟨b2, 0, none⟩ = some (.int .i64 (t : Int)))
    (i1 : IntsAt w B1 A1 n1 ts) (i2 : IntsAt w B2 A2 n2 os) (hk1 : k + t < n1) (hk2 : k < n2) (hn1 : n1 ≤ 1000) (hd : -1000000000 ≤ ts[k + t]?.getD 0 - os[k]?.getD 0 ∧ ts[k + t]?.getD 0 - os[k]?.getD 0 ≤ 1000000000) :
    Calls Try.prog 110 #[.int .i64 (k : Int), .pointer (some ⟨b, 0, none⟩), .pointer (some ⟨b2, 0, none⟩)] w fun e w' => e = .returned (encI (ts[k + t]?.getD 0 - os[k]?.getD 0)) ∧ Below w.heap.size w w' := by
  have hm2 := i2.small
  obtain ⟨d1, o1, rfl, -, e1⟩ := i1.cell hk1
  obtain ⟨d2, o2, rfl, -, e2⟩ := i2.cell hk2
  obtain ⟨x, hx⟩ : ∃ x, x = ts[k + t]?.getD 0 := ⟨_, rfl⟩
  obtain ⟨y, hy⟩ : ∃ y, y = os[k]?.getD 0 := ⟨_, rfl⟩
  rw [← hx] at e1 hd ⊢
  rw [← hy] at e2 hd ⊢
  have e6 : IntKind.i64.wrap (x - y) = x - y := by rw [IntKind.wrap_i64]; omega
  have hkt : IntKind.i64.wrap ((k : Int) + (t : Int)) = ((k + t : Nat) : Int) := by rw [IntKind.wrap_i64]; omega
  obtain ⟨s, hs⟩ : ∃ s, s = k + t := ⟨_, rfl⟩
  rw [← hs] at e1 hkt hk1
  obtain ⟨-, -, -, -, -, -, -, -, p8, p9⟩ := hb.cells
  clear hx hy i1 i2 hd hs hb
  unfold encI
  go_enter Try.func110, Try.ntmps110
  go_wp2
  go_quiet (fail)
  go_wp2
  go_ret
  exact ⟨by simp, below_drewN _ _⟩

theorem eqI64 (d : Nat) (x y : Int) (w : World) : (Op.equalIn (d + 1) 2 (.int .i64 x) (.int .i64 y)).run Try.prog w = .ok (decide (x = y)) w := by
  rw [run_equalIn_int w d 2 .i64 .i64 x y Try.underlying2]
  rfl
def zeroF (q : Nat → Int) : Bool := decide (q 0 = 0) && (decide (q 1 = 0) && (decide (q 2 = 0) && (decide (q 3 = 0) && (decide (q 4 = 0) && (decide (q 5 = 0) && (decide (q 6 = 0)))))))

theorem equal_few (q : Nat → Int) (w : World) : (Op.equalIn 10000 79 (.agg #[.int .i64 (q 0), .int .i64 (q 1), .int .i64 (q 2), .int .i64 (q 3), .int .i64 (q 4), .int .i64 (q 5), .int .i64 (q 6)]) (.agg #[.int .i64 0, .int .i64 0, .int .i64 0, .int .i64 0, .int .i64 0, .int .i64 0, .int .i64 0])).run Try.prog w = .ok (zeroF q) w := by
  unfold zeroF
  rw [show (10000 : Nat) = 9998 + 2 from rfl, Op.equalIn]
  simp [Sem.run_bind, Try.runUnderlying79, Try.sizeOf2, Result.andThen, List.range', part, Try.isAgg2, eqI64]
  by_cases h0 : q 0 = 0
  rotate_left
  · simp [h0]
  simp [h0, Sem.run_bind, Result.andThen, Try.isAgg2, eqI64]
  by_cases h1 : q 1 = 0
  rotate_left
  · simp [h1]
  simp [h1, Sem.run_bind, Result.andThen, Try.isAgg2, eqI64]
  by_cases h2 : q 2 = 0
  rotate_left
  · simp [h2]
  simp [h2, Sem.run_bind, Result.andThen, Try.isAgg2, eqI64]
  by_cases h3 : q 3 = 0
  rotate_left
  · simp [h3]
  simp [h3, Sem.run_bind, Result.andThen, Try.isAgg2, eqI64]
  by_cases h4 : q 4 = 0
  rotate_left
  · simp [h4]
  simp [h4, Sem.run_bind, Result.andThen, Try.isAgg2, eqI64]
  by_cases h5 : q 5 = 0
  rotate_left
  · simp [h5]
  simp [h5, Sem.run_bind, Result.andThen, Try.isAgg2, eqI64]
  by_cases h6 : q 6 = 0
  rotate_left
  · simp [h6]
  simp [h6]

/-- The worst of a board. -/
def worstF (q : Nat → Int) (f : Nat → Int) : Int := if zeroF q = true then 0 else (bestO (fun p : Part 0 99 => f p.1) gtI (partsS 0 99)).getD 0
set_option maxRecDepth 100000 in
set_option maxHeartbeats 4000000 in
theorem worst_any (w : World) (A : Option Addr) (n c : Nat) (q : Nat → Int) (A1 A2 : Option Addr) (n1 n2 c1 c2 : Nat) (vf : Nat) (pre post : Array Value) (f : Nat → Int) (hval : ∀ W, Below w.heap.size w W → ValFn W vf pre post (fun x : Part 0 99 => encI (x.1 : Int)) encI (fun p => f p.1)) :
    Calls Try.prog 86 #[brdV A n c q A1 A2 n1 n2 c1 c2, .func (.func vf) pre post] w fun e w' => e = .returned (encI (worstF q f)) ∧ Below w.heap.size w w' := by
  obtain ⟨V, hV⟩ : ∃ V, V = w.alloc (.cells (brdC A n c q A1 A2 n1 n2 c1 c2) 108) := ⟨_, rfl⟩
  have hb0 : Below w.heap.size w V := by rw [hV]; exact (Below.refl _ w).alloc (Nat.le_refl _) _
  have heq := fun w => equal_few q w
  obtain ⟨z, hz⟩ : ∃ z, z = zeroF q := ⟨_, rfl⟩
  simp only [← hz] at heq
  have hw : worstF q f = if z = true then 0 else (bestO (fun p : Part 0 99 => f p.1) gtI (partsS 0 99)).getD 0 := by unfold worstF; rw [hz]
  have Hw := Lib.hid hw
  have Hval := Lib.hid hval
  clear hz hw hval
  unfold encI
  cases z with
  | true =>
    go_enter Try.func86, Try.ntmps86
    go_wp2_with (fail)
    refine bodyPost_ret (results_tmp rfl _ _ _) rfl ?_
    exact ⟨ret_int (by rw [Hw.out]; rfl), (Below.refl _ w).alloc (Nat.le_refl _) _⟩
  | false =>
    go_enter Try.func86, Try.ntmps86
    go_wp2_with (fail)
    rw [← hV]
    clear hV
    refine (between_box 0 99 V).mono ?_
    rintro e W1 ⟨bl, bh, rfl, hbl, hbh, hb1⟩
    have hB1 := hb0.trans (hb1.mono hb0.size)
    have hit := between1_any W1 bl bh W1.heap.size 0 99 hbl hbh (Nat.le_refl _) (by omega) (by omega)
    go_wp2_with (fail)
    refine (bestInt_any W1 106 _ (fun p : Part 0 99 => (p.1 : Int)) _ _ _ _ _ _ _ _ _ gtI (enters_of Try.func106 (by kernel_rfl) rfl) hit (by
      rintro k (rfl | rfl)
      · exact hbl.lt
      · exact hbh.lt) (Hval.out _ hB1) greater_fn).mono ?_
    rintro e W2 ⟨rfl, hb2⟩
    have hB2 := hB1.trans (hb2.mono hB1.size)
    have he : bestV (bestO (fun p : Part 0 99 => f p.1) gtI (partsS 0 99)) = .int .i64 (worstF q f) := by rw [Hw.out]; rfl
    rw [he]
    clear hit hbl hbh hb1 hb2 he
    go_wp2_with (fail)
    refine bodyPost_ret (results_tmp rfl _ _ _) rfl ?_
    exact ⟨rfl, hB2⟩
end Go.Proofs.Ytjidllaaokdjhaa
