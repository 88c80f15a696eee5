/- Parts of a proof: I J K L M. -/
import Derived.Test.YthjgecblkagelaaGreatM2
import Derived.Laws.CopyOwn

/- Places: how they lie in memory; empty, visited, placeOf, list. -/
namespace Go.Proofs.YthjgecblkagelaaGreat
open Go.RowKit Go.Shelf

/-- A place: how many windows, and what each of five screws holds. -/
structure Pl where
  n : Int
  a : Int
  b : Int
  c : Int
  d : Int
  e : Int
  deriving DecidableEq

def Pl.get (p : Pl) : Nat → Int
  | 0 => p.a | 1 => p.b | 2 => p.c | 3 => p.d | 4 => p.e | _ => 0
def Pl.set (p : Pl) (i : Nat) (x : Int) : Pl :=
  match i with
  | 0 => { p with a := x } | 1 => { p with b := x } | 2 => { p with c := x } | 3 => { p with d := x } | 4 => { p with e := x } | _ => p
def Pl.held (p : Pl) : List Int := [p.a, p.b, p.c, p.d, p.e]
def plOf (ss : List Int) : Pl := ⟨ss.length, ss[0]?.getD 0, ss[1]?.getD 0, ss[2]?.getD 0, ss[3]?.getD 0, ss[4]?.getD 0⟩
def plList (p : Pl) : List Int := p.held.take p.n.toNat

@[reducible] def plc (p : Pl) : Array Value := #[.int .i64 p.n, .int .i64 p.a, .int .i64 p.b, .int .i64 p.c, .int .i64 p.d, .int .i64 p.e]
@[reducible] def plv (p : Pl) : Value := .agg (plc p)
def PlAt (W : World) (b : Nat) (p : Pl) : Prop := W.heap[b]? = some (.cells (plc p) 64 (0, 0))

section
variable {W W' : World} {b : Nat} {p : Pl}
theorem PlAt.lt (h : PlAt W b p) : b < W.heap.size := (Array.getElem?_eq_some_iff.1 h).1
theorem PlAt.cells (h : PlAt W b p) : W.cell? ⟨b, 0, none⟩ = some (.int .i64 p.n) ∧ W.cell? ⟨b, 1, none⟩ = some (.int .i64 p.a) ∧ W.cell? ⟨b, 2, none⟩ = some (.int .i64 p.b) ∧
    W.cell? ⟨b, 3, none⟩ = some (.int .i64 p.c) ∧ W.cell? ⟨b, 4, none⟩ = some (.int .i64 p.d) ∧ W.cell? ⟨b, 5, none⟩ = some (.int .i64 p.e) := by
  unfold PlAt at h
  simp [World.cell?, h]
theorem PlAt.get (h : PlAt W b p) {i : Nat} (hi : i < 5) : W.cell? ⟨b, 1 + i, none⟩ = some (.int .i64 (p.get i)) := by
  unfold PlAt at h
  have : i = 0 ∨ i = 1 ∨ i = 2 ∨ i = 3 ∨ i = 4 := by omega
  rcases this with rfl | rfl | rfl | rfl | rfl <;> simp [World.cell?, h, Pl.get]
theorem PlAt.frozen (h : PlAt W b p) (i : Nat) : W.frozen? ⟨b, i, none⟩ = false := by
  unfold PlAt at h
  simp [World.frozen?, h]
theorem PlAt.frozens (h : PlAt W b p) : W.frozen? ⟨b, 0, none⟩ = false ∧ W.frozen? ⟨b, 1, none⟩ = false ∧ W.frozen? ⟨b, 2, none⟩ = false ∧ W.frozen? ⟨b, 3, none⟩ = false ∧ W.frozen? ⟨b, 4, none⟩ = false ∧ W.frozen? ⟨b, 5, none⟩ = false :=
  ⟨h.frozen 0, h.frozen 1, h.frozen 2, h.frozen 3, h.frozen 4, h.frozen 5⟩
theorem PlAt.new (W : World) (p : Pl) : PlAt (W.alloc (.cells (plc p) 64)) W.heap.size p := World.alloc_heap_new W _
theorem PlAt.kept (h : PlAt W b p) {row : Option Nat} (hg : W.grownBy W' row) (hne : some b ≠ row) : PlAt W' b p := (hg.block b h.lt hne).trans h
theorem PlAt.alloc (h : PlAt W b p) (o : Obj) : PlAt (W.alloc o) b p := h.kept (World.grownBy_alloc W o none) (by simp)
theorem PlAt.drew (h : PlAt W b p) : PlAt W.drew b p := h
theorem PlAt.drewN (h : PlAt W b p) (k : Nat) : PlAt (W.drewN k) b p := h
theorem PlAt.below {D : Nat} (h : PlAt W b p) (hb : Below D W W') (hD : b < D) : PlAt W' b p := (hb.block b hD).trans h
theorem PlAt.own (h : PlAt W b p) {row : Option Nat} (hg : W.grownBy W' row) (hr : ∀ r, row = some r → ∃ o : Obj, W.heap[r]? = some o ∧ o.isCells = false) : PlAt W' b p :=
  h.kept hg (fun e => by
    obtain ⟨o, ho, hc⟩ := hr b e.symm
    have h' : W.heap[b]? = some (.cells (plc p) 64 (0, 0)) := h
    rw [ho] at h'
    cases h'
    cases hc)
theorem PlAt.put {D : Nat} (h : PlAt W b p) (hD : W.heap[D]? = some (.deferred (some []))) : PlAt (W.putObj D (.deferred none)) b p :=
  h.own (grownBy_putObj' _ D (.deferred none)) (fun r e => by cases e; exact ⟨_, hD, rfl⟩)
theorem PlAt.other (h : PlAt W b p) {b' : Nat} (hne : b ≠ b') (o : Nat) (u : Value) : PlAt (W.setCell ⟨b', o, none⟩ u) b p := (Below.heap_setCell W ⟨b', o, none⟩ u b hne).trans h
theorem setCell_heap (W : World) (b i : Nat) (u : Value) (cs : Array Value) (t : TypeId) (h : W.heap[b]? = some (.cells cs t (0, 0))) : (W.setCell ⟨b, i, none⟩ u).heap[b]? = some (.cells (cs.setIfInBounds i u) t (0, 0)) := by
  simp [World.setCell, Array.getElem?_modify, h]
theorem PlAt.set (h : PlAt W b p) {i : Nat} (hi : i < 5) (x : Int) : PlAt (W.setCell ⟨b, 1 + i, none⟩ (.int .i64 x)) b (p.set i x) := by
  refine (setCell_heap W b (1 + i) _ _ _ h).trans ?_
  have : i = 0 ∨ i = 1 ∨ i = 2 ∨ i = 3 ∨ i = 4 := by omega
  rcases this with rfl | rfl | rfl | rfl | rfl <;> simp [Pl.set, plc]
theorem PlAt.store (h : PlAt W b p) (q : Pl) : PlAt ((((((W.setCell ⟨b, 0, none⟩ (.int .i64 q.n)).setCell ⟨b, 1, none⟩ (.int .i64 q.a)).setCell ⟨b, 2, none⟩ (.int .i64 q.b)).setCell ⟨b, 3, none⟩ (.int .i64 q.c)).setCell ⟨b, 4, none⟩ (.int .i64 q.d)).setCell ⟨b, 5, none⟩ (.int .i64 q.e)) b q := by
  have h0 := setCell_heap W b 0 (.int .i64 q.n) _ _ h
  have h1 := setCell_heap _ b 1 (.int .i64 q.a) _ _ h0
  have h2 := setCell_heap _ b 2 (.int .i64 q.b) _ _ h1
  have h3 := setCell_heap _ b 3 (.int .i64 q.c) _ _ h2
  have h4 := setCell_heap _ b 4 (.int .i64 q.d) _ _ h3
  have h5 := setCell_heap _ b 5 (.int .i64 q.e) _ _ h4
  exact h5.trans (by simp [plc])
end

section
variable {W w0 : World} {b : Nat} {x0 x1 x2 x3 x4 x5 : Value}
/-- Six cells of a block are stored. -/
@[reducible] def st6 (W : World) (b : Nat) (x0 x1 x2 x3 x4 x5 : Value) : World := (((((W.setCell ⟨b, 0, none⟩ x0).setCell ⟨b, 1, none⟩ x1).setCell ⟨b, 2, none⟩ x2).setCell ⟨b, 3, none⟩ x3).setCell ⟨b, 4, none⟩ x4).setCell ⟨b, 5, none⟩ x5
theorem st6_others : KeepsOthers W (st6 W b x0 x1 x2 x3 x4 x5) :=
  (((((KeepsOthers.setCell _ _ _).trans (KeepsOthers.setCell _ _ _)).trans (KeepsOthers.setCell _ _ _)).trans (KeepsOthers.setCell _ _ _)).trans (KeepsOthers.setCell _ _ _)).trans (KeepsOthers.setCell _ _ _)
theorem st6_below {D : Nat} (hb : Below D w0 W) (hD : D ≤ b) : Below D w0 (st6 W b x0 x1 x2 x3 x4 x5) :=
  (((((hb.setCell hD _).setCell hD _).setCell hD _).setCell hD _).setCell hD _).setCell hD _
theorem st6_pl {b' : Nat} {p : Pl} (h : PlAt W b' p) (hne : b' ≠ b) : PlAt (st6 W b x0 x1 x2 x3 x4 x5) b' p :=
  (((((h.other hne _ _).other hne _ _).other hne _ _).other hne _ _).other hne _ _).other hne _ _
theorem bxOther {b' : Nat} {t : TypeId} {v : Value} (h : Boxed W b' t v) (hne : b' ≠ b) (o : Nat) (u : Value) : Boxed (W.setCell ⟨b, o, none⟩ u) b' t v := (Below.heap_setCell W ⟨b, o, none⟩ u b' hne).trans h
theorem st6_bx {b' : Nat} {t : TypeId} {v : Value} (h : Boxed W b' t v) (hne : b' ≠ b) : Boxed (st6 W b x0 x1 x2 x3 x4 x5) b' t v :=
  bxOther (bxOther (bxOther (bxOther (bxOther (bxOther h hne _ _) hne _ _) hne _ _) hne _ _) hne _ _) hne _ _
end

theorem ret_val {u v : Value} (h : u = v) : Ending.returned u = .returned v := by rw [h]

set_option maxHeartbeats 400000 in
theorem empty_any (w : World) (A : Option Addr) (n c : Nat) :
    Calls Tryz.prog 48 #[.agg #[.slice A n c]] w fun e w' => e = .returned (plv ⟨n, 0, 0, 0, 0, 0⟩) ∧ Below w.heap.size w w' := by
  go_enter Tryz.func48, Tryz.ntmps48
  go_wp2
  refine bodyPost_ret (v := plv ⟨n, 0, 0, 0, 0, 0⟩) (by simp [results, Tryz.results48, go_sem]) rfl ⟨rfl, ?_⟩
  exact ((Below.refl _ _).alloc (Nat.le_refl _) _).alloc (by simp) _

set_option maxHeartbeats 1000000 in
theorem visited_any (w : World) (p : Pl) (i : Nat) (hi : i < 5) :
    Calls Tryz.prog 75 #[plv p, .int .i64 (i : Int)] w fun e w' => e = .returned (.tuple #[plv (p.set i 0), .int .i64 (p.get i)]) ∧ Below w.heap.size w w' := by
  have : i = 0 ∨ i = 1 ∨ i = 2 ∨ i = 3 ∨ i = 4 := by omega
  rcases this with rfl | rfl | rfl | rfl | rfl
  all_goals
    go_enter Tryz.func75, Tryz.ntmps75
    go_wp2
    refine bodyPost_ret (v := .tuple #[plv (p.set _ 0), .int .i64 (p.get _)]) (by simp [results, Tryz.results75, go_sem, Pl.set, Pl.get]) rfl ⟨rfl, ?_⟩
    exact ((Below.refl _ _).alloc (Nat.le_refl _) _).alloc (by simp) _

theorem splice_held (n : Int) (ss : List Int) (h : ss.length ≤ 5) : splice [Value.int .i64 n, .int .i64 0, .int .i64 0, .int .i64 0, .int .i64 0, .int .i64 0] 1 (ss.map (Value.int .i64)) =
    [.int .i64 n, .int .i64 (ss[0]?.getD 0), .int .i64 (ss[1]?.getD 0), .int .i64 (ss[2]?.getD 0), .int .i64 (ss[3]?.getD 0), .int .i64 (ss[4]?.getD 0)] := by
  match ss, h with
  | [], _ => rfl
  | [_], _ => rfl
  | [_, _], _ => rfl
  | [_, _, _], _ => rfl
  | [_, _, _, _], _ => rfl
  | [_, _, _, _, _], _ => rfl

set_option maxRecDepth 100000 in
set_option maxHeartbeats 1000000 in
theorem placeOf_any (w : World) (B : Nat) (A : Option Addr) (m c : Nat) (ss : List Int) (hx : IntsAt w B A m ss) (hB : B ≤ w.heap.size) (h5 : m ≤ 5) :
    Calls Tryz.prog 56 #[.slice A m c] w fun e w' => e = .returned (plv (plOf ss)) ∧ Below w.heap.size w w' := by
  have hm := hx.small
  have hsz : (Tryz.prog.info? 3).map (·.size) = some 1 := by kernel_rfl
  have Hsz := Lib.hid hsz
  clear hsz
  go_enter Tryz.func56, Tryz.ntmps56
  have hb0 : Below w.heap.size w ((w.alloc (.cells (plc ⟨0, 0, 0, 0, 0, 0⟩) 64)).alloc (.cells (plc ⟨m, 0, 0, 0, 0, 0⟩) 64)) := ((Below.refl _ _).alloc (Nat.le_refl _) _).alloc (by simp) _
  have z0 := (PlAt.new w ⟨0, 0, 0, 0, 0, 0⟩).alloc (.cells (plc ⟨m, 0, 0, 0, 0, 0⟩) 64)
  have z1 := PlAt.new (w.alloc (.cells (plc ⟨0, 0, 0, 0, 0, 0⟩) 64)) ⟨m, 0, 0, 0, 0, 0⟩
  simp only [World.size_alloc] at z1
  go_wp2_with (with_reducible refine wpList_copy_splice rfl (.tmp 8) (.tmp 9) 22 22 rfl 3 Tryz.underlying22 Hsz.out _ _ _ _ _ _ rfl rfl (w.heap.size + 1) 1 [.int .i64 (m : Int), .int .i64 0, .int .i64 0, .int .i64 0, .int .i64 0, .int .i64 0] 64 ?hg (ss.map (Value.int .i64)) ?hn ?hpos ?hfit ?h1 (w.heap.size + 1) ((w.alloc (.cells (plc ⟨0, 0, 0, 0, 0, 0⟩) 64)).alloc (.cells (plc ⟨m, 0, 0, 0, 0, 0⟩) 64)) ?hb ?hBg ?_)
  case hb => exact Below.refl _ _
  case hg => exact z1
  case hn => rw [List.length_map, hx.len]; exact (Nat.min_eq_left h5).symm
  case hpos =>
    intro h0
    simp [hx.len] at h0
    obtain ⟨b, off, rfl, hb, -⟩ := hx.cell h0
    refine ⟨⟨b, off, none⟩, rfl, fun j v hv => ?_⟩
    have hj : j < m := by
      have := (List.getElem?_eq_some_iff.1 hv).1
      rw [hx.len] at this; exact this
    obtain ⟨b', off', hA, hb', hc⟩ := (hx.below hb0 hB).cell hj
    simp at hA
    obtain ⟨rfl, rfl⟩ := hA
    rw [hv] at hc
    by_cases hj0 : j = 0
    · subst hj0
      simpa [Addr.add] using hc
    · simpa [Addr.add, hj0] using hc
  case hfit => simp [hx.len]; omega
  case h1 => intro v hv; obtain ⟨x, _, rfl⟩ := List.mem_map.1 hv; rfl
  case hBg => omega
  intro w2 hg2 hb2
  have hg3 := hg2.out
  rw [splice_held _ _ (by rw [hx.len]; exact h5)] at hg3
  have hp : PlAt w2 (w.heap.size + 1) (plOf ss) := by
    unfold PlAt
    rw [hg3]
    simp [plc, plOf, hx.len]
  have hr : PlAt w2 w.heap.size ⟨0, 0, 0, 0, 0, 0⟩ := z0.below hb2 (by omega)
  have hbb : Below w.heap.size w w2 := hb0.trans (hb2.mono (by omega))
  clear hg2 hg3 hb2 hb0 z0 z1
  obtain ⟨c0, c1, c2, c3, c4, c5⟩ := hp.cells
  obtain ⟨r0, r1, r2, r3, r4, r5⟩ := hr.cells
  obtain ⟨f0, f1, f2, f3, f4, f5⟩ := hr.frozens
  go_wp2
  have hs := (hr.store (plOf ss)).cells
  obtain ⟨s0, s1, s2, s3, s4, s5⟩ := hs
  refine bodyPost_ret (v := plv (plOf ss)) (by simp [results, Tryz.results56, go_sem, s0, s1, s2, s3, s4, s5]) rfl ⟨rfl, ?_⟩
  exact (((((hbb.setCell (by simp) _).setCell (by simp) _).setCell (by simp) _).setCell (by simp) _).setCell (by simp) _).setCell (by simp) _
end Go.Proofs.YthjgecblkagelaaGreat

/- pull: a turn's pulls, over the screws of a hall. -/
namespace Go.Proofs.YthjgecblkagelaaGreat
open Go.RowKit Go.Shelf

attribute [local go_sem] Oper.semAt_some

/-- A function value that says which windows pull. -/
def PullFn (W0 : World) (B : Nat) (g : Nat) (fs : Array Value) (f : Nat → Bool) : Prop :=
  (∀ args w, (callFunc g args).run Tryz.prog w = .ok (.enter g args) w) ∧
  ∀ (W : World) (i : Nat), i < 5 → Below B W0 W → Calls Tryz.prog g (fs.push (.int .i64 (i : Int))) W fun e w' => e = .returned (.bool (f i)) ∧ Below W.heap.size W w'
theorem PullFn.later {W0 W1 : World} {B D : Nat} {g : Nat} {fs : Array Value} {f : Nat → Bool} (h : PullFn W0 B g fs f) (hb : Below B W0 W1) (hD : B ≤ D) : PullFn W1 D g fs f :=
  ⟨h.1, fun W i hi hW => h.2 W i hi (hb.trans (hW.mono hD))⟩

def pullStep (ts : List Int) (f : Nat → Bool) (i : Nat) : Option Pl → Option Pl
  | none => none
  | some q => if f i then (if q.get i = ts[i]?.getD 0 then none else some (q.set i (q.get i + 1))) else some q
def pullL (ts : List Int) (f : Nat → Bool) {n : Nat} (l : List (Fin n)) (p : Pl) : Option Pl := l.foldl (fun o i => pullStep ts f i.1 o) (some p)
def pullF (ts : List Int) (f : Nat → Bool) (p : Pl) : Option Pl := pullL ts f (List.finRange ts.length) p
theorem pullL_snoc (ts : List Int) (f : Nat → Bool) {n : Nat} (l : List (Fin n)) (i : Fin n) (p : Pl) : pullL ts f (l ++ [i]) p = pullStep ts f i.1 (pullL ts f l p) := by simp [pullL]
theorem pull_none (ts : List Int) (f : Nat → Bool) {n : Nat} (l : List (Fin n)) : l.foldl (fun o i => pullStep ts f i.1 o) none = none := by
  induction l with
  | nil => rfl
  | cons x xs ih => exact ih
theorem pullL_none (ts : List Int) (f : Nat → Bool) {n : Nat} (l m : List (Fin n)) (p : Pl) (h : pullL ts f l p = none) : pullL ts f (l ++ m) p = none := by
  unfold pullL at *
  rw [List.foldl_append, h]
  exact pull_none ts f m
def pullRes (o : Option Pl) : Value := match o with | some q => .tuple #[plv q, .bool true] | none => .tuple #[plv ⟨0, 0, 0, 0, 0, 0⟩, .bool false]
/-- What the screws hold is between 0 and the threads. -/
def PlOk (ts : List Int) (p : Pl) : Prop := ∀ i, i < ts.length → 0 ≤ p.get i ∧ p.get i ≤ ts[i]?.getD 0
theorem Pl.get_set (p : Pl) (i j : Nat) (x : Int) (hi : i < 5) : (p.set i x).get j = if j = i then x else p.get j := by
  have h5 : i = 0 ∨ i = 1 ∨ i = 2 ∨ i = 3 ∨ i = 4 := by omega
  match j with
  | 0 => rcases h5 with rfl | rfl | rfl | rfl | rfl <;> simp [Pl.get, Pl.set]
  | 1 => rcases h5 with rfl | rfl | rfl | rfl | rfl <;> simp [Pl.get, Pl.set]
  | 2 => rcases h5 with rfl | rfl | rfl | rfl | rfl <;> simp [Pl.get, Pl.set]
  | 3 => rcases h5 with rfl | rfl | rfl | rfl | rfl <;> simp [Pl.get, Pl.set]
  | 4 => rcases h5 with rfl | rfl | rfl | rfl | rfl <;> simp [Pl.get, Pl.set]
  | j + 5 => rcases h5 with rfl | rfl | rfl | rfl | rfl <;> simp [Pl.get]

theorem screws_box (A : Option Addr) (len cap : Nat) (w : World) :
    Calls Tryz.prog 74 #[.agg #[.slice A len cap]] w fun e w' =>
      ∃ Bs, e = .returned (.func (.func 108) #[] #[.pointer (some ⟨Bs, 0, none⟩)]) ∧ Boxed w' Bs 22 (.slice A len cap) ∧ Below w.heap.size w w' := by
  refine (screws_any A len cap w).mono ?_
  rintro e w' ⟨rfl, rfl⟩
  refine ⟨_, rfl, ?_, ((Below.refl _ _).alloc (Nat.le_refl _) _).alloc (by simp) _⟩
  have := Boxed.new (w.alloc (.cells #[.slice A len cap] 57)) 22 (.slice A len cap)
  rw [World.size_alloc] at this
  exact this

/-- pull's two results out of their cells. -/
theorem pull_results (W : World) (tmps : Array Value) (b3 b4 : Nat) (q : Pl) (ok : Bool) (h3 : PlAt W b3 q) (h4 : Boxed W b4 4 (.bool ok)) (t3 : tmps.getD 6 undef = .pointer (some ⟨b3, 0, none⟩)) (t4 : tmps.getD 7 undef = .pointer (some ⟨b4, 0, none⟩)) :
    (results Tryz.f72 tmps).run Tryz.prog W = .ok (.tuple #[plv q, .bool ok]) W := by
  obtain ⟨c0, c1, c2, c3, c4, c5⟩ := h3.cells
  have d := h4.cell
  simp only [Array.getD_eq_getD_getElem?] at t3 t4
  simp [results, Tryz.results72, go_sem, t3, t4, c0, c1, c2, c3, c4, c5, d]

set_option maxRecDepth 100000 in
set_option maxHeartbeats 2000000 in
theorem pull_any (w : World) (B : Nat) (A : Option Addr) (n c : Nat) (ts : List Int) (hx : IntsAt w B A n ts) (hB : B ≤ w.heap.size) (h5 : n ≤ 5) (h12 : ∀ i, i < n → 1 ≤ ts[i]?.getD 0 ∧ ts[i]?.getD 0 ≤ 12)
    (p : Pl) (hp : PlOk ts p) (g : Nat) (fs : Array Value) (f : Nat → Bool) (hf : PullFn w w.heap.size g fs f) :
    Calls Tryz.prog 72 #[.agg #[.slice A n c], plv p, .func (.func g) fs #[]] w fun e w' =>
      e = .returned (pullRes (pullF ts f p)) ∧ Below w.heap.size w w' := by
  obtain ⟨heg, hcall⟩ := hf
  have hb0 : Below w.heap.size w (((((w.alloc (.cells #[.slice A n c] 57)).alloc (.cells (plc p) 64)).alloc (.cells #[.func (.func g) fs #[]] 86)).alloc (.cells (plc ⟨0, 0, 0, 0, 0, 0⟩) 64)).alloc (.cells #[.bool false] 4)) :=
    (((((Below.refl _ w).alloc (Nat.le_refl _) _).alloc (by simp) _).alloc (by simp; omega) _).alloc (by simp; omega) _).alloc (by simp; omega) _
  have x1 := (((PlAt.new (w.alloc (.cells #[.slice A n c] 57)) p).alloc (.cells #[.func (.func g) fs #[]] 86)).alloc (.cells (plc ⟨0, 0, 0, 0, 0, 0⟩) 64)).alloc (.cells #[.bool false] 4)
  have x2 := ((Boxed.new ((w.alloc (.cells #[.slice A n c] 57)).alloc (.cells (plc p) 64)) 86 (.func (.func g) fs #[])).alloc (.cells (plc ⟨0, 0, 0, 0, 0, 0⟩) 64)).alloc (.cells #[.bool false] 4)
  have x3 := (PlAt.new (((w.alloc (.cells #[.slice A n c] 57)).alloc (.cells (plc p) 64)).alloc (.cells #[.func (.func g) fs #[]] 86)) ⟨0, 0, 0, 0, 0, 0⟩).alloc (.cells #[.bool false] 4)
  have x4 := Boxed.new ((((w.alloc (.cells #[.slice A n c] 57)).alloc (.cells (plc p) 64)).alloc (.cells #[.func (.func g) fs #[]] 86)).alloc (.cells (plc ⟨0, 0, 0, 0, 0, 0⟩) 64)) 4 (.bool false)
  simp only [World.size_alloc, Nat.add_assoc, Nat.reduceAdd] at x1 x2 x3 x4
  refine (callsIn_wide (n := 3)).1 ?_
  refine callsIn_of_wp_marks Tryz.func72 rfl trivial ?_ rfl
  simp only [Tryz.ntmps72, List.size_toArray, List.length_cons, List.length_nil, Nat.reduceAdd, Nat.reduceSub, Array.replicate_succ, Array.replicate_zero, List.push_toArray, List.append_toArray, List.nil_append, List.cons_append]
  gi_wp2_with (fail)
  refine ⟨trivial, ?_⟩
  refine (callsIn_wide.2 (screws_box _ _ _ _)).mono ?_
  rintro e w2 ⟨Bs, rfl, hBs, hb2⟩
  have hB2 : Below w.heap.size w w2 := hb0.trans (hb2.mono hb0.size)
  have y1 := x1.below hb2 x1.lt
  have y2 := bxBelow x2 hb2 x2.lt
  have y3 := x3.below hb2 x3.lt
  have y4 := bxBelow x4 hb2 x4.lt
  have hz := y4.lt
  clear hb2 hb0 x1 x2 x3 x4
  gi_wp2_with (fail)
  refine range_all (n₀ := w.heap.size) (ts := ts) (Bs := Bs) (A := A) (cap := c) rfl hBs.lt hB2.size hBs.cell ((hx.below hB2 hB).more hB) rfl
    (fun pre W => ((∃ q, pullL ts f pre p = some q ∧ PlOk ts q ∧ PlAt W (w.heap.size + 1) q) ∧ Boxed W (w.heap.size + 2) 86 (.func (.func g) fs #[]) ∧ PlAt W (w.heap.size + 3) ⟨0, 0, 0, 0, 0, 0⟩ ∧ Boxed W (w.heap.size + 4) 4 (.bool false)) ∧ Below w.heap.size w W)
    (fun c' pre W => (c' = .ret ∧ pullL ts f pre p = none ∧ PlAt W (w.heap.size + 3) ⟨0, 0, 0, 0, 0, 0⟩ ∧ Boxed W (w.heap.size + 4) 4 (.bool false)) ∧ Below w.heap.size w W)
    ?hI ?hIx ?h0 ?a1 ?assign ?body ?done ?stop
  case assign =>
    intro l x W K hK
    gi_wp2
    exact hK
  case hI =>
    refine OwnFrom.and (Own.from (fun s A B row hs hg hr => ?_) _) (ownFrom_below (Nat.le_refl _) hB2.size)
    obtain ⟨⟨q, e1, e2, e3⟩, e4, e5, e6⟩ := hs
    exact ⟨⟨q, e1, e2, e3.own hg hr⟩, bxOwn e4 hg hr, e5.own hg hr, bxOwn e6 hg hr⟩
  case hIx => exact fun c => OwnFrom.and (Own.from (fun s A B row hs hg hr => ⟨hs.1, hs.2.1, hs.2.2.1.own hg hr, bxOwn hs.2.2.2 hg hr⟩) _) (ownFrom_below (Nat.le_refl _) hB2.size)
  case h0 => exact ⟨⟨⟨p, rfl, hp, y1⟩, y2, y3, y4⟩, hB2⟩
  case body =>
    rintro l pre x W ⟨⟨⟨q, e1, e2, z1⟩, z2, z3, z4⟩, hBW⟩
    have hx5 : x.1 < 5 := Nat.lt_of_lt_of_le x.2 h5
    have d2 := z2.cell
    have hstep := pullL_snoc ts f pre x p
    rw [e1] at hstep
    have Hs := Lib.hid hstep
    clear hstep e1
    have hzW := z4.lt
    have hq := e2 x.1 (by rw [hx.len]; exact x.2)
    have ht := h12 x.1 x.2
    cases hfx : f x.1
    · have Hfx := Lib.hid hfx
      gi_wp2_with (fail)
      refine ⟨trivial, (CallsIn.inRound l (callsIn_wide.2 (hcall W x.1 hx5 hBW))).mono ?_⟩
      rintro e W2 ⟨rfl, hb⟩
      gi_wp2
      have hss : pullStep ts f x.1 (some q) = some q := by simp [pullStep, Hfx.out]
      exact ⟨KeepsFrom.of_below hb, hb.mono hBW.size, ⟨⟨q, Hs.out.trans hss, e2, z1.below hb z1.lt⟩, bxBelow z2 hb z2.lt, z3.below hb z3.lt, bxBelow z4 hb z4.lt⟩, hBW.trans (hb.mono hBW.size)⟩
    · have Hfx := Lib.hid hfx
      gi_wp2_with (fail)
      refine ⟨trivial, (CallsIn.inRound l (callsIn_wide.2 (hcall W x.1 hx5 hBW))).mono ?_⟩
      rintro e W2 ⟨rfl, hb⟩
      have hBW2 := hBW.trans (hb.mono hBW.size)
      have z1' := z1.below hb z1.lt
      have z2' := bxBelow z2 hb z2.lt
      have z3' := z3.below hb z3.lt
      have z4' := bxBelow z4 hb z4.lt
      have g1 := z1'.get hx5
      obtain ⟨r0, r1, r2, r3, r4, r5⟩ := z3'.cells
      obtain ⟨f0, f1, f2, f3, f4, f5⟩ := z3'.frozens
      have d4 := z4'.cell
      have h4 := z4'.frozen
      have g1f := z1'.frozen (1 + x.1)
      have hlt5 : (x.1 : Int) < 5 := by omega
      by_cases hfull : q.get x.1 = ts[x.1]?.getD 0
      · have hb' : (q.get x.1 == ts[x.1]?.getD 0) = true := by simp [hfull]
        have Hfull := Lib.hid hfull
        clear hfull
        gi_wp2_with (fail)
        have hss : pullStep ts f x.1 (some q) = none := by simp [pullStep, Hfx.out, Hfull.out]
        exact ⟨(KeepsFrom.of_below hb).trans ((st6_others.from _).trans ((KeepsOthers.setCell _ _ _).from _)), ⟨rfl, Hs.out.trans hss, (z3'.store ⟨0, 0, 0, 0, 0, 0⟩).other (by omega) _ _, (st6_bx z4' (by omega)).set _⟩, (st6_below hBW2 (by omega)).setCell (p := ⟨w.heap.size + 4, 0, none⟩) (by simp) _⟩
      · have hb' : (q.get x.1 == ts[x.1]?.getD 0) = false := by simp [hfull]
        have Hfull := Lib.hid hfull
        clear hfull
        gi_wp2_with (fail)
        have hss : pullStep ts f x.1 (some q) = some (q.set x.1 (q.get x.1 + 1)) := by simp [pullStep, Hfx.out, Hfull.out]
        refine ⟨(KeepsFrom.of_below hb).trans ((KeepsOthers.setCell _ _ _).from _), (hb.mono hBW.size).setCell (p := ⟨w.heap.size + 1, 1 + x.1, none⟩) (by simp) _, ⟨⟨_, Hs.out.trans hss, ?_, z1'.set hx5 _⟩, bxOther z2' (by omega) _ _, z3'.other (by omega) _ _, bxOther z4' (by omega) _ _⟩, hBW2.setCell (p := ⟨w.heap.size + 1, 1 + x.1, none⟩) (by simp) _⟩
        intro i hi
        have hi2 := e2 i hi
        rw [Pl.get_set _ _ _ _ hx5]
        by_cases hix : i = x.1
        · rw [if_pos hix]; subst hix; have := Hfull.out; omega
        · rw [if_neg hix]; exact hi2
  case done =>
    rintro D W hD ⟨⟨⟨q, e1, e2, z1⟩, z2, z3, z4⟩, hBW⟩ hK
    obtain ⟨c0, c1, c2, c3, c4, c5⟩ := z1.cells
    obtain ⟨r0, r1, r2, r3, r4, r5⟩ := z3.cells
    obtain ⟨f0, f1, f2, f3, f4, f5⟩ := z3.frozens
    have d4 := z4.cell
    have h4 := z4.frozen
    gi_wp2_with (fail)
    have hK' := (st6_others.trans (KeepsOthers.setCell (st6 W (w.heap.size + 3) (.int .i64 q.n) (.int .i64 q.a) (.int .i64 q.b) (.int .i64 q.c) (.int .i64 q.d) (.int .i64 q.e)) ⟨w.heap.size + 4, 0, none⟩ (.bool true))).same D _ hK rfl
    refine ⟨by simp, .inl ⟨_, _, rfl, run_takeDeferred hK', ?_⟩⟩
    have hn : pullF ts f p = some q := by
      unfold pullF
      have hl := hx.len
      subst hl
      exact e1
    refine ⟨.tuple #[plv q, .bool true], pull_results _ _ (w.heap.size + 3) (w.heap.size + 4) _ _ (((z3.store q).other (by omega) _ _).put hK') (bxPut ((st6_bx z4 (by omega)).set _) hK') (by simp) (by simp), ?_, below_put ((st6_below hBW (by omega)).setCell (p := ⟨w.heap.size + 4, 0, none⟩) (by simp) _) hK' (by omega)⟩
    rw [hn]; rfl
  case stop =>
    rintro D c' pre W hD ⟨rest, hrest⟩ ⟨⟨rfl, hnone, z3, z4⟩, hBW⟩ hK
    gi_wp2
    refine ⟨by simp, .inl ⟨_, _, rfl, run_takeDeferred hK, ?_⟩⟩
    refine ⟨.tuple #[plv ⟨0, 0, 0, 0, 0, 0⟩, .bool false], pull_results _ _ (w.heap.size + 3) (w.heap.size + 4) _ _ (z3.put hK) (bxPut z4 hK) (by simp) (by simp), ?_, below_put hBW hK (by omega)⟩
    have hn : pullF ts f p = none := by
      unfold pullF
      have hl := hx.len
      subst hl
      rw [hrest]
      exact pullL_none ts f pre rest p hnone
    rw [hn]; rfl
end Go.Proofs.YthjgecblkagelaaGreat

/- Which windows pull: everyone, has, lacks. -/
namespace Go.Proofs.YthjgecblkagelaaGreat
open Go.RowKit Go.Shelf

def idxF (xs : List Int) (x : Int) : Int := if x ∈ xs then 0 else -1

set_option maxHeartbeats 400000 in
theorem gindex_any (w : World) (B : Nat) (A : Option Addr) (n c : Nat) (xs : List Int) (x : Int) (hx : IntsAt w B A n xs) :
    Calls Tryz.prog 102 #[.slice A n c, .int .i64 x] w fun e w' => ∃ i : Int, e = .returned (.int .i64 i) ∧ w' = w ∧ decide (0 ≤ i) = decide (x ∈ xs) := by
  have hm := hx.small
  go_enter Tryz.func102, Tryz.ntmps102
  go_wp2
  go_loop [5, 8] (fun _ i => ∃ k : Nat, k ≤ n ∧ i = .int .i64 k ∧ ∀ j, j < k → x ≠ xs[j]?.getD 0) (fun _ i => n - (intOf i).toNat)
  case atStart => exact ⟨0, by omega, rfl, fun j hj => by omega⟩
  case round =>
    obtain ⟨k, hk, rfl, hall⟩ := hrel
    have Hall := Lib.hid hall
    clear hall
    by_cases hlt : k < n
    · obtain ⟨b, o, rfl, _, hc⟩ := hx.cell hlt
      by_cases hq : x = xs[k]?.getD 0
      · have hb : (x == xs[k]?.getD 0) = true := by simp [hq]
        have Hq := Lib.hid hq
        clear hq
        go_wp2
        go_ret
        refine ⟨_, rfl, rfl, ?_⟩
        have : x ∈ xs := by
          have hk' : k < xs.length := by rw [hx.len]; exact hlt
          rw [Hq.out, List.getElem?_eq_getElem hk']
          exact List.getElem_mem hk'
        simp [this]
      · have hb : (x == xs[k]?.getD 0) = false := by simp [hq]
        have Hq := Lib.hid hq
        clear hq
        go_wp2
        go_round
        case rel => exact ⟨k + 1, by omega, by go_num, fun j hj => by rcases Nat.lt_succ_iff_lt_or_eq.1 hj with h | rfl; exact Hall.out j h; exact Hq.out⟩
        case measure => simp [intOf]; omega
    · go_wp2
      go_ret
      refine ⟨_, rfl, rfl, ?_⟩
      have : ¬ x ∈ xs := by
        intro h
        obtain ⟨i, hi, rfl⟩ := List.mem_iff_getElem.1 h
        have := Hall.out i (by rw [hx.len] at hi; omega)
        rw [List.getElem?_eq_getElem hi] at this
        simp at this
      simp [this]

set_option maxHeartbeats 400000 in
theorem gcontains_any (w : World) (B : Nat) (A : Option Addr) (n c : Nat) (xs : List Int) (x : Int) (hx : IntsAt w B A n xs) :
    Calls Tryz.prog 82 #[.slice A n c, .int .i64 x] w fun e w' => e = .returned (.bool (decide (x ∈ xs))) ∧ w' = w := by
  go_enter Tryz.func82, Tryz.ntmps82
  go_wp2_with (go_at_call 102; refine (gindex_any _ B _ _ _ xs _ hx).mono ?_; rintro e w' ⟨i, rfl, rfl, hi'⟩; have HI := Lib.hid hi'; clear hi')
  go_ret
  exact ⟨ret_bool HI.out, rfl⟩

set_option maxHeartbeats 400000 in
theorem has_any (w : World) (B : Nat) (A : Option Addr) (n c : Nat) (xs : List Int) (x : Int) (hx : IntsAt w B A n xs) :
    Calls Tryz.prog 57 #[.slice A n c, .int .i64 x] w fun e w' => e = .returned (.bool (decide (x ∈ xs))) ∧ w' = w := by
  go_enter Tryz.func57, Tryz.ntmps57
  go_wp2_with (go_at_call 82; refine (gcontains_any _ B _ _ _ xs _ hx).mono ?_; rintro e w' ⟨rfl, rfl⟩)
  go_ret
  exact ⟨rfl, rfl⟩

set_option maxHeartbeats 400000 in
theorem lacks_any (w : World) (B : Nat) (A : Option Addr) (n c : Nat) (xs : List Int) (x : Int) (hx : IntsAt w B A n xs) :
    Calls Tryz.prog 73 #[.slice A n c, .int .i64 x] w fun e w' => e = .returned (.bool (!decide (x ∈ xs))) ∧ w' = w := by
  go_enter Tryz.func73, Tryz.ntmps73
  go_wp2_with (go_at_call 57; refine (has_any _ B _ _ _ xs _ hx).mono ?_; rintro e w' ⟨rfl, rfl⟩)
  go_ret
  exact ⟨ret_bool (by simp), rfl⟩

set_option maxHeartbeats 400000 in
theorem everyone_any (w : World) (x : Int) : Calls Tryz.prog 77 #[.int .i64 x] w fun e w' => e = .returned (.bool true) ∧ w' = w := by
  go_enter Tryz.func77, Tryz.ntmps77
  go_wp2
  go_ret
  exact ⟨rfl, rfl⟩

theorem enters_has (args : Array Value) (w : World) : (callFunc 57 args).run Tryz.prog w = .ok (.enter 57 args) w := enters_of Tryz.func57 (by kernel_rfl) rfl args w
theorem enters_lacks (args : Array Value) (w : World) : (callFunc 73 args).run Tryz.prog w = .ok (.enter 73 args) w := enters_of Tryz.func73 (by kernel_rfl) rfl args w
theorem enters_everyone (args : Array Value) (w : World) : (callFunc 77 args).run Tryz.prog w = .ok (.enter 77 args) w := enters_of Tryz.func77 (by kernel_rfl) rfl args w

def allF (_ : Nat) : Bool := true
def hasF (xs : List Int) (i : Nat) : Bool := decide ((i : Int) ∈ xs)
def lacksF (xs : List Int) (i : Nat) : Bool := !decide ((i : Int) ∈ xs)

theorem pullFn_all (w : World) (B : Nat) : PullFn w B 77 #[] allF :=
  ⟨enters_everyone, fun W i _ _ => (everyone_any W i).mono fun e w' h => ⟨h.1, by rw [h.2]; exact Below.refl _ _⟩⟩
theorem pullFn_has (w : World) (B D : Nat) (A : Option Addr) (n c : Nat) (xs : List Int) (hx : IntsAt w D A n xs) (hD : D ≤ B) : PullFn w B 57 #[.slice A n c] (hasF xs) :=
  ⟨enters_has, fun W i _ hW => (has_any W D A n c xs i (hx.below hW hD)).mono fun e w' h => ⟨h.1, by rw [h.2]; exact Below.refl _ _⟩⟩
theorem pullFn_lacks (w : World) (B D : Nat) (A : Option Addr) (n c : Nat) (xs : List Int) (hx : IntsAt w D A n xs) (hD : D ≤ B) : PullFn w B 73 #[.slice A n c] (lacksF xs) :=
  ⟨enters_lacks, fun W i _ hW => (lacks_any W D A n c xs i (hx.below hW hD)).mono fun e w' h => ⟨h.1, by rw [h.2]; exact Below.refl _ _⟩⟩
end Go.Proofs.YthjgecblkagelaaGreat

/- place.list. -/
namespace Go.Proofs.YthjgecblkagelaaGreat
open Go.RowKit Go.Shelf


theorem mk1 (w : World) : (Instr.makeSlice 22 (.int .i64 1) (.int .i64 1)).run Tryz.prog w = .ok (.slice (some ⟨w.heap.size, 0, none⟩) 1 1) (w.alloc (.cells #[.int .i64 0] 3)) := by kernel_rfl
theorem key1 (a b c d e : Int) (j : Nat) (v : Value) (hj : [.int .i64 a][j]? = some v) : [Value.int IntKind.i64 1, .int .i64 a, .int .i64 b, .int .i64 c, .int .i64 d, .int .i64 e][1 + j]? = some v := by
  exact match j, hj with
      | 0, h => by simp at h; subst h; rfl
      | j + 1, h => by simp at h
set_option maxRecDepth 100000 in
set_option maxHeartbeats 1000000 in
theorem list1_any (w : World) (a b c d e : Int) :
    Calls Tryz.prog 58 #[plv ⟨1, a, b, c, d, e⟩] w fun ee w' => ∃ g, w.heap.size ≤ g ∧ ee = .returned (.slice (some ⟨g, 0, none⟩) 1 1) ∧ IntsAt w' w'.heap.size (some ⟨g, 0, none⟩) 1 [a] ∧ Below w.heap.size w w' := by
  have hsz : (Tryz.prog.info? 3).map (·.size) = some 1 := by kernel_rfl
  have Hsz := Lib.hid hsz
  clear hsz
  have hmk := mk1
  have hb0 : Below w.heap.size w ((w.alloc (.cells (plc ⟨1, a, b, c, d, e⟩) 64)).alloc (.cells #[.int .i64 0] 3)) := ((Below.refl _ _).alloc (Nat.le_refl _) _).alloc (by simp) _
  have z0 := (PlAt.new w ⟨1, a, b, c, d, e⟩).alloc (.cells #[.int .i64 0] 3)
  have z1 := World.alloc_heap_new (w.alloc (.cells (plc ⟨1, a, b, c, d, e⟩) 64)) (.cells #[.int .i64 0] 3)
  simp only [World.size_alloc] at z1
  go_enter Tryz.func58, Tryz.ntmps58
  go_wp2_with (with_reducible refine wpList_copy_splice rfl (.tmp 7) (.tmp 9) 22 22 rfl 3 Tryz.underlying22 Hsz.out _ _ _ _ _ _ rfl rfl (w.heap.size + 1) 0 [.int .i64 0] 3 ?hg [.int .i64 a] ?hn ?hpos ?hfit ?h1 w.heap.size w ?hb ?hBg ?_)
  case hg => exact z1
  case hn => rfl
  case hpos =>
    exact key1 a b c d e
  case hfit => simp
  case h1 => simp [Value.oneCell']
  case hb => exact hb0
  case hBg => omega
  intro w2 hg2 hb2
  have hg3 : w2.heap[w.heap.size + 1]? = some (.cells #[.int .i64 a] 3 (0, 0)) := hg2.out
  have hlt : w.heap.size + 1 < w2.heap.size := (Array.getElem?_eq_some_iff.1 hg3).1
  clear hg2
  have Hg := Lib.hid hg3
  clear hg3
  go_wp2
  go_ret
  refine ⟨w.heap.size + 1, Nat.le_succ _, rfl, ⟨rfl, by omega, fun _ => ⟨_, _, rfl, by omega, fun j hj => ?_⟩⟩, hb2⟩
  have hjs : j = 0 := by omega
  rcases hjs with rfl <;> simp [World.cell?, Hg.out]

theorem mk2 (w : World) : (Instr.makeSlice 22 (.int .i64 2) (.int .i64 2)).run Tryz.prog w = .ok (.slice (some ⟨w.heap.size, 0, none⟩) 2 2) (w.alloc (.cells #[.int .i64 0, .int .i64 0] 3)) := by kernel_rfl
theorem key2 (a b c d e : Int) (j : Nat) (v : Value) (hj : [.int .i64 a, .int .i64 b][j]? = some v) : [Value.int IntKind.i64 2, .int .i64 a, .int .i64 b, .int .i64 c, .int .i64 d, .int .i64 e][1 + j]? = some v := by
  exact match j, hj with
      | 0, h => by simp at h; subst h; rfl
      | 1, h => by simp at h; subst h; rfl
      | j + 2, h => by simp at h
set_option maxRecDepth 100000 in
set_option maxHeartbeats 1000000 in
theorem list2_any (w : World) (a b c d e : Int) :
    Calls Tryz.prog 58 #[plv ⟨2, a, b, c, d, e⟩] w fun ee w' => ∃ g, w.heap.size ≤ g ∧ ee = .returned (.slice (some ⟨g, 0, none⟩) 2 2) ∧ IntsAt w' w'.heap.size (some ⟨g, 0, none⟩) 2 [a, b] ∧ Below w.heap.size w w' := by
  have hsz : (Tryz.prog.info? 3).map (·.size) = some 1 := by kernel_rfl
  have Hsz := Lib.hid hsz
  clear hsz
  have hmk := mk2
  have hb0 : Below w.heap.size w ((w.alloc (.cells (plc ⟨2, a, b, c, d, e⟩) 64)).alloc (.cells #[.int .i64 0, .int .i64 0] 3)) := ((Below.refl _ _).alloc (Nat.le_refl _) _).alloc (by simp) _
  have z0 := (PlAt.new w ⟨2, a, b, c, d, e⟩).alloc (.cells #[.int .i64 0, .int .i64 0] 3)
  have z1 := World.alloc_heap_new (w.alloc (.cells (plc ⟨2, a, b, c, d, e⟩) 64)) (.cells #[.int .i64 0, .int .i64 0] 3)
  simp only [World.size_alloc] at z1
  go_enter Tryz.func58, Tryz.ntmps58
  go_wp2_with (with_reducible refine wpList_copy_splice rfl (.tmp 7) (.tmp 9) 22 22 rfl 3 Tryz.underlying22 Hsz.out _ _ _ _ _ _ rfl rfl (w.heap.size + 1) 0 [.int .i64 0, .int .i64 0] 3 ?hg [.int .i64 a, .int .i64 b] ?hn ?hpos ?hfit ?h1 w.heap.size w ?hb ?hBg ?_)
  case hg => exact z1
  case hn => rfl
  case hpos =>
    exact key2 a b c d e
  case hfit => simp
  case h1 => simp [Value.oneCell']
  case hb => exact hb0
  case hBg => omega
  intro w2 hg2 hb2
  have hg3 : w2.heap[w.heap.size + 1]? = some (.cells #[.int .i64 a, .int .i64 b] 3 (0, 0)) := hg2.out
  have hlt : w.heap.size + 1 < w2.heap.size := (Array.getElem?_eq_some_iff.1 hg3).1
  clear hg2
  have Hg := Lib.hid hg3
  clear hg3
  go_wp2
  go_ret
  refine ⟨w.heap.size + 1, Nat.le_succ _, rfl, ⟨rfl, by omega, fun _ => ⟨_, _, rfl, by omega, fun j hj => ?_⟩⟩, hb2⟩
  have hjs : j = 0 ∨ j = 1 := by omega
  rcases hjs with rfl | rfl <;> simp [World.cell?, Hg.out]

theorem mk3 (w : World) : (Instr.makeSlice 22 (.int .i64 3) (.int .i64 3)).run Tryz.prog w = .ok (.slice (some ⟨w.heap.size, 0, none⟩) 3 3) (w.alloc (.cells #[.int .i64 0, .int .i64 0, .int .i64 0] 3)) := by kernel_rfl
theorem key3 (a b c d e : Int) (j : Nat) (v : Value) (hj : [.int .i64 a, .int .i64 b, .int .i64 c][j]? = some v) : [Value.int IntKind.i64 3, .int .i64 a, .int .i64 b, .int .i64 c, .int .i64 d, .int .i64 e][1 + j]? = some v := by
  exact match j, hj with
      | 0, h => by simp at h; subst h; rfl
      | 1, h => by simp at h; subst h; rfl
      | 2, h => by simp at h; subst h; rfl
      | j + 3, h => by simp at h
set_option maxRecDepth 100000 in
set_option maxHeartbeats 1000000 in
theorem list3_any (w : World) (a b c d e : Int) :
    Calls Tryz.prog 58 #[plv ⟨3, a, b, c, d, e⟩] w fun ee w' => ∃ g, w.heap.size ≤ g ∧ ee = .returned (.slice (some ⟨g, 0, none⟩) 3 3) ∧ IntsAt w' w'.heap.size (some ⟨g, 0, none⟩) 3 [a, b, c] ∧ Below w.heap.size w w' := by
  have hsz : (Tryz.prog.info? 3).map (·.size) = some 1 := by kernel_rfl
  have Hsz := Lib.hid hsz
  clear hsz
  have hmk := mk3
  have hb0 : Below w.heap.size w ((w.alloc (.cells (plc ⟨3, a, b, c, d, e⟩) 64)).alloc (.cells #[.int .i64 0, .int .i64 0, .int .i64 0] 3)) := ((Below.refl _ _).alloc (Nat.le_refl _) _).alloc (by simp) _
  have z0 := (PlAt.new w ⟨3, a, b, c, d, e⟩).alloc (.cells #[.int .i64 0, .int .i64 0, .int .i64 0] 3)
  have z1 := World.alloc_heap_new (w.alloc (.cells (plc ⟨3, a, b, c, d, e⟩) 64)) (.cells #[.int .i64 0, .int .i64 0, .int .i64 0] 3)
  simp only [World.size_alloc] at z1
  go_enter Tryz.func58, Tryz.ntmps58
  go_wp2_with (with_reducible refine wpList_copy_splice rfl (.tmp 7) (.tmp 9) 22 22 rfl 3 Tryz.underlying22 Hsz.out _ _ _ _ _ _ rfl rfl (w.heap.size + 1) 0 [.int .i64 0, .int .i64 0, .int .i64 0] 3 ?hg [.int .i64 a, .int .i64 b, .int .i64 c] ?hn ?hpos ?hfit ?h1 w.heap.size w ?hb ?hBg ?_)
  case hg => exact z1
  case hn => rfl
  case hpos =>
    exact key3 a b c d e
  case hfit => simp
  case h1 => simp [Value.oneCell']
  case hb => exact hb0
  case hBg => omega
  intro w2 hg2 hb2
  have hg3 : w2.heap[w.heap.size + 1]? = some (.cells #[.int .i64 a, .int .i64 b, .int .i64 c] 3 (0, 0)) := hg2.out
  have hlt : w.heap.size + 1 < w2.heap.size := (Array.getElem?_eq_some_iff.1 hg3).1
  clear hg2
  have Hg := Lib.hid hg3
  clear hg3
  go_wp2
  go_ret
  refine ⟨w.heap.size + 1, Nat.le_succ _, rfl, ⟨rfl, by omega, fun _ => ⟨_, _, rfl, by omega, fun j hj => ?_⟩⟩, hb2⟩
  have hjs : j = 0 ∨ j = 1 ∨ j = 2 := by omega
  rcases hjs with rfl | rfl | rfl <;> simp [World.cell?, Hg.out]

theorem mk4 (w : World) : (Instr.makeSlice 22 (.int .i64 4) (.int .i64 4)).run Tryz.prog w = .ok (.slice (some ⟨w.heap.size, 0, none⟩) 4 4) (w.alloc (.cells #[.int .i64 0, .int .i64 0, .int .i64 0, .int .i64 0] 3)) := by kernel_rfl
theorem key4 (a b c d e : Int) (j : Nat) (v : Value) (hj : [.int .i64 a, .int .i64 b, .int .i64 c, .int .i64 d][j]? = some v) : [Value.int IntKind.i64 4, .int .i64 a, .int .i64 b, .int .i64 c, .int .i64 d, .int .i64 e][1 + j]? = some v := by
  exact match j, hj with
      | 0, h => by simp at h; subst h; rfl
      | 1, h => by simp at h; subst h; rfl
      | 2, h => by simp at h; subst h; rfl
      | 3, h => by simp at h; subst h; rfl
      | j + 4, h => by simp at h
set_option maxRecDepth 100000 in
set_option maxHeartbeats 1000000 in
theorem list4_any (w : World) (a b c d e : Int) :
    Calls Tryz.prog 58 #[plv ⟨4, a, b, c, d, e⟩] w fun ee w' => ∃ g, w.heap.size ≤ g ∧ ee = .returned (.slice (some ⟨g, 0, none⟩) 4 4) ∧ IntsAt w' w'.heap.size (some ⟨g, 0, none⟩) 4 [a, b, c, d] ∧ Below w.heap.size w w' := by
  have hsz : (Tryz.prog.info? 3).map (·.size) = some 1 := by kernel_rfl
  have Hsz := Lib.hid hsz
  clear hsz
  have hmk := mk4
  have hb0 : Below w.heap.size w ((w.alloc (.cells (plc ⟨4, a, b, c, d, e⟩) 64)).alloc (.cells #[.int .i64 0, .int .i64 0, .int .i64 0, .int .i64 0] 3)) := ((Below.refl _ _).alloc (Nat.le_refl _) _).alloc (by simp) _
  have z0 := (PlAt.new w ⟨4, a, b, c, d, e⟩).alloc (.cells #[.int .i64 0, .int .i64 0, .int .i64 0, .int .i64 0] 3)
  have z1 := World.alloc_heap_new (w.alloc (.cells (plc ⟨4, a, b, c, d, e⟩) 64)) (.cells #[.int .i64 0, .int .i64 0, .int .i64 0, .int .i64 0] 3)
  simp only [World.size_alloc] at z1
  go_enter Tryz.func58, Tryz.ntmps58
  go_wp2_with (with_reducible refine wpList_copy_splice rfl (.tmp 7) (.tmp 9) 22 22 rfl 3 Tryz.underlying22 Hsz.out _ _ _ _ _ _ rfl rfl (w.heap.size + 1) 0 [.int .i64 0, .int .i64 0, .int .i64 0, .int .i64 0] 3 ?hg [.int .i64 a, .int .i64 b, .int .i64 c, .int .i64 d] ?hn ?hpos ?hfit ?h1 w.heap.size w ?hb ?hBg ?_)
  case hg => exact z1
  case hn => rfl
  case hpos =>
    exact key4 a b c d e
  case hfit => simp
  case h1 => simp [Value.oneCell']
  case hb => exact hb0
  case hBg => omega
  intro w2 hg2 hb2
  have hg3 : w2.heap[w.heap.size + 1]? = some (.cells #[.int .i64 a, .int .i64 b, .int .i64 c, .int .i64 d] 3 (0, 0)) := hg2.out
  have hlt : w.heap.size + 1 < w2.heap.size := (Array.getElem?_eq_some_iff.1 hg3).1
  clear hg2
  have Hg := Lib.hid hg3
  clear hg3
  go_wp2
  go_ret
  refine ⟨w.heap.size + 1, Nat.le_succ _, rfl, ⟨rfl, by omega, fun _ => ⟨_, _, rfl, by omega, fun j hj => ?_⟩⟩, hb2⟩
  have hjs : j = 0 ∨ j = 1 ∨ j = 2 ∨ j = 3 := by omega
  rcases hjs with rfl | rfl | rfl | rfl <;> simp [World.cell?, Hg.out]

theorem mk5 (w : World) : (Instr.makeSlice 22 (.int .i64 5) (.int .i64 5)).run Tryz.prog w = .ok (.slice (some ⟨w.heap.size, 0, none⟩) 5 5) (w.alloc (.cells #[.int .i64 0, .int .i64 0, .int .i64 0, .int .i64 0, .int .i64 0] 3)) := by kernel_rfl
theorem key5 (a b c d e : Int) (j : Nat) (v : Value) (hj : [.int .i64 a, .int .i64 b, .int .i64 c, .int .i64 d, .int .i64 e][j]? = some v) : [Value.int IntKind.i64 5, .int .i64 a, .int .i64 b, .int .i64 c, .int .i64 d, .int .i64 e][1 + j]? = some v := by
  exact match j, hj with
      | 0, h => by simp at h; subst h; rfl
      | 1, h => by simp at h; subst h; rfl
      | 2, h => by simp at h; subst h; rfl
      | 3, h => by simp at h; subst h; rfl
      | 4, h => by simp at h; subst h; rfl
      | j + 5, h => by simp at h
set_option maxRecDepth 100000 in
set_option maxHeartbeats 1000000 in
theorem list5_any (w : World) (a b c d e : Int) :
    Calls Tryz.prog 58 #[plv ⟨5, a, b, c, d, e⟩] w fun ee w' => ∃ g, w.heap.size ≤ g ∧ ee = .returned (.slice (some ⟨g, 0, none⟩) 5 5) ∧ IntsAt w' w'.heap.size (some ⟨g, 0, none⟩) 5 [a, b, c, d, e] ∧ Below w.heap.size w w' := by
  have hsz : (Tryz.prog.info? 3).map (·.size) = some 1 := by kernel_rfl
  have Hsz := Lib.hid hsz
  clear hsz
  have hmk := mk5
  have hb0 : Below w.heap.size w ((w.alloc (.cells (plc ⟨5, a, b, c, d, e⟩) 64)).alloc (.cells #[.int .i64 0, .int .i64 0, .int .i64 0, .int .i64 0, .int .i64 0] 3)) := ((Below.refl _ _).alloc (Nat.le_refl _) _).alloc (by simp) _
  have z0 := (PlAt.new w ⟨5, a, b, c, d, e⟩).alloc (.cells #[.int .i64 0, .int .i64 0, .int .i64 0, .int .i64 0, .int .i64 0] 3)
  have z1 := World.alloc_heap_new (w.alloc (.cells (plc ⟨5, a, b, c, d, e⟩) 64)) (.cells #[.int .i64 0, .int .i64 0, .int .i64 0, .int .i64 0, .int .i64 0] 3)
  simp only [World.size_alloc] at z1
  go_enter Tryz.func58, Tryz.ntmps58
  go_wp2_with (with_reducible refine wpList_copy_splice rfl (.tmp 7) (.tmp 9) 22 22 rfl 3 Tryz.underlying22 Hsz.out _ _ _ _ _ _ rfl rfl (w.heap.size + 1) 0 [.int .i64 0, .int .i64 0, .int .i64 0, .int .i64 0, .int .i64 0] 3 ?hg [.int .i64 a, .int .i64 b, .int .i64 c, .int .i64 d, .int .i64 e] ?hn ?hpos ?hfit ?h1 w.heap.size w ?hb ?hBg ?_)
  case hg => exact z1
  case hn => rfl
  case hpos =>
    exact key5 a b c d e
  case hfit => simp
  case h1 => simp [Value.oneCell']
  case hb => exact hb0
  case hBg => omega
  intro w2 hg2 hb2
  have hg3 : w2.heap[w.heap.size + 1]? = some (.cells #[.int .i64 a, .int .i64 b, .int .i64 c, .int .i64 d, .int .i64 e] 3 (0, 0)) := hg2.out
  have hlt : w.heap.size + 1 < w2.heap.size := (Array.getElem?_eq_some_iff.1 hg3).1
  clear hg2
  have Hg := Lib.hid hg3
  clear hg3
  go_wp2
  go_ret
  refine ⟨w.heap.size + 1, Nat.le_succ _, rfl, ⟨rfl, by omega, fun _ => ⟨_, _, rfl, by omega, fun j hj => ?_⟩⟩, hb2⟩
  have hjs : j = 0 ∨ j = 1 ∨ j = 2 ∨ j = 3 ∨ j = 4 := by omega
  rcases hjs with rfl | rfl | rfl | rfl | rfl <;> simp [World.cell?, Hg.out]

theorem list_fresh (w : World) (p : Pl) (m : Nat) (h1 : 1 ≤ m) (h5 : m ≤ 5) (hn : p.n = m) :
    Calls Tryz.prog 58 #[plv p] w fun e w' => ∃ g, w.heap.size ≤ g ∧ e = .returned (.slice (some ⟨g, 0, none⟩) m m) ∧ IntsAt w' w'.heap.size (some ⟨g, 0, none⟩) m (plList p) ∧ Below w.heap.size w w' := by
  obtain ⟨pn, a, b, c, d, e⟩ := p
  simp only at hn
  subst hn
  have : m = 1 ∨ m = 2 ∨ m = 3 ∨ m = 4 ∨ m = 5 := by omega
  rcases this with rfl | rfl | rfl | rfl | rfl
  · exact (list1_any w a b c d e).mono fun e' w' ⟨g, hg, he, hi, hb⟩ => ⟨g, hg, he, hi, hb⟩
  · exact (list2_any w a b c d e).mono fun e' w' ⟨g, hg, he, hi, hb⟩ => ⟨g, hg, he, hi, hb⟩
  · exact (list3_any w a b c d e).mono fun e' w' ⟨g, hg, he, hi, hb⟩ => ⟨g, hg, he, hi, hb⟩
  · exact (list4_any w a b c d e).mono fun e' w' ⟨g, hg, he, hi, hb⟩ => ⟨g, hg, he, hi, hb⟩
  · exact (list5_any w a b c d e).mono fun e' w' ⟨g, hg, he, hi, hb⟩ => ⟨g, hg, he, hi, hb⟩

theorem list_any (w : World) (p : Pl) (m : Nat) (h1 : 1 ≤ m) (h5 : m ≤ 5) (hn : p.n = m) :
    Calls Tryz.prog 58 #[plv p] w fun e w' => ∃ A, e = .returned (.slice A m m) ∧ IntsAt w' w'.heap.size A m (plList p) ∧ Below w.heap.size w w' :=
  (list_fresh w p m h1 h5 hn).mono fun _ _ ⟨_, _, he, hi, hb⟩ => ⟨_, he, hi, hb⟩
end Go.Proofs.YthjgecblkagelaaGreat

/- hall.turn and hall.play. -/
namespace Go.Proofs.YthjgecblkagelaaGreat
open Go.RowKit Go.Shelf

/-- A turn: pulls, then a visit. -/
def turnF (ts : List Int) (f : Nat → Bool) (p : Pl) (i : Nat) : Option (Pl × Int) := (pullF ts f p).map fun q => (q.set i 0, q.get i)
def turnRes (o : Option (Pl × Int)) : Value := match o with | some (q, x) => .tuple #[plv q, .int .i64 x, .bool true] | none => .tuple #[plv ⟨0, 0, 0, 0, 0, 0⟩, .int .i64 0, .bool false]

theorem turn_results (W : World) (tmps : Array Value) (b : Nat) (q : Pl) (x : Int) (ok : Bool) (h3 : PlAt W b q) (t3 : tmps.getD 8 undef = .pointer (some ⟨b, 0, none⟩)) (t4 : tmps.getD 9 undef = .int .i64 x) (t5 : tmps.getD 10 undef = .bool ok) :
    (results Tryz.f55 tmps).run Tryz.prog W = .ok (.tuple #[plv q, .int .i64 x, .bool ok]) W := by
  obtain ⟨c0, c1, c2, c3, c4, c5⟩ := h3.cells
  simp only [Array.getD_eq_getD_getElem?] at t3 t4 t5
  simp [results, Tryz.results55, go_sem, t3, t4, t5, c0, c1, c2, c3, c4, c5]

set_option maxRecDepth 100000 in
set_option maxHeartbeats 2000000 in
theorem turn_any (w : World) (B : Nat) (A : Option Addr) (n c : Nat) (ts : List Int) (hx : IntsAt w B A n ts) (hB : B ≤ w.heap.size) (h5 : n ≤ 5) (h12 : ∀ i, i < n → 1 ≤ ts[i]?.getD 0 ∧ ts[i]?.getD 0 ≤ 12)
    (p : Pl) (hp : PlOk ts p) (g : Nat) (fs : Array Value) (f : Nat → Bool) (hf : PullFn w w.heap.size g fs f) (i : Nat) (hi : i < 5) :
    Calls Tryz.prog 55 #[.agg #[.slice A n c], plv p, .func (.func g) fs #[], .int .i64 (i : Int)] w fun e w' =>
      e = .returned (turnRes (turnF ts f p i)) ∧ Below w.heap.size w w' := by
  have hb0 : Below w.heap.size w (((w.alloc (.cells #[.slice A n c] 57)).alloc (.cells (plc p) 64)).alloc (.cells (plc ⟨0, 0, 0, 0, 0, 0⟩) 64)) :=
    (((Below.refl _ w).alloc (Nat.le_refl _) _).alloc (by simp) _).alloc (by simp; omega) _
  have x2 := PlAt.new ((w.alloc (.cells #[.slice A n c] 57)).alloc (.cells (plc p) 64)) ⟨0, 0, 0, 0, 0, 0⟩
  simp only [World.size_alloc, Nat.add_assoc, Nat.reduceAdd] at x2
  go_enter Tryz.func55, Tryz.ntmps55
  go_wp2_with (fail)
  refine (pull_any _ B _ _ _ ts (hx.below hb0 hB) (by simp; omega) h5 h12 p hp g fs f (hf.later hb0 (by simp; omega))).mono ?_
  rintro e w2 ⟨rfl, hb2⟩
  have hB2 : Below w.heap.size w w2 := hb0.trans (hb2.mono hb0.size)
  have y2 := x2.below hb2 x2.lt
  have hz := y2.lt
  obtain ⟨r0, r1, r2, r3, r4, r5⟩ := y2.cells
  obtain ⟨f0, f1, f2, f3, f4, f5⟩ := y2.frozens
  clear hb2 hb0 x2
  cases hpull : pullF ts f p with
  | none =>
    have Hp := Lib.hid hpull
    clear hpull
    dsimp only [pullRes]
    go_wp2
    have ht : turnF ts f p i = none := by unfold turnF; rw [Hp.out]; rfl
    refine bodyPost_ret (v := turnRes none) (turn_results _ _ (w.heap.size + 2) _ _ _ ((y2.store ⟨0, 0, 0, 0, 0, 0⟩).alloc (.cells (plc ⟨0, 0, 0, 0, 0, 0⟩) 64)) (by simp) (by simp) (by simp)) rfl ⟨by rw [ht], ?_⟩
    exact (st6_below hB2 (by omega)).alloc (by simp [st6]; exact hB2.size) _
  | some q =>
    have Hp := Lib.hid hpull
    clear hpull
    dsimp only [pullRes]
    go_wp2_with (fail)
    refine (visited_any _ q i hi).mono ?_
    rintro e w4 ⟨rfl, hb4⟩
    have y5 := (y2.alloc (.cells (plc q) 64)).below hb4 (by simp; omega)
    have hB4 : Below w.heap.size w w4 := (hB2.alloc hB2.size _).trans (hb4.mono (by simp; have := hB2.size; omega))
    clear r0 r1 r2 r3 r4 r5 f0 f1 f2 f3 f4 f5
    obtain ⟨r0, r1, r2, r3, r4, r5⟩ := y5.cells
    obtain ⟨f0, f1, f2, f3, f4, f5⟩ := y5.frozens
    clear hb4
    have ht : turnF ts f p i = some (q.set i 0, q.get i) := by unfold turnF; rw [Hp.out]; rfl
    have Ht := Lib.hid ht
    clear ht
    go_wp2
    refine bodyPost_ret (v := turnRes (some (q.set i 0, q.get i))) (turn_results _ _ (w.heap.size + 2) _ _ _ ((y5.store (q.set i 0)).store (q.set i 0)) (by simp) (by simp) (by simp)) rfl ⟨by rw [Ht.out], ?_⟩
    exact st6_below (st6_below hB4 (by omega)) (by omega)

/-- A row, while all pull: the place behind it, and how many turns were done. -/
def playL (ts : List Int) (row : List Int) (p : Pl) : Option Pl := row.foldl (fun o i => o.bind fun q => (turnF ts allF q i.toNat).map (·.1)) (some p)
/-- How many turns are done before a screw is full. -/
def playN (ts : List Int) : List Int → Pl → Nat
  | [], _ => 0
  | i :: row, p => match turnF ts allF p i.toNat with | some (q, _) => playN ts row q + 1 | none => 0
def playRes (ts : List Int) (row : List Int) (p : Pl) : Value := match playL ts row p with | some q => .tuple #[plv q, .int .i64 (row.length : Int)] | none => .tuple #[plv ⟨0, 0, 0, 0, 0, 0⟩, .int .i64 (playN ts row p : Int)]

theorem play_results (W : World) (tmps : Array Value) (b : Nat) (q : Pl) (x : Int) (h3 : PlAt W b q) (t3 : tmps.getD 6 undef = .pointer (some ⟨b, 0, none⟩)) (t4 : tmps.getD 7 undef = .int .i64 x) :
    (results Tryz.f59 tmps).run Tryz.prog W = .ok (.tuple #[plv q, .int .i64 x]) W := by
  obtain ⟨c0, c1, c2, c3, c4, c5⟩ := h3.cells
  simp only [Array.getD_eq_getD_getElem?] at t3 t4
  simp [results, Tryz.results59, go_sem, t3, t4, c0, c1, c2, c3, c4, c5]
theorem pullStep_ok {ts : List Int} {f : Nat → Bool} {i : Nat} {q r : Pl} (hi : i < 5) (h : pullStep ts f i (some q) = some r) (hq : PlOk ts q) : PlOk ts r := by
  unfold pullStep at h
  cases hf : f i
  · rw [hf] at h; simp at h; subst h; exact hq
  · rw [hf] at h
    simp only [if_true] at h
    by_cases he : q.get i = ts[i]?.getD 0
    · rw [if_pos he] at h; cases h
    · rw [if_neg he] at h
      cases h
      intro j hj
      have := hq j hj
      rw [Pl.get_set _ _ _ _ hi]
      by_cases hji : j = i
      · subst hji; rw [if_pos rfl]; omega
      · rw [if_neg hji]; exact this
theorem pullL_ok {ts : List Int} {f : Nat → Bool} {n : Nat} (h5 : n ≤ 5) : ∀ (l : List (Fin n)) (p q : Pl), pullL ts f l p = some q → PlOk ts p → PlOk ts q := by
  intro l
  induction l with
  | nil => intro p q h hp; simp [pullL] at h; subst h; exact hp
  | cons i l ih =>
    intro p q h hp
    unfold pullL at h ih
    simp only [List.foldl_cons] at h
    cases hs : pullStep ts f i.1 (some p) with
    | none => rw [hs, pull_none] at h; cases h
    | some r => rw [hs] at h; exact ih r q h (pullStep_ok (by omega) hs hp)
theorem pullF_ok {ts : List Int} {f : Nat → Bool} {p q : Pl} (h5 : ts.length ≤ 5) (h : pullF ts f p = some q) (hp : PlOk ts p) : PlOk ts q := pullL_ok h5 _ p q h hp
theorem set0_ok {ts : List Int} {q : Pl} (h12 : ∀ i, i < ts.length → 1 ≤ ts[i]?.getD 0 ∧ ts[i]?.getD 0 ≤ 12) (hq : PlOk ts q) (i : Nat) (hi : i < 5) : PlOk ts (q.set i 0) := by
  intro j hj
  rw [Pl.get_set _ _ _ _ hi]
  have := hq j hj
  have := h12 j hj
  by_cases hji : j = i
  · rw [if_pos hji]; omega
  · rw [if_neg hji]; omega
theorem turnF_ok {ts : List Int} {f : Nat → Bool} {p q : Pl} {x : Int} {i : Nat} (h5 : ts.length ≤ 5) (h12 : ∀ i, i < ts.length → 1 ≤ ts[i]?.getD 0 ∧ ts[i]?.getD 0 ≤ 12) (hi : i < 5) (h : turnF ts f p i = some (q, x)) (hp : PlOk ts p) : PlOk ts q := by
  unfold turnF at h
  cases hs : pullF ts f p with
  | none => rw [hs] at h; cases h
  | some r => rw [hs] at h; cases h; exact set0_ok h12 (pullF_ok h5 hs hp) i hi

theorem play_none (ts : List Int) (row : List Int) : row.foldl (fun (o : Option Pl) i => o.bind fun q => (turnF ts allF q i.toNat).map (·.1)) none = none := by
  induction row with
  | nil => rfl
  | cons x xs ih => exact ih
theorem playN_at (ts : List Int) : ∀ (row : List Int) (k : Nat) (p q : Pl), playL ts (row.take k) p = some q → k < row.length → turnF ts allF q (row[k]?.getD 0).toNat = none → playN ts row p = k ∧ playL ts row p = none := by
  intro row
  induction row with
  | nil => intro k p q _ hk; simp at hk
  | cons i row ih =>
    intro k p q h hk hn
    cases k with
    | zero =>
      simp [playL] at h
      subst h
      simp at hn
      constructor
      · simp [playN, hn]
      · unfold playL; simp only [List.foldl_cons, Option.bind_some, hn]; exact play_none ts row
    | succ k =>
      simp only [List.take_succ_cons] at h
      unfold playL at h
      simp only [List.foldl_cons, Option.bind_some] at h
      cases hs : turnF ts allF p i.toNat with
      | none => rw [hs] at h; simp only [Option.map_none] at h; rw [play_none] at h; cases h
      | some r =>
        obtain ⟨r, x⟩ := r
        rw [hs] at h
        simp only [Option.map_some] at h
        have := ih k r q h (by simpa using hk) (by simpa using hn)
        constructor
        · simp [playN, hs, this.1]
        · unfold playL; simp only [List.foldl_cons, Option.bind_some, hs, Option.map_some]; exact this.2
theorem playL_take (ts : List Int) (row : List Int) (k : Nat) (p : Pl) (hk : k < row.length) : playL ts (row.take (k + 1)) p = (playL ts (row.take k) p).bind fun q => (turnF ts allF q (row[k]?.getD 0).toNat).map (·.1) := by
  unfold playL
  rw [take_snoc_int row k hk, List.foldl_append]
  rfl

set_option maxRecDepth 100000 in
set_option maxHeartbeats 2000000 in
theorem play_any (w : World) (B : Nat) (A : Option Addr) (n c : Nat) (ts : List Int) (hx : IntsAt w B A n ts) (hB : B ≤ w.heap.size) (h5 : n ≤ 5) (h12 : ∀ i, i < n → 1 ≤ ts[i]?.getD 0 ∧ ts[i]?.getD 0 ≤ 12)
    (p : Pl) (hp : PlOk ts p) (B2 : Nat) (A2 : Option Addr) (m d : Nat) (row : List Int) (hr : IntsAt w B2 A2 m row) (hB2 : B2 ≤ w.heap.size) (hw : withinF 0 ((n : Int) - 1) row = true) :
    Calls Tryz.prog 59 #[.agg #[.slice A n c], plv p, .slice A2 m d] w fun e w' => e = .returned (playRes ts row p) ∧ Below w.heap.size w w' := by
  have hm := hr.small
  have hb0 : Below w.heap.size w (((w.alloc (.cells #[.slice A n c] 57)).alloc (.cells (plc p) 64)).alloc (.cells (plc ⟨0, 0, 0, 0, 0, 0⟩) 64)) :=
    (((Below.refl _ w).alloc (Nat.le_refl _) _).alloc (by simp) _).alloc (by simp; omega) _
  have x0 := ((Boxed.new w 57 (.slice A n c)).alloc (.cells (plc p) 64)).alloc (.cells (plc ⟨0, 0, 0, 0, 0, 0⟩) 64)
  have x1 := (PlAt.new (w.alloc (.cells #[.slice A n c] 57)) p).alloc (.cells (plc ⟨0, 0, 0, 0, 0, 0⟩) 64)
  have x2 := PlAt.new ((w.alloc (.cells #[.slice A n c] 57)).alloc (.cells (plc p) 64)) ⟨0, 0, 0, 0, 0, 0⟩
  simp only [World.size_alloc, Nat.add_assoc, Nat.reduceAdd] at x1 x2
  go_enter Tryz.func59, Tryz.ntmps59
  go_wp2
  go_loopw [8, 9, 10, 11, 12, 15] (fun _ _ _ _ _ i wr => ∃ (k : Nat) (q : Pl), k ≤ m ∧ i = .int .i64 k ∧ Boxed wr w.heap.size 57 (.slice A n c) ∧ PlAt wr (w.heap.size + 1) q ∧ PlAt wr (w.heap.size + 2) ⟨0, 0, 0, 0, 0, 0⟩ ∧ Below w.heap.size w wr ∧ PlOk ts q ∧ playL ts (row.take k) p = some q)
    (fun _ _ _ _ _ i _ => m - (intOf i).toNat)
  case atStart => exact ⟨0, p, by omega, rfl, x0, x1, x2, hb0, hp, rfl⟩
  case round =>
    obtain ⟨k, q, hk, rfl, y0, y1, y2, hb, hq, hrow⟩ := hrel
    have Hrow := Lib.hid hrow
    clear hrow x0 x1 x2 hb0
    have c0 := y0.cell
    obtain ⟨c1, c2, c3, c4, c5, c6⟩ := y1.cells
    obtain ⟨r0, r1, r2, r3, r4, r5⟩ := y2.cells
    obtain ⟨f0, f1, f2, f3, f4, f5⟩ := y2.frozens
    by_cases hlt : k < m
    · obtain ⟨b, o, hA, hbB, hc⟩ := (hr.below hb hB2).cell hlt
      have hwk := all_within hw k (by rw [hr.len]; exact hlt)
      obtain ⟨i, hi⟩ := Int.eq_ofNat_of_zero_le hwk.1
      subst hA
      rw [hi] at hc
      have Hi := Lib.hid hi
      clear hi
      have hi5 : i < 5 := by have := hwk.2; have := Hi.out; omega
      have h12' : ∀ i, i < ts.length → 1 ≤ ts[i]?.getD 0 ∧ ts[i]?.getD 0 ≤ 12 := fun i hi => h12 i (by rw [← hx.len]; exact hi)
      go_wp2_with (fail)
      refine (turn_any wr B _ _ _ ts (hx.below hb hB) (by have := hb.size; omega) h5 h12 q hq 77 #[] allF (pullFn_all wr _) i hi5).mono ?_
      rintro e w4 ⟨rfl, hb4⟩
      have hB4 : Below w.heap.size w w4 := hb.trans (hb4.mono hb.size)
      have z0 := bxBelow y0 hb4 y0.lt
      have z1 := y1.below hb4 y1.lt
      have z2 := y2.below hb4 y2.lt
      have hz4 := z2.lt
      clear c0 c1 c2 c3 c4 c5 c6 r0 r1 r2 r3 r4 r5 f0 f1 f2 f3 f4 f5
      cases ht : turnF ts allF q i with
      | none =>
        have hN := playN_at ts row k p q Hrow.out (by rw [hr.len]; exact hlt) (by rw [Hi.out]; exact ht)
        have HN := Lib.hid hN
        clear hN
        have Ht := Lib.hid ht
        clear ht
        obtain ⟨r0, r1, r2, r3, r4, r5⟩ := z2.cells
        obtain ⟨f0, f1, f2, f3, f4, f5⟩ := z2.frozens
        dsimp only [turnRes]
        go_wp2
        refine bodyPost_ret (v := .tuple #[plv ⟨0, 0, 0, 0, 0, 0⟩, .int .i64 (k : Int)]) (play_results _ _ (w.heap.size + 2) _ _ ((z2.store ⟨0, 0, 0, 0, 0, 0⟩).alloc (.cells (plc ⟨0, 0, 0, 0, 0, 0⟩) 64)) (by simp) (by simp)) rfl ⟨?_, ?_⟩
        · unfold playRes; rw [HN.out.2, HN.out.1]
        · exact (st6_below hB4 (by omega)).alloc (by simp [st6]; exact hB4.size) _
      | some qx =>
        obtain ⟨q2, x⟩ := qx
        have hok := turnF_ok (by rw [hx.len]; exact h5) h12' hi5 ht hq
        have htk : playL ts (row.take (k + 1)) p = some q2 := by rw [playL_take ts row k p (by rw [hr.len]; exact hlt), Hrow.out, Hi.out]; simp [ht]
        have Htk := Lib.hid htk
        clear htk ht
        have za := z1.alloc (.cells #[.int .i64 q2.n, .int .i64 q2.a, .int .i64 q2.b, .int .i64 q2.c, .int .i64 q2.d, .int .i64 q2.e] 64)
        obtain ⟨f0, f1, f2, f3, f4, f5⟩ := za.frozens
        obtain ⟨c1, c2, c3, c4, c5, c6⟩ := za.cells
        dsimp only [turnRes]
        go_wp2
        go_roundw
        case rel =>
          refine ⟨k + 1, q2, by omega, by go_num, ?_, ?_, ?_, ?_, hok, Htk.out⟩
          · exact st6_bx (z0.alloc _) (by omega)
          · exact za.store q2
          · exact st6_pl (z2.alloc _) (by omega)
          · exact st6_below (hB4.alloc hB4.size _) (by omega)
        case measure => simp [intOf]; omega
    · obtain rfl : k = m := by omega
      have ht : row.take k = row := by rw [List.take_of_length_le (by rw [hr.len]; exact Nat.le_refl _)]
      have h2 := Hrow.out
      rw [ht] at h2
      have H2 := Lib.hid h2
      clear h2 ht
      go_wp2
      refine bodyPost_ret (v := .tuple #[plv q, .int .i64 (k : Int)]) (play_results _ _ (w.heap.size + 2) _ _ (y2.store q) (by simp) (by simp)) rfl ?_
      refine ⟨?_, ?_⟩
      · unfold playRes; rw [H2.out, hr.len]
      · exact st6_below hb (by omega)
end Go.Proofs.YthjgecblkagelaaGreat
