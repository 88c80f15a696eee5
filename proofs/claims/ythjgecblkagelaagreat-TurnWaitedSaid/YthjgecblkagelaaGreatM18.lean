/- Parts of a proof: BD BE. -/
import Derived.Test.YthjgecblkagelaaGreatM17

/- loop: what the memory holds in between. -/
namespace Go.Proofs.YthjgecblkagelaaGreat
open Go.RowKit Go.Shelf

attribute [local go_sem] Oper.semAt_some

def WkAt (W : World) (b : Nat) (q : Pl) (v : Value) : Prop := W.heap[b]? = some (.cells #[.int .i64 q.n, .int .i64 q.a, .int .i64 q.b, .int .i64 q.c, .int .i64 q.d, .int .i64 q.e, v] 135 (0, 0))
theorem WkAt.lt {W : World} {b : Nat} {q : Pl} {v : Value} (h : WkAt W b q v) : b < W.heap.size := (Array.getElem?_eq_some_iff.1 h).1
theorem WkAt.cells {W : World} {b : Nat} {q : Pl} {v : Value} (h : WkAt W b q v) : W.cell? ⟨b, 0, none⟩ = some (.int .i64 q.n) ∧ W.cell? ⟨b, 1, none⟩ = some (.int .i64 q.a) ∧ W.cell? ⟨b, 2, none⟩ = some (.int .i64 q.b) ∧ W.cell? ⟨b, 3, none⟩ = some (.int .i64 q.c) ∧
    W.cell? ⟨b, 4, none⟩ = some (.int .i64 q.d) ∧ W.cell? ⟨b, 5, none⟩ = some (.int .i64 q.e) ∧ W.cell? ⟨b, 6, none⟩ = some v := by
  unfold WkAt at h
  simp [World.cell?, h]
theorem WkAt.below {W W' : World} {b D : Nat} {q : Pl} {v : Value} (h : WkAt W b q v) (hb : Below D W W') (hD : b < D) : WkAt W' b q v := (hb.block b hD).trans h

/-- The boxes of a search: they stay. -/
structure LpX (w : World) (A : Option Addr) (n c ms ml sn : Nat) (start : Pl) (ok : Bool) (rv : Value) (W : World) : Prop where
  tb : TbAt W w.heap.size A n c ms ml
  st : PlAt W (w.heap.size + 1) start
  mp : Boxed W (w.heap.size + 2) 109 (.map (some sn))
  r1 : Boxed W (w.heap.size + 3) 22 rv
  r2 : Boxed W (w.heap.size + 4) 4 (.bool ok)
theorem LpX.kept {w : World} {A : Option Addr} {n c ms ml sn : Nat} {start : Pl} {ok : Bool} {rv : Value} {W W' : World} (h : LpX w A n c ms ml sn start ok rv W) (hk : ∀ k, w.heap.size ≤ k → k < w.heap.size + 5 → (∃ cs t fr, W.heap[k]? = some (.cells cs t fr) ∧ t ≠ 135) → W'.heap[k]? = W.heap[k]?) : LpX w A n c ms ml sn start ok rv W' :=
  ⟨(hk _ (by omega) (by omega) ⟨_, _, _, h.tb, by decide⟩).trans h.tb, (hk _ (by omega) (by omega) ⟨_, _, _, h.st, by decide⟩).trans h.st, (hk _ (by omega) (by omega) ⟨_, _, _, h.mp, by decide⟩).trans h.mp,
    (hk _ (by omega) (by omega) ⟨_, _, _, h.r1, by decide⟩).trans h.r1, (hk _ (by omega) (by omega) ⟨_, _, _, h.r2, by decide⟩).trans h.r2⟩

section
variable {w : World} {A : Option Addr} {n c ms ml sn : Nat} {start : Pl} {ok : Bool} {rv : Value} {W W' : World}
theorem LpX.below {D : Nat} (h : LpX w A n c ms ml sn start ok rv W) (hb : Below D W W') (hD : w.heap.size + 5 ≤ D) : LpX w A n c ms ml sn start ok rv W' := h.kept fun k _ _ _ => hb.block k (by omega)
theorem LpX.put (h : LpX w A n c ms ml sn start ok rv W) (hsn : sn < w.heap.size) (o : Obj) : LpX w A n c ms ml sn start ok rv (W.putObj sn o) := h.kept fun k _ _ _ => World.putObj_heap_other (by omega)
theorem LpX.setO (h : LpX w A n c ms ml sn start ok rv W) (b : Nat) (hb : w.heap.size + 5 ≤ b) (u : Value) : LpX w A n c ms ml sn start ok rv (W.setCell ⟨b, 0, none⟩ u) := h.kept fun k _ _ _ => Below.heap_setCell _ ⟨b, 0, none⟩ _ _ (show k ≠ b by omega)
theorem LpX.set1 (h : LpX w A n c ms ml sn start ok rv W) (u : Value) : LpX w A n c ms ml sn start ok u (W.setCell ⟨w.heap.size + 3, 0, none⟩ u) :=
  ⟨(Below.heap_setCell _ _ _ _ (show w.heap.size ≠ w.heap.size + 3 by omega)).trans h.tb, (Below.heap_setCell _ _ _ _ (show w.heap.size + 1 ≠ w.heap.size + 3 by omega)).trans h.st, (Below.heap_setCell _ _ _ _ (show w.heap.size + 2 ≠ w.heap.size + 3 by omega)).trans h.mp,
    h.r1.set u, (Below.heap_setCell _ _ _ _ (show w.heap.size + 4 ≠ w.heap.size + 3 by omega)).trans h.r2⟩
theorem LpX.set2 (h : LpX w A n c ms ml sn start ok rv W) (u : Bool) : LpX w A n c ms ml sn start u rv (W.setCell ⟨w.heap.size + 4, 0, none⟩ (.bool u)) :=
  ⟨(Below.heap_setCell _ _ _ _ (show w.heap.size ≠ w.heap.size + 4 by omega)).trans h.tb, (Below.heap_setCell _ _ _ _ (show w.heap.size + 1 ≠ w.heap.size + 4 by omega)).trans h.st, (Below.heap_setCell _ _ _ _ (show w.heap.size + 2 ≠ w.heap.size + 4 by omega)).trans h.mp,
    (Below.heap_setCell _ _ _ _ (show w.heap.size + 3 ≠ w.heap.size + 4 by omega)).trans h.r1, h.r2.set _⟩
end
/-- What the memory holds while a circle is looked for. -/
structure LpB (w : World) (B : Nat) (C : Nat → Prop) (Ds : List Nat) (A : Option Addr) (n c ms ml sn : Nat) (start : Pl) (m : List (Pl × Int)) (s : WSt) (X : Nat → Prop) (W : World) : Prop where
  hX : ∀ k, X k → B ≤ k
  hz : B ≤ W.heap.size
  bx : LpX w A n c ms ml sn start false (.slice none 0 0) W
  msafe : MapAt Int encI W ms m
  mseen : MapAt Bool Value.bool W sn s.2
  rw : ∃ g cap zs, Boxed W (w.heap.size + 6) 136 (.slice (some ⟨g, 0, none⟩) zs.length cap) ∧ WRow W w.heap.size g cap zs s.1 X ∧ ¬ X g ∧ ¬ C g
  mks : MarksAt w.heap.size Ds W
  bl : BelowBut w.heap.size (fun k => k = sn) w W
section
variable {w : World} {B : Nat} {C : Nat → Prop} {Ds : List Nat} {A : Option Addr} {n c ms ml sn : Nat} {start : Pl} {m : List (Pl × Int)} {s : WSt} {X X' : Nat → Prop} {W W' : World}
theorem LpB.st (h : LpB w B C Ds A n c ms ml sn start m s X W) (hst : St B X W W') (hgr : Grows X X' W) (hH : w.heap.size + 7 ≤ B) (hDs : ∀ D ∈ Ds, D < B) (hms : ms < w.heap.size) (hsn : sn < w.heap.size) : LpB w B C Ds A n c ms ml sn start m s X' W' := by
  obtain ⟨g, cap, zs, v1, v2, v3, v4⟩ := h.rw
  have hX := h.hX
  have hz := h.hz
  have hbz := h.bl.base.size
  refine ⟨fun k hk => (hgr.2 k hk).elim (hX k) (fun h => by omega), Nat.le_trans hz hst.base.size, h.bx.kept fun k h1 h2 ⟨cs, t, fr, hh, _⟩ => (hst.same k _ hh (fun h => by have := hX _ h; omega) (.inl rfl)).trans hh.symm,
    hst.mp h.msafe (fun h => by have := hX _ h; omega) (by omega), hst.mp h.mseen (fun h => by have := hX _ h; omega) (by omega),
    ⟨g, cap, zs, hst.bx v1 (fun h => by have := hX _ h; omega), v2.st v3 hst hgr, hgr.not v3 v2.lt.2, v4⟩,
    h.mks.same (fun D hD hh => hst.same _ _ hh (fun h => by have := hX _ h; have := hDs D hD; omega) (.inr (hDs D hD))),
    h.bl.trans (hst.but (fun k hk => by have := hX k hk; omega) (by omega) hbz)⟩
/-- Into the next round. -/
theorem LpB.next {D : Nat} (h : LpB w B C Ds A n c ms ml sn start m s X W) (hH : w.heap.size + 7 ≤ B) (hD : B ≤ D) (hK : W.heap[D]? = some (.deferred (some []))) (hDs : ∀ D ∈ Ds, D < B) :
    LpB w (w.heap.size + 7) noBlock (D :: Ds) A n c ms ml sn start m s noBlock W := by
  obtain ⟨g, cap, zs, v1, v2, v3, v4⟩ := h.rw
  have hz := h.hz
  exact ⟨fun _ h => h.elim, by omega, h.bx, h.msafe, h.mseen, ⟨g, cap, zs, v1, v2.free, fun h => h.elim, fun h => h.elim⟩,
    MarksAt.cons h.mks (by omega) hK (fun hd => by have := hDs D hd; omega), h.bl⟩
end
theorem loop_results (W : World) (tmps : Array Value) (b : Nat) (x : Value) (y : Bool) (h1 : Boxed W (b + 3) 22 x) (h2 : Boxed W (b + 4) 4 (.bool y)) (t1 : tmps.getD 8 undef = .pointer (some ⟨b + 3, 0, none⟩)) (t2 : tmps.getD 9 undef = .pointer (some ⟨b + 4, 0, none⟩)) :
    (results Tryz.f81 tmps).run Tryz.prog W = .ok (.tuple #[x, .bool y]) W := by
  have d1 := h1.cell
  have d2 := h2.cell
  simp only [Array.getD_eq_getD_getElem?] at t1 t2
  simp [results, Tryz.results81, go_sem, t1, t2, d1, d2]
/-- What the search returns. -/
def LoopPost (w : World) (sn : Nat) (r : List Int × Bool) (e : Ending) (w' : World) : Prop :=
  BelowBut w.heap.size (fun k => k = sn) w w' ∧ (∃ m', MapAt Bool Value.bool w' sn m') ∧ ∃ (A : Option Addr) (n c : Nat), e = .returned (.tuple #[.slice A n c, .bool r.2]) ∧ IntsAt w' w'.heap.size A n r.1


/-- A circle is found. -/
structure LpE (w : World) (B : Nat) (Ds : List Nat) (A : Option Addr) (n c ms ml sn : Nat) (start : Pl) (row : List Int) (X : Nat → Prop) (W : World) : Prop where
  hX : ∀ k, X k → B ≤ k
  hz : B ≤ W.heap.size
  bx : ∃ A' k' c', LpX w A n c ms ml sn start true (.slice A' k' c') W ∧ IntsAt W W.heap.size A' k' row ∧ ∀ a : Addr, A' = some a → 0 < k' → ¬ X a.block
  mseen : ∃ m', MapAt Bool Value.bool W sn m'
  mks : MarksAt w.heap.size Ds W
  bl : BelowBut w.heap.size (fun k => k = sn) w W
theorem LpE.st {w : World} {B : Nat} {Ds : List Nat} {A : Option Addr} {n c ms ml sn : Nat} {start : Pl} {row : List Int} {X X' : Nat → Prop} {W W' : World} (h : LpE w B Ds A n c ms ml sn start row X W) (hst : St B X W W') (hgr : Grows X X' W) (hH : w.heap.size + 7 ≤ B) (hDs : ∀ D ∈ Ds, D < B) (hsn : sn < w.heap.size) : LpE w B Ds A n c ms ml sn start row X' W' := by
  obtain ⟨A', k', c', v1, v2, v3⟩ := h.bx
  obtain ⟨m', v4⟩ := h.mseen
  have hX := h.hX
  have hz := h.hz
  have hbz := h.bl.base.size
  refine ⟨fun k hk => (hgr.2 k hk).elim (hX k) (fun h => by omega), Nat.le_trans hz hst.base.size, ⟨A', k', c', v1.kept fun k h1 h2 ⟨cs, t, fr, hh, _⟩ => (hst.same k _ hh (fun h => by have := hX _ h; omega) (.inl rfl)).trans hh.symm, ints_at v2 hst.base.size fun a ha h0 => ?_, fun a ha h0 => ?_⟩,
    ⟨m', hst.mp v4 (fun h => by have := hX _ h; omega) (by omega)⟩,
    h.mks.same (fun D hD hh => hst.same _ _ hh (fun h => by have := hX _ h; have := hDs D hD; omega) (.inr (hDs D hD))),
    h.bl.trans (hst.but (fun k hk => by have := hX k hk; omega) (by omega) hbz)⟩
  · have h5 := v3 a ha h0
    subst ha
    obtain ⟨o, ho, hc⟩ := ints_block v2 h0
    exact (hst.same _ _ ho h5 (.inl hc)).trans ho.symm
  · have h5 := v3 a ha h0
    subst ha
    obtain ⟨o, ho, -⟩ := ints_block v2 h0
    exact hgr.not h5 (Array.getElem?_eq_some_iff.1 ho).1
theorem not_mark {n : Nat} {Ds : List Nat} {W : World} (h : MarksAt n Ds W) {k : Nat} {o : Obj} (hk : W.heap[k]? = some o) (ho : o ≠ .deferred (some [])) : k ∉ Ds := fun hd => by
  have := (h.2 k hd).2
  rw [hk] at this
  exact ho (Option.some.inj this)
/-- The search returns. -/
theorem loop_end {w W : World} {Ds : List Nat} {tmps : Array Value} {r : List Int × Bool} {A : Option Addr} {n c ms ml sn : Nat} {start : Pl} {A' : Option Addr} {k' c' : Nat} {m' : List (Pl × Bool)} (hbx : LpX w A n c ms ml sn start r.2 (.slice A' k' c') W) (hi : IntsAt W W.heap.size A' k' r.1) (hm : MapAt Bool Value.bool W sn m') (hmk : MarksAt w.heap.size Ds W)
    (hbl : BelowBut w.heap.size (fun k => k = sn) w W) (t8 : tmps.getD 8 undef = .pointer (some ⟨w.heap.size + 3, 0, none⟩)) (t9 : tmps.getD 9 undef = .pointer (some ⟨w.heap.size + 4, 0, none⟩)) :
    LeavesInM Fence.wide 3 Tryz.prog Tryz.f81 tmps (LoopPost w sn r) (marks Ds) .returning W := by
  refine leaves_marks (n := w.heap.size) Ds _ hmk ?_
  have hsame : ∀ (k : Nat) (o : Obj), W.heap[k]? = some o → o ≠ .deferred (some []) → (putAll Ds W).heap[k]? = some o := fun k o hk ho => (putAll_heap (n := w.heap.size) Ds W k (not_mark hmk hk ho)).trans hk
  refine ⟨_, loop_results _ _ w.heap.size _ _ (hsame _ _ hbx.r1 (by simp)) (hsame _ _ hbx.r2 (by simp)) t8 t9, ?_, ?_, ?_⟩
  · exact hbl.trans (BelowBut.of (putAll_below Ds W (Below.refl _ _) hbl.base.size (fun D hD => (hmk.2 D hD).1)))
  · obtain ⟨es, clock, hh, hr⟩ := hm
    exact ⟨m', es, clock, hsame _ _ hh (by simp), hr⟩
  · refine ⟨A', k', c', rfl, ints_at hi (by rw [putAll_size]; exact Nat.le_refl _) fun a ha h0 => ?_⟩
    subst ha
    obtain ⟨o, ho, hc⟩ := ints_block hi h0
    exact (hsame _ _ ho (by rintro rfl; cases hc)).trans ho.symm
theorem loop_fin {w W : World} {Ds : List Nat} {tmps : Array Value} {A : Option Addr} {n c ms ml sn : Nat} {start : Pl} {ok : Bool} {rv : Value} {m' : List (Pl × Bool)} (hbx : LpX w A n c ms ml sn start ok rv W) (hm : MapAt Bool Value.bool W sn m') (hmk : MarksAt w.heap.size Ds W)
    (hbl : BelowBut w.heap.size (fun k => k = sn) w W) (t8 : tmps.getD 8 undef = .pointer (some ⟨w.heap.size + 3, 0, none⟩)) (t9 : tmps.getD 9 undef = .pointer (some ⟨w.heap.size + 4, 0, none⟩)) :
    LeavesInM Fence.wide 3 Tryz.prog Tryz.f81 tmps (LoopPost w sn ([], false)) (marks Ds) .returning ((W.setCell ⟨w.heap.size + 3, 0, none⟩ (.slice none 0 0)).setCell ⟨w.heap.size + 4, 0, none⟩ (.bool false)) := by
  refine loop_end (r := ([], false)) ((hbx.set1 (.slice none 0 0)).set2 false) IntsAt.nil ((hm.setCell _ _ _).setCell _ _ _) (hmk.same fun D hD hh => ?_) (hbl.trans (BelowBut.of (((Below.refl _ _).setCell (p := ⟨w.heap.size + 3, 0, none⟩) (show w.heap.size ≤ w.heap.size + 3 by omega) _).setCell (p := ⟨w.heap.size + 4, 0, none⟩) (show w.heap.size ≤ w.heap.size + 4 by omega) _))) t8 t9
  have h3 : D ≠ w.heap.size + 3 := by
    rintro rfl
    exact not_mark hmk hbx.r1 (by simp) hD
  have h4 : D ≠ w.heap.size + 4 := by
    rintro rfl
    exact not_mark hmk hbx.r2 (by simp) hD
  exact (Below.heap_setCell _ ⟨w.heap.size + 4, 0, none⟩ _ _ h4).trans ((Below.heap_setCell _ ⟨w.heap.size + 3, 0, none⟩ _ _ h3).trans hh)
section
variable {W W' : World} {base : Nat} {e : TypeId} {size g n cap g' s : Nat} {xs : List Value}
theorem row_ne (hg : (g' = g ∧ W.grownBy W' (some g)) ∨ (s ≤ g' ∧ W.grownBy W' none)) {b : Nat} (hb : b < W.heap.size) (hne : b ≠ g) : W'.heap[b]? = W.heap[b]? := by
  rcases hg with ⟨-, hg⟩ | ⟨-, hg⟩
  · exact hg.block b hb (by simpa using hne)
  · exact hg.block b hb (by simp)
theorem row_not (hr : W.ownsRow base e size (.slice (some ⟨g, 0, none⟩) n cap) n xs) {b : Nat} {o : Obj} (hb : W.heap[b]? = some o) (ho : o.isCells = false) : b ≠ g := by
  rintro rfl
  rcases hr.2 with ⟨he, -⟩ | ⟨g2, cap', cur, he, hb2, hgg, -⟩
  · cases he
  · cases he
    rw [hgg] at hb
    cases hb
    cases ho
theorem row_obj (hr : W.ownsRow base e size (.slice (some ⟨g, 0, none⟩) n cap) n xs) (hg : (g' = g ∧ W.grownBy W' (some g)) ∨ (s ≤ g' ∧ W.grownBy W' none)) {b : Nat} {o : Obj} (hb : W.heap[b]? = some o) (ho : o.isCells = false) : W'.heap[b]? = some o :=
  (row_ne hg (Array.getElem?_eq_some_iff.1 hb).1 (row_not hr hb ho)).trans hb
theorem Keep.row {n₀ : Nat} {C X : Nat → Prop} (hg : (g' = g ∧ W.grownBy W' (some g)) ∨ (s ≤ g' ∧ W.grownBy W' none)) (hn : n₀ ≤ W.heap.size) (h1 : n₀ ≤ g) (hX : ¬ X g) (hC : ¬ C g) : Keep n₀ C X W W' := by
  rcases hg with ⟨-, hg⟩ | ⟨-, hg⟩
  · exact Keep.grown hg hn (fun r e => by cases e; exact ⟨h1, hX, hC⟩)
  · exact Keep.grown hg hn (fun r e => by cases e)
theorem row_size (hg : (g' = g ∧ W.grownBy W' (some g)) ∨ (s ≤ g' ∧ W.grownBy W' none)) : W.heap.size ≤ W'.heap.size := by rcases hg with ⟨-, h⟩ | ⟨-, h⟩ <;> exact h.size
end
theorem marks_set {W : World} {n b : Nat} {Ds : List Nat} {t : TypeId} {v : Value} (h : MarksAt n Ds W) (hb : Boxed W b t v) (u : Value) : MarksAt n Ds (W.setCell ⟨b, 0, none⟩ u) := h.same fun D hD hh => (Below.heap_setCell _ ⟨b, 0, none⟩ _ _ (by
  rintro rfl
  exact not_mark h hb (by simp) hD)).trans hh
theorem MapAt.obj {α : Type} {enc : α → Value} {W : World} {b : Nat} {m : List (Pl × α)} (h : MapAt α enc W b m) : ∃ o : Obj, W.heap[b]? = some o ∧ o.isCells = false ∧ o ≠ .deferred (some []) := by
  obtain ⟨es, clock, hh, -⟩ := h
  exact ⟨_, hh, rfl, by simp⟩
theorem field_walk (x0 x1 x2 x3 x4 x5 : Int) (v : Value) (w : World) : (Instr.field 135 (.agg #[.int .i64 x0, .int .i64 x1, .int .i64 x2, .int .i64 x3, .int .i64 x4, .int .i64 x5, v]) 1).run Tryz.prog w = .ok v w := by kernel_rfl
theorem infoWalk : (Tryz.prog.info? 135).map (fun i => (i.zero, i.size, i.bytes)) = some (some (.agg #[.int .i64 0, .int .i64 0, .int .i64 0, .int .i64 0, .int .i64 0, .int .i64 0, .slice none 0 0]), 7, 72) := by kernel_rfl
end Go.Proofs.YthjgecblkagelaaGreat

/- loop: the search of a circle. -/
namespace Go.Proofs.YthjgecblkagelaaGreat
open Go.RowKit Go.Shelf

attribute [local go_sem] Oper.semAt_some

set_option maxRecDepth 100000 in
set_option maxHeartbeats 8000000 in
theorem loop_any (w : World) (B : Nat) (A : Option Addr) (n c ms ml sn : Nat) (ts : List Int) (hx : IntsAt w B A n ts) (hB : B ≤ sn) (hv : Valid ts)
    (m : List (Pl × Int)) (hm : MapAt Int encI w ms m) (hne : ms ≠ sn) (m0 : List (Pl × Bool)) (hsn : MapAt Bool Value.bool w sn m0) (start : Pl) (hp : PlGood ts start) (limit : Int) (hlim : limit ≤ 1000) (r : List Int × Bool) (hend : loopN ts m start limit 1001 = .inr r) :
    Calls Tryz.prog 81 #[.agg (tbc A n c ms ml), plv start, .int .i64 limit, .map (some sn)] w (LoopPost w sn r) := by
  obtain ⟨i1, hi1', hy0, hy1, hy2⟩ := info_parts infoWalk
  have hn := hx.len
  have hmz := hm.lt
  have hsz := hsn.lt
  obtain ⟨V5, hV5⟩ : ∃ V5, V5 = (((((w.alloc (.cells (tbc A n c ms ml) 60)).alloc (.cells (plc start) 64)).alloc (.cells #[.map (some sn)] 109)).alloc (.cells #[.slice none 0 0] 22)).alloc (.cells #[.bool false] 4)) := ⟨_, rfl⟩
  have hz5 : V5.heap.size = w.heap.size + 5 := by rw [hV5]; simp
  have hb5 : Below w.heap.size w V5 := by rw [hV5]; exact (((((Below.refl _ w).alloc (Nat.le_refl _) _).alloc (by simp) _).alloc (by simp; omega) _).alloc (by simp; omega) _).alloc (by simp; omega) _
  have hsn5 := hsn.below hb5 hsz
  obtain ⟨o, ho, hcl, hsn6⟩ := clear_pl hsn5 109 4 0 Tryz.underlying109
  have x0 : TbAt V5 w.heap.size A n c ms ml := by rw [hV5]; exact ((((TbAt.new w A n c ms ml).alloc _).alloc _).alloc _).alloc _
  have x1 : PlAt V5 (w.heap.size + 1) start := by
    rw [hV5]
    have := PlAt.new (w.alloc (.cells (tbc A n c ms ml) 60)) start
    rw [World.size_alloc] at this
    exact ((this.alloc _).alloc _).alloc _
  have x2 : Boxed V5 (w.heap.size + 2) 109 (.map (some sn)) := by
    rw [hV5]
    have := Boxed.new ((w.alloc (.cells (tbc A n c ms ml) 60)).alloc (.cells (plc start) 64)) 109 (.map (some sn))
    simp only [World.size_alloc, Nat.add_assoc, Nat.reduceAdd] at this
    exact (this.alloc _).alloc _
  have x3 : Boxed V5 (w.heap.size + 3) 22 (.slice none 0 0) := by
    rw [hV5]
    have := Boxed.new (((w.alloc (.cells (tbc A n c ms ml) 60)).alloc (.cells (plc start) 64)).alloc (.cells #[.map (some sn)] 109)) 22 (.slice none 0 0)
    simp only [World.size_alloc, Nat.add_assoc, Nat.reduceAdd] at this
    exact this.alloc _
  have x4 : Boxed V5 (w.heap.size + 4) 4 (.bool false) := by
    rw [hV5]
    have := Boxed.new ((((w.alloc (.cells (tbc A n c ms ml) 60)).alloc (.cells (plc start) 64)).alloc (.cells #[.map (some sn)] 109)).alloc (.cells #[.slice none 0 0] 22)) 4 (.bool false)
    simp only [World.size_alloc, Nat.add_assoc, Nat.reduceAdd] at this
    exact this
  obtain ⟨V6, hV6⟩ : ∃ V6, V6 = V5.putObj sn o := ⟨_, rfl⟩
  have hz6 : V6.heap.size = w.heap.size + 5 := by rw [hV6]; simp [hz5]
  have hb6 : BelowBut w.heap.size (fun k => k = sn) w V6 := by rw [hV6]; exact (BelowBut.of hb5).trans (BelowBut.put o (.inl rfl))
  rw [← hV6] at hcl hsn6
  have hx6 : LpX w A n c ms ml sn start false (.slice none 0 0) V6 := (⟨x0, x1, x2, x3, x4⟩ : LpX w A n c ms ml sn start false (.slice none 0 0) V5).kept fun k h1 _ _ => by rw [hV6]; exact World.putObj_heap_other (by omega)
  have hm6 : MapAt Int encI V6 ms m := by
    obtain ⟨es, clock, hh, hr⟩ := hm.below hb5 hmz
    exact ⟨es, clock, by rw [hV6]; exact (World.putObj_heap_other hne).trans hh, hr⟩
  obtain ⟨V8, hV8⟩ : ∃ V8, V8 = (V6.alloc (.cells #[.int .i64 start.n, .int .i64 start.a, .int .i64 start.b, .int .i64 start.c, .int .i64 start.d, .int .i64 start.e, .slice none 0 0] 135)).alloc (.cells #[.slice (some ⟨w.heap.size + 5, 0, none⟩) 1 1] 136) := ⟨_, rfl⟩
  have hb8 : Below V6.heap.size V6 V8 := by rw [hV8]; exact ((Below.refl _ _).alloc (Nat.le_refl _) _).alloc (by simp) _
  have hG : LpB w (w.heap.size + 7) noBlock [] A n c ms ml sn start m ([(start, [])], []) noBlock V8 := by
    have y1 := (World.alloc_heap_new V6 (.cells #[.int .i64 start.n, .int .i64 start.a, .int .i64 start.b, .int .i64 start.c, .int .i64 start.d, .int .i64 start.e, .slice none 0 0] 135))
    have y2 := Boxed.new (V6.alloc (.cells #[.int .i64 start.n, .int .i64 start.a, .int .i64 start.b, .int .i64 start.c, .int .i64 start.d, .int .i64 start.e, .slice none 0 0] 135)) 136 (.slice (some ⟨w.heap.size + 5, 0, none⟩) 1 1)
    have y1 := (Below.heap_alloc _ (.cells #[.slice (some ⟨w.heap.size + 5, 0, none⟩) 1 1] 136) _ (by simp)).trans y1
    rw [← hV8] at y1 y2
    rw [hz6] at y1
    rw [World.size_alloc, hz6] at y2
    refine ⟨fun _ h => h.elim, by rw [hV8]; simp [hz6], hx6.kept fun k h1 h2 _ => hb8.block k (by omega), hm6.below hb8 hm6.lt, hsn6.below hb8 hsn6.lt, ⟨w.heap.size + 5, 1, [(start, .slice none 0 0, [])], y2, ⟨⟨rfl, .inr ⟨w.heap.size + 5, 1, _, rfl, by omega, y1, Nat.le_refl _, by decide, rfl, rfl⟩⟩, rfl, fun z hz => ?_⟩, fun h => h.elim, fun h => h.elim⟩, MarksAt.nil _ _, hb6.trans (BelowBut.of (hb8.mono (by omega)))⟩
    obtain rfl := List.mem_singleton.1 hz
    exact ⟨none, 0, 0, rfl, Nat.le_refl _, fun _ => rfl, IntsAt.nil, fun a h => by cases h⟩
  obtain ⟨c0, c1, c2, c3, c4, c5⟩ := hx6.st.cells
  have Hh := Lib.hid (And.intro hn (And.intro hp (And.intro hend hlim)))
  clear hn hp hend hlim x0 x1 x2 x3 x4 hx6 hsn6 hsn5 hb8 hm6
  have H8 := Lib.hid hV8
  subst hV5
  clear hV6 hV8 hb5
  refine (callsIn_wide (n := 3)).1 ?_
  refine callsIn_of_wp_marks Tryz.func81 rfl trivial ?_ rfl
  simp only [Tryz.ntmps81, List.size_toArray, List.length_cons, List.length_nil, Nat.reduceAdd, Nat.reduceSub, Array.replicate_succ, Array.replicate_zero, List.push_toArray, List.append_toArray, List.nil_append, List.cons_append]
  gi_wp2_with (fail)
  rw [← H8.out]
  refine wpIn_loop_ghost_k (fun g a wr => ∃ (k : Nat) (kk : Int) (Ds : List Nat) (s : WSt) (u12 u13 u14 u15 u16 u17 u18 u19 u20 u21 u22 u23 u24 u25 u26 u27 u28 u29 u30 u31 u32 u33 u34 u35 u36 u37 u38 u39 u40 u41 u42 u43 u44 u45 u46 u47 u48 u49 u50 u51 u52 u53 u54 u55 u56 u57 u58 u59 u60 u61 u62 u63 u64 u65 u66 : Value), a = { tmps := #[.agg (tbc A n c ms ml), plv start, .int .i64 limit, .map (some sn), .pointer (some ⟨w.heap.size, 0, none⟩), .pointer (some ⟨w.heap.size + 1, 0, none⟩), undef, .pointer (some ⟨w.heap.size + 2, 0, none⟩), .pointer (some ⟨w.heap.size + 3, 0, none⟩), .pointer (some ⟨w.heap.size + 4, 0, none⟩), .pointer (some ⟨w.heap.size + 6, 0, none⟩), .int .i64 kk, u12, u13, u14, u15, u16, u17, u18, u19, u20, u21, u22, u23, u24, u25, u26, u27, u28, u29, u30, u31, u32, u33, u34, u35, u36, u37, u38, u39, u40, u41, u42, u43, u44, u45, u46, u47, u48, u49, u50, u51, u52, u53, u54, u55, u56, u57, u58, u59, u60, u61, u62, u63, u64, u65, u66], defers := marks Ds } ∧ (kk = (k : Int) ∧ k ≤ 1001 ∧ g = 1001 - k) ∧ loopN ts m start limit k = .inl s ∧ LpB w (w.heap.size + 7) noBlock Ds A n c ms ml sn start m s noBlock wr) 1001 ?_ ?_
  · exact ⟨0, 0, [], _, _, _, _, _, _, _, _, _, _, _, _, _, _, _, _, _, _, _, _, _, _, _, _, _, _, _, _, _, _, _, _, _, _, _, _, _, _, _, _, _, _, _, _, _, _, _, _, _, _, _, _, _, _, _, _, rfl, ⟨rfl, by omega, rfl⟩, rfl, hG⟩
  · clear hG c0 c1 c2 c3 c4 c5 H8 hz6 hb6 hcl ho
    clear V8 V6
    rintro g a wr ⟨k, kk, Ds, s, u12, u13, u14, u15, u16, u17, u18, u19, u20, u21, u22, u23, u24, u25, u26, u27, u28, u29, u30, u31, u32, u33, u34, u35, u36, u37, u38, u39, u40, u41, u42, u43, u44, u45, u46, u47, u48, u49, u50, u51, u52, u53, u54, u55, u56, u57, u58, u59, u60, u61, u62, u63, u64, u65, u66, rfl, ⟨rfl, hk, rfl⟩, hks, hG⟩ J K hIJ hK
    obtain ⟨g0, cap, zs, hbox, hrow, hrg⟩ := hG.rw
    have hgd := loopN_good hv Hh.out.2.1 k s hks
    have hkN := loopN_lt Hh.out.2.2.1 hks
    obtain ⟨L, hL⟩ : ∃ L, L = zs.length := ⟨_, rfl⟩
    have hLs : s.1.length = L := by rw [hL, ← hrow.eq]; simp
    rw [← hL] at hbox
    have hL5 : L ≤ 5006 := by have := hgd.2; omega
    have hzr := hG.hz
    have hbz := hG.bl.base.size
    obtain ⟨t0, t1, t2⟩ := hG.bx.tb.cells
    have c6 := hbox.cell
    have c3 := hG.bx.r1.cell
    have c4 := hG.bx.r2.cell
    have f3 := hG.bx.r1.frozen
    have f4 := hG.bx.r2.frozen
    have hl0 : w.heap.size < wr.heap.size := by omega
    have hl1 : w.heap.size + 1 < wr.heap.size := by omega
    have hl2 : w.heap.size + 2 < wr.heap.size := by omega
    have hl3 : w.heap.size + 3 < wr.heap.size := by omega
    have hl4 : w.heap.size + 4 < wr.heap.size := by omega
    have hl6 : w.heap.size + 6 < wr.heap.size := by omega
    have Hs := Lib.hid (And.intro hks (And.intro hgd.1 (And.intro hL (And.intro hLs hrg))))
    clear hks hgd hL hLs hrg
    by_cases hkL : k < L
    · obtain ⟨z, hz⟩ : ∃ z, zs[k]? = some z := ⟨_, List.getElem?_eq_getElem (by have := Hs.out.2.2.1; omega)⟩
      obtain ⟨A1, m1, c1, e1, hmc, hA1, hi1, hX1⟩ := hrow.el z (List.mem_of_getElem? hz)
      obtain ⟨q, sv, xs⟩ := z
      dsimp only at e1 hi1
      subst e1
      have hq : s.1[k]? = some (q, xs) := by rw [← hrow.eq, List.getElem?_map, hz]; rfl
      obtain ⟨d0, d1, d2, d3, d4, d5, d6⟩ := hrow.cells hz
      dsimp only at d0 d1 d2 d3 d4 d5 d6
      have hml := hi1.len
      have Hq := Lib.hid (And.intro hq (And.intro hml (And.intro hX1 hz)))
      clear hz hq hml hX1
      have hbw : Below wr.heap.size wr (wr.alloc (.cells #[.int .i64 q.n, .int .i64 q.a, .int .i64 q.b, .int .i64 q.c, .int .i64 q.d, .int .i64 q.e, .slice A1 m1 c1] 135)) := (Below.refl _ wr).alloc (Nat.le_refl _) _
      by_cases hlm : limit ≤ (m1 : Int)
      · gi_wp2_with (fail)
        have hstep : loopN ts m start limit (k + 1) = .inr ([], false) := by
          unfold loopN
          rw [Hs.out.1]
          unfold loopStep
          dsimp only
          rw [Hq.out.1]
          dsimp only
          rw [if_pos (by rw [Hq.out.2.1]; exact hlm)]
        obtain ⟨-, hr⟩ := loopN_is Hh.out.2.2.1 Hs.out.1 hstep
        subst hr
        have hb5 : Below w.heap.size wr (((wr.setCell ⟨w.heap.size + 3, 0, none⟩ (.slice none 0 0)).setCell ⟨w.heap.size + 4, 0, none⟩ (.bool false)).alloc (.cells #[.int .i64 q.n, .int .i64 q.a, .int .i64 q.b, .int .i64 q.c, .int .i64 q.d, .int .i64 q.e, .slice A1 m1 c1] 135)) :=
          (((Below.refl _ _).setCell (p := ⟨w.heap.size + 3, 0, none⟩) (show w.heap.size ≤ w.heap.size + 3 by omega) _).setCell (p := ⟨w.heap.size + 4, 0, none⟩) (show w.heap.size ≤ w.heap.size + 4 by omega) _).alloc (by simpa [World.setCell] using hbz) _
        have hmk5 := marks_set (marks_set hG.mks hG.bx.r1 (.slice none 0 0)) (hG.bx.set1 (.slice none 0 0)).r2 (.bool false)
        refine loop_end (r := ([], false)) (A' := none) (k' := 0) (c' := 0) (((hG.bx.set1 (.slice none 0 0)).set2 false).below ((Below.refl _ _).alloc (Nat.le_refl _) _) (by simp [World.setCell]; omega)) IntsAt.nil (((hG.mseen.setCell _ _ _).setCell _ _ _).alloc _)
          (hmk5.same fun D hD hh => (Below.heap_alloc _ _ _ (hmk5.lt hD)).trans hh) (hG.bl.trans (BelowBut.of hb5)) ?_ ?_
        · simp
        · simp
      · have hlm' : (m1 : Int) < limit := by omega
        have hstep : loopN ts m start limit (k + 1) = wkR (wkL m start (q, xs) (visitsF ts q) s) := by
          unfold loopN
          rw [Hs.out.1]
          unfold loopStep
          dsimp only
          rw [Hq.out.1]
          dsimp only
          rw [if_neg (by rw [Hq.out.2.1]; exact hlm)]
        have Hstep := Lib.hid hstep
        clear hstep
        gi_wp2_with (fail)
        refine ⟨trivial, (callsIn_wide.2 (visits_box _ _ _ _ _)).mono ?_⟩
        rintro e w2 ⟨Bh, Bp, rfl, hBh, hBp, hgh, hgp, hb2⟩
        have hgh : wr.heap.size + 1 ≤ Bh := by simpa using hgh
        have hgp : wr.heap.size + 1 ≤ Bp := by simpa using hgp
        have hb2' : Below wr.heap.size wr w2 := hbw.trans (hb2.mono hbw.size)
        have hwk2 : WkAt w2 wr.heap.size q (.slice A1 m1 c1) := (hb2.block _ (by simp)).trans (World.alloc_heap_new wr _)
        have hz2 : wr.heap.size + 1 ≤ w2.heap.size := by have := hb2.size; simpa using this
        have hi2 : IntsAt w2 w2.heap.size A1 m1 xs := (hi1.below hb2' (Nat.le_refl _)).more hb2'.size
        obtain ⟨C, hC⟩ : ∃ C : Nat → Prop, C = fun k => k = Bh ∨ k = Bp ∨ k = wr.heap.size ∨ ∃ a, A1 = some a ∧ 0 < m1 ∧ k = a.block := ⟨_, rfl⟩
        have hCz : ∀ k, C k → k < w2.heap.size := by
          intro k hk
          rw [hC] at hk
          rcases hk with rfl | rfl | rfl | ⟨a, rfl, h0, rfl⟩
          · exact hBh.lt
          · exact hBp.lt
          · omega
          · obtain ⟨o, ho, -⟩ := ints_block hi2 h0
            exact (Array.getElem?_eq_some_iff.1 ho).1
        have hG2 : LpB w w2.heap.size C Ds A n c ms ml sn start m s noBlock w2 := by
          refine ⟨fun _ h => h.elim, Nat.le_refl _, hG.bx.below hb2' (by omega), hG.msafe.below hb2' hG.msafe.lt, hG.mseen.below hb2' hG.mseen.lt, ⟨g0, cap, zs, by rw [← Hs.out.2.2.1]; exact bxBelow hbox hb2' hbox.lt, hrow.below (fun h => h.elim) hb2', fun h => h.elim, ?_⟩,
            hG.mks.same fun D hD hh => (hb2'.block D (hG.mks.lt hD)).trans hh, hG.bl.trans (BelowBut.of (hb2'.mono hbz))⟩
          rw [hC]
          have hg0 := hrow.lt.2
          rintro (rfl | rfl | rfl | ⟨a, rfl, h0, rfl⟩)
          · omega
          · omega
          · omega
          · exact (Hq.out.2.2.1 a rfl h0).2 rfl
        have hDs : ∀ D ∈ Ds, D < w2.heap.size := fun D hD => by have := hG.mks.lt hD; omega
        have hH : w.heap.size + 7 ≤ w2.heap.size := by omega
        have hB2 : Below B w w2 := hG.bl.below (by omega) (fun k hk => by subst hk; exact hB) |>.trans (hb2'.mono (by omega))
        have HD := Lib.hid (And.intro hDs (And.intro hC hCz))
        have hgood := Hs.out.2.1 (q, xs) (List.mem_of_getElem? Hq.out.1)
        dsimp only at hgood
        have hmc' := hmc
        have hA1' := hA1
        clear hDs hC hCz hbox hrow d0 d1 d2 d3 d4 d5 d6 t0 t1 t2 c3 c4 c6 f3 f4 hbw
        gi_wp2_with (fail)
        refine range_pl (P := Tryz.prog) (gf := 89) rfl (enters_of Tryz.func89 (by kernel_rfl) rfl) (encs := encV) Prod.snd (n₀ := B) (w0 := w2)
          (visits1_any w2 Bh Bp B A n c ts q hBh hBp (by omega) (hx.below hB2 (Nat.le_refl _)) (by have := hv.h5; have := Hh.out.1; omega) (fun i hi => hv.h12 i (by have := Hh.out.1; omega)) hgood.1) (Below.refl _ _) (by rintro k (rfl | rfl); exact hBh.lt; exact hBp.lt) (by omega) (fun _ => rfl)
          (fun pre X W => LpB w w2.heap.size C Ds A n c ms ml sn start m (wkP m (q, xs) s pre) X W ∧ WkAt W wr.heap.size q (.slice A1 m1 c1) ∧ IntsAt W w2.heap.size A1 m1 xs ∧ ∀ y ∈ pre, y.2 ≠ start)
          (fun c' vs X W => c' = .ret ∧ ∃ (pre0 : List (Nat × Pl)) (x0 : Nat × Pl), (vs = pre0 ++ [x0] ∧ x0.2 = start ∧ ∀ y ∈ pre0, y.2 ≠ start) ∧ LpE w w2.heap.size Ds A n c ms ml sn start (xs ++ [(x0.1 : Int)]) X W)
          ?hI ?hIx ?h0 ?a1 ?assign ?body ?done ?stop
        case assign =>
          intro l x W b K hb hK
          gi_wp2
          rw [← hb]
          exact hK
        case hI =>
          rintro pre X X' W W' ⟨h1, h2, h3, h4⟩ hst hgr
          have hX := h1.hX
          have hz := h1.hz
          exact ⟨h1.st hst hgr hH HD.out.1 hmz hsz, hst.same _ _ h2 (fun h => by have := hX _ h; omega) (.inl rfl), ints_at h3 (Nat.le_refl _) fun a ha h0 => by
            subst ha
            have hlt := h3.2.2 h0
            obtain ⟨b, off, e, hb, -⟩ := hlt
            cases e
            obtain ⟨o, ho, hc⟩ := ints_block h3 h0
            exact (hst.same _ _ ho (fun h => by have := hX _ h; simp only at this; omega) (.inl hc)).trans ho.symm, h4⟩
        case hIx =>
          rintro c' vs X X' W W' ⟨h1, pre0, x0, h2, h3⟩ hst hgr
          exact ⟨h1, pre0, x0, h2, h3.st hst hgr hH HD.out.1 hsz⟩
        case h0 => exact ⟨hG2, hwk2, hi2, fun y h => by cases h⟩
        case body =>
          rintro l pre x X b W ⟨hS, hwk, hiW, hpre⟩ zb hbz hWz hXz hlen
          have zb : PlAt W b x.2 := zb
          have hsn' := wkP_snoc (m := m) (q := (q, xs)) s pre x
          have hl1 := wkP_len (m := m) (q := (q, xs)) pre s
          obtain ⟨s1, hs1⟩ : ∃ s1, s1 = wkP m (q, xs) s pre := ⟨_, rfl⟩
          rw [← hs1] at hS hsn' hl1
          clear hs1
          have hl1' : s1.1.length ≤ 6000 := by
            have h5 := hv.h5
            have h6 := Hh.out.1
            have h7 := Hs.out.2.2.2.1
            omega
          have hm1k : m1 ≤ 1000 := by have := Hh.out.2.2.2; omega
          have hzW : w.heap.size + 7 ≤ W.heap.size := by omega
          have hXl := hS.hX
          have Hsn := Lib.hid (And.intro hsn' (And.intro hpre (And.intro hXz hXl)))
          clear hsn' hl1 hpre hXz hXl
          obtain ⟨t0, t1, t2⟩ := hS.bx.tb.cells
          obtain ⟨p0, p1, p2, p3, p4, p5⟩ := hS.bx.st.cells
          obtain ⟨e0, e1, e2, e3, e4, e5⟩ := zb.cells
          obtain ⟨k0, k1, k2, k3, k4, k5, k6⟩ := hwk.cells
          by_cases hst : x.2 = start
          · have heq : ∀ W', (Op.equalIn 10000 64 (.agg #[.int .i64 x.2.n, .int .i64 x.2.a, .int .i64 x.2.b, .int .i64 x.2.c, .int .i64 x.2.d, .int .i64 x.2.e]) (.agg #[.int .i64 start.n, .int .i64 start.a, .int .i64 start.b, .int .i64 start.c, .int .i64 start.d, .int .i64 start.e])).run Tryz.prog W' = .ok true W' := fun W' => by
              have := equalIn_pl x.2 start W'
              rwa [decide_eq_true hst] at this
            have Hst := Lib.hid hst
            clear hst
            gi_wp2_with (fail)
            refine ⟨trivial, (CallsIn.inRound l (callsIn_wide.2 (on_any W w2.heap.size A1 m1 c1 xs hiW hWz hmc' hA1' (by omega) q x.2 (x.1 : Int)))).mono ?_⟩
            rintro e W3 ⟨gq, cq, rfl, hown, hb3⟩
            have hfw := fun w => field_walk x.2.n x.2.a x.2.b x.2.c x.2.d x.2.e (.slice (some ⟨gq, 0, none⟩) (m1 + 1) cq) w
            have hS3 := hS.st (St.of_below hb3) (Grows.refl _ _) hH HD.out.1 hmz hsz
            have c3 := hS3.bx.r1.cell
            have c4 := hS3.bx.r2.cell
            have f3 := hS3.bx.r1.frozen
            have f4 := hS3.bx.r2.frozen
            have hgq := hown.lt gq rfl
            have hiq := row_ints hown (by omega)
            clear t0 t1 t2 p0 p1 p2 p3 p4 p5 e0 e1 e2 e3 e4 e5 k0 k1 k2 k3 k4 k5 k6 heq
            gi_wp2_with (fail)
            have hX3 : ¬ X (w.heap.size + 3) := fun h => by have := Hsn.out.2.2.2 _ h; omega
            have hX4 : ¬ X (w.heap.size + 4) := fun h => by have := Hsn.out.2.2.2 _ h; omega
            refine ⟨((KeepsFrom.of_below hb3).trans ((KeepsOthers.setCell _ _ _).from _)).trans ((KeepsOthers.setCell _ _ _).from _), ((Keep.of_below hb3 (by omega)).trans (Keep.setCell (by omega) hX3 (by omega) _ _)).trans (Keep.setCell (by omega) hX4 (by omega) _ _), rfl, pre, x, ⟨rfl, Hst.out, Hsn.out.2.1⟩, ?_⟩
            have hbx5 := (hS3.bx.set1 (.slice (some ⟨gq, 0, none⟩) (m1 + 1) cq))
            refine ⟨hS3.hX, by simpa [World.setCell] using hS3.hz, ⟨some ⟨gq, 0, none⟩, m1 + 1, cq, hbx5.set2 true, ints_at hiq (by simp [World.setCell]) fun a ha h0 => ?_, fun a ha h0 => ?_⟩, ⟨_, (hS3.mseen.setCell _ _ _).setCell _ _ _⟩, marks_set (marks_set hS3.mks hS3.bx.r1 _) hbx5.r2 _, ?_⟩
            · cases ha
              exact (Below.heap_setCell _ ⟨w.heap.size + 4, 0, none⟩ _ _ (show gq ≠ w.heap.size + 4 by omega)).trans (Below.heap_setCell _ ⟨w.heap.size + 3, 0, none⟩ _ _ (show gq ≠ w.heap.size + 3 by omega))
            · cases ha
              exact fun h => by have := (Hsn.out.2.2.1 _ h).2; simp only at this; omega
            · exact hS3.bl.trans (BelowBut.of (((Below.refl _ _).setCell (p := ⟨w.heap.size + 3, 0, none⟩) (show w.heap.size ≤ w.heap.size + 3 by omega) _).setCell (p := ⟨w.heap.size + 4, 0, none⟩) (show w.heap.size ≤ w.heap.size + 4 by omega) _))
          · have heq : ∀ W', (Op.equalIn 10000 64 (.agg #[.int .i64 x.2.n, .int .i64 x.2.a, .int .i64 x.2.b, .int .i64 x.2.c, .int .i64 x.2.d, .int .i64 x.2.e]) (.agg #[.int .i64 start.n, .int .i64 start.a, .int .i64 start.b, .int .i64 start.c, .int .i64 start.d, .int .i64 start.e])).run Tryz.prog W' = .ok false W' := fun W' => by
              have := equalIn_pl x.2 start W'
              rwa [decide_eq_false hst] at this
            have hall : ∀ y ∈ pre ++ [x], y.2 ≠ start := fun y hy => by
              rcases List.mem_append.1 hy with hy | hy
              · exact Hsn.out.2.1 y hy
              · obtain rfl := List.mem_singleton.1 hy
                exact hst
            have Hst := Lib.hid hall
            clear hst hall
            gi_wp2_with (fail)
            refine ⟨trivial, (CallsIn.inRound l (callsIn_wide.2 (isSafe_any W A n c ms ml m hS.msafe x.2))).mono ?_⟩
            rintro e W3 ⟨rfl, hb3⟩
            have hS3 := hS.st (St.of_below hb3) (Grows.refl _ _) hH HD.out.1 hmz hsz
            have zb3 := zb.below hb3 zb.lt
            have hwk3 := hwk.below hb3 hwk.lt
            have hi3 := hiW.below hb3 hWz
            have hz3 := hb3.size
            have hlk := lookup_pl hS3.mseen 109 4 false Tryz.underlying109 zeroBool x.2
            have c2 := hS3.bx.mp.cell
            clear t0 t1 t2 p0 p1 p2 p3 p4 p5 e0 e1 e2 e3 e4 e5 k0 k1 k2 k3 k4 k5 k6 heq
            obtain ⟨e0, e1, e2, e3, e4, e5⟩ := zb3.cells
            obtain ⟨sb, hsb⟩ : ∃ sb, sb = decide (0 < mget 0 m x.2) := ⟨_, rfl⟩
            rw [← hsb]
            cases sb
            · have hno : wkP m (q, xs) s (pre ++ [x]) = s1 := by
                rw [Hsn.out.1]
                unfold wkStep
                rw [if_neg (by intro h; simp [h.1] at hsb)]
              have Hno := Lib.hid hno
              clear hno hsb
              gi_wp2_with (fail)
              exact ⟨KeepsFrom.of_below hb3, Keep.of_below hb3 (by omega), by rw [Hno.out]; exact hS3, hwk3, hi3, Hst.out⟩
            · cases hseen : mget false s1.2 x.2
              · rw [hseen] at hlk
                have hyes : wkP m (q, xs) s (pre ++ [x]) = (s1.1 ++ [(x.2, xs ++ [(x.1 : Int)])], mset x.2 true s1.2) := by
                  rw [Hsn.out.1]
                  unfold wkStep
                  rw [if_pos ⟨by simpa using hsb.symm, hseen⟩]
                have Hyes := Lib.hid hyes
                clear hyes hsb hseen
                obtain ⟨o, ho, hup, hsn4⟩ := update_pl hS3.mseen 109 4 Tryz.underlying109 x.2 true
                obtain ⟨g1, cap1, zs1, hbox3, hrow3, hgX, hgC⟩ := hS3.rw
                have hzl : zs1.length ≤ 6000 := by
                  have : zs1.length = s1.1.length := by rw [← hrow3.eq]; simp
                  omega
                have c6 := hbox3.cell
                have f6 := hbox3.frozen
                gi_wp2_with (fail)
                have hX := Hsn.out.2.2.2
                have hXs : ¬ X sn := fun h => by have := hX _ h; omega
                have hbx4 := hS3.bx.put hsz o
                have hm4 : MapAt Int encI (W3.putObj sn o) ms m := hS3.msafe.putOther hne o
                obtain ⟨ob, hob, hobc, -⟩ := hS3.mseen.obj
                have hbox4 : Boxed (W3.putObj sn o) (w.heap.size + 6) 136 (.slice (some ⟨g1, 0, none⟩) zs1.length cap1) := (World.putObj_heap_other (by omega)).trans hbox3
                have hrow4 := hrow3.put hgX hob hobc o
                have zb4 : PlAt (W3.putObj sn o) b x.2 := (World.putObj_heap_other (by omega)).trans zb3
                have hwk4 : WkAt (W3.putObj sn o) wr.heap.size q (.slice A1 m1 c1) := (World.putObj_heap_other (by omega)).trans hwk3
                have hi4 : IntsAt (W3.putObj sn o) w2.heap.size A1 m1 xs := ints_kept hi3 (Nat.le_refl _) fun k o' hk hc => World.putObj_heap_other (by rintro rfl; rw [hob] at hk; cases hk; rw [hobc] at hc; cases hc)
                have hmk4 : MarksAt w.heap.size Ds (W3.putObj sn o) := hS3.mks.same fun D hD hh => (World.putObj_heap_other (by have := (hS3.mks.2 D hD).1; omega)).trans hh
                have hbl4 : BelowBut w.heap.size (fun k => k = sn) w (W3.putObj sn o) := hS3.bl.trans (BelowBut.put o (.inl rfl))
                have hK4 : KeepsFrom w2.heap.size W (W3.putObj sn o) := (KeepsFrom.of_below hb3).trans (KeepsFrom.put (by omega))
                have hk4 : Keep B (fun k => k = Bh ∨ k = Bp) X W (W3.putObj sn o) := (Keep.of_below hb3 (by omega)).trans (Keep.putObj hB hXs (by omega) hS3.mseen.lt)
                have hz4 : (W3.putObj sn o).heap.size = W3.heap.size := by simp
                obtain ⟨W4, hW4⟩ : ∃ W4, W4 = W3.putObj sn o := ⟨_, rfl⟩
                rw [← hW4] at hbx4 hm4 hbox4 hrow4 zb4 hwk4 hi4 hmk4 hbl4 hK4 hk4 hz4 hsn4 ⊢
                clear hW4 hup hlk
                have hS0 : Boxed W4 (w.heap.size + 6) 136 (.slice (some ⟨g1, 0, none⟩) zs1.length cap1) ∧ WkAt W4 wr.heap.size q (.slice A1 m1 c1) ∧ PlAt W4 b x.2 := ⟨hbox4, hwk4, zb4⟩
                refine region_held_round (fun W' => Boxed W' (w.heap.size + 6) 136 (.slice (some ⟨g1, 0, none⟩) zs1.length cap1) ∧ WkAt W' wr.heap.size q (.slice A1 m1 c1) ∧ PlAt W' b x.2) (fun j => decide (j ≤ 5 ∧ j ≠ 2)) (by kernel_rfl) (by kernel_rfl) ?_
                intro KR hKR
                refine wpAnyHI_takeW (i := 2) (v := .int .i64 (x.1 : Int)) (some 62) rfl rfl (by kernel_rfl) (by kernel_rfl) (by kernel_rfl) (by kernel_rfl) (fun _ _ _ h => h) (.inl ⟨by kernel_rfl, fun W' hS' => ?_⟩) ?_
                · go_simp
                refine wpAnyHI_takeE (i := 0) (v := .slice (some ⟨g1, 0, none⟩) zs1.length cap1) (some 60) rfl rfl (by kernel_rfl) (by kernel_rfl) (by kernel_rfl) (by kernel_rfl) (by kernel_rfl) (fun _ _ _ h => h) hS0 (.inl ⟨by kernel_rfl, fun W' hS' => ?_⟩) ?_
                · obtain ⟨a1, a2, a3⟩ := hS'
                  have b1 := Boxed.cell a1
                  obtain ⟨b20, b21, b22, b23, b24, b25, b26⟩ := a2.cells
                  obtain ⟨b30, b31, b32, b33, b34, b35⟩ := a3.cells
                  go_simp
                refine wpAnyHI_takeE (i := 1) (v := .agg #[.int .i64 q.n, .int .i64 q.a, .int .i64 q.b, .int .i64 q.c, .int .i64 q.d, .int .i64 q.e, .slice A1 m1 c1]) (some 61) rfl rfl (by kernel_rfl) (by kernel_rfl) (by kernel_rfl) (by kernel_rfl) (by kernel_rfl) (fun _ _ _ h => h) hS0 (.inl ⟨by kernel_rfl, fun W' hS' => ?_⟩) ?_
                · obtain ⟨a1, a2, a3⟩ := hS'
                  have b1 := Boxed.cell a1
                  obtain ⟨b20, b21, b22, b23, b24, b25, b26⟩ := a2.cells
                  obtain ⟨b30, b31, b32, b33, b34, b35⟩ := a3.cells
                  go_simp
                refine wpAnyHI_takeE (i := 3) (v := plv x.2) (some 63) rfl rfl (by kernel_rfl) (by kernel_rfl) (by kernel_rfl) (by kernel_rfl) (by kernel_rfl) (fun _ _ _ h => h) hS0 (.inl ⟨by kernel_rfl, fun W' hS' => ?_⟩) ?_
                · obtain ⟨a1, a2, a3⟩ := hS'
                  have b1 := Boxed.cell a1
                  obtain ⟨b20, b21, b22, b23, b24, b25, b26⟩ := a2.cells
                  obtain ⟨b30, b31, b32, b33, b34, b35⟩ := a3.cells
                  go_simp
                refine wpAnyHI_one (i := 4) rfl (by kernel_rfl) ?_
                intro K1 hK1
                go_simp
                refine ⟨trivial, (callsIn_wide.2 (on_any W4.drew w2.heap.size A1 m1 c1 xs hi4 (show w2.heap.size ≤ W4.heap.size by omega) hmc' hA1' (by omega) q x.2 (x.1 : Int))).mono ?_⟩
                rintro e W5 ⟨gq, cq, rfl, hownq, hb5⟩
                have hb5 : Below W4.heap.size W4 W5 := ⟨hb5.os, hb5.tape, hb5.output, hb5.size, hb5.block⟩
                have hgq : W4.heap.size ≤ gq ∧ gq < W5.heap.size := hownq.lt gq rfl
                have hz5 := hb5.size
                refine hK1 _ _ ⟨fun _ => ⟨bxBelow hbox4 hb5 hbox4.lt, hwk4.below hb5 hwk4.lt, zb4.below hb5 zb4.lt⟩, ?_⟩
                clear hK1 K1
                refine wpAnyHI_one (i := 5) rfl (by kernel_rfl) ?_
                intro K1 hK1
                go_simp
                have hcV := cells_new W5 #[.int .i64 x.2.n, .int .i64 x.2.a, .int .i64 x.2.b, .int .i64 x.2.c, .int .i64 x.2.d, .int .i64 x.2.e, .slice (some ⟨gq, 0, none⟩) (m1 + 1) cq] 135
                have hbV : Below W4.heap.size W4 (W5.alloc (.cells #[.int .i64 x.2.n, .int .i64 x.2.a, .int .i64 x.2.b, .int .i64 x.2.c, .int .i64 x.2.d, .int .i64 x.2.e, .slice (some ⟨gq, 0, none⟩) (m1 + 1) cq] 135)) := hb5.alloc (by omega) _
                have hzV : (W5.alloc (.cells #[.int .i64 x.2.n, .int .i64 x.2.a, .int .i64 x.2.b, .int .i64 x.2.c, .int .i64 x.2.d, .int .i64 x.2.e, .slice (some ⟨gq, 0, none⟩) (m1 + 1) cq] 135)).heap.size = W5.heap.size + 1 := by simp
                have hbv5 : Below W5.heap.size W5 (W5.alloc (.cells #[.int .i64 x.2.n, .int .i64 x.2.a, .int .i64 x.2.b, .int .i64 x.2.c, .int .i64 x.2.d, .int .i64 x.2.e, .slice (some ⟨gq, 0, none⟩) (m1 + 1) cq] 135)) := (Below.refl _ _).alloc (Nat.le_refl _) _
                obtain ⟨V, hV⟩ : ∃ V, V = W5.alloc (.cells #[.int .i64 x.2.n, .int .i64 x.2.a, .int .i64 x.2.b, .int .i64 x.2.c, .int .i64 x.2.d, .int .i64 x.2.e, .slice (some ⟨gq, 0, none⟩) (m1 + 1) cq] 135) := ⟨_, rfl⟩
                rw [← hV] at hcV hbV hzV hbv5 ⊢
                clear hV
                have hboxV := bxBelow hbox4 hbV hbox4.lt
                have hwkV := hwk4.below hbV hwk4.lt
                have hrowV := hrow4.below hgX hbV
                have hiV := hi4.below hbV (by omega)
                have hownV := row_below hownq hbv5
                refine hK1 _ _ ⟨fun _ => ⟨hboxV, hwkV, zb4.below hbV zb4.lt⟩, ?_⟩
                clear hK1 K1
                refine wpAnyHI_tail (k := 6) rfl rfl (by kernel_rfl) (by kernel_rfl) ?_
                simp only [List.drop_succ_cons, List.drop_zero]
                refine wpListIn_append_keep (F := Fence.wide) (nF := 1) V rfl (.tmp 60) (.tmp 65) 136 rfl w.heap.size 135 i1 (.agg #[.int .i64 0, .int .i64 0, .int .i64 0, .int .i64 0, .int .i64 0, .int .i64 0, .slice none 0 0]) 7 72 Tryz.underlying136 hi1' hy0 hy1 hy2 rfl (by decide) g1 zs1.length cap1 _ rfl hrowV.own ⟨W5.heap.size, 0, none⟩ 1 1
                  (wc (x.2, .slice (some ⟨gq, 0, none⟩) (m1 + 1) cq, xs ++ [(x.1 : Int)])) rfl rfl hcV (by simp [Value.oneCell', wc]) (by simp only [maxLen]; omega) (by omega) (by omega) (by omega) ?_
                intro g2 cap2 W6 hown6 hg6
                have hbox6 : Boxed W6 (w.heap.size + 6) 136 (.slice (some ⟨g1, 0, none⟩) zs1.length cap1) := row_other hrowV.own hg6 hboxV (by decide)
                have hc6 := hbox6.cell
                have hf6 := hbox6.frozen
                gi_wp2_with (fail)
                have hz6 := row_size hg6
                have hgV := hrowV.lt
                have hC0 := HD.out.2.1
                have hC1 : wr.heap.size ≠ g1 ∧ g1 ≠ Bh ∧ g1 ≠ Bp ∧ ∀ a : Addr, A1 = some a → 0 < m1 → a.block ≠ g1 := by
                  rw [hC0] at hgC
                  exact ⟨fun h => hgC (.inr (.inr (.inl h.symm))), fun h => hgC (.inl h), fun h => hgC (.inr (.inl h)), fun a ha h0 h => hgC (.inr (.inr (.inr ⟨a, ha, h0, h.symm⟩)))⟩
                have hX6 : ¬ X (w.heap.size + 6) := fun h => by have := hX _ h; omega
                have hg4 := hrow4.lt
                have hB6 := hBh.lt
                have hB7 := hBp.lt
                have hmV := hm4.below hbV hm4.lt
                have hsV := hsn4.below hbV hsn4.lt
                obtain ⟨o1, ho1, ho1c, -⟩ := hmV.obj
                obtain ⟨o2, ho2, ho2c, -⟩ := hsV.obj
                have hmkV : MarksAt w.heap.size Ds V := hmk4.same fun D hD hh => (hbV.block D (hmk4.lt hD)).trans hh
                have hmk6 : MarksAt w.heap.size Ds W6 := hmkV.same fun D hD hh => row_obj hrowV.own hg6 hh rfl
                obtain ⟨_, cq', eq', hle⟩ := ownsRow_slice hownV
                cases eq'
                refine ⟨((hK4.trans (KeepsFrom.of_below hbV)).trans (KeepsFrom.row hrowV.own hg6)).trans ((KeepsOthers.setCell _ _ _).from _),
                  ((hk4.trans (Keep.of_below hbV (by omega))).trans (Keep.row hg6 (by omega) (by omega) hgX (by rintro (h | h); exact hC1.2.1 h; exact hC1.2.2.1 h))).trans (Keep.setCell (by omega) hX6 (by omega) _ _), ?_, ?_, ?_, fun a b h => Hst.out (a, b) h⟩
                · rw [Hyes.out]
                  refine ⟨hX, by simp only [World.setCell, Array.size_modify]; omega, ((hbx4.below hbV (by omega)).kept fun k h1 h2 ⟨cs, t, fr, hh, ht⟩ => (row_other hrowV.own hg6 hh ht).trans hh.symm).setO (w.heap.size + 6) (by omega) _,
                    (hmV.same ((row_obj hrowV.own hg6 ho1 ho1c).trans ho1.symm)).setCell _ _ _, (hsV.same ((row_obj hrowV.own hg6 ho2 ho2c).trans ho2.symm)).setCell _ _ _,
                    ⟨g2, cap2, _, ?_, (hrowV.step (z := (x.2, .slice (some ⟨gq, 0, none⟩) (m1 + 1) cq, xs ++ [(x.1 : Int)])) rfl hle (row_ints hownV (by omega)) (fun h => by have := (Hsn.out.2.2.1 _ h).2; omega) (by omega) (by omega) hown6 hg6).box hbox6 (by decide) _, ?_, ?_⟩, marks_set hmk6 hbox6 _, hbl4.trans (BelowBut.of ?_)⟩
                  · simpa using hbox6.set (.slice (some ⟨g2, 0, none⟩) (zs1.length + 1) cap2)
                  · rcases hg6 with ⟨h, -⟩ | ⟨h, -⟩
                    · rw [h]; exact hgX
                    · exact fun h' => by have := (Hsn.out.2.2.1 _ h').2; omega
                  · rcases hg6 with ⟨h, -⟩ | ⟨h, -⟩
                    · rw [h]; exact hgC
                    · exact fun h' => by have := HD.out.2.2 _ h'; omega
                  · exact (Below.row (hbV.mono (by omega)) (by omega) hrowV.own (Nat.le_refl _) hg6).setCell (p := ⟨w.heap.size + 6, 0, none⟩) (show w.heap.size ≤ w.heap.size + 6 by omega) _
                · exact (Below.heap_setCell _ ⟨w.heap.size + 6, 0, none⟩ _ _ (show wr.heap.size ≠ w.heap.size + 6 by omega)).trans ((row_ne hg6 hwkV.lt hC1.1).trans hwkV)
                · refine ints_at hiV (Nat.le_refl _) fun a ha h0 => (Below.heap_setCell _ ⟨w.heap.size + 6, 0, none⟩ _ _ (ints_not_box hiV hboxV a ha h0)).trans (row_ne hg6 ?_ (hC1.2.2.2 a ha h0))
                  subst ha
                  obtain ⟨o3, ho3, -⟩ := ints_block hiV h0
                  exact (Array.getElem?_eq_some_iff.1 ho3).1
              · rw [hseen] at hlk
                have hno : wkP m (q, xs) s (pre ++ [x]) = s1 := by
                  rw [Hsn.out.1]
                  unfold wkStep
                  rw [if_neg (by intro h; simp [h.2] at hseen)]
                have Hno := Lib.hid hno
                clear hno hsb hseen
                gi_wp2_with (fail)
                exact ⟨KeepsFrom.of_below hb3, Keep.of_below hb3 (by omega), by rw [Hno.out]; exact hS3, hwk3, hi3, Hst.out⟩
        case done =>
          rintro D vs X W hD hSx ⟨hS, hwk, hiW, hpre⟩ hKD
          subst hSx
          have hks' : loopN ts m start limit (k + 1) = .inl (wkP m (q, xs) s (visitsF ts q)) := by rw [Hstep.out, wkL_all hpre]; rfl
          have hk2 := loopN_lt Hh.out.2.2.1 hks'
          have hwr : IntKind.i64.wrap ((k : Int) + 1) = (k : Int) + 1 := by rw [IntKind.wrap_i64]; omega
          have Hk := Lib.hid hks'
          clear hks' hpre
          rw [← marks_cons]
          gi_wp2_with (fail)
          exact Handed.intro (1001 - (k + 1)) (by omega) (hIJ _ _ _ ⟨k + 1, _, D :: Ds, _, _, _, _, _, _, _, _, _, _, _, _, _, _, _, _, _, _, _, _, _, _, _, _, _, _, _, _, _, _, _, _, _, _, _, _, _, _, _, _, _, _, _, _, _, _, _, _, _, _, _, _, _, _, _, _, rfl, ⟨by simp, by omega, rfl⟩, Hk.out, hS.next hH hD hKD HD.out.1⟩)
        case stop =>
          rintro D c' vs X W hD ⟨rest, hrest⟩ ⟨rfl, pre0, x0, ⟨rfl, hx0, hpre0⟩, hE⟩ hKD
          have hks' : loopN ts m start limit (k + 1) = .inr (xs ++ [(x0.1 : Int)], true) := by rw [Hstep.out, ← hrest, wkL_hit hpre0 hx0]; rfl
          obtain ⟨-, hr⟩ := loopN_is Hh.out.2.2.1 Hs.out.1 hks'
          subst hr
          have HE := Lib.hid hE
          clear hE hks' hpre0 hx0 hrest
          rw [← marks_cons]
          gi_wp2_with (fail)
          obtain ⟨A', k', c', e1, e2, -⟩ := HE.out.bx
          obtain ⟨m', e3⟩ := HE.out.mseen
          exact loop_end (r := (xs ++ [(x0.1 : Int)], true)) e1 e2 e3 (MarksAt.cons HE.out.mks (by omega) hKD (fun hd => by have := HD.out.1 D hd; omega)) HE.out.bl (by simp) (by simp)
    · have hnk : ¬ (k : Int) < (L : Int) := by omega
      gi_wp2_with (fail)
      have hstep : loopN ts m start limit (k + 1) = .inr ([], false) := by
        unfold loopN
        rw [Hs.out.1]
        unfold loopStep
        dsimp only
        rw [List.getElem?_eq_none (by have := Hs.out.2.2.2.1; omega)]
      obtain ⟨-, hr⟩ := loopN_is Hh.out.2.2.1 Hs.out.1 hstep
      subst hr
      exact loop_fin hG.bx hG.mseen hG.mks hG.bl (by simp) (by simp)
end Go.Proofs.YthjgecblkagelaaGreat
