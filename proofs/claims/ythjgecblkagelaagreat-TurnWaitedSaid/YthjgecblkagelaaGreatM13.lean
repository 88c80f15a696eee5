/- Parts of a proof: AN AO AP. -/
import Derived.Test.YthjgecblkagelaaGreatM12
import Derived.ArgAppend

/- walks: on. -/
namespace Go.Proofs.YthjgecblkagelaaGreat
open Go.RowKit Go.Shelf

attribute [local go_sem] Oper.semAt_some

theorem wpListIn_append_grows {F : Fence} {nF : Nat} {P : Program} (w : World) {ops : Array Oper} {rest : List Oper} {o : Oper} {a : Act} {Q : Exit → Act → World → Prop}
    (hg : o.guard = none) (s x : Operand) (t : TypeId) (hop : o.op = Op.call { callee := Callee.builtin Builtin.append, args := #[s, x], argTypes := #[t, t] })
    (e : TypeId) (i : TypeInfo) (z : Value) (size bytes : Nat) (h1 : P.underlying t = some (.slice e)) (h2 : P.info? e = some i) (h3 : i.zero = some z) (h4 : i.size = size) (h5 : i.bytes = bytes) (h6 : z.cells.size = size) (h7 : 0 < size)
    (ao : Option Addr) (n cap : Nat) (olds : List Value) (hs : a.eval s = .slice ao n cap) (hnone : ao = none → n = 0 ∧ cap = 0) (hlo : olds.length = n * size) (holds : ∀ b, ao = some b → ∀ j u, olds[j]? = some u → w.cell? (b.add j) = some u)
    (ad : Addr) (m c : Nat) (news : List Value) (hx : a.eval x = .slice (some ad) m c) (hn : news.length = m * size) (hc : ∀ j u, news[j]? = some u → w.cell? (ad.add j) = some u) (h1c : ∀ u ∈ news, u.oneCell' = true)
    (hfull : cap < n + m) (b1 : n + m ≤ maxLen) (b2 : (n + m) * bytes ≤ 140737488355328)
    (hK : ∀ v' w', w'.ownsRow w.heap.size e size v' (n + m) (olds ++ news) → w.grownBy w' none → wpListIn F nF P ops Q rest (a.put o.dst v') w') :
    wpListIn F nF P ops Q (o :: rest) a w := by
  refine wpListIn_plain hg fun K hK' => ?_
  have H : ∃ v' w', (Builtin.append_ #[t, t] o.type #[.slice ao n cap, .slice (some ad) m c]).run P w = .ok v' w' ∧ w'.ownsRow w.heap.size e size v' (n + m) (olds ++ news) ∧ w.grownBy w' none := by
    cases ao with
    | some b => exact run_append_arg_grows (P := P) w t o.type e i z size bytes h1 h2 h3 h4 h5 h6 h7 b n cap olds hlo (holds b rfl) ad m c news hn hc hfull b1 b2
    | none =>
      obtain ⟨rfl, rfl⟩ := hnone rfl
      obtain rfl : olds = [] := List.eq_nil_of_length_eq_zero (by simpa using hlo)
      obtain ⟨v', w', hrun, r1, r2, _⟩ := run_append_own (P := P) w w.heap.size t o.type e i z size bytes h1 h2 h3 h4 h5 h6 h7 (.slice none 0 0) 0 [] (World.ownsRow_nil w _ e size) ad m c news hn hc h1c b1 b2 (Nat.le_refl _)
      exact ⟨v', w', hrun, r1, r2⟩
  obtain ⟨v', w', hrun, r1, r2⟩ := H
  unfold Oper.wpIn
  refine ⟨by simp [Oper.about, hop, resolve, Target.leads, Sem.run_pure], ?_⟩
  rw [Oper.semAt_plain F _ _ (by rw [hop]; intro c hc'; cases hc')]
  simp [execOp, hop, resolve, invoke, builtin, hs, hx, hrun, Result.andThen]
  exact hK' _ _ (hK v' w' r1 r2)

/-- An append that grows, as one operation of a region that draws. -/
theorem oneIn_append_grows {F : Fence} {nF : Nat} {P : Program} (w : World) {ops : Array Oper} {o : Oper} {a : Act} {K' : Act → World → Prop} {Q : Exit → Act → World → Prop}
    (hg : o.guard = none) (s x : Operand) (t : TypeId) (hop : o.op = Op.call { callee := Callee.builtin Builtin.append, args := #[s, x], argTypes := #[t, t] })
    (e : TypeId) (i : TypeInfo) (z : Value) (size bytes : Nat) (h1 : P.underlying t = some (.slice e)) (h2 : P.info? e = some i) (h3 : i.zero = some z) (h4 : i.size = size) (h5 : i.bytes = bytes) (h6 : z.cells.size = size) (h7 : 0 < size)
    (ao : Option Addr) (n cap : Nat) (olds : List Value) (hs : a.eval s = .slice ao n cap) (hnone : ao = none → n = 0 ∧ cap = 0) (hlo : olds.length = n * size) (holds : ∀ b, ao = some b → ∀ j u, olds[j]? = some u → w.cell? (b.add j) = some u)
    (ad : Addr) (m c : Nat) (news : List Value) (hx : a.eval x = .slice (some ad) m c) (hn : news.length = m * size) (hc : ∀ j u, news[j]? = some u → w.cell? (ad.add j) = some u) (h1c : ∀ u ∈ news, u.oneCell' = true)
    (hfull : cap < n + m) (b1 : n + m ≤ maxLen) (b2 : (n + m) * bytes ≤ 140737488355328)
    (hK : ∀ v' w', w'.ownsRow w.heap.size e size v' (n + m) (olds ++ news) → w.grownBy w' none → K' (a.put o.dst v') w') :
    if Region.wanted o (yielded ops a.tmps) = true then Oper.wpIn F nF P o a w K' Q else (∀ f, o.about P w a.eval = some f → F.fn f) ∧ K' (a.put o.dst undef) w := by
  have H : ∃ v' w', (Builtin.append_ #[t, t] o.type #[.slice ao n cap, .slice (some ad) m c]).run P w = .ok v' w' ∧ w'.ownsRow w.heap.size e size v' (n + m) (olds ++ news) ∧ w.grownBy w' none := by
    cases ao with
    | some b => exact run_append_arg_grows (P := P) w t o.type e i z size bytes h1 h2 h3 h4 h5 h6 h7 b n cap olds hlo (holds b rfl) ad m c news hn hc hfull b1 b2
    | none =>
      obtain ⟨rfl, rfl⟩ := hnone rfl
      obtain rfl : olds = [] := List.eq_nil_of_length_eq_zero (by simpa using hlo)
      obtain ⟨v', w', hrun, r1, r2, _⟩ := run_append_own (P := P) w w.heap.size t o.type e i z size bytes h1 h2 h3 h4 h5 h6 h7 (.slice none 0 0) 0 [] (World.ownsRow_nil w _ e size) ad m c news hn hc h1c b1 b2 (Nat.le_refl _)
      exact ⟨v', w', hrun, r1, r2⟩
  obtain ⟨v', w', hrun, r1, r2⟩ := H
  simp only [Region.wanted, hg, if_true]
  unfold Oper.wpIn
  refine ⟨by simp [Oper.about, hop, resolve, Target.leads, Sem.run_pure], ?_⟩
  rw [Oper.semAt_plain F _ _ (by rw [hop]; intro c hc'; cases hc')]
  simp [execOp, hop, resolve, invoke, builtin, hs, hx, hrun, Result.andThen]
  exact hK v' w' r1 r2

@[reducible] def st7 (W : World) (b : Nat) (x0 x1 x2 x3 x4 x5 x6 : Value) : World := (st6 W b x0 x1 x2 x3 x4 x5).setCell ⟨b, 6, none⟩ x6
theorem st7_heap (W : World) (b : Nat) (x0 x1 x2 x3 x4 x5 x6 : Value) (k : Nat) (hk : k ≠ b) : (st7 W b x0 x1 x2 x3 x4 x5 x6).heap[k]? = W.heap[k]? :=
  (Below.heap_setCell _ ⟨b, 6, none⟩ x6 k hk).trans (st6_heap W b x0 x1 x2 x3 x4 x5 k hk)
theorem st7_at {W : World} {b : Nat} {t : TypeId} {y0 y1 y2 y3 y4 y5 y6 : Value} (h : W.heap[b]? = some (.cells #[y0, y1, y2, y3, y4, y5, y6] t (0, 0))) (x0 x1 x2 x3 x4 x5 x6 : Value) : (st7 W b x0 x1 x2 x3 x4 x5 x6).heap[b]? = some (.cells #[x0, x1, x2, x3, x4, x5, x6] t (0, 0)) := by
  have h0 : (W.setCell ⟨b, 0, none⟩ x0).heap[b]? = some (.cells #[x0, y1, y2, y3, y4, y5, y6] t (0, 0)) := setCell_heap W b 0 x0 _ _ h
  have h1 : ((W.setCell ⟨b, 0, none⟩ x0).setCell ⟨b, 1, none⟩ x1).heap[b]? = some (.cells #[x0, x1, y2, y3, y4, y5, y6] t (0, 0)) := setCell_heap (W.setCell ⟨b, 0, none⟩ x0) b 1 x1 _ _ h0
  have h2 : (((W.setCell ⟨b, 0, none⟩ x0).setCell ⟨b, 1, none⟩ x1).setCell ⟨b, 2, none⟩ x2).heap[b]? = some (.cells #[x0, x1, x2, y3, y4, y5, y6] t (0, 0)) := setCell_heap ((W.setCell ⟨b, 0, none⟩ x0).setCell ⟨b, 1, none⟩ x1) b 2 x2 _ _ h1
  have h3 : ((((W.setCell ⟨b, 0, none⟩ x0).setCell ⟨b, 1, none⟩ x1).setCell ⟨b, 2, none⟩ x2).setCell ⟨b, 3, none⟩ x3).heap[b]? = some (.cells #[x0, x1, x2, x3, y4, y5, y6] t (0, 0)) := setCell_heap (((W.setCell ⟨b, 0, none⟩ x0).setCell ⟨b, 1, none⟩ x1).setCell ⟨b, 2, none⟩ x2) b 3 x3 _ _ h2
  have h4 : (((((W.setCell ⟨b, 0, none⟩ x0).setCell ⟨b, 1, none⟩ x1).setCell ⟨b, 2, none⟩ x2).setCell ⟨b, 3, none⟩ x3).setCell ⟨b, 4, none⟩ x4).heap[b]? = some (.cells #[x0, x1, x2, x3, x4, y5, y6] t (0, 0)) := setCell_heap ((((W.setCell ⟨b, 0, none⟩ x0).setCell ⟨b, 1, none⟩ x1).setCell ⟨b, 2, none⟩ x2).setCell ⟨b, 3, none⟩ x3) b 4 x4 _ _ h3
  have h5 : ((((((W.setCell ⟨b, 0, none⟩ x0).setCell ⟨b, 1, none⟩ x1).setCell ⟨b, 2, none⟩ x2).setCell ⟨b, 3, none⟩ x3).setCell ⟨b, 4, none⟩ x4).setCell ⟨b, 5, none⟩ x5).heap[b]? = some (.cells #[x0, x1, x2, x3, x4, x5, y6] t (0, 0)) := setCell_heap (((((W.setCell ⟨b, 0, none⟩ x0).setCell ⟨b, 1, none⟩ x1).setCell ⟨b, 2, none⟩ x2).setCell ⟨b, 3, none⟩ x3).setCell ⟨b, 4, none⟩ x4) b 5 x5 _ _ h4
  have h6 : (((((((W.setCell ⟨b, 0, none⟩ x0).setCell ⟨b, 1, none⟩ x1).setCell ⟨b, 2, none⟩ x2).setCell ⟨b, 3, none⟩ x3).setCell ⟨b, 4, none⟩ x4).setCell ⟨b, 5, none⟩ x5).setCell ⟨b, 6, none⟩ x6).heap[b]? = some (.cells #[x0, x1, x2, x3, x4, x5, x6] t (0, 0)) := setCell_heap ((((((W.setCell ⟨b, 0, none⟩ x0).setCell ⟨b, 1, none⟩ x1).setCell ⟨b, 2, none⟩ x2).setCell ⟨b, 3, none⟩ x3).setCell ⟨b, 4, none⟩ x4).setCell ⟨b, 5, none⟩ x5) b 6 x6 _ _ h5
  exact h6
theorem st7_below {D b : Nat} {w0 W : World} {x0 x1 x2 x3 x4 x5 x6 : Value} (hb : Below D w0 W) (hD : D ≤ b) : Below D w0 (st7 W b x0 x1 x2 x3 x4 x5 x6) := (st6_below hb hD).setCell hD _
theorem on_results (W : World) (tmps : Array Value) (b : Nat) (x0 x1 x2 x3 x4 x5 x6 : Value) (h : W.heap[b]? = some (.cells #[x0, x1, x2, x3, x4, x5, x6] 135 (0, 0))) (t3 : tmps.getD 6 undef = .pointer (some ⟨b, 0, none⟩)) :
    (results Tryz.f101 tmps).run Tryz.prog W = .ok (.agg #[x0, x1, x2, x3, x4, x5, x6]) W := by
  have hcs : ∀ (k : Nat) (u : Value), (#[x0, x1, x2, x3, x4, x5, x6] : Array Value)[k]? = some u → W.cell? ⟨b, k, none⟩ = some u := fun k u hu => by simp only [World.cell?, h]; simpa using hu
  have z0 := hcs 0 _ rfl
  have z1 := hcs 1 _ rfl
  have z2 := hcs 2 _ rfl
  have z3 := hcs 3 _ rfl
  have z4 := hcs 4 _ rfl
  have z5 := hcs 5 _ rfl
  have z6 := hcs 6 _ rfl
  simp only [Array.getD_eq_getD_getElem?] at t3
  simp [results, Tryz.results101, go_sem, t3, z0, z1, z2, z3, z4, z5, z6]
theorem slice_full (A : Option Addr) (m c : Nat) (h : m ≤ c) (w : World) (hA : A = none → c = 0) : (Instr.slice 22 (.slice A m c) none (some (.int .i64 (m : Int))) (some (.int .i64 (m : Int)))).run Tryz.prog w = .ok (.slice A m m) w := by
  have hsz : (Tryz.prog.info? 3).map (·.size) = some 1 := by kernel_rfl
  have h1 : ∀ w, (sizeOf 3).run Tryz.prog w = .ok 1 w := by
    intro w
    cases hi : Tryz.prog.info? 3 with
    | none => rw [hi] at hsz; cases hsz
    | some i => rw [hi] at hsz; simp at hsz; simp [sizeOf, typeInfo, hi, hsz]
  have h2 : ∀ b : Addr, b.add 0 = b := fun b => by simp [Addr.add]
  by_cases h0 : m = 0
  · subst h0
    cases A <;> simp [Instr.slice, run_underlying Tryz.underlying22, Instr.sliceBounds, Instr.sliceBound, asIntOf, h1]
  · cases A with
    | none => have := hA rfl; omega
    | some b => simp [Instr.slice, run_underlying Tryz.underlying22, Instr.sliceBounds, Instr.sliceBound, asIntOf, h1, h2, h]

set_option maxRecDepth 100000 in
set_option maxHeartbeats 4000000 in
theorem on_any (w : World) (B : Nat) (A : Option Addr) (m c : Nat) (row : List Int) (hx : IntsAt w B A m row) (hB : B ≤ w.heap.size) (hmc : m ≤ c) (hA : A = none → c = 0) (hm : m ≤ 1000000) (q p : Pl) (i : Int) :
    Calls Tryz.prog 101 #[.agg #[.int .i64 q.n, .int .i64 q.a, .int .i64 q.b, .int .i64 q.c, .int .i64 q.d, .int .i64 q.e, .slice A m c], .int .i64 i, plv p] w fun e w' => ∃ g c', e = .returned (.agg #[.int .i64 p.n, .int .i64 p.a, .int .i64 p.b, .int .i64 p.c, .int .i64 p.d, .int .i64 p.e, .slice (some ⟨g, 0, none⟩) (m + 1) c']) ∧
      w'.ownsRow w.heap.size 3 1 (.slice (some ⟨g, 0, none⟩) (m + 1) c') (m + 1) ((row ++ [i]).map (.int .i64)) ∧ Below w.heap.size w w' := by
  obtain ⟨i0, hi, hz0, hz1, hz2⟩ := info_parts infoInt
  have hb0 : Below w.heap.size w (((w.alloc (.cells #[.int .i64 q.n, .int .i64 q.a, .int .i64 q.b, .int .i64 q.c, .int .i64 q.d, .int .i64 q.e, .slice A m c] 135)).alloc (.cells (plc p) 64)).alloc (.cells #[.int .i64 0, .int .i64 0, .int .i64 0, .int .i64 0, .int .i64 0, .int .i64 0, .slice none 0 0] 135)) := (((Below.refl _ w).alloc (Nat.le_refl _) _).alloc (by simp) _).alloc (by simp; omega) _
  have x1 := (PlAt.new (w.alloc (.cells #[.int .i64 q.n, .int .i64 q.a, .int .i64 q.b, .int .i64 q.c, .int .i64 q.d, .int .i64 q.e, .slice A m c] 135)) p).alloc (.cells #[.int .i64 0, .int .i64 0, .int .i64 0, .int .i64 0, .int .i64 0, .int .i64 0, .slice none 0 0] 135)
  have xr := World.alloc_heap_new ((w.alloc (.cells #[.int .i64 q.n, .int .i64 q.a, .int .i64 q.b, .int .i64 q.c, .int .i64 q.d, .int .i64 q.e, .slice A m c] 135)).alloc (.cells (plc p) 64)) (.cells #[.int .i64 0, .int .i64 0, .int .i64 0, .int .i64 0, .int .i64 0, .int .i64 0, .slice none 0 0] 135)
  have x0 : ((w.alloc (.cells #[.int .i64 q.n, .int .i64 q.a, .int .i64 q.b, .int .i64 q.c, .int .i64 q.d, .int .i64 q.e, .slice A m c] 135)).alloc (.cells (plc p) 64)).heap[w.heap.size]? = some (.cells #[.int .i64 q.n, .int .i64 q.a, .int .i64 q.b, .int .i64 q.c, .int .i64 q.d, .int .i64 q.e, .slice A m c] 135 (0, 0)) := (Below.heap_alloc _ _ _ (by simp)).trans (World.alloc_heap_new w _)
  have x0 := (Below.heap_alloc ((w.alloc (.cells #[.int .i64 q.n, .int .i64 q.a, .int .i64 q.b, .int .i64 q.c, .int .i64 q.d, .int .i64 q.e, .slice A m c] 135)).alloc (.cells (plc p) 64)) (.cells #[.int .i64 0, .int .i64 0, .int .i64 0, .int .i64 0, .int .i64 0, .int .i64 0, .slice none 0 0] 135) _ (by simp; omega)).trans x0
  simp only [World.size_alloc, Nat.add_assoc, Nat.reduceAdd] at x1 xr
  obtain ⟨V, hV⟩ : ∃ V, V = ((w.alloc (.cells #[.int .i64 q.n, .int .i64 q.a, .int .i64 q.b, .int .i64 q.c, .int .i64 q.d, .int .i64 q.e, .slice A m c] 135)).alloc (.cells (plc p) 64)).alloc (.cells #[.int .i64 0, .int .i64 0, .int .i64 0, .int .i64 0, .int .i64 0, .int .i64 0, .slice none 0 0] 135) := ⟨_, rfl⟩
  have hzV : V.heap.size = w.heap.size + 3 := by rw [hV]; simp
  rw [← hV] at hb0 x1 xr x0
  have b6 : V.cell? ⟨w.heap.size, 6, none⟩ = some (.slice A m c) := by simp [World.cell?, x0]
  have hsl := slice_full A m c hmc
  have hsl := fun w => hsl w hA
  have hxV := hx.below hb0 hB
  have c1s := x1.cells
  go_enter Tryz.func101, Tryz.ntmps101
  go_wp2_with (fail)
  rw [← hV]
  clear hV
  refine region_held_wp 3 (fun W' => (W'.cell? ⟨w.heap.size + 1, 0, none⟩ = some (.int .i64 p.n) ∧ W'.cell? ⟨w.heap.size + 1, 1, none⟩ = some (.int .i64 p.a) ∧ W'.cell? ⟨w.heap.size + 1, 2, none⟩ = some (.int .i64 p.b) ∧ W'.cell? ⟨w.heap.size + 1, 3, none⟩ = some (.int .i64 p.c) ∧
      W'.cell? ⟨w.heap.size + 1, 4, none⟩ = some (.int .i64 p.d) ∧ W'.cell? ⟨w.heap.size + 1, 5, none⟩ = some (.int .i64 p.e)) ∧ W'.cell? ⟨w.heap.size, 6, none⟩ = some (.slice A m c)) (fun j => decide (j ≤ 8)) (by kernel_rfl) ?_
  intro KR hKR
  have hS0 := And.intro c1s b6
  refine wpAnyHI_takeE (i := 0) (v := plv p) (some 11) rfl rfl (by kernel_rfl) (by kernel_rfl) (by kernel_rfl) (by kernel_rfl) (by kernel_rfl) (fun _ _ _ h => h) hS0 (.inl ⟨by rfl, fun W' hS' => ?_⟩) ?_
  · obtain ⟨⟨a0, a1, a2, a3, a4, a5⟩, b0⟩ := hS'
    go_simp
  refine wpAnyHI_takeE (i := 1) (v := .pointer (some ⟨w.heap.size, 6, none⟩)) (some 12) rfl rfl (by kernel_rfl) (by kernel_rfl) (by kernel_rfl) (by kernel_rfl) (by kernel_rfl) (fun _ _ _ h => h) hS0 (.inl ⟨by rfl, fun W' hS' => ?_⟩) ?_
  · obtain ⟨⟨a0, a1, a2, a3, a4, a5⟩, b0⟩ := hS'
    go_simp
  refine wpAnyHI_takeE (i := 2) (v := .slice A m c) (some 13) rfl rfl (by kernel_rfl) (by kernel_rfl) (by kernel_rfl) (by kernel_rfl) (by kernel_rfl) (fun _ _ _ h => h) hS0 (.inl ⟨by rfl, fun W' hS' => ?_⟩) ?_
  · obtain ⟨⟨a0, a1, a2, a3, a4, a5⟩, b0⟩ := hS'
    go_simp
  refine wpAnyHI_takeE (i := 3) (v := .int .i64 (m : Int)) (some 14) rfl rfl (by kernel_rfl) (by kernel_rfl) (by kernel_rfl) (by kernel_rfl) (by kernel_rfl) (fun _ _ _ h => h) hS0 (.inl ⟨by rfl, fun W' hS' => ?_⟩) ?_
  · obtain ⟨⟨a0, a1, a2, a3, a4, a5⟩, b0⟩ := hS'
    go_simp
  refine wpAnyHI_takeE (i := 4) (v := .int .i64 (m : Int)) (some 15) rfl rfl (by kernel_rfl) (by kernel_rfl) (by kernel_rfl) (by kernel_rfl) (by kernel_rfl) (fun _ _ _ h => h) hS0 (.inl ⟨by rfl, fun W' hS' => ?_⟩) ?_
  · obtain ⟨⟨a0, a1, a2, a3, a4, a5⟩, b0⟩ := hS'
    go_simp
  refine wpAnyHI_takeE (i := 5) (v := .slice A m m) (some 16) rfl rfl (by kernel_rfl) (by kernel_rfl) (by kernel_rfl) (by kernel_rfl) (by kernel_rfl) (fun _ _ _ h => h) hS0 (.inl ⟨by rfl, fun W' hS' => ?_⟩) ?_
  · obtain ⟨⟨a0, a1, a2, a3, a4, a5⟩, b0⟩ := hS'
    go_simp
  refine wpAnyHI_takeE (i := 6) (v := .int .i64 i) (some 17) rfl rfl (by kernel_rfl) (by kernel_rfl) (by kernel_rfl) (by kernel_rfl) (by kernel_rfl) (fun _ _ _ h => h) hS0 (.inl ⟨by rfl, fun W' hS' => ?_⟩) ?_
  · obtain ⟨⟨a0, a1, a2, a3, a4, a5⟩, b0⟩ := hS'
    go_simp
  refine wpAnyHI_one (i := 7) rfl (by kernel_rfl) ?_
  intro K1 hK1
  go_simp
  have hcn := cells_new V #[.int .i64 i] 3
  rw [hzV] at hcn
  have hlo : row.length = m := hx.len
  have hbU : Below V.heap.size V (V.alloc (.cells #[.int .i64 i] 3)).drew := ((Below.refl _ V).alloc (Nat.le_refl _) _).trans ⟨rfl, rfl, rfl, Nat.le_refl _, fun _ _ => rfl⟩
  have hzU : (V.alloc (.cells #[.int .i64 i] 3)).drew.heap.size = w.heap.size + 4 := by simp [hzV]
  have hcU : ∀ j u, ([.int .i64 i] : List Value)[j]? = some u → (V.alloc (.cells #[.int .i64 i] 3)).drew.cell? ((⟨w.heap.size + 1 + 1 + 1, 0, none⟩ : Addr).add j) = some u := hcn
  have hxU := hxV.below ((hbU.mono (show w.heap.size ≤ V.heap.size by omega))) hB
  obtain ⟨U, hU⟩ : ∃ U, U = (V.alloc (.cells #[.int .i64 i] 3)).drew := ⟨_, rfl⟩
  rw [← hU] at hbU hzU hcU hxU ⊢
  have keep : ∀ k o u, k < 3 → V.cell? ⟨w.heap.size + k, o, none⟩ = some u → U.cell? ⟨w.heap.size + k, o, none⟩ = some u := fun k o u hk h => (hbU.cell (p := ⟨w.heap.size + k, o, none⟩) (show w.heap.size + k < V.heap.size by omega)).trans h
  have hSU := And.intro (And.intro (keep 1 _ _ (by omega) c1s.1) (And.intro (keep 1 _ _ (by omega) c1s.2.1) (And.intro (keep 1 _ _ (by omega) c1s.2.2.1) (And.intro (keep 1 _ _ (by omega) c1s.2.2.2.1) (And.intro (keep 1 _ _ (by omega) c1s.2.2.2.2.1) (keep 1 _ _ (by omega) c1s.2.2.2.2.2)))))) (keep 0 _ _ (by omega) b6)
  refine hK1 _ _ ⟨fun _ => hSU, ?_⟩
  clear hK1 K1
  refine wpAnyHI_one (i := 8) rfl (by kernel_rfl) ?_
  intro K1 hK1
  refine oneIn_append_grows U rfl (.tmp 16) (.tmp 18) 22 rfl 3 i0 (.int .i64 0) 1 8 Tryz.underlying22 hi hz0 hz1 hz2 rfl (by decide) A m m (row.map (.int .i64)) rfl ?_ (by simp [hlo]) ?_ ⟨w.heap.size + 1 + 1 + 1, 0, none⟩ 1 1 [.int .i64 i] rfl rfl hcU (by simp [Value.oneCell']) (by omega) (by simp only [maxLen]; omega) (by omega) ?_
  · intro h
    have := hA h
    omega
  · rintro b hb j u hu
    have hj : j < m := by
      have := (List.getElem?_eq_some_iff.1 hu).1
      simpa [hlo] using this
    obtain ⟨b1, o1, e, -, hc⟩ := hxU.cell hj
    rw [hb] at e
    cases e
    have hu' : u = .int .i64 (row[j]?.getD 0) := by
      rw [List.getElem?_map] at hu
      rw [List.getElem?_eq_getElem (by omega)] at hu ⊢
      simpa using hu.symm
    have ha : (⟨b1, o1, none⟩ : Addr).add j = ⟨b1, o1 + j, none⟩ := by simp [Addr.add]
    rw [ha, hu']
    exact hc
  intro v' w1 hown' hgrow
  obtain ⟨g', c', rfl⟩ := ownsRow_succ hown'
  have hgz := hgrow.size
  have keep1 : ∀ k o u, k < 3 → U.cell? ⟨w.heap.size + k, o, none⟩ = some u → w1.cell? ⟨w.heap.size + k, o, none⟩ = some u := fun k o u hk h => hgrow.cell h (by simp)
  have hS1 := And.intro (And.intro (keep1 1 _ _ (by omega) hSU.1.1) (And.intro (keep1 1 _ _ (by omega) hSU.1.2.1) (And.intro (keep1 1 _ _ (by omega) hSU.1.2.2.1) (And.intro (keep1 1 _ _ (by omega) hSU.1.2.2.2.1) (And.intro (keep1 1 _ _ (by omega) hSU.1.2.2.2.2.1) (keep1 1 _ _ (by omega) hSU.1.2.2.2.2.2)))))) (keep1 0 _ _ (by omega) hSU.2)
  refine hK1 _ _ ⟨fun _ => hS1, ?_⟩
  clear hK1 K1
  refine wpAnyHI_tail (k := 9) rfl rfl (by kernel_rfl) (by kernel_rfl) ?_
  simp only [List.drop_succ_cons, List.drop_zero]
  have hB1 : Below w.heap.size w w1 := (hb0.trans (hbU.mono (show w.heap.size ≤ V.heap.size by omega))).trans ((Below.refl _ U).grown hgrow (by omega) (fun r e => (by cases e)))
  have hh1 : w1.heap[w.heap.size + 2]? = some (.cells #[.int .i64 0, .int .i64 0, .int .i64 0, .int .i64 0, .int .i64 0, .int .i64 0, .slice none 0 0] 135 (0, 0)) := (hgrow.block _ (by omega) (by simp)).trans ((hbU.block _ (by omega)).trans xr)
  have hcs : ∀ (k : Nat) (u : Value), (#[.int .i64 0, .int .i64 0, .int .i64 0, .int .i64 0, .int .i64 0, .int .i64 0, .slice none 0 0] : Array Value)[k]? = some u → w1.cell? ⟨w.heap.size + 2, k, none⟩ = some u := fun k u h => by simp [World.cell?, hh1, h]
  have hfz : ∀ k : Nat, w1.frozen? ⟨w.heap.size + 2, k, none⟩ = false := fun k => by simp [World.frozen?, hh1]
  have z0 := hcs 0 _ rfl
  have z1 := hcs 1 _ rfl
  have z2 := hcs 2 _ rfl
  have z3 := hcs 3 _ rfl
  have z4 := hcs 4 _ rfl
  have z5 := hcs 5 _ rfl
  have z6 := hcs 6 _ rfl
  have g0 := hfz 0
  have g1 := hfz 1
  have g2 := hfz 2
  have g3 := hfz 3
  have g4 := hfz 4
  have g5 := hfz 5
  have g6 := hfz 6
  clear hcs hfz keep keep1
  gi_wp2_with (fail)
  go_wp2_with (fail)
  have h7 := st7_at hh1 (.int .i64 p.n) (.int .i64 p.a) (.int .i64 p.b) (.int .i64 p.c) (.int .i64 p.d) (.int .i64 p.e) (.slice (some ⟨g', 0, none⟩) (m + 1) c')
  refine bodyPost_ret (on_results _ _ (w.heap.size + 2) _ _ _ _ _ _ _ h7 (by simp)) rfl ?_
  have hg3 := (hown'.lt g' rfl).1
  refine ⟨g', c', rfl, ?_, st7_below hB1 (by omega)⟩
  have hr := row_heap hown' (fun g hg => by
    have e : g' = g := by simpa [Value.ownBlock] using hg
    exact st7_heap w1 (w.heap.size + 2) (.int .i64 p.n) (.int .i64 p.a) (.int .i64 p.b) (.int .i64 p.c) (.int .i64 p.d) (.int .i64 p.e) (.slice (some ⟨g', 0, none⟩) (m + 1) c') g (by omega))
  have hr := row_mono hr (show w.heap.size ≤ U.heap.size by omega)
  simpa using hr
end Go.Proofs.YthjgecblkagelaaGreat

/- References: All, Visited. -/
namespace Go.Proofs.YthjgecblkagelaaGreat
open Go.RowKit Go.Shelf

attribute [local go_sem] Oper.semAt_some

def allL (n : Nat) : List Int := (List.range n).map fun i : Nat => (i : Int)
theorem allL_succ (n : Nat) : allL (n + 1) = allL n ++ [(n : Int)] := by simp [allL, List.range_succ]
theorem allL_len (n : Nat) : (allL n).length = n := by simp [allL]

set_option maxRecDepth 100000 in
set_option maxHeartbeats 4000000 in
theorem All_any (w : World) (A : Option Addr) (n c : Nat) (hn : n ≤ 1000000) :
    Calls Tryz.prog 40 #[.agg #[.slice A n c]] w fun e w' => ∃ v, e = .returned v ∧ w'.ownsRow w.heap.size 3 1 v n ((allL n).map (.int .i64)) ∧ Below w.heap.size w w' := by
  obtain ⟨i0, hi, hz0, hz1, hz2⟩ := info_parts infoInt
  have hb0 : Below w.heap.size w (w.alloc (.cells #[.slice A n c] 24)) := (Below.refl _ w).alloc (Nat.le_refl _) _
  have x0 := Boxed.new w 24 (.slice A n c)
  have c0 := x0.cell
  refine (callsIn_wide (n := 3)).1 ?_
  refine callsIn_of_wp Tryz.func40 rfl trivial ?_ rfl
  simp only [Tryz.ntmps40, List.size_toArray, List.length_cons, List.length_nil, Nat.reduceAdd, Nat.reduceSub, Array.replicate_succ, Array.replicate_zero, List.push_toArray, List.append_toArray, List.nil_append, List.cons_append]
  gi_wp2_with (fail)
  gi_loopg [3, 4] n (fun g v3 v4 wr => ∃ j : Nat, (j ≤ n ∧ g = n - j ∧ v4 = .int .i64 (j : Int)) ∧ wr.ownsRow w.heap.size 3 1 v3 j ((allL j).map (.int .i64)) ∧ Boxed wr w.heap.size 24 (.slice A n c) ∧ Below w.heap.size w wr)
  case atStart => exact ⟨0, ⟨Nat.zero_le _, rfl, rfl⟩, World.ownsRow_nil _ _ _ _, x0, hb0⟩
  case round =>
    clear x0 c0 hb0
    obtain ⟨j, ⟨hjn, rfl, rfl⟩, hrow, hx, hb⟩ := hrel
    have c0 := hx.cell
    have hz := hx.lt
    by_cases hj : j < n
    · have hwj : IntKind.i64.wrap ((j : Int) + 1) = (j : Int) + 1 := by rw [IntKind.wrap_i64]; omega
      gi_wp2_with (gi_at_builtin; refine wpListIn_append_own_at (F := Fence.wide) (nF := 3) _ rfl _ _ 22 rfl w.heap.size 3 i0 (.int .i64 0) 1 8 Tryz.underlying22 hi hz0 hz1 hz2 rfl (by decide) _ _ _ rfl (hrow.alloc _) ⟨wr.heap.size, 0, none⟩ 1 1 [.int .i64 (j : Int)] rfl rfl (cell_one_new _ _ _) (by simp [Value.oneCell']) (by simp only [maxLen]; omega) (by omega) (by simp; omega) ?_; intro v' w1 hown' hgrow _ hat)
      gi_roundg (n - (j + 1))
      case measure => omega
      case rel =>
        refine ⟨j + 1, ⟨hj, rfl, by simp⟩, by rw [allL_succ]; simpa using hown', ?_, (hb.alloc hb.size _).trans ((Below.refl _ _).grown hgrow (by simp; omega) (fun r e => (hrow.lt r e).1))⟩
        exact (hgrow.block _ (by simp; omega) (fun e => cells_not_row hx hrow (by decide) _ e.symm rfl)).trans ((Below.heap_alloc _ _ _ hz).trans hx)
    · have hjn' : j = n := by omega
      subst hjn'
      have hnj : ¬ (j : Int) < (j : Int) := by omega
      gi_wp2_with (fail)
      refine bodyPost_ret (results_tmp rfl _ _ _) rfl ⟨_, rfl, ?_, hb⟩
      exact hrow

theorem ownsRow_pos {W : World} {base : Nat} {e : TypeId} {size : Nat} {v : Value} {n : Nat} {xs : List Value} (h : W.ownsRow base e size v n xs) (hn : 0 < n) : ∃ g cap, v = .slice (some ⟨g, 0, none⟩) n cap := by
  rcases h.2 with ⟨-, h0⟩ | ⟨g, cap, cur, he, -⟩
  · omega
  · exact ⟨g, cap, he⟩
/-- A store into a row of the call's own. -/
theorem row_set {W : World} {base g cap n : Nat} {e : TypeId} {xs : List Value} (h : W.ownsRow base e 1 (.slice (some ⟨g, 0, none⟩) n cap) n xs) {i : Nat} (_hi : i < n) (u : Value) :
    (W.setCell ⟨g, i, none⟩ u).ownsRow base e 1 (.slice (some ⟨g, 0, none⟩) n cap) n (xs.set i u) := by
  refine ⟨by rw [List.length_set]; exact h.1, ?_⟩
  rcases h.2 with ⟨he, -⟩ | ⟨g', cap', cur, he, hb, hg, hle, hmx, hcs, htk⟩
  · cases he
  · cases he
    refine .inr ⟨g, cap, cur.setIfInBounds i u, rfl, hb, setCell_heap W g i u cur e hg, hle, hmx, by simpa using hcs, ?_⟩
    rw [← htk]
    simp [List.take_set]
theorem row_frozen {W : World} {base g cap n : Nat} {e : TypeId} {size : Nat} {xs : List Value} (h : W.ownsRow base e size (.slice (some ⟨g, 0, none⟩) n cap) n xs) (i : Nat) : W.frozen? ⟨g, i, none⟩ = false := by
  rcases h.2 with ⟨he, -⟩ | ⟨g', cap', cur, he, hb, hg, -⟩
  · cases he
  · cases he
    simp [World.frozen?, hg]
theorem row_cell {W : World} {base g cap n : Nat} {e : TypeId} {xs : List Int} (h : W.ownsRow base e 1 (.slice (some ⟨g, 0, none⟩) n cap) n (xs.map (.int .i64))) {i : Nat} (hi : i < n) : W.cell? ⟨g, i, none⟩ = some (.int .i64 (xs[i]?.getD 0)) := by
  have hl : xs.length = n := by simpa using h.1
  have := h.cells (g := g) rfl i (.int .i64 (xs[i]?.getD 0)) (by rw [List.getElem?_map, List.getElem?_eq_getElem (by omega)]; rfl)
  have ha : (⟨g, 0, none⟩ : Addr).add i = ⟨g, i, none⟩ := by simp [Addr.add]; omega
  rwa [ha] at this
theorem ints_cells {W : World} {B n : Nat} {b : Addr} {xs : List Int} (h : IntsAt W B (some b) n xs) : ∀ j u, (xs.map (Value.int .i64))[j]? = some u → W.cell? (b.add j) = some u := by
  intro j u hu
  have hj : j < n := by
    have := (List.getElem?_eq_some_iff.1 hu).1
    rw [← h.len]; simpa using this
  obtain ⟨b1, o1, e, -, hc⟩ := h.cell hj
  cases e
  have hu' : u = .int .i64 (xs[j]?.getD 0) := by
    rw [List.getElem?_map] at hu
    rw [List.getElem?_eq_getElem (by rw [h.len]; exact hj)] at hu ⊢
    simpa using hu.symm
  have ha : (⟨b1, o1, none⟩ : Addr).add j = ⟨b1, o1 + j, none⟩ := by simp [Addr.add]
  rw [ha, hu']
  exact hc

set_option maxRecDepth 100000 in
set_option maxHeartbeats 4000000 in
theorem Visited_any (w : World) (B : Nat) (A : Option Addr) (n c : Nat) (xs : List Int) (hx : IntsAt w B A n xs) (hB : B ≤ w.heap.size) (i : Nat) (hin : i < n) (hn : n ≤ 1000000) :
    Calls Tryz.prog 51 #[.slice A n c, .int .i64 (i : Int)] w fun e w' => ∃ v, e = .returned v ∧ w'.ownsRow w.heap.size 3 1 v n ((xs.set i 0).map (.int .i64)) ∧ Below w.heap.size w w' := by
  obtain ⟨i0, hi, hz0, hz1, hz2⟩ := info_parts infoInt
  have hb0 : Below w.heap.size w (w.alloc (.cells #[] 3)) := (Below.refl _ w).alloc (Nat.le_refl _) _
  have hr0 := World.ownsRow_made (base := w.heap.size) (e := 3) (size := 1) w #[] 0 (Nat.le_refl _) (by simp [maxLen]) rfl
  have hxV := hx.below hb0 hB
  obtain ⟨b, rfl⟩ : ∃ b, A = some b := by
    obtain ⟨b, o, e, -⟩ := hx.cell hin
    exact ⟨_, e⟩
  have hl := hx.len
  refine (callsIn_wide (n := 3)).1 ?_
  refine callsIn_of_wp Tryz.func51 rfl trivial ?_ rfl
  simp only [Tryz.ntmps51, List.size_toArray, List.length_cons, List.length_nil, Nat.reduceAdd, Nat.reduceSub, Array.replicate_succ, Array.replicate_zero, List.push_toArray, List.append_toArray, List.nil_append, List.cons_append]
  gi_wp2_with (gi_at_builtin; refine wpListIn_append_own_at (F := Fence.wide) (nF := 3) _ rfl _ _ 22 rfl w.heap.size 3 i0 (.int .i64 0) 1 8 Tryz.underlying22 hi hz0 hz1 hz2 rfl (by decide) _ 0 [] rfl hr0 b n c (xs.map (.int .i64)) rfl (by simp [hl]) (ints_cells hxV) (by simp [Value.oneCell']) (by simp only [maxLen]; omega) (by omega) (by simp) ?_; intro v' w1 hown' hgrow _ hat; rw [Nat.zero_add, List.nil_append] at hown'; obtain ⟨g', c', rfl⟩ := ownsRow_pos hown' (Nat.lt_of_le_of_lt (Nat.zero_le _) hin); have hcell := row_cell hown' hin; have hfz := row_frozen hown' i)
  have hrs := row_set hown' hin (.int .i64 0)
  have hg' := (hown'.lt g' rfl).1
  refine bodyPost_ret (results_tmp rfl _ _ _) rfl ⟨_, rfl, ?_, ?_⟩
  · rw [List.map_set]
    exact hrs
  · exact ((hb0.trans ((Below.refl _ _).grown hgrow (by simp) (fun r e => (hr0.lt r e).1))).setCell hg' _)
end Go.Proofs.YthjgecblkagelaaGreat

/- References: Stated. -/
namespace Go.Proofs.YthjgecblkagelaaGreat
open Go.RowKit Go.Shelf

attribute [local go_sem] Oper.semAt_some

set_option maxHeartbeats 2000000 in
set_option maxRecDepth 100000 in
theorem Stated_any (w : World) (B1 B2 : Nat) (A1 A2 : Option Addr) (n c m d : Nat) (ts ss : List Int) (h1 : IntsAt w B1 A1 n ts) (hB1 : B1 ≤ w.heap.size) (h2 : IntsAt w B2 A2 m ss) (hB2 : B2 ≤ w.heap.size) :
    Calls Tryz.prog 37 #[.agg #[.slice A1 n c], .slice A2 m d] w fun e w' => e = .returned (.int .i64 (statedF ts ss)) ∧ Below w.heap.size w w' := by
  have hb0 : Below w.heap.size w (w.alloc (.cells #[.slice A1 n c] 24)) := (Below.refl _ w).alloc (Nat.le_refl _) _
  have x0 := Boxed.new w 24 (.slice A1 n c)
  have Hn := Lib.hid (And.intro h1.len h2.len)
  have hs1 := h1.small
  have hs2 := h2.small
  go_enter Tryz.func37, Tryz.ntmps37
  go_wp2_with (fail)
  refine (rcheckHall_any _ B1 A1 n c ts (h1.below hb0 hB1) (by have := hb0.size; omega)).mono ?_
  rintro e w2 ⟨rfl, hb⟩
  have hB := hb0.trans (hb.mono hb0.size)
  have y0 := bxBelow x0 hb x0.lt
  have c0 := y0.cell
  clear hb hb0 x0
  obtain ⟨r, hr⟩ : ∃ r, r = checkHallF ts := ⟨_, rfl⟩
  by_cases h0 : r = 0
  · have hsf : statedF ts ss = if m ≠ n then 15 else if stateOk ts ss then 0 else 3 := by
      unfold statedF
      rw [if_neg (by rw [← hr, h0]; simp), Hn.out.1, Hn.out.2]
    have hv := valid_of (hr.symm.trans h0)
    have Hs := Lib.hid (And.intro hsf hv)
    rw [← hr, h0]
    clear hsf hr h0 hv
    by_cases hmn : m = n
    · subst hmn
      have hsf := Hs.out.1
      rw [if_neg (by simp)] at hsf
      have Hsf := Lib.hid hsf
      clear hsf
      go_wp2_with (fail)
      go_loopw [5] (fun i wr => ∃ k : Nat, k ≤ m ∧ i = .int .i64 k ∧ Boxed wr w.heap.size 24 (.slice A1 m c) ∧ Below w.heap.size w wr ∧ ∀ j, j < k → 0 ≤ ss[j]?.getD 0 ∧ ss[j]?.getD 0 ≤ ts[j]?.getD 0) (fun i _ => m - (intOf i).toNat)
      case atStart => exact ⟨0, by omega, rfl, y0, hB, fun j hj => by omega⟩
      case round =>
        obtain ⟨k, hk, rfl, hbx, hb, hall⟩ := hrel
        have Hall := Lib.hid hall
        have c1 := hbx.cell
        clear hall
        by_cases hlt : k < m
        · obtain ⟨b1, o1, rfl, -, hc1⟩ := (h1.below hb hB1).cell hlt
          obtain ⟨b2, o2, rfl, -, hc2⟩ := (h2.below hb hB2).cell hlt
          by_cases hneg : ss[k]?.getD 0 < 0
          · have hbad : stateOk ts ss = false := stateOk_false (i := k) (by rw [Hn.out.1]; exact hlt) (by omega)
            have Hbad := Lib.hid hbad
            clear hbad
            go_wp2
            go_quiet (fail)
            go_wp2
            go_ret
            exact ⟨ret_int (by rw [Hsf.out, if_neg (by rw [Hbad.out]; simp)]), hb.trans ⟨rfl, rfl, rfl, Nat.le_refl _, fun _ _ => rfl⟩⟩
          · have hnn : 0 ≤ ss[k]?.getD 0 := by omega
            by_cases hgt : ts[k]?.getD 0 < ss[k]?.getD 0
            · have hbad : stateOk ts ss = false := stateOk_false (i := k) (by rw [Hn.out.1]; exact hlt) (by omega)
              have Hbad := Lib.hid hbad
              clear hbad
              go_wp2
              go_quiet (fail)
              go_wp2
              go_ret
              exact ⟨ret_int (by rw [Hsf.out, if_neg (by rw [Hbad.out]; simp)]), hb.trans ⟨rfl, rfl, rfl, Nat.le_refl _, fun _ _ => rfl⟩⟩
            · have hle : ss[k]?.getD 0 ≤ ts[k]?.getD 0 := by omega
              have Hle := Lib.hid (And.intro hnn hle)
              go_wp2
              go_quiet (fail)
              go_wp2
              go_roundw
              case rel =>
                exact ⟨k + 1, by omega, by go_num, hbx, hb.trans ⟨rfl, rfl, rfl, Nat.le_refl _, fun _ _ => rfl⟩, fun j hj => by
                  rcases Nat.lt_succ_iff_lt_or_eq.1 hj with h | rfl
                  · exact Hall.out j h
                  · exact ⟨Hle.out.1, Hle.out.2⟩⟩
              case measure => simp [intOf]; omega
        · go_wp2
          go_ret
          exact ⟨ret_int (by rw [Hsf.out, if_pos (stateOk_true fun i hi => Hall.out i (by rw [Hn.out.1] at hi; omega))]), hb⟩
    · have hsf := Hs.out.1
      rw [if_pos hmn] at hsf
      have Hsf := Lib.hid hsf
      have hmb : ¬ (m : Int) = (n : Int) := by omega
      clear hsf
      go_wp2_with (fail)
      go_ret
      exact ⟨ret_int Hsf.out.symm, hB⟩
  · have hsf : statedF ts ss = r := by unfold statedF; rw [← hr, if_pos h0]
    rw [← hr]
    have Hs := Lib.hid (And.intro hsf hr)
    clear hsf hr
    go_wp2_with (fail)
    refine (rcheckHall_any _ B1 A1 n c ts (h1.below hB hB1) (by have := hB.size; omega)).mono ?_
    rintro e w3 ⟨rfl, hb⟩
    have hB3 := hB.trans (hb.mono hB.size)
    go_wp2_with (fail)
    go_ret
    exact ⟨ret_int (by rw [Hs.out.1, Hs.out.2]), hB3⟩
end Go.Proofs.YthjgecblkagelaaGreat
