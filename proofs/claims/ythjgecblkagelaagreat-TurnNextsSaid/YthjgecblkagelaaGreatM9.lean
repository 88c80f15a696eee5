/- Parts of a proof: AC AD. -/
import Derived.Test.YthjgecblkagelaaGreatM8
import Derived.Sort.LoopGhostIn
import Derived.Carry

/- tableOf. -/
namespace Go.Proofs.YthjgecblkagelaaGreat
open Go.RowKit Go.Shelf

attribute [local go_sem] Oper.semAt_some

def TbNil (W : World) (b : Nat) : Prop := W.heap[b]? = some (.cells #[.slice none 0 0, .map none, .map none] 60 (0, 0))
theorem TbNil.lt {W : World} {b : Nat} (h : TbNil W b) : b < W.heap.size := (Array.getElem?_eq_some_iff.1 h).1
theorem TbNil.cells {W : World} {b : Nat} (h : TbNil W b) : W.cell? ⟨b, 0, none⟩ = some (.slice none 0 0) ∧ W.cell? ⟨b, 1, none⟩ = some (.map none) ∧ W.cell? ⟨b, 2, none⟩ = some (.map none) := by
  unfold TbNil at h
  simp [World.cell?, h]
theorem TbNil.frozens {W : World} {b : Nat} (h : TbNil W b) : W.frozen? ⟨b, 0, none⟩ = false ∧ W.frozen? ⟨b, 1, none⟩ = false ∧ W.frozen? ⟨b, 2, none⟩ = false := by
  unfold TbNil at h
  simp [World.frozen?, h]
theorem st3_heap (W : World) (b : Nat) (x0 x1 x2 : Value) (k : Nat) (hk : k ≠ b) : (((W.setCell ⟨b, 0, none⟩ x0).setCell ⟨b, 1, none⟩ x1).setCell ⟨b, 2, none⟩ x2).heap[k]? = W.heap[k]? :=
  ((Below.heap_setCell _ ⟨b, 2, none⟩ x2 k hk).trans (Below.heap_setCell _ ⟨b, 1, none⟩ x1 k hk)).trans (Below.heap_setCell W ⟨b, 0, none⟩ x0 k hk)
theorem TbNil.store {W : World} {b : Nat} (h : TbNil W b) (A : Option Addr) (n c ms ml : Nat) : TbAt (((W.setCell ⟨b, 0, none⟩ (.slice A n c)).setCell ⟨b, 1, none⟩ (.map (some ms))).setCell ⟨b, 2, none⟩ (.map (some ml))) b A n c ms ml := by
  have h0 := setCell_heap W b 0 (.slice A n c) _ _ h
  have h1 := setCell_heap _ b 1 (.map (some ms)) _ _ h0
  have h2 := setCell_heap _ b 2 (.map (some ml)) _ _ h1
  exact h2
theorem tableOf_results (W : World) (tmps : Array Value) (b : Nat) (A : Option Addr) (n c ms ml : Nat) (h3 : TbAt W b A n c ms ml) (t3 : tmps.getD 2 undef = .pointer (some ⟨b, 0, none⟩)) :
    (results Tryz.f47 tmps).run Tryz.prog W = .ok (.agg (tbc A n c ms ml)) W := by
  obtain ⟨c0, c1, c2⟩ := h3.cells
  simp only [Array.getD_eq_getD_getElem?] at t3
  simp [results, Tryz.results47, go_sem, t3, c0, c1, c2]
theorem TbNil.new (W : World) : TbNil (W.alloc (.cells #[.slice none 0 0, .map none, .map none] 60)) W.heap.size := World.alloc_heap_new W _
theorem TbNil.below {W W' : World} {b D : Nat} (h : TbNil W b) (hb : Below D W W') (hD : b < D) : TbNil W' b := (hb.block b hD).trans h
theorem TbNil.alloc {W : World} {b : Nat} (h : TbNil W b) (o : Obj) : TbNil (W.alloc o) b := (Below.heap_alloc W o b h.lt).trans h

theorem TbNil.st {B : Nat} {X : Nat → Prop} {W W' : World} (h : St B X W W') {b : Nat} (hb : TbNil W b) (hX : ¬ X b) : TbNil W' b := h.same _ _ hb hX (.inl rfl)
theorem tabL_len (ts : List Int) (l : List Pl) : (tabL ts l).2.2.length ≤ l.length := by
  have H : ∀ (l : List Pl) (s : CSt), (l.foldl (tabStep ts) s).2.2.length ≤ s.2.2.length + l.length := by
    intro l
    induction l with
    | nil => simp
    | cons x l ih =>
      intro s
      have h1 := ih (tabStep ts s x)
      have h2 : (tabStep ts s x).2.2.length ≤ s.2.2.length + 1 := by unfold tabStep; split <;> simp
      simp only [List.foldl_cons, List.length_cons]
      omega
  simpa [tabL] using H l ([], [], [])
def pm {ts : List Int} (pre : List {d // d ∈ statesL ts}) : List Pl := pre.map fun d => plOf d.1
theorem pm_len {ts : List Int} (pre : List {d // d ∈ statesL ts}) : (pm pre).length = pre.length := by simp [pm]
theorem pm_snoc {ts : List Int} (pre : List {d // d ∈ statesL ts}) (x : {d // d ∈ statesL ts}) : pm (pre ++ [x]) = pm pre ++ [plOf x.1] := by simp [pm]
theorem pm_all {ts : List Int} {pre : List {d // d ∈ statesL ts}} (h : pre.map (·.1) = statesL ts) : pm pre = (statesL ts).map plOf := by rw [← h, List.map_map]; rfl
theorem Keep.mp {α : Type} {enc : α → Value} {n₀ b : Nat} {C X : Nat → Prop} {W W' : World} {m : List (Pl × α)} (h : Keep n₀ C X W W') (hm : MapAt α enc W b m) (hc : X b ∨ C b) : MapAt α enc W' b m := by
  obtain ⟨es, clock, hh, r⟩ := hm
  exact ⟨es, clock, h.same _ _ hh hc, r⟩
theorem but_row {D : Nat} {S : Nat → Prop} {W W' : World} (h : BelowBut D S W W') {base : Nat} {e : TypeId} {size : Nat} {v : Value} {k : Nat} {xs : List Value} (hr : W.ownsRow base e size v k xs) (hD : W.heap.size ≤ D) (hS : ∀ g, v.ownBlock = some g → ¬ S g) : W'.ownsRow base e size v k xs := by
  refine ⟨hr.1, ?_⟩
  rcases hr.2 with hn | ⟨g, cap, cur, rfl, hb, hg, rest⟩
  · exact .inl hn
  · exact .inr ⟨g, cap, cur, rfl, hb, (h.same g (by have := (Array.getElem?_eq_some_iff.1 hg).1; omega) (hS g rfl)).trans hg, rest⟩
theorem row_cells {W : World} {base : Nat} {e : TypeId} {size : Nat} {v : Value} {k D : Nat} {xs : List Value} (hr : W.ownsRow base e size v k xs) (hD : W.heap[D]? = some (.deferred (some []))) : ∀ g, v.ownBlock = some g → g ≠ D := by
  rintro g hg rfl
  rcases hr.2 with ⟨rfl, -⟩ | ⟨g', cap, cur, rfl, hb, hh, rest⟩
  · cases hg
  · cases hg
    rw [hh] at hD
    cases hD
theorem bxGrown {W w1 : World} {n₀ B : Nat} {t e : TypeId} {size : Nat} {v v' : Value} {k m : Nat} {xs ys : List Value} (hv : Boxed W B t v) (hte : t ≠ e) (hrow : W.ownsRow n₀ e size v k xs) (hown' : w1.ownsRow n₀ e size v' m ys) (hgrow : W.grownBy w1 v.ownBlock) :
    Boxed w1 B t v ∧ Boxed (w1.setCell ⟨B, 0, none⟩ v') B t v' ∧ (w1.setCell ⟨B, 0, none⟩ v').ownsRow n₀ e size v' m ys := by
  have hv1 : Boxed w1 B t v := hv.kept hgrow (hv.not_row hte hrow)
  exact ⟨hv1, hv1.set v', hown'.kept (grownBy_setCell' w1 B v') (.inr (hv1.not_row hte hown').symm)⟩
theorem flat_one (ps : List Pl) : ∀ u ∈ flat ps, u.oneCell' = true := by
  intro u hu
  obtain ⟨p, -, hp⟩ := List.mem_flatMap.1 hu
  simp at hp
  rcases hp with rfl | rfl | rfl | rfl | rfl | rfl <;> rfl
theorem flat_append (ps qs : List Pl) : flat (ps ++ qs) = flat ps ++ flat qs := by simp [flat]
theorem put_row {α : Type} {enc : α → Value} {W : World} {l : Nat} {m : List (Pl × α)} (hm : MapAt α enc W l m) {base : Nat} {e : TypeId} {size : Nat} {v : Value} {k : Nat} {xs : List Value} (h : W.ownsRow base e size v k xs) (o' : Obj) : (W.putObj l o').ownsRow base e size v k xs := by
  obtain ⟨es, clock, hh, -⟩ := hm
  exact ownsRow_putObj h o' hh rfl
theorem put_below {D l : Nat} {w W : World} (h : Below D w W) (hD : D ≤ l) (hz : D ≤ W.heap.size) (o : Obj) : Below D w (W.putObj l o) :=
  h.trans ((Below.refl D W).grown (grownBy_putObj' W l o) hz (fun r e => by cases e; exact hD))
set_option maxRecDepth 100000 in
set_option maxHeartbeats 4000000 in
theorem tableOf_any (w : World) (B : Nat) (A : Option Addr) (n c : Nat) (ts : List Int) (hx : IntsAt w B A n ts) (hB : B ≤ w.heap.size) (h1 : 1 ≤ n) (h5 : n ≤ 5) (h12 : ∀ i, i < n → 1 ≤ ts[i]?.getD 0 ∧ ts[i]?.getD 0 ≤ 12)
    (hs : (statesL ts).length ≤ 1000) (N : Nat) (hN : N ≤ 10000) (hend : (tabN ts N).2.2.length ≤ N) :
    Calls Tryz.prog 47 #[.agg #[.slice A n c]] w fun e w' => ∃ ms ml, e = .returned (.agg (tbc A n c ms ml)) ∧ w.heap.size ≤ ms ∧ w.heap.size ≤ ml ∧ ms ≠ ml ∧
      MapAt Int encI w' ms (tabN ts N).1 ∧ MapAt Int encI w' ml (tabN ts N).2.1 ∧ Below w.heap.size w w' := by
  obtain ⟨i0, hi, hz0, hz1, hz2⟩ := info_parts infoPl
  have Hend := Lib.hid (And.intro hN (And.intro hend hs))
  clear hN hend hs
  refine (callsIn_wide (n := 3)).1 ?_
  refine callsIn_of_wp_marks Tryz.func47 rfl trivial ?_ rfl
  simp only [Tryz.ntmps47, List.size_toArray, List.length_cons, List.length_nil, Nat.reduceAdd, Nat.reduceSub, Array.replicate_succ, Array.replicate_zero, List.push_toArray, List.append_toArray, List.nil_append, List.cons_append]
  have hmm := @run_makeMap Tryz.prog
  have hb0 : Below w.heap.size w ((((((w.alloc (.cells #[.slice A n c] 24)).alloc (.cells #[.slice none 0 0, .map none, .map none] 60)).alloc (.map #[] 0)).alloc (.map #[] 0)).alloc (.cells (tbc A n c (w.heap.size + 2) (w.heap.size + 3)) 60)).alloc (.cells #[.slice none 0 0] 108)) :=
    ((((((Below.refl _ w).alloc (Nat.le_refl _) _).alloc (by simp) _).alloc (by simp; omega) _).alloc (by simp; omega) _).alloc (by simp; omega) _).alloc (by simp; omega) _
  have x1 := ((((TbNil.new (w.alloc (.cells #[.slice A n c] 24))).alloc (.map #[] 0)).alloc (.map #[] 0)).alloc (.cells (tbc A n c (w.heap.size + 2) (w.heap.size + 3)) 60)).alloc (.cells #[.slice none 0 0] 108)
  have x2 := (((MapAt.new (α := Int) (enc := encI) ((w.alloc (.cells #[.slice A n c] 24)).alloc (.cells #[.slice none 0 0, .map none, .map none] 60))).alloc (.map #[] 0)).alloc (.cells (tbc A n c (w.heap.size + 2) (w.heap.size + 3)) 60)).alloc (.cells #[.slice none 0 0] 108)
  have x3 := ((MapAt.new (α := Int) (enc := encI) (((w.alloc (.cells #[.slice A n c] 24)).alloc (.cells #[.slice none 0 0, .map none, .map none] 60)).alloc (.map #[] 0))).alloc (.cells (tbc A n c (w.heap.size + 2) (w.heap.size + 3)) 60)).alloc (.cells #[.slice none 0 0] 108)
  have x4 := (TbAt.new ((((w.alloc (.cells #[.slice A n c] 24)).alloc (.cells #[.slice none 0 0, .map none, .map none] 60)).alloc (.map #[] 0)).alloc (.map #[] 0)) A n c (w.heap.size + 2) (w.heap.size + 3)).alloc (.cells #[.slice none 0 0] 108)
  have x5 := Boxed.new (((((w.alloc (.cells #[.slice A n c] 24)).alloc (.cells #[.slice none 0 0, .map none, .map none] 60)).alloc (.map #[] 0)).alloc (.map #[] 0)).alloc (.cells (tbc A n c (w.heap.size + 2) (w.heap.size + 3)) 60)) 108 (.slice none 0 0)
  simp only [World.size_alloc, Nat.add_assoc, Nat.reduceAdd] at x1 x2 x3 x4 x5
  gi_wp2_with (fail)
  refine ⟨trivial, ?_⟩
  refine (callsIn_wide.2 (places_box _ _ _ _)).mono ?_
  rintro e w2 ⟨Bh, rfl, hBh, hgh, hb2⟩
  have hB2 : Below w.heap.size w w2 := hb0.trans (hb2.mono hb0.size)
  have hgh6 : w.heap.size + 6 ≤ Bh := by simp at hgh; omega
  clear hgh
  have y1 := x1.below hb2 x1.lt
  have y2 := x2.below hb2 x2.lt
  have y3 := x3.below hb2 x3.lt
  have y4 := x4.below hb2 x4.lt
  have y5 := bxBelow x5 hb2 x5.lt
  have hz := y5.lt
  clear hb2 hb0 x1 x2 x3 x4 x5 hmm
  gi_wp2_with (fail)
  refine range_pl (P := Tryz.prog) (gf := 98) rfl (enters_of Tryz.func98 (by kernel_rfl) rfl) (encs := fun d : {d // d ∈ statesL ts} => #[plv (plOf d.1)]) (fun d => plOf d.1) (n₀ := w.heap.size) (w0 := w2)
    (places1_any w2 Bh w.heap.size A n c ts hBh hB2.size ((hx.below hB2 hB).more hB) h1 h5 h12) (Below.refl _ _) (by rintro k rfl; exact hBh.lt) hB2.size (fun _ => rfl)
    (fun pre X W => ∃ v, ((∀ k, X k → w2.heap.size ≤ k) ∧ w2.heap.size ≤ W.heap.size ∧ (∀ g, v.ownBlock = some g → ¬ X g ∧ ¬ (g = Bh ∨ (w.heap.size < g ∧ g < w.heap.size + 5)))) ∧ (TbNil W (w.heap.size + 1) ∧ TbAt W (w.heap.size + 4) A n c (w.heap.size + 2) (w.heap.size + 3)) ∧
      (MapAt Int encI W (w.heap.size + 2) (tabL ts (pm pre)).1 ∧ MapAt Int encI W (w.heap.size + 3) (tabL ts (pm pre)).2.1) ∧ Boxed W (w.heap.size + 5) 108 v ∧
      W.ownsRow w.heap.size 64 6 v (tabL ts (pm pre)).2.2.length (flat (tabL ts (pm pre)).2.2) ∧ Below w.heap.size w W)
    (fun _ _ _ _ => False)
    ?hI (fun _ _ _ _ _ _ h => h.elim) ?h0 ?a1 ?assign ?body ?done ?stop
  case assign =>
    intro l x W b K hb hK
    gi_wp2
    rw [← hb]
    exact hK
  case hI =>
    rintro pre X X' W W' ⟨v, ⟨hX, hWz, hv⟩, ⟨z0, z1⟩, ⟨zs, zl⟩, z2, hrow, hB⟩ hst hgr
    exact ⟨v, ⟨fun k h => (hgr.2 k h).elim (hX k) (fun h => by omega), Nat.le_trans hWz hst.base.size, fun g hg => ⟨hgr.not (hv g hg).1 (hrow.lt g hg).2, (hv g hg).2⟩⟩,
      ⟨TbNil.st hst z0 (fun h => by have := hX _ h; omega), hst.tb z1 (fun h => by have := hX _ h; omega)⟩, ⟨hst.mp zs (fun h => by have := hX _ h; omega) (by omega), hst.mp zl (fun h => by have := hX _ h; omega) (by omega)⟩,
      hst.bx z2 (fun h => by have := hX _ h; omega), hst.row hrow (fun g hg => (hv g hg).1),
      hB.trans (hst.below (fun k h => by have := hX k h; omega) (by omega) hB.size)⟩
  case h0 =>
    exact ⟨_, ⟨fun _ h => h.elim, Nat.le_refl _, fun g h => by simp [Value.ownBlock] at h⟩, ⟨y1, y4⟩, ⟨y2, y3⟩, y5, World.ownsRow_nil _ _ _ _, hB2⟩
  case body =>
    rintro l pre x0 X b W ⟨v, ⟨hX, -, hv⟩, ⟨z0, z1⟩, ⟨zs, zl⟩, z2, hrow, hBW⟩ zb hbz hWz hXz hlen
    have hok : PlOk ts (plOf x0.1) := plOf_ok x0.2 (by rw [hx.len]; exact h5) (fun i hi => by have := h12 i (by rw [← hx.len]; exact hi); omega)
    have hsn := tabL_snoc ts (pm pre) (plOf x0.1)
    rw [← pm_snoc] at hsn
    obtain ⟨x, hxx⟩ : ∃ x, x = plOf x0.1 := ⟨_, rfl⟩
    rw [← hxx] at hok hsn
    have zb : PlAt W b x := by rw [hxx]; exact zb
    clear hxx
    have hlen2 : (tabL ts (pm pre)).2.2.length < 1000 := by have h1 := tabL_len ts (pm pre); have := Hend.out.2.2; rw [pm_len] at h1; omega
    have hnl : (ts.length : Int) = (n : Int) := by rw [hx.len]
    obtain ⟨t0, t1, t2⟩ := z1.cells
    obtain ⟨c0, c1, c2, c3, c4, c5⟩ := zb.cells
    have Hb := Lib.hid (And.intro hok (And.intro hv (And.intro hsn (And.intro h12 hnl))))
    clear hok hsn hv h12 hnl
    gi_wp2_with (fail)
    have hWz0 := hBW.size
    refine ⟨trivial, (CallsIn.inRound l (callsIn_wide.2 (pull_any W B _ _ _ ts (hx.below hBW hB) (by omega) h5 Hb.out.2.2.2.1 x Hb.out.1 77 #[] allF (pullFn_all _ _)))).mono ?_⟩
    rintro e W2 ⟨rfl, hb⟩
    have hzb := hb.size
    have z0' := z0.below hb z0.lt
    have z1' := z1.below hb z1.lt
    have zs' := zs.below hb zs.lt
    have zl' := zl.below hb zl.lt
    have z2' := bxBelow z2 hb z2.lt
    have zb' := zb.below hb zb.lt
    have hrow' := row_below hrow hb
    have hBW' := hBW.trans (hb.mono hBW.size)
    have hXm : ¬ X (w.heap.size + 2) ∧ ¬ X (w.heap.size + 3) := ⟨fun h => by have := hX _ h; omega, fun h => by have := hX _ h; omega⟩
    clear t0 t1 t2 c0 c1 c2 c3 c4 c5
    cases hpf : pullF ts allF x with
    | some q =>
      have hst := tabStep_some (s := tabL ts (pm pre)) hpf
      have Hst := Lib.hid (Hb.out.2.2.1.trans hst)
      have Hpf := Lib.hid hpf
      clear hpf hst
      dsimp only [pullRes]
      have zs3 := zs'.alloc (.cells (plc q) 64)
      obtain ⟨o, ho, hup, zs4⟩ := update_pl zs3 58 3 Tryz.underlying58 x (n : Int)
      have z13 := z1'.alloc (.cells (plc q) 64)
      have zb3 := zb'.alloc (.cells (plc q) 64)
      obtain ⟨t0, t1, t2⟩ := z13.cells
      obtain ⟨c0, c1, c2, c3, c4, c5⟩ := zb3.cells
      gi_wp2_with (fail)
      have hb3 : Below W.heap.size W (W2.alloc (.cells (plc q) 64)) := hb.alloc hb.size _
      have hbb := hb3.size
      refine ⟨(KeepsFrom.of_below hb3).trans (KeepsFrom.put (by omega)), (Keep.of_below hb3 hBW.size).trans (Keep.putObj (by omega) hXm.1 (by omega) zs3.lt), v, ⟨hX, by simp; omega, Hb.out.2.1⟩,
        ⟨(World.putObj_heap_other (by omega)).trans (z0'.alloc _), (World.putObj_heap_other (by omega)).trans z13⟩, ⟨?_, ?_⟩, (World.putObj_heap_other (by omega)).trans ((Below.heap_alloc _ _ _ z2'.lt).trans z2'), ?_, put_below (hBW'.alloc hBW'.size _) (by omega) (by have := hBW'.size; simp; omega) _⟩
      · rw [Hst.out, Hb.out.2.2.2.2]; exact zs4
      · rw [Hst.out]; exact (zl'.alloc _).putOther (by omega) _
      · rw [Hst.out]; exact put_row zs3 (hrow'.alloc _) _
    | none =>
      have hst := tabStep_none (s := tabL ts (pm pre)) hpf
      have Hst := Lib.hid (Hb.out.2.2.1.trans hst)
      have Hpf := Lib.hid hpf
      clear hpf hst
      dsimp only [pullRes]
      have zl3 := zl'.alloc (.cells (plc ⟨0, 0, 0, 0, 0, 0⟩) 64)
      obtain ⟨o, ho, hup, zl4⟩ := update_pl zl3 58 3 Tryz.underlying58 x 0
      have z13 := z1'.alloc (.cells (plc ⟨0, 0, 0, 0, 0, 0⟩) 64)
      have zb3 := zb'.alloc (.cells (plc ⟨0, 0, 0, 0, 0, 0⟩) 64)
      have hb3 : Below W.heap.size W (W2.alloc (.cells (plc ⟨0, 0, 0, 0, 0, 0⟩) 64)) := hb.alloc hb.size _
      have hbb := hb3.size
      have hr3 := hrow'.alloc (.cells (plc ⟨0, 0, 0, 0, 0, 0⟩) 64)
      have z03 := z0'.alloc (.cells (plc ⟨0, 0, 0, 0, 0, 0⟩) 64)
      have zs3 := zs'.alloc (.cells (plc ⟨0, 0, 0, 0, 0, 0⟩) 64)
      have z23 : Boxed (W2.alloc (.cells (plc ⟨0, 0, 0, 0, 0, 0⟩) 64)) (w.heap.size + 5) 108 v := (Below.heap_alloc _ _ _ z2'.lt).trans z2'
      have hB3 := hBW'.alloc hBW'.size (.cells (plc ⟨0, 0, 0, 0, 0, 0⟩) 64)
      obtain ⟨W3, hW3⟩ : ∃ W3, W3 = W2.alloc (.cells (plc ⟨0, 0, 0, 0, 0, 0⟩) 64) := ⟨_, rfl⟩
      have hz3 : W3.heap.size = W2.heap.size + 1 := by rw [hW3]; simp
      rw [← hW3] at hup zl3 zl4 z13 zb3 hb3 hbb hr3 z03 zs3 z23 hB3
      have hup' := hup
      rw [hW3] at hup'
      have z04 : TbNil (W3.putObj (w.heap.size + 3) o) (w.heap.size + 1) := (World.putObj_heap_other (by omega)).trans z03
      have z14 : TbAt (W3.putObj (w.heap.size + 3) o) (w.heap.size + 4) A n c (w.heap.size + 2) (w.heap.size + 3) := (World.putObj_heap_other (by omega)).trans z13
      have z24 : Boxed (W3.putObj (w.heap.size + 3) o) (w.heap.size + 5) 108 v := (World.putObj_heap_other (by omega)).trans z23
      have zb4 : PlAt (W3.putObj (w.heap.size + 3) o) b x := (World.putObj_heap_other (by omega)).trans zb3
      have zs4 := zs3.putOther (g := w.heap.size + 3) (by omega) o
      have hr4 := put_row zl3 hr3 o
      have hB4 := put_below (l := w.heap.size + 3) hB3 (by omega) (by omega) o
      have hK4 : KeepsFrom w2.heap.size W (W3.putObj (w.heap.size + 3) o) := (KeepsFrom.of_below hb3).trans (KeepsFrom.put (by omega))
      have hk4 : Keep w.heap.size (fun k => k = Bh) X W (W3.putObj (w.heap.size + 3) o) := (Keep.of_below hb3 hBW.size).trans (Keep.putObj (by omega) hXm.2 (by omega) zl3.lt)
      have hz4 : (W3.putObj (w.heap.size + 3) o).heap.size = W2.heap.size + 1 := by simp [hz3]
      have hcn := cells_new (W3.putObj (w.heap.size + 3) o) (plc x) 64
      rw [hz4] at hcn
      have Hcn := Lib.hid hcn
      have Hz := Lib.hid (And.intro hz3 hz4)
      have HzA := Lib.hid (show w.heap.size ≤ (W3.putObj (w.heap.size + 3) o).heap.size by omega)
      clear hcn hz3 hz4 hup
      subst hW3
      have g24 := z24.cell
      obtain ⟨j0, j1, j2, j3, j4, j5⟩ := zb4.cells
      obtain ⟨t0, t1, t2⟩ := z13.cells
      obtain ⟨c0, c1, c2, c3, c4, c5⟩ := zb3.cells
      clear hb hb3 zb' zl3 zs3 z13 zb3 z03 z23 hr3 hB3 z0' z1' z2' hrow'
      gi_wp2_with (gi_at_builtin; refine wpListIn_append_own_at (F := Fence.wide.inRound l) (nF := 1) _ rfl _ _ 108 rfl w.heap.size 64 i0 (plv ⟨0, 0, 0, 0, 0, 0⟩) 6 48 Tryz.underlying108 hi hz0 hz1 hz2 rfl (by decide) v _ _ rfl (hr4.alloc _) ⟨W2.heap.size + 1, 0, none⟩ 1 1 (plc x).toList rfl rfl Hcn.out (by simp [Value.oneCell']) (by simp only [maxLen]; omega) (by omega) (by have := Hz.out.2; simp; omega) ?_; intro v' w1 hown' hgrow _ hat; obtain ⟨g', cap', rfl⟩ := ownsRow_succ hown'; obtain ⟨hv1, hv2, hr2, hk2, hb2⟩ := z24.appended (by decide) hr4 HzA.out (by omega) hown' hgrow; have hc1 := hv1.cell; have hf1 := hv1.frozen)
      obtain ⟨hkeep, hv'⟩ := row_appended (X := X) (C := fun k => k = Bh ∨ (w.heap.size < k ∧ k < w.heap.size + 5)) (b := w.heap.size + 5) hr4 HzA.out (by omega) hgrow hat (fun h => by have := hX _ h; omega) (by omega) Hb.out.2.1
        (fun k h => by have := (hXz k h).2; have := Hz.out.2; omega) (by rintro k (rfl | h); have := hBh.lt; have := Hz.out.2; omega; have := Hz.out.2; omega)
      have hsz := hkeep.below.size
      refine ⟨hK4.trans (hk2.from _), hk4.trans (hkeep.weaken fun k h => .inl h), ⟨_, ⟨hX, Nat.le_trans (Nat.le_trans (show w2.heap.size ≤ W2.heap.size + 1 by omega) (Nat.le_of_eq Hz.out.2.symm)) hsz, fun g hg => ⟨(hv' g hg).1, by have h := (hv' g hg).2; omega⟩⟩, ⟨hkeep.same _ _ z04 (.inr (.inr (by omega))), hkeep.same _ _ z14 (.inr (.inr (by omega)))⟩, ⟨?_, ?_⟩, hv2, ?_, hB4.trans hb2⟩⟩
      · rw [Hst.out]; exact hkeep.mp zs4 (.inr (.inr (by omega)))
      · rw [Hst.out]; exact hkeep.mp zl4 (.inr (.inr (by omega)))
      · rw [Hst.out]
        simp only [flat_snoc, List.length_append, List.length_cons, List.length_nil]
        exact hr2
  case done =>
    rintro D xs X W hD hS ⟨v, ⟨-, hWz, hv⟩, ⟨z0, z1⟩, ⟨zs, zl⟩, z2, hrow, hBW⟩ hK
    have hv := fun g hg h => (hv g hg).2 (.inr h)
    rw [pm_all hS] at zs zl hrow
    have e0 : tabL ts ((statesL ts).map plOf) = tabN ts 0 := rfl
    rw [e0] at zs zl hrow
    clear e0 hS
    have hDz : D < W.heap.size := (Array.getElem?_eq_some_iff.1 hK).1
    gi_wp2_with (fail)
    gi_loopg [8] N (fun m v8 wr => ∃ (k : Nat) (v : Value), k ≤ N ∧ m = N - k ∧ v8 = .int .i64 (k : Int) ∧ (TbNil wr (w.heap.size + 1) ∧ TbAt wr (w.heap.size + 4) A n c (w.heap.size + 2) (w.heap.size + 3)) ∧
      (MapAt Int encI wr (w.heap.size + 2) (tabN ts k).1 ∧ MapAt Int encI wr (w.heap.size + 3) (tabN ts k).2.1) ∧ Boxed wr (w.heap.size + 5) 108 v ∧
      wr.ownsRow w.heap.size 64 6 v (tabN ts k).2.2.length (flat (tabN ts k).2.2) ∧ Below w.heap.size w wr ∧ wr.heap[D]? = some (.deferred (some [])) ∧ ∀ g, v.ownBlock = some g → ¬ (w.heap.size < g ∧ g < w.heap.size + 5))
    case atStart => exact ⟨0, v, Nat.zero_le _, rfl, rfl, ⟨z0, z1⟩, ⟨zs, zl⟩, z2, hrow, hBW, hK, fun g hg h => hv g hg h⟩
    case round =>
      clear z0 z1 zs zl z2 hrow hBW hK hv hDz hWz
      obtain ⟨k, v, hkN, rfl, rfl, ⟨z0, z1⟩, ⟨zs, zl⟩, z2, hrow, hBW, hK, hv⟩ := hrel
      obtain ⟨A', cap, rfl, hle⟩ := ownsRow_slice hrow
      have hok := tabN_ok (by rw [hx.len]; exact h5) Hend.out.2.2 (fun i hi => h12 i (by rw [← hx.len]; exact hi)) k
      have hlen := hok.len
      have hN := Hend.out.1
      have c5 := z2.cell
      obtain ⟨L, hL⟩ : ∃ L, L = (tabN ts k).2.2.length := ⟨_, rfl⟩
      rw [← hL] at hrow c5 z2 hlen
      have Hok := Lib.hid (And.intro hok (And.intro hL hv))
      clear hok hv hL
      have hzw := z2.lt
      by_cases hkL : k < L
      · obtain ⟨g, rfl⟩ : ∃ g, A' = some ⟨g, 0, none⟩ := by
          rcases hrow.2 with ⟨-, h0⟩ | ⟨g, cap', cur, he, -⟩
          · omega
          · cases he; exact ⟨g, rfl⟩
        obtain ⟨p, hp⟩ : ∃ p, (tabN ts k).2.2[k]? = some p := ⟨_, List.getElem?_eq_getElem (by have := Hok.out.2.1; omega)⟩
        obtain ⟨d0, d1, d2, d3, d4, d5⟩ := row_place hrow hp
        obtain ⟨t0, t1, t2⟩ := z1.cells
        have Hp := Lib.hid hp
        clear hp
        gi_wp2_with (fail)
        refine region_held (fun W' => W'.cell? ⟨w.heap.size + 5, 0, none⟩ = some (.slice (some ⟨g, 0, none⟩) L cap) ∧ (W'.cell? ⟨w.heap.size + 4, 0, none⟩ = some (.slice A n c) ∧ W'.cell? ⟨w.heap.size + 4, 1, none⟩ = some (.map (some (w.heap.size + 2))) ∧ W'.cell? ⟨w.heap.size + 4, 2, none⟩ = some (.map (some (w.heap.size + 3)))) ∧
          (W'.cell? ⟨g, k * 6, none⟩ = some (.int .i64 p.n) ∧ W'.cell? ⟨g, k * 6 + 1, none⟩ = some (.int .i64 p.a) ∧ W'.cell? ⟨g, k * 6 + 2, none⟩ = some (.int .i64 p.b) ∧ W'.cell? ⟨g, k * 6 + 3, none⟩ = some (.int .i64 p.c) ∧
            W'.cell? ⟨g, k * 6 + 4, none⟩ = some (.int .i64 p.d) ∧ W'.cell? ⟨g, k * 6 + 5, none⟩ = some (.int .i64 p.e))) (fun j => decide (j ≤ 6)) (by kernel_rfl) ?_
        intro KR hKR
        have hS0 := And.intro c5 (And.intro (And.intro t0 (And.intro t1 t2)) (And.intro d0 (And.intro d1 (And.intro d2 (And.intro d3 (And.intro d4 d5))))))
        refine wpAnyHI_take (i := 0) (v := .slice (some ⟨g, 0, none⟩) L cap) rfl (by kernel_rfl) (by kernel_rfl) (by kernel_rfl) (by kernel_rfl) (by kernel_rfl) (fun _ _ _ h => h) hS0 (.inl ⟨by rfl, fun W' hS' => ?_⟩) ?_
        · obtain ⟨s5, ⟨s0, s1, s2⟩, e0, e1, e2, e3, e4, e5⟩ := hS'
          go_simp
        refine wpAnyHI_take (i := 1) (v := .agg (tbc A n c (w.heap.size + 2) (w.heap.size + 3))) rfl (by kernel_rfl) (by kernel_rfl) (by kernel_rfl) (by kernel_rfl) (by kernel_rfl) (fun _ _ _ h => h) hS0 (.inl ⟨by rfl, fun W' hS' => ?_⟩) ?_
        · obtain ⟨s5, ⟨s0, s1, s2⟩, e0, e1, e2, e3, e4, e5⟩ := hS'
          go_simp
        refine wpAnyHI_take (i := 2) (v := .slice (some ⟨g, 0, none⟩) L cap) rfl (by kernel_rfl) (by kernel_rfl) (by kernel_rfl) (by kernel_rfl) (by kernel_rfl) (fun _ _ _ h => h) hS0 (.inl ⟨by rfl, fun W' hS' => ?_⟩) ?_
        · obtain ⟨s5, ⟨s0, s1, s2⟩, e0, e1, e2, e3, e4, e5⟩ := hS'
          go_simp
        refine wpAnyHI_take (i := 3) (v := .int .i64 (k : Int)) rfl (by kernel_rfl) (by kernel_rfl) (by kernel_rfl) (by kernel_rfl) (by kernel_rfl) (fun _ _ _ h => h) hS0 (.inl ⟨by rfl, fun W' hS' => ?_⟩) ?_
        · go_simp
        refine wpAnyHI_take (i := 4) (v := .pointer (some ⟨g, k * 6, none⟩)) rfl (by kernel_rfl) (by kernel_rfl) (by kernel_rfl) (by kernel_rfl) (by kernel_rfl) (fun _ _ _ h => h) hS0 (.inl ⟨by rfl, fun W' hS' => ?_⟩) ?_
        · go_simp
        refine wpAnyHI_take (i := 5) (v := plv p) rfl (by kernel_rfl) (by kernel_rfl) (by kernel_rfl) (by kernel_rfl) (by kernel_rfl) (fun _ _ _ h => h) hS0 (.inl ⟨by rfl, fun W' hS' => ?_⟩) ?_
        · obtain ⟨s5, ⟨s0, s1, s2⟩, e0, e1, e2, e3, e4, e5⟩ := hS'
          go_simp
        refine wpAnyHI_one (i := 6) rfl (by kernel_rfl) ?_
        intro K1 hK1
        go_simp
        have hBd : Below w.heap.size w wr.drew := hBW.trans ⟨rfl, rfl, rfl, Nat.le_refl _, fun _ _ => rfl⟩
        have hpg := Hok.out.1.good p (List.mem_of_getElem? Hp.out)
        refine ⟨trivial, (callsIn_wide.2 (condemn_any wr.drew B A n c (w.heap.size + 2) (w.heap.size + 3) ts (hx.below hBd hB) h5 h12 ((tabN ts k).1, (tabN ts k).2.1, []) (mapDrew zs) (mapDrew zl) (by omega) (by omega) (by omega) rfl
          (5 + 60 * k) (by omega) (by omega) Hok.out.1.safe Hok.out.1.lasts p hpg.1 (by rw [hpg.2, hx.len]))).mono ?_⟩
        rintro e w4 ⟨v2, rfl, hown2, zs4, zl4, hbut⟩
        have hwd : wr.drew.heap.size = wr.heap.size := rfl
        have hbz := hbut.base.size
        rw [hwd] at hbut hbz hown2
        have z04 : TbNil w4 (w.heap.size + 1) := (hbut.same _ (by omega) (by omega)).trans z0
        have z14 : TbAt w4 (w.heap.size + 4) A n c (w.heap.size + 2) (w.heap.size + 3) := (hbut.same _ (by omega) (by omega)).trans z1
        have z24 : Boxed w4 (w.heap.size + 5) 108 (.slice (some ⟨g, 0, none⟩) L cap) := (hbut.same _ (by omega) (by omega)).trans z2
        have hgD := row_cells hrow hK g rfl
        have hgv := Hok.out.2.2 g rfl
        have hne : ∀ g', (Value.slice (some ⟨g, 0, none⟩) L cap).ownBlock = some g' → ¬ (g' = w.heap.size + 2 ∨ g' = w.heap.size + 3) := by
          intro g' hg'
          have e : g = g' := by simpa [Value.ownBlock] using hg'
          omega
        have hrow4 := but_row hbut hrow (Nat.le_refl _) hne
        have hDl : D < wr.heap.size := (Array.getElem?_eq_some_iff.1 hK).1
        have hK4 : w4.heap[D]? = some (.deferred (some [])) := (hbut.same _ hDl (by omega)).trans hK
        have hB4 : Below w.heap.size w w4 := hBd.trans (hbut.below (by omega) (by rintro k (rfl | rfl) <;> omega))
        obtain ⟨t0, t1, t2⟩ := z14.cells
        have c54 := z24.cell
        obtain ⟨ds, hds⟩ : ∃ ds, ds = (condL p ((tabN ts k).1, (tabN ts k).2.1, []) (beforeF ts p)).2.2 := ⟨_, rfl⟩
        have hdl := condL_len' p (beforeF ts p) ((tabN ts k).1, (tabN ts k).2.1, [])
        have hbl := beforeF_len (p := p) (by rw [hx.len]; exact h5) (fun i hi => (h12 i (by rw [← hx.len]; exact hi)).2)
        rw [← hds] at hown2 hdl
        have hdl : ds.length ≤ 60 := by simp at hdl; omega
        have hnext : tabN ts (k + 1) = ((condL p ((tabN ts k).1, (tabN ts k).2.1, []) (beforeF ts p)).1, (condL p ((tabN ts k).1, (tabN ts k).2.1, []) (beforeF ts p)).2.1, (tabN ts k).2.2 ++ ds) := by rw [tabN_some Hp.out, hds]; rfl
        have Hn := Lib.hid (And.intro hnext hds)
        have Hx := Lib.hid (And.intro hB4 (And.intro hown2 hrow4))
        clear hnext hds hbl hpg hBd
        have hwz4 : w.heap.size + 5 < w4.heap.size := by omega
        refine hK1 _ _ ⟨fun _ => ?_, ?_⟩
        · obtain ⟨d0, d1, d2, d3, d4, d5⟩ := row_place hrow4 Hp.out
          exact And.intro c54 (And.intro (And.intro t0 (And.intro t1 t2)) (And.intro d0 (And.intro d1 (And.intro d2 (And.intro d3 (And.intro d4 d5))))))
        · refine wpAnyHI_tail (k := 7) rfl rfl (by kernel_rfl) (by kernel_rfl) ?_
          simp only [List.drop_succ_cons, List.drop_zero]
          refine wpListIn_append_two (F := Fence.wide) (nF := 3) rfl _ _ 108 rfl w.heap.size 64 i0 (plv ⟨0, 0, 0, 0, 0, 0⟩) 6 48 Tryz.underlying108 hi hz0 hz1 hz2 rfl (by decide) _ _ _ rfl Hx.out.2.2 wr.heap.size v2 _ _ rfl Hx.out.2.1 (flat_one ds) (by simp only [maxLen]; omega) (by omega) (by omega) ?_
          intro v' w1 hown' hgrow hat
          obtain ⟨A2, c2, rfl, hle2⟩ := ownsRow_slice hown'
          obtain ⟨hv1, hv2, hr2⟩ := bxGrown z24 (by decide) Hx.out.2.2 hown' hgrow
          have hc1 := hv1.cell
          have hf1 := hv1.frozen
          gi_wp2_with (fail)
          have hkN2 : k < N := by
            rcases Nat.lt_or_ge k N with h | h
            · exact h
            · have h2 := tabN_end Hend.out.2.1 k h
              have h3 := Hok.out.2.1
              have h4 := Hend.out.2.1
              rw [h2] at h3
              omega
          have hkeep : Keep w.heap.size (fun j => j = D ∨ (w.heap.size < j ∧ j < w.heap.size + 5)) noBlock w4 (w1.setCell ⟨w.heap.size + 5, 0, none⟩ (.slice A2 (L + ds.length) c2)) :=
            (Keep.grown hgrow (by omega) (fun r e => ⟨(Hx.out.2.2.lt r e).1, fun h => h.elim, by have := row_cells Hx.out.2.2 hK4 r e; have := Hok.out.2.2 r e; omega⟩)).trans (Keep.setCell (by omega) (fun h => h.elim) (by omega) _ _)
          gi_roundg (N - (k + 1))
          case measure => omega
          case rel =>
            refine ⟨k + 1, _, hkN2, rfl, by simp, ⟨hkeep.same _ _ z04 (.inr (.inr (by omega))), hkeep.same _ _ z14 (.inr (.inr (by omega)))⟩, ⟨?_, ?_⟩, hv2, ?_, Hx.out.1.trans hkeep.below, hkeep.same _ _ hK4 (.inr (.inl rfl)), ?_⟩
            · rw [Hn.out.1]; exact hkeep.mp zs4 (.inr (.inr (by omega)))
            · rw [Hn.out.1]; exact hkeep.mp zl4 (.inr (.inr (by omega)))
            · rw [Hn.out.1]
              simp only [flat_append, List.length_append]
              rw [← Hok.out.2.1]
              exact hr2
            · intro g' hg'
              rcases hat with h | h
              · exact Hok.out.2.2 g' (h ▸ hg')
              · rw [h] at hg'
                simp at hg'
                omega
      · have hfz := z0.frozens
        obtain ⟨n0, n1, n2⟩ := z0.cells
        obtain ⟨t0, t1, t2⟩ := z1.cells
        gi_wp2_with (fail)
        have hkN3 : tabN ts k = tabN ts N := by
          have h3 := Hok.out.2.1
          have h4 := tabN_end (ts := ts) (N := k) (by omega)
          exact (h4 N hkN).symm
        have hst := z0.store A n c (w.heap.size + 2) (w.heap.size + 3)
        have hD1 : D ≠ w.heap.size + 1 := by omega
        have hK' := (st3_heap wr (w.heap.size + 1) (.slice A n c) (.map (some (w.heap.size + 2))) (.map (some (w.heap.size + 3))) D hD1).trans hK
        refine ⟨by simp, .inl ⟨_, _, rfl, run_takeDeferred hK', ?_⟩⟩
        refine ⟨_, tableOf_results _ _ (w.heap.size + 1) A n c (w.heap.size + 2) (w.heap.size + 3) ((World.putObj_heap_other (Ne.symm hD1)).trans hst) (by simp), w.heap.size + 2, w.heap.size + 3, rfl, by omega, by omega, by omega, ?_, ?_, below_put (((hBW.setCell (by simp) _).setCell (by simp) _).setCell (by simp) _) hK' (by omega)⟩
        · rw [← hkN3]; exact (zs.same (st3_heap wr _ _ _ _ _ (by omega))).putOther (by omega) _
        · rw [← hkN3]; exact (zl.same (st3_heap wr _ _ _ _ _ (by omega))).putOther (by omega) _
  case stop => exact fun _ _ _ _ _ _ _ h => h.elim
end Go.Proofs.YthjgecblkagelaaGreat

/- tableAt, Count, Next. -/
namespace Go.Proofs.YthjgecblkagelaaGreat
open Go.RowKit Go.Shelf

attribute [local go_sem] Oper.semAt_some

theorem tab_exists (ts : List Int) : ∃ s, s = tabN ts 1000 := ⟨_, rfl⟩
/-- Behind a choice, so that nothing unfolds it. -/
noncomputable def tabE (ts : List Int) : CSt := Classical.choose (tab_exists ts)
theorem tabE_eq (ts : List Int) : tabE ts = tabN ts 1000 := Classical.choose_spec (tab_exists ts)
def Ends (ts : List Int) : Prop := (tabE ts).2.2.length ≤ 1000
theorem Ends.of {ts : List Int} {N : Nat} (h : (tabN ts N).2.2.length ≤ N) (hN : N ≤ 1000) : Ends ts ∧ tabE ts = tabN ts N := by
  have e := tabN_end h 1000 hN
  rw [← tabE_eq] at e
  exact ⟨by unfold Ends; rw [e]; omega, e⟩

structure Valid (ts : List Int) : Prop where
  h1 : 1 ≤ ts.length
  h5 : ts.length ≤ 5
  h12 : ∀ i, i < ts.length → 1 ≤ ts[i]?.getD 0 ∧ ts[i]?.getD 0 ≤ 12
  prod : prodF ts ≤ 1000
theorem states_count : ∀ (ts : List Int) (_ : ∀ t ∈ ts, 0 ≤ t) (a : Int), ts.foldl (fun a t => a * (t + 1)) a = a * ((statesL ts).length : Int)
  | [], _, a => by simp [statesL]
  | t :: ts, h, a => by
    have h0 := h t (by simp)
    have ih := states_count ts (fun t ht => h t (by simp [ht])) (a * (t + 1))
    have hl : (statesL (t :: ts)).length = (t.toNat + 1) * (statesL ts).length := by
      rw [statesL, List.length_flatMap]
      have : ∀ k : Nat, ((List.range k).map fun d : Nat => ((statesL ts).map ((d : Int) :: ·)).length).sum = k * (statesL ts).length := by
        intro k
        induction k with
        | zero => simp
        | succ k ih => rw [List.range_succ, List.map_append, List.sum_append, ih]; simp [Nat.add_mul]
      exact this _
    simp only [List.foldl_cons]
    rw [ih, hl]
    push_cast
    rw [Int.toNat_of_nonneg h0, Int.mul_assoc]
theorem Valid.nonneg {ts : List Int} (h : Valid ts) : ∀ t ∈ ts, 0 ≤ t := by
  intro t ht
  obtain ⟨i, hi, rfl⟩ := List.getElem_of_mem ht
  have := h.h12 i hi
  rw [List.getElem?_eq_getElem hi] at this
  simp at this
  omega
theorem Valid.states {ts : List Int} (h : Valid ts) : (statesL ts).length ≤ 1000 := by
  have := states_count ts h.nonneg 1
  have := h.prod
  unfold prodF at this
  omega
theorem valid_of {ts : List Int} (h : checkHallF ts = 0) : Valid ts := by
  unfold checkHallF at h
  split at h
  · cases h
  · split at h
    · cases h
    · split at h
      · cases h
      · rename_i h1 h2 h3
        refine ⟨by omega, by omega, fun i hi => ?_, by omega⟩
        have h2 : withinF 1 12 ts = true := by simpa using h2
        unfold withinF at h2
        have := List.all_eq_true.1 h2 ts[i] (List.getElem_mem hi)
        rw [List.getElem?_eq_getElem hi]
        simpa using this
theorem stated_valid {ts ss : List Int} (h : statedF ts ss = 0) : Valid ts ∧ ss.length = ts.length ∧ PlGood ts (plOf ss) := by
  unfold statedF at h
  split at h
  · rename_i h1
    exact absurd h h1
  · rename_i h1
    have hv := valid_of (ts := ts) (by simpa using h1)
    split at h
    · cases h
    · rename_i h2
      split at h
      · rename_i h3
        have hl : ss.length = ts.length := by simpa using h2
        refine ⟨hv, hl, fun i hi => ?_, by simp [plOf, hl]⟩
        rw [plOf_get ss (by have := hv.h5; omega)]
        unfold stateOk at h3
        have := (List.all_eq_true.1 h3) i (List.mem_range.2 hi)
        simpa using this
      · cases h

/-- The memory holds a table. -/
structure Tab (w w' : World) (ts : List Int) (ms ml : Nat) : Prop where
  hs : w.heap.size ≤ ms
  hl : w.heap.size ≤ ml
  hne : ms ≠ ml
  safe : MapAt Int encI w' ms (tabE ts).1
  lasts : MapAt Int encI w' ml (tabE ts).2.1
theorem Tab.later {w w' w'' : World} {ts : List Int} {ms ml : Nat} (h : Tab w w' ts ms ml) (hb : Below w'.heap.size w' w'') : Tab w w'' ts ms ml := ⟨h.hs, h.hl, h.hne, h.safe.below hb h.safe.lt, h.lasts.below hb h.lasts.lt⟩
theorem Tab.mono {w0 w w' : World} {ts : List Int} {ms ml : Nat} (h : Tab w w' ts ms ml) (hb : w0.heap.size ≤ w.heap.size) : Tab w0 w' ts ms ml := ⟨by have := h.hs; omega, by have := h.hl; omega, h.hne, h.safe, h.lasts⟩

theorem tab_any (w : World) (B : Nat) (A : Option Addr) (n c : Nat) (ts : List Int) (hx : IntsAt w B A n ts) (hB : B ≤ w.heap.size) (hv : Valid ts) (he : Ends ts) :
    Calls Tryz.prog 47 #[.agg #[.slice A n c]] w fun e w' => ∃ ms ml, e = .returned (.agg (tbc A n c ms ml)) ∧ Tab w w' ts ms ml ∧ Below w.heap.size w w' := by
  refine (tableOf_any w B A n c ts hx hB (by have := hv.h1; have := hx.len; omega) (by have := hv.h5; have := hx.len; omega) (fun i hi => hv.h12 i (by have := hx.len; omega)) hv.states 1000 (by omega) (by rw [← tabE_eq]; exact he)).mono ?_
  rintro e w' ⟨ms, ml, rfl, h1, h2, h3, h4, h5, h6⟩
  rw [← tabE_eq] at h4 h5
  exact ⟨ms, ml, rfl, ⟨h1, h2, h3, h4, h5⟩, h6⟩

@[reducible] def st3 (W : World) (b : Nat) (x0 x1 x2 : Value) : World := ((W.setCell ⟨b, 0, none⟩ x0).setCell ⟨b, 1, none⟩ x1).setCell ⟨b, 2, none⟩ x2
theorem st6_heap (W : World) (b : Nat) (x0 x1 x2 x3 x4 x5 : Value) (k : Nat) (hk : k ≠ b) : (st6 W b x0 x1 x2 x3 x4 x5).heap[k]? = W.heap[k]? :=
  ((((((Below.heap_setCell _ ⟨b, 5, none⟩ x5 k hk).trans (Below.heap_setCell _ ⟨b, 4, none⟩ x4 k hk)).trans (Below.heap_setCell _ ⟨b, 3, none⟩ x3 k hk)).trans (Below.heap_setCell _ ⟨b, 2, none⟩ x2 k hk)).trans (Below.heap_setCell _ ⟨b, 1, none⟩ x1 k hk)).trans (Below.heap_setCell W ⟨b, 0, none⟩ x0 k hk))
theorem st3_at {W : World} {b : Nat} {t : TypeId} {y0 y1 y2 : Value} (h : W.heap[b]? = some (.cells #[y0, y1, y2] t (0, 0))) (x0 x1 x2 : Value) : (((W.setCell ⟨b, 0, none⟩ x0).setCell ⟨b, 1, none⟩ x1).setCell ⟨b, 2, none⟩ x2).heap[b]? = some (.cells #[x0, x1, x2] t (0, 0)) := by
  have h0 := setCell_heap W b 0 x0 _ _ h
  have h1 := setCell_heap _ b 1 x1 _ _ h0
  exact setCell_heap _ b 2 x2 _ _ h1
theorem st3_below {D b : Nat} {w0 W : World} {x0 x1 x2 : Value} (hb : Below D w0 W) (hD : D ≤ b) : Below D w0 (((W.setCell ⟨b, 0, none⟩ x0).setCell ⟨b, 1, none⟩ x1).setCell ⟨b, 2, none⟩ x2) := ((hb.setCell hD _).setCell hD _).setCell hD _
/-- A table and a place stored. -/
theorem st9 {W : World} {b1 b2 : Nat} (hb : b1 ≠ b2) {y0 y1 y2 : Value} {t : TypeId} {p : Pl} (h1 : W.heap[b1]? = some (.cells #[y0, y1, y2] t (0, 0))) (h2 : PlAt W b2 p) (x0 x1 x2 : Value) (q : Pl) :
    (st6 (st3 W b1 x0 x1 x2) b2 (.int .i64 q.n) (.int .i64 q.a) (.int .i64 q.b) (.int .i64 q.c) (.int .i64 q.d) (.int .i64 q.e)).heap[b1]? = some (.cells #[x0, x1, x2] t (0, 0)) ∧
      PlAt (st6 (st3 W b1 x0 x1 x2) b2 (.int .i64 q.n) (.int .i64 q.a) (.int .i64 q.b) (.int .i64 q.c) (.int .i64 q.d) (.int .i64 q.e)) b2 q ∧
      (∀ {α : Type} {enc : α → Value} {b : Nat} {m : List (Pl × α)}, MapAt α enc W b m → MapAt α enc (st6 (st3 W b1 x0 x1 x2) b2 (.int .i64 q.n) (.int .i64 q.a) (.int .i64 q.b) (.int .i64 q.c) (.int .i64 q.d) (.int .i64 q.e)) b m) ∧
      ∀ {D : Nat} {w0 : World}, Below D w0 W → D ≤ b1 → D ≤ b2 → Below D w0 (st6 (st3 W b1 x0 x1 x2) b2 (.int .i64 q.n) (.int .i64 q.a) (.int .i64 q.b) (.int .i64 q.c) (.int .i64 q.d) (.int .i64 q.e)) :=
  ⟨(st6_heap _ b2 _ _ _ _ _ _ _ hb).trans (st3_at h1 _ _ _), PlAt.store ((st3_heap _ b1 _ _ _ _ (Ne.symm hb)).trans h2) _, fun h => ((((((((h.setCell _ _ _).setCell _ _ _).setCell _ _ _).setCell _ _ _).setCell _ _ _).setCell _ _ _).setCell _ _ _).setCell _ _ _).setCell _ _ _, fun hB h1 h2 => st6_below (st3_below hB h1) h2⟩
theorem tableAt_results (W : World) (tmps : Array Value) (b1 b2 : Nat) (x0 x1 x2 : Value) (q : Pl) (e : Int) (h1 : W.heap[b1]? = some (.cells #[x0, x1, x2] 60 (0, 0))) (h2 : PlAt W b2 q) (t1 : tmps.getD 4 undef = .pointer (some ⟨b1, 0, none⟩)) (t2 : tmps.getD 5 undef = .pointer (some ⟨b2, 0, none⟩)) (t3 : tmps.getD 6 undef = .int .i64 e) :
    (results Tryz.f34 tmps).run Tryz.prog W = .ok (.tuple #[.agg #[x0, x1, x2], plv q, .int .i64 e]) W := by
  obtain ⟨c0, c1, c2, c3, c4, c5⟩ := h2.cells
  have d0 : W.cell? ⟨b1, 0, none⟩ = some x0 := by simp [World.cell?, h1]
  have d1 : W.cell? ⟨b1, 1, none⟩ = some x1 := by simp [World.cell?, h1]
  have d2 : W.cell? ⟨b1, 2, none⟩ = some x2 := by simp [World.cell?, h1]
  simp only [Array.getD_eq_getD_getElem?] at t1 t2 t3
  simp [results, Tryz.results34, go_sem, t1, t2, t3, c0, c1, c2, c3, c4, c5, d0, d1, d2]

set_option maxHeartbeats 2000000 in
theorem tableAt_any (w : World) (B1 B2 : Nat) (A1 A2 : Option Addr) (n c m d : Nat) (ts ss : List Int) (h1 : IntsAt w B1 A1 n ts) (hB1 : B1 ≤ w.heap.size) (h2 : IntsAt w B2 A2 m ss) (hB2 : B2 ≤ w.heap.size) (he : statedF ts ss = 0 → Ends ts) :
    Calls Tryz.prog 34 #[.agg #[.slice A1 n c], .slice A2 m d] w fun e w' => Below w.heap.size w w' ∧
      ((statedF ts ss = 0 ∧ ∃ ms ml, e = .returned (.tuple #[.agg (tbc A1 n c ms ml), plv (plOf ss), .int .i64 0]) ∧ Tab w w' ts ms ml) ∨
       (statedF ts ss ≠ 0 ∧ e = .returned (.tuple #[.agg #[.slice none 0 0, .map none, .map none], plv ⟨0, 0, 0, 0, 0, 0⟩, .int .i64 (statedF ts ss)]))) := by
  have hb0 : Below w.heap.size w (((w.alloc (.cells #[.slice A1 n c] 24)).alloc (.cells #[.slice none 0 0, .map none, .map none] 60)).alloc (.cells (plc ⟨0, 0, 0, 0, 0, 0⟩) 64)) :=
    (((Below.refl _ w).alloc (Nat.le_refl _) _).alloc (by simp) _).alloc (by simp; omega) _
  have x0 := ((Boxed.new w 24 (.slice A1 n c)).alloc (.cells #[.slice none 0 0, .map none, .map none] 60)).alloc (.cells (plc ⟨0, 0, 0, 0, 0, 0⟩) 64)
  have x1 := (TbNil.new (w.alloc (.cells #[.slice A1 n c] 24))).alloc (.cells (plc ⟨0, 0, 0, 0, 0, 0⟩) 64)
  have x2 := PlAt.new ((w.alloc (.cells #[.slice A1 n c] 24)).alloc (.cells #[.slice none 0 0, .map none, .map none] 60)) ⟨0, 0, 0, 0, 0, 0⟩
  simp only [World.size_alloc, Nat.add_assoc, Nat.reduceAdd] at x1 x2
  have He := Lib.hid he
  clear he
  go_enter Tryz.func34, Tryz.ntmps34
  go_wp2_with (fail)
  refine (checkState_any _ B1 B2 A1 A2 n c m d ts ss (h1.below hb0 hB1) (by have := hb0.size; omega) (h2.below hb0 hB2) (by have := hb0.size; omega)).mono ?_
  rintro e w2 ⟨rfl, hb⟩
  have hB := hb0.trans (hb.mono hb0.size)
  have y0 := bxBelow x0 hb x0.lt
  have y1 := x1.below hb x1.lt
  have y2 := x2.below hb x2.lt
  obtain ⟨r, hr⟩ : ∃ r, r = statedF ts ss := ⟨_, rfl⟩
  rw [← hr]
  have Hr := Lib.hid hr
  clear hr hb hb0 x0 x1 x2
  have c0 := y0.cell
  obtain ⟨n0, n1, n2⟩ := y1.cells
  have hfz := y1.frozens
  obtain ⟨d0, d1, d2, d3, d4, d5⟩ := y2.cells
  have hfp := y2.frozens
  by_cases h0 : r = 0
  · have Hr0 := Lib.hid (Hr.out.symm.trans h0)
    subst h0
    go_wp2_with (fail)
    obtain ⟨hv, hl, hg⟩ := stated_valid Hr0.out
    refine (tab_any w2 B1 A1 n c ts (h1.below hB hB1) (by have := hB.size; omega) hv (He.out Hr0.out)).mono ?_
    rintro e w3 ⟨ms, ml, rfl, hT, hb3⟩
    have hB3 := hB.trans (hb3.mono hB.size)
    have z1 := y1.below hb3 y1.lt
    have z2 := y2.below hb3 y2.lt
    have hT := hT.mono hB.size
    clear c0 n0 n1 n2 hfz d0 d1 d2 d3 d4 d5 hfp hb3
    obtain ⟨n0, n1, n2⟩ := z1.cells
    have hfz := z1.frozens
    obtain ⟨d0, d1, d2, d3, d4, d5⟩ := z2.cells
    have hfp := z2.frozens
    go_wp2_with (fail)
    refine (placeOf_any w3 B2 A2 m d ss (h2.below hB3 hB2) (by have := hB3.size; omega) (by have := hv.h5; have := h2.len; omega)).mono ?_
    rintro e w4 ⟨rfl, hb4⟩
    have hB4 := hB3.trans (hb4.mono hB3.size)
    have v1 := z1.below hb4 z1.lt
    have v2 := z2.below hb4 z2.lt
    have hT4 := hT.later hb4
    clear n0 n1 n2 hfz d0 d1 d2 d3 d4 d5 hfp hb4
    obtain ⟨n0, n1, n2⟩ := v1.cells
    have hfz := v1.frozens
    obtain ⟨d0, d1, d2, d3, d4, d5⟩ := v2.cells
    have hfp := v2.frozens
    obtain ⟨F1, F2, F4, F3⟩ := st9 (b2 := w.heap.size + 1 + 1) (by omega) v1 v2 (.slice A1 n c) (.map (some ms)) (.map (some ml)) (plOf ss)
    have HF := Lib.hid (And.intro F1 (And.intro F2 (And.intro (F3 hB4 (by omega) (by omega)) (And.intro (F4 hT4.safe) (F4 hT4.lasts)))))
    clear F1 F2 F3 F4
    go_wp2_with (fail)
    refine bodyPost_ret (tableAt_results _ _ (w.heap.size + 1) (w.heap.size + 1 + 1) _ _ _ _ 0 HF.out.1 HF.out.2.1 (by simp) (by simp) (by simp)) rfl ?_
    exact ⟨HF.out.2.2.1, .inl ⟨Hr0.out, ms, ml, rfl, ⟨hT4.hs, hT4.hl, hT4.hne, HF.out.2.2.2.1, HF.out.2.2.2.2⟩⟩⟩
  · have Hr0 := Lib.hid h0
    obtain ⟨F1, F2, F4, F3⟩ := st9 (b2 := w.heap.size + 1 + 1) (by omega) y1 y2 (.slice none 0 0) (.map none) (.map none) ⟨0, 0, 0, 0, 0, 0⟩
    have HF := Lib.hid (And.intro F1 (And.intro F2 (F3 hB (by omega) (by omega))))
    clear F1 F2 F3 F4
    go_wp2_with (fail)
    refine bodyPost_ret (tableAt_results _ _ (w.heap.size + 1) (w.heap.size + 1 + 1) _ _ _ _ r HF.out.1 HF.out.2.1 (by simp) (by simp) (by simp)) rfl ?_
    exact ⟨HF.out.2.2, .inr ⟨by rw [← Hr.out]; exact Hr0.out, by rw [← Hr.out]⟩⟩

noncomputable def countR (ts : List Int) : Int × Int := if checkHallF ts ≠ 0 then (0, checkHallF ts) else ((((tabE ts).1.length : Nat) : Int), 0)
theorem countR_bad {ts : List Int} {r : Int} (h : checkHallF ts = r) (h0 : r ≠ 0) : countR ts = (0, r) := by unfold countR; rw [h, if_pos h0]
theorem countR_ok {ts : List Int} (h : checkHallF ts = 0) : countR ts = ((((tabE ts).1.length : Nat) : Int), 0) := by unfold countR; rw [if_neg (by simp [h])]
theorem field_safe (A : Option Addr) (n c ms ml : Nat) (w : World) : (Instr.field 60 (.agg (tbc A n c ms ml)) 1).run Tryz.prog w = .ok (.map (some ms)) w := by kernel_rfl
theorem count_results (W : World) (tmps : Array Value) (x y : Value) (t2 : tmps.getD 2 undef = x) (t3 : tmps.getD 3 undef = y) : (results Tryz.f18 tmps).run Tryz.prog W = .ok (.tuple #[x, y]) W := by
  simp only [Array.getD_eq_getD_getElem?] at t2 t3
  simp [results, Tryz.results18, go_sem, t2, t3]
set_option maxRecDepth 100000 in
set_option maxHeartbeats 2000000 in
theorem count_any (w : World) (B : Nat) (A : Option Addr) (n c : Nat) (ts : List Int) (hx : IntsAt w B A n ts) (hB : B ≤ w.heap.size) (he : checkHallF ts = 0 → Ends ts) :
    Calls Tryz.prog 18 #[.agg #[.slice A n c]] w fun e w' => e = .returned (.tuple #[.int .i64 (countR ts).1, .int .i64 (countR ts).2]) ∧ Below w.heap.size w w' := by
  have hb0 : Below w.heap.size w (w.alloc (.cells #[.slice A n c] 24)) := (Below.refl _ w).alloc (Nat.le_refl _) _
  have x0 := Boxed.new w 24 (.slice A n c)
  have He := Lib.hid he
  clear he
  go_enter Tryz.func18, Tryz.ntmps18
  go_wp2_with (fail)
  refine (checkHall_any _ B A n c ts (hx.below hb0 hB) (by have := hb0.size; omega)).mono ?_
  rintro e w2 ⟨rfl, hb⟩
  have hB2 := hb0.trans (hb.mono hb0.size)
  have y0 := bxBelow x0 hb x0.lt
  obtain ⟨r, hr⟩ : ∃ r, r = checkHallF ts := ⟨_, rfl⟩
  rw [← hr]
  have Hr := Lib.hid hr
  clear hr hb hb0 x0
  have c0 := y0.cell
  by_cases h0 : r = 0
  · have Hr0 := Lib.hid (Hr.out.symm.trans h0)
    subst h0
    go_wp2_with (fail)
    refine (tab_any w2 B A n c ts (hx.below hB2 hB) (by have := hB2.size; omega) (valid_of Hr0.out) (He.out Hr0.out)).mono ?_
    rintro e w3 ⟨ms, ml, rfl, hT, hb3⟩
    have hB3 := hB2.trans (hb3.mono hB2.size)
    have hfs := field_safe A n c ms ml
    have hln := len_pl hT.safe 58 3 3 Tryz.underlying58
    go_wp2_with (fail)
    refine bodyPost_ret (v := .tuple #[.int .i64 (((tabE ts).1.length : Nat) : Int), .int .i64 0]) (count_results _ _ _ _ (by simp) (by simp)) rfl ?_
    exact ⟨by rw [countR_ok Hr0.out], hB3⟩
  · have Hr0 := Lib.hid h0
    go_wp2_with (fail)
    refine bodyPost_ret (v := .tuple #[.int .i64 0, .int .i64 r]) (count_results _ _ _ _ (by simp) (by simp)) rfl ?_
    exact ⟨by rw [countR_bad Hr.out.symm Hr0.out], hB2⟩

theorem row_mono {w : World} {base base' : Nat} {e : TypeId} {size : Nat} {v : Value} {n : Nat} {xs : List Value} (h : w.ownsRow base e size v n xs) (hb : base' ≤ base) : w.ownsRow base' e size v n xs :=
  ⟨h.1, h.2.imp id fun ⟨g, cap, cur, h1, h2, h3⟩ => ⟨g, cap, cur, h1, by omega, h3⟩⟩
/-- A list and an error are returned. -/
def ListRes (w : World) (r : List Int × Int) (e : Ending) (w' : World) : Prop := ∃ v, e = .returned (.tuple #[v, .int .i64 r.2]) ∧ w'.ownsRow w.heap.size 3 1 v r.1.length (r.1.map (.int .i64)) ∧ Below w.heap.size w w'
theorem ListRes.none {w w' : World} {r : List Int × Int} {x : Int} (h : r = ([], x)) (hb : Below w.heap.size w w') : ListRes w r (.returned (.tuple #[.slice none 0 0, .int .i64 x])) w' := by
  subst h
  exact ⟨_, rfl, World.ownsRow_nil _ _ _ _, hb⟩
noncomputable def nextR (ts ss : List Int) : List Int × Int := if statedF ts ss ≠ 0 then ([], statedF ts ss) else if 0 < mget 0 (tabE ts).1 (plOf ss) then (nextF (tabE ts).1 (visitsF ts (plOf ss)), 0) else ([], 17)
theorem next_results (W : World) (tmps : Array Value) (x y : Value) (t2 : tmps.getD 4 undef = x) (t3 : tmps.getD 5 undef = y) : (results Tryz.f9 tmps).run Tryz.prog W = .ok (.tuple #[x, y]) W := by
  simp only [Array.getD_eq_getD_getElem?] at t2 t3
  simp [results, Tryz.results9, go_sem, t2, t3]
set_option maxRecDepth 100000 in
set_option maxHeartbeats 2000000 in
theorem Next_any (w : World) (B1 B2 : Nat) (A1 A2 : Option Addr) (n c m d : Nat) (ts ss : List Int) (h1 : IntsAt w B1 A1 n ts) (hB1 : B1 ≤ w.heap.size) (h2 : IntsAt w B2 A2 m ss) (hB2 : B2 ≤ w.heap.size) (he : statedF ts ss = 0 → Ends ts) :
    Calls Tryz.prog 9 #[.agg #[.slice A1 n c], .slice A2 m d] w (ListRes w (nextR ts ss)) := by
  have hb0 : Below w.heap.size w (w.alloc (.cells #[.slice A1 n c] 24)) := (Below.refl _ w).alloc (Nat.le_refl _) _
  go_enter Tryz.func9, Tryz.ntmps9
  go_wp2_with (fail)
  refine (tableAt_any _ B1 B2 A1 A2 n c m d ts ss (h1.below hb0 hB1) (by have := hb0.size; omega) (h2.below hb0 hB2) (by have := hb0.size; omega) he).mono ?_
  rintro e w2 ⟨hb, ⟨hr, ms, ml, rfl, hT⟩ | ⟨hr, rfl⟩⟩
  · have hB := hb0.trans (hb.mono hb0.size)
    obtain ⟨hv, hl, hg⟩ := stated_valid hr
    obtain ⟨p, hp⟩ : ∃ p, p = plOf ss := ⟨_, rfl⟩
    rw [← hp] at hg ⊢
    have hr1 : nextR ts ss = if 0 < mget 0 (tabE ts).1 p then (nextF (tabE ts).1 (visitsF ts p), 0) else ([], 17) := by unfold nextR; rw [if_neg (by simp [hr]), hp]
    have Hr := Lib.hid hr1
    clear hr hr1 hp hb hb0
    have x0 := (TbAt.new w2 A1 n c ms ml).alloc (.cells (plc p) 64)
    have x1 := PlAt.new (w2.alloc (.cells (tbc A1 n c ms ml) 60)) p
    simp only [World.size_alloc] at x1
    have hb0 : Below w2.heap.size w2 ((w2.alloc (.cells (tbc A1 n c ms ml) 60)).alloc (.cells (plc p) 64)) := ((Below.refl _ w2).alloc (Nat.le_refl _) _).alloc (by simp) _
    obtain ⟨t0, t1, t2⟩ := x0.cells
    obtain ⟨c0, c1, c2, c3, c4, c5⟩ := x1.cells
    have hT1 := hT.later hb0
    go_wp2_with (fail)
    refine (isSafe_any _ A1 n c ms ml (tabE ts).1 hT1.safe p).mono ?_
    rintro e w3 ⟨rfl, hb3⟩
    have hB3 : Below w.heap.size w w3 := hB.trans ((hb0.trans (hb3.mono hb0.size)).mono hB.size)
    have hT3 := hT1.later hb3
    have y0 := x0.below hb3 x0.lt
    have y1 := x1.below hb3 x1.lt
    clear t0 t1 t2 c0 c1 c2 c3 c4 c5 hb0
    obtain ⟨t0, t1, t2⟩ := y0.cells
    obtain ⟨c0, c1, c2, c3, c4, c5⟩ := y1.cells
    by_cases h0 : 0 < mget 0 (tabE ts).1 p
    · have hd : decide (0 < mget 0 (tabE ts).1 p) = true := by simp [h0]
      have hr2 := Hr.out
      rw [if_pos h0] at hr2
      have Hr2 := Lib.hid hr2
      rw [hd]
      clear h0 hd hr2
      go_wp2_with (fail)
      have hn5 := hv.h5
      have hnl := h1.len
      refine (next_any w3 B1 A1 n c ms ml ts (h1.below hB3 hB1) (by have := hB3.size; omega) (by omega) (fun i hi => hv.h12 i (by omega)) (tabE ts).1 hT3.safe p hg.1).mono ?_
      rintro e w4 ⟨v, rfl, hrow, hb4⟩
      have hB4 := hB3.trans (hb4.mono hB3.size)
      go_wp2_with (fail)
      refine bodyPost_ret (v := .tuple #[v, .int .i64 0]) (next_results _ _ _ _ (by simp) (by simp)) rfl ?_
      unfold ListRes
      rw [Hr2.out]
      exact ⟨v, rfl, row_mono hrow hB3.size, hB4⟩
    · have hd : decide (0 < mget 0 (tabE ts).1 p) = false := by simp [h0]
      have hr2 := Hr.out
      rw [if_neg h0] at hr2
      have Hr2 := Lib.hid hr2
      rw [hd]
      clear h0 hd hr2
      go_wp2_with (fail)
      refine bodyPost_ret (v := .tuple #[.slice none 0 0, .int .i64 17]) (next_results _ _ _ _ (by simp) (by simp)) rfl ?_
      exact ListRes.none Hr2.out hB3
  · have hB := hb0.trans (hb.mono hb0.size)
    have hr1 : nextR ts ss = ([], statedF ts ss) := by unfold nextR; rw [if_pos hr]
    obtain ⟨r, hrr⟩ : ∃ r, r = statedF ts ss := ⟨_, rfl⟩
    rw [← hrr] at hr hr1 ⊢
    have Hr := Lib.hid (And.intro hrr hr1)
    clear hrr hr1
    have hr' : (r != 0) = true := by simp [hr]
    go_wp2_with (fail)
    refine bodyPost_ret (v := .tuple #[.slice none 0 0, .int .i64 r]) (next_results _ _ _ _ (by simp) (by simp)) rfl ?_
    exact ListRes.none Hr.out.2 ((hB.alloc hB.size _).alloc (by have := hB.size; simp; omega) _)
end Go.Proofs.YthjgecblkagelaaGreat
