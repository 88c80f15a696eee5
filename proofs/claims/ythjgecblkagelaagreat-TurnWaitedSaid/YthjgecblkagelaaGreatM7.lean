/- Parts of a proof: V W X. -/
import Derived.Test.YthjgecblkagelaaGreatM6
import Derived.Maps.OwnIn
import Derived.StillTailTactics
import Derived.OrdersIn
import Derived.RegionIn

/- The table; isSafe; a range over places, visits or before; next. -/
namespace Go.Proofs.YthjgecblkagelaaGreat
open Go.RowKit Go.Shelf

attribute [local go_sem] Oper.semAt_some

@[reducible] def tbc (A : Option Addr) (n c ms ml : Nat) : Array Value := #[.slice A n c, .map (some ms), .map (some ml)]
def TbAt (W : World) (b : Nat) (A : Option Addr) (n c ms ml : Nat) : Prop := W.heap[b]? = some (.cells (tbc A n c ms ml) 60 (0, 0))
@[reducible] def encI (x : Int) : Value := .int .i64 x
section
variable {W W' : World} {b : Nat} {A : Option Addr} {n c ms ml : Nat}
theorem TbAt.lt (h : TbAt W b A n c ms ml) : b < W.heap.size := (Array.getElem?_eq_some_iff.1 h).1
theorem TbAt.cells (h : TbAt W b A n c ms ml) : W.cell? ⟨b, 0, none⟩ = some (.slice A n c) ∧ W.cell? ⟨b, 1, none⟩ = some (.map (some ms)) ∧ W.cell? ⟨b, 2, none⟩ = some (.map (some ml)) := by
  unfold TbAt at h
  simp [World.cell?, h]
theorem TbAt.new (W : World) (A : Option Addr) (n c ms ml : Nat) : TbAt (W.alloc (.cells (tbc A n c ms ml) 60)) W.heap.size A n c ms ml := World.alloc_heap_new W _
theorem TbAt.below {D : Nat} (h : TbAt W b A n c ms ml) (hb : Below D W W') (hD : b < D) : TbAt W' b A n c ms ml := (hb.block b hD).trans h
theorem TbAt.alloc (h : TbAt W b A n c ms ml) (o : Obj) : TbAt (W.alloc o) b A n c ms ml := (Below.heap_alloc W o b h.lt).trans h
end

theorem zeroInt (w : World) : (zeroValue 3).run Tryz.prog w = .ok (encI 0) w := by kernel_rfl
theorem lookup_i {W : World} {b : Nat} {m : List (Pl × Int)} (h : MapAt Int encI W b m) (p : Pl) :
    (Instr.lookup 58 (.map (some b)) (plv p) false).run Tryz.prog W = .ok (encI (mget 0 m p)) W :=
  lookup_pl h 58 3 0 Tryz.underlying58 zeroInt p

set_option maxHeartbeats 1000000 in
theorem isSafe_any (w : World) (A : Option Addr) (n c ms ml : Nat) (m : List (Pl × Int)) (hm : MapAt Int encI w ms m) (p : Pl) :
    Calls Tryz.prog 35 #[.agg (tbc A n c ms ml), plv p] w fun e w' => e = .returned (.bool (decide (0 < mget 0 m p))) ∧ Below w.heap.size w w' := by
  have x0 := (TbAt.new w A n c ms ml).alloc (.cells (plc p) 64)
  have x1 := PlAt.new (w.alloc (.cells (tbc A n c ms ml) 60)) p
  simp only [World.size_alloc] at x1
  obtain ⟨t0, t1, t2⟩ := x0.cells
  obtain ⟨c0, c1, c2, c3, c4, c5⟩ := x1.cells
  have hl := lookup_i ((hm.alloc (.cells (tbc A n c ms ml) 60)).alloc (.cells (plc p) 64)) p
  go_enter Tryz.func35, Tryz.ntmps35
  go_wp2
  go_ret
  exact ⟨rfl, ((Below.refl _ _).alloc (Nat.le_refl _) _).alloc (by simp) _⟩

/-- A range over an iterator whose last element is a place, in a function that is called plainly: the loop's variable is a new block. -/
theorem range_pl {α : Type} {P : Program} {g : Operand} {ps : Array Tmp} {assign body : Code} {Q : Exit → Act → World → Prop} {a : Act} {w : World} {gf : Nat} {lb : Array Value}
    (hg : a.eval g = .func (.func gf) #[] lb) (eg : ∀ args w, (callFunc gf args).run P w = .ok (.enter gf args) w)
    {encs : α → Array Value} (pl : α → Pl) {n₀ : Nat} {C : Nat → Prop} {S Sp : List α → Prop} {N : Nat} {w0 : World} (hseq : IterAt P gf lb encs n₀ C S Sp N w0)
    (hb0 : Below w0.heap.size w0 w) (hC : ∀ k, C k → k < w.heap.size) (hn₀ : n₀ ≤ w.heap.size) (hps : ∀ x, (encs x).size = ps.size)
    (I : List α → (Nat → Prop) → World → Prop) (Ix : Code → List α → (Nat → Prop) → World → Prop) (hI : Stable w.heap.size I) (hIx : ∀ c, Stable w.heap.size (Ix c)) (h0 : I [] noBlock w)
    (a₁ : α → Nat → Act)
    (hassign : ∀ (l : Nat) (x : α) (W : World) (b : Nat) (K : Act → World → Prop), b = W.heap.size → K (a₁ x b) (W.alloc (.cells (plc (pl x)) 64)) →
      assign.wpIn (Fence.wide.inRound l) 1 P (Exit.then K (fun _ _ _ => False)) { tmps := (ps.zip (encs x)).foldl (fun t (p, v) => t.setIfInBounds p v) a.tmps, defers := [] } W)
    (hbody : ∀ (l : Nat) (pre : List α) (x : α) (X : Nat → Prop) (b : Nat) (W : World), I pre X W → PlAt W b (pl x) → w.heap.size ≤ b → w.heap.size ≤ W.heap.size → (∀ k, X k → w.heap.size ≤ k ∧ k < W.heap.size) → pre.length < N → body.wpIn (Fence.wide.inRound l) 1 P (itPost w.heap.size n₀ C X I Ix (pre ++ [x]) W) (a₁ x b) W)
    (hdone : ∀ (D : Nat) (xs : List α) (X : Nat → Prop) (W : World), w.heap.size ≤ D → S xs → I xs X W → W.heap[D]? = some (.deferred (some [])) → Q .normal { a with defers := { target := .collected D, args := #[] } :: a.defers } W)
    (hstop : ∀ (D : Nat) (c : Code) (pre : List α) (X : Nat → Prop) (W : World), w.heap.size ≤ D → Sp pre → Ix c pre X W → W.heap[D]? = some (.deferred (some [])) → c.wpIn Fence.wide 3 P Q { a with defers := { target := .collected D, args := #[] } :: a.defers } W) :
    (Code.rangeFunc g ps assign body).wpIn Fence.wide 3 P Q a w :=
  range_iter hg eg hseq hb0 hC hn₀ hps I Ix hI hIx h0 (fun x a' W => ∃ b, a' = a₁ x b ∧ PlAt W b (pl x) ∧ w.heap.size ≤ b)
    (fun x a' W W' ⟨b, h1, h2, h3⟩ hst => ⟨b, h1, hst.same _ _ h2 (fun h => h) (.inl rfl), h3⟩)
    (fun l pre x X W K hi hz hX hK => hassign l x W _ K rfl (by
      have hbb : Below W.heap.size W (W.alloc (.cells (plc (pl x)) 64)) := (Below.refl _ W).alloc (Nat.le_refl _) _
      exact hK _ _ (Keep.of_below hbb (by omega)) (KeepsFrom.of_below hbb) (hI _ _ _ _ _ hi (St.of_below hbb) (Grows.refl _ _)) ⟨W.heap.size, rfl, PlAt.new W _, hz⟩))
    (fun l pre x X a' W hi ⟨b, h1, h2, h3⟩ hz hX hlen => by subst h1; exact hbody l pre x X b W hi h2 h3 hz hX hlen)
    hdone hstop

section
variable {B n₀ : Nat} {C X X' : Nat → Prop} {W W' : World}
theorem Grows.not (h : Grows X X' W) {k : Nat} (hX : ¬ X k) (hk : k < W.heap.size) : ¬ X' k := fun h' => (h.2 k h').elim hX (fun h => by omega)
theorem St.bx (h : St B X W W') {b : Nat} {t : TypeId} {v : Value} (hb : Boxed W b t v) (hX : ¬ X b) : Boxed W' b t v := h.same _ _ hb hX (.inl rfl)
theorem St.pl (h : St B X W W') {b : Nat} {p : Pl} (hb : PlAt W b p) (hX : ¬ X b) : PlAt W' b p := h.same _ _ hb hX (.inl rfl)
theorem St.tb (h : St B X W W') {b : Nat} {A : Option Addr} {n c ms ml : Nat} (hb : TbAt W b A n c ms ml) (hX : ¬ X b) : TbAt W' b A n c ms ml := h.same _ _ hb hX (.inl rfl)
theorem St.mp {α : Type} {enc : α → Value} {b : Nat} {m : List (Pl × α)} (h : St B X W W') (hm : MapAt α enc W b m) (hX : ¬ X b) (hB : b < B) : MapAt α enc W' b m := by
  obtain ⟨es, clock, hh, r⟩ := hm
  exact ⟨es, clock, h.same _ _ hh hX (.inr hB), r⟩
theorem St.row (h : St B X W W') {base : Nat} {e : TypeId} {size : Nat} {v : Value} {k : Nat} {xs : List Value} (hr : W.ownsRow base e size v k xs) (hX : ∀ g, v.ownBlock = some g → ¬ X g) : W'.ownsRow base e size v k xs := by
  refine ⟨hr.1, ?_⟩
  rcases hr.2 with hn | ⟨g, cap, cur, rfl, hb, hg, rest⟩
  · exact .inl hn
  · exact .inr ⟨g, cap, cur, rfl, hb, h.same _ _ hg (hX g rfl) (.inl rfl), rest⟩
theorem Grows.row (h : Grows X X' W) {base : Nat} {e : TypeId} {size : Nat} {v : Value} {k : Nat} {xs : List Value} (hr : W.ownsRow base e size v k xs) (hX : ∀ g, v.ownBlock = some g → ¬ X g) : ∀ g, v.ownBlock = some g → ¬ X' g :=
  fun g hg => h.not (hX g hg) (hr.lt g hg).2
theorem Keep.grown {row : Option Nat} (hg : W.grownBy W' row) (hn : n₀ ≤ W.heap.size) (hr : ∀ r, row = some r → n₀ ≤ r ∧ ¬ X r ∧ ¬ C r) : Keep n₀ C X W W' :=
  ⟨(Below.refl _ W).grown hg hn (fun r e => (hr r e).1), fun k o hk hc => (hg.block k (Array.getElem?_eq_some_iff.1 hk).1 (fun e => by
    have h := (hr k e.symm).2
    rcases hc with h' | h'
    · exact h.1 h'
    · exact h.2 h')).trans hk⟩
end

theorem Keep.weaken {n₀ : Nat} {C C' X : Nat → Prop} {W W' : World} (h : Keep n₀ C' X W W') (hC : ∀ k, C k → C' k) : Keep n₀ C X W W' := ⟨h.below, fun k o hk hc => h.same k o hk (hc.imp id (hC k))⟩
theorem row_below {W W' : World} {base : Nat} {e : TypeId} {size : Nat} {v : Value} {k : Nat} {xs : List Value} (hr : W.ownsRow base e size v k xs) (hb : Below W.heap.size W W') : W'.ownsRow base e size v k xs :=
  (St.of_below (B := 0) (X := noBlock) hb).row hr (fun _ _ h => h)
/-- An append to a boxed slice of the call's own: what it leaves as it lay. -/
theorem row_appended {W w1 : World} {n₀ b : Nat} {e : TypeId} {size : Nat} {v v' : Value} {k : Nat} {xs : List Value} {tmp : Obj} {X C : Nat → Prop} (hrow : W.ownsRow n₀ e size v k xs) (hn₀ : n₀ ≤ W.heap.size) (hB : n₀ ≤ b)
    (hgrow : (W.alloc tmp).grownBy w1 v.ownBlock) (hat : v'.ownBlock = v.ownBlock ∨ v'.ownBlock = some (W.alloc tmp).heap.size) (hXb : ¬ X b) (hCb : ¬ C b) (hXv : ∀ g, v.ownBlock = some g → ¬ X g ∧ ¬ C g)
    (hXs : ∀ k, X k → k < W.heap.size) (hCs : ∀ k, C k → k < W.heap.size) :
    Keep n₀ C X W (w1.setCell ⟨b, 0, none⟩ v') ∧ ∀ g, v'.ownBlock = some g → ¬ X g ∧ ¬ C g := by
  constructor
  · exact ((Keep.of_below ((Below.refl _ W).alloc (Nat.le_refl _) tmp) hn₀).trans (Keep.grown hgrow (by simp; omega) (fun r e => ⟨(hrow.lt r e).1, hXv r e⟩))).trans (Keep.setCell hB hXb hCb _ _)
  · intro g hg
    rcases hat with h | h
    · exact hXv g (h ▸ hg)
    · rw [h] at hg
      simp at hg
      exact ⟨fun h => by have := hXs _ h; omega, fun h => by have := hCs _ h; omega⟩
theorem St.below {B D : Nat} {X : Nat → Prop} {W W' : World} (h : St B X W W') (hX : ∀ k, X k → D ≤ k) (hB : D ≤ B) (hD : D ≤ W.heap.size) : Below D W W' := by
  obtain ⟨h1, h2⟩ := h
  refine { h1 with block := fun k hk => ?_ }
  have hk' : k < W.heap.size := by omega
  rw [Array.getElem?_eq_getElem hk']
  exact h2 k _ (Array.getElem?_eq_getElem hk') (fun h => by have := hX k h; omega) (.inr (by omega))

def nextF (m : List (Pl × Int)) (vs : List (Nat × Pl)) : List Int := (vs.filter fun x => decide (0 < mget 0 m x.2)).map fun x => (x.1 : Int)
theorem nextF_snoc (m : List (Pl × Int)) (vs : List (Nat × Pl)) (x : Nat × Pl) : nextF m (vs ++ [x]) = nextF m vs ++ (if 0 < mget 0 m x.2 then [(x.1 : Int)] else []) := by
  unfold nextF
  rw [List.filter_append, List.map_append]
  by_cases h : 0 < mget 0 m x.2 <;> simp [h]

theorem infoInt : (Tryz.prog.info? 3).map (fun i => (i.zero, i.size, i.bytes)) = some (some (.int .i64 0), 1, 8) := by kernel_rfl

set_option maxRecDepth 100000 in
set_option maxHeartbeats 4000000 in
theorem next_any (w : World) (B : Nat) (A : Option Addr) (n c ms ml : Nat) (ts : List Int) (hx : IntsAt w B A n ts) (hB : B ≤ w.heap.size) (h5 : n ≤ 5) (h12 : ∀ i, i < n → 1 ≤ ts[i]?.getD 0 ∧ ts[i]?.getD 0 ≤ 12)
    (m : List (Pl × Int)) (hm : MapAt Int encI w ms m) (p : Pl) (hp : PlOk ts p) :
    Calls Tryz.prog 36 #[.agg (tbc A n c ms ml), plv p] w fun e w' => ∃ v, e = .returned v ∧ w'.ownsRow w.heap.size 3 1 v (nextF m (visitsF ts p)).length ((nextF m (visitsF ts p)).map (.int .i64)) ∧ Below w.heap.size w w' := by
  obtain ⟨i0, hi, hz0, hz1, hz2⟩ := info_parts infoInt
  have hb0 : Below w.heap.size w (((w.alloc (.cells (tbc A n c ms ml) 60)).alloc (.cells (plc p) 64)).alloc (.cells #[.slice none 0 0] 22)) :=
    (((Below.refl _ w).alloc (Nat.le_refl _) _).alloc (by simp) _).alloc (by simp; omega) _
  have x0 := ((TbAt.new w A n c ms ml).alloc (.cells (plc p) 64)).alloc (.cells #[.slice none 0 0] 22)
  have x1 := (PlAt.new (w.alloc (.cells (tbc A n c ms ml) 60)) p).alloc (.cells #[.slice none 0 0] 22)
  have x2 := Boxed.new ((w.alloc (.cells (tbc A n c ms ml) 60)).alloc (.cells (plc p) 64)) 22 (.slice none 0 0)
  simp only [World.size_alloc, Nat.add_assoc, Nat.reduceAdd] at x1 x2
  refine (callsIn_wide (n := 3)).1 ?_
  refine callsIn_of_wp_marks Tryz.func36 rfl trivial ?_ rfl
  simp only [Tryz.ntmps36, List.size_toArray, List.length_cons, List.length_nil, Nat.reduceAdd, Nat.reduceSub, Array.replicate_succ, Array.replicate_zero, List.push_toArray, List.append_toArray, List.nil_append, List.cons_append]
  obtain ⟨t0, t1, t2⟩ := x0.cells
  obtain ⟨c0, c1, c2, c3, c4, c5⟩ := x1.cells
  gi_wp2_with (fail)
  refine ⟨trivial, ?_⟩
  refine (callsIn_wide.2 (visits_box _ _ _ _ _)).mono ?_
  rintro e w2 ⟨Bh, Bp, rfl, hBh, hBp, hgh, hgp, hb2⟩
  have hB2 : Below w.heap.size w w2 := hb0.trans (hb2.mono hb0.size)
  have y0 := x0.below hb2 x0.lt
  have y2 := bxBelow x2 hb2 x2.lt
  have hz := y2.lt
  have hm2 := hm.below hB2 hm.lt
  have hml := hm.lt
  clear hb2 hb0 x0 x1 x2 t0 t1 t2 c0 c1 c2 c3 c4 c5
  gi_wp2_with (fail)
  refine range_pl (P := Tryz.prog) (gf := 89) rfl (enters_of Tryz.func89 (by kernel_rfl) rfl) (encs := encV) Prod.snd (n₀ := w.heap.size) (w0 := w2)
    (visits1_any w2 Bh Bp w.heap.size A n c ts p hBh hBp hB2.size ((hx.below hB2 hB).more hB) h5 h12 hp) (Below.refl _ _) (by rintro k (rfl | rfl); exact hBh.lt; exact hBp.lt) hB2.size (fun _ => rfl)
    (fun pre X W => ∃ v, ((∀ k, X k → w2.heap.size ≤ k) ∧ w2.heap.size ≤ W.heap.size ∧ (∀ g, v.ownBlock = some g → ¬ X g ∧ ¬ ((g = Bh ∨ g = Bp) ∨ g = w.heap.size))) ∧ TbAt W w.heap.size A n c ms ml ∧ MapAt Int encI W ms m ∧ Boxed W (w.heap.size + 2) 22 v ∧
      W.ownsRow w.heap.size 3 1 v (nextF m pre).length ((nextF m pre).map (.int .i64)) ∧ Below w.heap.size w W)
    (fun _ _ _ _ => False)
    ?hI (fun _ _ _ _ _ _ h => h.elim) ?h0 ?a1 ?assign ?body ?done ?stop
  case assign =>
    intro l x W b K hb hK
    gi_wp2
    rw [← hb]
    exact hK
  case hI =>
    rintro pre X X' W W' ⟨v, ⟨hX, hWz, hv⟩, z0, zm, z2, hrow, hB⟩ hst hgr
    exact ⟨v, ⟨fun k h => (hgr.2 k h).elim (hX k) (fun h => by omega), Nat.le_trans hWz hst.base.size, fun g hg => ⟨hgr.not (hv g hg).1 (hrow.lt g hg).2, (hv g hg).2⟩⟩,
      hst.tb z0 (fun h => by have := hX _ h; omega), hst.mp zm (fun h => by have := hX _ h; omega) (by omega), hst.bx z2 (fun h => by have := hX _ h; omega), hst.row hrow (fun g hg => (hv g hg).1),
      hB.trans (hst.below (fun k h => by have := hX k h; omega) (by omega) hB.size)⟩
  case h0 =>
    exact ⟨_, ⟨fun _ h => h.elim, Nat.le_refl _, fun g h => by simp [Value.ownBlock] at h⟩, y0, hm2, y2, World.ownsRow_nil _ _ _ _, hB2⟩
  case body =>
    rintro l pre x X b W ⟨v, ⟨hX, -, hv⟩, z0, zm, z2, hrow, hBW⟩ zb hbz hWz hXz hlen
    obtain ⟨t0, t1, t2⟩ := z0.cells
    obtain ⟨c0, c1, c2, c3, c4, c5⟩ := zb.cells
    have hnl : (nextF m pre).length ≤ pre.length := by unfold nextF; rw [List.length_map]; exact List.length_filter_le _ _
    gi_wp2_with (fail)
    refine ⟨trivial, (CallsIn.inRound l (callsIn_wide.2 (isSafe_any W A n c ms ml m zm x.2))).mono ?_⟩
    rintro e W2 ⟨rfl, hb⟩
    have hb2z := hb.size
    have z0' := z0.below hb z0.lt
    have zm' := zm.below hb zm.lt
    have z2' := bxBelow z2 hb z2.lt
    have hrow' := row_below hrow hb
    have hBW' := hBW.trans (hb.mono hBW.size)
    have hc := z2'.cell
    clear t0 t1 t2 c0 c1 c2 c3 c4 c5
    obtain ⟨sb, hsb⟩ : ∃ sb, sb = decide (0 < mget 0 m x.2) := ⟨_, rfl⟩
    rw [← hsb]
    cases sb
    rotate_left
    · have hnx := nextF_snoc m pre x
      rw [if_pos (by simpa using hsb)] at hnx
      clear hsb
      have Hnx := Lib.hid hnx
      clear hnx
      gi_wp2_with (gi_at_builtin; refine wpListIn_append_own_at (F := Fence.wide.inRound l) (nF := 1) _ rfl _ _ 22 rfl w.heap.size 3 i0 (.int .i64 0) 1 8 Tryz.underlying22 hi hz0 hz1 hz2 rfl (by decide) v _ _ rfl (hrow'.alloc _) ⟨W2.heap.size, 0, none⟩ 1 1 [.int .i64 x.1] rfl rfl (cell_one_new _ _ _) (by simp [Value.oneCell']) (by simp only [maxLen]; omega) (by omega) (by have := hBW'.size; simp; omega) ?_; intro v' w1 hown' hgrow _ hat; obtain ⟨g', cap', rfl⟩ := ownsRow_succ hown'; obtain ⟨hv1, hv2, hr2, hk2, hb2⟩ := z2'.appended (by decide) hrow' hBW'.size (by omega) hown' hgrow; have hc1 := hv1.cell; have hf1 := hv1.frozen)
      obtain ⟨hkeep, hv'⟩ := row_appended (X := X) (C := fun k => (k = Bh ∨ k = Bp) ∨ k = w.heap.size) (b := w.heap.size + 2) hrow' hBW'.size (by omega) hgrow hat (fun h => by have := hX _ h; omega) (fun h => by simp at hgh hgp; omega) hv
        (fun k h => by have := (hXz k h).2; omega) (by rintro k ((rfl | rfl) | rfl); have := hBh.lt; omega; have := hBp.lt; omega; have := z0.lt; omega)
      have hkeepC := ((Keep.of_below (C := fun k => k = Bh ∨ k = Bp) (X := X) hb hBW.size).trans (hkeep.weaken fun k h => .inl h))
      refine ⟨(KeepsFrom.of_below hb).trans (hk2.from _), hkeepC, ⟨_, ⟨hX, ?_, hv'⟩, hkeep.same _ _ z0' (.inr (.inr rfl)), zm'.below hkeep.below (by omega), hv2, ?_, hBW'.trans hb2⟩⟩
      · exact Nat.le_trans hWz hkeepC.below.size
      · rw [Hnx.out]
        simpa using hr2
    · have hnx := nextF_snoc m pre x
      rw [if_neg (by simpa using hsb), List.append_nil] at hnx
      clear hsb
      have Hnx := Lib.hid hnx
      clear hnx
      gi_wp2_with (fail)
      exact ⟨KeepsFrom.of_below hb, Keep.of_below hb hBW.size, ⟨v, ⟨hX, by omega, hv⟩, z0', zm', z2', by rw [Hnx.out]; exact hrow', hBW'⟩⟩
  case done =>
    rintro D xs X W hD hS ⟨v, ⟨hX, -, hv⟩, z0, zm, z2, hrow, hBW⟩ hK
    have hc := z2.cell
    gi_wp2
    refine ⟨by simp, .inl ⟨_, _, rfl, run_takeDeferred hK, ?_⟩⟩
    subst hS
    exact ⟨_, results_tmp rfl _ _ _, v, rfl, ownsRow_putObj hrow _ hK rfl, below_put hBW hK (by omega)⟩
  case stop => exact fun _ _ _ _ _ _ _ h => h.elim
end Go.Proofs.YthjgecblkagelaaGreat

/- A region that draws, of reads and one writing tail, in a round. -/
namespace Go.Proofs.YthjgecblkagelaaGreat
open Go.RowKit Go.Shelf

def noDefer (ops : Array Oper) : Bool := ops.all fun o => match o.op with | .defer _ => false | _ => true
theorem noDefer_spec {ops : Array Oper} (h : noDefer ops = true) {i : Nat} {o : Oper} (hi : ops[i]? = some o) : ∀ c, o.op ≠ .defer c := by
  intro c hc
  obtain ⟨hlt, rfl⟩ := Array.getElem?_eq_some_iff.1 hi
  have := (Array.all_eq_true.1 h) i hlt
  rw [hc] at this
  cases this

section
variable {P : Program} {ops : Array Oper} {md : Region.Mode} {w : World} {lo m : Nat}
theorem wpIn_of_still {o : Oper} (hnd : ∀ c, o.op ≠ .defer c) {a : Act} {K : Act → Prop} {K' : Act → World → Prop} {Q' : Exit → Act → World → Prop} (h : ∀ a, K a → K' a w) (hh : o.still P a w K) : o.wpIn (Fence.wide.inRound lo) m P a w K' Q' := by
  unfold Oper.still at hh
  unfold Oper.wpIn
  refine ⟨fun _ _ => trivial, ?_⟩
  rw [Oper.semAt_plain _ _ _ hnd]
  generalize (execOp a.eval o).run P w = r at *
  cases r with
  | ok n w' =>
    cases n <;> simp only [Oper.stillUpon] at hh <;> simp only [Oper.uponIn]
    case enter f args =>
      obtain ⟨rfl, v, hc, hn⟩ := hh
      refine ⟨fun h => (by cases h), (CallsIn.inRound lo (callsIn_wide.2 hc)).mono fun e w'' ⟨he, hw⟩ => ?_⟩
      subst he; subst hw; exact h _ hn
    all_goals (obtain ⟨rfl, h2⟩ := hh; exact h _ h2)
  | halt x w' => simp only [Oper.stillUpon] at hh

theorem wpOpIn_of_stOp (hnd : noDefer ops = true) {i : Nat} {a : Act} {K : Act → Prop} {K' : Act → World → Prop} {Q' : Exit → Act → World → Prop} (h : ∀ a, K a → K' a w) (hh : stOp P ops w i K a) : wpOpIn (Fence.wide.inRound lo) m P ops Q' i K' a w := by
  unfold stOp at hh
  unfold wpOpIn
  split
  · rename_i ho; simp only [ho] at hh; exact h _ hh
  · rename_i o ho
    simp only [ho] at hh
    split
    · rename_i hw; simp only [hw, if_true] at hh; exact wpIn_of_still (noDefer_spec hnd ho) h hh
    · rename_i hw; simp only [hw] at hh; exact ⟨fun _ _ => trivial, h _ hh⟩

theorem wpAnyIn_of_head (hnd : noDefer ops = true) {n g : Nat} {L : Array Bool → Act → Prop} {Q' : Exit → Act → World → Prop} (hL : ∀ listed a, L listed a → wpAnyIn (Fence.wide.inRound lo) m P md ops Q' g listed a w) :
    ∀ (f : Nat) (listed : Array Bool) (a : Act), wpAnyL P md ops w n L f listed a → wpAnyIn (Fence.wide.inRound lo) m P md ops Q' (f + g) listed a w
  | 0, listed, a, h => by rw [Nat.zero_add]; exact hL _ _ h
  | f + 1, listed, a, h => by
    rw [show f + 1 + g = (f + g) + 1 by omega]
    exact ⟨fun h0 => absurd h0 h.1, fun i hi => wpOpIn_of_stOp hnd (fun a' h' => wpAnyIn_of_head hnd hL f _ a' h') (h.2 i hi).2⟩

theorem wpAnyIn_of_seq {F : Fence} {Q' : Exit → Act → World → Prop} : ∀ (l : List Oper) (k : Nat) (listed : Array Bool) (a : Act) (w : World), (∀ j, l[j]? = ops[k + j]?) →
    Region.seqB md ops l.length k listed = true → wpListIn F m P ops Q' l a w → wpAnyIn F m P md ops Q' l.length listed a w
  | [], _, _, _, _, _, hB, h => ⟨by simpa [Region.seqB] using hB, h⟩
  | o :: l, k, listed, a, w, hl, hB, h => by
    have h0 : ops[k]? = some o := by simpa using (hl 0).symm
    simp only [List.length_cons, Region.seqB, Bool.and_eq_true, decide_eq_true_eq] at hB
    refine ⟨fun h1 => (by rw [hB.1] at h1; cases h1), fun i hi => ?_⟩
    rw [hB.1] at hi
    have hik : i = k := by simpa using hi
    subst hik
    have hw : wpOpIn F m P ops Q' i (wpListIn F m P ops Q' l) a w := by unfold wpOpIn; simp only [h0]; exact h
    exact wpOpIn_mono (fun a' w' h' => wpAnyIn_of_seq l (i + 1) _ a' w' (fun j => by have := hl (j + 1); simpa [Nat.add_assoc, Nat.add_comm 1 j] using this) hB.2 h') hw

theorem wpIn_region_still_tail {id : Nat} {Q : Exit → Act → World → Prop} {a : Act} {w : World} {l : List Oper} (n : Nat) (hm : P.follows .mixedOrders = true) (hnd : noDefer l.toArray = true) (hB : Region.lexTailB .any l.toArray n = true)
    (h : wpStill P l.toArray { w with drawn := w.drawn + 1 } (fun a' => wpListIn (Fence.wide.inRound lo) m P l.toArray Q (l.drop n) a' { w with drawn := w.drawn + 1 }) (l.take n) a) : (Code.region id l.toArray true).wpIn (Fence.wide.inRound lo) m P Q a w := by
  simp only [Region.lexTailB, Bool.and_eq_true, decide_eq_true_eq] at hB
  obtain ⟨⟨⟨⟨hsel, hn⟩, hs⟩, hc⟩, hlex⟩ := hB
  have hn' : n < l.length := by simpa using hn
  have htl : (l.take n).length = n := by simp; omega
  have hdl : (l.drop n).length = l.toArray.size - n := by simp
  have inv0 : HeadInv .any l.toArray n (Array.replicate l.toArray.size false) :=
    ⟨by simp, fun j oj _ hl => (by rw [getD_replicate_false] at hl; cases hl), fun t _ ht => getD_in (by simpa using ht) (getD_replicate_false _ _)⟩
  have H := wpAnyL_lex (md := .any) (g := l.toArray.size - n) hsel hs hc hn (l.take n) 0 _ a (fun j hj => by
    have hj' : j < n := by rw [htl] at hj; exact hj
    simp [hj']) (by simpa using htl) inv0 (by rw [htl]; exact hlex) h
  refine wpIn_region_any hm ?_
  have := wpAnyIn_of_head (lo := lo) (m := m) hnd (Q' := Q) (g := l.toArray.size - n) (fun listed a' hL => by
    have := wpAnyIn_of_seq (F := Fence.wide.inRound lo) (m := m) (md := .any) (Q' := Q) (l.drop n) n listed a' { w with drawn := w.drawn + 1 } (fun j => by simp [List.getElem?_drop]) (by rw [hdl]; exact hL.1) hL.2
    rwa [hdl] at this) _ _ _ H
  rw [htl, show n + (l.toArray.size - n) = l.toArray.size by omega] at this
  exact this
theorem wpOpIn_round (hnd : noDefer ops = true) {i : Nat} {Q : Exit → Act → World → Prop} {K K' : Act → World → Prop} (hK : ∀ a w, K a w → K' a w) {a : Act} {w : World} (h : wpOpIn Fence.wide m P ops Q i K a w) : wpOpIn (Fence.wide.inRound lo) m P ops Q i K' a w := by
  have h := wpOpIn_mono hK h
  unfold wpOpIn at h ⊢
  split
  · rename_i ho; simp only [ho] at h; exact h
  · rename_i o ho
    simp only [ho] at h
    split
    · rename_i hw
      simp only [hw, if_true] at h
      obtain ⟨h1, h2⟩ := h
      refine ⟨h1, ?_⟩
      rw [Oper.semAt_plain _ _ _ (noDefer_spec hnd ho)] at h2 ⊢
      exact h2
    · rename_i hw; simp only [hw] at h; exact h
theorem wpAnyIn_round (hnd : noDefer ops = true) {Q : Exit → Act → World → Prop} : ∀ (fuel : Nat) (listed : Array Bool) (a : Act) (w : World), wpAnyIn Fence.wide m P md ops Q fuel listed a w → wpAnyIn (Fence.wide.inRound lo) m P md ops Q fuel listed a w
  | 0, _, _, _, h => h
  | fuel + 1, _, _, _, h => ⟨h.1, fun i hi => wpOpIn_round hnd (fun a' w' => wpAnyIn_round hnd fuel _ a' w') (h.2 i hi)⟩
theorem region_round {id : Nat} {a : Act} {w : World} {Q : Exit → Act → World → Prop} (hm : P.follows .mixedOrders = true) (hnd : noDefer ops = true)
    (h : wpAnyIn Fence.wide m P .any ops Q ops.size (Array.replicate ops.size false) a { w with drawn := w.drawn + 1 }) : (Code.region id ops true).wpIn (Fence.wide.inRound lo) m P Q a w :=
  wpIn_region_any hm (wpAnyIn_round hnd _ _ _ _ h)
end

end Go.Proofs.YthjgecblkagelaaGreat

/- m[k]-- at any key; condemn. -/
namespace Go.Proofs.YthjgecblkagelaaGreat
open Go.RowKit Go.Shelf

attribute [local go_sem] Oper.semAt_some

section
variable {α : Type}
theorem mget_cons (z : α) (x : Pl × α) (m : List (Pl × α)) (k : Pl) : mget z (x :: m) k = if k = x.1 then x.2 else mget z m k := by
  unfold mget
  by_cases h : k = x.1
  · simp [mfind, h]
  · simp only [mfind, if_neg h]
    cases mfind k m <;> rfl
theorem mget_nil (z : α) (k : Pl) : mget z [] k = z := rfl
theorem mget_snoc_zero (z : α) (p k : Pl) : ∀ m : List (Pl × α), mget z (m ++ [(p, z)]) k = mget z m k
  | [] => by rw [List.nil_append, mget_cons, mget_nil]; split <;> rfl
  | x :: m => by rw [List.cons_append, mget_cons, mget_cons, mget_snoc_zero z p k m]
theorem mget_mset (z v : α) (p k : Pl) : ∀ m : List (Pl × α), mget z (mset p v m) k = if k = p then v else mget z m k
  | [] => by simp only [mset, mget_cons, mget_nil]
  | x :: m => by
    unfold mset
    by_cases h : p = x.1
    · rw [if_pos h, mget_cons, mget_cons]
      by_cases hk : k = p
      · rw [if_pos hk, if_pos (by rw [hk]; exact h)]
      · rw [if_neg hk, if_neg (by rw [← h]; exact hk), if_neg (by rw [← h]; exact hk)]
    · rw [if_neg h, mget_cons, mget_cons, mget_mset z v p k m]
      by_cases hk : k = p
      · subst hk; rw [if_neg h, if_pos rfl, if_pos rfl]
      · rw [if_neg hk, if_neg hk]
theorem mfind_snoc (z : α) (p : Pl) : ∀ m : List (Pl × α), mfind p m = none → mfind p (m ++ [(p, z)]) = some (m.length, z)
  | [], _ => by simp [mfind]
  | x :: m, h => by
    unfold mfind at h
    by_cases hx : p = x.1
    · rw [if_pos hx] at h; cases h
    · rw [if_neg hx] at h
      rw [List.cons_append]
      unfold mfind
      rw [if_neg hx, mfind_snoc z p m (by cases hm : mfind p m with | none => rfl | some r => rw [hm] at h; cases h)]
      rfl
end

section
variable {α : Type} {enc : α → Value} {W : World} {b : Nat} {m : List (Pl × α)}
/-- 'm[k]--' at any key. -/
theorem entry_any (h : MapAt α enc W b m) (mt et : TypeId) (hm : Tryz.prog.underlying mt = some (.map 64 et)) (z : α) (hz : ∀ w, (zeroValue et).run Tryz.prog w = .ok (enc z) w) (p : Pl) :
    ∃ (o1 : Obj) (st : Nat) (m' : List (Pl × α)), o1.isCells = false ∧ (Instr.mapEntry mt (.map (some b)) (plv p)).run Tryz.prog W = .ok (.tuple #[enc (mget z m p), .int .i64 (st : Int)]) (W.putObj b o1) ∧ MapAt α enc (W.putObj b o1) b m' ∧ (∀ k, mget z m' k = mget z m k) ∧
      ∀ v, ∃ o2 : Obj, o2.isCells = false ∧ (Instr.entryStore mt (.map (some b)) (.int .i64 (st : Int)) (enc v)).run Tryz.prog (W.putObj b o1) = .ok () ((W.putObj b o1).putObj b o2) ∧ MapAt α enc ((W.putObj b o1).putObj b o2) b (mset p v m) := by
  cases hf : mfind p m with
  | some r =>
    obtain ⟨i, v0⟩ := r
    obtain ⟨o1, st, h1, h2, h3, h4⟩ := entry_pl h mt et hm p i v0 hf
    have hg : mget z m p = v0 := by unfold mget; rw [hf]
    exact ⟨o1, st, m, h1, by rw [hg]; exact h2, h3, fun _ => rfl, h4⟩
  | none =>
    have hlt := h.lt
    have hgz : mget z m p = z := by unfold mget; rw [hf]
    obtain ⟨es, clock, hh, he, hc, hn⟩ := h
    have hg := run_getMap b es clock hh
    obtain ⟨es', hes'⟩ : ∃ es', es' = es.push { key := plv p, val := enc z, born := clock } := ⟨_, rfl⟩
    have hsz' : es'.size = es.size + 1 := by rw [hes']; simp
    have hW : (W.putObj b (.map es' (clock + 1))).heap[b]? = some (.map es' (clock + 1)) := World.putObj_heap_same hlt
    have hborn' : ∀ e ∈ es'.toList, e.born < clock + 1 := by
      intro e hm'
      rw [hes'] at hm'
      simp at hm'
      rcases hm' with hm' | rfl
      · have := hc e (by simpa using hm'); omega
      · simp
    have hnod' : (es'.toList.map (·.born)).Nodup := by
      rw [hes']
      simp only [Array.toList_push, List.map_append, List.map_cons, List.map_nil]
      rw [List.nodup_append]
      refine ⟨hn, by simp, ?_⟩
      intro x hx y hy
      simp at hy
      subst hy
      obtain ⟨e, he', rfl⟩ := List.mem_map.1 hx
      have := hc e he'
      omega
    have he' : es'.toList.map (fun e => (e.key, e.val)) = (m ++ [(p, z)]).map (fun x => (plv x.1, enc x.2)) := by rw [hes']; simp [he]
    refine ⟨.map es' (clock + 1), clock, m ++ [(p, z)], rfl, ?_, ⟨es', clock + 1, hW, he', hborn', hnod'⟩, fun k => mget_snoc_zero z p k m, fun v => ?_⟩
    · rw [hgz]
      simp only [Instr.mapEntry, Sem.run_bind, run_underlying hm, Result.andThen_ok, hg, checkKey_pl, findKey_pl enc p W es.toList m he, hf, Option.map_none, hz, ← hes', run_putObj b es clock _ hh, Sem.run_pure, goInt]
    · have hfi : es'.findIdx? (fun e => (e.born : Int) == (clock : Int)) = some es.size := by
        rw [Array.findIdx?_eq_some_iff_getElem]
        refine ⟨by omega, by simp [hes'], fun j hj => ?_⟩
        have hlt := hc es[j] (by simp)
        simp [hes', Array.getElem_push, hj]
        omega
      refine ⟨.map (es'.modify es.size fun e => { e with val := enc v }) (clock + 1), rfl, ?_, ⟨_, _, World.putObj_heap_same (by simpa using hlt), ?_, ?_, ?_⟩⟩
      · simp only [Instr.entryStore, Sem.run_bind, run_getMap b es' (clock + 1) hW, Result.andThen_ok, asInt, asIntOf, Sem.run_pure, hfi]
        exact run_putObj b es' (clock + 1) _ hW
      · have hf' : mfind p (m ++ [(p, z)]) = some (m.length, z) := mfind_snoc z p m hf
        have hms : mset p v m = mset p v (m ++ [(p, z)]) := by
          rw [mset_none hf, mset_at hf']
          simp
        rw [hms, mset_at hf']
        have hsm : es.size = m.length := by have := congrArg List.length he; simpa using this
        rw [hsm]
        exact keys_set es' m.length p v _ (by omega) (by simp [hes', ← hsm]) he'
      · exact born_lt (borns_set es' es.size _ (fun _ => rfl)) hborn'
      · have hbs := borns_set es' es.size (fun e => { e with val := enc v }) (fun _ => rfl)
        rw [hbs]; exact hnod'
end

/-- All that lay below D lies as it lay, but the blocks of S. -/
structure BelowBut (D : Nat) (S : Nat → Prop) (W W' : World) : Prop where
  base : Below 0 W W'
  same : ∀ k, k < D → ¬ S k → W'.heap[k]? = W.heap[k]?
theorem BelowBut.refl (D : Nat) (S : Nat → Prop) (W : World) : BelowBut D S W W := ⟨Below.refl _ _, fun _ _ _ => rfl⟩
theorem BelowBut.trans {D : Nat} {S : Nat → Prop} {A B C : World} (h : BelowBut D S A B) (k : BelowBut D S B C) : BelowBut D S A C := ⟨h.base.trans k.base, fun i hi hs => (k.same i hi hs).trans (h.same i hi hs)⟩
theorem BelowBut.of {D : Nat} {S : Nat → Prop} {A B : World} (h : Below D A B) : BelowBut D S A B := ⟨h.mono (Nat.zero_le _), fun i hi _ => h.block i hi⟩
theorem BelowBut.below {D E : Nat} {S : Nat → Prop} {A B : World} (h : BelowBut D S A B) (hE : E ≤ D) (hS : ∀ k, S k → E ≤ k) : Below E A B := { h.base with block := fun k hk => h.same k (by omega) (fun hs => by have := hS k hs; omega) }
theorem BelowBut.put {D : Nat} {S : Nat → Prop} {W : World} {l : Nat} (o : Obj) (hS : S l ∨ D ≤ l) : BelowBut D S W (W.putObj l o) :=
  ⟨(Below.refl 0 W).grown (grownBy_putObj' W l o) (Nat.zero_le _) (fun _ _ => Nat.zero_le _), fun k hk hs => World.putObj_heap_other (by rintro rfl; rcases hS with h | h; exact hs h; omega)⟩
theorem St.but {B D : Nat} {X S : Nat → Prop} {W W' : World} (h : St B X W W') (hX : ∀ k, X k → D ≤ k) (hB : D ≤ B) (hD : D ≤ W.heap.size) : BelowBut D S W W' := BelowBut.of (h.below hX hB hD)

def VBd (K : Int) (m : List (Pl × Int)) : Prop := ∀ e ∈ m, -K ≤ e.2 ∧ e.2 ≤ K
theorem VBd.mget {K : Int} (hK : 0 ≤ K) (k : Pl) : ∀ {m : List (Pl × Int)}, VBd K m → -K ≤ mget 0 m k ∧ mget 0 m k ≤ K
  | [], _ => by rw [mget_nil]; omega
  | x :: m, h => by
    rw [mget_cons]
    split
    · exact h x (by simp)
    · exact VBd.mget hK k (fun e he => h e (by simp [he]))
theorem VBd.mset {K v : Int} (hv : -K ≤ v ∧ v ≤ K) (p : Pl) : ∀ {m : List (Pl × Int)}, VBd K m → VBd K (mset p v m)
  | [], _ => by intro e he; simp [Proofs.YthjgecblkagelaaGreat.mset] at he; subst he; exact hv
  | x :: m, h => by
    have ih := VBd.mset hv p (m := m) (fun e he => h e (by simp [he]))
    unfold Proofs.YthjgecblkagelaaGreat.mset
    split
    · intro e he
      simp at he
      rcases he with rfl | he
      · exact hv
      · exact h e (by simp [he])
    · intro e he
      simp at he
      rcases he with rfl | he
      · exact h _ (by simp)
      · exact ih e he
theorem VBd.mdel {K : Int} (p : Pl) : ∀ {m : List (Pl × Int)}, VBd K m → VBd K (mdel p m)
  | [], h => h
  | x :: m, h => by
    have ih := VBd.mdel p (m := m) (fun e he => h e (by simp [he]))
    unfold Proofs.YthjgecblkagelaaGreat.mdel
    split
    · exact fun e he => h e (by simp [he])
    · intro e he
      simp at he
      rcases he with rfl | he
      · exact h _ (by simp)
      · exact ih e he
theorem VBd.mono {K K' : Int} (h : K ≤ K') {m : List (Pl × Int)} (hm : VBd K m) : VBd K' m := fun e he => by have := hm e he; omega

abbrev CSt := List (Pl × Int) × List (Pl × Int) × List Pl
def condStep (p : Pl) (s : CSt) (x : Pl) : CSt :=
  if mget 0 s.1 x - 1 = 0 then (mdel x (mset x (mget 0 s.1 x - 1) s.1), mset x (mget 0 s.2.1 p + 1) s.2.1, s.2.2 ++ [x]) else (mset x (mget 0 s.1 x - 1) s.1, s.2.1, s.2.2)
def condL (p : Pl) (s : CSt) (l : List Pl) : CSt := l.foldl (condStep p) s
theorem condL_snoc (p : Pl) (s : CSt) (l : List Pl) (x : Pl) : condL p s (l ++ [x]) = condStep p (condL p s l) x := by simp [condL]
def flat (ps : List Pl) : List Value := ps.flatMap fun p => (plc p).toList
theorem flat_len' (ps : List Pl) : (flat ps).length = ps.length * 6 := by
  induction ps with
  | nil => rfl
  | cons p ps ih => simp only [flat, List.flatMap_cons, List.length_append] at ih ⊢; rw [ih]; simp; omega
theorem infoPl : (Tryz.prog.info? 64).map (fun i => (i.zero, i.size, i.bytes)) = some (some (plv ⟨0, 0, 0, 0, 0, 0⟩), 6, 48) := by kernel_rfl
theorem cells_new (w : World) (cs : Array Value) (t : TypeId) : ∀ j u, cs.toList[j]? = some u → (w.alloc (.cells cs t)).cell? ((⟨w.heap.size, 0, none⟩ : Addr).add j) = some u := by
  intro j u h
  have hn := World.alloc_heap_new w (.cells cs t)
  have ha : (⟨w.heap.size, 0, none⟩ : Addr).add j = ⟨w.heap.size, j, none⟩ := by simp [Addr.add]; rintro rfl; rfl
  rw [ha]
  simp only [World.cell?, hn]
  simpa using h

theorem condL_len (p : Pl) : ∀ (l : List Pl) (s : CSt), (condL p s l).2.2.length ≤ s.2.2.length + l.length
  | [], s => by simp [condL]
  | x :: l, s => by
    have ih := condL_len p l (condStep p s x)
    have : (condStep p s x).2.2.length ≤ s.2.2.length + 1 := by
      unfold condStep
      split
      · simp
      · simp
    unfold condL at ih ⊢
    simp only [List.foldl_cons, List.length_cons]
    omega
/-- Two maps alone have been turned. -/
structure MapsOnly (ms ml : Nat) (W V : World) : Prop where
  base : Below 0 W V
  same : ∀ k, k ≠ ms → k ≠ ml → V.heap[k]? = W.heap[k]?
  size : V.heap.size = W.heap.size
section
variable {ms ml : Nat} {W V : World}
theorem MapsOnly.refl (W : World) : MapsOnly ms ml W W := ⟨Below.refl _ _, fun _ _ _ => rfl, rfl⟩
theorem MapsOnly.drew (h : MapsOnly ms ml W V) : MapsOnly ms ml W V.drew := ⟨h.base.trans ⟨rfl, rfl, rfl, Nat.le_refl _, fun _ _ => rfl⟩, h.same, h.size⟩
theorem MapsOnly.put (h : MapsOnly ms ml W V) {l : Nat} (hl : l = ms ∨ l = ml) (o : Obj) : MapsOnly ms ml W (V.putObj l o) :=
  ⟨h.base.trans ((Below.refl 0 V).grown (grownBy_putObj' V l o) (Nat.zero_le _) (fun _ _ => Nat.zero_le _)), fun k h1 h2 => (World.putObj_heap_other (by rcases hl with rfl | rfl <;> assumption)).trans (h.same k h1 h2), by simp [h.size]⟩
theorem MapsOnly.from (h : MapsOnly ms ml W V) {B : Nat} (h1 : ms < B) (h2 : ml < B) : KeepsFrom B W V := ⟨Nat.le_of_eq h.size.symm, fun k _ hk h0 _ => (h.same k (by omega) (by omega)).trans h0⟩
theorem MapsOnly.keep (h : MapsOnly ms ml W V) {n₀ : Nat} {C X : Nat → Prop} (h1 : n₀ ≤ ms) (h2 : n₀ ≤ ml) (hX : ¬ X ms ∧ ¬ X ml) (hC : ¬ C ms ∧ ¬ C ml) : Keep n₀ C X W V :=
  ⟨{ h.base with block := fun k hk => h.same k (by omega) (by omega) }, fun k o hk hc => (h.same k (by rintro rfl; rcases hc with h | h; exact hX.1 h; exact hC.1 h) (by rintro rfl; rcases hc with h | h; exact hX.2 h; exact hC.2 h)).trans hk⟩
theorem MapsOnly.but (h : MapsOnly ms ml W V) (D : Nat) : BelowBut D (fun k => k = ms ∨ k = ml) W V := ⟨h.base, fun k _ hs => h.same k (fun e => hs (.inl e)) (fun e => hs (.inr e))⟩
theorem MapsOnly.row (h : MapsOnly ms ml W V) {base : Nat} {e : TypeId} {size : Nat} {v : Value} {k : Nat} {xs : List Value} (hr : W.ownsRow base e size v k xs) (h1 : ms < base) (h2 : ml < base) : V.ownsRow base e size v k xs := by
  refine ⟨hr.1, ?_⟩
  rcases hr.2 with hn | ⟨g, cap, cur, rfl, hb, hg, rest⟩
  · exact .inl hn
  · exact .inr ⟨g, cap, cur, rfl, hb, (h.same g (by omega) (by omega)).trans hg, rest⟩
theorem mapDrew {α : Type} {enc : α → Value} {b : Nat} {m : List (Pl × α)} (h : MapAt α enc W b m) : MapAt α enc W.drew b m := ⟨h.ex⟩
theorem flat_snoc (ps : List Pl) (x : Pl) : flat (ps ++ [x]) = flat ps ++ (plc x).toList := by simp [flat]
theorem condStep_go {p x : Pl} {s : CSt} {y : Int} (hy : y = mget 0 s.1 x) (h : y - 1 ≠ 0) : condStep p s x = (mset x (y - 1) s.1, s.2.1, s.2.2) := by
  unfold condStep
  rw [← hy, if_neg h]
theorem condStep_zero {p x : Pl} {s : CSt} {y : Int} (hy : y = mget 0 s.1 x) (h : y - 1 = 0) : condStep p s x = (mdel x (mset x (y - 1) s.1), mset x (mget 0 s.2.1 p + 1) s.2.1, s.2.2 ++ [x]) := by
  unfold condStep
  rw [← hy, if_pos h]
end

set_option maxRecDepth 100000 in
set_option maxHeartbeats 4000000 in
theorem condemn_any (w : World) (B : Nat) (A : Option Addr) (n c ms ml : Nat) (ts : List Int) (hx : IntsAt w B A n ts) (h5 : n ≤ 5) (h12 : ∀ i, i < n → 1 ≤ ts[i]?.getD 0 ∧ ts[i]?.getD 0 ≤ 12)
    (s : CSt) (hms : MapAt Int encI w ms s.1) (hml : MapAt Int encI w ml s.2.1) (hne : ms ≠ ml) (hBs : B ≤ ms) (hBl : B ≤ ml) (hout : s.2.2 = []) (K : Int) (hK : 0 ≤ K) (hK2 : K ≤ 1000000) (hv1 : VBd K s.1) (hv2 : VBd K s.2.1)
    (p : Pl) (hp : PlOk ts p) (hpn : p.n = n) :
    Calls Tryz.prog 78 #[.agg (tbc A n c ms ml), plv p] w fun e w' => ∃ v, e = .returned v ∧
      w'.ownsRow w.heap.size 64 6 v (condL p s (beforeF ts p)).2.2.length (flat (condL p s (beforeF ts p)).2.2) ∧ MapAt Int encI w' ms (condL p s (beforeF ts p)).1 ∧ MapAt Int encI w' ml (condL p s (beforeF ts p)).2.1 ∧
      BelowBut w.heap.size (fun k => k = ms ∨ k = ml) w w' := by
  obtain ⟨i0, hi, hz0, hz1, hz2⟩ := info_parts infoPl
  have hb0 : Below w.heap.size w (((w.alloc (.cells (tbc A n c ms ml) 60)).alloc (.cells (plc p) 64)).alloc (.cells #[.slice none 0 0] 108)) :=
    (((Below.refl _ w).alloc (Nat.le_refl _) _).alloc (by simp) _).alloc (by simp; omega) _
  have x0 := ((TbAt.new w A n c ms ml).alloc (.cells (plc p) 64)).alloc (.cells #[.slice none 0 0] 108)
  have x1 := (PlAt.new (w.alloc (.cells (tbc A n c ms ml) 60)) p).alloc (.cells #[.slice none 0 0] 108)
  have x2 := Boxed.new ((w.alloc (.cells (tbc A n c ms ml) 60)).alloc (.cells (plc p) 64)) 108 (.slice none 0 0)
  simp only [World.size_alloc, Nat.add_assoc, Nat.reduceAdd] at x1 x2
  have hmsz := hms.lt
  have hmlz := hml.lt
  have Hh := Lib.hid (And.intro hpn (And.intro hout (And.intro hv1 (And.intro hv2 (And.intro hK hK2)))))
  clear hpn hout hv1 hv2 hK hK2
  refine (callsIn_wide (n := 3)).1 ?_
  refine callsIn_of_wp_marks Tryz.func78 rfl trivial ?_ rfl
  simp only [Tryz.ntmps78, List.size_toArray, List.length_cons, List.length_nil, Nat.reduceAdd, Nat.reduceSub, Array.replicate_succ, Array.replicate_zero, List.push_toArray, List.append_toArray, List.nil_append, List.cons_append]
  obtain ⟨t0, t1, t2⟩ := x0.cells
  obtain ⟨c0, c1, c2, c3, c4, c5⟩ := x1.cells
  gi_wp2_with (fail)
  refine ⟨trivial, ?_⟩
  refine (callsIn_wide.2 (before_box _ _ _ _ _)).mono ?_
  rintro e w2 ⟨Bh, Bp, rfl, hBh, hBp, hgh, hgp, hb2⟩
  have hB2 : Below w.heap.size w w2 := hb0.trans (hb2.mono hb0.size)
  have y0 := x0.below hb2 x0.lt
  have y1 := x1.below hb2 x1.lt
  have y2 := bxBelow x2 hb2 x2.lt
  have hz := y2.lt
  have ms2 := hms.below hB2 hms.lt
  have ml2 := hml.below hB2 hml.lt
  clear hb2 hb0 x0 x1 x2 t0 t1 t2 c0 c1 c2 c3 c4 c5
  gi_wp2_with (fail)
  refine range_pl (P := Tryz.prog) (gf := 110) rfl (enters_of Tryz.func110 (by kernel_rfl) rfl) (encs := fun x => #[plv x]) id (n₀ := B) (w0 := w2)
    (before1_any w2 Bh Bp B A n c ts p hBh hBp (by omega) (hx.below hB2 (by omega)) h5 h12 hp Hh.out.1) (Below.refl _ _) (by rintro k (rfl | rfl); exact hBh.lt; exact hBp.lt) (by omega) (fun _ => rfl)
    (fun pre X W => ∃ v, ((∀ k, X k → w2.heap.size ≤ k) ∧ w2.heap.size ≤ W.heap.size ∧ (∀ g, v.ownBlock = some g → ¬ X g ∧ ¬ ((g = Bh ∨ g = Bp) ∨ (g = w.heap.size ∨ g = w.heap.size + 1)))) ∧ (TbAt W w.heap.size A n c ms ml ∧ PlAt W (w.heap.size + 1) p) ∧
      (MapAt Int encI W ms (condL p s pre).1 ∧ MapAt Int encI W ml (condL p s pre).2.1 ∧ VBd (K + pre.length) (condL p s pre).1 ∧ VBd (K + pre.length) (condL p s pre).2.1) ∧ Boxed W (w.heap.size + 2) 108 v ∧
      W.ownsRow w.heap.size 64 6 v (condL p s pre).2.2.length (flat (condL p s pre).2.2) ∧ BelowBut w.heap.size (fun k => k = ms ∨ k = ml) w W)
    (fun _ _ _ _ => False)
    ?hI (fun _ _ _ _ _ _ h => h.elim) ?h0 ?a1 ?assign ?body ?done ?stop
  case assign =>
    intro l x W b K hb hK
    gi_wp2
    rw [← hb]
    exact hK
  case hI =>
    rintro pre X X' W W' ⟨v, ⟨hX, hWz, hv⟩, ⟨z0, z1⟩, ⟨zs, zl, b1, b2⟩, z2, hrow, hB⟩ hst hgr
    exact ⟨v, ⟨fun k h => (hgr.2 k h).elim (hX k) (fun h => by omega), Nat.le_trans hWz hst.base.size, fun g hg => ⟨hgr.not (hv g hg).1 (hrow.lt g hg).2, (hv g hg).2⟩⟩,
      ⟨hst.tb z0 (fun h => by have := hX _ h; omega), hst.pl z1 (fun h => by have := hX _ h; omega)⟩, ⟨hst.mp zs (fun h => by have := hX _ h; omega) (by omega), hst.mp zl (fun h => by have := hX _ h; omega) (by omega), b1, b2⟩,
      hst.bx z2 (fun h => by have := hX _ h; omega), hst.row hrow (fun g hg => (hv g hg).1),
      hB.trans (hst.but (fun k h => by have := hX k h; omega) (by omega) hB.base.size)⟩
  case h0 =>
    exact ⟨_, ⟨fun _ h => h.elim, Nat.le_refl _, fun g h => by simp [Value.ownBlock] at h⟩, ⟨y0, y1⟩, ⟨ms2, ml2, by simpa [condL] using Hh.out.2.2.1, by simpa [condL] using Hh.out.2.2.2.1⟩, y2, by simp only [condL, List.foldl_nil, Hh.out.2.1]; exact World.ownsRow_nil _ _ _ _, BelowBut.of hB2⟩
  case body =>
    rintro l pre x X b W ⟨v, ⟨hX, -, hv⟩, ⟨z0, z1⟩, ⟨zs, zl, b1, b2⟩, z2, hrow, hBW⟩ zb hbz hWz hXz hlen
    have zb : PlAt W b x := zb
    obtain ⟨t0, t1, t2⟩ := z0.cells
    obtain ⟨c0, c1, c2, c3, c4, c5⟩ := zb.cells
    have zsd : MapAt Int encI W.drew ms (condL p s pre).1 := ⟨zs.ex⟩
    obtain ⟨e1, st, m', ho1, hme, zs1, hmg, hes⟩ := entry_any (W := W.drew) zsd 58 3 Tryz.underlying58 0 zeroInt x
    obtain ⟨o2, ho2, hes2, zs2⟩ := hes (mget 0 (condL p s pre).1 x - 1)
    have hl1 := lookup_i (W := W.drew) zsd x
    have hl2 := lookup_i zs1 x
    rw [hmg] at hl2
    have hbx := VBd.mget (by have := Hh.out.2.2.2.2.1; omega) x b1
    have hbp := VBd.mget (by have := Hh.out.2.2.2.2.1; omega) p b2
    have hlen5 : pre.length < 60 := by omega
    have hsm := hmg
    have Hb := Lib.hid (And.intro b1 (And.intro b2 (And.intro hsm (And.intro hx (And.intro h12 hv)))))
    have hK2 := Hh.out.2.2.2.2.2
    obtain ⟨y, hy⟩ : ∃ y, y = mget 0 (condL p s pre).1 x := ⟨_, rfl⟩
    rw [← hy] at hme hl1 hl2 hes2 zs2 hbx
    have hy1 : -2000000 ≤ y ∧ y ≤ 2000000 := by omega
    have hwr : IntKind.i64.wrap (y - 1) = y - 1 := by rw [IntKind.wrap_i64]; omega
    have Hy := Lib.hid hy
    clear hy hbx hmg hsm b1 b2 hK2 hv h12 hx hes hlen5
    gi_wp2_with (fail)
    have hM4 : MapsOnly ms ml W ((W.drew.putObj ms e1).putObj ms o2) := (((MapsOnly.refl W).drew).put (.inl rfl) _).put (.inl rfl) _
    have z04 : TbAt ((W.drew.putObj ms e1).putObj ms o2) w.heap.size A n c ms ml := (hM4.same _ (by omega) (by omega)).trans z0
    have z14 : PlAt ((W.drew.putObj ms e1).putObj ms o2) (w.heap.size + 1) p := (hM4.same _ (by omega) (by omega)).trans z1
    have z24 : Boxed ((W.drew.putObj ms e1).putObj ms o2) (w.heap.size + 2) 108 v := (hM4.same _ (by omega) (by omega)).trans z2
    have zb4 : PlAt ((W.drew.putObj ms e1).putObj ms o2) b x := (hM4.same _ (by omega) (by omega)).trans zb
    have zl4 : MapAt Int encI ((W.drew.putObj ms e1).putObj ms o2) ml (condL p s pre).2.1 := ((mapDrew zl).putOther (Ne.symm hne) _).putOther (Ne.symm hne) _
    have hr4 := hM4.row hrow hmsz hmlz
    have hl4 := lookup_i zs2 x
    rw [mget_mset, if_pos rfl] at hl4
    gi_region
    all_goals
      generalize (W.drew.putObj ms e1).putObj ms o2 = W4 at *
      clear t0 t1 t2 c0 c1 c2 c3 c4 c5 hl1 hl2 hes2 hme zs1 zsd
      obtain ⟨t0, t1, t2⟩ := z04.cells
      obtain ⟨c0, c1, c2, c3, c4, c5⟩ := zb4.cells
      have hCm : ¬ (((ms = Bh ∨ ms = Bp) ∨ (ms = w.heap.size ∨ ms = w.heap.size + 1))) := by simp at hgh hgp; omega
      have hCl : ¬ (((ml = Bh ∨ ml = Bp) ∨ (ml = w.heap.size ∨ ml = w.heap.size + 1))) := by simp at hgh hgp; omega
      have hXm : ¬ X ms ∧ ¬ X ml := ⟨fun h => by have := hX _ h; omega, fun h => by have := hX _ h; omega⟩
      by_cases h0 : y - 1 = 0
      · have h0b : (y - 1 == 0) = true := by simp [h0]
        have hcs := condStep_zero (p := p) (x := x) Hy.out h0
        have hsn := condL_snoc p s pre x
        rw [hcs] at hsn
        have Hsn := Lib.hid hsn
        have H0 := Lib.hid h0
        clear h0 hcs hsn
        obtain ⟨o3, ho3, hdel, zs5⟩ := delete_pl zs2 58 3 0 Tryz.underlying58 64 x
        have hM5 := hM4.put (.inl rfl) o3
        have z05 : TbAt (W4.putObj ms o3) w.heap.size A n c ms ml := (hM5.same _ (by omega) (by omega)).trans z0
        have z15 : PlAt (W4.putObj ms o3) (w.heap.size + 1) p := (hM5.same _ (by omega) (by omega)).trans z1
        have z25 : Boxed (W4.putObj ms o3) (w.heap.size + 2) 108 v := (hM5.same _ (by omega) (by omega)).trans z2
        have zb5 : PlAt (W4.putObj ms o3) b x := (hM5.same _ (by omega) (by omega)).trans zb
        have zl5 : MapAt Int encI (W4.putObj ms o3) ml (condL p s pre).2.1 := zl4.putOther (Ne.symm hne) _
        have hl5 := lookup_i (mapDrew zl5) p
        obtain ⟨yp, hyp⟩ : ∃ yp, yp = mget 0 (condL p s pre).2.1 p := ⟨_, rfl⟩
        rw [← hyp] at hl5 hbp Hsn
        have hwr2 : IntKind.i64.wrap (yp + 1) = yp + 1 := by rw [IntKind.wrap_i64]; have := Hh.out.2.2.2.2; omega
        obtain ⟨o4, ho4, hup, zl6⟩ := update_pl (mapDrew zl5) 58 3 Tryz.underlying58 x (yp + 1)
        have hM6 := hM5.drew.put (.inr rfl) o4
        have z06 : TbAt ((W4.putObj ms o3).drew.putObj ml o4) w.heap.size A n c ms ml := (hM6.same _ (by omega) (by omega)).trans z0
        have z16 : PlAt ((W4.putObj ms o3).drew.putObj ml o4) (w.heap.size + 1) p := (hM6.same _ (by omega) (by omega)).trans z1
        have z26 : Boxed ((W4.putObj ms o3).drew.putObj ml o4) (w.heap.size + 2) 108 v := (hM6.same _ (by omega) (by omega)).trans z2
        have zb6 : PlAt ((W4.putObj ms o3).drew.putObj ml o4) b x := (hM6.same _ (by omega) (by omega)).trans zb
        have hr6 := hM6.row hrow hmsz hmlz
        have zs6 : MapAt Int encI ((W4.putObj ms o3).drew.putObj ml o4) ms (mdel x (mset x (y - 1) (condL p s pre).1)) := (mapDrew zs5).putOther hne _
        have Hyp := Lib.hid (And.intro hyp hbp)
        clear hyp hbp
        obtain ⟨q0, q1, q2⟩ := z05.cells
        obtain ⟨d0, d1, d2, d3, d4, d5⟩ := zb5.cells
        obtain ⟨r0, r1, r2, r3, r4, r5⟩ := z15.cells
        have g26 := z26.cell
        obtain ⟨j0, j1, j2, j3, j4, j5⟩ := zb6.cells
        have hol := condL_len p pre s
        rw [Hh.out.2.1] at hol
        have hol2 : (condL p s pre).2.2.length < 60 := by simp at hol; omega
        clear hol
        have hz6 := hM6.size
        have hcn := cells_new ((W4.putObj ms o3).drew.putObj ml o4) (plc x) 64
        rw [hz6] at hcn
        have Hcn := Lib.hid hcn
        clear hcn
        have hwz : w.heap.size ≤ W.heap.size := by omega
        have HW4z := Lib.hid hM4.size
        gi_wp2_with (fail)
        refine wpIn_region_still_tail 8 (by kernel_rfl) (by kernel_rfl) (by kernel_rfl) ?_
        simp only [List.take_succ_cons, List.take_zero, List.drop_succ_cons, List.drop_zero]
        repeat still_step
        try refine wpStill_nil ?_
        gi_wp2_with (gi_at_builtin; refine wpListIn_append_own_at _ rfl _ _ 108 rfl w.heap.size 64 i0 (plv ⟨0, 0, 0, 0, 0, 0⟩) 6 48 Tryz.underlying108 hi hz0 hz1 hz2 rfl (by decide) v _ _ rfl (hr6.alloc _) ⟨W.heap.size, 0, none⟩ 1 1 (plc x).toList rfl rfl Hcn.out (by simp [Value.oneCell']) (by simp only [maxLen]; omega) (by omega) (by have := HW4z.out; simp; omega) ?_; intro v' w1 hown' hgrow _ hat; obtain ⟨g', cap', rfl⟩ := ownsRow_succ hown'; obtain ⟨hv1, hv2, hr2, hk2, hb2⟩ := z26.appended (by decide) hr6 (by omega) (by omega) hown' hgrow; have hc1 := hv1.cell; have hf1 := hv1.frozen)
        obtain ⟨hkeep, hv'⟩ := row_appended (X := X) (C := fun k => (k = Bh ∨ k = Bp) ∨ (k = w.heap.size ∨ k = w.heap.size + 1)) (b := w.heap.size + 2) hr6 (by omega) (by omega) hgrow hat (fun h => by have := hX _ h; omega) (fun h => by simp at hgh hgp; omega) Hb.out.2.2.2.2.2
          (fun k h => by have := (hXz k h).2; omega) (by rintro k ((rfl | rfl) | (rfl | rfl)); have := hBh.lt; omega; have := hBp.lt; omega; have := z0.lt; omega; have := z1.lt; omega)
        have hkeepB : Keep B (fun k => k = Bh ∨ k = Bp) X _ _ := ⟨(hkeep.below.mono (by omega)), fun k o hk hc => hkeep.same k o hk (hc.imp id (fun h => .inl h))⟩
        refine ⟨(hM6.from (by omega) (by omega)).trans (hk2.from _), (hM6.keep hBs hBl hXm ⟨fun h => hCm (.inl h), fun h => hCl (.inl h)⟩).trans hkeepB, ⟨_, ⟨hX, ?_, fun g hg => ⟨(hv' g hg).1, by have h := (hv' g hg).2; omega⟩⟩, ⟨hkeep.same _ _ z06 (.inr (.inr (.inl rfl))), hkeep.same _ _ z16 (.inr (.inr (.inr rfl)))⟩, ⟨?_, ?_, ?_, ?_⟩, hv2, ?_, hBW.trans ((hM6.but _).trans (BelowBut.of hb2))⟩⟩
        · have := hkeep.below.size
          exact Nat.le_trans (Nat.le_trans hWz (Nat.le_of_eq hz6.symm)) this
        · rw [Hsn.out]; exact zs6.below hkeep.below hmsz
        · rw [Hsn.out]; exact zl6.below hkeep.below hmlz
        · rw [Hsn.out]
          refine VBd.mdel x (VBd.mset ?_ x (Hb.out.1.mono (by simp; omega)))
          have := VBd.mget (by have := Hh.out.2.2.2.2.1; omega) x Hb.out.1
          rw [← Hy.out] at this
          simp
          omega
        · rw [Hsn.out]
          refine VBd.mset ?_ x (Hb.out.2.1.mono (by simp; omega))
          have := Hyp.out.2
          simp
          omega
        · rw [Hsn.out]
          simp only [flat_snoc, List.length_append, List.length_cons, List.length_nil]
          exact hr2
      · have h0b : (y - 1 == 0) = false := by simp [h0]
        have hcs := condStep_go (p := p) (x := x) Hy.out h0
        have hsn := condL_snoc p s pre x
        rw [hcs] at hsn
        have Hsn := Lib.hid hsn
        have H0 := Lib.hid h0
        clear h0 hcs hsn
        gi_wp2_with (fail)
        refine ⟨hM4.from (by omega) (by omega), hM4.keep hBs hBl hXm ⟨fun h => hCm (.inl h), fun h => hCl (.inl h)⟩, ⟨v, ⟨hX, by have := hM4.size; omega, Hb.out.2.2.2.2.2⟩, ⟨z04, z14⟩, ⟨?_, ?_, ?_, ?_⟩, z24, ?_, hBW.trans (hM4.but _)⟩⟩
        · rw [Hsn.out]; exact zs2
        · rw [Hsn.out]; exact zl4
        · rw [Hsn.out]
          refine VBd.mset ?_ x (Hb.out.1.mono (by simp; omega))
          have := VBd.mget (by have := Hh.out.2.2.2.2.1; omega) x Hb.out.1
          rw [← Hy.out] at this
          simp
          omega
        · rw [Hsn.out]
          exact Hb.out.2.1.mono (by simp; omega)
        · rw [Hsn.out]; exact hr4
  case done =>
    rintro D xs X W hD hS ⟨v, ⟨hX, hWz, hv⟩, ⟨z0, z1⟩, ⟨zs, zl, b1, b2⟩, z2, hrow, hBW⟩ hK
    have hc := z2.cell
    gi_wp2
    refine ⟨by simp, .inl ⟨_, _, rfl, run_takeDeferred hK, ?_⟩⟩
    subst hS
    exact ⟨_, results_tmp rfl _ _ _, v, rfl, ownsRow_putObj hrow _ hK rfl, zs.putOther (by omega) _, zl.putOther (by omega) _, hBW.trans (BelowBut.put _ (.inr (by omega)))⟩
  case stop => exact fun _ _ _ _ _ _ _ h => h.elim
end Go.Proofs.YthjgecblkagelaaGreat
