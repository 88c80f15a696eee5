/- lag: best of cuts. -/
import Derived.Test.YtjidllaaokdjhaaLD
namespace Go.Proofs.Ytjidllaaokdjhaa
open Go.RowKit Go.Shelf

attribute [local go_sem] Oper.semAt_some

/-! ### who stays -/
section
variable {B n₀ : Nat} {C X X' : Nat → Prop} {W W' : World}
theorem Grows.not (h : Grows X X' W) {k : Nat} (hX : ¬ X k) (hk : k < W.heap.size) : ¬ X' k := fun h' => (h.2 k h').elim hX (fun h => by omega)
theorem St.bx (h : St B X W W') {b : Nat} {t : TypeId} {v : Value} (hb : Boxed W b t v) (hX : ¬ X b) : Boxed W' b t v := h.same _ _ hb hX (.inl rfl)
end
theorem St.below {B n₀ : Nat} {X : Nat → Prop} {W W' : World} (h : St B X W W') (hX : ∀ k, X k → n₀ ≤ k) (hB : n₀ ≤ B) (hn : n₀ ≤ W.heap.size) : Below n₀ W W' := by
  refine ⟨h.base.os, h.base.tape, h.base.output, h.base.size, fun k hk => ?_⟩
  obtain ⟨o, ho⟩ : ∃ o, W.heap[k]? = some o := ⟨_, Array.getElem?_eq_getElem (by omega)⟩
  rw [ho]
  exact h.same k o ho (fun hx => by have := hX k hx; omega) (.inr (by omega))

/-- The best one so far. -/
def bestStep {α V : Type} (f : α → V) (better : V → V → Bool) (o : Option V) (x : α) : Option V := match o with
  | none => some (f x)
  | some b => if better (f x) b then some (f x) else some b
def bestO {α V : Type} (f : α → V) (better : V → V → Bool) (l : List α) : Option V := l.foldl (bestStep f better) none
theorem bestO_snoc {α V : Type} (f : α → V) (better : V → V → Bool) (l : List α) (x : α) : bestO f better (l ++ [x]) = bestStep f better (bestO f better l) x := by simp [bestO]
theorem bestO_nil {α V : Type} (f : α → V) (better : V → V → Bool) : bestO f better ([] : List α) = none := rfl

/-- A function value that computes f on the elements, as long as the world below stands. -/
def ValFn {α β : Type} (w0 : World) (g : Nat) (pre post : Array Value) (enc : α → Value) (encV : β → Value) (f : α → β) : Prop :=
  (∀ args w, (callFunc g args).run Try.prog w = .ok (.enter g args) w) ∧
  ∀ (W : World) (x : α), Below w0.heap.size w0 W → Calls Try.prog g (pre ++ #[enc x] ++ post) W fun e W' => e = .returned (encV (f x)) ∧ Below W.heap.size W W'
def BetFn {β : Type} (g : Nat) (encV : β → Value) (better : β → β → Bool) : Prop :=
  (∀ args w, (callFunc g args).run Try.prog w = .ok (.enter g args) w) ∧
  ∀ (W : World) (a b : β), Calls Try.prog g #[encV a, encV b] W fun e W' => e = .returned (.bool (better a b)) ∧ Below W.heap.size W W'
def ltI (a b : Int) : Bool := decide (a < b)
def gtI (a b : Int) : Bool := decide (a > b)
def encI (x : Int) : Value := .int .i64 x
theorem less_any (W : World) (a b : Int) : Calls Try.prog 97 #[encI a, encI b] W fun e W' => e = .returned (.bool (ltI a b)) ∧ Below W.heap.size W W' := by
  unfold encI
  go_enter Try.func97, Try.ntmps97
  go_wp2
  go_ret
  exact ⟨rfl, Below.refl _ _⟩
theorem greater_any (W : World) (a b : Int) : Calls Try.prog 81 #[encI a, encI b] W fun e W' => e = .returned (.bool (gtI a b)) ∧ Below W.heap.size W W' := by
  unfold encI
  go_enter Try.func81, Try.ntmps81
  go_wp2
  go_ret
  exact ⟨rfl, Below.refl _ _⟩
theorem less_fn : BetFn 97 encI ltI := ⟨enters_of Try.func97 (by kernel_rfl) rfl, less_any⟩
theorem greater_fn : BetFn 81 encI gtI := ⟨enters_of Try.func81 (by kernel_rfl) rfl, greater_any⟩

def cutV (x : Int × Int) : Value := .agg #[.int .i64 x.1, .int .i64 x.2]
abbrev CutAt (W : World) (b : Nat) (x : Int × Int) : Prop := W.heap[b]? = some (.cells #[.int .i64 x.1, .int .i64 x.2] 122 (0, 0))
theorem CutAt.cells {W : World} {b : Nat} {x : Int × Int} (h : CutAt W b x) : W.cell? ⟨b, 0, none⟩ = some (.int .i64 x.1) ∧ W.cell? ⟨b, 1, none⟩ = some (.int .i64 x.2) := by
  simp [World.cell?, h]
theorem CutAt.lt {W : World} {b : Nat} {x : Int × Int} (h : CutAt W b x) : b < W.heap.size := (Array.getElem?_eq_some_iff.1 h).1
theorem CutAt.new (W : World) (x : Int × Int) : CutAt (W.alloc (.cells #[.int .i64 x.1, .int .i64 x.2] 122)) W.heap.size x := World.alloc_heap_new _ _
theorem CutAt.below {W W' : World} {b D : Nat} {x : Int × Int} (h : CutAt W b x) (hb : Below D W W') (hD : b < D) : CutAt W' b x := (hb.block b hD).trans h
def bestV (o : Option Int) : Value := .int .i64 (o.getD 0)

theorem bestV_some {α : Type} {f : α → Int} {better : Int → Int → Bool} {x : α} {fx : Int} (h : fx = f x) : (.int .i64 fx : Value) = bestV (bestStep f better none x) := by rw [h]; rfl
theorem bxOther {W : World} {b b' : Nat} {t : TypeId} {v : Value} (h : Boxed W b' t v) (hne : b' ≠ b) (o : Nat) (u : Value) : Boxed (W.setCell ⟨b, o, none⟩ u) b' t v := (Below.heap_setCell W ⟨b, o, none⟩ u b' hne).trans h
def bestAct (s gf : Nat) (lb : Array Value) (vf bf : Nat) (pre post : Array Value) (x y : Value) : Act :=
  { tmps := #[.func (.func gf) #[] lb, .func (.func vf) pre post, .func (.func bf) #[] #[], undef, .pointer (some ⟨s, 0, none⟩), .pointer (some ⟨s + 1, 0, none⟩), .int .i64 0, .pointer (some ⟨s + 1 + 1, 0, none⟩), .pointer (some ⟨s + 1 + 1 + 1, 0, none⟩), y, undef, .func (.func gf) #[] lb, x, undef, undef, undef, undef, undef, undef, undef, undef, undef, undef, undef, undef], defers := [] }
set_option maxRecDepth 100000 in
set_option maxHeartbeats 8000000 in
theorem bestCut_any {α : Type} (w : World) (gf : Nat) (lb : Array Value) (cut : α → Int × Int) (C : Nat → Prop) (L : List α) (Sp : List α → Prop) (N : Nat) (vf bf : Nat) (pre post : Array Value) (f : α → Int) (better : Int → Int → Bool)
    (eg : ∀ args w, (callFunc gf args).run Try.prog w = .ok (.enter gf args) w)
    (hit : IterAt Try.prog gf lb (fun x => #[cutV (cut x)]) w.heap.size C (fun xs => xs = L) Sp N w) (hC : ∀ k, C k → k < w.heap.size)
    (hval : ValFn w vf pre post (fun x => cutV (cut x)) encI f) (hbet : BetFn bf encI better) :
    Calls Try.prog 94 #[.func (.func gf) #[] lb, .func (.func vf) pre post, .func (.func bf) #[] #[]] w fun e w' => e = .returned (bestV (bestO f better L)) ∧ Below w.heap.size w w' := by
  obtain ⟨v1, v2⟩ := hval
  obtain ⟨b1, b2⟩ := hbet
  have Hv2 := Lib.hid v2
  have Hb2 := Lib.hid b2
  clear v2 b2
  obtain ⟨V, hV⟩ : ∃ V, V = (((w.alloc (.cells #[.func (.func vf) pre post] 126)).alloc (.cells #[.func (.func bf) #[] #[]] 104)).alloc (.cells #[.int .i64 0] 2)).alloc (.cells #[.bool true] 4) := ⟨_, rfl⟩
  have hb0 : Below w.heap.size w V := by rw [hV]; exact ((((Below.refl _ w).alloc (Nat.le_refl _) _).alloc (by simp) _).alloc (by simp; omega) _).alloc (by simp; omega) _
  have hzV : V.heap.size = w.heap.size + 4 := by rw [hV]; simp
  have x4 : Boxed V w.heap.size 126 (.func (.func vf) pre post) := by
    rw [hV]; exact (((Boxed.new w 126 (.func (.func vf) pre post)).alloc _).alloc _).alloc _
  have x5 : Boxed V (w.heap.size + 1) 104 (.func (.func bf) #[] #[]) := by
    rw [hV]
    have := ((Boxed.new (w.alloc (.cells #[.func (.func vf) pre post] 126)) 104 (.func (.func bf) #[] #[])).alloc (.cells #[.int .i64 0] 2)).alloc (.cells #[.bool true] 4)
    simpa using this
  have x7 : Boxed V (w.heap.size + 1 + 1) 2 (bestV (bestO f better ([] : List α))) := by
    rw [hV]
    have := (Boxed.new ((w.alloc (.cells #[.func (.func vf) pre post] 126)).alloc (.cells #[.func (.func bf) #[] #[]] 104)) 2 (.int .i64 0)).alloc (.cells #[.bool true] 4)
    have e : bestV (bestO f better ([] : List α)) = .int .i64 0 := rfl
    rw [e]
    simpa using this
  have x8 : Boxed V (w.heap.size + 1 + 1 + 1) 4 (.bool (bestO f better ([] : List α)).isNone) := by
    rw [hV]
    have := Boxed.new (((w.alloc (.cells #[.func (.func vf) pre post] 126)).alloc (.cells #[.func (.func bf) #[] #[]] 104)).alloc (.cells #[.int .i64 0] 2)) 4 (.bool true)
    have e : (bestO f better ([] : List α)).isNone = true := rfl
    rw [e]
    simpa using this
  refine (callsIn_wide (n := 3)).1 ?_
  refine callsIn_of_wp_marks Try.func94 rfl trivial ?_ rfl
  simp only [Try.ntmps94, List.size_toArray, List.length_cons, List.length_nil, Nat.reduceAdd, Nat.reduceSub, Array.replicate_succ, Array.replicate_zero, List.push_toArray, List.append_toArray, List.nil_append, List.cons_append]
  gi_wp2_with (fail)
  rw [← hV]
  clear hV
  refine range_iter (P := Try.prog) (gf := gf) rfl eg (encs := fun x => #[cutV (cut x)]) (n₀ := w.heap.size) (w0 := w) hit hb0 (fun k hk => by have := hC k hk; omega) (by omega) (fun _ => rfl)
    (fun l X W => ((∀ k, X k → V.heap.size ≤ k) ∧ V.heap.size ≤ W.heap.size) ∧ Boxed W w.heap.size 126 (.func (.func vf) pre post) ∧ Boxed W (w.heap.size + 1) 104 (.func (.func bf) #[] #[]) ∧ Boxed W (w.heap.size + 1 + 1) 2 (bestV (bestO f better l)) ∧ Boxed W (w.heap.size + 1 + 1 + 1) 4 (.bool (bestO f better l).isNone) ∧ Below w.heap.size w W)
    (fun _ _ _ _ => False) ?hI (fun _ _ _ _ _ _ h => h.elim) ?h0
    (fun x a' W => ∃ b, a' = bestAct w.heap.size gf lb vf bf pre post (cutV (cut x)) (.pointer (some ⟨b, 0, none⟩)) ∧ CutAt W b (cut x) ∧ V.heap.size ≤ b) ?hAx ?assign ?body ?done ?stop
  case hI =>
    rintro l X X' W W' ⟨⟨hX, hz⟩, y4, y5, y7, y8, hB⟩ hst hgr
    have hno : ∀ k, k < V.heap.size → ¬ X k := fun k hk h => by have := hX k h; omega
    exact ⟨⟨fun k h => (hgr.2 k h).elim (hX k) (fun h => by omega), Nat.le_trans hz hst.base.size⟩, hst.bx y4 (hno _ (by omega)), hst.bx y5 (hno _ (by omega)), hst.bx y7 (hno _ (by omega)), hst.bx y8 (hno _ (by omega)),
      hB.trans (hst.below (fun k h => by have := hX k h; omega) (by omega) hB.size)⟩
  case h0 => exact ⟨⟨fun _ h => h.elim, Nat.le_refl _⟩, x4, x5, x7, x8, hb0⟩
  case hAx =>
    rintro x a' W W' ⟨b, h1, h2, h3⟩ hst
    exact ⟨b, h1, hst.same _ _ h2 (fun h => h) (.inl rfl), h3⟩
  case assign =>
    intro l pr x X W K hi hz hX hK
    have hbb : Below W.heap.size W (W.alloc (.cells #[.int .i64 (cut x).1, .int .i64 (cut x).2] 122)) := (Below.refl _ W).alloc (Nat.le_refl _) _
    obtain ⟨⟨q1, q2⟩, hq⟩ : ∃ q, q = cut x := ⟨_, rfl⟩
    have hcv : cutV (cut x) = .agg #[.int .i64 q1, .int .i64 q2] := by rw [← hq]; rfl
    rw [hcv]
    rw [← hq] at hbb
    gi_wp2
    refine hK _ _ (Keep.of_below hbb (by omega)) (KeepsFrom.of_below hbb) ?_ ⟨W.heap.size, ?_, ?_, hz⟩
    · obtain ⟨⟨hX', hz'⟩, y4, y5, y7, y8, hB⟩ := hi
      exact ⟨⟨hX', Nat.le_trans hz' hbb.size⟩, bxBelow y4 hbb y4.lt, bxBelow y5 hbb y5.lt, bxBelow y7 hbb y7.lt, bxBelow y8 hbb y8.lt, hB.trans (hbb.mono hB.size)⟩
    · rw [hcv]; rfl
    · rw [← hq]; exact CutAt.new W (q1, q2)
  case body =>
    rintro l pr x X a' W ⟨⟨hX, -⟩, y4, y5, y7, y8, hB⟩ ⟨b, rfl, hcx, hbV⟩ hz hXz hlen
    obtain ⟨⟨q1, q2⟩, hq⟩ : ∃ q, q = cut x := ⟨_, rfl⟩
    have hcv : cutV (cut x) = .agg #[.int .i64 q1, .int .i64 q2] := by rw [← hq]; rfl
    have hcall := Hv2.out W x hB
    unfold bestAct
    rw [hcv] at hcall ⊢
    rw [← hq] at hcx
    obtain ⟨k1, k2⟩ := hcx.cells
    simp only at k1 k2
    have e4 := y4.cell
    have e5 := y5.cell
    have Hc := Lib.hid hcall
    have Hq := Lib.hid hq
    clear hcall hcv hq
    have hsn := bestO_snoc f better pr x
    obtain ⟨o, ho⟩ : ∃ o, o = bestO f better pr := ⟨_, rfl⟩
    rw [← ho] at y7 y8 hsn
    have Hsn := Lib.hid hsn
    clear ho hsn
    gi_wp2_with (fail)
    refine ⟨trivial, (CallsIn.inRound l (callsIn_wide.2 Hc.out)).mono ?_⟩
    rintro e W2 ⟨rfl, hb2⟩
    have hB2 := hB.trans (hb2.mono hB.size)
    have z4 := bxBelow y4 hb2 y4.lt
    have z5 := bxBelow y5 hb2 y5.lt
    have z7 := bxBelow y7 hb2 y7.lt
    have z8 := bxBelow y8 hb2 y8.lt
    have g5 := z5.cell
    have hzz := hb2.size
    clear e4 e5 k1 k2 y4 y5 y7 y8 hcx
    obtain ⟨fx, hfx⟩ : ∃ fx, fx = f x := ⟨_, rfl⟩
    rw [← hfx]
    have Hfx := Lib.hid hfx
    clear hfx
    unfold encI
    cases o with
    | none =>
      have g8 := z8.cell
      have f8 := z8.frozen
      have g7 := z7.cell
      have f7 := z7.frozen
      simp only [Option.isNone_none] at g8
      gi_wp2_with (fail)
      refine ⟨by simp, ?_⟩
      gi_wp2_with (fail)
      have hK1 : Keep w.heap.size C X W W2 := Keep.of_below hb2 (by omega)
      have hX7 : ¬ X (w.heap.size + 1 + 1) := fun h => by have := hX _ h; omega
      have hX8 : ¬ X (w.heap.size + 1 + 1 + 1) := fun h => by have := hX _ h; omega
      have hC7 : ¬ C (w.heap.size + 1 + 1) := fun h => by have := hC _ h; omega
      have hC8 : ¬ C (w.heap.size + 1 + 1 + 1) := fun h => by have := hC _ h; omega
      refine ⟨(KeepsFrom.of_below hb2).trans (((KeepsOthers.setCell _ _ _).from _).trans ((KeepsOthers.setCell _ _ _).from _)), (hK1.trans (Keep.setCell (by omega) hX7 hC7 0 _)).trans (Keep.setCell (by omega) hX8 hC8 0 _), ⟨hX, by simp; omega⟩, ?_, ?_, ?_, ?_, ?_⟩
      · exact bxOther (bxOther z4 (by omega) 0 _) (by omega) 0 _
      · exact bxOther (bxOther z5 (by omega) 0 _) (by omega) 0 _
      · rw [Hsn.out, ← bestV_some Hfx.out]
        exact bxOther (z7.set _) (by omega) 0 _
      · rw [Hsn.out]
        exact (bxOther z8 (by omega) 0 _).set _
      · exact (hB2.setCell (p := ⟨w.heap.size + 1 + 1, 0, none⟩) (by show w.heap.size ≤ w.heap.size + 1 + 1; omega) _).setCell (p := ⟨w.heap.size + 1 + 1 + 1, 0, none⟩) (by show w.heap.size ≤ w.heap.size + 1 + 1 + 1; omega) _
    | some b0 =>
      have g8 := z8.cell
      have f8 := z8.frozen
      have g7 := z7.cell
      have f7 := z7.frozen
      simp only [Option.isNone_some] at g8
      have hv0 : bestV (some b0) = .int .i64 b0 := rfl
      rw [hv0] at g7
      have hcall := Hb2.out W2 fx b0
      unfold encI at hcall
      have Hcall := Lib.hid hcall
      clear hcall hv0
      gi_wp2_with (fail)
      refine ⟨trivial, (CallsIn.inRound l (callsIn_wide.2 Hcall.out)).mono ?_⟩
      rintro e W3 ⟨rfl, hb3⟩
      have hb23 := hb2.trans (hb3.mono hzz)
      have hB3 := hB2.trans (hb3.mono hB2.size)
      have u4 := bxBelow z4 hb3 z4.lt
      have u5 := bxBelow z5 hb3 z5.lt
      have u7 := bxBelow z7 hb3 z7.lt
      have u8 := bxBelow z8 hb3 z8.lt
      have g8' := u8.cell
      have f8' := u8.frozen
      have g7' := u7.cell
      have f7' := u7.frozen
      have hz23 := hb3.size
      clear g8 f8 g7 f7 g5 z4 z5 z7 z8
      obtain ⟨r, hr⟩ : ∃ r, r = better fx b0 := ⟨_, rfl⟩
      rw [← hr]
      have Hr := Lib.hid hr
      clear hr
      have hK1 : Keep w.heap.size C X W W3 := Keep.of_below hb23 (by omega)
      cases r with
      | false =>
        gi_wp2_with (fail)
        refine ⟨KeepsFrom.of_below hb23, hK1, ⟨hX, by omega⟩, u4, u5, ?_, ?_, hB3⟩
        · rw [Hsn.out]
          have e : bestStep f better (some b0) x = some b0 := by simp [bestStep, ← Hfx.out, ← Hr.out]
          rw [e]
          exact u7
        · rw [Hsn.out]
          have e : bestStep f better (some b0) x = some b0 := by simp [bestStep, ← Hfx.out, ← Hr.out]
          rw [e]
          exact u8
      | true =>
        gi_wp2_with (fail)
        have hX7 : ¬ X (w.heap.size + 1 + 1) := fun h => by have := hX _ h; omega
        have hX8 : ¬ X (w.heap.size + 1 + 1 + 1) := fun h => by have := hX _ h; omega
        have hC7 : ¬ C (w.heap.size + 1 + 1) := fun h => by have := hC _ h; omega
        have hC8 : ¬ C (w.heap.size + 1 + 1 + 1) := fun h => by have := hC _ h; omega
        have e : bestStep f better (some b0) x = some fx := by simp [bestStep, ← Hfx.out, ← Hr.out]
        refine ⟨(KeepsFrom.of_below hb23).trans (((KeepsOthers.setCell _ _ _).from _).trans ((KeepsOthers.setCell _ _ _).from _)), (hK1.trans (Keep.setCell (by omega) hX7 hC7 0 _)).trans (Keep.setCell (by omega) hX8 hC8 0 _), ⟨hX, by simp; omega⟩, ?_, ?_, ?_, ?_, ?_⟩
        · exact bxOther (bxOther u4 (by omega) 0 _) (by omega) 0 _
        · exact bxOther (bxOther u5 (by omega) 0 _) (by omega) 0 _
        · rw [Hsn.out, e]
          exact bxOther (u7.set _) (by omega) 0 _
        · rw [Hsn.out, e]
          exact (bxOther u8 (by omega) 0 _).set _
        · exact (hB3.setCell (p := ⟨w.heap.size + 1 + 1, 0, none⟩) (by show w.heap.size ≤ w.heap.size + 1 + 1; omega) _).setCell (p := ⟨w.heap.size + 1 + 1 + 1, 0, none⟩) (by show w.heap.size ≤ w.heap.size + 1 + 1 + 1; omega) _
  case done =>
    rintro D xs X W hD hxs ⟨-, y4, y5, y7, y8, hB⟩ hK
    rw [hxs] at y7 y8
    clear hxs
    have e7 := y7.cell
    obtain ⟨r, hr⟩ : ∃ r, r = bestO f better L := ⟨_, rfl⟩
    rw [← hr] at e7
    have Hr := Lib.hid hr
    clear hr
    unfold bestV at e7
    gi_wp2_with (fail)
    refine ⟨by simp, .inl ⟨_, _, rfl, run_takeDeferred hK, ?_⟩⟩
    exact ⟨_, results_tmp rfl _ _ _, by rw [← Hr.out]; rfl, below_put hB hK (by omega)⟩
  case stop => exact fun _ _ _ _ _ _ _ h => h.elim
end Go.Proofs.Ytjidllaaokdjhaa
