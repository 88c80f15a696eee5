/- Parts of a proof: LE LF LG. -/
import Derived.Test.YtlgibckhkdggdaaH1

/- lag: best of cuts. -/
namespace Go.Proofs.Ytlgibckhkdggdaa
open Go.RowKit Go.Shelf

attribute [local go_sem] Oper.semAt_some

/-! ### who stays -/
section
variable {B n₀ : Nat} {C X X' : Nat → Prop} {W W' : World}
theorem Grows.not (h : Grows X X' W) {k : Nat} (hX : ¬ X k) (hk : k < W.heap.size) : ¬ X' k := fun h' => (h.2 k h').elim hX (fun h => by omega)
theorem St.bx (h : St B X W W') {b : Nat} {t : TypeId} {v : Value} (hb : Boxed W b t v) (hX : ¬ X b) : Boxed W' b t v := h.same _ _ hb hX (.inl rfl)
end
theorem St.below {B n₀ : Nat} {X : Nat → Prop} {W W' : World} (h : St B X W W') (hX : ∀ k, X k → n₀ ≤ k) (hB : n₀ ≤ B) (hn : n₀ ≤ W.heap.size) : Below n₀ W W' := by
  refine ⟨h.base.os, h.base.tape, h.base.output, h.base.size, fun k hk => ?_⟩
  obtain ⟨o, ho⟩ : ∃ o, W.heap[k]? = some o := ⟨_, Array.getElem?_eq_getElem (by omega)⟩
  rw [ho]
  exact h.same k o ho (fun hx => by have := hX k hx; omega) (.inr (by omega))

/-- The best one so far. -/
def bestStep {α V : Type} (f : α → V) (better : V → V → Bool) (o : Option V) (x : α) : Option V := match o with
  | none => some (f x)
  | some b => if better (f x) b then some (f x) else some b
def bestO {α V : Type} (f : α → V) (better : V → V → Bool) (l : List α) : Option V := l.foldl (bestStep f better) none
theorem bestO_snoc {α V : Type} (f : α → V) (better : V → V → Bool) (l : List α) (x : α) : bestO f better (l ++ [x]) = bestStep f better (bestO f better l) x := by simp [bestO]
theorem bestO_nil {α V : Type} (f : α → V) (better : V → V → Bool) : bestO f better ([] : List α) = none := rfl

/-- A function value that computes f on the elements, as long as the world below stands. -/
def ValFn {α β : Type} (w0 : World) (g : Nat) (pre post : Array Value) (enc : α → Value) (encV : β → Value) (f : α → β) : Prop :=
  (∀ args w, (callFunc g args).run Try.prog w = .ok (.enter g args) w) ∧
  ∀ (W : World) (x : α), Below w0.heap.size w0 W → Calls Try.prog g (pre ++ #[enc x] ++ post) W fun e W' => e = .returned (encV (f x)) ∧ Below W.heap.size W W'
def BetFn {β : Type} (g : Nat) (encV : β → Value) (better : β → β → Bool) : Prop :=
  (∀ args w, (callFunc g args).run Try.prog w = .ok (.enter g args) w) ∧
  ∀ (W : World) (a b : β), Calls Try.prog g #[encV a, encV b] W fun e W' => e = .returned (.bool (better a b)) ∧ Below W.heap.size W W'
def ltI (a b : Int) : Bool := decide (a < b)
def gtI (a b : Int) : Bool := decide (a > b)
def encI (x : Int) : Value := .int .i64 x
theorem less_any (W : World) (a b : Int) : Calls Try.prog 97 #[encI a, encI b] W fun e W' => e = .returned (.bool (ltI a b)) ∧ Below W.heap.size W W' := by
  unfold encI
  go_enter Try.func97, Try.ntmps97
  go_wp2
  go_ret
  exact ⟨rfl, Below.refl _ _⟩
theorem greater_any (W : World) (a b : Int) : Calls Try.prog 81 #[encI a, encI b] W fun e W' => e = .returned (.bool (gtI a b)) ∧ Below W.heap.size W W' := by
  unfold encI
  go_enter Try.func81, Try.ntmps81
  go_wp2
  go_ret
  exact ⟨rfl, Below.refl _ _⟩
theorem less_fn : BetFn 97 encI ltI := ⟨enters_of Try.func97 (by kernel_rfl) rfl, less_any⟩
theorem greater_fn : BetFn 81 encI gtI := ⟨enters_of Try.func81 (by kernel_rfl) rfl, greater_any⟩

def cutV (x : Int × Int) : Value := .agg #[.int .i64 x.1, .int .i64 x.2]
abbrev CutAt (W : World) (b : Nat) (x : Int × Int) : Prop := W.heap[b]? = some (.cells #[.int .i64 x.1, .int .i64 x.2] 122 (0, 0))
theorem CutAt.cells {W : World} {b : Nat} {x : Int × Int} (h : CutAt W b x) : W.cell? ⟨b, 0, none⟩ = some (.int .i64 x.1) ∧ W.cell? ⟨b, 1, none⟩ = some (.int .i64 x.2) := by
  simp [World.cell?, h]
theorem CutAt.lt {W : World} {b : Nat} {x : Int × Int} (h : CutAt W b x) : b < W.heap.size := (Array.getElem?_eq_some_iff.1 h).1
theorem CutAt.new (W : World) (x : Int × Int) : CutAt (W.alloc (.cells #[.int .i64 x.1, .int .i64 x.2] 122)) W.heap.size x := World.alloc_heap_new _ _
theorem CutAt.below {W W' : World} {b D : Nat} {x : Int × Int} (h : CutAt W b x) (hb : Below D W W') (hD : b < D) : CutAt W' b x := (hb.block b hD).trans h
def bestV (o : Option Int) : Value := .int .i64 (o.getD 0)

theorem bestV_some {α : Type} {f : α → Int} {better : Int → Int → Bool} {x : α} {fx : Int} (h : fx = f x) : (.int .i64 fx : Value) = bestV (bestStep f better none x) := by rw [h]; rfl
theorem bxOther {W : World} {b b' : Nat} {t : TypeId} {v : Value} (h : Boxed W b' t v) (hne : b' ≠ b) (o : Nat) (u : Value) : Boxed (W.setCell ⟨b, o, none⟩ u) b' t v := (Below.heap_setCell W ⟨b, o, none⟩ u b' hne).trans h
def bestAct (s gf : Nat) (lb : Array Value) (vf bf : Nat) (pre post : Array Value) (x y : Value) : Act :=
  { tmps := #[.func (.func gf) #[] lb, .func (.func vf) pre post, .func (.func bf) #[] #[], undef, .pointer (some ⟨s, 0, none⟩), .pointer (some ⟨s + 1, 0, none⟩), .int .i64 0, .pointer (some ⟨s + 1 + 1, 0, none⟩), .pointer (some ⟨s + 1 + 1 + 1, 0, none⟩), y, undef, .func (.func gf) #[] lb, x, undef, undef, undef, undef, undef, undef, undef, undef, undef, undef, undef, undef], defers := [] }
set_option maxRecDepth 100000 in
set_option maxHeartbeats 8000000 in
theorem bestCut_any {α : Type} (w : World) (gf : Nat) (lb : Array Value) (cut : α → Int × Int) (C : Nat → Prop) (L : List α) (Sp : List α → Prop) (N : Nat) (vf bf : Nat) (pre post : Array Value) (f : α → Int) (better : Int → Int → Bool)
    (eg : ∀ args w, (callFunc gf args).run Try.prog w = .ok (.enter gf args) w)
    (hit : IterAt Try.prog gf lb (fun x => #[cutV (cut x)]) w.heap.size C (fun xs => xs = L) Sp N w) (hC : ∀ k, C k → k < w.heap.size)
    (hval : ValFn w vf pre post (fun x => cutV (cut x)) encI f) (hbet : BetFn bf encI better) :
    Calls Try.prog 94 #[.func (.func gf) #[] lb, .func (.func vf) pre post, .func (.func bf) #[] #[]] w fun e w' => e = .returned (bestV (bestO f better L)) ∧ Below w.heap.size w w' := by
  obtain ⟨v1, v2⟩ := hval
  obtain ⟨b1, b2⟩ := hbet
  have Hv2 := Lib.hid v2
  have Hb2 := Lib.hid b2
  clear v2 b2
  obtain ⟨V, hV⟩ : ∃ V, V = (((w.alloc (.cells #[.func (.func vf) pre post] 126)).alloc (.cells #[.func (.func bf) #[] #[]] 104)).alloc (.cells #[.int .i64 0] 2)).alloc (.cells #[.bool true] 4) := ⟨_, rfl⟩
  have hb0 : Below w.heap.size w V := by rw [hV]; exact ((((Below.refl _ w).alloc (Nat.le_refl _) _).alloc (by simp) _).alloc (by simp; omega) _).alloc (by simp; omega) _
  have hzV : V.heap.size = w.heap.size + 4 := by rw [hV]; simp
  have x4 : Boxed V w.heap.size 126 (.func (.func vf) pre post) := by
    rw [hV]; exact (((Boxed.new w 126 (.func (.func vf) pre post)).alloc _).alloc _).alloc _
  have x5 : Boxed V (w.heap.size + 1) 104 (.func (.func bf) #[] #[]) := by
    rw [hV]
    have := ((Boxed.new (w.alloc (.cells #[.func (.func vf) pre post] 126)) 104 (.func (.func bf) #[] #[])).alloc (.cells #[.int .i64 0] 2)).alloc (.cells #[.bool true] 4)
    simpa using this
  have x7 : Boxed V (w.heap.size + 1 + 1) 2 (bestV (bestO f better ([] : List α))) := by
    rw [hV]
    have := (Boxed.new ((w.alloc (.cells #[.func (.func vf) pre post] 126)).alloc (.cells #[.func (.func bf) #[] #[]] 104)) 2 (.int .i64 0)).alloc (.cells #[.bool true] 4)
    have e : bestV (bestO f better ([] : List α)) = .int .i64 0 := rfl
    rw [e]
    simpa using this
  have x8 : Boxed V (w.heap.size + 1 + 1 + 1) 4 (.bool (bestO f better ([] : List α)).isNone) := by
    rw [hV]
    have := Boxed.new (((w.alloc (.cells #[.func (.func vf) pre post] 126)).alloc (.cells #[.func (.func bf) #[] #[]] 104)).alloc (.cells #[.int .i64 0] 2)) 4 (.bool true)
    have e : (bestO f better ([] : List α)).isNone = true := rfl
    rw [e]
    simpa using this
  refine (callsIn_wide (n := 3)).1 ?_
  refine callsIn_of_wp_marks Try.func94 rfl trivial ?_ rfl
  simp only [Try.ntmps94, List.size_toArray, List.length_cons, List.length_nil, Nat.reduceAdd, Nat.reduceSub, Array.replicate_succ, Array.replicate_zero, List.push_toArray, List.append_toArray, List.nil_append, List.cons_append]
  gi_wp2_with (fail)
  rw [← hV]
  clear hV
  refine range_iter (P := Try.prog) (gf := gf) rfl eg (encs := fun x => #[cutV (cut x)]) (n₀ := w.heap.size) (w0 := w) hit hb0 (fun k hk => by have := hC k hk; omega) (by omega) (fun _ => rfl)
    (fun l X W => ((∀ k, X k → V.heap.size ≤ k) ∧ V.heap.size ≤ W.heap.size) ∧ Boxed W w.heap.size 126 (.func (.func vf) pre post) ∧ Boxed W (w.heap.size + 1) 104 (.func (.func bf) #[] #[]) ∧ Boxed W (w.heap.size + 1 + 1) 2 (bestV (bestO f better l)) ∧ Boxed W (w.heap.size + 1 + 1 + 1) 4 (.bool (bestO f better l).isNone) ∧ Below w.heap.size w W)
    (fun _ _ _ _ => False) ?hI (fun _ _ _ _ _ _ h => h.elim) ?h0
    (fun x a' W => ∃ b, a' = bestAct w.heap.size gf lb vf bf pre post (cutV (cut x)) (.pointer (some ⟨b, 0, none⟩)) ∧ CutAt W b (cut x) ∧ V.heap.size ≤ b) ?hAx ?assign ?body ?done ?stop
  case hI =>
    rintro l X X' W W' ⟨⟨hX, hz⟩, y4, y5, y7, y8, hB⟩ hst hgr
    have hno : ∀ k, k < V.heap.size → ¬ X k := fun k hk h => by have := hX k h; omega
    exact ⟨⟨fun k h => (hgr.2 k h).elim (hX k) (fun h => by omega), Nat.le_trans hz hst.base.size⟩, hst.bx y4 (hno _ (by omega)), hst.bx y5 (hno _ (by omega)), hst.bx y7 (hno _ (by omega)), hst.bx y8 (hno _ (by omega)),
      hB.trans (hst.below (fun k h => by have := hX k h; omega) (by omega) hB.size)⟩
  case h0 => exact ⟨⟨fun _ h => h.elim, Nat.le_refl _⟩, x4, x5, x7, x8, hb0⟩
  case hAx =>
    rintro x a' W W' ⟨b, h1, h2, h3⟩ hst
    exact ⟨b, h1, hst.same _ _ h2 (fun h => h) (.inl rfl), h3⟩
  case assign =>
    intro l pr x X W K hi hz hX hK
    have hbb : Below W.heap.size W (W.alloc (.cells #[.int .i64 (cut x).1, .int .i64 (cut x).2] 122)) := (Below.refl _ W).alloc (Nat.le_refl _) _
    obtain ⟨⟨q1, q2⟩, hq⟩ : ∃ q, q = cut x := ⟨_, rfl⟩
    have hcv : cutV (cut x) = .agg #[.int .i64 q1, .int .i64 q2] := by rw [← hq]; rfl
    rw [hcv]
    rw [← hq] at hbb
    gi_wp2
    refine hK _ _ (Keep.of_below hbb (by omega)) (KeepsFrom.of_below hbb) ?_ ⟨W.heap.size, ?_, ?_, hz⟩
    · obtain ⟨⟨hX', hz'⟩, y4, y5, y7, y8, hB⟩ := hi
      exact ⟨⟨hX', Nat.le_trans hz' hbb.size⟩, bxBelow y4 hbb y4.lt, bxBelow y5 hbb y5.lt, bxBelow y7 hbb y7.lt, bxBelow y8 hbb y8.lt, hB.trans (hbb.mono hB.size)⟩
    · rw [hcv]; rfl
    · rw [← hq]; exact CutAt.new W (q1, q2)
  case body =>
    rintro l pr x X a' W ⟨⟨hX, -⟩, y4, y5, y7, y8, hB⟩ ⟨b, rfl, hcx, hbV⟩ hz hXz hlen
    obtain ⟨⟨q1, q2⟩, hq⟩ : ∃ q, q = cut x := ⟨_, rfl⟩
    have hcv : cutV (cut x) = .agg #[.int .i64 q1, .int .i64 q2] := by rw [← hq]; rfl
    have hcall := Hv2.out W x hB
    unfold bestAct
    rw [hcv] at hcall ⊢
    rw [← hq] at hcx
    obtain ⟨k1, k2⟩ := hcx.cells
    simp only at k1 k2
    have e4 := y4.cell
    have e5 := y5.cell
    have Hc := Lib.hid hcall
    have Hq := Lib.hid hq
    clear hcall hcv hq
    have hsn := bestO_snoc f better pr x
    obtain ⟨o, ho⟩ : ∃ o, o = bestO f better pr := ⟨_, rfl⟩
    rw [← ho] at y7 y8 hsn
    have Hsn := Lib.hid hsn
    clear ho hsn
    gi_wp2_with (fail)
    refine ⟨trivial, (CallsIn.inRound l (callsIn_wide.2 Hc.out)).mono ?_⟩
    rintro e W2 ⟨rfl, hb2⟩
    have hB2 := hB.trans (hb2.mono hB.size)
    have z4 := bxBelow y4 hb2 y4.lt
    have z5 := bxBelow y5 hb2 y5.lt
    have z7 := bxBelow y7 hb2 y7.lt
    have z8 := bxBelow y8 hb2 y8.lt
    have g5 := z5.cell
    have hzz := hb2.size
    clear e4 e5 k1 k2 y4 y5 y7 y8 hcx
    obtain ⟨fx, hfx⟩ : ∃ fx, fx = f x := ⟨_, rfl⟩
    rw [← hfx]
    have Hfx := Lib.hid hfx
    clear hfx
    unfold encI
    cases o with
    | none =>
      have g8 := z8.cell
      have f8 := z8.frozen
      have g7 := z7.cell
      have f7 := z7.frozen
      simp only [Option.isNone_none] at g8
      gi_wp2_with (fail)
      refine ⟨by simp, ?_⟩
      gi_wp2_with (fail)
      have hK1 : Keep w.heap.size C X W W2 := Keep.of_below hb2 (by omega)
      have hX7 : ¬ X (w.heap.size + 1 + 1) := fun h => by have := hX _ h; omega
      have hX8 : ¬ X (w.heap.size + 1 + 1 + 1) := fun h => by have := hX _ h; omega
      have hC7 : ¬ C (w.heap.size + 1 + 1) := fun h => by have := hC _ h; omega
      have hC8 : ¬ C (w.heap.size + 1 + 1 + 1) := fun h => by have := hC _ h; omega
      refine ⟨(KeepsFrom.of_below hb2).trans (((KeepsOthers.setCell _ _ _).from _).trans ((KeepsOthers.setCell _ _ _).from _)), (hK1.trans (Keep.setCell (by omega) hX7 hC7 0 _)).trans (Keep.setCell (by omega) hX8 hC8 0 _), ⟨hX, by simp; omega⟩, ?_, ?_, ?_, ?_, ?_⟩
      · exact bxOther (bxOther z4 (by omega) 0 _) (by omega) 0 _
      · exact bxOther (bxOther z5 (by omega) 0 _) (by omega) 0 _
      · rw [Hsn.out, ← bestV_some Hfx.out]
        exact bxOther (z7.set _) (by omega) 0 _
      · rw [Hsn.out]
        exact (bxOther z8 (by omega) 0 _).set _
      · exact (hB2.setCell (p := ⟨w.heap.size + 1 + 1, 0, none⟩) (by show w.heap.size ≤ w.heap.size + 1 + 1; omega) _).setCell (p := ⟨w.heap.size + 1 + 1 + 1, 0, none⟩) (by show w.heap.size ≤ w.heap.size + 1 + 1 + 1; omega) _
    | some b0 =>
      have g8 := z8.cell
      have f8 := z8.frozen
      have g7 := z7.cell
      have f7 := z7.frozen
      simp only [Option.isNone_some] at g8
      have hv0 : bestV (some b0) = .int .i64 b0 := rfl
      rw [hv0] at g7
      have hcall := Hb2.out W2 fx b0
      unfold encI at hcall
      have Hcall := Lib.hid hcall
      clear hcall hv0
      gi_wp2_with (fail)
      refine ⟨trivial, (CallsIn.inRound l (callsIn_wide.2 Hcall.out)).mono ?_⟩
      rintro e W3 ⟨rfl, hb3⟩
      have hb23 := hb2.trans (hb3.mono hzz)
      have hB3 := hB2.trans (hb3.mono hB2.size)
      have u4 := bxBelow z4 hb3 z4.lt
      have u5 := bxBelow z5 hb3 z5.lt
      have u7 := bxBelow z7 hb3 z7.lt
      have u8 := bxBelow z8 hb3 z8.lt
      have g8' := u8.cell
      have f8' := u8.frozen
      have g7' := u7.cell
      have f7' := u7.frozen
      have hz23 := hb3.size
      clear g8 f8 g7 f7 g5 z4 z5 z7 z8
      obtain ⟨r, hr⟩ : ∃ r, r = better fx b0 := ⟨_, rfl⟩
      rw [← hr]
      have Hr := Lib.hid hr
      clear hr
      have hK1 : Keep w.heap.size C X W W3 := Keep.of_below hb23 (by omega)
      cases r with
      | false =>
        gi_wp2_with (fail)
        refine ⟨KeepsFrom.of_below hb23, hK1, ⟨hX, by omega⟩, u4, u5, ?_, ?_, hB3⟩
        · rw [Hsn.out]
          have e : bestStep f better (some b0) x = some b0 := by simp [bestStep, ← Hfx.out, ← Hr.out]
          rw [e]
          exact u7
        · rw [Hsn.out]
          have e : bestStep f better (some b0) x = some b0 := by simp [bestStep, ← Hfx.out, ← Hr.out]
          rw [e]
          exact u8
      | true =>
        gi_wp2_with (fail)
        have hX7 : ¬ X (w.heap.size + 1 + 1) := fun h => by have := hX _ h; omega
        have hX8 : ¬ X (w.heap.size + 1 + 1 + 1) := fun h => by have := hX _ h; omega
        have hC7 : ¬ C (w.heap.size + 1 + 1) := fun h => by have := hC _ h; omega
        have hC8 : ¬ C (w.heap.size + 1 + 1 + 1) := fun h => by have := hC _ h; omega
        have e : bestStep f better (some b0) x = some fx := by simp [bestStep, ← Hfx.out, ← Hr.out]
        refine ⟨(KeepsFrom.of_below hb23).trans (((KeepsOthers.setCell _ _ _).from _).trans ((KeepsOthers.setCell _ _ _).from _)), (hK1.trans (Keep.setCell (by omega) hX7 hC7 0 _)).trans (Keep.setCell (by omega) hX8 hC8 0 _), ⟨hX, by simp; omega⟩, ?_, ?_, ?_, ?_, ?_⟩
        · exact bxOther (bxOther u4 (by omega) 0 _) (by omega) 0 _
        · exact bxOther (bxOther u5 (by omega) 0 _) (by omega) 0 _
        · rw [Hsn.out, e]
          exact bxOther (u7.set _) (by omega) 0 _
        · rw [Hsn.out, e]
          exact (bxOther u8 (by omega) 0 _).set _
        · exact (hB3.setCell (p := ⟨w.heap.size + 1 + 1, 0, none⟩) (by show w.heap.size ≤ w.heap.size + 1 + 1; omega) _).setCell (p := ⟨w.heap.size + 1 + 1 + 1, 0, none⟩) (by show w.heap.size ≤ w.heap.size + 1 + 1 + 1; omega) _
  case done =>
    rintro D xs X W hD hxs ⟨-, y4, y5, y7, y8, hB⟩ hK
    rw [hxs] at y7 y8
    clear hxs
    have e7 := y7.cell
    obtain ⟨r, hr⟩ : ∃ r, r = bestO f better L := ⟨_, rfl⟩
    rw [← hr] at e7
    have Hr := Lib.hid hr
    clear hr
    unfold bestV at e7
    gi_wp2_with (fail)
    refine ⟨by simp, .inl ⟨_, _, rfl, run_takeDeferred hK, ?_⟩⟩
    exact ⟨_, results_tmp rfl _ _ _, by rw [← Hr.out]; rfl, below_put hB hK (by omega)⟩
  case stop => exact fun _ _ _ _ _ _ _ h => h.elim
end Go.Proofs.Ytlgibckhkdggdaa

/- lag: best of numbers of turns. -/
namespace Go.Proofs.Ytlgibckhkdggdaa
open Go.RowKit Go.Shelf

attribute [local go_sem] Oper.semAt_some

set_option maxRecDepth 100000 in
set_option maxHeartbeats 8000000 in
theorem bestInt_any {α : Type} (w : World) (gf : Nat) (lb : Array Value) (num : α → Int) (C : Nat → Prop) (L : List α) (Sp : List α → Prop) (N : Nat) (vf bf : Nat) (pre post : Array Value) (f : α → Int) (better : Int → Int → Bool)
    (eg : ∀ args w, (callFunc gf args).run Try.prog w = .ok (.enter gf args) w)
    (hit : IterAt Try.prog gf lb (fun x => #[encI (num x)]) w.heap.size C (fun xs => xs = L) Sp N w) (hC : ∀ k, C k → k < w.heap.size)
    (hval : ValFn w vf pre post (fun x => encI (num x)) encI f) (hbet : BetFn bf encI better) :
    Calls Try.prog 80 #[.func (.func gf) #[] lb, .func (.func vf) pre post, .func (.func bf) #[] #[]] w fun e w' => e = .returned (bestV (bestO f better L)) ∧ Below w.heap.size w w' := by
  obtain ⟨v1, v2⟩ := hval
  obtain ⟨b1, b2⟩ := hbet
  have Hv2 := Lib.hid v2
  have Hb2 := Lib.hid b2
  clear v2 b2
  obtain ⟨V, hV⟩ : ∃ V, V = (((w.alloc (.cells #[.func (.func vf) pre post] 99)).alloc (.cells #[.func (.func bf) #[] #[]] 104)).alloc (.cells #[.int .i64 0] 2)).alloc (.cells #[.bool true] 4) := ⟨_, rfl⟩
  have hb0 : Below w.heap.size w V := by rw [hV]; exact ((((Below.refl _ w).alloc (Nat.le_refl _) _).alloc (by simp) _).alloc (by simp; omega) _).alloc (by simp; omega) _
  have hzV : V.heap.size = w.heap.size + 4 := by rw [hV]; simp
  have x4 : Boxed V w.heap.size 99 (.func (.func vf) pre post) := by
    rw [hV]; exact (((Boxed.new w 99 (.func (.func vf) pre post)).alloc _).alloc _).alloc _
  have x5 : Boxed V (w.heap.size + 1) 104 (.func (.func bf) #[] #[]) := by
    rw [hV]
    have := ((Boxed.new (w.alloc (.cells #[.func (.func vf) pre post] 99)) 104 (.func (.func bf) #[] #[])).alloc (.cells #[.int .i64 0] 2)).alloc (.cells #[.bool true] 4)
    simpa using this
  have x7 : Boxed V (w.heap.size + 1 + 1) 2 (bestV (bestO f better ([] : List α))) := by
    rw [hV]
    have := (Boxed.new ((w.alloc (.cells #[.func (.func vf) pre post] 99)).alloc (.cells #[.func (.func bf) #[] #[]] 104)) 2 (.int .i64 0)).alloc (.cells #[.bool true] 4)
    have e : bestV (bestO f better ([] : List α)) = .int .i64 0 := rfl
    rw [e]
    simpa using this
  have x8 : Boxed V (w.heap.size + 1 + 1 + 1) 4 (.bool (bestO f better ([] : List α)).isNone) := by
    rw [hV]
    have := Boxed.new (((w.alloc (.cells #[.func (.func vf) pre post] 99)).alloc (.cells #[.func (.func bf) #[] #[]] 104)).alloc (.cells #[.int .i64 0] 2)) 4 (.bool true)
    have e : (bestO f better ([] : List α)).isNone = true := rfl
    rw [e]
    simpa using this
  refine (callsIn_wide (n := 3)).1 ?_
  refine callsIn_of_wp_marks Try.func80 rfl trivial ?_ rfl
  simp only [Try.ntmps80, List.size_toArray, List.length_cons, List.length_nil, Nat.reduceAdd, Nat.reduceSub, Array.replicate_succ, Array.replicate_zero, List.push_toArray, List.append_toArray, List.nil_append, List.cons_append]
  gi_wp2_with (fail)
  rw [← hV]
  clear hV
  refine range_iter (P := Try.prog) (gf := gf) rfl eg (encs := fun x => #[encI (num x)]) (n₀ := w.heap.size) (w0 := w) hit hb0 (fun k hk => by have := hC k hk; omega) (by omega) (fun _ => rfl)
    (fun l X W => ((∀ k, X k → V.heap.size ≤ k) ∧ V.heap.size ≤ W.heap.size) ∧ Boxed W w.heap.size 99 (.func (.func vf) pre post) ∧ Boxed W (w.heap.size + 1) 104 (.func (.func bf) #[] #[]) ∧ Boxed W (w.heap.size + 1 + 1) 2 (bestV (bestO f better l)) ∧ Boxed W (w.heap.size + 1 + 1 + 1) 4 (.bool (bestO f better l).isNone) ∧ Below w.heap.size w W)
    (fun _ _ _ _ => False) ?hI (fun _ _ _ _ _ _ h => h.elim) ?h0
    (fun x a' _ => a' = bestAct w.heap.size gf lb vf bf pre post (encI (num x)) (encI (num x))) ?hAx ?assign ?body ?done ?stop
  case hI =>
    rintro l X X' W W' ⟨⟨hX, hz⟩, y4, y5, y7, y8, hB⟩ hst hgr
    have hno : ∀ k, k < V.heap.size → ¬ X k := fun k hk h => by have := hX k h; omega
    exact ⟨⟨fun k h => (hgr.2 k h).elim (hX k) (fun h => by omega), Nat.le_trans hz hst.base.size⟩, hst.bx y4 (hno _ (by omega)), hst.bx y5 (hno _ (by omega)), hst.bx y7 (hno _ (by omega)), hst.bx y8 (hno _ (by omega)),
      hB.trans (hst.below (fun k h => by have := hX k h; omega) (by omega) hB.size)⟩
  case h0 => exact ⟨⟨fun _ h => h.elim, Nat.le_refl _⟩, x4, x5, x7, x8, hb0⟩
  case hAx =>
    rintro x a' W W' h1 hst
    exact h1
  case assign =>
    intro l pr x X W K hi hz hX hK
    unfold encI
    gi_wp2
    exact hK _ _ (Keep.refl _) (KeepsFrom.refl _ _) hi rfl
  case body =>
    rintro l pr x X a' W ⟨⟨hX, -⟩, y4, y5, y7, y8, hB⟩ rfl hz hXz hlen
    have hcall := Hv2.out W x hB
    obtain ⟨q, hq⟩ : ∃ q, q = num x := ⟨_, rfl⟩
    unfold bestAct
    rw [← hq] at hcall ⊢
    unfold encI at hcall ⊢
    have e4 := y4.cell
    have e5 := y5.cell
    have Hc := Lib.hid hcall
    have Hq := Lib.hid hq
    clear hcall hq
    have hsn := bestO_snoc f better pr x
    obtain ⟨o, ho⟩ : ∃ o, o = bestO f better pr := ⟨_, rfl⟩
    rw [← ho] at y7 y8 hsn
    have Hsn := Lib.hid hsn
    clear ho hsn
    gi_wp2_with (fail)
    refine ⟨trivial, (CallsIn.inRound l (callsIn_wide.2 Hc.out)).mono ?_⟩
    rintro e W2 ⟨rfl, hb2⟩
    have hB2 := hB.trans (hb2.mono hB.size)
    have z4 := bxBelow y4 hb2 y4.lt
    have z5 := bxBelow y5 hb2 y5.lt
    have z7 := bxBelow y7 hb2 y7.lt
    have z8 := bxBelow y8 hb2 y8.lt
    have g5 := z5.cell
    have hzz := hb2.size
    clear e4 e5 y4 y5 y7 y8
    obtain ⟨fx, hfx⟩ : ∃ fx, fx = f x := ⟨_, rfl⟩
    rw [← hfx]
    have Hfx := Lib.hid hfx
    clear hfx
    cases o with
    | none =>
      have g8 := z8.cell
      have f8 := z8.frozen
      have g7 := z7.cell
      have f7 := z7.frozen
      simp only [Option.isNone_none] at g8
      gi_wp2_with (fail)
      refine ⟨by simp, ?_⟩
      gi_wp2_with (fail)
      have hK1 : Keep w.heap.size C X W W2 := Keep.of_below hb2 (by omega)
      have hX7 : ¬ X (w.heap.size + 1 + 1) := fun h => by have := hX _ h; omega
      have hX8 : ¬ X (w.heap.size + 1 + 1 + 1) := fun h => by have := hX _ h; omega
      have hC7 : ¬ C (w.heap.size + 1 + 1) := fun h => by have := hC _ h; omega
      have hC8 : ¬ C (w.heap.size + 1 + 1 + 1) := fun h => by have := hC _ h; omega
      refine ⟨(KeepsFrom.of_below hb2).trans (((KeepsOthers.setCell _ _ _).from _).trans ((KeepsOthers.setCell _ _ _).from _)), (hK1.trans (Keep.setCell (by omega) hX7 hC7 0 _)).trans (Keep.setCell (by omega) hX8 hC8 0 _), ⟨hX, by simp; omega⟩, ?_, ?_, ?_, ?_, ?_⟩
      · exact bxOther (bxOther z4 (by omega) 0 _) (by omega) 0 _
      · exact bxOther (bxOther z5 (by omega) 0 _) (by omega) 0 _
      · rw [Hsn.out, ← bestV_some Hfx.out]
        exact bxOther (z7.set _) (by omega) 0 _
      · rw [Hsn.out]
        exact (bxOther z8 (by omega) 0 _).set _
      · exact (hB2.setCell (p := ⟨w.heap.size + 1 + 1, 0, none⟩) (by show w.heap.size ≤ w.heap.size + 1 + 1; omega) _).setCell (p := ⟨w.heap.size + 1 + 1 + 1, 0, none⟩) (by show w.heap.size ≤ w.heap.size + 1 + 1 + 1; omega) _
    | some b0 =>
      have g8 := z8.cell
      have f8 := z8.frozen
      have g7 := z7.cell
      have f7 := z7.frozen
      simp only [Option.isNone_some] at g8
      have hv0 : bestV (some b0) = .int .i64 b0 := rfl
      rw [hv0] at g7
      have hcall := Hb2.out W2 fx b0
      unfold encI at hcall
      have Hcall := Lib.hid hcall
      clear hcall hv0
      gi_wp2_with (fail)
      refine ⟨trivial, (CallsIn.inRound l (callsIn_wide.2 Hcall.out)).mono ?_⟩
      rintro e W3 ⟨rfl, hb3⟩
      have hb23 := hb2.trans (hb3.mono hzz)
      have hB3 := hB2.trans (hb3.mono hB2.size)
      have u4 := bxBelow z4 hb3 z4.lt
      have u5 := bxBelow z5 hb3 z5.lt
      have u7 := bxBelow z7 hb3 z7.lt
      have u8 := bxBelow z8 hb3 z8.lt
      have g8' := u8.cell
      have f8' := u8.frozen
      have g7' := u7.cell
      have f7' := u7.frozen
      have hz23 := hb3.size
      clear g8 f8 g7 f7 g5 z4 z5 z7 z8
      obtain ⟨r, hr⟩ : ∃ r, r = better fx b0 := ⟨_, rfl⟩
      rw [← hr]
      have Hr := Lib.hid hr
      clear hr
      have hK1 : Keep w.heap.size C X W W3 := Keep.of_below hb23 (by omega)
      cases r with
      | false =>
        gi_wp2_with (fail)
        refine ⟨KeepsFrom.of_below hb23, hK1, ⟨hX, by omega⟩, u4, u5, ?_, ?_, hB3⟩
        · rw [Hsn.out]
          have e : bestStep f better (some b0) x = some b0 := by simp [bestStep, ← Hfx.out, ← Hr.out]
          rw [e]
          exact u7
        · rw [Hsn.out]
          have e : bestStep f better (some b0) x = some b0 := by simp [bestStep, ← Hfx.out, ← Hr.out]
          rw [e]
          exact u8
      | true =>
        gi_wp2_with (fail)
        have hX7 : ¬ X (w.heap.size + 1 + 1) := fun h => by have := hX _ h; omega
        have hX8 : ¬ X (w.heap.size + 1 + 1 + 1) := fun h => by have := hX _ h; omega
        have hC7 : ¬ C (w.heap.size + 1 + 1) := fun h => by have := hC _ h; omega
        have hC8 : ¬ C (w.heap.size + 1 + 1 + 1) := fun h => by have := hC _ h; omega
        have e : bestStep f better (some b0) x = some fx := by simp [bestStep, ← Hfx.out, ← Hr.out]
        refine ⟨(KeepsFrom.of_below hb23).trans (((KeepsOthers.setCell _ _ _).from _).trans ((KeepsOthers.setCell _ _ _).from _)), (hK1.trans (Keep.setCell (by omega) hX7 hC7 0 _)).trans (Keep.setCell (by omega) hX8 hC8 0 _), ⟨hX, by simp; omega⟩, ?_, ?_, ?_, ?_, ?_⟩
        · exact bxOther (bxOther u4 (by omega) 0 _) (by omega) 0 _
        · exact bxOther (bxOther u5 (by omega) 0 _) (by omega) 0 _
        · rw [Hsn.out, e]
          exact bxOther (u7.set _) (by omega) 0 _
        · rw [Hsn.out, e]
          exact (bxOther u8 (by omega) 0 _).set _
        · exact (hB3.setCell (p := ⟨w.heap.size + 1 + 1, 0, none⟩) (by show w.heap.size ≤ w.heap.size + 1 + 1; omega) _).setCell (p := ⟨w.heap.size + 1 + 1 + 1, 0, none⟩) (by show w.heap.size ≤ w.heap.size + 1 + 1 + 1; omega) _
  case done =>
    rintro D xs X W hD hxs ⟨-, y4, y5, y7, y8, hB⟩ hK
    rw [hxs] at y7 y8
    clear hxs
    have e7 := y7.cell
    obtain ⟨r, hr⟩ : ∃ r, r = bestO f better L := ⟨_, rfl⟩
    rw [← hr] at e7
    have Hr := Lib.hid hr
    clear hr
    unfold bestV at e7
    gi_wp2_with (fail)
    refine ⟨by simp, .inl ⟨_, _, rfl, run_takeDeferred hK, ?_⟩⟩
    exact ⟨_, results_tmp rfl _ _ _, by rw [← Hr.out]; rfl, below_put hB hK (by omega)⟩
  case stop => exact fun _ _ _ _ _ _ _ h => h.elim
end Go.Proofs.Ytlgibckhkdggdaa

/- lag: fractions; slower; best of fractions. -/
namespace Go.Proofs.Ytlgibckhkdggdaa
open Go.RowKit Go.Shelf

attribute [local go_sem] Oper.semAt_some

def encR (x : Int × Int) : Value := .agg #[.int .i64 x.1, .int .i64 x.2]
abbrev RatAt (W : World) (b : Nat) (x : Int × Int) : Prop := W.heap[b]? = some (.cells #[.int .i64 x.1, .int .i64 x.2] 32 (0, 0))
theorem setCell_two (W : World) (b : Nat) {x : Int × Int} (h : W.heap[b]? = some (.cells #[.int .i64 x.1, .int .i64 x.2] 32 (0, 0))) (y : Int × Int) : ((W.setCell ⟨b, 0, none⟩ (.int .i64 y.1)).setCell ⟨b, 1, none⟩ (.int .i64 y.2)).heap[b]? = some (.cells #[.int .i64 y.1, .int .i64 y.2] 32 (0, 0)) := by
  simp [World.setCell, Array.getElem?_modify, h]
section
variable {W W' : World} {b b' D : Nat} {x y : Int × Int}
theorem RatAt.cells (h : RatAt W b x) : W.cell? ⟨b, 0, none⟩ = some (.int .i64 x.1) ∧ W.cell? ⟨b, 1, none⟩ = some (.int .i64 x.2) := by
  simp [World.cell?, h]
theorem RatAt.frozen (h : RatAt W b x) (i : Nat) : W.frozen? ⟨b, i, none⟩ = false := by simp [World.frozen?, h]
theorem RatAt.lt (h : RatAt W b x) : b < W.heap.size := (Array.getElem?_eq_some_iff.1 h).1
theorem RatAt.new (W : World) (x : Int × Int) : RatAt (W.alloc (.cells #[.int .i64 x.1, .int .i64 x.2] 32)) W.heap.size x := World.alloc_heap_new _ _
theorem RatAt.below (h : RatAt W b x) (hb : Below D W W') (hD : b < D) : RatAt W' b x := (hb.block b hD).trans h
theorem RatAt.alloc (h : RatAt W b x) (o : Obj) : RatAt (W.alloc o) b x := (Below.heap_alloc _ _ _ h.lt).trans h
theorem RatAt.set (h : RatAt W b x) (y : Int × Int) : RatAt ((W.setCell ⟨b, 0, none⟩ (.int .i64 y.1)).setCell ⟨b, 1, none⟩ (.int .i64 y.2)) b y := by
  have h1 := setCell_two W b h y
  exact h1
theorem RatAt.other (h : RatAt W b' x) (hne : b' ≠ b) (o : Nat) (u : Value) : RatAt (W.setCell ⟨b, o, none⟩ u) b' x := (Below.heap_setCell W ⟨b, o, none⟩ u b' hne).trans h
theorem RatAt.put (h : RatAt W b x) (hD : W.heap[D]? = some (.deferred (some []))) : RatAt (W.putObj D (.deferred none)) b x := (World.putObj_heap_other (by
  rintro rfl
  have h' : W.heap[b]? = _ := h
  rw [hD] at h'
  cases h')).trans h
end
def slowF (a b : Int × Int) : Bool := decide (IntKind.i64.wrap (a.1 * b.2) < IntKind.i64.wrap (b.1 * a.2))
set_option maxHeartbeats 1000000 in
theorem slower_any (W : World) (a b : Int × Int) : Calls Try.prog 101 #[encR a, encR b] W fun e W' => e = .returned (.bool (slowF a b)) ∧ Below W.heap.size W W' := by
  obtain ⟨a1, a2⟩ := a
  obtain ⟨b1, b2⟩ := b
  unfold encR
  have Hs := Lib.hid (show slowF (a1, a2) (b1, b2) = decide (IntKind.i64.wrap (a1 * b2) < IntKind.i64.wrap (b1 * a2)) from rfl)
  go_enter Try.func101, Try.ntmps101
  go_wp2
  go_ret
  exact ⟨ret_bool (by rw [Hs.out]; simp only [wrap64, IntKind.wrap_i64]), ((Below.refl _ W).alloc (Nat.le_refl _) _).alloc (by simp) _⟩
theorem slower_fn : BetFn 101 encR slowF := ⟨enters_of Try.func101 (by kernel_rfl) rfl, slower_any⟩
def bestQ (o : Option (Int × Int)) : Int × Int := o.getD (0, 0)
def bestActR (s gf : Nat) (lb : Array Value) (vf bf : Nat) (pre post : Array Value) (x : Value) : Act :=
  { tmps := #[.func (.func gf) #[] lb, .func (.func vf) pre post, .func (.func bf) #[] #[], undef, .pointer (some ⟨s, 0, none⟩), .pointer (some ⟨s + 1, 0, none⟩), .pointer (some ⟨s + 1 + 1, 0, none⟩), .pointer (some ⟨s + 1 + 1 + 1, 0, none⟩), .pointer (some ⟨s + 1 + 1 + 1 + 1, 0, none⟩), x, undef, .func (.func gf) #[] lb, x, undef, undef, undef, undef, undef, undef, undef, undef, undef, undef, undef, undef], defers := [] }

theorem bestRI_results (W : World) (tmps : Array Value) (b : Nat) (r : Int × Int) (h : RatAt W b r) (t : tmps.getD 6 undef = .pointer (some ⟨b, 0, none⟩)) :
    (results Try.f98 tmps).run Try.prog W = .ok (encR r) W := by
  obtain ⟨c0, c1⟩ := h.cells
  simp only [Array.getD_eq_getD_getElem?] at t
  unfold encR
  simp [results, Try.results98, go_sem, t, c0, c1]
set_option maxRecDepth 100000 in
set_option maxHeartbeats 8000000 in
theorem bestRI_any {α : Type} (w : World) (gf : Nat) (lb : Array Value) (enc : α → Value) (C : Nat → Prop) (L : List α) (Sp : List α → Prop) (N : Nat) (vf bf : Nat) (pre post : Array Value) (f : α → Int × Int) (better : Int × Int → Int × Int → Bool)
    (eg : ∀ args w, (callFunc gf args).run Try.prog w = .ok (.enter gf args) w)
    (hit : IterAt Try.prog gf lb (fun x => #[enc x]) w.heap.size C (fun xs => xs = L) Sp N w) (hC : ∀ k, C k → k < w.heap.size)
    (hval : ValFn w vf pre post enc encR f) (hbet : BetFn bf encR better) :
    Calls Try.prog 98 #[.func (.func gf) #[] lb, .func (.func vf) pre post, .func (.func bf) #[] #[]] w fun e w' => e = .returned (encR (bestQ (bestO f better L))) ∧ Below w.heap.size w w' := by
  obtain ⟨v1, v2⟩ := hval
  obtain ⟨b1, b2⟩ := hbet
  have Hv2 := Lib.hid v2
  have Hb2 := Lib.hid b2
  clear v2 b2
  obtain ⟨V, hV⟩ : ∃ V, V = (((((w).alloc (.cells #[.func (.func vf) pre post] 129)).alloc (.cells #[.func (.func bf) #[] #[]] 113)).alloc (.cells #[.int .i64 0, .int .i64 0] 32)).alloc (.cells #[.int .i64 0, .int .i64 0] 32)).alloc (.cells #[.bool true] 4) := ⟨_, rfl⟩
  have hb0 : Below w.heap.size w V := by rw [hV]; exact (((((Below.refl _ w).alloc (Nat.le_refl _) _).alloc (by simp) _).alloc (by simp; omega) _).alloc (by simp; omega) _).alloc (by simp; omega) _
  have hzV : V.heap.size = w.heap.size + 5 := by rw [hV]; simp
  have x4 : Boxed V w.heap.size 129 (.func (.func vf) pre post) := by
    rw [hV]; exact ((((Boxed.new w 129 (.func (.func vf) pre post)).alloc _).alloc _).alloc _).alloc _
  have x5 : Boxed V (w.heap.size + 1) 113 (.func (.func bf) #[] #[]) := by
    rw [hV]
    have := (((Boxed.new ((w).alloc (.cells #[.func (.func vf) pre post] 129)) 113 (.func (.func bf) #[] #[])).alloc (.cells #[.int .i64 0, .int .i64 0] 32)).alloc (.cells #[.int .i64 0, .int .i64 0] 32)).alloc (.cells #[.bool true] 4)
    simpa using this
  have x6 : RatAt V (w.heap.size + 1 + 1) (0, 0) := by
    rw [hV]
    have := ((RatAt.new (((w).alloc (.cells #[.func (.func vf) pre post] 129)).alloc (.cells #[.func (.func bf) #[] #[]] 113)) (0, 0)).alloc (.cells #[.int .i64 0, .int .i64 0] 32)).alloc (.cells #[.bool true] 4)
    simpa using this
  have x7 : RatAt V (w.heap.size + 1 + 1 + 1) (bestQ (bestO f better ([] : List α))) := by
    rw [hV]
    have := (RatAt.new ((((w).alloc (.cells #[.func (.func vf) pre post] 129)).alloc (.cells #[.func (.func bf) #[] #[]] 113)).alloc (.cells #[.int .i64 0, .int .i64 0] 32)) (0, 0)).alloc (.cells #[.bool true] 4)
    have e : bestQ (bestO f better ([] : List α)) = (0, 0) := rfl
    rw [e]
    simpa using this
  have x8 : Boxed V (w.heap.size + 1 + 1 + 1 + 1) 4 (.bool (bestO f better ([] : List α)).isNone) := by
    rw [hV]
    have := Boxed.new (((((w).alloc (.cells #[.func (.func vf) pre post] 129)).alloc (.cells #[.func (.func bf) #[] #[]] 113)).alloc (.cells #[.int .i64 0, .int .i64 0] 32)).alloc (.cells #[.int .i64 0, .int .i64 0] 32)) 4 (.bool true)
    have e : (bestO f better ([] : List α)).isNone = true := rfl
    rw [e]
    simpa using this
  refine (callsIn_wide (n := 3)).1 ?_
  refine callsIn_of_wp_marks Try.func98 rfl trivial ?_ rfl
  simp only [Try.ntmps98, List.size_toArray, List.length_cons, List.length_nil, Nat.reduceAdd, Nat.reduceSub, Array.replicate_succ, Array.replicate_zero, List.push_toArray, List.append_toArray, List.nil_append, List.cons_append]
  gi_wp2_with (fail)
  rw [← hV]
  clear hV
  refine range_iter (P := Try.prog) (gf := gf) rfl eg (encs := fun x => #[enc x]) (n₀ := w.heap.size) (w0 := w) hit hb0 (fun k hk => by have := hC k hk; omega) (by omega) (fun _ => rfl)
    (fun l X W => ((∀ k, X k → V.heap.size ≤ k) ∧ V.heap.size ≤ W.heap.size) ∧ Boxed W w.heap.size 129 (.func (.func vf) pre post) ∧ Boxed W (w.heap.size + 1) 113 (.func (.func bf) #[] #[]) ∧ RatAt W (w.heap.size + 1 + 1) (0, 0) ∧ RatAt W (w.heap.size + 1 + 1 + 1) (bestQ (bestO f better l)) ∧ Boxed W (w.heap.size + 1 + 1 + 1 + 1) 4 (.bool (bestO f better l).isNone) ∧ Below w.heap.size w W)
    (fun _ _ _ _ => False) ?hI (fun _ _ _ _ _ _ h => h.elim) ?h0
    (fun x a' _ => a' = bestActR w.heap.size gf lb vf bf pre post (enc x)) ?hAx ?assign ?body ?done ?stop
  case hI =>
    rintro l X X' W W' ⟨⟨hX, hz⟩, y4, y5, y6, y7, y8, hB⟩ hst hgr
    have hno : ∀ k, k < V.heap.size → ¬ X k := fun k hk h => by have := hX k h; omega
    exact ⟨⟨fun k h => (hgr.2 k h).elim (hX k) (fun h => by omega), Nat.le_trans hz hst.base.size⟩, hst.bx y4 (hno _ (by omega)), hst.bx y5 (hno _ (by omega)), hst.same _ _ y6 (hno _ (by omega)) (.inl rfl), hst.same _ _ y7 (hno _ (by omega)) (.inl rfl), hst.bx y8 (hno _ (by omega)),
      hB.trans (hst.below (fun k h => by have := hX k h; omega) (by omega) hB.size)⟩
  case h0 => exact ⟨⟨fun _ h => h.elim, Nat.le_refl _⟩, x4, x5, x6, x7, x8, hb0⟩
  case hAx =>
    rintro x a' W W' h1 hst
    exact h1
  case assign =>
    intro l pr x X W K hi hz hX hK
    obtain ⟨ex, hex⟩ : ∃ ex, ex = enc x := ⟨_, rfl⟩
    rw [← hex] at hK ⊢
    clear hex
    gi_wp2
    exact hK _ _ (Keep.refl _) (KeepsFrom.refl _ _) hi rfl
  case body =>
    rintro l pr x X a' W ⟨⟨hX, -⟩, y4, y5, y6, y7, y8, hB⟩ rfl hz hXz hlen
    have hcall := Hv2.out W x hB
    obtain ⟨q, hq⟩ : ∃ q, q = enc x := ⟨_, rfl⟩
    unfold bestActR
    rw [← hq] at hcall ⊢
    have e4 := y4.cell
    have e5 := y5.cell
    have Hc := Lib.hid hcall
    clear hcall hq
    have hsn := bestO_snoc f better pr x
    obtain ⟨o, ho⟩ : ∃ o, o = bestO f better pr := ⟨_, rfl⟩
    rw [← ho] at y7 y8 hsn
    have Hsn := Lib.hid hsn
    clear ho hsn
    gi_wp2_with (fail)
    refine ⟨trivial, (CallsIn.inRound l (callsIn_wide.2 Hc.out)).mono ?_⟩
    rintro e W1 ⟨rfl, hb1⟩
    obtain ⟨⟨fn, fd⟩, hfx⟩ : ∃ fx, fx = f x := ⟨_, rfl⟩
    rw [← hfx]
    have Hfx := Lib.hid hfx
    clear hfx
    obtain ⟨W2, hW2⟩ : ∃ W2, W2 = W1.alloc (.cells #[.int .i64 fn, .int .i64 fd] 32) := ⟨_, rfl⟩
    have hb12 : Below W1.heap.size W1 W2 := by rw [hW2]; exact (Below.refl _ W1).alloc (Nat.le_refl _) _
    have zv : RatAt W2 W1.heap.size (fn, fd) := by rw [hW2]; exact RatAt.new W1 (fn, fd)
    have hb2 : Below W.heap.size W W2 := hb1.trans (hb12.mono hb1.size)
    have hB2 := hB.trans (hb2.mono hB.size)
    have z4 := bxBelow y4 hb2 y4.lt
    have z5 := bxBelow y5 hb2 y5.lt
    have z6 := y6.below hb2 y6.lt
    have z7 := y7.below hb2 y7.lt
    have z8 := bxBelow y8 hb2 y8.lt
    have o4 := bxBelow y4 hb1 y4.lt
    have o5 := bxBelow y5 hb1 y5.lt
    have o6 := y6.below hb1 y6.lt
    have o7 := y7.below hb1 y7.lt
    have o8 := bxBelow y8 hb1 y8.lt
    have g5 := o5.cell
    have l4 := o4.lt
    have l5 := o5.lt
    have l6 := o6.lt
    have l7 := o7.lt
    have l8 := o8.lt
    have hzz := hb2.size
    have hz1 := hb1.size
    clear e4 e5 y4 y5 y6 y7 y8 hb1 hb12
    have hV1 : V.heap.size ≤ W1.heap.size := by omega
    have hX7 : ¬ X (w.heap.size + 1 + 1 + 1) := fun h => by have := hX _ h; omega
    have hX8 : ¬ X (w.heap.size + 1 + 1 + 1 + 1) := fun h => by have := hX _ h; omega
    have hC7 : ¬ C (w.heap.size + 1 + 1 + 1) := fun h => by have := hC _ h; omega
    have hC8 : ¬ C (w.heap.size + 1 + 1 + 1 + 1) := fun h => by have := hC _ h; omega
    have HX := Lib.hid (And.intro hX7 (And.intro hX8 (And.intro hC7 hC8)))
    clear hX7 hX8 hC7 hC8
    cases o with
    | none =>
      have g8 := o8.cell
      have f8 := o8.frozen
      obtain ⟨g70, g71⟩ := o7.cells
      have f7 := o7.frozen
      simp only [Option.isNone_none] at g8
      unfold encR
      clear o4 o5 o6 o7 o8
      gi_wp2_with (fail)
      refine ⟨by simp, ?_⟩
      rw [← hW2]
      clear hW2 g8 f8 g70 g71 f7 g5 l4 l5 l6 l7 l8
      have g8 := z8.cell
      have f8 := z8.frozen
      obtain ⟨g70, g71⟩ := z7.cells
      have f7 := z7.frozen
      obtain ⟨gv0, gv1⟩ := zv.cells
      simp only [Option.isNone_none] at g8
      simp only at gv0 gv1
      gi_wp2_with (fail)
      have hK1 : Keep w.heap.size C X W W2 := Keep.of_below hb2 (by omega)
      have e : bestStep f better none x = some (fn, fd) := by rw [Hfx.out]; rfl
      refine ⟨(KeepsFrom.of_below hb2).trans (((KeepsOthers.setCell _ _ _).from _).trans (((KeepsOthers.setCell _ _ _).from _).trans ((KeepsOthers.setCell _ _ _).from _))), ((hK1.trans (Keep.setCell (by omega) HX.out.1 HX.out.2.2.1 0 _)).trans (Keep.setCell (by omega) HX.out.1 HX.out.2.2.1 1 _)).trans (Keep.setCell (by omega) HX.out.2.1 HX.out.2.2.2 0 _), ⟨hX, by simp; omega⟩, ?_, ?_, ?_, ?_, ?_, ?_⟩
      · exact bxOther (bxOther (bxOther z4 (by omega) 0 _) (by omega) 1 _) (by omega) 0 _
      · exact bxOther (bxOther (bxOther z5 (by omega) 0 _) (by omega) 1 _) (by omega) 0 _
      · exact ((z6.other (by omega) 0 _).other (by omega) 1 _).other (by omega) 0 _
      · rw [Hsn.out, e]
        exact (z7.set (fn, fd)).other (by omega) 0 _
      · rw [Hsn.out, e]
        exact (bxOther (bxOther z8 (by omega) 0 _) (by omega) 1 _).set _
      · exact ((hB2.setCell (p := ⟨(w.heap.size + 1 + 1 + 1), 0, none⟩) (by show w.heap.size ≤ (w.heap.size + 1 + 1 + 1); omega) _).setCell (p := ⟨(w.heap.size + 1 + 1 + 1), 1, none⟩) (by show w.heap.size ≤ (w.heap.size + 1 + 1 + 1); omega) _).setCell (p := ⟨(w.heap.size + 1 + 1 + 1 + 1), 0, none⟩) (by show w.heap.size ≤ (w.heap.size + 1 + 1 + 1 + 1); omega) _
    | some b0 =>
      have g8 := o8.cell
      have f8 := o8.frozen
      obtain ⟨g70, g71⟩ := o7.cells
      have f7 := o7.frozen
      simp only [Option.isNone_some] at g8
      obtain ⟨bn, bd⟩ := b0
      have hq0 : bestQ (some (bn, bd)) = (bn, bd) := rfl
      rw [hq0] at g70 g71
      simp only at g70 g71
      clear hq0
      have hcall := Hb2.out W2 (fn, fd) (bn, bd)
      unfold encR at hcall ⊢
      simp only at hcall
      have Hcall := Lib.hid hcall
      clear hcall
      clear o4 o5 o6 o7 o8
      gi_wp2_with (fail)
      rw [← hW2]
      clear hW2
      refine ⟨trivial, (CallsIn.inRound l (callsIn_wide.2 Hcall.out)).mono ?_⟩
      rintro e W3 ⟨rfl, hb3⟩
      have hb23 := hb2.trans (hb3.mono hzz)
      have hB3 := hB2.trans (hb3.mono hB2.size)
      have u4 := bxBelow z4 hb3 z4.lt
      have u5 := bxBelow z5 hb3 z5.lt
      have u6 := z6.below hb3 z6.lt
      have u7 := z7.below hb3 z7.lt
      have u8 := bxBelow z8 hb3 z8.lt
      have uv := zv.below hb3 zv.lt
      have g8' := u8.cell
      have f8' := u8.frozen
      obtain ⟨g70', g71'⟩ := u7.cells
      obtain ⟨gv0', gv1'⟩ := uv.cells
      simp only at gv0' gv1'
      have f7' := u7.frozen
      have hz23 := hb3.size
      clear g8 f8 g70 g71 f7 g5 l4 l5 l6 l7 l8 z4 z5 z6 z7 z8 zv
      obtain ⟨r, hr⟩ : ∃ r, r = better (fn, fd) (bn, bd) := ⟨_, rfl⟩
      rw [← hr]
      have Hr := Lib.hid hr
      clear hr
      have hK1 : Keep w.heap.size C X W W3 := Keep.of_below hb23 (by omega)
      cases r with
      | false =>
        gi_wp2_with (fail)
        have e : bestStep f better (some (bn, bd)) x = some (bn, bd) := by simp [bestStep, ← Hfx.out, ← Hr.out]
        refine ⟨KeepsFrom.of_below hb23, hK1, ⟨hX, by omega⟩, u4, u5, u6, ?_, ?_, hB3⟩
        · rw [Hsn.out, e]
          exact u7
        · rw [Hsn.out, e]
          exact u8
      | true =>
        gi_wp2_with (fail)
        have e : bestStep f better (some (bn, bd)) x = some (fn, fd) := by simp [bestStep, ← Hfx.out, ← Hr.out]
        refine ⟨(KeepsFrom.of_below hb23).trans (((KeepsOthers.setCell _ _ _).from _).trans (((KeepsOthers.setCell _ _ _).from _).trans ((KeepsOthers.setCell _ _ _).from _))), ((hK1.trans (Keep.setCell (by omega) HX.out.1 HX.out.2.2.1 0 _)).trans (Keep.setCell (by omega) HX.out.1 HX.out.2.2.1 1 _)).trans (Keep.setCell (by omega) HX.out.2.1 HX.out.2.2.2 0 _), ⟨hX, by simp; omega⟩, ?_, ?_, ?_, ?_, ?_, ?_⟩
        · exact bxOther (bxOther (bxOther u4 (by omega) 0 _) (by omega) 1 _) (by omega) 0 _
        · exact bxOther (bxOther (bxOther u5 (by omega) 0 _) (by omega) 1 _) (by omega) 0 _
        · exact ((u6.other (by omega) 0 _).other (by omega) 1 _).other (by omega) 0 _
        · rw [Hsn.out, e]
          exact (u7.set (fn, fd)).other (by omega) 0 _
        · rw [Hsn.out, e]
          exact (bxOther (bxOther u8 (by omega) 0 _) (by omega) 1 _).set _
        · exact ((hB3.setCell (p := ⟨(w.heap.size + 1 + 1 + 1), 0, none⟩) (by show w.heap.size ≤ (w.heap.size + 1 + 1 + 1); omega) _).setCell (p := ⟨(w.heap.size + 1 + 1 + 1), 1, none⟩) (by show w.heap.size ≤ (w.heap.size + 1 + 1 + 1); omega) _).setCell (p := ⟨(w.heap.size + 1 + 1 + 1 + 1), 0, none⟩) (by show w.heap.size ≤ (w.heap.size + 1 + 1 + 1 + 1); omega) _
  case done =>
    rintro D xs X W hD hxs ⟨-, y4, y5, y6, y7, y8, hB⟩ hK
    rw [hxs] at y7 y8
    clear hxs
    obtain ⟨⟨rn, rd⟩, hr⟩ : ∃ r, r = bestQ (bestO f better L) := ⟨_, rfl⟩
    rw [← hr] at y7
    have Hr := Lib.hid hr
    clear hr
    obtain ⟨e70, e71⟩ := y7.cells
    obtain ⟨e60, e61⟩ := y6.cells
    simp only at e70 e71 e60 e61
    have f6 := y6.frozen
    gi_wp2_with (fail)
    have hKK := ((KeepsOthers.setCell W ⟨(w.heap.size + 1 + 1), 0, none⟩ (.int .i64 rn)).trans (KeepsOthers.setCell (W.setCell ⟨(w.heap.size + 1 + 1), 0, none⟩ (.int .i64 rn)) ⟨(w.heap.size + 1 + 1), 1, none⟩ (.int .i64 rd))).same D _ hK rfl
    refine ⟨by simp, .inl ⟨_, _, rfl, run_takeDeferred hKK, ?_⟩⟩
    refine ⟨encR (rn, rd), bestRI_results _ _ (w.heap.size + 1 + 1) (rn, rd) ((y6.set (rn, rd)).put hKK) (by simp), by rw [← Hr.out], ?_⟩
    exact below_put ((hB.setCell (p := ⟨(w.heap.size + 1 + 1), 0, none⟩) (by show w.heap.size ≤ (w.heap.size + 1 + 1); omega) _).setCell (p := ⟨(w.heap.size + 1 + 1), 1, none⟩) (by show w.heap.size ≤ (w.heap.size + 1 + 1); omega) _) hKK (by omega)
  case stop => exact fun _ _ _ _ _ _ _ h => h.elim

theorem bestRS_results (W : World) (tmps : Array Value) (b : Nat) (r : Int × Int) (h : RatAt W b r) (t : tmps.getD 6 undef = .pointer (some ⟨b, 0, none⟩)) :
    (results Try.f115 tmps).run Try.prog W = .ok (encR r) W := by
  obtain ⟨c0, c1⟩ := h.cells
  simp only [Array.getD_eq_getD_getElem?] at t
  unfold encR
  simp [results, Try.results115, go_sem, t, c0, c1]
set_option maxRecDepth 100000 in
set_option maxHeartbeats 8000000 in
theorem bestRS_any {α : Type} (w : World) (gf : Nat) (lb : Array Value) (enc : α → Value) (C : Nat → Prop) (L : List α) (Sp : List α → Prop) (N : Nat) (vf bf : Nat) (pre post : Array Value) (f : α → Int × Int) (better : Int × Int → Int × Int → Bool)
    (eg : ∀ args w, (callFunc gf args).run Try.prog w = .ok (.enter gf args) w)
    (hit : IterAt Try.prog gf lb (fun x => #[enc x]) w.heap.size C (fun xs => xs = L) Sp N w) (hC : ∀ k, C k → k < w.heap.size)
    (hval : ValFn w vf pre post enc encR f) (hbet : BetFn bf encR better) :
    Calls Try.prog 115 #[.func (.func gf) #[] lb, .func (.func vf) pre post, .func (.func bf) #[] #[]] w fun e w' => e = .returned (encR (bestQ (bestO f better L))) ∧ Below w.heap.size w w' := by
  obtain ⟨v1, v2⟩ := hval
  obtain ⟨b1, b2⟩ := hbet
  have Hv2 := Lib.hid v2
  have Hb2 := Lib.hid b2
  clear v2 b2
  obtain ⟨V, hV⟩ : ∃ V, V = (((((w).alloc (.cells #[.func (.func vf) pre post] 140)).alloc (.cells #[.func (.func bf) #[] #[]] 113)).alloc (.cells #[.int .i64 0, .int .i64 0] 32)).alloc (.cells #[.int .i64 0, .int .i64 0] 32)).alloc (.cells #[.bool true] 4) := ⟨_, rfl⟩
  have hb0 : Below w.heap.size w V := by rw [hV]; exact (((((Below.refl _ w).alloc (Nat.le_refl _) _).alloc (by simp) _).alloc (by simp; omega) _).alloc (by simp; omega) _).alloc (by simp; omega) _
  have hzV : V.heap.size = w.heap.size + 5 := by rw [hV]; simp
  have x4 : Boxed V w.heap.size 140 (.func (.func vf) pre post) := by
    rw [hV]; exact ((((Boxed.new w 140 (.func (.func vf) pre post)).alloc _).alloc _).alloc _).alloc _
  have x5 : Boxed V (w.heap.size + 1) 113 (.func (.func bf) #[] #[]) := by
    rw [hV]
    have := (((Boxed.new ((w).alloc (.cells #[.func (.func vf) pre post] 140)) 113 (.func (.func bf) #[] #[])).alloc (.cells #[.int .i64 0, .int .i64 0] 32)).alloc (.cells #[.int .i64 0, .int .i64 0] 32)).alloc (.cells #[.bool true] 4)
    simpa using this
  have x6 : RatAt V (w.heap.size + 1 + 1) (0, 0) := by
    rw [hV]
    have := ((RatAt.new (((w).alloc (.cells #[.func (.func vf) pre post] 140)).alloc (.cells #[.func (.func bf) #[] #[]] 113)) (0, 0)).alloc (.cells #[.int .i64 0, .int .i64 0] 32)).alloc (.cells #[.bool true] 4)
    simpa using this
  have x7 : RatAt V (w.heap.size + 1 + 1 + 1) (bestQ (bestO f better ([] : List α))) := by
    rw [hV]
    have := (RatAt.new ((((w).alloc (.cells #[.func (.func vf) pre post] 140)).alloc (.cells #[.func (.func bf) #[] #[]] 113)).alloc (.cells #[.int .i64 0, .int .i64 0] 32)) (0, 0)).alloc (.cells #[.bool true] 4)
    have e : bestQ (bestO f better ([] : List α)) = (0, 0) := rfl
    rw [e]
    simpa using this
  have x8 : Boxed V (w.heap.size + 1 + 1 + 1 + 1) 4 (.bool (bestO f better ([] : List α)).isNone) := by
    rw [hV]
    have := Boxed.new (((((w).alloc (.cells #[.func (.func vf) pre post] 140)).alloc (.cells #[.func (.func bf) #[] #[]] 113)).alloc (.cells #[.int .i64 0, .int .i64 0] 32)).alloc (.cells #[.int .i64 0, .int .i64 0] 32)) 4 (.bool true)
    have e : (bestO f better ([] : List α)).isNone = true := rfl
    rw [e]
    simpa using this
  refine (callsIn_wide (n := 3)).1 ?_
  refine callsIn_of_wp_marks Try.func115 rfl trivial ?_ rfl
  simp only [Try.ntmps115, List.size_toArray, List.length_cons, List.length_nil, Nat.reduceAdd, Nat.reduceSub, Array.replicate_succ, Array.replicate_zero, List.push_toArray, List.append_toArray, List.nil_append, List.cons_append]
  gi_wp2_with (fail)
  rw [← hV]
  clear hV
  refine range_iter (P := Try.prog) (gf := gf) rfl eg (encs := fun x => #[enc x]) (n₀ := w.heap.size) (w0 := w) hit hb0 (fun k hk => by have := hC k hk; omega) (by omega) (fun _ => rfl)
    (fun l X W => ((∀ k, X k → V.heap.size ≤ k) ∧ V.heap.size ≤ W.heap.size) ∧ Boxed W w.heap.size 140 (.func (.func vf) pre post) ∧ Boxed W (w.heap.size + 1) 113 (.func (.func bf) #[] #[]) ∧ RatAt W (w.heap.size + 1 + 1) (0, 0) ∧ RatAt W (w.heap.size + 1 + 1 + 1) (bestQ (bestO f better l)) ∧ Boxed W (w.heap.size + 1 + 1 + 1 + 1) 4 (.bool (bestO f better l).isNone) ∧ Below w.heap.size w W)
    (fun _ _ _ _ => False) ?hI (fun _ _ _ _ _ _ h => h.elim) ?h0
    (fun x a' _ => a' = bestActR w.heap.size gf lb vf bf pre post (enc x)) ?hAx ?assign ?body ?done ?stop
  case hI =>
    rintro l X X' W W' ⟨⟨hX, hz⟩, y4, y5, y6, y7, y8, hB⟩ hst hgr
    have hno : ∀ k, k < V.heap.size → ¬ X k := fun k hk h => by have := hX k h; omega
    exact ⟨⟨fun k h => (hgr.2 k h).elim (hX k) (fun h => by omega), Nat.le_trans hz hst.base.size⟩, hst.bx y4 (hno _ (by omega)), hst.bx y5 (hno _ (by omega)), hst.same _ _ y6 (hno _ (by omega)) (.inl rfl), hst.same _ _ y7 (hno _ (by omega)) (.inl rfl), hst.bx y8 (hno _ (by omega)),
      hB.trans (hst.below (fun k h => by have := hX k h; omega) (by omega) hB.size)⟩
  case h0 => exact ⟨⟨fun _ h => h.elim, Nat.le_refl _⟩, x4, x5, x6, x7, x8, hb0⟩
  case hAx =>
    rintro x a' W W' h1 hst
    exact h1
  case assign =>
    intro l pr x X W K hi hz hX hK
    obtain ⟨ex, hex⟩ : ∃ ex, ex = enc x := ⟨_, rfl⟩
    rw [← hex] at hK ⊢
    clear hex
    gi_wp2
    exact hK _ _ (Keep.refl _) (KeepsFrom.refl _ _) hi rfl
  case body =>
    rintro l pr x X a' W ⟨⟨hX, -⟩, y4, y5, y6, y7, y8, hB⟩ rfl hz hXz hlen
    have hcall := Hv2.out W x hB
    obtain ⟨q, hq⟩ : ∃ q, q = enc x := ⟨_, rfl⟩
    unfold bestActR
    rw [← hq] at hcall ⊢
    have e4 := y4.cell
    have e5 := y5.cell
    have Hc := Lib.hid hcall
    clear hcall hq
    have hsn := bestO_snoc f better pr x
    obtain ⟨o, ho⟩ : ∃ o, o = bestO f better pr := ⟨_, rfl⟩
    rw [← ho] at y7 y8 hsn
    have Hsn := Lib.hid hsn
    clear ho hsn
    gi_wp2_with (fail)
    refine ⟨trivial, (CallsIn.inRound l (callsIn_wide.2 Hc.out)).mono ?_⟩
    rintro e W1 ⟨rfl, hb1⟩
    obtain ⟨⟨fn, fd⟩, hfx⟩ : ∃ fx, fx = f x := ⟨_, rfl⟩
    rw [← hfx]
    have Hfx := Lib.hid hfx
    clear hfx
    obtain ⟨W2, hW2⟩ : ∃ W2, W2 = W1.alloc (.cells #[.int .i64 fn, .int .i64 fd] 32) := ⟨_, rfl⟩
    have hb12 : Below W1.heap.size W1 W2 := by rw [hW2]; exact (Below.refl _ W1).alloc (Nat.le_refl _) _
    have zv : RatAt W2 W1.heap.size (fn, fd) := by rw [hW2]; exact RatAt.new W1 (fn, fd)
    have hb2 : Below W.heap.size W W2 := hb1.trans (hb12.mono hb1.size)
    have hB2 := hB.trans (hb2.mono hB.size)
    have z4 := bxBelow y4 hb2 y4.lt
    have z5 := bxBelow y5 hb2 y5.lt
    have z6 := y6.below hb2 y6.lt
    have z7 := y7.below hb2 y7.lt
    have z8 := bxBelow y8 hb2 y8.lt
    have o4 := bxBelow y4 hb1 y4.lt
    have o5 := bxBelow y5 hb1 y5.lt
    have o6 := y6.below hb1 y6.lt
    have o7 := y7.below hb1 y7.lt
    have o8 := bxBelow y8 hb1 y8.lt
    have g5 := o5.cell
    have l4 := o4.lt
    have l5 := o5.lt
    have l6 := o6.lt
    have l7 := o7.lt
    have l8 := o8.lt
    have hzz := hb2.size
    have hz1 := hb1.size
    clear e4 e5 y4 y5 y6 y7 y8 hb1 hb12
    have hV1 : V.heap.size ≤ W1.heap.size := by omega
    have hX7 : ¬ X (w.heap.size + 1 + 1 + 1) := fun h => by have := hX _ h; omega
    have hX8 : ¬ X (w.heap.size + 1 + 1 + 1 + 1) := fun h => by have := hX _ h; omega
    have hC7 : ¬ C (w.heap.size + 1 + 1 + 1) := fun h => by have := hC _ h; omega
    have hC8 : ¬ C (w.heap.size + 1 + 1 + 1 + 1) := fun h => by have := hC _ h; omega
    have HX := Lib.hid (And.intro hX7 (And.intro hX8 (And.intro hC7 hC8)))
    clear hX7 hX8 hC7 hC8
    cases o with
    | none =>
      have g8 := o8.cell
      have f8 := o8.frozen
      obtain ⟨g70, g71⟩ := o7.cells
      have f7 := o7.frozen
      simp only [Option.isNone_none] at g8
      unfold encR
      clear o4 o5 o6 o7 o8
      gi_wp2_with (fail)
      refine ⟨by simp, ?_⟩
      rw [← hW2]
      clear hW2 g8 f8 g70 g71 f7 g5 l4 l5 l6 l7 l8
      have g8 := z8.cell
      have f8 := z8.frozen
      obtain ⟨g70, g71⟩ := z7.cells
      have f7 := z7.frozen
      obtain ⟨gv0, gv1⟩ := zv.cells
      simp only [Option.isNone_none] at g8
      simp only at gv0 gv1
      gi_wp2_with (fail)
      have hK1 : Keep w.heap.size C X W W2 := Keep.of_below hb2 (by omega)
      have e : bestStep f better none x = some (fn, fd) := by rw [Hfx.out]; rfl
      refine ⟨(KeepsFrom.of_below hb2).trans (((KeepsOthers.setCell _ _ _).from _).trans (((KeepsOthers.setCell _ _ _).from _).trans ((KeepsOthers.setCell _ _ _).from _))), ((hK1.trans (Keep.setCell (by omega) HX.out.1 HX.out.2.2.1 0 _)).trans (Keep.setCell (by omega) HX.out.1 HX.out.2.2.1 1 _)).trans (Keep.setCell (by omega) HX.out.2.1 HX.out.2.2.2 0 _), ⟨hX, by simp; omega⟩, ?_, ?_, ?_, ?_, ?_, ?_⟩
      · exact bxOther (bxOther (bxOther z4 (by omega) 0 _) (by omega) 1 _) (by omega) 0 _
      · exact bxOther (bxOther (bxOther z5 (by omega) 0 _) (by omega) 1 _) (by omega) 0 _
      · exact ((z6.other (by omega) 0 _).other (by omega) 1 _).other (by omega) 0 _
      · rw [Hsn.out, e]
        exact (z7.set (fn, fd)).other (by omega) 0 _
      · rw [Hsn.out, e]
        exact (bxOther (bxOther z8 (by omega) 0 _) (by omega) 1 _).set _
      · exact ((hB2.setCell (p := ⟨(w.heap.size + 1 + 1 + 1), 0, none⟩) (by show w.heap.size ≤ (w.heap.size + 1 + 1 + 1); omega) _).setCell (p := ⟨(w.heap.size + 1 + 1 + 1), 1, none⟩) (by show w.heap.size ≤ (w.heap.size + 1 + 1 + 1); omega) _).setCell (p := ⟨(w.heap.size + 1 + 1 + 1 + 1), 0, none⟩) (by show w.heap.size ≤ (w.heap.size + 1 + 1 + 1 + 1); omega) _
    | some b0 =>
      have g8 := o8.cell
      have f8 := o8.frozen
      obtain ⟨g70, g71⟩ := o7.cells
      have f7 := o7.frozen
      simp only [Option.isNone_some] at g8
      obtain ⟨bn, bd⟩ := b0
      have hq0 : bestQ (some (bn, bd)) = (bn, bd) := rfl
      rw [hq0] at g70 g71
      simp only at g70 g71
      clear hq0
      have hcall := Hb2.out W2 (fn, fd) (bn, bd)
      unfold encR at hcall ⊢
      simp only at hcall
      have Hcall := Lib.hid hcall
      clear hcall
      clear o4 o5 o6 o7 o8
      gi_wp2_with (fail)
      rw [← hW2]
      clear hW2
      refine ⟨trivial, (CallsIn.inRound l (callsIn_wide.2 Hcall.out)).mono ?_⟩
      rintro e W3 ⟨rfl, hb3⟩
      have hb23 := hb2.trans (hb3.mono hzz)
      have hB3 := hB2.trans (hb3.mono hB2.size)
      have u4 := bxBelow z4 hb3 z4.lt
      have u5 := bxBelow z5 hb3 z5.lt
      have u6 := z6.below hb3 z6.lt
      have u7 := z7.below hb3 z7.lt
      have u8 := bxBelow z8 hb3 z8.lt
      have uv := zv.below hb3 zv.lt
      have g8' := u8.cell
      have f8' := u8.frozen
      obtain ⟨g70', g71'⟩ := u7.cells
      obtain ⟨gv0', gv1'⟩ := uv.cells
      simp only at gv0' gv1'
      have f7' := u7.frozen
      have hz23 := hb3.size
      clear g8 f8 g70 g71 f7 g5 l4 l5 l6 l7 l8 z4 z5 z6 z7 z8 zv
      obtain ⟨r, hr⟩ : ∃ r, r = better (fn, fd) (bn, bd) := ⟨_, rfl⟩
      rw [← hr]
      have Hr := Lib.hid hr
      clear hr
      have hK1 : Keep w.heap.size C X W W3 := Keep.of_below hb23 (by omega)
      cases r with
      | false =>
        gi_wp2_with (fail)
        have e : bestStep f better (some (bn, bd)) x = some (bn, bd) := by simp [bestStep, ← Hfx.out, ← Hr.out]
        refine ⟨KeepsFrom.of_below hb23, hK1, ⟨hX, by omega⟩, u4, u5, u6, ?_, ?_, hB3⟩
        · rw [Hsn.out, e]
          exact u7
        · rw [Hsn.out, e]
          exact u8
      | true =>
        gi_wp2_with (fail)
        have e : bestStep f better (some (bn, bd)) x = some (fn, fd) := by simp [bestStep, ← Hfx.out, ← Hr.out]
        refine ⟨(KeepsFrom.of_below hb23).trans (((KeepsOthers.setCell _ _ _).from _).trans (((KeepsOthers.setCell _ _ _).from _).trans ((KeepsOthers.setCell _ _ _).from _))), ((hK1.trans (Keep.setCell (by omega) HX.out.1 HX.out.2.2.1 0 _)).trans (Keep.setCell (by omega) HX.out.1 HX.out.2.2.1 1 _)).trans (Keep.setCell (by omega) HX.out.2.1 HX.out.2.2.2 0 _), ⟨hX, by simp; omega⟩, ?_, ?_, ?_, ?_, ?_, ?_⟩
        · exact bxOther (bxOther (bxOther u4 (by omega) 0 _) (by omega) 1 _) (by omega) 0 _
        · exact bxOther (bxOther (bxOther u5 (by omega) 0 _) (by omega) 1 _) (by omega) 0 _
        · exact ((u6.other (by omega) 0 _).other (by omega) 1 _).other (by omega) 0 _
        · rw [Hsn.out, e]
          exact (u7.set (fn, fd)).other (by omega) 0 _
        · rw [Hsn.out, e]
          exact (bxOther (bxOther u8 (by omega) 0 _) (by omega) 1 _).set _
        · exact ((hB3.setCell (p := ⟨(w.heap.size + 1 + 1 + 1), 0, none⟩) (by show w.heap.size ≤ (w.heap.size + 1 + 1 + 1); omega) _).setCell (p := ⟨(w.heap.size + 1 + 1 + 1), 1, none⟩) (by show w.heap.size ≤ (w.heap.size + 1 + 1 + 1); omega) _).setCell (p := ⟨(w.heap.size + 1 + 1 + 1 + 1), 0, none⟩) (by show w.heap.size ≤ (w.heap.size + 1 + 1 + 1 + 1); omega) _
  case done =>
    rintro D xs X W hD hxs ⟨-, y4, y5, y6, y7, y8, hB⟩ hK
    rw [hxs] at y7 y8
    clear hxs
    obtain ⟨⟨rn, rd⟩, hr⟩ : ∃ r, r = bestQ (bestO f better L) := ⟨_, rfl⟩
    rw [← hr] at y7
    have Hr := Lib.hid hr
    clear hr
    obtain ⟨e70, e71⟩ := y7.cells
    obtain ⟨e60, e61⟩ := y6.cells
    simp only at e70 e71 e60 e61
    have f6 := y6.frozen
    gi_wp2_with (fail)
    have hKK := ((KeepsOthers.setCell W ⟨(w.heap.size + 1 + 1), 0, none⟩ (.int .i64 rn)).trans (KeepsOthers.setCell (W.setCell ⟨(w.heap.size + 1 + 1), 0, none⟩ (.int .i64 rn)) ⟨(w.heap.size + 1 + 1), 1, none⟩ (.int .i64 rd))).same D _ hK rfl
    refine ⟨by simp, .inl ⟨_, _, rfl, run_takeDeferred hKK, ?_⟩⟩
    refine ⟨encR (rn, rd), bestRS_results _ _ (w.heap.size + 1 + 1) (rn, rd) ((y6.set (rn, rd)).put hKK) (by simp), by rw [← Hr.out], ?_⟩
    exact below_put ((hB.setCell (p := ⟨(w.heap.size + 1 + 1), 0, none⟩) (by show w.heap.size ≤ (w.heap.size + 1 + 1); omega) _).setCell (p := ⟨(w.heap.size + 1 + 1), 1, none⟩) (by show w.heap.size ≤ (w.heap.size + 1 + 1); omega) _) hKK (by omega)
  case stop => exact fun _ _ _ _ _ _ _ h => h.elim
end Go.Proofs.Ytlgibckhkdggdaa
