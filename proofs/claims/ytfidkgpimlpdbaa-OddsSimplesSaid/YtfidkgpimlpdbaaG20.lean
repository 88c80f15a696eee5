/- OddsSimples answers true whatever the two fractions; the arguments read as they did. No condition. -/
import Derived.Test.YtfidkgpimlpdbaaF19
import Derived.Test.YtfidkgpimlpdbaaRows
import Derived.WalkKit
import Derived.ProofKit
import Derived.OpenShut
import Derived.Carry
import Derived.Deep.Slices
import Derived.ChangeSame

/- odds: OddsSimples: the walk. -/
namespace Go.Proofs.Ytfidkgpimlpdbaa
open Go.RowKit Go.Shelf

set_option maxRecDepth 20000 in
theorem OddsSimples_any (w : World) (a b c d : Int) : Calls Try.prog 4 #[.agg #[.int .i64 a, .int .i64 b], .agg #[.int .i64 c, .int .i64 d]] w fun e w' => e = .returned (.bool true) ∧ Below w.heap.size w w' := by
  refine enter 32 Try.func4 (by kernel_rfl) fun hA => ?_
  refine runS hA 11 [.k 0, .k 0, .k 1, .k 1] xn on (by kernel_rfl) fun w1 hA => ?_
  refine callB hA [] on (Simplest_any w1 a b c d) (by kernel_rfl) fun w2 hb2 hA => ?_
  refine runS hA 12 [.k 2, .k 2, .k 0, .k 0, .k 1, .k 1] xn on (by kernel_rfl) fun w3 hA => ?_
  refine callB hA [] on (rSimplest_any w3 a b c d) (by kernel_rfl) fun w4 hb4 hA => ?_
  refine runS hA 12 [.k 3, .k 3, .k 2, .k 2, .k 3, .k 3] xn on (by kernel_rfl) fun w5 hA => ?_
  have hq9 := simpE_or a b c d
  rcases hq9 with hE | hE
  ·
    refine revals hA (rc 6 (show .int .i64 (simpE a b c d) = .int .i64 0 by rw [hE]) (rc 8 (show .int .i64 (simpE a b c d) = .int .i64 0 by rw [hE]) rn)) (by kernel_rfl) fun hA => ?_
    refine opv (v := .bool true) hA [] on (s := cmpSem .eql 23 (.tmp 21) (.tmp 22) (.agg #[.int .i64 ((simpA a b c d).1), .int .i64 ((simpA a b c d).2)]) (.agg #[.int .i64 ((simpA a b c d).1), .int .i64 ((simpA a b c d).2)])) (by kernel_rfl) (cmp_flat (n := 2) false (by kernel_rfl) _ (by kernel_rfl) (fun i hi => by match i, hi with | 0, _ => exact ⟨_, _, _, rfl, rfl⟩ | 1, _ => exact ⟨_, _, _, rfl, rfl⟩) (True) (⟨fun _ => trivial, fun _ => rfl⟩) (by kernel_rfl)) fun hA => ?_
    refine runS hA 6 [.g true, .g true, .g true] xn (oc (rfl : Value.bool true = .bool true) (oc (rfl : Value.bool true = .bool true) (oc (rfl : Value.bool true = .bool true) on))) (by kernel_rfl) fun w6 hA => ?_
    refine callB hA [] on (works_any w6) (by kernel_rfl) fun w7 hb7 hA => ?_
    refine runS hA 5 [] xn on (by kernel_rfl) fun w8 hA => ?_
    exact ret (v := .bool true) hA [] (by kernel_rfl) ⟨rfl, hA.below⟩
  ·
    refine revals hA (rc 6 (show .int .i64 (simpE a b c d) = .int .i64 3 by rw [hE]) (rc 8 (show .int .i64 (simpE a b c d) = .int .i64 3 by rw [hE]) rn)) (by kernel_rfl) fun hA => ?_
    refine opv (v := .bool true) hA [] on (s := cmpSem .eql 23 (.tmp 21) (.tmp 22) (.agg #[.int .i64 ((simpA a b c d).1), .int .i64 ((simpA a b c d).2)]) (.agg #[.int .i64 ((simpA a b c d).1), .int .i64 ((simpA a b c d).2)])) (by kernel_rfl) (cmp_flat (n := 2) false (by kernel_rfl) _ (by kernel_rfl) (fun i hi => by match i, hi with | 0, _ => exact ⟨_, _, _, rfl, rfl⟩ | 1, _ => exact ⟨_, _, _, rfl, rfl⟩) (True) (⟨fun _ => trivial, fun _ => rfl⟩) (by kernel_rfl)) fun hA => ?_
    refine runS hA 6 [.g true, .g true, .g true] xn (oc (rfl : Value.bool true = .bool true) (oc (rfl : Value.bool true = .bool true) (oc (rfl : Value.bool true = .bool true) on))) (by kernel_rfl) fun w6 hA => ?_
    refine callB hA [] on (works_any w6) (by kernel_rfl) fun w7 hb7 hA => ?_
    refine runS hA 5 [] xn on (by kernel_rfl) fun w8 hA => ?_
    exact ret (v := .bool true) hA [] (by kernel_rfl) ⟨rfl, hA.below⟩
end Go.Proofs.Ytfidkgpimlpdbaa

/- OddsSimples answers true whatever the two fractions; the arguments read as they did. No condition. -/
namespace Go.Proofs.Ytfidkgpimlpdbaa.oddsSimples
open Go.ChangeShapes Go.WideShapes Go.ChangeAt Go.RowKit

theorem own : ownKnob Try.prog.godebug = none := by kernel_rfl
theorem laidOut : laidOutB Try.prog = true := by kernel_rfl
theorem cellsI64 : Try.prog.cellsOf 2 = 1 := by kernel_rfl
theorem cellsRatio : Try.prog.cellsOf 23 = 2 := by kernel_rfl
theorem ratio_gen {H : Type} {enc : TypeId × Value → H} {P : Program} {W : World} {fuel : Nat} {T J : TypeId} {f0 f1 : Field} (ht : P.underlying T = some (.struct #[f0, f1])) (hj : P.underlying J = some (.int .i64)) (cJ : P.cellsOf J = 1) (cT : P.cellsOf T = 2)
    (o0 : f0.offset = 0 ∧ f0.type = J) (o1 : f1.offset = 1 ∧ f1.type = J) {cs : Array Value} {x : DataW H × List MemPlace} (h : DataW.trod enc P W 0 (fun _ => true) true fuel T cs.toList = some x) :
    ∃ a b : Int, cs = #[.int .i64 a, .int .i64 b] := by
  obtain ⟨xs, m, -, -, hl, hn, hf⟩ := Go.DataW.trod_struct ht h
  rw [cT] at hl
  obtain ⟨v0, v1, hc⟩ : ∃ v0 v1, cs.toList = [v0, v1] := by
    generalize cs.toList = l at hl
    match l, hl with
    | [a, b], _ => exact ⟨a, b, rfl⟩
  rw [hc] at hf
  have g0 := hf 0 f0 rfl
  have g1 := hf 1 f1 rfl
  simp only [List.size_toArray, List.length_cons, List.length_nil] at hn
  rw [List.getElem?_eq_getElem (by omega)] at g0 g1
  rw [o0.1, o0.2, cJ] at g0
  rw [o1.1, o1.2, cJ] at g1
  obtain ⟨a, e0, -, -⟩ := Go.DataW.trod_int hj g0
  obtain ⟨b, e1, -, -⟩ := Go.DataW.trod_int hj g1
  simp at e0 e1
  refine ⟨a, b, ?_⟩
  apply Array.toList_inj.1
  rw [hc, e0, e1]
theorem ratio_arg {H : Type} {enc : TypeId × Value → H} {W : World} {fuel : Nat} {cs : Array Value} {x : DataW H × List MemPlace} (h : DataW.trod enc Try.prog W 0 (fun _ => true) true fuel 23 cs.toList = some x) :
    ∃ a b : Int, cs = #[.int .i64 a, .int .i64 b] := ratio_gen Try.underlying23 Try.underlying2 cellsI64 cellsRatio ⟨rfl, rfl⟩ ⟨rfl, rfl⟩ h

/-! ### THE ROW's STEP -/
set_option maxRecDepth 100000 in
theorem lifted (os : Os) (started : os.Started) (H : Type) (enc : TypeId × Value → H) :
    ReturnsInHanded {} Try.checked os 4 .any (Rows.oddsSimplesSpec.pre6 enc Try.prog Try.f4 Rows.oddsSimplesRow.domain false) (Rows.oddsSimplesSpec.post enc Try.prog Try.f4 false true false false) := by
  refine returnsInHanded_of_change (C := Try.checked) own started (by kernel_rfl) Try.func4
    (ChangeSpec.witness6 (enc := enc) (C := Try.checked) false ⟨#[], #[.agg #[.int .i64 0, .int .i64 0], .agg #[.int .i64 0, .int .i64 0]], []⟩ 8 (by kernel_rfl) (by kernel_rfl) (by kernel_rfl) (by kernel_rfl)) ?_
  intro W base args ds gs before hval0 hW hcnd _
  have hval : ∀ (j : Nat) t v, Try.f4.params[j]? = some t → args[j]? = some v → Value.okWide Try.prog W .any base t v := hval0
  have hW' := hW
  obtain ⟨p, q, hA0, hV, rfl, hfz, hnd⟩ := hW
  have hA : DataW.TrodAll enc Try.prog W 0 (fun _ => true) true Try.f4.params.toList args.toList ds p := hA0
  rw [Try.params4] at hA hval
  obtain ⟨v0, v1, d0, d1, p0, p1, rfl, rfl, rfl, h0, h1⟩ := trodAll_two hA
  obtain ⟨rfl, rfl⟩ := trodVars_none hV
  obtain ⟨cs0, rfl, -⟩ := okWide_struct Try.underlying23 (hval 0 23 v0 rfl rfl)
  obtain ⟨cs1, rfl, -⟩ := okWide_struct Try.underlying23 (hval 1 23 v1 rfl rfl)
  have h0k := h0
  have h1k := h1
  obtain ⟨f0, hf0⟩ := h0
  obtain ⟨f1, hf1⟩ := h1
  obtain ⟨x0, y0, e0⟩ := ratio_arg (cs := cs0) hf0
  subst e0
  obtain ⟨x1, y1, e1⟩ := ratio_arg (cs := cs1) hf1
  subst e1
  clear hA0 hval0
  simp only [List.append_nil] at hW'
  have hlt0 : ∀ x ∈ p0, x.block < W.heap.size := fun x hx => by simpa using hW'.lt x (by simp [hx])
  have hlt1 : ∀ x ∈ p1, x.block < W.heap.size := fun x hx => by simpa using hW'.lt x (by simp [hx])
  refine (OddsSimples_any W x0 y0 x1 y1).mono fun e W' ⟨he, hg⟩ => ?_
  subst he
  exact ⟨_, rfl, _, _, _, [], p0 ++ p1, [], hW', trodAll_cons_mk (shut_bool Try.underlying4 _) trodAll_mk0,
    trodAll_mk2 (Below.trod laidOut (by kernel_rfl) (of_decide_eq_true (by kernel_rfl)) h0k hg hlt0) (Below.trod laidOut (by kernel_rfl) (of_decide_eq_true (by kernel_rfl)) h1k hg hlt1),
    rfl, hg.frame _, fun h => by cases h⟩

theorem over : Rows.oddsSimplesRow.holds Try.pinned (OpenSpec.ofChange Rows.oddsSimplesSpec) :=
  OpenClaim.holds_of_wide 4 Try.f4 rfl rfl rfl rfl rfl rfl rfl ⟨rfl, rfl, rfl, rfl, rfl⟩ rfl rfl rfl rfl rfl (by kernel_rfl) Try.func4 (by kernel_rfl)
    (of_decide_eq_true (by kernel_rfl)) (by unfold Func.isWrapper; first | (rw [if_pos (by decide +kernel)]; kernel_rfl) | (rw [if_neg (by decide +kernel)]; exact ⟨rfl, rfl⟩))
    (fun os started H enc _ => lifted os started H enc)

/-- The statement. -/
theorem proved : Rows.OddsSimplesSaid :=
  over
#print axioms proved
end Go.Proofs.Ytfidkgpimlpdbaa.oddsSimples
