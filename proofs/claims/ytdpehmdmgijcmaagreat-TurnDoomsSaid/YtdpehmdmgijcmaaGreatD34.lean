/- TurnDooms answers true whatever the hall, the state and the steps; the arguments read behind the call as they did. No condition. -/
import Derived.Test.YtdpehmdmgijcmaaGreatD33
import Derived.Test.YtdpehmdmgijcmaaGreatRows
import Derived.WalkKit
import Derived.ProofKit
import Derived.OpenShut
import Derived.Carry
import Derived.Deep.Slices
import Derived.ChangeSame

/- TurnDooms answers true whatever the hall, the state and the steps; the arguments read behind the call as they did. No condition. -/
namespace Go.Proofs.YtdpehmdmgijcmaaGreat.turnDooms
open Go.ChangeShapes Go.WideShapes Go.ChangeAt Go.RowKit

theorem own : ownKnob Tryz.prog.godebug = none := by kernel_rfl
theorem laidOut : laidOutB Tryz.prog = true := by kernel_rfl
theorem cellsInt : Tryz.prog.cellsOf 3 = 1 := by kernel_rfl
theorem cellsHall : Tryz.prog.cellsOf 24 = 1 := by kernel_rfl

/-- A slice of ints among the arguments. -/
theorem ints_arg {H : Type} {enc : TypeId × Value → H} {W : World} {fuel : Nat} {v : Value} {x : DataW H × List MemPlace} (h : DataW.trod enc Tryz.prog W 0 (fun _ => true) true fuel 22 [v] = some x) :
    ∃ A n c xs, v = .slice A n c ∧ IntsAt W W.heap.size A n xs := by
  rcases open_ints Tryz.underlying22 Tryz.underlying3 cellsInt h with ⟨hcs, -⟩ | ⟨a, n, c, zs, hcs, -, hl, hm, hz, -, hcell, -⟩
  · obtain rfl : v = .slice none 0 0 := by simpa using hcs
    exact ⟨none, 0, 0, [], rfl, IntsAt.nil⟩
  · obtain rfl : v = .slice (some a) n c := by simpa using hcs
    have hz : zs.length = c := by simpa using hz
    refine ⟨some a, n, c, zs.take n, rfl, by rw [List.length_take]; omega, by simp only [maxLen] at hm; omega, fun h0 => ?_⟩
    obtain ⟨b, off, rfl, hc⟩ := Go.ints_at hcell (by omega)
    refine ⟨b, off, rfl, ?_, fun j hj => ?_⟩
    · rcases Nat.lt_or_ge b W.heap.size with hb | hb
      · exact hb
      · have := hc 0 (by omega)
        simp [World.cell?, Array.getElem?_eq_none hb] at this
    · rw [hc j (by omega), List.getElem?_take, if_pos hj, List.getD_eq_getElem?_getD]
theorem cellsInts : Tryz.prog.cellsOf 22 = 1 := by kernel_rfl
theorem cellsI64 : Tryz.prog.cellsOf 2 = 1 := by kernel_rfl
theorem cellsStep : Tryz.prog.cellsOf 36 = 2 := by kernel_rfl
theorem cells_two {W : World} {a : Addr} {cs : List Value} (h : W.cells? 0 a 2 = some cs) : ∃ c0 c1, cs = [c0, c1] ∧ W.cell? a = some c0 ∧ W.cell? (a.add 1) = some c1 := by
  have r2 : List.range 2 = [0, 1] := rfl
  have a0 : a.add 0 = a := by simp [Addr.add]
  unfold World.cells? at h
  rw [if_pos (Nat.zero_le _), r2] at h
  cases h0 : W.cell? a with
  | none => simp [a0, h0] at h
  | some c0 =>
    cases h1 : W.cell? (a.add 1) with
    | none => simp [a0, h0, h1] at h
    | some c1 =>
      simp [a0, h0, h1] at h
      exact ⟨c0, c1, h.symm, rfl, rfl⟩
/-- A slice of steps among the arguments. -/
theorem steps_arg {H : Type} {enc : TypeId × Value → H} {W : World} {fuel : Nat} {v : Value} {x : DataW H × List MemPlace} (h : DataW.trod enc Tryz.prog W 0 (fun _ => true) true fuel 34 [v] = some x) :
    ∃ A n c ss, v = .slice A n c ∧ StepsAt W W.heap.size A n ss := by
  rcases Go.Deep.open_slice Tryz.underlying34 h with ⟨hcs, -⟩ | ⟨a, len, cap, m, n', D, Pl, hcs, -, hl, hm, hmm, -, hel⟩
  · obtain rfl : v = .slice none 0 0 := by simpa using hcs
    exact ⟨none, 0, 0, [], rfl, rfl, by omega, fun h => absurd h (by omega)⟩
  · obtain rfl : v = .slice (some a) len cap := by simpa using hcs
    have hmc : m = cap := by simpa using hmm
    have each : ∀ i, i < len → ∃ s : List Int × Int, ∃ A' m' c', W.cell? (a.add (i * 2)) = some (.slice A' m' c') ∧ W.cell? (a.add (i * 2 + 1)) = some (.int .i64 s.2) ∧ IntsAt W W.heap.size A' m' s.1 := by
      intro i hi
      obtain ⟨cs', h1, h2⟩ := hel i (by omega)
      rw [cellsStep] at h1
      obtain ⟨c0, c1, rfl, e0, e1⟩ := cells_two h1
      obtain ⟨y0, y1, n2, -, -, t0, t1⟩ := trod_struct2 Tryz.underlying36 h2
      simp only [cellsInts, cellsI64, List.drop_zero, List.drop_succ_cons, List.take_succ_cons, List.take_zero] at t0 t1
      obtain ⟨A', m', c', xs, rfl, hi'⟩ := ints_arg (v := c0) t0
      obtain ⟨z1, hz1, -, w1⟩ := DataW.trod_int Tryz.underlying2 t1
      obtain rfl : c1 = .int .i64 z1 := by simpa using hz1
      rw [Go.Deep.add_add] at e1
      exact ⟨(xs, z1), A', m', c', e0, e1, hi'⟩
    obtain ⟨fx, hfx⟩ := Go.Deep.choose_lt each
    refine ⟨some a, len, cap, (List.range len).map fx, rfl, by simp, by simp only [maxLen] at hm; omega, fun h0 => ?_⟩
    obtain ⟨b, off, spot⟩ := a
    obtain ⟨A0, m0, c0, hc0, -⟩ := hfx 0 h0
    have hspot : spot = none := by simpa [Addr.add] using World.cell?_spot hc0
    subst hspot
    refine ⟨b, off, rfl, ?_, fun j s hs => ?_⟩
    · rcases Nat.lt_or_ge b W.heap.size with hb | hb
      · exact hb
      · simp [World.cell?, Addr.add, Array.getElem?_eq_none hb] at hc0
    · rw [List.getElem?_map] at hs
      rcases Nat.lt_or_ge j len with hj | hj
      · rw [List.getElem?_range hj] at hs
        obtain rfl : fx j = s := by simpa using hs
        obtain ⟨A', m', c', e0, e1, hi'⟩ := hfx j hj
        rw [Go.WideShapes.add_plain] at e0 e1
        exact ⟨A', m', c', e0, e1, hi'⟩
      · rw [List.getElem?_eq_none (by simpa using hj)] at hs
        cases hs

/-! ### THE ROW's STEP -/
set_option maxRecDepth 100000 in
theorem lifted (os : Os) (started : os.Started) (H : Type) (enc : TypeId × Value → H) :
    ReturnsInHanded {} Tryz.checked os 4 .any (Rows.turnDoomsSpec.pre6 enc Tryz.prog Tryz.f4 Rows.turnDoomsRow.domain false) (Rows.turnDoomsSpec.post enc Tryz.prog Tryz.f4 false true false false) := by
  refine returnsInHanded_of_change (C := Tryz.checked) own started (by kernel_rfl) Tryz.func4
    (ChangeSpec.witness6 (enc := enc) (C := Tryz.checked) false ⟨#[], #[.agg #[.slice none 0 0], .slice none 0 0, .slice none 0 0], []⟩ 8 (by kernel_rfl) (by kernel_rfl) (by kernel_rfl) (by kernel_rfl)) ?_
  intro W base args ds gs before hval0 hW hcnd _
  have hval : ∀ (j : Nat) t v, Tryz.f4.params[j]? = some t → args[j]? = some v → Value.okWide Tryz.prog W .any base t v := hval0
  have hW' := hW
  obtain ⟨p, q, hA0, hV, rfl, hfz, hnd⟩ := hW
  have hA : DataW.TrodAll enc Tryz.prog W 0 (fun _ => true) true Tryz.f4.params.toList args.toList ds p := hA0
  rw [Tryz.params4] at hA hval
  obtain ⟨v0, v1, v2, d0, d1, d2, p0, p1, p2, rfl, rfl, rfl, h0, h1, h2⟩ := trodAll_three hA
  obtain ⟨rfl, rfl⟩ := trodVars_none hV
  obtain ⟨cs0, rfl, hsz0⟩ := okWide_struct Tryz.underlying24 (hval 0 24 v0 rfl rfl)
  obtain ⟨e0, rfl⟩ : ∃ c0, cs0 = #[c0] := by
    rw [cellsHall] at hsz0
    exact Array.size_eq_one_iff.1 hsz0
  obtain ⟨A1, n1, c1, rfl⟩ := okWide_slice Tryz.underlying22 (hval 1 22 v1 rfl rfl)
  obtain ⟨A2, n2, c2, rfl⟩ := okWide_slice Tryz.underlying34 (hval 2 34 v2 rfl rfl)
  have h0k := h0
  have h1k := h1
  have h2k := h2
  obtain ⟨f0, hf0⟩ := h0
  obtain ⟨f1, hf1⟩ := h1
  obtain ⟨f2, hf2⟩ := h2
  obtain ⟨y0, m0, -, -, hy0⟩ := trod_struct1 Tryz.underlying24 hf0
  obtain ⟨A0, n0, c0, x0, rfl, i0⟩ := ints_arg (v := e0) hy0
  obtain ⟨A1', n1', c1', x1, e1, i1⟩ := ints_arg hf1
  cases e1
  obtain ⟨A2', n2', c2', x2, e2, i2⟩ := steps_arg hf2
  cases e2
  clear hA0 hval0
  simp only [List.append_nil] at hW'
  have hlt0 : ∀ x ∈ p0, x.block < W.heap.size := fun x hx => by simpa using hW'.lt x (by simp [hx])
  have hlt1 : ∀ x ∈ p1, x.block < W.heap.size := fun x hx => by simpa using hW'.lt x (by simp [hx])
  have hlt2 : ∀ x ∈ p2, x.block < W.heap.size := fun x hx => by simpa using hW'.lt x (by simp [hx])
  refine (TurnDooms_any W _ _ _ A0 A1 A2 n0 c0 n1 c1 n2 c2 x0 x1 x2 i0 (Nat.le_refl _) i1 (Nat.le_refl _) i2 (Nat.le_refl _)).mono fun e W' ⟨he, hg⟩ => ?_
  subst he
  exact ⟨_, rfl, _, _, _, [], p0 ++ (p1 ++ p2), [], hW', trodAll_cons_mk (shut_bool Tryz.underlying4 _) trodAll_mk0,
    trodAll_mk3 (Below.trod laidOut (by kernel_rfl) (of_decide_eq_true (by kernel_rfl)) h0k hg hlt0) (Below.trod laidOut (by kernel_rfl) (of_decide_eq_true (by kernel_rfl)) h1k hg hlt1) (Below.trod laidOut (by kernel_rfl) (of_decide_eq_true (by kernel_rfl)) h2k hg hlt2),
    rfl, hg.frame _, fun h => by cases h⟩

theorem over : Rows.turnDoomsRow.holds Tryz.pinned (OpenSpec.ofChange Rows.turnDoomsSpec) :=
  OpenClaim.holds_of_wide 4 Tryz.f4 rfl rfl rfl rfl rfl rfl rfl ⟨rfl, rfl, rfl, rfl, rfl⟩ rfl rfl rfl rfl rfl (by kernel_rfl) Tryz.func4 (by kernel_rfl)
    (of_decide_eq_true (by kernel_rfl)) (by unfold Func.isWrapper; first | (rw [if_pos (by decide +kernel)]; kernel_rfl) | (rw [if_neg (by decide +kernel)]; exact ⟨rfl, rfl⟩))
    (fun os started H enc _ => lifted os started H enc)

/-- The statement. -/
theorem proved : Rows.TurnDoomsSaid :=
  over
#print axioms proved
end Go.Proofs.YtdpehmdmgijcmaaGreat.turnDooms
