/- Parts of a proof: AK AL AM. -/
import Derived.Test.YthjgecblkagelaaGreatM11

/- CheckCircle, Play. -/
namespace Go.Proofs.YthjgecblkagelaaGreat
open Go.RowKit Go.Shelf

attribute [local go_sem] Oper.semAt_some

def checkCircleF (ts row : List Int) : Int := if checkHallF ts ≠ 0 then checkHallF ts else if withinF 1 1000 [(row.length : Int)] = false then 6 else if withinF 0 ((ts.length : Int) - 1) row = false then 2 else if circleF ts row then 0 else 17

set_option maxRecDepth 100000 in
set_option maxHeartbeats 4000000 in
theorem CheckCircle_any (w : World) (B B2 : Nat) (A A2 : Option Addr) (n c m d : Nat) (ts row : List Int) (hx : IntsAt w B A n ts) (hB : B ≤ w.heap.size) (hr : IntsAt w B2 A2 m row) (hB2 : B2 ≤ w.heap.size) :
    Calls Tryz.prog 29 #[.agg #[.slice A n c], .slice A2 m d] w fun e w' => e = .returned (.int .i64 (checkCircleF ts row)) ∧ Below w.heap.size w w' := by
  have hb0 : Below w.heap.size w (w.alloc (.cells #[.slice A n c] 24)) := (Below.refl _ w).alloc (Nat.le_refl _) _
  have x0 := Boxed.new w 24 (.slice A n c)
  have Hn := Lib.hid (And.intro hx.len (And.intro hr.len (And.intro hx.small hr.small)))
  go_enter Tryz.func29, Tryz.ntmps29
  go_wp2_with (fail)
  refine (checkHall_any _ B A n c ts (hx.below hb0 hB) (by have := hb0.size; omega)).mono ?_
  rintro e w2 ⟨rfl, hb⟩
  have hB1 := hb0.trans (hb.mono hb0.size)
  have y0 := bxBelow x0 hb x0.lt
  have c0 := y0.cell
  clear hb hb0 x0
  by_cases h0 : checkHallF ts = 0
  · have Hv := Lib.hid (And.intro (valid_of h0) h0)
    rw [h0]
    clear h0
    have hBz := hB1.size
    have x1 := Boxed.new w2 57 (.slice A n c)
    have hB2' := hB1.alloc hBz (.cells #[.slice A n c] 57)
    have hB3 := hB2'.alloc hB2'.size (.cells #[.int .i64 (m : Int)] 3)
    have x2 : Boxed ((w2.alloc (.cells #[.slice A n c] 57)).alloc (.cells #[.int .i64 (m : Int)] 3)) w2.heap.size 57 (.slice A n c) := x1.alloc _
    have ho := one_int ((w2.alloc (.cells #[.slice A n c] 57)).alloc (.cells #[.int .i64 (m : Int)] 3)) (w2.heap.size + 2) (w2.heap.size + 1) (m : Int) (by omega) (by simp)
    have hsm := hr.small
    go_wp2_with (fail)
    refine (within_any 1 1000 _ (w2.heap.size + 2) _ 1 1 [(m : Int)] ho (by simp)).mono ?_
    rintro e w3 ⟨rfl, hb⟩
    have hB4 := hB3.trans (hb.mono hB3.size)
    have x3 := bxBelow x2 hb x2.lt
    have c1 := x3.cell
    clear hb x1 x2 ho hB3 hB2'
    have hcf : checkCircleF ts row = if withinF 1 1000 [(m : Int)] = false then 6 else if withinF 0 ((n : Int) - 1) row = false then 2 else if circleF ts row then 0 else 17 := by
      unfold checkCircleF
      rw [if_neg (by simp [Hv.out.2]), Hn.out.1, Hn.out.2.1]
    cases hw1 : withinF 1 1000 [(m : Int)]
    · rw [hw1, if_pos rfl] at hcf
      have Hcf := Lib.hid hcf
      clear hcf hw1
      go_wp2_with (fail)
      go_ret
      exact ⟨ret_int Hcf.out.symm, hB4⟩
    · rw [hw1, if_neg (by simp)] at hcf
      have Hcf := Lib.hid hcf
      clear hcf hw1
      go_wp2_with (fail)
      refine (areWindows_any _ B2 A A2 n c m d row Hn.out.2.2.1 (hr.below hB4 hB2) (by have := hB4.size; omega)).mono ?_
      rintro e w4 ⟨rfl, hb⟩
      have hB5 := hB4.trans (hb.mono hB4.size)
      have x4 := bxBelow x3 hb x3.lt
      clear c1
      have c1 := x4.cell
      have hcf := Hcf.out
      cases hw2 : withinF 0 ((n : Int) - 1) row
      · rw [hw2, if_pos rfl] at hcf
        have Hcf := Lib.hid hcf
        clear hcf hw2
        go_wp2_with (fail)
        go_ret
        exact ⟨ret_int Hcf.out.symm, hB5⟩
      · rw [hw2, if_neg (by simp)] at hcf
        have Hcf := Lib.hid (And.intro hcf hw2)
        clear hcf hw2
        go_wp2_with (fail)
        refine (isCircle_any w4 B B2 A A2 n c m d ts row (hx.below hB5 hB) (by have := hB5.size; omega) (hr.below hB5 hB2) (by have := hB5.size; omega) Hv.out.1 Hcf.out.2).mono ?_
        rintro e w5 ⟨rfl, hb5⟩
        have hB6 := hB5.trans (hb5.mono hB5.size)
        have hcf := Hcf.out.1
        cases hc : circleF ts row
        · rw [hc] at hcf
          have Hcf := Lib.hid hcf
          clear hcf hc
          go_wp2_with (fail)
          go_ret
          exact ⟨ret_int (by rw [Hcf.out]; simp), hB6⟩
        · rw [hc] at hcf
          have Hcf := Lib.hid hcf
          clear hcf hc
          go_wp2_with (fail)
          go_ret
          exact ⟨ret_int (by rw [Hcf.out]; simp), hB6⟩
  · have hcf : checkCircleF ts row = checkHallF ts := by unfold checkCircleF; rw [if_pos h0]
    obtain ⟨r, hrr⟩ : ∃ r, r = checkHallF ts := ⟨_, rfl⟩
    rw [← hrr] at h0 hcf ⊢
    have Hcf := Lib.hid hcf
    clear hcf hrr
    go_wp2_with (fail)
    go_ret
    exact ⟨ret_int Hcf.out.symm, hB1⟩

def playR (ts ss row : List Int) : List Int × Int × Int :=
  if statedF ts ss ≠ 0 then ([], 0, statedF ts ss) else if 1000 < row.length then ([], 0, 6) else if withinF 0 ((ts.length : Int) - 1) row = false then ([], 0, 2)
  else match playL ts row (plOf ss) with | none => ([], playN ts row (plOf ss), 17) | some q => (plList q, row.length, 0)
theorem Play_results (W : World) (tmps : Array Value) (x y z : Value) (t2 : tmps.getD 6 undef = x) (t3 : tmps.getD 7 undef = y) (t4 : tmps.getD 8 undef = z) : (results Tryz.f28 tmps).run Tryz.prog W = .ok (.tuple #[x, y, z]) W := by
  simp only [Array.getD_eq_getD_getElem?] at t2 t3 t4
  simp [results, Tryz.results28, go_sem, t2, t3, t4]

set_option maxRecDepth 100000 in
set_option maxHeartbeats 4000000 in
theorem Play_any (w : World) (B1 B2 B3 : Nat) (A1 A2 A3 : Option Addr) (n c m d k f : Nat) (ts ss row : List Int) (h1 : IntsAt w B1 A1 n ts) (hB1 : B1 ≤ w.heap.size) (h2 : IntsAt w B2 A2 m ss) (hB2 : B2 ≤ w.heap.size) (h3 : IntsAt w B3 A3 k row) (hB3 : B3 ≤ w.heap.size) :
    Calls Tryz.prog 28 #[.agg #[.slice A1 n c], .slice A2 m d, .slice A3 k f] w (TurnPost w (playR ts ss row)) := by
  have hb0 : Below w.heap.size w (w.alloc (.cells #[.slice A1 n c] 24)) := (Below.refl _ w).alloc (Nat.le_refl _) _
  have x0 := Boxed.new w 24 (.slice A1 n c)
  have Hn := Lib.hid (And.intro h1.len h3.len)
  have hsk := h3.small
  go_enter Tryz.func28, Tryz.ntmps28
  go_wp2_with (fail)
  refine (checkState_any _ B1 B2 A1 A2 n c m d ts ss (h1.below hb0 hB1) (by have := hb0.size; omega) (h2.below hb0 hB2) (by have := hb0.size; omega)).mono ?_
  rintro e w2 ⟨rfl, hb⟩
  have hB := hb0.trans (hb.mono hb0.size)
  have y0 := bxBelow x0 hb x0.lt
  have c0 := y0.cell
  clear hb hb0 x0
  by_cases hr : statedF ts ss = 0
  · obtain ⟨hv, hl, hg⟩ := stated_valid hr
    have hr1 : playR ts ss row = if 1000 < k then (([], 0, 6) : List Int × Int × Int) else if withinF 0 ((n : Int) - 1) row = false then ([], 0, 2) else match playL ts row (plOf ss) with | none => ([], playN ts row (plOf ss), 17) | some q => (plList q, row.length, 0) := by
      unfold playR
      rw [if_neg (by simp [hr]), Hn.out.1, Hn.out.2]
    rw [hr]
    have Hr := Lib.hid (And.intro hr1 (And.intro hv (And.intro hl hg)))
    clear hr hr1 hv hl hg
    have hBz := hB.size
    have x1 := Boxed.new w2 57 (.slice A1 n c)
    have hB' : Below w.heap.size w (w2.alloc (.cells #[.slice A1 n c] 57)) := hB.alloc hBz _
    have c1 := x1.cell
    by_cases hk : 1000 < k
    · have hr2 : playR ts ss row = ([], 0, 6) := by rw [Hr.out.1, if_pos hk]
      have Hr2 := Lib.hid hr2
      clear hr2
      go_wp2_with (fail)
      refine bodyPost_ret (v := .tuple #[.slice none 0 0, .int .i64 0, .int .i64 6]) (Play_results _ _ _ _ _ (by simp) (by simp) (by simp)) rfl ?_
      exact TurnPost.none Hr2.out hB'
    · have hr2 := Hr.out.1
      rw [if_neg hk] at hr2
      have Hr2 := Lib.hid hr2
      clear hr2
      go_wp2_with (fail)
      refine (areWindows_any _ B3 A1 A3 n c k f row h1.small (h3.below hB' hB3) (by have := hB'.size; omega)).mono ?_
      rintro e w5 ⟨rfl, hb⟩
      have hB5' := hB'.trans (hb.mono hB'.size)
      have x13 := bxBelow x1 hb x1.lt
      clear hb hB' x1 c1
      have c1 := x13.cell
      have hr2 := Hr2.out
      cases hw1 : withinF 0 ((n : Int) - 1) row
      · rw [hw1, if_pos rfl] at hr2
        have Hr2 := Lib.hid hr2
        clear hw1 hr2
        go_wp2_with (fail)
        refine bodyPost_ret (v := .tuple #[.slice none 0 0, .int .i64 0, .int .i64 2]) (Play_results _ _ _ _ _ (by simp) (by simp) (by simp)) rfl ?_
        exact TurnPost.none Hr2.out hB5'
      · rw [hw1, if_neg (by simp)] at hr2
        have Hr2 := Lib.hid hr2
        have Hw2 := Lib.hid hw1
        clear hw1 hr2
        obtain ⟨q, x, hform, hcase⟩ := playRes_form ts row (plOf ss)
        have Hc := Lib.hid hcase
        have hz5 := x13.lt
        clear hcase
        go_wp2_with (fail)
        refine region_held_wp 1 (fun W' => W'.cell? ⟨w2.heap.size, 0, none⟩ = some (.slice A1 n c)) (fun _ => true) (by kernel_rfl) ?_
        intro KR hKR
        have hfin : ∀ (b13 : Nat) (W : World), PlAt W b13 q → Below w.heap.size w W → W.cell? ⟨w2.heap.size, 0, none⟩ = some (.slice A1 n c) → KR { tmps := #[.agg #[.slice A1 n c], .slice A2 m d, .slice A3 k f, .pointer (some ⟨w.heap.size, 0, none⟩), undef, undef, .slice none 0 0, .int .i64 0, .int .i64 0, .int .i64 0, .pointer (some ⟨w2.heap.size, 0, none⟩), .pointer (some ⟨b13, 0, none⟩), .int .i64 x, .agg #[.slice A1 n c], .slice A2 m d, .int .i64 0, .int .i64 0, .bool false, undef, .agg #[.slice A1 n c], .agg #[.slice A1 n c], .slice A3 k f, .int .i64 (k : Int), .bool (decide (1000 < (k : Int))), .agg #[.slice A1 n c], .slice A3 k f, .bool true, .bool false, .tuple #[plv q, .int .i64 x], .agg #[.slice A1 n c], .slice A2 m d, plv (plOf ss), .slice A3 k f, .tuple #[plv q, .int .i64 x], plv q, .int .i64 x, undef, undef, undef, undef, undef, undef, undef, undef], defers := [] } W := by
          intro b13 W hpq hBW hcS
          refine hKR _ _ ?_
          obtain ⟨p0, p1, p2, p3, p4, p5⟩ := hpq.cells
          rcases Hc.out with ⟨hx1, hc⟩ | ⟨hx0, hx1, hc⟩
          · have hxm : x = (k : Int) := by rw [hx1, Hn.out.2]
            have hr3 : playR ts ss row = (plList q, (k : Int), 0) := by rw [Hr2.out, hc, Hn.out.2]
            have hqn : q.n = (n : Int) := by rw [(playL_good Hr.out.2.1 row _ q (fun i hi => by have := within_mem Hw2.out i hi; have := Hn.out.1; omega) Hr.out.2.2.2 hc).2, Hn.out.1]
            have Hr3 := Lib.hid (And.intro hr3 hqn)
            clear hc hr3 hx1 hqn
            subst hxm
            have hlt : ¬ (k : Int) < (k : Int) := by omega
            go_wp2_with (fail)
            refine (list_any W q n (by have := Hr.out.2.1.h1; have := Hn.out.1; omega) (by have := Hr.out.2.1.h5; have := Hn.out.1; omega) Hr3.out.2).mono ?_
            rintro e w9 ⟨A9, rfl, hl9, hb9⟩
            go_wp2_with (fail)
            refine bodyPost_ret (v := .tuple #[.slice A9 n n, .int .i64 (k : Int), .int .i64 0]) (Play_results _ _ _ _ _ (by simp) (by simp) (by simp)) rfl ?_
            unfold TurnPost
            rw [Hr3.out.1]
            exact ⟨_, rfl, ⟨A9, n, n, rfl, hl9⟩, hBW.trans (hb9.mono hBW.size)⟩
          · have hxm : x < (k : Int) := by have := Hn.out.2; omega
            have hr3 : playR ts ss row = ([], x, 17) := by rw [Hr2.out, hc, hx0]
            have Hr3 := Lib.hid hr3
            clear hx1 hc hr3 hx0
            go_wp2_with (fail)
            refine bodyPost_ret (v := .tuple #[.slice none 0 0, .int .i64 x, .int .i64 17]) (Play_results _ _ _ _ _ (by simp) (by simp) (by simp)) rfl ?_
            exact TurnPost.none Hr3.out hBW
        have hS : w5.drew.cell? ⟨w2.heap.size, 0, none⟩ = some (.slice A1 n c) := c1
        have hB6 : Below w.heap.size w w5.drew := hB5'.trans ⟨rfl, rfl, rfl, Nat.le_refl _, fun _ _ => rfl⟩
        refine wpAnyHI_takeD (i := 0) (v := .agg #[.slice A1 n c]) (some 29) rfl rfl (by kernel_rfl) (by kernel_rfl) (by kernel_rfl) (by kernel_rfl) (by kernel_rfl) (fun _ _ _ h => h) hS (.inl ⟨by rfl, fun W' hS' => ?_⟩) ?_
        · go_simp
        refine wpAnyHI_takeD (i := 1) (v := .slice A2 m d) (some 30) rfl rfl (by kernel_rfl) (by kernel_rfl) (by kernel_rfl) (by kernel_rfl) (by kernel_rfl) (fun _ _ _ h => h) hS (.inl ⟨by rfl, fun W' hS' => ?_⟩) ?_
        · go_simp
        refine wpAnyHI_takeD (i := 3) (v := .slice A3 k f) (some 32) rfl rfl (by kernel_rfl) (by kernel_rfl) (by kernel_rfl) (by kernel_rfl) (by kernel_rfl) (fun _ _ _ h => h) hS (.inl ⟨by rfl, fun W' hS' => ?_⟩) ?_
        · go_simp
        refine wpAnyHI_two (i := 2) (j := 8) rfl rfl (by kernel_rfl) ?_ ?_
        · intro K1 hK1
          go_simp
          refine ⟨trivial, (callsIn_wide.2 (placeOf_any w5.drew B2 A2 m d ss (h2.below hB6 hB2) (by have := hB6.size; omega) (by have h5 := Hr.out.2.1.h5; have := Hr.out.2.2.1; have := h2.len; omega))).mono ?_⟩
          rintro e w6 ⟨rfl, hb6⟩
          have hB7 := hB6.trans (hb6.mono hB6.size)
          have hS7 := (hb6.cell (p := ⟨w2.heap.size, 0, none⟩) hz5).trans hS
          have hz6 := hb6.size
          refine hK1 _ _ ⟨fun _ => hS7, ?_⟩
          clear hK1 K1
          refine wpAnyHI_two (i := 4) (j := 8) rfl rfl (by kernel_rfl) ?_ ?_
          · intro K1 hK1
            go_simp
            refine ⟨trivial, (callsIn_wide.2 (play_any w6 B1 A1 n c ts (h1.below hB7 hB1) (by have := hB7.size; omega) (by have := Hr.out.2.1.h5; have := Hn.out.1; omega) (fun j hj => Hr.out.2.1.h12 j (by have := Hn.out.1; omega)) (plOf ss) Hr.out.2.2.2.1 B3 A3 k f row (h3.below hB7 hB3) (by have := hB7.size; omega) Hw2.out)).mono ?_⟩
            rintro e w7 ⟨rfl, hb7⟩
            rw [hform]
            have hB8 := hB7.trans (hb7.mono hB7.size)
            have hS := (hb7.cell (p := ⟨w2.heap.size, 0, none⟩) (Nat.lt_of_lt_of_le hz5 hz6)).trans hS7
            have hz7 := hb7.size
            refine hK1 _ _ ⟨fun _ => hS, ?_⟩
            clear hK1 K1
            refine wpAnyHI_takeD (i := 5) (v := .tuple #[plv q, .int .i64 x]) (some 28) rfl rfl (by kernel_rfl) (by kernel_rfl) (by kernel_rfl) (by kernel_rfl) (by kernel_rfl) (fun _ _ _ h => h) hS (.inl ⟨by rfl, fun W' hS' => ?_⟩) ?_
            · go_simp
            refine wpAnyHI_takeD (i := 6) (v := plv q) (some 34) rfl rfl (by kernel_rfl) (by kernel_rfl) (by kernel_rfl) (by kernel_rfl) (by kernel_rfl) (fun _ _ _ h => h) hS (.inl ⟨by rfl, fun W' hS' => ?_⟩) ?_
            · go_simp
            refine wpAnyHI_takeD (i := 7) (v := .int .i64 x) (some 35) rfl rfl (by kernel_rfl) (by kernel_rfl) (by kernel_rfl) (by kernel_rfl) (by kernel_rfl) (fun _ _ _ h => h) hS (.inl ⟨by rfl, fun W' hS' => ?_⟩) ?_
            · go_simp
            refine wpAnyHI_one (i := 8) rfl (by kernel_rfl) ?_
            intro K1 hK1
            go_simp
            have hB8 := hB8.alloc hB8.size (.cells (plc ⟨0, 0, 0, 0, 0, 0⟩) 64)
            have hz8 : w2.heap.size < w7.heap.size := Nat.lt_of_lt_of_le hz5 (Nat.le_trans hz6 hz7)
            have hS8 : (w7.alloc (.cells (plc ⟨0, 0, 0, 0, 0, 0⟩) 64)).cell? ⟨w2.heap.size, 0, none⟩ = some (.slice A1 n c) := (World.cell?_alloc_lt _ _ _ hz8).trans hS
            refine hK1 _ _ ⟨fun _ => hS8, ?_⟩
            clear hK1 K1
            have hpl := PlAt.new w7 ⟨0, 0, 0, 0, 0, 0⟩
            generalize w7.alloc (.cells (plc ⟨0, 0, 0, 0, 0, 0⟩) 64) = W8 at *
            obtain ⟨p0, p1, p2, p3, p4, p5⟩ := hpl.cells
            obtain ⟨f0, f1, f2, f3, f4, f5⟩ := hpl.frozens
            refine wpAnyHI_one (i := 9) rfl (by kernel_rfl) ?_
            intro K1 hK1
            go_simp
            have hpq := hpl.store q
            have hS9 := (st6_cell W8 w7.heap.size w2.heap.size (by omega) (.int .i64 q.n) (.int .i64 q.a) (.int .i64 q.b) (.int .i64 q.c) (.int .i64 q.d) (.int .i64 q.e)).trans hS8
            have hB9 := st6_below (b := w7.heap.size) (x0 := .int .i64 q.n) (x1 := .int .i64 q.a) (x2 := .int .i64 q.b) (x3 := .int .i64 q.c) (x4 := .int .i64 q.d) (x5 := .int .i64 q.e) hB8 (by omega)
            refine hK1 _ _ ⟨fun _ => hS9, ?_⟩
            clear hK1 K1 p0 p1 p2 p3 p4 p5 f0 f1 f2 f3 f4 f5 hS8 hB8
            refine wpAnyHI_takeD (i := 10) (v := .int .i64 x) (some 12) rfl rfl (by kernel_rfl) (by kernel_rfl) (by kernel_rfl) (by kernel_rfl) (by kernel_rfl) (fun _ _ _ h => h) hS9 (.inl ⟨by rfl, fun W' hS' => ?_⟩) ?_
            · go_simp
            refine wpAnyHI_end (by kernel_rfl) ?_
            show KR _ _
            refine act_eq (K := KR) (a' := { tmps := #[.agg #[.slice A1 n c], .slice A2 m d, .slice A3 k f, .pointer (some ⟨w.heap.size, 0, none⟩), undef, undef, .slice none 0 0, .int .i64 0, .int .i64 0, .int .i64 0, .pointer (some ⟨w2.heap.size, 0, none⟩), .pointer (some ⟨w7.heap.size, 0, none⟩), .int .i64 x, .agg #[.slice A1 n c], .slice A2 m d, .int .i64 0, .int .i64 0, .bool false, undef, .agg #[.slice A1 n c], .agg #[.slice A1 n c], .slice A3 k f, .int .i64 (k : Int), .bool (decide (1000 < (k : Int))), .agg #[.slice A1 n c], .slice A3 k f, .bool true, .bool false, .tuple #[plv q, .int .i64 x], .agg #[.slice A1 n c], .slice A2 m d, plv (plOf ss), .slice A3 k f, .tuple #[plv q, .int .i64 x], plv q, .int .i64 x, undef, undef, undef, undef, undef, undef, undef, undef], defers := [] }) rfl ?_
            exact hfin _ _ hpq hB9 hS9
          · intro K1 hK1
            go_simp
            have hB7 := hB7.alloc hB7.size (.cells (plc ⟨0, 0, 0, 0, 0, 0⟩) 64)
            have hz8 : w2.heap.size < w6.heap.size := Nat.lt_of_lt_of_le hz5 hz6
            have hS7 : (w6.alloc (.cells (plc ⟨0, 0, 0, 0, 0, 0⟩) 64)).cell? ⟨w2.heap.size, 0, none⟩ = some (.slice A1 n c) := (World.cell?_alloc_lt _ _ _ hz8).trans hS7
            refine hK1 _ _ ⟨fun _ => hS7, ?_⟩
            clear hK1 K1
            have hp6 := PlAt.new w6 ⟨0, 0, 0, 0, 0, 0⟩
            generalize w6.alloc (.cells (plc ⟨0, 0, 0, 0, 0, 0⟩) 64) = V6 at *
            refine wpAnyHI_one (i := 4) rfl (by kernel_rfl) ?_
            intro K1 hK1
            go_simp
            refine ⟨trivial, (callsIn_wide.2 (play_any V6 B1 A1 n c ts (h1.below hB7 hB1) (by have := hB7.size; omega) (by have := Hr.out.2.1.h5; have := Hn.out.1; omega) (fun j hj => Hr.out.2.1.h12 j (by have := Hn.out.1; omega)) (plOf ss) Hr.out.2.2.2.1 B3 A3 k f row (h3.below hB7 hB3) (by have := hB7.size; omega) Hw2.out)).mono ?_⟩
            rintro e w7 ⟨rfl, hb7⟩
            rw [hform]
            have hB8 := hB7.trans (hb7.mono hB7.size)
            have hS8 := (hb7.cell (p := ⟨w2.heap.size, 0, none⟩) (Nat.lt_trans hz8 hp6.lt)).trans hS7
            have hpl := hp6.below hb7 hp6.lt
            refine hK1 _ _ ⟨fun _ => hS8, ?_⟩
            clear hK1 K1
            have hS := hS8
            generalize w7 = W8 at *
            refine wpAnyHI_takeD (i := 5) (v := .tuple #[plv q, .int .i64 x]) (some 28) rfl rfl (by kernel_rfl) (by kernel_rfl) (by kernel_rfl) (by kernel_rfl) (by kernel_rfl) (fun _ _ _ h => h) hS (.inl ⟨by rfl, fun W' hS' => ?_⟩) ?_
            · go_simp
            refine wpAnyHI_takeD (i := 6) (v := plv q) (some 34) rfl rfl (by kernel_rfl) (by kernel_rfl) (by kernel_rfl) (by kernel_rfl) (by kernel_rfl) (fun _ _ _ h => h) hS (.inl ⟨by rfl, fun W' hS' => ?_⟩) ?_
            · go_simp
            refine wpAnyHI_takeD (i := 7) (v := .int .i64 x) (some 35) rfl rfl (by kernel_rfl) (by kernel_rfl) (by kernel_rfl) (by kernel_rfl) (by kernel_rfl) (fun _ _ _ h => h) hS (.inl ⟨by rfl, fun W' hS' => ?_⟩) ?_
            · go_simp
            obtain ⟨p0, p1, p2, p3, p4, p5⟩ := hpl.cells
            obtain ⟨f0, f1, f2, f3, f4, f5⟩ := hpl.frozens
            refine wpAnyHI_one (i := 9) rfl (by kernel_rfl) ?_
            intro K1 hK1
            go_simp
            have hpq := hpl.store q
            have hS9 := (st6_cell W8 w6.heap.size w2.heap.size (by omega) (.int .i64 q.n) (.int .i64 q.a) (.int .i64 q.b) (.int .i64 q.c) (.int .i64 q.d) (.int .i64 q.e)).trans hS8
            have hB9 := st6_below (b := w6.heap.size) (x0 := .int .i64 q.n) (x1 := .int .i64 q.a) (x2 := .int .i64 q.b) (x3 := .int .i64 q.c) (x4 := .int .i64 q.d) (x5 := .int .i64 q.e) hB8 (by omega)
            refine hK1 _ _ ⟨fun _ => hS9, ?_⟩
            clear hK1 K1 p0 p1 p2 p3 p4 p5 f0 f1 f2 f3 f4 f5 hS8 hB8
            refine wpAnyHI_takeD (i := 10) (v := .int .i64 x) (some 12) rfl rfl (by kernel_rfl) (by kernel_rfl) (by kernel_rfl) (by kernel_rfl) (by kernel_rfl) (fun _ _ _ h => h) hS9 (.inl ⟨by rfl, fun W' hS' => ?_⟩) ?_
            · go_simp
            refine wpAnyHI_end (by kernel_rfl) ?_
            show KR _ _
            refine act_eq (K := KR) (a' := { tmps := #[.agg #[.slice A1 n c], .slice A2 m d, .slice A3 k f, .pointer (some ⟨w.heap.size, 0, none⟩), undef, undef, .slice none 0 0, .int .i64 0, .int .i64 0, .int .i64 0, .pointer (some ⟨w2.heap.size, 0, none⟩), .pointer (some ⟨w6.heap.size, 0, none⟩), .int .i64 x, .agg #[.slice A1 n c], .slice A2 m d, .int .i64 0, .int .i64 0, .bool false, undef, .agg #[.slice A1 n c], .agg #[.slice A1 n c], .slice A3 k f, .int .i64 (k : Int), .bool (decide (1000 < (k : Int))), .agg #[.slice A1 n c], .slice A3 k f, .bool true, .bool false, .tuple #[plv q, .int .i64 x], .agg #[.slice A1 n c], .slice A2 m d, plv (plOf ss), .slice A3 k f, .tuple #[plv q, .int .i64 x], plv q, .int .i64 x, undef, undef, undef, undef, undef, undef, undef, undef], defers := [] }) rfl ?_
            exact hfin _ _ hpq hB9 hS9
        · intro K1 hK1
          go_simp
          have hB6 : Below w.heap.size w (w5.alloc (.cells (plc ⟨0, 0, 0, 0, 0, 0⟩) 64)).drew := (hB5'.alloc hB5'.size (.cells (plc ⟨0, 0, 0, 0, 0, 0⟩) 64)).trans ⟨rfl, rfl, rfl, Nat.le_refl _, fun _ _ => rfl⟩
          have hS : (w5.alloc (.cells (plc ⟨0, 0, 0, 0, 0, 0⟩) 64)).drew.cell? ⟨w2.heap.size, 0, none⟩ = some (.slice A1 n c) := (World.cell?_alloc_lt w5 (.cells (plc ⟨0, 0, 0, 0, 0, 0⟩) 64) _ hz5).trans c1
          refine hK1 _ _ ⟨fun _ => hS, ?_⟩
          clear hK1 K1
          have hp5 : PlAt (w5.alloc (.cells (plc ⟨0, 0, 0, 0, 0, 0⟩) 64)).drew w5.heap.size ⟨0, 0, 0, 0, 0, 0⟩ := PlAt.new w5 ⟨0, 0, 0, 0, 0, 0⟩
          have hz9 : w2.heap.size < (w5.alloc (.cells (plc ⟨0, 0, 0, 0, 0, 0⟩) 64)).drew.heap.size := Nat.lt_trans hz5 hp5.lt
          generalize (w5.alloc (.cells (plc ⟨0, 0, 0, 0, 0, 0⟩) 64)).drew = V5 at *
          refine wpAnyHI_one (i := 2) rfl (by kernel_rfl) ?_
          intro K1 hK1
          go_simp
          refine ⟨trivial, (callsIn_wide.2 (placeOf_any V5 B2 A2 m d ss (h2.below hB6 hB2) (by have := hB6.size; omega) (by have h5 := Hr.out.2.1.h5; have := Hr.out.2.2.1; have := h2.len; omega))).mono ?_⟩
          rintro e w6 ⟨rfl, hb6⟩
          have hB7 := hB6.trans (hb6.mono hB6.size)
          have hS7 := (hb6.cell (p := ⟨w2.heap.size, 0, none⟩) hz9).trans hS
          have hp6 := hp5.below hb6 hp5.lt
          have hz10 : w2.heap.size < w6.heap.size := Nat.lt_of_lt_of_le hz9 hb6.size
          refine hK1 _ _ ⟨fun _ => hS7, ?_⟩
          clear hK1 K1
          refine wpAnyHI_one (i := 4) rfl (by kernel_rfl) ?_
          intro K1 hK1
          go_simp
          refine ⟨trivial, (callsIn_wide.2 (play_any w6 B1 A1 n c ts (h1.below hB7 hB1) (by have := hB7.size; omega) (by have := Hr.out.2.1.h5; have := Hn.out.1; omega) (fun j hj => Hr.out.2.1.h12 j (by have := Hn.out.1; omega)) (plOf ss) Hr.out.2.2.2.1 B3 A3 k f row (h3.below hB7 hB3) (by have := hB7.size; omega) Hw2.out)).mono ?_⟩
          rintro e w7 ⟨rfl, hb7⟩
          rw [hform]
          have hB8 := hB7.trans (hb7.mono hB7.size)
          have hS8 := (hb7.cell (p := ⟨w2.heap.size, 0, none⟩) hz10).trans hS7
          have hpl := hp6.below hb7 hp6.lt
          refine hK1 _ _ ⟨fun _ => hS8, ?_⟩
          clear hK1 K1
          have hS := hS8
          generalize w7 = W8 at *
          refine wpAnyHI_takeD (i := 5) (v := .tuple #[plv q, .int .i64 x]) (some 28) rfl rfl (by kernel_rfl) (by kernel_rfl) (by kernel_rfl) (by kernel_rfl) (by kernel_rfl) (fun _ _ _ h => h) hS (.inl ⟨by rfl, fun W' hS' => ?_⟩) ?_
          · go_simp
          refine wpAnyHI_takeD (i := 6) (v := plv q) (some 34) rfl rfl (by kernel_rfl) (by kernel_rfl) (by kernel_rfl) (by kernel_rfl) (by kernel_rfl) (fun _ _ _ h => h) hS (.inl ⟨by rfl, fun W' hS' => ?_⟩) ?_
          · go_simp
          refine wpAnyHI_takeD (i := 7) (v := .int .i64 x) (some 35) rfl rfl (by kernel_rfl) (by kernel_rfl) (by kernel_rfl) (by kernel_rfl) (by kernel_rfl) (fun _ _ _ h => h) hS (.inl ⟨by rfl, fun W' hS' => ?_⟩) ?_
          · go_simp
          obtain ⟨p0, p1, p2, p3, p4, p5⟩ := hpl.cells
          obtain ⟨f0, f1, f2, f3, f4, f5⟩ := hpl.frozens
          refine wpAnyHI_one (i := 9) rfl (by kernel_rfl) ?_
          intro K1 hK1
          go_simp
          have hpq := hpl.store q
          have hS9 := (st6_cell W8 w5.heap.size w2.heap.size (by omega) (.int .i64 q.n) (.int .i64 q.a) (.int .i64 q.b) (.int .i64 q.c) (.int .i64 q.d) (.int .i64 q.e)).trans hS8
          have hB9 := st6_below (b := w5.heap.size) (x0 := .int .i64 q.n) (x1 := .int .i64 q.a) (x2 := .int .i64 q.b) (x3 := .int .i64 q.c) (x4 := .int .i64 q.d) (x5 := .int .i64 q.e) hB8 (by omega)
          refine hK1 _ _ ⟨fun _ => hS9, ?_⟩
          clear hK1 K1 p0 p1 p2 p3 p4 p5 f0 f1 f2 f3 f4 f5 hS8 hB8
          refine wpAnyHI_takeD (i := 10) (v := .int .i64 x) (some 12) rfl rfl (by kernel_rfl) (by kernel_rfl) (by kernel_rfl) (by kernel_rfl) (by kernel_rfl) (fun _ _ _ h => h) hS9 (.inl ⟨by rfl, fun W' hS' => ?_⟩) ?_
          · go_simp
          refine wpAnyHI_end (by kernel_rfl) ?_
          show KR _ _
          refine act_eq (K := KR) (a' := { tmps := #[.agg #[.slice A1 n c], .slice A2 m d, .slice A3 k f, .pointer (some ⟨w.heap.size, 0, none⟩), undef, undef, .slice none 0 0, .int .i64 0, .int .i64 0, .int .i64 0, .pointer (some ⟨w2.heap.size, 0, none⟩), .pointer (some ⟨w5.heap.size, 0, none⟩), .int .i64 x, .agg #[.slice A1 n c], .slice A2 m d, .int .i64 0, .int .i64 0, .bool false, undef, .agg #[.slice A1 n c], .agg #[.slice A1 n c], .slice A3 k f, .int .i64 (k : Int), .bool (decide (1000 < (k : Int))), .agg #[.slice A1 n c], .slice A3 k f, .bool true, .bool false, .tuple #[plv q, .int .i64 x], .agg #[.slice A1 n c], .slice A2 m d, plv (plOf ss), .slice A3 k f, .tuple #[plv q, .int .i64 x], plv q, .int .i64 x, undef, undef, undef, undef, undef, undef, undef, undef], defers := [] }) rfl ?_
          exact hfin _ _ hpq hB9 hS9

  · have hr1 : playR ts ss row = ([], 0, statedF ts ss) := by unfold playR; rw [if_pos hr]
    obtain ⟨r, hrr⟩ : ∃ r, r = statedF ts ss := ⟨_, rfl⟩
    rw [← hrr] at hr hr1 ⊢
    have Hr := Lib.hid (And.intro hrr hr1)
    clear hrr hr1
    go_wp2_with (fail)
    refine bodyPost_ret (v := .tuple #[.slice none 0 0, .int .i64 0, .int .i64 r]) (Play_results _ _ _ _ _ (by simp) (by simp) (by simp)) rfl ?_
    exact TurnPost.none Hr.out.2 hB
end Go.Proofs.YthjgecblkagelaaGreat

/- steps, Doom. -/
namespace Go.Proofs.YthjgecblkagelaaGreat
open Go.RowKit Go.Shelf

attribute [local go_sem] Oper.semAt_some

abbrev RSt := List Pl × List (Pl × Bool)
def reachStep (s : RSt) (x : Nat × Pl) : RSt := if mget false s.2 x.2 = true then s else (s.1 ++ [x.2], mset x.2 true s.2)
def reachL (s : RSt) (l : List (Nat × Pl)) : RSt := l.foldl reachStep s
theorem reachL_snoc (s : RSt) (l : List (Nat × Pl)) (x : Nat × Pl) : reachL s (l ++ [x]) = reachStep (reachL s l) x := by simp [reachL]
theorem reachStep_seen {s : RSt} {x : Nat × Pl} (h : mget false s.2 x.2 = true) : reachStep s x = s := by unfold reachStep; rw [if_pos h]
theorem reachStep_new {s : RSt} {x : Nat × Pl} (h : mget false s.2 x.2 = false) : reachStep s x = (s.1 ++ [x.2], mset x.2 true s.2) := by unfold reachStep; rw [if_neg (by simp [h])]
def reachN (ts : List Int) (p : Pl) : Nat → RSt
  | 0 => ([p], [(p, true)])
  | k + 1 => match (reachN ts p k).1[k]? with | none => reachN ts p k | some q => reachL (reachN ts p k) (visitsF ts q)
theorem reachN_none {ts : List Int} {p : Pl} {k : Nat} (h : (reachN ts p k).1.length ≤ k) : reachN ts p (k + 1) = reachN ts p k := by rw [reachN, List.getElem?_eq_none h]
theorem reachN_some {ts : List Int} {p q : Pl} {k : Nat} (h : (reachN ts p k).1[k]? = some q) : reachN ts p (k + 1) = reachL (reachN ts p k) (visitsF ts q) := by rw [reachN, h]
theorem reachN_end {ts : List Int} {p : Pl} {N : Nat} (h : (reachN ts p N).1.length ≤ N) : ∀ k, N ≤ k → reachN ts p k = reachN ts p N := by
  intro k hk
  induction k with
  | zero =>
    obtain rfl : N = 0 := by omega
    rfl
  | succ k ih =>
    by_cases hkN : N = k + 1
    · rw [hkN]
    · have e := ih (by omega)
      rw [reachN_none (by rw [e]; omega), e]
theorem reachL_len : ∀ (l : List (Nat × Pl)) (s : RSt), (reachL s l).1.length ≤ s.1.length + l.length
  | [], _ => by simp [reachL]
  | x :: l, s => by
    have ih := reachL_len l (reachStep s x)
    have h1 : (reachStep s x).1.length ≤ s.1.length + 1 := by unfold reachStep; split <;> simp
    have e : reachL s (x :: l) = reachL (reachStep s x) l := rfl
    rw [e]
    simp
    omega
theorem reachL_mem : ∀ (l : List (Nat × Pl)) (s : RSt) (y : Pl), y ∈ (reachL s l).1 → y ∈ s.1 ∨ ∃ x ∈ l, y = x.2
  | [], _, y, h => .inl h
  | x :: l, s, y, h => by
    rcases reachL_mem l (reachStep s x) y h with h | ⟨z, hz, e⟩
    · unfold reachStep at h
      split at h
      · exact .inl h
      · simp at h
        rcases h with h | h
        · exact .inl h
        · exact .inr ⟨x, by simp, h⟩
    · exact .inr ⟨z, by simp [hz], e⟩
theorem reachN_good {ts : List Int} {p : Pl} (hv : Valid ts) (hp : PlGood ts p) : ∀ k, (∀ q ∈ (reachN ts p k).1, PlGood ts q) ∧ (reachN ts p k).1.length ≤ 1 + 5 * k
  | 0 => ⟨fun q hq => by
      have : q = p := by simpa [reachN] using hq
      exact this ▸ hp, by simp [reachN]⟩
  | k + 1 => by
    obtain ⟨i1, i2⟩ := reachN_good hv hp k
    cases hq : (reachN ts p k).1[k]? with
    | none =>
      rw [reachN_none (by simpa using hq)]
      exact ⟨i1, by omega⟩
    | some q =>
      rw [reachN_some hq]
      have hg := i1 q (List.mem_of_getElem? hq)
      refine ⟨fun y hy => ?_, ?_⟩
      · rcases reachL_mem _ _ y hy with h | ⟨x, hx, rfl⟩
        · exact i1 y h
        · exact visitsF_good hv hg hx
      · have h1 := reachL_len (visitsF ts q) (reachN ts p k)
        have h2 := visitsF_len (ts := ts) (p := q)
        have h3 := hv.h5
        omega
theorem reach_exists (ts : List Int) (p : Pl) : ∃ s, s = reachN ts p 1000 := ⟨_, rfl⟩
noncomputable def reachE (ts : List Int) (p : Pl) : RSt := Classical.choose (reach_exists ts p)
theorem reachE_eq (ts : List Int) (p : Pl) : reachE ts p = reachN ts p 1000 := Classical.choose_spec (reach_exists ts p)
def REnds (ts : List Int) (p : Pl) : Prop := (reachE ts p).1.length ≤ 1000
theorem REnds.of {ts : List Int} {p : Pl} {N : Nat} (h : (reachN ts p N).1.length ≤ N) (hN : N ≤ 1000) : REnds ts p ∧ reachE ts p = reachN ts p N := by
  have e := reachN_end h 1000 hN
  rw [← reachE_eq] at e
  exact ⟨by unfold REnds; rw [e]; omega, e⟩

/-- The steps of a doomed state. -/
def stepsF (m : List (Pl × Int)) (qs : List Pl) : List (List Int × Int) := qs.map fun q => (plList q, mget 0 m q + 1)
/-- A row of steps, its slices at these blocks. -/
def stepCells (gs : List Nat) (n : Nat) (m : List (Pl × Int)) (qs : List Pl) : List Value := (gs.zip qs).flatMap fun x => [.slice (some ⟨x.1, 0, none⟩) n n, .int .i64 (mget 0 m x.2 + 1)]
theorem stepCells_snoc (gs : List Nat) (n : Nat) (m : List (Pl × Int)) (qs : List Pl) (g : Nat) (q : Pl) (h : gs.length = qs.length) : stepCells (gs ++ [g]) n m (qs ++ [q]) = stepCells gs n m qs ++ [.slice (some ⟨g, 0, none⟩) n n, .int .i64 (mget 0 m q + 1)] := by
  unfold stepCells
  rw [List.zip_append h]
  simp
theorem stepCells_one (gs : List Nat) (n : Nat) (m : List (Pl × Int)) (qs : List Pl) : ∀ u ∈ stepCells gs n m qs, u.oneCell' = true := by
  intro u hu
  obtain ⟨x, -, hx⟩ := List.mem_flatMap.1 hu
  simp at hx
  rcases hx with rfl | rfl <;> rfl
/-- The memory holds these steps. -/
def StepsAt (w : World) (B : Nat) (A : Option Addr) (k : Nat) (ss : List (List Int × Int)) : Prop :=
  ss.length = k ∧ k ≤ 9223372036854775807 ∧ (0 < k → ∃ b off, A = some ⟨b, off, none⟩ ∧ b < B ∧ ∀ (j : Nat) (s : List Int × Int), ss[j]? = some s → ∃ A' m c, w.cell? ⟨b, off + j * 2, none⟩ = some (.slice A' m c) ∧ w.cell? ⟨b, off + j * 2 + 1, none⟩ = some (.int .i64 s.2) ∧ IntsAt w B A' m s.1)

/-- What the memory holds while states are reached. -/
structure StB (w : World) (B Bh Bp : Nat) (Ds : List Nat) (A : Option Addr) (n c ms ml : Nat) (s : RSt) (X : Nat → Prop) (W : World) : Prop where
  hX : ∀ k, X k → B ≤ k
  hz : B ≤ W.heap.size
  tb : TbAt W w.heap.size A n c ms ml
  mp : Boxed W (w.heap.size + 5) 109 (.map (some (w.heap.size + 4)))
  sn : MapAt Bool Value.bool W (w.heap.size + 4) s.2
  rw : ∃ v, Boxed W (w.heap.size + 3) 108 v ∧ W.ownsRow w.heap.size 64 6 v s.1.length (flat s.1) ∧ ∀ g, v.ownBlock = some g → ¬ X g ∧ g ≠ Bh ∧ g ≠ Bp ∧ ¬ (w.heap.size ≤ g ∧ g < w.heap.size + 2) ∧ ¬ (w.heap.size + 3 ≤ g ∧ g < w.heap.size + 6)
  mks : MarksAt w.heap.size Ds W
  bl : Below w.heap.size w W
theorem StB.st {w : World} {B Bh Bp : Nat} {Ds : List Nat} {A : Option Addr} {n c ms ml : Nat} {s : RSt} {X X' : Nat → Prop} {W W' : World} (h : StB w B Bh Bp Ds A n c ms ml s X W) (hst : St B X W W') (hgr : Grows X X' W)
    (hH : w.heap.size + 6 ≤ B) (hDs : ∀ D ∈ Ds, D < B) : StB w B Bh Bp Ds A n c ms ml s X' W' := by
  obtain ⟨v, v1, v2, v3⟩ := h.rw
  have hX := h.hX
  have hz := h.hz
  exact ⟨fun k hk => (hgr.2 k hk).elim (hX k) (fun h => by omega), Nat.le_trans hz hst.base.size, hst.tb h.tb (fun h => by have := hX _ h; omega), hst.bx h.mp (fun h => by have := hX _ h; omega), hst.mp h.sn (fun h => by have := hX _ h; omega) (by omega),
    ⟨v, hst.bx v1 (fun h => by have := hX _ h; omega), hst.row v2 (fun g hg => (v3 g hg).1), fun g hg => ⟨hgr.not (v3 g hg).1 (v2.lt g hg).2, (v3 g hg).2⟩⟩,
    h.mks.same (fun D hD hh => hst.same _ _ hh (fun h => by have := hX _ h; have := hDs D hD; omega) (.inr (hDs D hD))),
    h.bl.trans (hst.below (fun k hk => by have := hX k hk; omega) (by omega) h.bl.size)⟩
theorem StB.next {w : World} {B Bh Bp D : Nat} {Ds : List Nat} {A : Option Addr} {n c ms ml : Nat} {s : RSt} {X : Nat → Prop} {W : World} (h : StB w B Bh Bp Ds A n c ms ml s X W)
    (hH : w.heap.size + 6 ≤ B) (hD : B ≤ D) (hK : W.heap[D]? = some (.deferred (some []))) (hDs : ∀ D ∈ Ds, D < B) :
    StB w (w.heap.size + 6) w.heap.size w.heap.size (D :: Ds) A n c ms ml s noBlock W := by
  obtain ⟨v, v1, v2, v3⟩ := h.rw
  have hz := h.hz
  exact ⟨fun _ h => h.elim, by omega, h.tb, h.mp, h.sn, ⟨v, v1, v2, fun g hg => by
      have h1 := (v3 g hg).2.2.2
      exact ⟨fun h => h.elim, by omega, by omega, h1⟩⟩,
    MarksAt.cons h.mks (by omega) hK (fun hd => by have := hDs D hd; omega), h.bl⟩
theorem zeroBool (w : World) : (zeroValue 4).run Tryz.prog w = .ok (.bool false) w := by kernel_rfl

theorem infoStep : (Tryz.prog.info? 54).map (fun i => (i.zero, i.size, i.bytes)) = some (some (.agg #[.slice none 0 0, .int .i64 0]), 2, 32) := by kernel_rfl
theorem cells_not_row {W : World} {b : Nat} {cs : Array Value} {t : TypeId} {fr : Nat × Nat} (h : W.heap[b]? = some (.cells cs t fr)) {base size k : Nat} {e : TypeId} {v : Value} {xs : List Value} (hr : W.ownsRow base e size v k xs) (hte : t ≠ e) : ∀ g, v.ownBlock = some g → g ≠ b := by
  rintro g hg rfl
  rcases hr.2 with ⟨rfl, -⟩ | ⟨g', cap, cur, rfl, hb, hh, rest⟩
  · cases hg
  · cases hg
    rw [hh] at h
    cases h
    exact hte rfl
theorem rows_apart {W : World} {base base' size size' k k' : Nat} {e e' : TypeId} {v v' : Value} {xs xs' : List Value} (hr : W.ownsRow base e size v k xs) (hr' : W.ownsRow base' e' size' v' k' xs') (hte : e ≠ e') : v.ownBlock = none ∨ v.ownBlock ≠ v'.ownBlock := by
  rcases hr.2 with ⟨rfl, -⟩ | ⟨g, cap, cur, rfl, hb, hh, rest⟩
  · exact .inl rfl
  · refine .inr fun h => ?_
    exact cells_not_row hh hr' hte g h.symm rfl
theorem ints_heap {W W' : World} {B B' g n : Nat} {xs : List Int} (h : IntsAt W B (some ⟨g, 0, none⟩) n xs) (hh : W'.heap[g]? = W.heap[g]?) (hB : g < B') : IntsAt W' B' (some ⟨g, 0, none⟩) n xs := by
  refine ⟨h.1, h.2.1, fun h0 => ?_⟩
  obtain ⟨b, off, e, hb, hc⟩ := h.2.2 h0
  cases e
  exact ⟨g, 0, rfl, hB, fun j hj => (World.cell?_of_block hh).trans (hc j hj)⟩
theorem ints_lt {W : World} {B g n : Nat} {xs : List Int} (h : IntsAt W B (some ⟨g, 0, none⟩) n xs) (h0 : 0 < n) : g < B := by
  obtain ⟨b, off, e, hb, hc⟩ := h.2.2 h0
  cases e
  exact hb
theorem stepCells_get (n : Nat) (m : List (Pl × Int)) : ∀ (gs : List Nat) (qs : List Pl) (j g : Nat) (q : Pl), gs[j]? = some g → qs[j]? = some q → (stepCells gs n m qs)[j * 2]? = some (.slice (some ⟨g, 0, none⟩) n n) ∧ (stepCells gs n m qs)[j * 2 + 1]? = some (.int .i64 (mget 0 m q + 1))
  | [], _, j, g, q, h, _ => by simp at h
  | _ :: _, [], j, g, q, _, h => by simp at h
  | g0 :: gs, q0 :: qs, 0, g, q, h1, h2 => by
    simp at h1 h2
    subst h1; subst h2
    exact ⟨rfl, rfl⟩
  | g0 :: gs, q0 :: qs, j + 1, g, q, h1, h2 => by
    have ih := stepCells_get n m gs qs j g q (by simpa using h1) (by simpa using h2)
    have e : stepCells (g0 :: gs) n m (q0 :: qs) = .slice (some ⟨g0, 0, none⟩) n n :: .int .i64 (mget 0 m q0 + 1) :: stepCells gs n m qs := rfl
    rw [e, show (j + 1) * 2 = j * 2 + 1 + 1 by omega]
    exact ih

theorem putAll_size : ∀ (Ds : List Nat) (W : World), (putAll Ds W).heap.size = W.heap.size
  | [], _ => rfl
  | D :: Ds, W => by
    have h := putAll_size Ds (W.putObj D (.deferred none))
    have e : putAll (D :: Ds) W = putAll Ds (W.putObj D (.deferred none)) := rfl
    rw [e, h]
    simp

set_option maxRecDepth 100000 in
set_option maxHeartbeats 4000000 in
theorem steps_any (w : World) (B : Nat) (A : Option Addr) (n c ms ml : Nat) (ts : List Int) (hx : IntsAt w B A n ts) (hB : B ≤ w.heap.size) (hv : Valid ts)
    (m : List (Pl × Int)) (hm : MapAt Int encI w ml m) (hmb : ∀ q, -1000000 ≤ mget 0 m q ∧ mget 0 m q ≤ 1000000) (p : Pl) (hp : PlGood ts p) (hend : REnds ts p) :
    Calls Tryz.prog 44 #[.agg (tbc A n c ms ml), plv p] w fun e w' => ∃ A' k c', e = .returned (.slice A' k c') ∧ StepsAt w' w'.heap.size A' k (stepsF m (reachE ts p).1) ∧ Below w.heap.size w w' := by
  obtain ⟨i0, hi, hz0, hz1, hz2⟩ := info_parts infoPl
  have hn := hx.len
  have hmz := hm.lt
  have hmm := @run_makeMap Tryz.prog
  have hb4 : Below w.heap.size w ((((w.alloc (.cells (tbc A n c ms ml) 60)).alloc (.cells (plc p) 64)).alloc (.cells (plc p) 64)).alloc (.cells #[.slice (some ⟨w.heap.size + 2, 0, none⟩) 1 1] 108)) := ((((Below.refl _ w).alloc (Nat.le_refl _) _).alloc (by simp) _).alloc (by simp; omega) _).alloc (by simp; omega) _
  have x0 := (((TbAt.new w A n c ms ml).alloc (.cells (plc p) 64)).alloc (.cells (plc p) 64)).alloc (.cells #[.slice (some ⟨w.heap.size + 2, 0, none⟩) 1 1] 108)
  have x1 := ((PlAt.new (w.alloc (.cells (tbc A n c ms ml) 60)) p).alloc (.cells (plc p) 64)).alloc (.cells #[.slice (some ⟨w.heap.size + 2, 0, none⟩) 1 1] 108)
  have x2 := (PlAt.new ((w.alloc (.cells (tbc A n c ms ml) 60)).alloc (.cells (plc p) 64)) p).alloc (.cells #[.slice (some ⟨w.heap.size + 2, 0, none⟩) 1 1] 108)
  have x3 := Boxed.new (((w.alloc (.cells (tbc A n c ms ml) 60)).alloc (.cells (plc p) 64)).alloc (.cells (plc p) 64)) 108 (.slice (some ⟨w.heap.size + 2, 0, none⟩) 1 1)
  simp only [World.size_alloc, Nat.add_assoc, Nat.reduceAdd] at x1 x2 x3
  have hz4 : (((((w.alloc (.cells (tbc A n c ms ml) 60)).alloc (.cells (plc p) 64)).alloc (.cells (plc p) 64)).alloc (.cells #[.slice (some ⟨w.heap.size + 2, 0, none⟩) 1 1] 108))).heap.size = w.heap.size + 4 := by simp
  obtain ⟨V4, hV4⟩ : ∃ V4, V4 = ((((w.alloc (.cells (tbc A n c ms ml) 60)).alloc (.cells (plc p) 64)).alloc (.cells (plc p) 64)).alloc (.cells #[.slice (some ⟨w.heap.size + 2, 0, none⟩) 1 1] 108)) := ⟨_, rfl⟩
  have hmn := MapAt.new (α := Bool) (enc := Value.bool) V4
  rw [← hV4] at hb4 x0 x1 x2 x3 hz4
  rw [hz4] at hmn
  obtain ⟨o, ho, hup, hsn⟩ := update_pl hmn 109 4 Tryz.underlying109 p true
  have y0 := (x0.alloc (.map #[] 0))
  have y1 := (x1.alloc (.map #[] 0))
  have y2 := (x2.alloc (.map #[] 0))
  have y3 := (x3.alloc (.map #[] 0))
  have hb5 := hb4.alloc (by omega) (.map #[] 0)
  have hz5 : (V4.alloc (.map #[] 0)).heap.size = w.heap.size + 5 := by simp [hz4]
  have hG : StB w (w.heap.size + 6) w.heap.size w.heap.size [] A n c ms ml (reachN ts p 0) noBlock (((V4.alloc (.map #[] 0)).putObj (w.heap.size + 4) o).alloc (.cells #[.map (some (w.heap.size + 4))] 109)) := by
    have hbp := Boxed.new ((V4.alloc (.map #[] 0)).putObj (w.heap.size + 4) o) 109 (.map (some (w.heap.size + 4)))
    have hzp : ((V4.alloc (.map #[] 0)).putObj (w.heap.size + 4) o).heap.size = w.heap.size + 5 := by simp [hz4]
    rw [hzp] at hbp
    have hbp5 := put_below (l := w.heap.size + 4) hb5 (by omega) (by omega) o
    refine ⟨fun _ h => h.elim, by simp [hz4], TbAt.alloc ((World.putObj_heap_other (by omega)).trans y0) _, hbp, hsn.alloc _, ⟨_, (show Boxed _ _ _ _ from (World.putObj_heap_other (by omega)).trans y3).alloc _, ?_, ?_⟩, MarksAt.nil _ _, hbp5.alloc (by omega) _⟩
    · refine ⟨by simp [reachN, flat], .inr ⟨w.heap.size + 2, 1, plc p, rfl, by omega, ?_, by simp [reachN], by decide, by simp, by simp [reachN, flat]⟩⟩
      exact PlAt.alloc ((World.putObj_heap_other (by omega)).trans y2) _
    · intro g hg
      have e : g = w.heap.size + 2 := by simpa [Value.ownBlock] using hg.symm
      exact ⟨fun h => h.elim, by omega, by omega, by omega, by omega⟩
  have Hh := Lib.hid (And.intro hn (And.intro hp (And.intro hend hmb)))
  clear hn hp hend hmb hsn hmn hb5 hz5 y0 y1 y2 y3
  subst hV4
  have hxp := x1
  obtain ⟨c0, c1, c2, c3, c4, c5⟩ := x1.cells
  refine (callsIn_wide (n := 3)).1 ?_
  refine callsIn_of_wp_marks Tryz.func44 rfl trivial ?_ rfl
  simp only [Tryz.ntmps44, List.size_toArray, List.length_cons, List.length_nil, Nat.reduceAdd, Nat.reduceSub, Array.replicate_succ, Array.replicate_zero, List.push_toArray, List.append_toArray, List.nil_append, List.cons_append]
  gi_wp2_with (fail)
  refine wpIn_loop_ghost_k (fun g a wr => ∃ (k : Nat) (kk : Int) (Ds : List Nat) (u8 u9 u10 u11 u12 u13 u14 u15 u16 u17 u18 u19 u20 u21 u22 u23 u24 u25 u26 u27 u28 u29 u30 u31 u32 u33 u34 u35 u36 u37 u38 u39 u40 u41 u42 u43 u44 u45 u46 u47 u48 u49 u50 u51 u52 u53 u54 u55 u56 u57 u58 u59 u60 u61 : Value), a = { tmps := #[.agg (tbc A n c ms ml), plv p, .pointer (some ⟨w.heap.size, 0, none⟩), .pointer (some ⟨w.heap.size + 1, 0, none⟩), .slice none 0 0, .pointer (some ⟨w.heap.size + 1 + 1 + 1, 0, none⟩), .pointer (some ⟨w.heap.size + 1 + 1 + 1 + 1 + 1, 0, none⟩), .int .i64 kk, u8, u9, u10, u11, u12, u13, u14, u15, u16, u17, u18, u19, u20, u21, u22, u23, u24, u25, u26, u27, u28, u29, u30, u31, u32, u33, u34, u35, u36, u37, u38, u39, u40, u41, u42, u43, u44, u45, u46, u47, u48, u49, u50, u51, u52, u53, u54, u55, u56, u57, u58, u59, u60, u61], defers := marks Ds } ∧ (kk = (k : Int) ∧ k ≤ 1000 ∧ g = 1000 - k) ∧ StB w (w.heap.size + 6) w.heap.size w.heap.size Ds A n c ms ml (reachN ts p k) noBlock wr) 1000 ?_ ?_
  · exact ⟨0, 0, [], _, _, _, _, _, _, _, _, _, _, _, _, _, _, _, _, _, _, _, _, _, _, _, _, _, _, _, _, _, _, _, _, _, _, _, _, _, _, _, _, _, _, _, _, _, _, _, _, _, _, _, _, _, _, rfl, ⟨rfl, by omega, rfl⟩, hG⟩
  · rintro g a wr ⟨k, kk, Ds, u8, u9, u10, u11, u12, u13, u14, u15, u16, u17, u18, u19, u20, u21, u22, u23, u24, u25, u26, u27, u28, u29, u30, u31, u32, u33, u34, u35, u36, u37, u38, u39, u40, u41, u42, u43, u44, u45, u46, u47, u48, u49, u50, u51, u52, u53, u54, u55, u56, u57, u58, u59, u60, u61, rfl, ⟨rfl, hk, rfl⟩, hG⟩ J K hIJ hK
    have y0 := hG.tb
    have y5 := hG.mp
    obtain ⟨v, y3, hown, hvg⟩ := hG.rw
    have hzr := hG.hz
    have hmks := hG.mks
    have hBr := hG.bl
    obtain ⟨A', cap, rfl, hle⟩ := ownsRow_slice hown
    have hgd := reachN_good hv Hh.out.2.1 k
    obtain ⟨L, hL⟩ : ∃ L, L = (reachN ts p k).1.length := ⟨_, rfl⟩
    rw [← hL] at hown y3 hgd
    have hLb := hgd.2
    have Hg := Lib.hid (And.intro hgd.1 (And.intro hL hvg))
    clear hgd hL hvg c0 c1 c2 c3 c4 c5 x0 x1 x2 x3 hxp hb4
    obtain ⟨t0, t1, t2⟩ := y0.cells
    have c3 := y3.cell
    have c5 := y5.cell
    have hz3 := y3.lt
    by_cases hkL : k < L
    · obtain ⟨gr, rfl⟩ : ∃ g, A' = some ⟨g, 0, none⟩ := by
        rcases hown.2 with ⟨-, h0⟩ | ⟨g, cap', cur, he, -⟩
        · omega
        · cases he; exact ⟨g, rfl⟩
      obtain ⟨q, hq⟩ : ∃ q, (reachN ts p k).1[k]? = some q := ⟨_, List.getElem?_eq_getElem (by have := Hg.out.2.1; omega)⟩
      obtain ⟨d0, d1, d2, d3, d4, d5⟩ := row_place hown hq
      have hqg := Hg.out.1 q (List.mem_of_getElem? hq)
      have Hq := Lib.hid (And.intro hq hqg)
      clear hq hqg
      gi_wp2_with (fail)
      refine region_held (fun W' => W' = wr.drew) (fun j => decide (j ≤ 5)) (by kernel_rfl) ?_
      intro KR hKR
      refine wpAnyHI_takeD (i := 0) (v := .pointer (some ⟨w.heap.size, 0, none⟩)) (some 24) rfl rfl (by kernel_rfl) (by kernel_rfl) (by kernel_rfl) (by kernel_rfl) (by kernel_rfl) (fun _ _ _ h => h) rfl (.inl ⟨by rfl, fun W' hS' => ?_⟩) ?_
      · subst hS'
        go_simp
      refine wpAnyHI_takeD (i := 1) (v := .agg #[.slice A n c]) (some 25) rfl rfl (by kernel_rfl) (by kernel_rfl) (by kernel_rfl) (by kernel_rfl) (by kernel_rfl) (fun _ _ _ h => h) rfl (.inl ⟨by rfl, fun W' hS' => ?_⟩) ?_
      · subst hS'
        go_simp
      refine wpAnyHI_takeD (i := 2) (v := .slice (some ⟨gr, 0, none⟩) L cap) (some 26) rfl rfl (by kernel_rfl) (by kernel_rfl) (by kernel_rfl) (by kernel_rfl) (by kernel_rfl) (fun _ _ _ h => h) rfl (.inl ⟨by rfl, fun W' hS' => ?_⟩) ?_
      · subst hS'
        go_simp
      refine wpAnyHI_takeD (i := 3) (v := .int .i64 (k : Int)) (some 27) rfl rfl (by kernel_rfl) (by kernel_rfl) (by kernel_rfl) (by kernel_rfl) (by kernel_rfl) (fun _ _ _ h => h) rfl (.inl ⟨by rfl, fun W' hS' => ?_⟩) ?_
      · subst hS'
        go_simp
      refine wpAnyHI_takeD (i := 4) (v := .pointer (some ⟨gr, k * 6, none⟩)) (some 28) rfl rfl (by kernel_rfl) (by kernel_rfl) (by kernel_rfl) (by kernel_rfl) (by kernel_rfl) (fun _ _ _ h => h) rfl (.inl ⟨by rfl, fun W' hS' => ?_⟩) ?_
      · subst hS'
        go_simp
      refine wpAnyHI_takeD (i := 5) (v := plv q) (some 29) rfl rfl (by kernel_rfl) (by kernel_rfl) (by kernel_rfl) (by kernel_rfl) (by kernel_rfl) (fun _ _ _ h => h) rfl (.inl ⟨by rfl, fun W' hS' => ?_⟩) ?_
      · subst hS'
        go_simp
      refine wpAnyHI_one (i := 6) rfl (by kernel_rfl) ?_
      intro K1 hK1
      go_simp
      refine ⟨trivial, (callsIn_wide.2 (visits_box _ _ _ _ _)).mono ?_⟩
      rintro e w2 ⟨Bh, Bp, rfl, hBh, hBp, hgh, hgp, hb2⟩
      refine hK1 _ _ ⟨fun h => (by cases h), wpAnyHI_end (by kernel_rfl) ?_⟩
      show KR _ _
      refine hKR _ _ ?_
      clear hK1 K1 hKR KR d0 d1 d2 d3 d4 d5
      have hbb : wr.heap.size ≤ w2.heap.size := hb2.size
      have hgh : wr.heap.size ≤ Bh := hgh
      have hgp : wr.heap.size ≤ Bp := hgp
      have hb2 : Below wr.heap.size wr w2 := ⟨hb2.os, hb2.tape, hb2.output, hb2.size, hb2.block⟩
      have hB2 : Below w.heap.size w w2 := hBr.trans (hb2.mono hBr.size)
      have hG2 : StB w w2.heap.size Bh Bp Ds A n c ms ml (reachN ts p k) noBlock w2 := ⟨fun _ h => h.elim, Nat.le_refl _, y0.below hb2 y0.lt, bxBelow y5 hb2 y5.lt, hG.sn.below hb2 hG.sn.lt,
        ⟨_, bxBelow y3 hb2 y3.lt, by rw [← Hg.out.2.1]; exact row_below hown hb2, fun g hg => ⟨fun h => h.elim, by have := (hown.lt g hg).2; omega, by have := (hown.lt g hg).2; omega, (Hg.out.2.2 g hg).2.2.2⟩⟩, hmks.same (fun D hD hh => (hb2.block D (hmks.lt hD)).trans hh), hB2⟩
      have hDs : ∀ D ∈ Ds, D < w2.heap.size := fun D hD => by have := hmks.lt hD; omega
      have hz6 : w.heap.size + 6 ≤ w2.heap.size := by omega
      have HD := Lib.hid hDs
      clear y0 y3 y5 hown hmks hG t0 t1 t2 c3 c5 hDs
      gi_wp2_with (fail)
      refine range_pl (P := Tryz.prog) (gf := 89) rfl (enters_of Tryz.func89 (by kernel_rfl) rfl) (encs := encV) Prod.snd (n₀ := w.heap.size) (w0 := w2)
        (visits1_any w2 Bh Bp w.heap.size A n c ts q hBh hBp hB2.size ((hx.below hB2 hB).more hB) (by have := hv.h5; have := Hh.out.1; omega) (fun i hi => hv.h12 i (by have := Hh.out.1; omega)) Hq.out.2.1) (Below.refl _ _) (by rintro k (rfl | rfl); exact hBh.lt; exact hBp.lt) hB2.size (fun _ => rfl)
        (fun pre X W => StB w w2.heap.size Bh Bp Ds A n c ms ml (reachL (reachN ts p k) pre) X W)
        (fun _ _ _ _ => False)
        ?hI (fun _ _ _ _ _ _ h => h.elim) ?h0 ?a1 ?assign ?body ?done ?stop
      case assign =>
        intro l x W b K hb hK
        gi_wp2
        rw [← hb]
        exact hK
      case hI => exact fun pre X X' W W' h hst hgr => h.st hst hgr hz6 HD.out
      case h0 => exact hG2
      case body =>
        rintro l pre x X b W hS zb hbz hWz hXz hlen
        have zb : PlAt W b x.2 := zb
        have hlen' : (reachL (reachN ts p k) pre).1.length ≤ 6000 := by
          have h1 := reachL_len pre (reachN ts p k)
          have h2 := Hg.out.2.1
          have h5 := hv.h5
          have h6 := Hh.out.1
          omega
        have hsn := reachL_snoc (reachN ts p k) pre x
        obtain ⟨s, hs⟩ : ∃ s, s = reachL (reachN ts p k) pre := ⟨_, rfl⟩
        rw [← hs] at hS hlen' hsn
        clear hs
        obtain ⟨v, y3, hown, hvg⟩ := hS.rw
        have hlk := lookup_pl hS.sn 109 4 false Tryz.underlying109 zeroBool x.2
        have c5 := hS.mp.cell
        have y0 := hS.tb
        have y5 := hS.mp
        obtain ⟨e0, e1, e2, e3, e4, e5⟩ := zb.cells
        cases hd : mget false s.2 x.2
        · rw [hd] at hlk
          rw [reachStep_new hd] at hsn
          have Hsn := Lib.hid hsn
          obtain ⟨o, ho, hup, hsn4⟩ := update_pl hS.sn 109 4 Tryz.underlying109 x.2 true
          clear hd hsn
          have hWH : w.heap.size + 6 ≤ W.heap.size := by omega
          have z0 : TbAt (W.putObj (w.heap.size + 4) o) w.heap.size A n c ms ml := (World.putObj_heap_other (by omega)).trans y0
          have z5 : Boxed (W.putObj (w.heap.size + 4) o) (w.heap.size + 5) 109 (.map (some (w.heap.size + 4))) := (World.putObj_heap_other (by omega)).trans y5
          have z3 : Boxed (W.putObj (w.heap.size + 4) o) (w.heap.size + 3) 108 v := (World.putObj_heap_other (by omega)).trans y3
          have zb4 : PlAt (W.putObj (w.heap.size + 4) o) b x.2 := (World.putObj_heap_other (by omega)).trans zb
          have hr4 := put_row hS.sn hown o
          have hB4 := put_below (l := w.heap.size + 4) hS.bl (by omega) (by omega) o
          have hX4 : ¬ X (w.heap.size + 4) := fun h => by have := hS.hX _ h; omega
          have hK4 : KeepsFrom w2.heap.size W (W.putObj (w.heap.size + 4) o) := KeepsFrom.put (by omega)
          have hk4 : Keep w.heap.size (fun k => k = Bh ∨ k = Bp) X W (W.putObj (w.heap.size + 4) o) := Keep.putObj (by omega) hX4 (by omega) hS.sn.lt
          have hz4 : (W.putObj (w.heap.size + 4) o).heap.size = W.heap.size := by simp
          have hm4 : MarksAt w.heap.size Ds (W.putObj (w.heap.size + 4) o) := hS.mks.same fun D hD hh => (World.putObj_heap_other (by
            rintro rfl
            obtain ⟨es, clock, hmm, -⟩ := hS.sn
            rw [hmm] at hh
            cases hh)).trans hh
          have hgD : ∀ D ∈ Ds, ∀ g, v.ownBlock = some g → g ≠ D := fun D hD => row_cells hown (hS.mks.2 D hD).2
          have hcn := cells_new (W.putObj (w.heap.size + 4) o) (plc x.2) 64
          rw [hz4] at hcn
          have Hx := Lib.hid (And.intro hcn (And.intro hz4 (And.intro hvg (And.intro hB4 (And.intro hm4 (And.intro hgD (And.intro hS.hX hXz)))))))
          have g3 := z3.cell
          obtain ⟨j0, j1, j2, j3, j4, j5⟩ := zb4.cells
          have c45 := z5.cell
          clear hcn hz4 hvg hB4 hm4 hgD hXz
          have hbW := hS.bl.size
          obtain ⟨C9, hC9⟩ : ∃ C9 : Nat → Prop, C9 = fun k => (k = Bh ∨ k = Bp) ∨ ((w.heap.size ≤ k ∧ k < w.heap.size + 2) ∨ (w.heap.size + 4 ≤ k ∧ k < w.heap.size + 6) ∨ k ∈ Ds) := ⟨_, rfl⟩
          have h3D : w.heap.size + 3 ∉ Ds := fun h => by
            have h1 := (Hx.out.2.2.2.2.1.2 _ h).2
            have z3' : (W.putObj (w.heap.size + 4) o).heap[w.heap.size + 3]? = _ := z3
            rw [z3'] at h1
            cases h1
          have hstep : ∀ (v' : Value) (w1 : World), ((W.putObj (w.heap.size + 4) o).alloc (.cells (plc x.2) 64)).grownBy w1 v.ownBlock → (v'.ownBlock = v.ownBlock ∨ v'.ownBlock = some ((W.putObj (w.heap.size + 4) o).alloc (.cells (plc x.2) 64)).heap.size) →
              Keep w.heap.size C9 X (W.putObj (w.heap.size + 4) o) (w1.setCell ⟨w.heap.size + 3, 0, none⟩ v') ∧ ∀ g, v'.ownBlock = some g → ¬ X g ∧ ¬ C9 g := by
            intro v' w1 hgrow hat
            have hz4 := Hx.out.2.1
            refine row_appended (b := w.heap.size + 3) hr4 (by omega) (by omega) hgrow hat (fun h => by have := Hx.out.2.2.2.2.2.2.1 _ h; omega) ?_ ?_ ?_ ?_
            · rw [hC9]
              rintro (h | h | h | h)
              · omega
              · omega
              · omega
              · exact h3D h
            · intro g hg
              have h1 := Hx.out.2.2.1 g hg
              refine ⟨h1.1, ?_⟩
              rw [hC9]
              rintro (h | h | h | h)
              · omega
              · omega
              · omega
              · exact Hx.out.2.2.2.2.2.1 g h g hg rfl
            · intro k h
              have := (Hx.out.2.2.2.2.2.2.2 k h).2
              omega
            · intro k h
              rw [hC9] at h
              rcases h with (h | h) | h | h | h
              · have := hBh.lt; omega
              · have := hBp.lt; omega
              · omega
              · omega
              · have := HD.out k h; omega
          have HC := Lib.hid hC9
          clear hC9 h3D
          gi_wp2_with (gi_at_builtin; refine wpListIn_append_own_at (F := Fence.wide.inRound l) (nF := 1) _ rfl _ _ 108 rfl w.heap.size 64 i0 (plv ⟨0, 0, 0, 0, 0, 0⟩) 6 48 Tryz.underlying108 hi hz0 hz1 hz2 rfl (by decide) v _ _ rfl (hr4.alloc _) ⟨W.heap.size, 0, none⟩ 1 1 (plc x.2).toList rfl rfl Hx.out.1 (by simp [Value.oneCell']) (by simp only [maxLen]; omega) (by omega) (by have := Hx.out.2.1; simp; omega) ?_; intro v' w1 hown' hgrow _ hat; obtain ⟨g', cap', rfl⟩ := ownsRow_succ hown'; obtain ⟨hv1, hv2, hr2, hk2, hb2⟩ := z3.appended (by decide) hr4 (by have := Hx.out.2.1; omega) (by omega) hown' hgrow; have hc1 := hv1.cell; have hf1 := hv1.frozen)
          have hne := hv2.not_row (by decide) hr2
          obtain ⟨hkp, hv9⟩ := hstep _ _ hgrow hat
          have hC9 := HC.out
          have hsz := hkp.below.size
          have hz4 := Hx.out.2.1
          refine ⟨hK4.trans (hk2.from _), hk4.trans (hkp.weaken fun k hk => by rw [hC9]; exact .inl hk), ?_⟩
          show StB w w2.heap.size Bh Bp Ds A n c ms ml (reachL (reachN ts p k) (pre ++ [x])) X _
          rw [Hsn.out]
          have hin : ∀ k, w.heap.size ≤ k ∧ k < w.heap.size + 2 ∨ w.heap.size + 4 ≤ k ∧ k < w.heap.size + 6 → X k ∨ C9 k := fun k hk => .inr (by rw [hC9]; exact .inr (hk.imp id .inl))
          refine ⟨Hx.out.2.2.2.2.2.2.1, by have := hS.hz; exact Nat.le_trans (Nat.le_trans this (Nat.le_of_eq hz4.symm)) hsz, hkp.same _ _ z0 (hin _ (by omega)), hkp.same _ _ z5 (hin _ (by omega)), hkp.mp hsn4 (hin _ (by omega)), ⟨_, hv2, ?_, fun g hg => ?_⟩, ?_, Hx.out.2.2.2.1.trans hkp.below⟩
          · simp only [flat_snoc, List.length_append, List.length_cons, List.length_nil]
            exact hr2
          · obtain ⟨h1, h2⟩ := hv9 g hg
            have h3 : g ≠ w.heap.size + 3 := by rintro rfl; exact hne hg.symm
            rw [hC9] at h2
            refine ⟨h1, fun h => h2 (.inl (.inl h)), fun h => h2 (.inl (.inr h)), fun h => h2 (.inr (.inl h)), fun h => h2 (.inr (.inr (.inl ⟨?_, h.2⟩)))⟩
            omega
          · exact Hx.out.2.2.2.2.1.same fun D hD hh => hkp.same _ _ hh (.inr (by rw [hC9]; exact .inr (.inr (.inr hD))))
        · rw [hd] at hlk
          rw [reachStep_seen hd] at hsn
          have Hsn := Lib.hid hsn
          clear hd hsn
          gi_wp2_with (fail)
          exact ⟨KeepsFrom.of_below (Below.refl _ _), Keep.refl _, by show StB w w2.heap.size Bh Bp Ds A n c ms ml (reachL (reachN ts p k) (pre ++ [x])) X _; rw [Hsn.out]; exact hS⟩
      case done =>
        rintro D xs X W hD hSx hS hKD
        rw [hSx, ← reachN_some Hq.out.1] at hS
        have hk1 : k < 1000 := by
          rcases Nat.lt_or_ge k 1000 with h | h
          · exact h
          · have h2 : k = 1000 := by omega
            have h3 := Hh.out.2.2.1
            unfold REnds at h3
            rw [reachE_eq, ← h2] at h3
            have := Hg.out.2.1
            omega
        have hwr : IntKind.i64.wrap ((k : Int) + 1) = (k : Int) + 1 := by rw [IntKind.wrap_i64]; omega
        rw [← marks_cons]
        gi_wp2_with (fail)
        exact Handed.intro (1000 - (k + 1)) (by omega) (hIJ _ _ _ ⟨k + 1, _, D :: Ds, _, _, _, _, _, _, _, _, _, _, _, _, _, _, _, _, _, _, _, _, _, _, _, _, _, _, _, _, _, _, _, _, _, _, _, _, _, _, _, _, _, _, _, _, _, _, _, _, _, _, _, _, _, _, rfl, ⟨by simp, by omega, rfl⟩, hS.next hz6 hD hKD HD.out⟩)
      case stop => exact fun _ _ _ _ _ _ _ h => h.elim
    · have hE : reachE ts p = reachN ts p k := by rw [reachE_eq]; exact reachN_end (by have := Hg.out.2.1; omega) 1000 hk
      obtain ⟨qs, hqs⟩ : ∃ qs, qs = (reachN ts p k).1 := ⟨_, rfl⟩
      rw [← hqs] at hown
      have hqL : qs.length = L := by rw [hqs]; exact Hg.out.2.1.symm
      have hqg : ∀ q ∈ qs, PlGood ts q := by rw [hqs]; exact Hg.out.1
      have HE := Lib.hid (And.intro hE (And.intro hqs (And.intro hqL hqg)))
      have hnk : ¬ (k : Int) < (L : Int) := by omega
      clear hE hqs hqL hqg hkL
      obtain ⟨i1, hi1, hy0, hy1, hy2⟩ := info_parts infoStep
      gi_wp2_with (fail)
      gi_loopg [10, 45] L (fun g v10 v45 wr => ∃ (j : Nat) (gs : List Nat), (j ≤ L ∧ g = L - j ∧ v45 = .int .i64 (j : Int) ∧ gs.length = j) ∧ wr.ownsRow w.heap.size 54 2 v10 j (stepCells gs n m (qs.take j)) ∧
        (∀ (i g : Nat) (q : Pl), gs[i]? = some g → qs[i]? = some q → IntsAt wr wr.heap.size (some ⟨g, 0, none⟩) n (plList q) ∧ v10.ownBlock ≠ some g) ∧ TbAt wr w.heap.size A n c ms ml ∧ Below w.heap.size w wr ∧ MarksAt w.heap.size Ds wr ∧ wr.ownsRow w.heap.size 64 6 (.slice A' L cap) L (flat qs))
      case atStart => exact ⟨0, [], ⟨Nat.zero_le _, rfl, rfl, rfl⟩, World.ownsRow_nil _ _ _ _, fun i g q h _ => (by simp at h), y0, hBr, hmks, hown⟩
      case round =>
        clear y0 y3 y5 hown hmks hBr hG t0 t1 t2 c3 c5
        obtain ⟨j, gs, ⟨hjL, rfl, rfl, hgs⟩, hst, hok, z0, hBr, hmks, hown⟩ := hrel
        obtain ⟨A2, c2, rfl, hle2⟩ := ownsRow_slice hst
        obtain ⟨t0, t1, t2⟩ := z0.cells
        have hwz := z0.lt
        by_cases hj : j < L
        · obtain ⟨gr, rfl⟩ : ∃ g, A' = some ⟨g, 0, none⟩ := by
            rcases hown.2 with ⟨-, h0⟩ | ⟨g, cap', cur, he, -⟩
            · omega
            · cases he; exact ⟨g, rfl⟩
          obtain ⟨q, hq⟩ : ∃ q, qs[j]? = some q := ⟨_, List.getElem?_eq_getElem (by have := HE.out.2.2.1; omega)⟩
          obtain ⟨d0, d1, d2, d3, d4, d5⟩ := row_place hown hq
          have hqg := HE.out.2.2.2 q (List.mem_of_getElem? hq)
          have hq2 := Hh.out.2.2.2 q
          have hwr : IntKind.i64.wrap (mget 0 m q + 1) = mget 0 m q + 1 := by rw [IntKind.wrap_i64]; omega
          have hwj : IntKind.i64.wrap ((j : Int) + 1) = (j : Int) + 1 := by rw [IntKind.wrap_i64]; omega
          have Hq := Lib.hid (And.intro hq (And.intro hqg (And.intro hgs hok)))
          clear hq hqg hq2 hgs hok
          gi_wp2_with (fail)
          have hbl : Below wr.heap.size wr (wr.alloc (.cells (plc q) 64)).drew := ((Below.refl _ wr).alloc (Nat.le_refl _) _).trans ⟨rfl, rfl, rfl, Nat.le_refl _, fun _ _ => rfl⟩
          have hBV : Below w.heap.size w (wr.alloc (.cells (plc q) 64)).drew := hBr.trans (hbl.mono hBr.size)
          have hS0 : PlAt (wr.alloc (.cells (plc q) 64)).drew wr.heap.size q ∧ TbAt (wr.alloc (.cells (plc q) 64)).drew w.heap.size A n c ms ml ∧ MapAt Int encI (wr.alloc (.cells (plc q) 64)).drew ml m := ⟨PlAt.new wr q, z0.below hbl z0.lt, hm.below hBV hm.lt⟩
          refine region_held (fun W' => PlAt W' wr.heap.size q ∧ TbAt W' w.heap.size A n c ms ml ∧ MapAt Int encI W' ml m) (fun j => decide (1 ≤ j ∧ j ≤ 7)) (by kernel_rfl) ?_
          intro KR hKR
          refine wpAnyHI_takeW (i := 0) (v := .slice A2 j c2) (some 49) rfl rfl (by kernel_rfl) (by kernel_rfl) (by kernel_rfl) (by kernel_rfl) (fun _ _ _ h => h) (.inl ⟨by rfl, fun W' hS' => ?_⟩) ?_
          · go_simp
          refine wpAnyHI_takeE (i := 1) (v := plv q) (some 50) rfl rfl (by kernel_rfl) (by kernel_rfl) (by kernel_rfl) (by kernel_rfl) (by kernel_rfl) (fun _ _ _ h => h) hS0 (.inl ⟨by rfl, fun W' hS' => ?_⟩) ?_
          · obtain ⟨s1, s2, s3⟩ := hS'
            have s3 := lookup_i s3 q
            obtain ⟨t0, t1, t2⟩ := s2.cells
            obtain ⟨a0, a1, a2, a3, a4, a5⟩ := s1.cells
            go_simp
          refine wpAnyHI_takeE (i := 3) (v := .pointer (some ⟨w.heap.size, 2, none⟩)) (some 52) rfl rfl (by kernel_rfl) (by kernel_rfl) (by kernel_rfl) (by kernel_rfl) (by kernel_rfl) (fun _ _ _ h => h) hS0 (.inl ⟨by rfl, fun W' hS' => ?_⟩) ?_
          · obtain ⟨s1, s2, s3⟩ := hS'
            have s3 := lookup_i s3 q
            obtain ⟨t0, t1, t2⟩ := s2.cells
            obtain ⟨a0, a1, a2, a3, a4, a5⟩ := s1.cells
            go_simp
          refine wpAnyHI_takeE (i := 4) (v := .map (some ml)) (some 53) rfl rfl (by kernel_rfl) (by kernel_rfl) (by kernel_rfl) (by kernel_rfl) (by kernel_rfl) (fun _ _ _ h => h) hS0 (.inl ⟨by rfl, fun W' hS' => ?_⟩) ?_
          · obtain ⟨s1, s2, s3⟩ := hS'
            have s3 := lookup_i s3 q
            obtain ⟨t0, t1, t2⟩ := s2.cells
            obtain ⟨a0, a1, a2, a3, a4, a5⟩ := s1.cells
            go_simp
          refine wpAnyHI_takeE (i := 5) (v := plv q) (some 54) rfl rfl (by kernel_rfl) (by kernel_rfl) (by kernel_rfl) (by kernel_rfl) (by kernel_rfl) (fun _ _ _ h => h) hS0 (.inl ⟨by rfl, fun W' hS' => ?_⟩) ?_
          · obtain ⟨s1, s2, s3⟩ := hS'
            have s3 := lookup_i s3 q
            obtain ⟨t0, t1, t2⟩ := s2.cells
            obtain ⟨a0, a1, a2, a3, a4, a5⟩ := s1.cells
            go_simp
          refine wpAnyHI_takeE (i := 6) (v := .int .i64 (mget 0 m q)) (some 55) rfl rfl (by kernel_rfl) (by kernel_rfl) (by kernel_rfl) (by kernel_rfl) (by kernel_rfl) (fun _ _ _ h => h) hS0 (.inl ⟨by rfl, fun W' hS' => ?_⟩) ?_
          · obtain ⟨s1, s2, s3⟩ := hS'
            have s3 := lookup_i s3 q
            obtain ⟨t0, t1, t2⟩ := s2.cells
            obtain ⟨a0, a1, a2, a3, a4, a5⟩ := s1.cells
            go_simp
          refine wpAnyHI_takeE (i := 7) (v := .int .i64 (mget 0 m q + 1)) (some 56) rfl rfl (by kernel_rfl) (by kernel_rfl) (by kernel_rfl) (by kernel_rfl) (by kernel_rfl) (fun _ _ _ h => h) hS0 (.inl ⟨by rfl, fun W' hS' => ?_⟩) ?_
          · obtain ⟨s1, s2, s3⟩ := hS'
            have s3 := lookup_i s3 q
            obtain ⟨t0, t1, t2⟩ := s2.cells
            obtain ⟨a0, a1, a2, a3, a4, a5⟩ := s1.cells
            go_simp
          refine wpAnyHI_one (i := 2) rfl (by kernel_rfl) ?_
          intro K1 hK1
          go_simp
          have hzV : (wr.alloc (.cells (plc q) 64)).drew.heap.size = wr.heap.size + 1 := by simp
          obtain ⟨V, hV⟩ : ∃ V, V = (wr.alloc (.cells (plc q) 64)).drew := ⟨_, rfl⟩
          rw [← hV] at hbl hBV hS0 hzV ⊢
          have hst4 := row_below hst hbl
          have hrow4 := row_below hown hbl
          have hm4 : MarksAt w.heap.size Ds V := hmks.same fun D hD hh => (hbl.block D (hmks.lt hD)).trans hh
          have hzz := hbl.size
          refine ⟨trivial, (callsIn_wide.2 (list_fresh V q n (by have := hv.h1; have := Hh.out.1; omega) (by have := hv.h5; have := Hh.out.1; omega) (by rw [Hq.out.2.1.2, Hh.out.1]))).mono ?_⟩
          rintro e w4 ⟨g4, hg4, rfl, hin4, hb4⟩
          have hB4 : Below w.heap.size w w4 := hBV.trans (hb4.mono hBV.size)
          have hst5 := row_below hst4 hb4
          have hrow5 := row_below hrow4 hb4
          have hm5 : MarksAt w.heap.size Ds w4 := hm4.same fun D hD hh => (hb4.block D (hm4.lt hD)).trans hh
          have z4 : TbAt w4 w.heap.size A n c ms ml := hS0.2.1.below hb4 hS0.2.1.lt
          have hz4 := hb4.size
          refine hK1 _ _ ⟨fun _ => ⟨hS0.1.below hb4 hS0.1.lt, z4, hS0.2.2.below hb4 hS0.2.2.lt⟩, ?_⟩
          clear hK1 K1
          refine wpAnyHI_tail (k := 8) rfl rfl (by kernel_rfl) (by kernel_rfl) ?_
          simp only [List.drop_succ_cons, List.drop_zero]
          have hjm : j ≤ 1000000 := by omega
          have Hb := Lib.hid (fun (g : Nat) (hg : (Value.slice A2 j c2).ownBlock = some g) => (hst.lt g hg).2)
          have hBz4 := hB4.size
          have Hx := Lib.hid (And.intro hst5 (And.intro hin4 (And.intro hm5 (And.intro hrow5 (And.intro hB4 (And.intro hbl hb4))))))
          clear hst5 hst4 hst hin4 hm5 hm4 hrow5 hrow4 hB4 hBV hb4 hbl d0 d1 d2 d3 d4 d5 t0 t1 t2 hmks hown hS0
          gi_wp2_with (gi_at_builtin; refine wpListIn_append_own_at (F := Fence.wide) (nF := 3) _ rfl _ _ 34 rfl w.heap.size 54 i1 (.agg #[.slice none 0 0, .int .i64 0]) 2 32 Tryz.underlying34 hi1 hy0 hy1 hy2 rfl (by decide) _ _ _ rfl (Hx.out.1.alloc _) ⟨w4.heap.size, 0, none⟩ 1 1 [.slice (some ⟨g4, 0, none⟩) n n, .int .i64 (mget 0 m q + 1)] rfl rfl (cells_new w4 #[.slice (some ⟨g4, 0, none⟩) n n, .int .i64 (mget 0 m q + 1)] 54) (by simp [Value.oneCell']) (by simp only [maxLen]; omega) (by omega) (by simp; omega) ?_; intro v' w1 hown' hgrow _ hat)
          have hgN : ∀ g, (Value.slice A2 j c2).ownBlock = some g → g < wr.heap.size := fun g hg => by
            have h1 := (Hx.out.1.lt g hg)
            have h3 := Hb.out g hg
            exact h3
          have htk : qs.take (j + 1) = qs.take j ++ [q] := by
            have h := List.getElem?_eq_some_iff.1 Hq.out.1
            obtain ⟨hlt, rfl⟩ := h
            exact List.take_succ_eq_append_getElem hlt
          have hB1 : Below w.heap.size w w1 := (Hx.out.2.2.2.2.1.alloc hBz4 _).trans ((Below.refl _ _).grown hgrow (by simp; omega) (fun r e => (Hx.out.1.lt r e).1))
          have hz1 : w4.heap.size + 1 ≤ w1.heap.size := by have := hgrow.size; simpa using this
          have hsame : ∀ g, g < w4.heap.size → (Value.slice A2 j c2).ownBlock ≠ some g → w1.heap[g]? = w4.heap[g]? := fun g hg hne => (hgrow.block g (by simp; omega) (Ne.symm hne)).trans (Below.heap_alloc _ _ _ hg)
          have hn0 : 0 < n := by have := hv.h1; have := Hh.out.1; omega
          gi_roundg (L - (j + 1))
          case measure => omega
          case rel =>
            refine ⟨j + 1, gs ++ [g4], ⟨hj, rfl, by simp, by simp [Hq.out.2.2.1]⟩, ?_, ?_, ?_, hB1, ?_, ?_⟩
            · rw [htk, stepCells_snoc _ _ _ _ _ _ (by rw [Hq.out.2.2.1, List.length_take]; have := HE.out.2.2.1; omega)]
              exact hown'
            · intro i g q' hg hq'
              rcases Nat.lt_or_ge i gs.length with hi | hi
              · rw [List.getElem?_append_left hi] at hg
                obtain ⟨k1, k2⟩ := Hq.out.2.2.2 i g q' hg hq'
                have hgl := ints_lt k1 hn0
                refine ⟨ints_heap k1 ((hsame g (by omega) k2).trans ((Hx.out.2.2.2.2.2.2.block g (by omega)).trans (Hx.out.2.2.2.2.2.1.block g hgl))) (by omega), ?_⟩
                rcases hat with h | h
                · rw [h]; exact k2
                · rw [h]
                  intro e
                  simp at e
                  omega
              · rw [List.getElem?_append_right hi] at hg
                have hig : i - gs.length = 0 := by
                  have := (List.getElem?_eq_some_iff.1 hg).1
                  simp at this
                  omega
                rw [hig] at hg
                have e1 : g = g4 := by simpa using hg.symm
                subst e1
                have e2 : q' = q := by
                  have hij : i = j := by rw [← Hq.out.2.2.1]; omega
                  rw [hij, Hq.out.1] at hq'
                  exact (Option.some.inj hq').symm
                subst e2
                have hgl := ints_lt Hx.out.2.1 hn0
                have hne : (Value.slice A2 j c2).ownBlock ≠ some g := fun e => by have := hgN g e; omega
                refine ⟨ints_heap Hx.out.2.1 (hsame g hgl hne) (by omega), ?_⟩
                rcases hat with h | h
                · rw [h]; exact hne
                · rw [h]
                  intro e
                  simp at e
                  omega
            · exact (hsame w.heap.size (by omega) (fun e => cells_not_row z4 Hx.out.1 (by decide) _ e rfl)).trans z4
            · exact Hx.out.2.2.1.same fun D hD hh => (hsame D (Hx.out.2.2.1.lt hD) (fun e => row_cells Hx.out.1 hh D e rfl)).trans hh
            · exact row_heap Hx.out.2.2.2.1 fun g hg => hsame g (Hx.out.2.2.2.1.lt g hg).2 (fun e => by
                rcases rows_apart Hx.out.2.2.2.1 Hx.out.1 (by decide) with h | h
                · rw [h] at hg; cases hg
                · exact h (hg.trans e.symm))
        · have hjL' : j = L := by omega
          subst hjL'
          have hfull : qs.take j = qs := by rw [List.take_of_length_le (by have := HE.out.2.2.1; omega)]
          rw [hfull] at hst
          have hnj : ¬ (j : Int) < (j : Int) := by omega
          have Hf := Lib.hid (And.intro hgs (And.intro hok (And.intro hst (And.intro hBr hmks))))
          clear hfull hgs hok hst hBr hmks
          gi_wp2_with (fail)
          refine leaves_marks (n := w.heap.size) Ds _ Hf.out.2.2.2.2 ?_
          have hfin := putAll_row Ds wr Hf.out.2.2.2.2 Hf.out.2.2.1
          have hbf : Below w.heap.size w (putAll Ds wr) := putAll_below Ds _ Hf.out.2.2.2.1 Hf.out.2.2.2.1.size (fun D hD => (Hf.out.2.2.2.2.2 D hD).1)
          have hsf : StepsAt (putAll Ds wr) (putAll Ds wr).heap.size A2 j (stepsF m (reachE ts p).1) := by
            refine ⟨?_, by omega, fun h0 => ?_⟩
            · rw [HE.out.1, ← HE.out.2.1]
              simp [stepsF, HE.out.2.2.1]
            · obtain ⟨gv, rfl⟩ : ∃ g, A2 = some ⟨g, 0, none⟩ := by
                rcases hfin.2 with ⟨-, h0'⟩ | ⟨g, cap', cur, he, -⟩
                · omega
                · cases he; exact ⟨g, rfl⟩
              refine ⟨gv, 0, rfl, (hfin.lt gv rfl).2, fun i s hs => ?_⟩
              rw [HE.out.1, ← HE.out.2.1] at hs
              unfold stepsF at hs
              rw [List.getElem?_map] at hs
              cases hqi : qs[i]? with
              | none => rw [hqi] at hs; cases hs
              | some q =>
                rw [hqi] at hs
                cases hs
                have hil : i < qs.length := (List.getElem?_eq_some_iff.1 hqi).1
                obtain ⟨g, hg⟩ : ∃ g, gs[i]? = some g := ⟨_, List.getElem?_eq_getElem (by rw [Hf.out.1]; have := HE.out.2.2.1; omega)⟩
                obtain ⟨s1, s2⟩ := stepCells_get n m gs qs i g q hg hqi
                have r1 := hfin.cells (g := gv) rfl _ _ s1
                have r2 := hfin.cells (g := gv) rfl _ _ s2
                have ha1 : (⟨gv, 0, none⟩ : Addr).add (i * 2) = ⟨gv, 0 + i * 2, none⟩ := by simp [Addr.add]; omega
                have ha2 : (⟨gv, 0, none⟩ : Addr).add (i * 2 + 1) = ⟨gv, 0 + i * 2 + 1, none⟩ := by simp [Addr.add]
                rw [ha1] at r1
                rw [ha2] at r2
                obtain ⟨k1, k2⟩ := Hf.out.2.1 i g q hg hqi
                have hn0 : 0 < n := by have := hv.h1; have := Hh.out.1; omega
                have hgl := ints_lt k1 hn0
                refine ⟨_, n, n, r1, r2, ints_heap k1 (putAll_heap (n := 0) Ds wr g ?_) (by rw [putAll_size]; exact hgl)⟩
                intro hgD
                obtain ⟨b, off, e, hb, hc⟩ := k1.2.2 hn0
                cases e
                have h1 := hc 0 hn0
                have h2 := (Hf.out.2.2.2.2.2 g hgD).2
                simp [World.cell?, h2] at h1
          exact Exists.intro _ (And.intro (results_tmp rfl _ _ _) (Exists.intro A2 (Exists.intro j (And.intro (Exists.intro c2 rfl) (And.intro hsf hbf)))))
end Go.Proofs.YthjgecblkagelaaGreat

/- Doom. -/
namespace Go.Proofs.YthjgecblkagelaaGreat
open Go.RowKit Go.Shelf

attribute [local go_sem] Oper.semAt_some

noncomputable def doomR (ts ss : List Int) : List (List Int × Int) × Int := if statedF ts ss ≠ 0 then ([], statedF ts ss) else if 0 < mget 0 (tabE ts).1 (plOf ss) then ([], 5) else (stepsF (tabE ts).2.1 (reachE ts (plOf ss)).1, 0)
/-- Steps and an error are returned. -/
def StepRes (w : World) (r : List (List Int × Int) × Int) (e : Ending) (w' : World) : Prop := ∃ A k c, e = .returned (.tuple #[.slice A k c, .int .i64 r.2]) ∧ StepsAt w' w'.heap.size A k r.1 ∧ Below w.heap.size w w'
theorem StepRes.none {w w' : World} {r : List (List Int × Int) × Int} {x : Int} (h : r = ([], x)) (hb : Below w.heap.size w w') : StepRes w r (.returned (.tuple #[.slice none 0 0, .int .i64 x])) w' := by
  subst h
  exact ⟨Option.none, 0, 0, rfl, ⟨rfl, by omega, fun h => by omega⟩, hb⟩
theorem doom_results (W : World) (tmps : Array Value) (x y : Value) (t2 : tmps.getD 4 undef = x) (t3 : tmps.getD 5 undef = y) : (results Tryz.f15 tmps).run Tryz.prog W = .ok (.tuple #[x, y]) W := by
  simp only [Array.getD_eq_getD_getElem?] at t2 t3
  simp [results, Tryz.results15, go_sem, t2, t3]
set_option maxRecDepth 100000 in
set_option maxHeartbeats 2000000 in
theorem Doom_any (w : World) (B1 B2 : Nat) (A1 A2 : Option Addr) (n c m d : Nat) (ts ss : List Int) (h1 : IntsAt w B1 A1 n ts) (hB1 : B1 ≤ w.heap.size) (h2 : IntsAt w B2 A2 m ss) (hB2 : B2 ≤ w.heap.size) (he : statedF ts ss = 0 → Ends ts) (he2 : statedF ts ss = 0 → REnds ts (plOf ss)) :
    Calls Tryz.prog 15 #[.agg #[.slice A1 n c], .slice A2 m d] w (StepRes w (doomR ts ss)) := by
  have hb0 : Below w.heap.size w (w.alloc (.cells #[.slice A1 n c] 24)) := (Below.refl _ w).alloc (Nat.le_refl _) _
  go_enter Tryz.func15, Tryz.ntmps15
  go_wp2_with (fail)
  refine (tableAt_any _ B1 B2 A1 A2 n c m d ts ss (h1.below hb0 hB1) (by have := hb0.size; omega) (h2.below hb0 hB2) (by have := hb0.size; omega) he).mono ?_
  rintro e w2 ⟨hb, ⟨hr, ms, ml, rfl, hT⟩ | ⟨hr, rfl⟩⟩
  · have hB := hb0.trans (hb.mono hb0.size)
    obtain ⟨hv, hl, hg⟩ := stated_valid hr
    obtain ⟨p, hp⟩ : ∃ p, p = plOf ss := ⟨_, rfl⟩
    have hre := he2 hr
    rw [← hp] at hg hre ⊢
    have Hre := Lib.hid hre
    clear hre he2
    have hr1 : doomR ts ss = if 0 < mget 0 (tabE ts).1 p then ([], 5) else (stepsF (tabE ts).2.1 (reachE ts p).1, 0) := by unfold doomR; rw [if_neg (by simp [hr]), hp]
    have Hr := Lib.hid hr1
    clear hr hr1 hp hb hb0
    have x0 := (TbAt.new w2 A1 n c ms ml).alloc (.cells (plc p) 64)
    have x1 := PlAt.new (w2.alloc (.cells (tbc A1 n c ms ml) 60)) p
    simp only [World.size_alloc] at x1
    have hb0 : Below w2.heap.size w2 ((w2.alloc (.cells (tbc A1 n c ms ml) 60)).alloc (.cells (plc p) 64)) := ((Below.refl _ w2).alloc (Nat.le_refl _) _).alloc (by simp) _
    obtain ⟨t0, t1, t2⟩ := x0.cells
    obtain ⟨c0, c1, c2, c3, c4, c5⟩ := x1.cells
    have hT1 := hT.later hb0
    go_wp2_with (fail)
    refine (isSafe_any _ A1 n c ms ml (tabE ts).1 hT1.safe p).mono ?_
    rintro e w3 ⟨rfl, hb3⟩
    have hB3 : Below w.heap.size w w3 := hB.trans ((hb0.trans (hb3.mono hb0.size)).mono hB.size)
    have hT3 := hT1.later hb3
    have y0 := x0.below hb3 x0.lt
    have y1 := x1.below hb3 x1.lt
    clear t0 t1 t2 c0 c1 c2 c3 c4 c5 hb0
    obtain ⟨t0, t1, t2⟩ := y0.cells
    obtain ⟨c0, c1, c2, c3, c4, c5⟩ := y1.cells
    by_cases h0 : 0 < mget 0 (tabE ts).1 p
    · have hd : decide (0 < mget 0 (tabE ts).1 p) = true := by simp [h0]
      have hr2 := Hr.out
      rw [if_pos h0] at hr2
      have Hr2 := Lib.hid hr2
      rw [hd]
      clear h0 hd hr2
      go_wp2_with (fail)
      refine bodyPost_ret (v := .tuple #[.slice none 0 0, .int .i64 5]) (doom_results _ _ _ _ (by simp) (by simp)) rfl ?_
      exact StepRes.none Hr2.out hB3
    · have hd : decide (0 < mget 0 (tabE ts).1 p) = false := by simp [h0]
      have hr2 := Hr.out
      rw [if_neg h0] at hr2
      have Hr2 := Lib.hid hr2
      rw [hd]
      clear h0 hd hr2
      go_wp2_with (fail)
      have hok := tabN_ok hv.h5 hv.states hv.h12 1000
      rw [← tabE_eq] at hok
      refine (steps_any w3 B1 A1 n c ms ml ts (h1.below hB3 hB1) (by have := hB3.size; omega) hv (tabE ts).2.1 hT3.lasts (fun q => by have := VBd.mget (by omega) q hok.lasts; omega) p hg Hre.out).mono ?_
      rintro e w4 ⟨A4, k4, c4', rfl, hst, hb4⟩
      have hB4 := hB3.trans (hb4.mono hB3.size)
      go_wp2_with (fail)
      refine bodyPost_ret (v := .tuple #[.slice A4 k4 c4', .int .i64 0]) (doom_results _ _ _ _ (by simp) (by simp)) rfl ?_
      unfold StepRes
      rw [Hr2.out]
      exact ⟨A4, k4, c4', rfl, hst, hB4⟩
  · have hB := hb0.trans (hb.mono hb0.size)
    have hr1 : doomR ts ss = ([], statedF ts ss) := by unfold doomR; rw [if_pos hr]
    obtain ⟨r, hrr⟩ : ∃ r, r = statedF ts ss := ⟨_, rfl⟩
    rw [← hrr] at hr hr1 ⊢
    have Hr := Lib.hid (And.intro hrr hr1)
    clear hrr hr1
    have hr' : (r != 0) = true := by simp [hr]
    go_wp2_with (fail)
    refine bodyPost_ret (v := .tuple #[.slice none 0 0, .int .i64 r]) (doom_results _ _ _ _ (by simp) (by simp)) rfl ?_
    exact StepRes.none Hr.out.2 ((hB.alloc hB.size _).alloc (by have := hB.size; simp; omega) _)
end Go.Proofs.YthjgecblkagelaaGreat
