/- Parts of a proof: FB FC. -/
import Derived.Test.YthjgecblkagelaaGreatM32

/- References: wide, Leads, Next (for a seat without DoomError and Count). -/
namespace Go.Proofs.YthjgecblkagelaaGreat
open Go.RowKit Go.Shelf

attribute [local go_sem] Oper.semAt_some


theorem rows_pos {ts : List Int} (hv : Valid ts) : 0 < (statesL ts).length := by
  have h1 := prod_states hv
  have h := (prod_bd5 ts hv.h5 hv.h12 ts.length (Nat.le_refl _)).1
  rw [List.take_length] at h
  omega
/-- A list stays where its block stays. -/
theorem ints_stay {W W' : World} {B B' g n : Nat} {xs : List Int} (h : IntsAt W B (some ⟨g, 0, none⟩) n xs) (hh : W'.heap[g]? = W.heap[g]?) (hB : g < B') : IntsAt W' B' (some ⟨g, 0, none⟩) n xs := by
  refine ⟨h.1, h.2.1, fun h0 => ?_⟩
  obtain ⟨b, o, e, hb, hc⟩ := h.2.2 h0
  cases e
  refine ⟨g, 0, rfl, hB, fun j hj => ?_⟩
  rw [← hc j hj]
  unfold World.cell?
  rw [hh]

set_option maxHeartbeats 1000000 in
theorem wide_any (w : World) (B1 : Nat) (A1 : Option Addr) (n c : Nat) (most : Int) (ts : List Int) (h1 : IntsAt w B1 A1 n ts) (hB1 : B1 ≤ w.heap.size) :
    Calls Tryz.prog 7 #[.agg #[.slice A1 n c], .int .i64 most] w fun e w' => (∃ b, e = .returned (.bool b)) ∧ Below w.heap.size w w' := by
  have hb0 : Below w.heap.size w (w.alloc (.cells #[.slice A1 n c] 24)) := (Below.refl _ w).alloc (Nat.le_refl _) _
  have x0 := Boxed.new w 24 (.slice A1 n c)
  have c0 := x0.cell
  go_enter Tryz.func7, Tryz.ntmps7
  go_wp2_with (fail)
  refine (rcheckHall_any _ B1 A1 n c ts (h1.below hb0 hB1) (by have := hb0.size; omega)).mono ?_
  rintro e w2 ⟨rfl, hb2⟩
  have hB2 := hb0.trans (hb2.mono hb0.size)
  have x2 := bxBelow x0 hb2 x0.lt
  clear hb0 hb2 x0 c0
  have c2 := x2.cell
  obtain ⟨r, hr⟩ : ∃ r, r = checkHallF ts := ⟨_, rfl⟩
  rw [← hr]
  by_cases hr0 : r = 0
  · have hv := valid_of (hr.symm.trans hr0)
    have Hv := Lib.hid (And.intro hr hv)
    clear hv hr
    subst hr0
    go_wp2_with (fail)
    refine (States_any w2 B1 A1 n c ts (h1.below hB2 hB1) (by have := hB2.size; omega) Hv.out.2).mono ?_
    rintro e w3 ⟨rfl, hb3⟩
    have hB3 := hB2.trans (hb3.mono hB2.size)
    go_wp2_with (fail)
    go_ret
    exact ⟨⟨_, rfl⟩, hB3⟩
  · have hr1 : (r == 0) = false := by simp [hr0]
    have Hr := Lib.hid hr
    clear hr
    go_wp2_with (fail)
    go_ret
    exact ⟨⟨_, rfl⟩, hB2⟩

theorem leads_take {ts ys : List Int} {j : Nat} : ((List.range (j + 1)).filter fun w => safeF ts (ys.set w 0)).map (fun w : Nat => (w : Int)) = ((List.range j).filter fun w => safeF ts (ys.set w 0)).map (fun w : Nat => (w : Int)) ++ (if safeF ts (ys.set j 0) then [(j : Int)] else []) := by
  rw [List.range_succ, List.filter_append, List.map_append]
  cases h : safeF ts (ys.set j 0) <;> simp [h]
set_option maxRecDepth 100000 in
set_option maxHeartbeats 8000000 in
theorem Leads_any (w : World) (B1 B2 B3 : Nat) (A1 A2 A3 : Option Addr) (n c m d f : Nat) (ts rs ys : List Int) (h1 : IntsAt w B1 A1 n ts) (hB1 : B1 ≤ w.heap.size) (h2 : IntsAt w B2 A2 m rs) (hB2 : B2 ≤ w.heap.size) (h3 : IntsAt w B3 A3 n ys) (hB3 : B3 ≤ w.heap.size) (hv : Valid ts) (hd : RowsDone ts rs) (hys : ∀ i, i < ts.length → ys.set i 0 ∈ statesL ts) :
    Calls Tryz.prog 41 #[.agg #[.slice A1 n c], .slice A2 m d, .slice A3 n f] w fun e w' => ∃ v, e = .returned v ∧ w'.ownsRow w.heap.size 3 1 v (leadsF ts ys).length ((leadsF ts ys).map (.int .i64)) ∧ Below w.heap.size w w' := by
  obtain ⟨i0, hi, hz0, hz1, hz2⟩ := info_parts infoInt
  have hb0 : Below w.heap.size w (w.alloc (.cells #[.slice A1 n c] 24)) := (Below.refl _ w).alloc (Nat.le_refl _) _
  have x0 := Boxed.new w 24 (.slice A1 n c)
  have c0 := x0.cell
  have hn5 : n ≤ 5 := by have := hv.h5; have := h1.len; omega
  have Hv := Lib.hid (And.intro hv (And.intro hd (And.intro hys h1.len)))
  clear hv hd hys
  go_enter Tryz.func41, Tryz.ntmps41
  go_wp2_with (fail)
  go_loopg [7, 8] n (fun g v7 v8 wr => ∃ (j : Nat) (us : List Int), (j ≤ n ∧ g = n - j ∧ v8 = .int .i64 (j : Int)) ∧ (us = ((List.range j).filter fun w => safeF ts (ys.set w 0)).map (fun w : Nat => (w : Int)) ∧ us.length ≤ j) ∧ wr.ownsRow w.heap.size 3 1 v7 us.length (us.map (.int .i64)) ∧ Boxed wr w.heap.size 24 (.slice A1 n c) ∧ Below w.heap.size w wr)
  case atStart => exact ⟨0, [], ⟨Nat.zero_le _, rfl, rfl⟩, ⟨by simp, Nat.le_refl _⟩, World.ownsRow_nil _ _ _ _, x0, hb0⟩
  case round =>
    clear x0 c0 hb0
    obtain ⟨j, us, ⟨hjn, rfl, rfl⟩, ⟨hus, husl⟩, hrow, y0, hB⟩ := hrel
    have cr := y0.cell
    have hz := y0.lt
    have hzw := hB.size
    have Hu := Lib.hid hus
    clear hus
    by_cases hj : j < n
    · have hst : ys.set j 0 ∈ statesL ts := Hv.out.2.2.1 j (by have := Hv.out.2.2.2; omega)
      have hlt := leads_take (ts := ts) (ys := ys) (j := j)
      rw [← Hu.out] at hlt
      have Hst := Lib.hid (And.intro hst hlt)
      clear hst hlt
      obtain ⟨A5, c5, rfl, hle5⟩ := ownsRow_slice hrow
      have hBd : Below w.heap.size w wr.drew := hB.trans ((below_drew wr).mono hzw)
      have hwj : IntKind.i64.wrap ((j : Int) + 1) = (j : Int) + 1 := by rw [IntKind.wrap_i64]; omega
      go_wp2_with (fail)
      have hcellH : ∀ W', Boxed W' w.heap.size 24 (.slice A1 n c) → W'.cell? ⟨w.heap.size, 0, none⟩ = some (.slice A1 n c) := fun W' h => h.cell
      refine region_held_wp 1 (fun W' => Boxed W' w.heap.size 24 (.slice A1 n c)) (fun j => decide (j = 4)) (by kernel_rfl) ?_
      intro KR hKR
      have hS : Boxed wr.drew w.heap.size 24 (.slice A1 n c) := bxBelow y0 (below_drew _) y0.lt
      refine wpAnyHI_takeW (i := 1) (v := .slice A2 m d) (some 16) rfl rfl (by kernel_rfl) (by kernel_rfl) (by kernel_rfl) (by kernel_rfl) (fun _ _ _ h => h) (.inl ⟨by kernel_rfl, fun W' hS' => ?_⟩) ?_
      · go_simp
      refine wpAnyHI_takeW (i := 2) (v := .slice A3 n f) (some 17) rfl rfl (by kernel_rfl) (by kernel_rfl) (by kernel_rfl) (by kernel_rfl) (fun _ _ _ h => h) (.inl ⟨by kernel_rfl, fun W' hS' => ?_⟩) ?_
      · go_simp
      refine wpAnyHI_takeW (i := 3) (v := .int .i64 (j : Int)) (some 18) rfl rfl (by kernel_rfl) (by kernel_rfl) (by kernel_rfl) (by kernel_rfl) (fun _ _ _ h => h) (.inl ⟨by kernel_rfl, fun W' hS' => ?_⟩) ?_
      · go_simp
      refine wpAnyHI_takeE (i := 0) (v := .agg #[.slice A1 n c]) (some 15) rfl rfl (by kernel_rfl) (by kernel_rfl) (by kernel_rfl) (by kernel_rfl) (by kernel_rfl) (fun _ _ _ h => h) hS (.inl ⟨by kernel_rfl, fun W' hS' => ?_⟩) ?_
      · have q := hcellH W' hS'; go_simp
      refine wpAnyHI_one (i := 4) rfl (by kernel_rfl) ?_
      intro K1 hK1
      go_simp
      refine ⟨trivial, (callsIn_wide.2 (Visited_any _ B3 A3 n f ys (h3.below hBd hB3) (by have := hBd.size; omega) j hj (by omega))).mono ?_⟩
      rintro e w5 ⟨v5, rfl, hr5, hb5⟩
      obtain ⟨g5, c5', rfl⟩ := ownsRow_pos hr5 (by omega)
      have hi5 := row_ints hr5 (by omega)
      have hb55 : Below wr.heap.size wr w5 := (below_drew wr).trans hb5
      have hB5 := hB.trans (hb55.mono hzw)
      have hS5 := bxBelow y0 hb55 y0.lt
      refine hK1 _ _ ⟨fun _ => hS5, ?_⟩
      clear hK1 K1 hr5 hS hb5
      refine wpAnyHI_one (i := 5) rfl (by kernel_rfl) ?_
      intro K1 hK1
      go_simp
      refine ⟨trivial, (callsIn_wide.2 (IsSafe_any _ B1 B2 w5.heap.size A1 A2 (some ⟨g5, 0, none⟩) n c m d c5' ts rs (ys.set j 0) (h1.below hB5 hB1) (by have := hB5.size; omega) (h2.below hB5 hB2) (by have := hB5.size; omega) hi5 (Nat.le_refl _) Hv.out.1 Hv.out.2.1 Hst.out.1)).mono ?_⟩
      rintro e w6 ⟨rfl, hb6⟩
      have hb6r : Below wr.heap.size wr w6 := hb55.trans (hb6.mono hb55.size)
      have hB6 := hB.trans (hb6r.mono hzw)
      have x6 := bxBelow y0 hb6r y0.lt
      have hrow6 := row_below hrow hb6r
      refine hK1 _ _ ⟨fun h => absurd h (by decide), ?_⟩
      clear hK1 K1 hi5 hS5 hb6 hb55 hB5
      refine wpAnyHI_end (by kernel_rfl) ?_
      show KR _ _
      refine hKR _ _ ?_
      clear hKR KR
      have hz6 := hB6.size
      have hzw6 := hb6r.size
      clear hB hBd hb6r y0 cr hcellH hrow
      have cr := x6.cell
      have hz := x6.lt
      obtain ⟨s, hs⟩ : ∃ s, s = safeF ts (ys.set j 0) := ⟨_, rfl⟩
      have hlt := Hst.out.2
      rw [← hs] at hlt ⊢
      have Hs := Lib.hid hlt
      clear hs hlt
      cases s with
      | true =>
        go_wp2_with (at_builtin; refine wpList_append_own_at _ rfl _ _ 22 rfl w.heap.size 3 i0 (.int .i64 0) 1 8 Tryz.underlying22 hi hz0 hz1 hz2 rfl (by decide) _ _ _ rfl (hrow6.alloc _) ⟨w6.heap.size, 0, none⟩ 1 1 [.int .i64 (j : Int)] rfl rfl (cell_one_new _ _ _) (by simp [Value.oneCell']) (by simp only [maxLen]; omega) (by omega) (by simp; omega) ?_; intro v' w1 hown' hgrow _ hat)
        go_roundg (n - (j + 1))
        case measure => omega
        case rel =>
          refine ⟨j + 1, us ++ [(j : Int)], ⟨hj, rfl, rfl⟩, ⟨by simpa using Hs.out.symm, by simp; omega⟩, by simpa using hown', ?_, (hB6.alloc hz6 _).trans ((Below.refl _ _).grown hgrow (by simp; omega) (fun r e => (hrow6.lt r e).1))⟩
          exact (hgrow.block _ (by simp; omega) (fun e => cells_not_row x6 hrow6 (by decide) _ e.symm rfl)).trans ((Below.heap_alloc _ _ _ hz).trans x6)
      | false =>
        go_wp2_with (fail)
        go_roundg (n - (j + 1))
        case measure => omega
        case rel => exact ⟨j + 1, us, ⟨hj, rfl, rfl⟩, ⟨by simpa using Hs.out.symm, by omega⟩, hrow6, x6, hB6⟩
    · obtain rfl : j = n := by omega
      have hnj : ¬ (j : Int) < (j : Int) := by omega
      have hul : us = leadsF ts ys := by rw [Hu.out]; unfold leadsF; rw [Hv.out.2.2.2]
      have Hul := Lib.hid hul
      clear hul
      go_wp2_with (fail)
      refine bodyPost_ret (results_tmp rfl _ _ _) rfl ?_
      exact ⟨_, rfl, by rw [← Hul.out]; exact hrow, hB⟩

theorem rnext_results (W : World) (tmps : Array Value) (x y : Value) (t4 : tmps.getD 4 undef = x) (t5 : tmps.getD 5 undef = y) : (results Tryz.f10 tmps).run Tryz.prog W = .ok (.tuple #[x, y]) W := by
  simp only [Array.getD_eq_getD_getElem?] at t4 t5
  simp [results, Tryz.results10, go_sem, t4, t5]
set_option maxRecDepth 100000 in
set_option maxHeartbeats 8000000 in
theorem rNext_any (w : World) (B1 B2 : Nat) (A1 A2 : Option Addr) (n c m d : Nat) (ts ss : List Int) (h1 : IntsAt w B1 A1 n ts) (hB1 : B1 ≤ w.heap.size) (h2 : IntsAt w B2 A2 m ss) (hB2 : B2 ≤ w.heap.size) :
    Calls Tryz.prog 10 #[.agg #[.slice A1 n c], .slice A2 m d] w (ListRes w (rnextR ts ss)) := by
  have hb0 : Below w.heap.size w (w.alloc (.cells #[.slice A1 n c] 24)) := (Below.refl _ w).alloc (Nat.le_refl _) _
  have x0 := Boxed.new w 24 (.slice A1 n c)
  have c0 := x0.cell
  have Hn := Lib.hid (And.intro h1.len h2.len)
  go_enter Tryz.func10, Tryz.ntmps10
  go_wp2_with (fail)
  refine (Stated_any _ B1 B2 A1 A2 n c m d ts ss (h1.below hb0 hB1) (by have := hb0.size; omega) (h2.below hb0 hB2) (by have := hb0.size; omega)).mono ?_
  rintro e w2 ⟨rfl, hb2⟩
  have hB2' := hb0.trans (hb2.mono hb0.size)
  have x2 := bxBelow x0 hb2 x0.lt
  clear hb0 hb2 x0 c0
  have c2 := x2.cell
  have hz2 := hB2'.size
  obtain ⟨r, hr⟩ : ∃ r, r = statedF ts ss := ⟨_, rfl⟩
  rw [← hr]
  by_cases hr0 : r = 0
  case neg =>
    have hne : (r != 0) = true := by simp [hr0]
    have hdf : rnextR ts ss = ([], r) := by unfold rnextR; rw [← hr, if_pos hr0]
    have Hr := Lib.hid (And.intro hr hdf)
    clear hr hdf
    go_wp2_with (fail)
    refine (Stated_any _ B1 B2 A1 A2 n c m d ts ss (h1.below hB2' hB1) (by omega) (h2.below hB2' hB2) (by omega)).mono ?_
    rintro e w3 ⟨rfl, hb3⟩
    rw [← Hr.out.1]
    have hB3 := hB2'.trans (hb3.mono hz2)
    go_wp2_with (fail)
    refine bodyPost_ret (v := .tuple #[.slice none 0 0, .int .i64 r]) (rnext_results _ _ _ _ (by simp) (by simp)) rfl ?_
    exact ListRes.none Hr.out.2 hB3
  have hst := hr.symm.trans hr0
  obtain ⟨hv, hx⟩ := stated_states hst
  have hmn : n = m := by have h := (stated_valid hst).2.1; have := Hn.out.1; have := Hn.out.2; omega
  have HP : ss ∈ statesL ts := hx
  have hdf : rnextR ts ss = match rpullF ts ss (allL ts.length) with
    | none => ([], 17)
    | some ys => if leadsF ts ys = [] then ([], 17) else (leadsF ts ys, 0) := by unfold rnextR; rw [if_neg (by simp [hst])] <;> rfl
  have hn1 : 1 ≤ n ∧ n ≤ 5 := by have := hv.h1; have := hv.h5; have := Hn.out.1; omega
  have Hv := Lib.hid (And.intro hv (And.intro hdf Hn.out.1))
  have hN := states_few hv
  have hN0 := rows_pos hv
  clear hv hx hdf hst hr
  subst hmn hr0
  have HPh := Lib.hid HP
  clear HP
  go_wp2_with (fail)
  refine (Rows_any w2 B1 A1 n c ts (h1.below hB2' hB1) (by omega) Hv.out.1).mono ?_
  rintro e w3 ⟨v3, rs, rfl, hr3, hdone, hb3⟩
  obtain ⟨g3, c3, rfl⟩ := ownsRow_pos hr3 hN0
  have hi3 := row_ints hr3 (by omega)
  have hB3 := hB2'.trans (hb3.mono hz2)
  have x3 := bxBelow x2 hb3 x2.lt
  have c3' := x3.cell
  have hz3 := hB3.size
  have Hd := Lib.hid (And.intro hdone hi3)
  clear hdone hi3 hr3 hb3 x2 c2 hB2'
  have HP := HPh.out
  go_wp2_with (fail)
  have hcellH : ∀ W', Boxed W' w.heap.size 24 (.slice A1 n c) → W'.cell? ⟨w.heap.size, 0, none⟩ = some (.slice A1 n c) := fun W' h => h.cell
  refine region_held_wp 1 (fun W' => Boxed W' w.heap.size 24 (.slice A1 n c)) (fun j => decide (j = 2 ∨ j = 3)) (by kernel_rfl) ?_
  intro KR hKR
  have hS : Boxed w3.drew w.heap.size 24 (.slice A1 n c) := bxBelow x3 (below_drew _) x3.lt
  refine wpAnyHI_takeW (i := 1) (v := .slice A2 n d) (some 20) rfl rfl (by kernel_rfl) (by kernel_rfl) (by kernel_rfl) (by kernel_rfl) (fun _ _ _ h => h) (.inl ⟨by kernel_rfl, fun W' hS' => ?_⟩) ?_
  · go_simp
  refine wpAnyHI_takeE (i := 0) (v := .agg #[.slice A1 n c]) (some 19) rfl rfl (by kernel_rfl) (by kernel_rfl) (by kernel_rfl) (by kernel_rfl) (by kernel_rfl) (fun _ _ _ h => h) hS (.inl ⟨by kernel_rfl, fun W' hS' => ?_⟩) ?_
  · have q := hcellH W' hS'; go_simp
  refine wpAnyHI_takeE (i := 2) (v := .agg #[.slice A1 n c]) (some 21) rfl rfl (by kernel_rfl) (by kernel_rfl) (by kernel_rfl) (by kernel_rfl) (by kernel_rfl) (fun _ _ _ h => h) hS (.inl ⟨by kernel_rfl, fun W' hS' => ?_⟩) ?_
  · have q := hcellH W' hS'; go_simp
  refine wpAnyHI_one (i := 3) rfl (by kernel_rfl) ?_
  intro K1 hK1
  go_simp
  refine ⟨trivial, (callsIn_wide.2 (All_any _ A1 n c (by omega))).mono ?_⟩
  rintro e wa ⟨va, rfl, hra, hba⟩
  obtain ⟨ga, ca, rfl⟩ := ownsRow_pos hra (by omega)
  have hia := row_ints hra (by omega)
  have hbwa : Below w3.heap.size w3 wa := (below_drew w3).trans hba
  have hBa := hB3.trans (hbwa.mono hz3)
  have hSa := bxBelow x3 hbwa x3.lt
  refine hK1 _ _ ⟨fun _ => hSa, ?_⟩
  clear hK1 K1 hra hS hba
  refine wpAnyHI_one (i := 4) rfl (by kernel_rfl) ?_
  intro K1 hK1
  go_simp
  refine ⟨trivial, (callsIn_wide.2 (Pulled_any _ B1 B2 wa.heap.size A1 A2 _ n c d n ca ts ss (allL n) (h1.below hBa hB1) (by have := hBa.size; omega) (h2.below hBa hB2) (by have := hbwa.size; have := hBa.size; omega) hia (Nat.le_refl _) (by omega) (by omega) (by omega) (fun p hp => allL_mem.1 hp) (state_bounds Hv.out.1 HP))).mono ?_⟩
  intro e wp hpp
  obtain ⟨v4, ok, rfl, hbp, hcase⟩ := pulled_form hpp
  have hbwp : Below w3.heap.size w3 wp := hbwa.trans (hbp.mono hbwa.size)
  have hBp := hB3.trans (hbwp.mono hz3)
  have xp := bxBelow x3 hbwp x3.lt
  have hzap := hbwa.size
  refine hK1 _ _ ⟨fun h => absurd h (by decide), ?_⟩
  clear hK1 K1 hia hSa hpp hbp
  refine wpAnyHI_takeW (i := 5) (v := .tuple #[v4, .bool ok]) (some 18) rfl rfl (by kernel_rfl) (by kernel_rfl) (by kernel_rfl) (by kernel_rfl) (fun _ _ _ h => h) (.inl ⟨by kernel_rfl, fun W' hS' => ?_⟩) ?_
  · go_simp
  refine wpAnyHI_takeW (i := 6) (v := v4) (some 24) rfl rfl (by kernel_rfl) (by kernel_rfl) (by kernel_rfl) (by kernel_rfl) (fun _ _ _ h => h) (.inl ⟨by kernel_rfl, fun W' hS' => ?_⟩) ?_
  · go_simp
  refine wpAnyHI_takeW (i := 7) (v := .bool ok) (some 25) rfl rfl (by kernel_rfl) (by kernel_rfl) (by kernel_rfl) (by kernel_rfl) (fun _ _ _ h => h) (.inl ⟨by kernel_rfl, fun W' hS' => ?_⟩) ?_
  · go_simp
  refine wpAnyHI_takeW (i := 8) (v := v4) (some 7) rfl rfl (by kernel_rfl) (by kernel_rfl) (by kernel_rfl) (by kernel_rfl) (fun _ _ _ h => h) (.inl ⟨by kernel_rfl, fun W' hS' => ?_⟩) ?_
  · go_simp
  refine wpAnyHI_takeW (i := 9) (v := .bool ok) (some 8) rfl rfl (by kernel_rfl) (by kernel_rfl) (by kernel_rfl) (by kernel_rfl) (fun _ _ _ h => h) (.inl ⟨by kernel_rfl, fun W' hS' => ?_⟩) ?_
  · go_simp
  refine wpAnyHI_end (by kernel_rfl) ?_
  show KR _ _
  refine hKR _ _ ?_
  clear hKR KR
  have c4 := xp.cell
  have hzp := hBp.size
  have h3p := Hd.out.2.below hbwp (Nat.le_refl _)
  have hz3p := hbwp.size
  have Hp := Lib.hid (And.intro h3p hbwp)
  clear h3p hbwp hbwa hBa hB3 hcellH x3 c3' HP
  rcases hcase with ⟨rfl, ys, hys, hr4⟩ | ⟨rfl, hys⟩
  case inr =>
    have hbf : rnextR ts ss = ([], 17) := by rw [Hv.out.2.1, Hv.out.2.2, hys]
    have Hbf := Lib.hid hbf
    clear hbf hys
    go_wp2_with (fail)
    refine bodyPost_ret (v := .tuple #[.slice none 0 0, .int .i64 17]) (rnext_results _ _ _ _ (by simp) (by simp)) rfl ?_
    exact ListRes.none Hbf.out hBp
  obtain ⟨g4, c4', rfl⟩ := ownsRow_pos hr4 (by omega)
  have hi4 := row_ints hr4 (by omega)
  have hys' : rpullF ts ss (allL ts.length) = some ys := by rw [Hv.out.2.2]; exact hys
  have hbf : rnextR ts ss = if leadsF ts ys = [] then ([], 17) else (leadsF ts ys, 0) := by rw [Hv.out.2.1, hys']
  have hset : ∀ i, i < ts.length → ys.set i 0 ∈ statesL ts := fun i hi => by
    obtain ⟨_, _, _, _, e, _⟩ := visited_state Hv.out.1 HPh.out hys' hi
    exact e
  have Hy := Lib.hid (And.intro hbf (And.intro hset hi4))
  clear hbf hset hi4 hys hys' hr4
  go_wp2_with (fail)
  refine (Leads_any wp B1 w3.heap.size wp.heap.size A1 (some ⟨g3, 0, none⟩) (some ⟨g4, 0, none⟩) n c _ c3 c4' ts rs ys (h1.below hBp hB1) (by omega) Hp.out.1 hz3p Hy.out.2.2 (Nat.le_refl _) Hv.out.1 Hd.out.1 Hy.out.2.1).mono ?_
  rintro e w5 ⟨v5, rfl, hr5, hb5⟩
  obtain ⟨L, hL⟩ : ∃ L, L = leadsF ts ys := ⟨_, rfl⟩
  rw [← hL] at hr5
  obtain ⟨A5, c5, rfl, -⟩ := ownsRow_slice hr5
  have hB5 := hBp.trans (hb5.mono hzp)
  have x5 := bxBelow xp hb5 xp.lt
  have c5' := x5.cell
  have hz5 := hB5.size
  have h3p5 := Hp.out.1.below (hb5.mono hz3p) (Nat.le_refl _)
  have h4p5 := Hy.out.2.2.below hb5 (Nat.le_refl _)
  have hz45 := hb5.size
  have Hl := Lib.hid (And.intro hL (And.intro h3p5 h4p5))
  clear hr5 xp c4 hL h3p5 h4p5 hb5
  by_cases hl0 : L.length = 0
  · have hbf : rnextR ts ss = ([], 17) := by rw [Hy.out.1, if_pos (by rw [← Hl.out.1]; exact List.eq_nil_of_length_eq_zero hl0)]
    have Hbf := Lib.hid hbf
    clear hbf
    go_wp2_with (fail)
    refine bodyPost_ret (v := .tuple #[.slice none 0 0, .int .i64 17]) (rnext_results _ _ _ _ (by simp) (by simp)) rfl ?_
    exact ListRes.none Hbf.out hB5
  · have hbf : rnextR ts ss = (L, 0) := by rw [Hy.out.1, if_neg (by rw [← Hl.out.1]; intro e; rw [e] at hl0; exact hl0 rfl), ← Hl.out.1]
    have Hbf := Lib.hid hbf
    clear hbf
    have hl1 : ¬ (L.length : Int) = 0 := by omega
    go_wp2_with (fail)
    refine (Leads_any w5 B1 w3.heap.size wp.heap.size A1 (some ⟨g3, 0, none⟩) (some ⟨g4, 0, none⟩) n c _ c3 c4' ts rs ys (h1.below hB5 hB1) (by omega) Hl.out.2.1 (by omega) Hl.out.2.2 hz45 Hv.out.1 Hd.out.1 Hy.out.2.1).mono ?_
    rintro e w6 ⟨v6, rfl, hr6, hb6⟩
    rw [← Hl.out.1] at hr6
    have hB6 := hB5.trans (hb6.mono hz5)
    go_wp2_with (fail)
    refine bodyPost_ret (v := .tuple #[v6, .int .i64 0]) (rnext_results _ _ _ _ (by simp) (by simp)) rfl ?_
    refine ⟨v6, by rw [Hbf.out], ?_, hB6⟩
    rw [Hbf.out]
    exact row_mono hr6 hz5
end Go.Proofs.YthjgecblkagelaaGreat

/- References: Bits exactly, before, Wait. -/
namespace Go.Proofs.YthjgecblkagelaaGreat
open Go.RowKit Go.Shelf

attribute [local go_sem] Oper.semAt_some

theorem bitsL_succ (j b : Nat) : bitsL (j + 1) b = bitsL j b ++ (if b.testBit j then [(j : Int)] else []) := by
  unfold bitsL bitsN
  rw [List.range_succ, List.filter_append, List.map_append]
  cases h : b.testBit j <;> simp [h]
theorem bitsL_done {j n b : Nat} (h : b < 2 ^ j) (hj : j ≤ n) : bitsL n b = bitsL j b := by
  obtain ⟨k, rfl⟩ : ∃ k, n = j + k := ⟨n - j, by omega⟩
  clear hj
  induction k with
  | zero => rfl
  | succ k ih =>
    rw [← Nat.add_assoc, bitsL_succ, ih, Nat.testBit_lt_two_pow (Nat.lt_of_lt_of_le h (Nat.pow_le_pow_right (by omega) (by omega)))]
    simp
def bitsOk : Bool := (List.range 32).all fun b => (List.range 6).all fun j => (bits BinOp.and IntKind.i64 ((b : Int) / 2 ^ j) 1 == 1) == b.testBit j
theorem bitsOk_true : bitsOk = true := by kernel_rfl
theorem bits_and {b j : Nat} (hb : b < 32) (hj : j < 6) : (bits BinOp.and IntKind.i64 ((b : Int) / 2 ^ j) 1 == 1) = b.testBit j := by
  have := bitsOk_true
  unfold bitsOk at this
  have := (List.all_eq_true.1 ((List.all_eq_true.1 this) b (List.mem_range.2 hb))) j (List.mem_range.2 hj)
  simpa using this

set_option maxRecDepth 100000 in
set_option maxHeartbeats 4000000 in
theorem BitsX_any (w : World) (b n : Nat) (hbn : b < 2 ^ n) (h5 : n ≤ 5) :
    Calls Tryz.prog 23 #[.int .i64 (b : Int)] w fun e w' => ∃ v, e = .returned v ∧ w'.ownsRow w.heap.size 3 1 v (bitsL n b).length ((bitsL n b).map (.int .i64)) ∧ Below w.heap.size w w' := by
  obtain ⟨i0, hi, hz0, hz1, hz2⟩ := info_parts infoInt
  have hb0 : Below w.heap.size w w := Below.refl _ w
  have hb32 : b < 32 := Nat.lt_of_lt_of_le hbn (Nat.le_trans (Nat.pow_le_pow_right (by omega) h5) (by decide))
  have Hb := Lib.hid (And.intro hbn (And.intro hb0 hb32))
  clear hbn hb0 hb32
  go_enter Tryz.func23, Tryz.ntmps23
  go_wp2_with (fail)
  go_loopg [3, 4] n (fun g v3 v4 wr => ∃ (j : Nat) (ps : List Int), (j ≤ n ∧ g = n - j ∧ v4 = .int .i64 (j : Int)) ∧ ps = bitsL j b ∧ wr.ownsRow w.heap.size 3 1 v3 ps.length (ps.map (.int .i64)) ∧ Below w.heap.size w wr)
  case atStart => exact ⟨0, [], ⟨Nat.zero_le _, rfl, rfl⟩, by simp [bitsL, bitsN], World.ownsRow_nil _ _ _ _, Hb.out.2.1⟩
  case round =>
    obtain ⟨j, ps, ⟨hjn, rfl, rfl⟩, hps, hrow, hB⟩ := hrel
    have hwj : IntKind.i64.wrap ((j : Int) + 1) = (j : Int) + 1 := by rw [IntKind.wrap_i64]; omega
    have hl5 : ps.length ≤ 5 := by rw [hps]; exact Nat.le_trans (bitsL_len j b) (by omega)
    by_cases h0 : 0 < (b : Int) / 2 ^ j
    · have hj : j < n := by
        rcases Nat.lt_or_ge j n with h | h
        · exact h
        · exfalso
          obtain rfl : j = n := by omega
          have : (b : Int) / 2 ^ j = 0 := Int.ediv_eq_zero_of_lt (by omega) (by exact_mod_cast Hb.out.1)
          omega
      have hand := bits_and (b := b) (j := j) Hb.out.2.2 (by omega)
      have hsucc := bitsL_succ j b
      rw [← hps] at hsucc
      have Hs := Lib.hid (And.intro hand hsucc)
      clear hand hsucc hps
      by_cases h1 : (bits BinOp.and IntKind.i64 ((b : Int) / 2 ^ j) 1 == 1) = true
      · have hsz := hB.size
        go_wp2_with (at_builtin; refine wpList_append_own_at _ rfl _ _ 22 rfl w.heap.size 3 i0 (.int .i64 0) 1 8 Tryz.underlying22 hi hz0 hz1 hz2 rfl (by decide) _ _ _ rfl (hrow.alloc _) ⟨wr.heap.size, 0, none⟩ 1 1 [.int .i64 (j : Int)] rfl rfl (cell_one_new _ _ _) (by simp [Value.oneCell']) (by simp only [maxLen]; omega) (by omega) (by simp; omega) ?_; intro v' w1 hown' hgrow _ hat)
        go_roundg (n - (j + 1))
        case measure => omega
        case rel =>
          refine ⟨j + 1, ps ++ [(j : Int)], ⟨hj, rfl, by simp⟩, ?_, by simpa using hown', (hB.alloc hB.size _).trans ((Below.refl _ _).grown hgrow (by simp; omega) (fun r e => (hrow.lt r e).1))⟩
          rw [Hs.out.2, if_pos (by rw [← Hs.out.1]; exact h1)]
      · go_wp2_with (fail)
        go_roundg (n - (j + 1))
        case measure => omega
        case rel =>
          refine ⟨j + 1, ps, ⟨hj, rfl, by simp⟩, ?_, hrow, hB⟩
          rw [Hs.out.2, if_neg (by rw [← Hs.out.1]; exact h1), List.append_nil]
    · have hlt : b < 2 ^ j := by
        have h2 : (b : Int) / 2 ^ j = ((b / 2 ^ j : Nat) : Int) := by simp
        rw [h2] at h0
        have h3 : b / 2 ^ j = 0 := Nat.eq_zero_of_not_pos fun h => h0 (Int.natCast_pos.2 h)
        rcases (Nat.div_eq_zero_iff).1 h3 with h | h
        · have := Nat.pow_pos (n := j) (show 0 < 2 by omega); omega
        · exact h
      have hdone := bitsL_done hlt hjn
      rw [← hps] at hdone
      have Hd := Lib.hid hdone
      clear hdone hps hlt
      go_wp2_with (fail)
      refine bodyPost_ret (results_tmp rfl _ _ _) rfl ⟨_, rfl, ?_, hB⟩
      rw [Hd.out]
      exact hrow

theorem earlier_len {xs ys : List Int} (h : xs.length ≠ ys.length) : earlierF xs ys = decide (xs.length < ys.length) := by
  unfold earlierF
  exact decide_eq_decide.2 ((gcmpF_lt xs ys).trans ⟨fun h2 => by omega, fun h2 => .inl h2⟩)
theorem cmpF_eq {x y : Int} (h : x = y) : cmpF x y = 0 := by unfold cmpF; simp [h]
theorem earlier_at {xs ys : List Int} (h : xs.length = ys.length) {k : Nat} (hk : k < xs.length) (he : ∀ j, j < k → xs[j]?.getD 0 = ys[j]?.getD 0) (hne : xs[k]?.getD 0 ≠ ys[k]?.getD 0) : earlierF xs ys = decide (xs[k]?.getD 0 < ys[k]?.getD 0) := by
  unfold earlierF
  refine decide_eq_decide.2 ((gcmpF_lt xs ys).trans ?_)
  rw [scmpF_drop k xs ys (by omega) (by omega) (fun j hj => cmpF_eq (he j hj))]
  rw [List.drop_eq_getElem_cons hk, List.drop_eq_getElem_cons (show k < ys.length by omega)]
  rw [List.getElem?_eq_getElem hk, List.getElem?_eq_getElem (show k < ys.length by omega)] at hne ⊢
  simp only [Option.getD_some] at hne ⊢
  unfold scmpF cmpF
  by_cases h1 : xs[k] < ys[k]
  · simp [h1, h]
  · have h2 : xs[k] > ys[k] := by omega
    simp [h1, h2, h]
theorem earlier_same {xs ys : List Int} (h : xs.length = ys.length) (he : ∀ j, j < xs.length → xs[j]?.getD 0 = ys[j]?.getD 0) : earlierF xs ys = false := by
  have : xs = ys := ints_ext h he
  subst this
  unfold earlierF
  rw [decide_eq_false_iff_not, gcmpF_ge]
  rcases gle_total xs xs with h | h <;> exact h

set_option maxHeartbeats 1000000 in
theorem before_any (w : World) (B1 B2 : Nat) (A1 A2 : Option Addr) (n m c1 c2 : Nat) (xs ys : List Int) (h1 : IntsAt w B1 A1 n xs) (h2 : IntsAt w B2 A2 m ys) :
    Calls Tryz.prog 43 #[.slice A1 n c1, .slice A2 m c2] w fun e w' => e = .returned (.bool (earlierF xs ys)) ∧ ∃ q, w' = w.drewN q := by
  have hm := h1.small
  have hm2 := h2.small
  by_cases hnm : n = m
  · subst hnm
    have Hl := Lib.hid (h1.len.trans h2.len.symm)
    go_enter Tryz.func43, Tryz.ntmps43
    go_wp2
    go_loopw [5] (fun i wr => ∃ k q : Nat, k ≤ n ∧ i = .int .i64 k ∧ wr = w.drewN q ∧ ∀ j, j < k → xs[j]?.getD 0 = ys[j]?.getD 0) (fun i _ => n - (intOf i).toNat)
    case atStart => exact ⟨0, 0, by omega, rfl, rfl, fun j hj => by omega⟩
    case round =>
      obtain ⟨k, q, hk, rfl, rfl, hall⟩ := hrel
      have Hall := Lib.hid hall
      clear hall
      by_cases hlt : k < n
      · obtain ⟨b1, o1, rfl, _, hc1⟩ := h1.cell hlt
        obtain ⟨b2, o2, rfl, _, hc2⟩ := h2.cell hlt
        by_cases hq : xs[k]?.getD 0 = ys[k]?.getD 0
        · have hb : (xs[k]?.getD 0 != ys[k]?.getD 0) = false := by simp [hq]
          have Hq := Lib.hid hq
          clear hq
          go_wp2
          go_quiet (fail)
          go_wp2
          go_roundw
          case rel => exact ⟨k + 1, _, by omega, by go_num, rfl, fun j hj => by rcases Nat.lt_succ_iff_lt_or_eq.1 hj with h | rfl; exact Hall.out j h; exact Hq.out⟩
          case measure => simp [intOf]; omega
        · have hb : (xs[k]?.getD 0 != ys[k]?.getD 0) = true := by simp [hq]
          have Hq := Lib.hid (earlier_at Hl.out (k := k) (by rw [h1.len]; exact hlt) Hall.out hq)
          clear hq
          go_wp2
          go_quiet (fail)
          go_wp2
          go_quiet (fail)
          go_wp2
          go_ret
          exact ⟨ret_bool (by rw [Hq.out]), _, by simp only [World.drewN_drewN]; rfl⟩
      · have He := Lib.hid (earlier_same Hl.out (fun j hj => Hall.out j (by rw [h1.len] at hj; omega)))
        go_wp2
        go_ret
        exact ⟨ret_bool He.out.symm, _, rfl⟩
  · have hb : ((n : Int) != (m : Int)) = true := by rw [bne_iff_ne]; omega
    have He := Lib.hid (earlier_len (xs := xs) (ys := ys) (by rw [h1.len, h2.len]; exact hnm))
    have Hl := Lib.hid (And.intro h1.len h2.len)
    go_enter Tryz.func43, Tryz.ntmps43
    go_wp2
    go_ret
    refine ⟨ret_bool ?_, 0, rfl⟩
    rw [He.out, Hl.out.1, Hl.out.2]
    all_goals exact decide_eq_decide.2 (by omega)

/-! ### Wait -/
theorem rwait_results (W : World) (tmps : Array Value) (x y : Value) (t4 : tmps.getD 4 undef = x) (t5 : tmps.getD 5 undef = y) : (results Tryz.f12 tmps).run Tryz.prog W = .ok (.tuple #[x, y]) W := by
  simp only [Array.getD_eq_getD_getElem?] at t4 t5
  simp [results, Tryz.results12, go_sem, t4, t5]
theorem good_none {ts ss : List Int} {b : Nat} (h : rpullF ts ss (bitsL ts.length (2 ^ ts.length - 1 - b)) = none) : goodB ts ss b = false := by
  unfold goodB
  rw [h]
theorem good_some {ts ss ys : List Int} {b : Nat} (h : rpullF ts ss (bitsL ts.length (2 ^ ts.length - 1 - b)) = some ys) : goodB ts ss b = decide (leadsF ts ys ≠ []) := by
  unfold goodB
  rw [h]
theorem lacks_set {ts ss ys : List Int} (h0 : statedF ts ss = 0) {b : Nat} (hb : b < 2 ^ ts.length) (h : rpullF ts ss (bitsL ts.length (2 ^ ts.length - 1 - b)) = some ys) : ∀ i, i < ts.length → ys.set i 0 ∈ statesL ts := by
  obtain ⟨hv, -, -⟩ := stated_valid h0
  rcases pull_lacks h0 hb with ⟨q, -, h2, hq⟩ | ⟨-, h2⟩
  · rw [h] at h2
    cases h2
    intro i hi
    rw [list_set hv hq hi]
    exact (nice_list hv (nice_set hv hq hi)).1
  · rw [h] at h2; cases h2
def bestO (fd : Bool) (best : List Int) : Option (List Int) := if fd then some best else none
theorem step_bad {ts ss : List Int} {k : Nat} {o : Option (List Int)} (h : rwaitF ts ss k = o) (hg : goodB ts ss k = false) : rwaitF ts ss (k + 1) = o := by
  rw [rwaitF_succ, h]
  unfold rwaitStep
  rw [hg]
  simp
theorem step_first {ts ss best : List Int} {k : Nat} (h : rwaitF ts ss k = bestO false best) (hg : goodB ts ss k = true) : rwaitF ts ss (k + 1) = bestO true (bitsL ts.length k) := by
  rw [rwaitF_succ, h]
  unfold rwaitStep
  rw [hg]
  rfl
theorem step_less {ts ss best : List Int} {k : Nat} (h : rwaitF ts ss k = bestO true best) (hg : goodB ts ss k = true) : rwaitF ts ss (k + 1) = bestO true (if earlierF (bitsL ts.length k) best then bitsL ts.length k else best) := by
  rw [rwaitF_succ, h]
  unfold rwaitStep bestO
  rw [hg]
  cases he : earlierF (bitsL ts.length k) best <;> simp [he]

set_option maxRecDepth 100000 in
set_option maxHeartbeats 16000000 in
theorem rWait_any (w : World) (B1 B2 : Nat) (A1 A2 : Option Addr) (n c m d : Nat) (ts ss : List Int) (h1 : IntsAt w B1 A1 n ts) (hB1 : B1 ≤ w.heap.size) (h2 : IntsAt w B2 A2 m ss) (hB2 : B2 ≤ w.heap.size) :
    Calls Tryz.prog 12 #[.agg #[.slice A1 n c], .slice A2 m d] w (ListRes w (rwaitR ts ss)) := by
  have hb0 : Below w.heap.size w (w.alloc (.cells #[.slice A1 n c] 24)) := (Below.refl _ w).alloc (Nat.le_refl _) _
  have x0 := Boxed.new w 24 (.slice A1 n c)
  have c0 := x0.cell
  have Hn := Lib.hid (And.intro h1.len h2.len)
  go_enter Tryz.func12, Tryz.ntmps12
  go_wp2_with (fail)
  refine (Stated_any _ B1 B2 A1 A2 n c m d ts ss (h1.below hb0 hB1) (by have := hb0.size; omega) (h2.below hb0 hB2) (by have := hb0.size; omega)).mono ?_
  rintro e w2 ⟨rfl, hb2⟩
  have hB2' := hb0.trans (hb2.mono hb0.size)
  have x2 := bxBelow x0 hb2 x0.lt
  clear hb0 hb2 x0 c0
  have c2 := x2.cell
  have hz2 := hB2'.size
  obtain ⟨r, hr⟩ : ∃ r, r = statedF ts ss := ⟨_, rfl⟩
  rw [← hr]
  by_cases hr0 : r = 0
  case neg =>
    have hne : (r != 0) = true := by simp [hr0]
    have hdf : rwaitR ts ss = ([], r) := by unfold rwaitR; rw [← hr, if_pos hr0]
    have Hr := Lib.hid (And.intro hr hdf)
    clear hr hdf
    go_wp2_with (fail)
    refine (Stated_any _ B1 B2 A1 A2 n c m d ts ss (h1.below hB2' hB1) (by omega) (h2.below hB2' hB2) (by omega)).mono ?_
    rintro e w3 ⟨rfl, hb3⟩
    rw [← Hr.out.1]
    have hB3 := hB2'.trans (hb3.mono hz2)
    go_wp2_with (fail)
    refine bodyPost_ret (v := .tuple #[.slice none 0 0, .int .i64 r]) (rwait_results _ _ _ _ (by simp) (by simp)) rfl ?_
    exact ListRes.none Hr.out.2 hB3
  have hst := hr.symm.trans hr0
  obtain ⟨hv, hx⟩ := stated_states hst
  have hmn : n = m := by have h := (stated_valid hst).2.1; have := Hn.out.1; have := Hn.out.2; omega
  have hdf : rwaitR ts ss = waitV (rwaitF ts ss (2 ^ n)) := by unfold rwaitR; rw [if_neg (by simp [hst]), Hn.out.1]
  have hn1 : 1 ≤ n := by have := hv.h1; have := Hn.out.1; omega
  have hn5 : n ≤ 5 := by have := hv.h5; have := Hn.out.1; omega
  have Hv := Lib.hid (And.intro hv (And.intro hdf (And.intro Hn.out.1 (And.intro hst hx))))
  have hN := states_few hv
  have hN0 := rows_pos hv
  clear hv hx hdf hst hr
  subst hmn hr0
  go_wp2_with (fail)
  refine (Rows_any w2 B1 A1 n c ts (h1.below hB2' hB1) (by omega) Hv.out.1).mono ?_
  rintro e w3 ⟨v3, rs, rfl, hr3, hdone, hb3⟩
  obtain ⟨g3, c3, rfl⟩ := ownsRow_pos hr3 hN0
  have hi3 := row_ints hr3 (by omega)
  have hB3 := hB2'.trans (hb3.mono hz2)
  have x3 := bxBelow x2 hb3 x2.lt
  have c3' := x3.cell
  have hz3 := hB3.size
  have Hd := Lib.hid (And.intro hdone hi3)
  clear hdone hi3 hr3 hb3 x2 c2 hB2'
  obtain ⟨p, hp, hp2, hp32⟩ := pow5 hn1 hn5
  have hpi : (2 : Int) ^ n = (p : Int) := by rw [hp]; simp
  have hwp : IntKind.i64.wrap (2 ^ n) = (p : Int) := by rw [hpi, IntKind.wrap_i64]; omega
  have Hp := Lib.hid hp
  clear hp hpi
  have hb33 : Below w3.heap.size w3 w3 := Below.refl _ _
  go_wp2_with (fail)
  go_loopg [8, 9, 10] p (fun g v8 v9 v10 wr => ∃ (j : Nat) (fd : Bool) (best : List Int), (j ≤ p ∧ g = p - j ∧ v10 = .int .i64 (j : Int) ∧ v9 = .bool fd) ∧ rwaitF ts ss j = bestO fd best ∧ best.length ≤ 5 ∧ wr.ownsRow w.heap.size 3 1 v8 best.length (best.map (.int .i64)) ∧ Boxed wr w.heap.size 24 (.slice A1 n c) ∧ Below w.heap.size w wr ∧ Below w3.heap.size w3 wr)
  case atStart => exact ⟨0, false, [], ⟨Nat.zero_le _, rfl, rfl, rfl⟩, rfl, by simp, World.ownsRow_nil _ _ _ _, x3, hB3, hb33⟩
  case round =>
    clear x3 c3' hb33 hB3
    obtain ⟨j, fd, best, ⟨hjp, rfl, rfl, rfl⟩, hbest, hbl, hrow, y0, hB, hb3r⟩ := hrel
    have cr := y0.cell
    have hz := y0.lt
    have hzw := hB.size
    have hz3r := hb3r.size
    have Hbest := Lib.hid hbest
    clear hbest
    by_cases hj : j < p
    · obtain ⟨b, hbb⟩ : ∃ b : Nat, b = 2 ^ n - 1 - j := ⟨_, rfl⟩
      have hjb : j < 2 ^ n := by rw [← Hp.out]; exact hj
      have hb2n : b < 2 ^ n := by omega
      have hbp : (b : Int) = (p : Int) - 1 - (j : Int) := by have := Hp.out; omega
      have hbits := bitsL_len n b
      have hbitsj := bitsL_len n j
      have hbin := bitsL_in (n := n) (b := b)
      have hq1 : IntKind.i64.wrap ((p : Int) - 1) = (p : Int) - 1 := by rw [IntKind.wrap_i64]; omega
      have hq2 : IntKind.i64.wrap ((p : Int) - 1 - (j : Int)) = (b : Int) := by rw [IntKind.wrap_i64]; omega
      have hwj : IntKind.i64.wrap ((j : Int) + 1) = (j : Int) + 1 := by rw [IntKind.wrap_i64]; omega
      have Hb := Lib.hid (And.intro hbb (And.intro hb2n (And.intro hjb (And.intro hbits (And.intro hbitsj hbin)))))
      obtain ⟨A8, m8, c8, rfl, hi8⟩ := ListAt.of_row hrow (by omega)
      have hm8 := hi8.len
      have H8 := Lib.hid (And.intro hrow (And.intro hi8 hm8))
      have hm85 : m8 ≤ 5 := by omega
      clear hbb hb2n hjb hbits hbitsj hbin hbp hrow hi8 hm8
      go_wp2_with (fail)
      have hcellH : ∀ W', Boxed W' w.heap.size 24 (.slice A1 n c) → W'.cell? ⟨w.heap.size, 0, none⟩ = some (.slice A1 n c) := fun W' h => h.cell
      refine region_held_wp 1 (fun W' => Boxed W' w.heap.size 24 (.slice A1 n c)) (fun j => decide (j = 6)) (by kernel_rfl) ?_
      intro KR hKR
      have hS : Boxed wr.drew w.heap.size 24 (.slice A1 n c) := bxBelow y0 (below_drew _) y0.lt
      refine wpAnyHI_takeW (i := 1) (v := .slice A2 n d) (some 32) rfl rfl (by kernel_rfl) (by kernel_rfl) (by kernel_rfl) (by kernel_rfl) (fun _ _ _ h => h) (.inl ⟨by kernel_rfl, fun W' hS' => ?_⟩) ?_
      · go_simp
      refine wpAnyHI_takeW (i := 2) (v := .int .i64 (p : Int)) (some 33) rfl rfl (by kernel_rfl) (by kernel_rfl) (by kernel_rfl) (by kernel_rfl) (fun _ _ _ h => h) (.inl ⟨by kernel_rfl, fun W' hS' => ?_⟩) ?_
      · go_simp
      refine wpAnyHI_takeW (i := 3) (v := .int .i64 ((p : Int) - 1)) (some 34) rfl rfl (by kernel_rfl) (by kernel_rfl) (by kernel_rfl) (by kernel_rfl) (fun _ _ _ h => h) (.inl ⟨by kernel_rfl, fun W' hS' => ?_⟩) ?_
      · go_simp
      refine wpAnyHI_takeW (i := 4) (v := .int .i64 (j : Int)) (some 35) rfl rfl (by kernel_rfl) (by kernel_rfl) (by kernel_rfl) (by kernel_rfl) (fun _ _ _ h => h) (.inl ⟨by kernel_rfl, fun W' hS' => ?_⟩) ?_
      · go_simp
      refine wpAnyHI_takeW (i := 5) (v := .int .i64 (b : Int)) (some 36) rfl rfl (by kernel_rfl) (by kernel_rfl) (by kernel_rfl) (by kernel_rfl) (fun _ _ _ h => h) (.inl ⟨by kernel_rfl, fun W' hS' => ?_⟩) ?_
      · go_simp
      refine wpAnyHI_takeE (i := 0) (v := .agg #[.slice A1 n c]) (some 31) rfl rfl (by kernel_rfl) (by kernel_rfl) (by kernel_rfl) (by kernel_rfl) (by kernel_rfl) (fun _ _ _ h => h) hS (.inl ⟨by kernel_rfl, fun W' hS' => ?_⟩) ?_
      · have q := hcellH W' hS'; go_simp
      refine wpAnyHI_one (i := 6) rfl (by kernel_rfl) ?_
      intro K1 hK1
      go_simp
      refine ⟨trivial, (callsIn_wide.2 (BitsX_any _ b n Hb.out.2.1 hn5)).mono ?_⟩
      rintro e wa ⟨va, rfl, hra, hba⟩
      obtain ⟨Aa, ma, ca, rfl, hia⟩ := ListAt.of_row hra (by have := Hb.out.2.2.2.1; omega)
      have hma := hia.len
      have hbwa : Below wr.heap.size wr wa := (below_drew wr).trans hba
      have hBa := hB.trans (hbwa.mono hzw)
      have hSa := bxBelow y0 hbwa y0.lt
      have hza := hBa.size
      have hzra := hbwa.size
      refine hK1 _ _ ⟨fun _ => hSa, ?_⟩
      clear hK1 K1 hra hS hba
      refine wpAnyHI_one (i := 7) rfl (by kernel_rfl) ?_
      intro K1 hK1
      go_simp
      refine ⟨trivial, (callsIn_wide.2 (Pulled_any _ B1 B2 wa.heap.size A1 A2 Aa n c d ma ca ts ss (bitsL n b) (h1.below hBa hB1) (by omega) (h2.below hBa hB2) (by omega) hia (Nat.le_refl _) hn1 (by omega) (by have := Hb.out.2.2.2.1; omega) Hb.out.2.2.2.2.2 (state_bounds Hv.out.1 Hv.out.2.2.2.2))).mono ?_⟩
      intro e wp hpp
      obtain ⟨v4, ok, rfl, hbp, hcase⟩ := pulled_form hpp
      have hbwp : Below wr.heap.size wr wp := hbwa.trans (hbp.mono hzra)
      have hBp := hB.trans (hbwp.mono hzw)
      have xp := bxBelow y0 hbwp y0.lt
      refine hK1 _ _ ⟨fun h => absurd h (by decide), ?_⟩
      clear hK1 K1 hia hSa hpp hbp hma
      refine wpAnyHI_takeW (i := 8) (v := .tuple #[v4, .bool ok]) (some 30) rfl rfl (by kernel_rfl) (by kernel_rfl) (by kernel_rfl) (by kernel_rfl) (fun _ _ _ h => h) (.inl ⟨by kernel_rfl, fun W' hS' => ?_⟩) ?_
      · go_simp
      refine wpAnyHI_takeW (i := 9) (v := v4) (some 39) rfl rfl (by kernel_rfl) (by kernel_rfl) (by kernel_rfl) (by kernel_rfl) (fun _ _ _ h => h) (.inl ⟨by kernel_rfl, fun W' hS' => ?_⟩) ?_
      · go_simp
      refine wpAnyHI_takeW (i := 10) (v := .bool ok) (some 40) rfl rfl (by kernel_rfl) (by kernel_rfl) (by kernel_rfl) (by kernel_rfl) (fun _ _ _ h => h) (.inl ⟨by kernel_rfl, fun W' hS' => ?_⟩) ?_
      · go_simp
      refine wpAnyHI_takeW (i := 11) (v := v4) (some 11) rfl rfl (by kernel_rfl) (by kernel_rfl) (by kernel_rfl) (by kernel_rfl) (fun _ _ _ h => h) (.inl ⟨by kernel_rfl, fun W' hS' => ?_⟩) ?_
      · go_simp
      refine wpAnyHI_takeW (i := 12) (v := .bool ok) (some 12) rfl rfl (by kernel_rfl) (by kernel_rfl) (by kernel_rfl) (by kernel_rfl) (fun _ _ _ h => h) (.inl ⟨by kernel_rfl, fun W' hS' => ?_⟩) ?_
      · go_simp
      refine wpAnyHI_end (by kernel_rfl) ?_
      show KR _ _
      refine hKR _ _ ?_
      clear hKR KR
      have cp := xp.cell
      have hzp := hBp.size
      have hzrp := hbwp.size
      have hb3p := hb3r.trans (hbwp.mono hz3r)
      have h3p := Hd.out.2.below hb3p (Nat.le_refl _)
      have hrowp := row_below H8.out.1 hbwp
      have h8p := H8.out.2.1.below hbwp (Nat.le_refl _)
      have hz3p := hb3p.size
      have Hpp := Lib.hid (And.intro h3p (And.intro hrowp (And.intro h8p hb3p)))
      clear h3p hrowp h8p hb3p hbwp hbwa hBa hcellH y0 cr hB hb3r
      rcases hcase with ⟨rfl, ys, hys, hr4⟩ | ⟨rfl, hys⟩
      case inr =>
        have hg : goodB ts ss j = false := good_none (by rw [Hv.out.2.2.1, ← Hb.out.1]; exact hys)
        have hstep := step_bad Hbest.out hg
        have Hs := Lib.hid hstep
        clear hg hstep hys
        go_wp2_with (fail)
        go_roundg (p - (j + 1))
        case measure => omega
        case rel => exact ⟨j + 1, fd, best, ⟨hj, rfl, rfl, rfl⟩, Hs.out, hbl, Hpp.out.2.1, xp, hBp, Hpp.out.2.2.2⟩
      obtain ⟨g4, c4', rfl⟩ := ownsRow_pos hr4 (by omega)
      have hi4 := row_ints hr4 (by omega)
      have hys' : rpullF ts ss (bitsL ts.length (2 ^ ts.length - 1 - j)) = some ys := by rw [Hv.out.2.2.1, ← Hb.out.1]; exact hys
      have hset := lacks_set Hv.out.2.2.2.1 (b := j) (by rw [Hv.out.2.2.1]; exact Hb.out.2.2.1) hys'
      have hg := good_some hys'
      have Hy := Lib.hid (And.intro hg (And.intro hset hi4))
      clear hg hset hi4 hys hys' hr4
      go_wp2_with (fail)
      refine (Leads_any wp B1 w3.heap.size wp.heap.size A1 (some ⟨g3, 0, none⟩) (some ⟨g4, 0, none⟩) n c _ c3 c4' ts rs ys (h1.below hBp hB1) (by omega) Hpp.out.1 hz3p Hy.out.2.2 (Nat.le_refl _) Hv.out.1 Hd.out.1 Hy.out.2.1).mono ?_
      rintro e w5 ⟨v5, rfl, hr5, hb5⟩
      obtain ⟨L, hL⟩ : ∃ L, L = leadsF ts ys := ⟨_, rfl⟩
      rw [← hL] at hr5
      obtain ⟨A5, c5, rfl, -⟩ := ownsRow_slice hr5
      have hB5 := hBp.trans (hb5.mono hzp)
      have x5 := bxBelow xp hb5 xp.lt
      have c5' := x5.cell
      have hz5 := hB5.size
      have hb35 := Hpp.out.2.2.2.trans (hb5.mono hz3p)
      have hrow5 := row_below Hpp.out.2.1 hb5
      have h85 := Hpp.out.2.2.1.below (hb5.mono hzrp) (Nat.le_refl _)
      have hzp5 := hb5.size
      have Hl := Lib.hid (And.intro hL (And.intro hb35 (And.intro hrow5 h85)))
      clear hr5 xp cp hL hb35 hrow5 h85 hb5 hBp
      by_cases hl0 : L.length = 0
      · have hg : goodB ts ss j = false := by
          rw [Hy.out.1, decide_eq_false_iff_not, ← Hl.out.1]
          exact fun h => h (List.eq_nil_of_length_eq_zero hl0)
        have Hs := Lib.hid (step_bad Hbest.out hg)
        clear hg
        have hln : ¬ 0 < (L.length : Int) := by omega
        go_wp2_with (fail)
        go_roundg (p - (j + 1))
        case measure => omega
        case rel => exact ⟨j + 1, fd, best, ⟨hj, rfl, rfl, rfl⟩, Hs.out, hbl, Hl.out.2.2.1, x5, hB5, Hl.out.2.1⟩
      have hlp : 0 < (L.length : Int) := by omega
      have hg : goodB ts ss j = true := by
        rw [Hy.out.1, decide_eq_true_iff, ← Hl.out.1]
        exact fun h => hl0 (by rw [h]; rfl)
      have Hg := Lib.hid hg
      clear hg
      cases fd with
      | false =>
        have Hs := Lib.hid (step_first Hbest.out Hg.out)
        go_wp2_with (fail)
        refine (BitsX_any _ j n Hb.out.2.2.1 hn5).mono ?_
        rintro e w6 ⟨v6, rfl, hr6, hb6⟩
        have hB6 := hB5.trans (hb6.mono hz5)
        have x6 := bxBelow x5 hb6 x5.lt
        have hb36 := Hl.out.2.1.trans (hb6.mono (Hl.out.2.1).size)
        have H6 := Lib.hid (And.intro (row_mono hr6 hz5) hb36)
        clear hr6 hb36 x5 c5'
        go_wp2_with (fail)
        go_roundg (p - (j + 1))
        case measure => omega
        case rel => exact ⟨j + 1, true, bitsL n j, ⟨hj, rfl, rfl, rfl⟩, by rw [Hs.out, Hv.out.2.2.1], Nat.le_trans Hb.out.2.2.2.2.1 hn5, H6.out.1, x6, hB6, H6.out.2⟩
      | true =>
        have Hs := Lib.hid (step_less Hbest.out Hg.out)
        go_wp2_with (fail)
        refine (BitsX_any _ j n Hb.out.2.2.1 hn5).mono ?_
        rintro e w6 ⟨v6, rfl, hr6, hb6⟩
        obtain ⟨A6, m6, c6, rfl, hi6⟩ := ListAt.of_row hr6 (by have := Hb.out.2.2.2.2.1; omega)
        have hm6 := hi6.len
        have hm65 : m6 ≤ 5 := by have := Hb.out.2.2.2.2.1; omega
        have hB6 := hB5.trans (hb6.mono hz5)
        have x6 := bxBelow x5 hb6 x5.lt
        have c6' := x6.cell
        have hz6 := hB6.size
        have hb36 := Hl.out.2.1.trans (hb6.mono (Hl.out.2.1).size)
        have hrow6 := row_below Hl.out.2.2.1 hb6
        have hz56 := hb6.size
        have h86 := Hl.out.2.2.2.below (hb6.mono (show wr.heap.size ≤ w5.heap.size by omega)) (Nat.le_refl _)
        have H6 := Lib.hid (And.intro hi6 (And.intro hb36 (And.intro hrow6 h86)))
        clear hi6 hr6 hb36 hrow6 h86 x5 c5' hm6 hb6
        go_wp2_with (fail)
        refine (before_any w6 _ _ A6 A8 m6 m8 c6 c8 (bitsL n j) best H6.out.1 H6.out.2.2.2).mono ?_
        rintro e w7 ⟨rfl, q7, rfl⟩
        obtain ⟨er, her⟩ : ∃ er, er = earlierF (bitsL n j) best := ⟨_, rfl⟩
        have hbq : Below w6.heap.size w6 (w6.drewN q7) := ⟨rfl, rfl, rfl, Nat.le_refl _, fun _ _ => rfl⟩
        obtain ⟨w7, hw7⟩ : ∃ w7, w7 = w6.drewN q7 := ⟨_, rfl⟩
        rw [← hw7] at hbq ⊢
        have hB7 := hB6.trans (hbq.mono hz6)
        have x7 := bxBelow x6 hbq x6.lt
        have hz7 := hB7.size
        have c7' := x7.cell
        have hb37 := H6.out.2.1.trans (hbq.mono (H6.out.2.1).size)
        have hrow7 := row_below H6.out.2.2.1 hbq
        have H7 := Lib.hid (And.intro her (And.intro hb37 hrow7))
        rw [← her]
        clear hw7 her hb37 hrow7 x6 c6' hB6 hbq
        cases er with
        | false =>
          go_wp2_with (fail)
          go_roundg (p - (j + 1))
          case measure => omega
          case rel => exact ⟨j + 1, true, best, ⟨hj, rfl, rfl, rfl⟩, by rw [Hs.out, Hv.out.2.2.1, ← H7.out.1]; rfl, hbl, H7.out.2.2, x7, hB7, H7.out.2.1⟩
        | true =>
          go_wp2_with (fail)
          refine (BitsX_any _ j n Hb.out.2.2.1 hn5).mono ?_
          rintro e w8 ⟨v8, rfl, hr8, hb8⟩
          have hB8 := hB7.trans (hb8.mono hz7)
          have x8 := bxBelow x7 hb8 x7.lt
          have hb38 := H7.out.2.1.trans (hb8.mono (H7.out.2.1).size)
          have H8' := Lib.hid (And.intro (row_mono hr8 hz7) hb38)
          clear hr8 hb38 x7 c7'
          go_wp2_with (fail)
          go_roundg (p - (j + 1))
          case measure => omega
          case rel => exact ⟨j + 1, true, bitsL n j, ⟨hj, rfl, rfl, rfl⟩, by rw [Hs.out, Hv.out.2.2.1, ← H7.out.1]; rfl, Nat.le_trans Hb.out.2.2.2.2.1 hn5, H8'.out.1, x8, hB8, H8'.out.2⟩
    · obtain rfl : j = p := by omega
      have hnj : ¬ (j : Int) < (j : Int) := by omega
      have hfin : rwaitR ts ss = waitV (bestO fd best) := by rw [Hv.out.2.1, ← Hp.out, Hbest.out]
      have Hf := Lib.hid (And.intro hfin hrow)
      clear hfin
      obtain ⟨A8, m8, c8, rfl, -⟩ := ListAt.of_row hrow (by omega)
      clear hrow
      cases fd with
      | false =>
        go_wp2_with (fail)
        refine bodyPost_ret (v := .tuple #[.slice none 0 0, .int .i64 17]) (rwait_results _ _ _ _ (by simp) (by simp)) rfl ?_
        exact ListRes.none (by rw [Hf.out.1]; rfl) hB
      | true =>
        go_wp2_with (fail)
        refine bodyPost_ret (v := .tuple #[.slice A8 m8 c8, .int .i64 0]) (rwait_results _ _ _ _ (by simp) (by simp)) rfl ?_
        refine ⟨.slice A8 m8 c8, by rw [Hf.out.1]; rfl, ?_, hB⟩
        rw [Hf.out.1]
        exact Hf.out.2
end Go.Proofs.YthjgecblkagelaaGreat
