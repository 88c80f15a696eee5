/- Parts of a proof: DO DP. -/
import Derived.Test.YthjgecblkagelaaGreatM30

/- References: bound. -/
namespace Go.Proofs.YthjgecblkagelaaGreat
open Go.RowKit Go.Shelf

attribute [local go_sem] Oper.semAt_some

theorem ints_of_heap {W : World} {g n : Nat} {xs : List Int} (h : W.heap[g]? = some (.cells (xs.map (Value.int .i64)).toArray 3 (0, 0))) (hl : xs.length = n) (hn : n ≤ 1000000) : IntsAt W W.heap.size (some ⟨g, 0, none⟩) n xs := by
  refine ⟨hl, by omega, fun _ => ⟨g, 0, rfl, (Array.getElem?_eq_some_iff.1 h).1, fun j hj => ?_⟩⟩
  simp [World.cell?, h, show j < xs.length by omega]
theorem state_bounds {ts xs : List Int} (hv : Valid ts) (hx : xs ∈ statesL ts) (i : Nat) : -1000000 ≤ xs[i]?.getD 0 ∧ xs[i]?.getD 0 ≤ 1000000 := by
  obtain ⟨hl, hb⟩ := (states_iff hv.nonneg).1 hx
  by_cases hi : i < ts.length
  · have h1 := hb i hi
    have h2 := hv.h12 i hi
    omega
  · rw [List.getElem?_eq_none (by omega)]
    simp
/-- Behind a pull of all, and a visit: a state. -/
theorem visited_state {ts xs ys : List Int} (hv : Valid ts) (hx : xs ∈ statesL ts) (h : rpullF ts xs (allL ts.length) = some ys) {i : Nat} (hi : i < ts.length) : ∃ y, (i, y) ∈ visitsF ts (plOf xs) ∧ ys.set i 0 = plList y ∧ Nice ts y ∧ ys.set i 0 ∈ statesL ts ∧ plOf (ys.set i 0) = y := by
  obtain ⟨hp, hpl⟩ := nice_plOf hv hx
  have hr := rvisit hv hp
  rw [hpl] at hr
  rcases hr with ⟨zs, e, hvis⟩ | ⟨e, -⟩
  · rw [h] at e
    cases e
    obtain ⟨y, hy, hys⟩ := hvis i hi
    have hyn : Nice ts y := ((visits_mem hv.h5).1 hy).nice hv hp
    obtain ⟨hym, hyp⟩ := nice_list hv hyn
    exact ⟨y, hy, hys, hyn, by rw [hys]; exact hym, by rw [hys]; exact hyp⟩
  · rw [h] at e
    cases e
theorem boundL_stop {ts rs ys : List Int} : ∀ (l m : List Nat) (w : Nat) (a : Int), rowAt ts rs (ys.set w 0) < 0 → boundL ts rs ys (l ++ w :: m) a = -1
  | [], m, w, a, h => by rw [List.nil_append, boundL, if_pos h]
  | v :: l, m, w, a, h => by
    rw [List.cons_append, boundL]
    split
    · rfl
    · exact boundL_stop l m w _ h
theorem boundL_snoc {ts rs ys : List Int} : ∀ (l : List Nat) (w : Nat) (a : Int), (∀ v ∈ l, 0 ≤ rowAt ts rs (ys.set v 0)) → 0 ≤ rowAt ts rs (ys.set w 0) → boundL ts rs ys (l ++ [w]) a = max (boundL ts rs ys l a) (rowAt ts rs (ys.set w 0) + 1)
  | [], w, a, _, h => by
    show (if rowAt ts rs (ys.set w 0) < 0 then -1 else max a (rowAt ts rs (ys.set w 0) + 1)) = _
    rw [if_neg (by omega)]
    rfl
  | v :: l, w, a, hl, h => by
    have h0 := hl v (by simp)
    rw [List.cons_append, boundL, if_neg (by omega), boundL, if_neg (by omega)]
    exact boundL_snoc l w _ (fun u hu => hl u (by simp [hu])) h

set_option maxRecDepth 100000 in
set_option maxHeartbeats 8000000 in
theorem bound_any (w : World) (B1 B2 : Nat) (A1 A2 : Option Addr) (n c m d k : Nat) (ts rs xs : List Int) (h1 : IntsAt w B1 A1 n ts) (hB1 : B1 ≤ w.heap.size) (h2 : IntsAt w B2 A2 m rs) (hB2 : B2 ≤ w.heap.size) (hv : Valid ts) (hk : (statesL ts)[k]? = some xs) (hm : m = (statesL ts).length)
    (hrs : ∀ i : Nat, -1 ≤ rs[i]?.getD 0 ∧ rs[i]?.getD 0 ≤ 60005) :
    Calls Tryz.prog 67 #[.agg #[.slice A1 n c], .slice A2 m d, .int .i64 (k : Int)] w fun e w' => e = .returned (.int .i64 (boundF ts rs xs)) ∧ Below w.heap.size w w' := by
  have hb0 : Below w.heap.size w (w.alloc (.cells #[.slice A1 n c] 24)) := (Below.refl _ w).alloc (Nat.le_refl _) _
  have x0 := Boxed.new w 24 (.slice A1 n c)
  have c0 := x0.cell
  have hl := h1.len
  have hmem : xs ∈ statesL ts := List.mem_of_getElem? hk
  have h1n := hv.h1
  have h5n := hv.h5
  have hxl : xs.length = ts.length := states_length xs hmem
  have hmk := hv
  rw [hl] at h1n h5n
  have Hv := Lib.hid (And.intro hv (And.intro hl (And.intro hmem (And.intro hk (And.intro hm (And.intro hrs hxl))))))
  have hkm : k < m := by rw [hm]; exact (List.getElem?_eq_some_iff.1 hk).1
  have hms : m ≤ 1000 := by rw [hm]; exact states_few hv
  clear hmk hl hmem hk hm hrs hxl hv
  go_enter Tryz.func67, Tryz.ntmps67
  go_wp2_with (fail)
  have hcell0 : ∀ W, Boxed W w.heap.size 24 (.slice A1 n c) → W.cell? ⟨w.heap.size, 0, none⟩ = some (.slice A1 n c) := fun W h => h.cell
  refine region_held_wp 1 (fun W' => Boxed W' w.heap.size 24 (.slice A1 n c)) (fun j => decide (j < 6)) (by kernel_rfl) ?_
  intro KR hKR
  have hb0d : Below w.heap.size w (w.alloc (.cells #[.slice A1 n c] 24)).drew := hb0.trans ((below_drew _).mono hb0.size)
  have hS : Boxed (w.alloc (.cells #[.slice A1 n c] 24)).drew w.heap.size 24 (.slice A1 n c) := bxBelow x0 (below_drew _) x0.lt
  refine wpAnyHI_takeE (i := 0) (v := .agg #[.slice A1 n c]) (some 13) rfl rfl (by kernel_rfl) (by kernel_rfl) (by kernel_rfl) (by kernel_rfl) (by kernel_rfl) (fun _ _ _ h => h) hS (.inl ⟨by kernel_rfl, fun W' hS' => ?_⟩) ?_
  · have q := hcell0 W' hS'; go_simp
  refine wpAnyHI_takeE (i := 1) (v := .agg #[.slice A1 n c]) (some 14) rfl rfl (by kernel_rfl) (by kernel_rfl) (by kernel_rfl) (by kernel_rfl) (by kernel_rfl) (fun _ _ _ h => h) hS (.inl ⟨by kernel_rfl, fun W' hS' => ?_⟩) ?_
  · have q := hcell0 W' hS'; go_simp
  refine wpAnyHI_takeE (i := 2) (v := .int .i64 (k : Int)) (some 15) rfl rfl (by kernel_rfl) (by kernel_rfl) (by kernel_rfl) (by kernel_rfl) (by kernel_rfl) (fun _ _ _ h => h) hS (.inl ⟨by kernel_rfl, fun W' hS' => ?_⟩) ?_
  · go_simp
  refine wpAnyHI_takeE (i := 4) (v := .agg #[.slice A1 n c]) (some 17) rfl rfl (by kernel_rfl) (by kernel_rfl) (by kernel_rfl) (by kernel_rfl) (by kernel_rfl) (fun _ _ _ h => h) hS (.inl ⟨by kernel_rfl, fun W' hS' => ?_⟩) ?_
  · have q := hcell0 W' hS'; go_simp
  refine wpAnyHI_one (i := 3) rfl (by kernel_rfl) ?_
  intro K1 hK1
  go_simp
  refine ⟨trivial, (callsIn_wide.2 (rState_any _ B1 A1 n c k ts xs (h1.below hb0d hB1) (by have := hb0d.size; omega) Hv.out.1 Hv.out.2.2.2.1)).mono ?_⟩
  rintro e w2 ⟨g2, hg2, rfl, hr2, hb2⟩
  have hB2a := hb0d.trans (hb2.mono hb0d.size)
  have hS2 := bxBelow hS hb2 hS.lt
  have hi2 := ints_of_heap hr2 (Hv.out.2.2.2.2.2.2.trans Hv.out.2.1) (by omega)
  have hz2 := hb2.size
  refine hK1 _ _ ⟨fun _ => hS2, ?_⟩
  clear hK1 K1 hr2 hS hb0 hb0d
  refine wpAnyHI_one (i := 5) rfl (by kernel_rfl) ?_
  intro K1 hK1
  go_simp
  refine ⟨trivial, (callsIn_wide.2 (All_any _ A1 n c (by omega))).mono ?_⟩
  rintro e w3 ⟨v3, rfl, hr3, hb3⟩
  obtain ⟨g3, c3, rfl⟩ := ownsRow_pos hr3 (by omega)
  have hB3 := hB2a.trans (hb3.mono hB2a.size)
  have hS3 := bxBelow hS2 hb3 hS2.lt
  have hi3 := row_ints hr3 (by omega)
  have hi2' := hi2.below hb3 (Nat.le_refl _)
  have hz3 := hb3.size
  refine hK1 _ _ ⟨fun _ => hS3, ?_⟩
  clear hK1 K1 hr3 hS2 hB2a hi2
  refine wpAnyHI_one (i := 6) rfl (by kernel_rfl) ?_
  intro K1 hK1
  go_simp
  refine ⟨trivial, (callsIn_wide.2 (Pulled_any _ B1 w2.heap.size w3.heap.size A1 _ _ n c n n c3 ts xs (allL n) (h1.below hB3 hB1) (by have := hB3.size; omega) hi2' hz3 hi3 (Nat.le_refl _) h1n (by omega) (by omega) (fun p hp => allL_mem.1 hp) (state_bounds Hv.out.1 Hv.out.2.2.1))).mono ?_⟩
  intro e w4 hp4
  obtain ⟨v4, ok, rfl, hb4, hcase⟩ := pulled_form hp4
  have hB4 := hB3.trans (hb4.mono hB3.size)
  have hS4 := bxBelow hS3 hb4 hS3.lt
  refine hK1 _ _ ⟨fun h => absurd h (by decide), ?_⟩
  clear hK1 K1 hi2' hi3 hS3 hp4
  refine wpAnyHI_takeW (i := 7) (v := .tuple #[v4, .bool ok]) (some 12) rfl rfl (by kernel_rfl) (by kernel_rfl) (by kernel_rfl) (by kernel_rfl) (fun _ _ _ h => h) (.inl ⟨by kernel_rfl, fun W' hS' => ?_⟩) ?_
  · go_simp
  refine wpAnyHI_takeW (i := 8) (v := v4) (some 20) rfl rfl (by kernel_rfl) (by kernel_rfl) (by kernel_rfl) (by kernel_rfl) (fun _ _ _ h => h) (.inl ⟨by kernel_rfl, fun W' hS' => ?_⟩) ?_
  · go_simp
  refine wpAnyHI_takeW (i := 9) (v := .bool ok) (some 21) rfl rfl (by kernel_rfl) (by kernel_rfl) (by kernel_rfl) (by kernel_rfl) (fun _ _ _ h => h) (.inl ⟨by kernel_rfl, fun W' hS' => ?_⟩) ?_
  · go_simp
  refine wpAnyHI_takeW (i := 10) (v := v4) (some 7) rfl rfl (by kernel_rfl) (by kernel_rfl) (by kernel_rfl) (by kernel_rfl) (fun _ _ _ h => h) (.inl ⟨by kernel_rfl, fun W' hS' => ?_⟩) ?_
  · go_simp
  refine wpAnyHI_takeW (i := 11) (v := .bool ok) (some 8) rfl rfl (by kernel_rfl) (by kernel_rfl) (by kernel_rfl) (by kernel_rfl) (fun _ _ _ h => h) (.inl ⟨by kernel_rfl, fun W' hS' => ?_⟩) ?_
  · go_simp
  refine wpAnyHI_end (by kernel_rfl) ?_
  show KR _ _
  refine hKR _ _ ?_
  clear hKR KR
  have hz4 := hb4.size
  have hz34 := hB3.size
  clear hB3 hb4 hb3 hb2
  have Hv4 := Lib.hid hB4
  rcases hcase with ⟨rfl, ys, hys, hr4⟩ | ⟨rfl, hys⟩
  case inr =>
    have hbf : boundF ts rs xs = 0 := by unfold boundF; rw [Hv.out.2.1, hys]
    have Hbf := Lib.hid hbf
    clear hbf hys
    have c4 := hS4.cell
    have HB4 := Lib.hid (And.intro hS4 hB4)
    clear hS4 hB4 Hv4
    go_wp2_with (fail)
    go_loopg [9, 10] 0 (fun g v9 v10 wr => (v9 = .int .i64 0 ∧ v10 = .int .i64 0) ∧ Boxed wr w.heap.size 24 (.slice A1 n c) ∧ Below w.heap.size w wr)
    case atStart => exact ⟨⟨rfl, rfl⟩, HB4.out.1, HB4.out.2⟩
    case round =>
      obtain ⟨⟨rfl, rfl⟩, y0, hB⟩ := hrel
      have cr := y0.cell
      go_wp2_with (fail)
      go_ret
      exact ⟨ret_int Hbf.out.symm, hB⟩
  obtain ⟨g4, c4, rfl⟩ := ownsRow_pos hr4 (by omega)
  have hi4 := row_ints hr4 (by omega)
  have hg4 := (hr4.lt g4 rfl).1
  have hys' : rpullF ts xs (allL ts.length) = some ys := by rw [Hv.out.2.1]; exact hys
  have hbf : boundF ts rs xs = boundL ts rs ys (List.range n) 0 := by unfold boundF; rw [hys', Hv.out.2.1]
  have Hy := Lib.hid (And.intro hys' (And.intro hbf hi4))
  clear hys hys' hbf hi4 hr4
  have cc4 := hS4.cell
  go_wp2_with (fail)
  go_loopg [9, 10] n (fun g v9 v10 wr => ∃ (j : Nat) (a : Int), (j ≤ n ∧ g = n - j ∧ v10 = .int .i64 (j : Int) ∧ v9 = .int .i64 a) ∧ (a = boundL ts rs ys (List.range j) 0 ∧ 0 ≤ a ∧ a ≤ 60006 ∧ ∀ v ∈ List.range j, 0 ≤ rowAt ts rs (ys.set v 0)) ∧ Boxed wr w.heap.size 24 (.slice A1 n c) ∧ Below w.heap.size w wr ∧ Below w4.heap.size w4 wr)
  case atStart => exact ⟨0, 0, ⟨Nat.zero_le _, rfl, rfl, rfl⟩, ⟨rfl, Int.le_refl _, by omega, fun v hv => by simp at hv⟩, hS4, hB4, Below.refl _ _⟩
  case round =>
    clear hS4 cc4 hB4
    obtain ⟨j, a, ⟨hjn, rfl, rfl, rfl⟩, ⟨ha, ha0, ha1, hall⟩, y0, hB, hb4r⟩ := hrel
    have cr := y0.cell
    have hz := y0.lt
    have hzw := hB.size
    have Ha := Lib.hid (And.intro ha hall)
    clear ha hall
    by_cases hj : j < n
    · obtain ⟨y, hyv, hyl, hyn, hst, hpl⟩ := visited_state Hv.out.1 Hv.out.2.2.1 Hy.out.1 (i := j) (by rw [Hv.out.2.1]; exact hj)
      obtain ⟨q, hq, hqi, -⟩ := idx_mem Hv.out.1.nonneg hst
      have hqm : q < m := by rw [Hv.out.2.2.2.2.1]; exact hq
      obtain ⟨b2, o2, rfl, hb2, hc2⟩ := (h2.below hB hB2).cell hqm
      obtain ⟨x, hx⟩ : ∃ x, x = rs[q]?.getD 0 := ⟨_, rfl⟩
      have hra : rowAt ts rs (ys.set j 0) = x := by unfold rowAt; rw [hqi, hx]; rfl
      have hxb := Hv.out.2.2.2.2.2.1 q
      rw [← hx] at hc2 hxb
      have Hst := Lib.hid (And.intro hst (And.intro hqi hra))
      clear hyv hyl hyn hst hpl hqi hra hx hq
      have hBd : Below w.heap.size w wr.drew := hB.trans ((below_drew wr).mono hzw)
      have hb4d : Below w4.heap.size w4 wr.drew := hb4r.trans ((below_drew wr).mono hb4r.size)
      have hwj : IntKind.i64.wrap ((j : Int) + 1) = (j : Int) + 1 := by rw [IntKind.wrap_i64]; omega
      have hwx : IntKind.i64.wrap (x + 1) = x + 1 := by rw [IntKind.wrap_i64]; omega
      go_wp2_with (fail)
      refine region_held_wp 1 (fun W' => Boxed W' w.heap.size 24 (.slice A1 n c)) (fun j => decide (j = 4)) (by kernel_rfl) ?_
      intro KR hKR
      have hS : Boxed wr.drew w.heap.size 24 (.slice A1 n c) := bxBelow y0 (below_drew _) y0.lt
      refine wpAnyHI_takeW (i := 0) (v := .slice (some ⟨b2, o2, none⟩) m d) (some 32) rfl rfl (by kernel_rfl) (by kernel_rfl) (by kernel_rfl) (by kernel_rfl) (fun _ _ _ h => h) (.inl ⟨by kernel_rfl, fun W' hS' => ?_⟩) ?_
      · go_simp
      refine wpAnyHI_takeW (i := 2) (v := .slice (some ⟨g4, 0, none⟩) n c4) (some 34) rfl rfl (by kernel_rfl) (by kernel_rfl) (by kernel_rfl) (by kernel_rfl) (fun _ _ _ h => h) (.inl ⟨by kernel_rfl, fun W' hS' => ?_⟩) ?_
      · go_simp
      refine wpAnyHI_takeW (i := 3) (v := .int .i64 (j : Int)) (some 35) rfl rfl (by kernel_rfl) (by kernel_rfl) (by kernel_rfl) (by kernel_rfl) (fun _ _ _ h => h) (.inl ⟨by kernel_rfl, fun W' hS' => ?_⟩) ?_
      · go_simp
      refine wpAnyHI_takeE (i := 1) (v := .agg #[.slice A1 n c]) (some 33) rfl rfl (by kernel_rfl) (by kernel_rfl) (by kernel_rfl) (by kernel_rfl) (by kernel_rfl) (fun _ _ _ h => h) hS (.inl ⟨by kernel_rfl, fun W' hS' => ?_⟩) ?_
      · have q := hcell0 W' hS'; go_simp
      refine wpAnyHI_one (i := 4) rfl (by kernel_rfl) ?_
      intro K1 hK1
      go_simp
      refine ⟨trivial, (callsIn_wide.2 (Visited_any _ w4.heap.size (some ⟨g4, 0, none⟩) n c4 ys (Hy.out.2.2.below hb4d (Nat.le_refl _)) hb4d.size j hj (by omega))).mono ?_⟩
      rintro e w5 ⟨v5, rfl, hr5, hb5⟩
      obtain ⟨g5, c5, rfl⟩ := ownsRow_pos hr5 (by omega)
      have hi5 := row_ints hr5 (by omega)
      have hB5 := hBd.trans (hb5.mono hBd.size)
      have hb45 := hb4d.trans (hb5.mono hb4d.size)
      refine hK1 _ _ ⟨fun _ => bxBelow hS hb5 hS.lt, ?_⟩
      clear hK1 K1 hr5
      refine wpAnyHI_one (i := 5) rfl (by kernel_rfl) ?_
      intro K1 hK1
      go_simp
      refine ⟨trivial, (callsIn_wide.2 (rindex_any _ B1 w5.heap.size A1 (some ⟨g5, 0, none⟩) n c c5 ts (ys.set j 0) (h1.below hB5 hB1) (by have := hB5.size; omega) hi5 (Nat.le_refl _) Hv.out.1 Hst.out.1)).mono ?_⟩
      rintro e w6 ⟨rfl, hb6⟩
      rw [Hst.out.2.1]
      have hB6 := hB5.trans (hb6.mono hB5.size)
      have hb46 := hb45.trans (hb6.mono hb45.size)
      have hbr6 : Below wr.heap.size wr w6 := (below_drew wr).trans (hb5.trans (hb6.mono hb5.size))
      refine hK1 _ _ ⟨fun h => absurd h (by decide), ?_⟩
      clear hK1 K1 hBd hb4d hi5 hb5 hb45 hB5 hb6
      obtain ⟨b2', o2', eb2, -, hc6⟩ := (h2.below hB6 hB2).cell hqm
      obtain ⟨rfl, rfl⟩ : b2 = b2' ∧ o2 = o2' := by simpa using eb2
      refine wpAnyHI_takeW (i := 6) (v := .pointer (some ⟨b2, o2 + q, none⟩)) (some 38) rfl rfl (by kernel_rfl) (by kernel_rfl) (by kernel_rfl) (by kernel_rfl) (fun _ _ _ h => h) (.inl ⟨by kernel_rfl, fun W' hS' => ?_⟩) ?_
      · go_simp <;> omega
      refine wpAnyHI_one (i := 7) rfl (by kernel_rfl) ?_
      intro K1 hK1
      rw [show rs[q]?.getD 0 = x from by have := Hst.out.2.2; unfold rowAt at this; rw [Hst.out.2.1] at this; exact this] at hc6
      go_simp
      refine hK1 _ _ ⟨fun h => absurd h (by decide), ?_⟩
      clear hK1 K1 hc6 hc2 eb2
      refine wpAnyHI_takeW (i := 8) (v := .int .i64 x) (some 11) rfl rfl (by kernel_rfl) (by kernel_rfl) (by kernel_rfl) (by kernel_rfl) (fun _ _ _ h => h) (.inl ⟨by kernel_rfl, fun W' hS' => ?_⟩) ?_
      · go_simp
      refine wpAnyHI_end (by kernel_rfl) ?_
      show KR _ _
      refine hKR _ _ ?_
      clear hKR KR
      have y6 := bxBelow y0 hbr6 y0.lt
      have c6 := y6.cell
      have Hm := Lib.hid (And.intro y6 (And.intro hB6 hb46))
      clear y6 hB6 hb46 y0 cr hbr6 hS
      by_cases hx0 : x < 0
      · have hstop : boundF ts rs xs = -1 := by
          rw [Hy.out.2.1, ← List.take_append_drop j (List.range n), List.take_range, Nat.min_eq_left (by omega), List.drop_eq_getElem_cons (by simpa using hj)]
          simp only [List.getElem_range]
          exact boundL_stop _ _ j 0 (by rw [Hst.out.2.2]; exact hx0)
        have Hstop := Lib.hid hstop
        clear hstop
        go_wp2_with (fail)
        go_ret
        exact ⟨ret_int Hstop.out.symm, Hm.out.2.1⟩
      · by_cases hmax : x + 1 ≤ a
        · have Hz := Lib.hid (show a = max a (x + 1) by omega)
          go_wp2_with (fail)
          go_roundg (n - (j + 1))
          case measure => omega
          case rel =>
            refine ⟨j + 1, a, ⟨by omega, rfl, rfl, by first | rfl | (congr 1; omega)⟩, ⟨?_, ha0, ha1, fun v hv => ?_⟩, Hm.out.1, Hm.out.2.1, Hm.out.2.2⟩
            · rw [List.range_succ, boundL_snoc _ _ _ Ha.out.2 (by rw [Hst.out.2.2]; omega), ← Ha.out.1, Hst.out.2.2]
              exact Hz.out
            · rcases Nat.lt_succ_iff_lt_or_eq.1 (List.mem_range.1 hv) with h | rfl
              · exact Ha.out.2 v (List.mem_range.2 h)
              · rw [Hst.out.2.2]; omega
        · have Hz := Lib.hid (show x + 1 = max a (x + 1) by omega)
          go_wp2_with (fail)
          go_roundg (n - (j + 1))
          case measure => omega
          case rel =>
            refine ⟨j + 1, x + 1, ⟨by omega, rfl, rfl, by first | rfl | (congr 1; omega)⟩, ⟨?_, by omega, by omega, fun v hv => ?_⟩, Hm.out.1, Hm.out.2.1, Hm.out.2.2⟩
            · rw [List.range_succ, boundL_snoc _ _ _ Ha.out.2 (by rw [Hst.out.2.2]; omega), ← Ha.out.1, Hst.out.2.2]
              exact Hz.out
            · rcases Nat.lt_succ_iff_lt_or_eq.1 (List.mem_range.1 hv) with h | rfl
              · exact Ha.out.2 v (List.mem_range.2 h)
              · rw [Hst.out.2.2]; omega
    · obtain rfl : j = n := by omega
      have hnj : ¬ (j : Int) < (j : Int) := by omega
      go_wp2_with (fail)
      go_ret
      exact ⟨ret_int (by rw [Hy.out.2.1, ← Ha.out.1]), hB⟩
end Go.Proofs.YthjgecblkagelaaGreat

/- References: Rows, IsSafe. -/
namespace Go.Proofs.YthjgecblkagelaaGreat
open Go.RowKit Go.Shelf

attribute [local go_sem] Oper.semAt_some

theorem row_at {ts rs xs : List Int} (hv : Valid ts) {k : Nat} (hk : (statesL ts)[k]? = some xs) : rowAt ts rs xs = rs[k]?.getD 0 := by
  obtain ⟨hkl, hke⟩ := List.getElem?_eq_some_iff.1 hk
  unfold rowAt
  rw [← hke, idx_get hv.nonneg hkl]
  rfl
theorem rows_bds {ts rs : List Int} (hv : Valid ts) (hI : RowsInv ts rs) (i : Nat) : -1 ≤ rs[i]?.getD 0 ∧ rs[i]?.getD 0 ≤ 60005 := by
  by_cases hi : i < (statesL ts).length
  · have hk := List.getElem?_eq_getElem hi
    have := row_at (rs := rs) hv hk
    rcases hI.ok _ (List.getElem_mem hi) with h | ⟨-, h⟩
    · omega
    · have h1 := la_big hv (plOf (statesL ts)[i])
      have h2 := la_nonneg hv (ts := ts) (plOf (statesL ts)[i])
      omega
  · rw [List.getElem?_eq_none (by rw [hI.len]; omega)]
    simp
theorem RowsDone.inv {ts rs : List Int} (h : RowsDone ts rs) : RowsInv ts rs := ⟨h.len, fun xs hx => by
  by_cases hd : plOf xs ∈ dq ts
  · exact .inr ⟨hd, h.inn xs hx hd⟩
  · exact .inl (h.out xs hx hd)⟩
/-- Whether a state is safe. -/
noncomputable def safeF (ts xs : List Int) : Bool := decide (plOf xs ∉ dq ts)
theorem done_safe {ts rs xs : List Int} (hv : Valid ts) (h : RowsDone ts rs) (hx : xs ∈ statesL ts) : decide (rowAt ts rs xs < 0) = safeF ts xs := by
  unfold safeF
  by_cases hd : plOf xs ∈ dq ts
  · rw [h.inn xs hx hd]
    have := la_nonneg hv (ts := ts) (plOf xs)
    simp [hd]
    omega
  · rw [h.out xs hx hd]
    simp [hd]

set_option maxRecDepth 100000 in
set_option maxHeartbeats 8000000 in
theorem Rows_any (w : World) (B1 : Nat) (A1 : Option Addr) (n c : Nat) (ts : List Int) (h1 : IntsAt w B1 A1 n ts) (hB1 : B1 ≤ w.heap.size) (hv : Valid ts) :
    Calls Tryz.prog 38 #[.agg #[.slice A1 n c]] w fun e w' => ∃ v rs, e = .returned v ∧ w'.ownsRow w.heap.size 3 1 v (statesL ts).length (rs.map (.int .i64)) ∧ RowsDone ts rs ∧ Below w.heap.size w w' := by
  obtain ⟨i0, hi, hz0, hz1, hz2⟩ := info_parts infoInt
  have hb0 : Below w.heap.size w (w.alloc (.cells #[.slice A1 n c] 24)) := (Below.refl _ w).alloc (Nat.le_refl _) _
  have x0 := Boxed.new w 24 (.slice A1 n c)
  have c0 := x0.cell
  have hN := states_few hv
  obtain ⟨N, hNe⟩ : ∃ N, N = (statesL ts).length := ⟨_, rfl⟩
  have hN0 : 0 < N := by
    rw [hNe]
    have := prod_states hv
    have h := (prod_bd5 ts hv.h5 hv.h12 ts.length (Nat.le_refl _)).1
    rw [List.take_length] at h
    omega
  have Hv := Lib.hid (And.intro hv hNe)
  rw [← hNe] at hN
  clear hv
  go_enter Tryz.func38, Tryz.ntmps38
  go_wp2_with (fail)
  refine (States_any _ B1 A1 n c ts (h1.below hb0 hB1) (by have := hb0.size; omega) Hv.out.1).mono ?_
  rintro e w2 ⟨rfl, hb2⟩
  rw [← hNe]
  clear hNe
  have hB2 := hb0.trans (hb2.mono hb0.size)
  have x2 := bxBelow x0 hb2 x0.lt
  clear hb0 hb2 x0 c0
  have c2 := x2.cell
  go_wp2_with (fail)
  go_loopg [4, 5] N (fun g v4 v5 wr => ∃ j : Nat, (j ≤ N ∧ g = N - j ∧ v5 = .int .i64 (j : Int)) ∧ wr.ownsRow w.heap.size 3 1 v4 j ((List.replicate j (-1 : Int)).map (.int .i64)) ∧ Boxed wr w.heap.size 24 (.slice A1 n c) ∧ Below w.heap.size w wr)
  case atStart => exact ⟨0, ⟨Nat.zero_le _, rfl, rfl⟩, World.ownsRow_nil _ _ _ _, x2, hB2⟩
  case round =>
    clear x2 c2 hB2
    obtain ⟨j, ⟨hjn, rfl, rfl⟩, hrow, hx, hb⟩ := hrel
    have c0 := hx.cell
    have hz := hx.lt
    by_cases hj : j < N
    · have hwj : IntKind.i64.wrap ((j : Int) + 1) = (j : Int) + 1 := by rw [IntKind.wrap_i64]; omega
      go_wp2_with (at_builtin; refine wpList_append_own_at _ rfl _ _ 22 rfl w.heap.size 3 i0 (.int .i64 0) 1 8 Tryz.underlying22 hi hz0 hz1 hz2 rfl (by decide) _ _ _ rfl (hrow.alloc _) ⟨wr.heap.size, 0, none⟩ 1 1 [.int .i64 (-1)] rfl rfl (cell_one_new _ _ _) (by simp [Value.oneCell']) (by simp only [maxLen]; omega) (by omega) (by simp; omega) ?_; intro v' w1 hown' hgrow _ hat)
      go_roundg (N - (j + 1))
      case measure => omega
      case rel =>
        refine ⟨j + 1, ⟨hj, rfl, by simp⟩, by rw [List.replicate_succ']; simpa using hown', ?_, (hb.alloc hb.size _).trans ((Below.refl _ _).grown hgrow (by simp; omega) (fun r e => (hrow.lt r e).1))⟩
        exact (hgrow.block _ (by simp; omega) (fun e => cells_not_row hx hrow (by decide) _ e.symm rfl)).trans ((Below.heap_alloc _ _ _ hz).trans hx)
    · obtain rfl : j = N := by omega
      have hnj : ¬ (j : Int) < (j : Int) := by omega
      obtain ⟨g6, c6, rfl⟩ := ownsRow_pos hrow hN0
      have hg6 := (hrow.lt g6 rfl).1
      have hI0 := rows_zero Hv.out.1
      rw [← Hv.out.2] at hI0
      go_wp2_with (fail)
      go_loopg [6] (2 * j + 1) (fun g v6 wo => ∃ (rs : List Int) (more : Bool), (g = 2 * negs rs + more.toNat ∧ v6 = .bool more) ∧ (RowsInv ts rs ∧ (more = false → ∀ xs ∈ statesL ts, rowAt ts rs xs < 0 → boundF ts rs xs < 0)) ∧ wo.ownsRow w.heap.size 3 1 (.slice (some ⟨g6, 0, none⟩) j c6) j (rs.map (.int .i64)) ∧ Boxed wo w.heap.size 24 (.slice A1 n c) ∧ Below w.heap.size w wo)
      case atStart =>
        refine ⟨List.replicate j (-1), true, ⟨?_, rfl⟩, ⟨hI0, fun h => by cases h⟩, hrow, hx, hb⟩
        have : negs (List.replicate j (-1)) = j := by simp [negs, List.countP_replicate]
        rw [this]
        rfl
      case round =>
        clear hrow hx hb c0 hI0
        obtain ⟨rs, more, ⟨rfl, rfl⟩, ⟨hI, hdone⟩, hrow, hx, hb⟩ := hrel
        obtain ⟨wo, rfl⟩ : ∃ wo, wo = wr := ⟨_, rfl⟩
        have HI := Lib.hid (And.intro hI hdone)
        clear hI hdone
        cases more with
        | false =>
          go_wp2_with (fail)
          refine bodyPost_ret (results_tmp rfl _ _ _) rfl ?_
          refine ⟨_, rfl, rs, ?_, rows_end Hv.out.1 HI.out.1 (HI.out.2 (by simp)), hb⟩
          rw [← Hv.out.2]
          exact hrow
        | true =>
          go_wp2_with (fail)
          go_loopg [6, 7] j (fun g v6 v7 wr => ∃ (k : Nat) (more : Bool) (rs' : List Int), (k ≤ j ∧ g = j - k ∧ v7 = .int .i64 (k : Int) ∧ v6 = .bool more) ∧ (RowsInv ts rs' ∧ (more = false → rs' = rs ∧ ∀ i xs, i < k → (statesL ts)[i]? = some xs → rowAt ts rs xs < 0 → boundF ts rs xs < 0) ∧ (more = true → negs rs' < negs rs)) ∧ wr.ownsRow w.heap.size 3 1 (.slice (some ⟨g6, 0, none⟩) j c6) j (rs'.map (.int .i64)) ∧ Boxed wr w.heap.size 24 (.slice A1 n c) ∧ Below w.heap.size w wr)
          case atStart => exact ⟨0, false, rs, ⟨Nat.zero_le _, rfl, rfl, rfl⟩, ⟨HI.out.1, fun _ => ⟨rfl, fun i xs h => by omega⟩, fun h => (by cases h)⟩, hrow, hx, hb⟩
          case round =>
            clear hrow hx hb
            obtain ⟨k, more, rs', ⟨hkj, rfl, rfl, rfl⟩, ⟨hI, hno, hyes⟩, hrow, hx, hb⟩ := hrel
            have c0 := hx.cell
            have hz := hx.lt
            have hzw := hb.size
            have hbds := rows_bds Hv.out.1 hI
            have Hk := Lib.hid (And.intro hI (And.intro hno (And.intro hyes hbds)))
            clear hI hno hyes hbds
            by_cases hk : k < j
            · have hwk : IntKind.i64.wrap ((k : Int) + 1) = (k : Int) + 1 := by rw [IntKind.wrap_i64]; omega
              have hcell := row_cell hrow hk
              have hfz := row_frozen hrow k
              obtain ⟨xs, hxs⟩ : ∃ xs, (statesL ts)[k]? = some xs := ⟨_, List.getElem?_eq_getElem (by have := Hv.out.2; omega)⟩
              have hra := row_at (rs := rs') Hv.out.1 hxs
              obtain ⟨r, hr⟩ : ∃ r, r = rs'[k]?.getD 0 := ⟨_, rfl⟩
              rw [← hr] at hcell hra
              have Hx := Lib.hid (And.intro hxs (And.intro hra hr))
              clear hxs hra hr
              have hiR := row_ints hrow (by omega)
              have HiR := Lib.hid hiR
              clear hiR
              by_cases hr0 : r < 0
              · go_wp2_with (fail)
                refine (bound_any wr B1 wr.heap.size A1 (some ⟨g6, 0, none⟩) n c j c6 k ts rs' xs (h1.below hb hB1) (by omega) HiR.out (Nat.le_refl _) Hv.out.1 Hx.out.1 Hv.out.2 Hk.out.2.2.2).mono ?_
                rintro e w5 ⟨rfl, hb5⟩
                have hB5 := hb.trans (hb5.mono hzw)
                have hrow5 := row_below hrow hb5
                have x5 := bxBelow hx hb5 hz
                have c5 := x5.cell
                have hz5 := hB5.size
                obtain ⟨b, hbe⟩ : ∃ b, b = boundF ts rs' xs := ⟨_, rfl⟩
                rw [← hbe]
                have Hbe := Lib.hid hbe
                clear hbe hrow hx hb c0 hcell hfz hb5
                by_cases hb0 : 0 ≤ b
                · have hi5 := row_ints hrow5 (by omega)
                  go_wp2_with (fail)
                  refine (bound_any w5 B1 w5.heap.size A1 (some ⟨g6, 0, none⟩) n c j c6 k ts rs' xs (h1.below hB5 hB1) (by omega) hi5 (Nat.le_refl _) Hv.out.1 Hx.out.1 Hv.out.2 Hk.out.2.2.2).mono ?_
                  rintro e w6 ⟨rfl, hb6⟩
                  rw [← Hbe.out]
                  have hB6 := hB5.trans (hb6.mono hz5)
                  have hrow6 := row_below hrow5 hb6
                  have x6 := bxBelow x5 hb6 x5.lt
                  have c6' := x6.cell
                  have hcell6 := row_cell hrow6 hk
                  have hfz6 := row_frozen hrow6 k
                  have hset := row_set hrow6 hk (.int .i64 b)
                  have hbs : Below w.heap.size w (w6.setCell ⟨g6, k, none⟩ (.int .i64 b)) := hB6.setCell (by show w.heap.size ≤ g6; omega) _
                  have hxs6 : Boxed (w6.setCell ⟨g6, k, none⟩ (.int .i64 b)) w.heap.size 24 (.slice A1 n c) := bxOther x6 (fun e => cells_not_row x6 hrow6 (by decide) _ (by rw [e]; rfl) rfl) _ _
                  have Hs := Lib.hid (And.intro hset (And.intro hbs hxs6))
                  clear hset hbs hxs6 hrow5 hi5 x5 c5 hb6 hrow6
                  go_wp2_with (fail)
                  go_roundg (j - (k + 1))
                  case measure => omega
                  case rel =>
                    obtain ⟨s1, s2, s3⟩ := Hs.out
                    obtain ⟨k1, k2, k3, k4⟩ := Hk.out
                    have hkl : k < rs'.length := by rw [k1.len, ← Hv.out.2]; exact hk
                    have hneg := negs_set hkl (show rs'[k]?.getD 0 < 0 by rw [← Hx.out.2.2]; exact hr0) hb0
                    refine ⟨k + 1, true, rs'.set k b, ⟨by omega, rfl, rfl, rfl⟩, ⟨?_, fun h => (by cases h), fun _ => ?_⟩, by rw [List.map_set]; exact s1, s3, s2⟩
                    · rw [Hbe.out]
                      exact rows_set Hv.out.1 k1 Hx.out.1 (by rw [← Hbe.out]; exact hb0)
                    · cases more with
                      | false => have e := congrArg negs (k2 rfl).1; omega
                      | true => have := k3 rfl; omega
                · go_wp2_with (fail)
                  go_roundg (j - (k + 1))
                  case measure => omega
                  case rel =>
                    obtain ⟨k1, k2, k3, k4⟩ := Hk.out
                    refine ⟨k + 1, more, rs', ⟨by omega, rfl, rfl, rfl⟩, ⟨k1, fun h => ⟨(k2 h).1, fun i zs hi hzs hlt => ?_⟩, k3⟩, hrow5, x5, hB5⟩
                    rcases Nat.lt_succ_iff_lt_or_eq.1 hi with h' | rfl
                    · exact (k2 h).2 i zs h' hzs hlt
                    · have := Hx.out.1
                      rw [hzs] at this
                      cases this
                      rw [← (k2 h).1, ← Hbe.out]
                      omega
              · go_wp2_with (fail)
                go_roundg (j - (k + 1))
                case measure => omega
                case rel =>
                  obtain ⟨k1, k2, k3, k4⟩ := Hk.out
                  refine ⟨k + 1, more, rs', ⟨by omega, rfl, rfl, rfl⟩, ⟨k1, fun h => ⟨(k2 h).1, fun i zs hi hzs hlt => ?_⟩, k3⟩, hrow, hx, hb⟩
                  rcases Nat.lt_succ_iff_lt_or_eq.1 hi with h' | rfl
                  · exact (k2 h).2 i zs h' hzs hlt
                  · have := Hx.out.1
                    rw [hzs] at this
                    cases this
                    rw [← (k2 h).1, Hx.out.2.1] at hlt
                    omega
            · obtain rfl : k = j := by omega
              have hnk : ¬ (k : Int) < (k : Int) := by omega
              go_wp2_with (fail)
              go_roundg (2 * negs rs' + more.toNat)
              case measure =>
                cases more with
                | false => rw [(Hk.out.2.1 rfl).1]; simp
                | true => have := Hk.out.2.2.1 rfl; simp; omega
              case rel =>
                refine ⟨rs', more, ⟨rfl, rfl⟩, ⟨Hk.out.1, fun h xs hx' hlt => ?_⟩, hrow, hx, hb⟩
                obtain ⟨i, hi, -, hixs⟩ := idx_mem Hv.out.1.nonneg hx'
                obtain ⟨e1, e2⟩ := Hk.out.2.1 h
                rw [e1] at hlt ⊢
                exact e2 i xs (by rw [Hv.out.2]; exact hi) hixs hlt

set_option maxRecDepth 100000 in
set_option maxHeartbeats 4000000 in
theorem IsSafe_any (w : World) (B1 B2 B3 : Nat) (A1 A2 A3 : Option Addr) (n c m d f : Nat) (ts rs xs : List Int) (h1 : IntsAt w B1 A1 n ts) (hB1 : B1 ≤ w.heap.size) (h2 : IntsAt w B2 A2 m rs) (hB2 : B2 ≤ w.heap.size) (h3 : IntsAt w B3 A3 n xs) (hB3 : B3 ≤ w.heap.size) (hv : Valid ts) (hd : RowsDone ts rs) (hxs : xs ∈ statesL ts) :
    Calls Tryz.prog 68 #[.agg #[.slice A1 n c], .slice A2 m d, .slice A3 n f] w fun e w' => e = .returned (.bool (safeF ts xs)) ∧ Below w.heap.size w w' := by
  have hb0 : Below w.heap.size w (w.alloc (.cells #[.slice A1 n c] 24)) := (Below.refl _ w).alloc (Nat.le_refl _) _
  have x0 := Boxed.new w 24 (.slice A1 n c)
  have c0 := x0.cell
  obtain ⟨q, hq, hqi, hqs⟩ := idx_mem hv.nonneg hxs
  have hms : m ≤ 1000 := by rw [← h2.len, hd.len]; exact states_few hv
  have hqm : q < m := by rw [← h2.len, hd.len]; exact hq
  have hra := row_at (rs := rs) hv hqs
  have hsf := done_safe hv hd hxs
  have Hv := Lib.hid (And.intro hv (And.intro hxs (And.intro hqi (And.intro hra hsf))))
  clear hv hd hxs hq hqi hqs hra hsf
  go_enter Tryz.func68, Tryz.ntmps68
  go_wp2_with (fail)
  refine (rindex_any _ B1 B3 A1 A3 n c f ts xs (h1.below hb0 hB1) (by have := hb0.size; omega) (h3.below hb0 hB3) (by have := hb0.size; omega) Hv.out.1 Hv.out.2.1).mono ?_
  rintro e w2 ⟨rfl, hb2⟩
  rw [Hv.out.2.2.1]
  have hB2' := hb0.trans (hb2.mono hb0.size)
  obtain ⟨b2, o2, rfl, hb2', hc2⟩ := (h2.below hB2' hB2).cell hqm
  obtain ⟨x, hx⟩ : ∃ x, x = rs[q]?.getD 0 := ⟨_, rfl⟩
  have hsx : decide (x < 0) = safeF ts xs := by rw [← Hv.out.2.2.2.2, Hv.out.2.2.2.1, hx]
  rw [← hx] at hc2
  have Hsx := Lib.hid hsx
  clear hsx hx c0
  go_wp2_with (fail)
  go_ret
  exact ⟨by rw [Hsx.out]; rfl, hB2'⟩
end Go.Proofs.YthjgecblkagelaaGreat
