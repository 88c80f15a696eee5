/- Parts of a proof: DT DU. -/
import Derived.Test.YtdpehmdmgijcmaaGreatM32

/- References: Lasts. -/
namespace Go.Proofs.YtdpehmdmgijcmaaGreat
open Go.RowKit Go.Shelf

attribute [local go_sem] Oper.semAt_some

theorem rlasts_results (W : World) (tmps : Array Value) (x y : Value) (t4 : tmps.getD 4 undef = x) (t5 : tmps.getD 5 undef = y) : (results Tryz.f29 tmps).run Tryz.prog W = .ok (.tuple #[x, y]) W := by
  simp only [Array.getD_eq_getD_getElem?] at t4 t5
  simp [results, Tryz.results29, go_sem, t4, t5]
set_option maxRecDepth 100000 in
set_option maxHeartbeats 16000000 in
theorem rLasts_any (w : World) (B1 B2 : Nat) (A1 A2 : Option Addr) (n c m d : Nat) (ts ss : List Int) (h1 : IntsAt w B1 A1 n ts) (hB1 : B1 ≤ w.heap.size) (h2 : IntsAt w B2 A2 m ss) (hB2 : B2 ≤ w.heap.size) :
    Calls Tryz.prog 29 #[.agg #[.slice A1 n c], .slice A2 m d] w (ListRes w (lastsR ts ss)) := by
  obtain ⟨i0, hi, hz0, hz1, hz2'⟩ := info_parts infoInt
  have hb0 : Below w.heap.size w (w.alloc (.cells #[.slice A1 n c] 24)) := (Below.refl _ w).alloc (Nat.le_refl _) _
  have x0 := Boxed.new w 24 (.slice A1 n c)
  have c0 := x0.cell
  have Hn := Lib.hid (And.intro h1.len h2.len)
  go_enter Tryz.func29, Tryz.ntmps29
  go_wp2_with (fail)
  refine (Stated_any _ B1 B2 A1 A2 n c m d ts ss (h1.below hb0 hB1) (by have := hb0.size; omega) (h2.below hb0 hB2) (by have := hb0.size; omega)).mono ?_
  rintro e w2 ⟨rfl, hb2⟩
  have hB2' := hb0.trans (hb2.mono hb0.size)
  have x2 := bxBelow x0 hb2 x0.lt
  clear hb0 hb2 x0 c0
  have c2 := x2.cell
  have hz2 := hB2'.size
  obtain ⟨r, hr⟩ : ∃ r, r = statedF ts ss := ⟨_, rfl⟩
  rw [← hr]
  by_cases hr0 : r = 0
  case neg =>
    have hne : (r != 0) = true := by simp [hr0]
    have hdf : lastsR ts ss = ([], r) := by unfold lastsR; rw [← hr, if_pos hr0]
    have Hr := Lib.hid (And.intro hr hdf)
    clear hr hdf
    go_wp2_with (fail)
    refine (Stated_any _ B1 B2 A1 A2 n c m d ts ss (h1.below hB2' hB1) (by omega) (h2.below hB2' hB2) (by omega)).mono ?_
    rintro e w3 ⟨rfl, hb3⟩
    rw [← Hr.out.1]
    have hB3 := hB2'.trans (hb3.mono hz2)
    go_wp2_with (fail)
    refine bodyPost_ret (v := .tuple #[.slice none 0 0, .int .i64 r]) (rlasts_results _ _ _ _ (by simp) (by simp)) rfl ?_
    exact ListRes.none Hr.out.2 hB3
  have hst := hr.symm.trans hr0
  obtain ⟨hv, hx⟩ := stated_states hst
  have hmn : n = m := by have h := (stated_valid hst).2.1; have := Hn.out.1; have := Hn.out.2; omega
  have hn1 : 1 ≤ n ∧ n ≤ 5 := by have := hv.h1; have := hv.h5; have := Hn.out.1; omega
  have Hv := Lib.hid (And.intro hv (And.intro hx (And.intro hst Hn.out.1)))
  have hN := states_few hv
  have hN0 := rows_pos hv
  clear hv hx hst hr
  subst hmn hr0
  go_wp2_with (fail)
  refine (Rows_any w2 B1 A1 n c ts (h1.below hB2' hB1) (by omega) Hv.out.1).mono ?_
  rintro e w3 ⟨v3, rs, rfl, hr3, hdone, hb3⟩
  obtain ⟨N, hNe⟩ : ∃ N, N = (statesL ts).length := ⟨_, rfl⟩
  rw [← hNe] at hr3 hN hN0
  obtain ⟨g3, c3, rfl⟩ := ownsRow_pos hr3 hN0
  have hg3 := hr3.lt g3 rfl
  have hi3 := row_ints hr3 (by omega)
  have hB3 := hB2'.trans (hb3.mono hz2)
  have x3 := bxBelow x2 hb3 x2.lt
  have c3' := x3.cell
  have hz3 := hB3.size
  have Hd := Lib.hid (And.intro hdone (And.intro hNe hi3))
  clear hdone hi3 hr3 hb3 x2 c2 hB2' hNe
  go_wp2_with (fail)
  refine (IsSafe_any w3 B1 w3.heap.size B2 A1 (some ⟨g3, 0, none⟩) A2 n c N c3 d ts rs ss (h1.below hB3 hB1) (by omega) Hd.out.2.2 (Nat.le_refl _) (h2.below hB3 hB2) (by omega) Hv.out.1 Hd.out.1 Hv.out.2.1).mono ?_
  rintro e w4 ⟨rfl, hb4⟩
  have hB4 := hB3.trans (hb4.mono hz3)
  have x4 := bxBelow x3 hb4 x3.lt
  have c4 := x4.cell
  have hz4 := hB4.size
  have hz34 := hb4.size
  clear x3 c3' hB3
  rcases Classical.em (plOf ss ∈ dq ts) with hd | hd
  case inr =>
    have hsf : safeF ts ss = true := by unfold safeF; simp [hd]
    have hdf := lasts_safe Hv.out.2.2.1 hd
    have Hdf := Lib.hid hdf
    rw [hsf]
    clear hsf hdf hd
    go_wp2_with (fail)
    refine bodyPost_ret (v := .tuple #[.slice none 0 0, .int .i64 5]) (rlasts_results _ _ _ _ (by simp) (by simp)) rfl ?_
    exact ListRes.none Hdf.out hB4
  have hsf : safeF ts ss = false := by unfold safeF; simp [hd]
  have hdf := lasts_doomed Hv.out.2.2.1 hd
  have hla0 := la_nonneg Hv.out.1 (ts := ts) (plOf ss)
  have hla1 := la_lt Hv.out.1 hd
  obtain ⟨k0, hk0⟩ : ∃ k0, k0 = (la ts (plOf ss)).toNat := ⟨_, rfl⟩
  have hlak : la ts (plOf ss) = (k0 : Int) := by omega
  rw [← hk0] at hdf
  obtain ⟨q, hq, hqi, hqs⟩ := idx_mem Hv.out.1.nonneg Hv.out.2.1
  have hqN : q < N := by rw [Hd.out.2.1]; exact hq
  have hrq : rs[q]?.getD 0 = (k0 : Int) := by rw [← row_at Hv.out.1 hqs, Hd.out.1.inn _ Hv.out.2.1 hd, hlak]
  have Hs := Lib.hid (And.intro hd (And.intro hdf (And.intro hlak (And.intro hqi hrq))))
  have hk1000 : k0 ≤ 1000 := by omega
  rw [hsf]
  clear hsf hdf hd hla0 hla1 hk0 hlak hq hqi hqs hrq
  go_wp2_with (fail)
  refine (rindex_any w4 B1 B2 A1 A2 n c d ts ss (h1.below hB4 hB1) (by omega) (h2.below hB4 hB2) (by omega) Hv.out.1 Hv.out.2.1).mono ?_
  rintro e w5 ⟨rfl, hb5⟩
  rw [Hs.out.2.2.2.1]
  have hB5 := hB4.trans (hb5.mono hz4)
  have hb35 := hb4.trans (hb5.mono hz34)
  have x5 := bxBelow x4 hb5 x4.lt
  have c5 := x5.cell
  have hi5 := h2.below hB5 hB2
  obtain ⟨b5, o5, e5, -, hc5⟩ := (Hd.out.2.2.below hb35 (Nat.le_refl _)).cell hqN
  cases e5
  rw [Hs.out.2.2.2.2, Nat.zero_add] at hc5
  have hz5 := hB5.size
  have hz35 := hb35.size
  have H5 := Lib.hid (And.intro (hi5.more (show B2 ≤ w5.heap.size by omega)) (And.intro hB5 (And.intro hb35 x5)))
  clear x4 c4 hB4 hi5 hB5 hb35 x5 hb4 hb5
  go_wp2_with (fail)
  go_loopg [1, 7, 8] k0 (fun g v1 v7 v8 wr => ∃ (k : Nat) (xs : List Int) (A : Option Addr) (d' : Nat) (us : List Int), (k = g ∧ v8 = .int .i64 (k : Int) ∧ v1 = .slice A n d') ∧ (xs ∈ statesL ts ∧ plOf xs ∈ dq ts ∧ la ts (plOf xs) = (k : Int) ∧ us ++ lon ts k (plOf xs) = lon ts k0 (plOf ss) ∧ us.length + k = k0) ∧ wr.ownsRow w3.heap.size 3 1 v7 us.length (us.map (.int .i64)) ∧ IntsAt wr wr.heap.size A n xs ∧ (Boxed wr w.heap.size 24 (.slice A1 n c) ∧ Below w.heap.size w wr ∧ Below w3.heap.size w3 wr))
  case atStart => exact ⟨k0, ss, A2, d, [], ⟨rfl, rfl, rfl⟩, ⟨Hv.out.2.1, Hs.out.1, Hs.out.2.2.1, rfl, by simp⟩, World.ownsRow_nil _ _ _ _, H5.out.1, H5.out.2.2.2, H5.out.2.1, H5.out.2.2.1⟩
  case round =>
    clear c5 hc5
    obtain ⟨k, xs, A, d', us, ⟨rfl, rfl, rfl⟩, ⟨hxs, hxd, hxk, hlon, hul⟩, hrow, hix, y0, hB, hb3r⟩ := hrel
    have cr := y0.cell
    have hz := y0.lt
    have hzw := hB.size
    have hz3r := hb3r.size
    have Hx := Lib.hid (And.intro hxs (And.intro hxd (And.intro hxk (And.intro hlon hul))))
    clear hxs hxd hxk hlon
    by_cases hk : 0 < k
    case neg =>
      obtain rfl : k = 0 := by omega
      have hL : us = lon ts k0 (plOf ss) := by rw [← Hx.out.2.2.2.1, lon_zero, List.append_nil]
      have HL := Lib.hid hL
      clear hL
      go_wp2_with (fail)
      refine bodyPost_ret (rlasts_results _ _ _ _ (by simp; rfl) (by simp; rfl)) rfl ?_
      refine ⟨_, by rw [Hs.out.2.1], ?_, hB⟩
      rw [Hs.out.2.1, ← HL.out]
      exact row_mono hrow hz3
    obtain ⟨k', rfl⟩ : ∃ k', k = k' + 1 := ⟨k - 1, by omega⟩
    obtain ⟨y, hy, hyl, hyd, hlons, hmin⟩ := lon_succ Hv.out.1 Hx.out.2.1 (k := k') (by rw [Hx.out.2.2.1]; simp)
    have HP := Hx.out.1
    obtain ⟨ys, hys⟩ : ∃ ys, rpullF ts xs (allL ts.length) = some ys := by
      have hr := rvisit Hv.out.1 (nice_plOf Hv.out.1 HP).1
      rw [(nice_plOf Hv.out.1 HP).2] at hr
      rcases hr with ⟨ys, e, -⟩ | ⟨-, e⟩
      · exact ⟨ys, e⟩
      · rw [e] at hy; cases hy
    have hyn := visit_fst hy
    rw [Hv.out.2.2.2] at hyn
    obtain ⟨i, hie⟩ : ∃ i, i = y.1 := ⟨_, rfl⟩
    have hvs := fun j (hj : j < n) => visited_state Hv.out.1 HP hys (i := j) (by rw [Hv.out.2.2.2]; exact hj)
    have hyi : plOf (ys.set i 0) = y.2 ∧ ys.set i 0 ∈ statesL ts := by
      obtain ⟨z, hz', -, -, hst, hpl⟩ := hvs y.1 hyn
      rw [hie]
      exact ⟨hpl.trans (visit_one Hv.out.1 hz' (show (y.1, y.2) ∈ _ from hy)), hst⟩
    have hbef : ∀ j, j < i → ∃ z ∈ statesL ts, z = ys.set j 0 ∧ la ts (plOf z) ≠ (k' : Int) ∧ plOf z ∈ dq ts := fun j hj => by
      obtain ⟨z, hz', -, -, hst, hpl⟩ := hvs j (by omega)
      refine ⟨_, hst, rfl, fun h => ?_, ?_⟩
      · rw [hpl] at h
        have := hmin _ hz' h
        simp only at this
        omega
      · rw [hpl]
        exact (dq_suc Hv.out.1 Hx.out.2.1 hz').1
    have hin : i < n := by omega
    rw [← hie] at hlons
    rw [← hyi.1] at hyl hyd hlons
    have Hy := Lib.hid (And.intro hys (And.intro hyl (And.intro hyd (And.intro hlons (And.intro hyi.2 hbef)))))
    clear hys hy hyl hyd hlons hmin hvs hyi hbef hie hyn y
    have hkk : ((k' + 1 : Nat) : Int) = (k' : Int) + 1 := by omega
    have hk0' : (0 : Int) < (k' : Int) + 1 := by omega
    have hwk : IntKind.i64.wrap ((k' : Int) + 1 - 1) = (k' : Int) := by rw [IntKind.wrap_i64]; omega
    have hwk2 : IntKind.i64.wrap (k' : Int) = (k' : Int) := by rw [IntKind.wrap_i64]; omega
    rw [hkk]
    clear hul
    go_wp2_with (fail)
    have hcellH : ∀ W', Boxed W' w.heap.size 24 (.slice A1 n c) → W'.cell? ⟨w.heap.size, 0, none⟩ = some (.slice A1 n c) := fun W' h => h.cell
    refine region_held_wp 1 (fun W' => Boxed W' w.heap.size 24 (.slice A1 n c)) (fun j => decide (j = 2 ∨ j = 3)) (by kernel_rfl) ?_
    intro KR hKR
    have hS : Boxed wr.drew w.heap.size 24 (.slice A1 n c) := bxBelow y0 (below_drew _) y0.lt
    refine wpAnyHI_takeW (i := 1) (v := .slice A n d') (some 37) rfl rfl (by kernel_rfl) (by kernel_rfl) (by kernel_rfl) (by kernel_rfl) (fun _ _ _ h => h) (.inl ⟨by kernel_rfl, fun W' hS' => ?_⟩) ?_
    · go_simp
    refine wpAnyHI_takeE (i := 0) (v := .agg #[.slice A1 n c]) (some 36) rfl rfl (by kernel_rfl) (by kernel_rfl) (by kernel_rfl) (by kernel_rfl) (by kernel_rfl) (fun _ _ _ h => h) hS (.inl ⟨by kernel_rfl, fun W' hS' => ?_⟩) ?_
    · have q := hcellH W' hS'; go_simp
    refine wpAnyHI_takeE (i := 2) (v := .agg #[.slice A1 n c]) (some 38) rfl rfl (by kernel_rfl) (by kernel_rfl) (by kernel_rfl) (by kernel_rfl) (by kernel_rfl) (fun _ _ _ h => h) hS (.inl ⟨by kernel_rfl, fun W' hS' => ?_⟩) ?_
    · have q := hcellH W' hS'; go_simp
    refine wpAnyHI_one (i := 3) rfl (by kernel_rfl) ?_
    intro K1 hK1
    go_simp
    refine ⟨trivial, (callsIn_wide.2 (All_any _ A1 n c (by omega))).mono ?_⟩
    rintro e wa ⟨va, rfl, hra, hba⟩
    obtain ⟨ga, ca, rfl⟩ := ownsRow_pos hra (by omega)
    have hia := row_ints hra (by omega)
    have hbwa : Below wr.heap.size wr wa := (below_drew wr).trans hba
    have hBa := hB.trans (hbwa.mono hzw)
    have hSa := bxBelow y0 hbwa y0.lt
    refine hK1 _ _ ⟨fun _ => hSa, ?_⟩
    clear hK1 K1 hra hS hba
    refine wpAnyHI_one (i := 4) rfl (by kernel_rfl) ?_
    intro K1 hK1
    go_simp
    refine ⟨trivial, (callsIn_wide.2 (Pulled_any _ B1 wr.heap.size wa.heap.size A1 A _ n c d' n ca ts xs (allL n) (h1.below hBa hB1) (by have := hBa.size; omega) (hix.below hbwa (Nat.le_refl _)) (by have := hbwa.size; omega) hia (Nat.le_refl _) (by omega) (by omega) (by omega) (fun p hp => allL_mem.1 hp) (state_bounds Hv.out.1 HP))).mono ?_⟩
    intro e wp hpp
    obtain ⟨v4, ok, rfl, hbp, hcase⟩ := pulled_form hpp
    have hbwp : Below wr.heap.size wr wp := hbwa.trans (hbp.mono hbwa.size)
    have hBp := hB.trans (hbwp.mono hzw)
    have xp := bxBelow y0 hbwp y0.lt
    have hzap := hbwa.size
    refine hK1 _ _ ⟨fun h => absurd h (by decide), ?_⟩
    clear hK1 K1 hia hSa hpp hbp
    refine wpAnyHI_takeW (i := 5) (v := .tuple #[v4, .bool ok]) (some 35) rfl rfl (by kernel_rfl) (by kernel_rfl) (by kernel_rfl) (by kernel_rfl) (fun _ _ _ h => h) (.inl ⟨by kernel_rfl, fun W' hS' => ?_⟩) ?_
    · go_simp
    refine wpAnyHI_takeW (i := 6) (v := v4) (some 41) rfl rfl (by kernel_rfl) (by kernel_rfl) (by kernel_rfl) (by kernel_rfl) (fun _ _ _ h => h) (.inl ⟨by kernel_rfl, fun W' hS' => ?_⟩) ?_
    · go_simp
    refine wpAnyHI_takeW (i := 7) (v := .bool ok) (some 42) rfl rfl (by kernel_rfl) (by kernel_rfl) (by kernel_rfl) (by kernel_rfl) (fun _ _ _ h => h) (.inl ⟨by kernel_rfl, fun W' hS' => ?_⟩) ?_
    · go_simp
    refine wpAnyHI_takeW (i := 8) (v := v4) (some 9) rfl rfl (by kernel_rfl) (by kernel_rfl) (by kernel_rfl) (by kernel_rfl) (fun _ _ _ h => h) (.inl ⟨by kernel_rfl, fun W' hS' => ?_⟩) ?_
    · go_simp
    refine wpAnyHI_takeW (i := 9) (v := .bool ok) (some 10) rfl rfl (by kernel_rfl) (by kernel_rfl) (by kernel_rfl) (by kernel_rfl) (fun _ _ _ h => h) (.inl ⟨by kernel_rfl, fun W' hS' => ?_⟩) ?_
    · go_simp
    refine wpAnyHI_end (by kernel_rfl) ?_
    show KR _ _
    refine hKR _ _ ?_
    clear hKR KR
    have hzp := hBp.size
    have h3p := hb3r.trans (hbwp.mono hz3r)
    have hrowp := row_below hrow hbwp
    have hlt := fun r e => (hrow.lt r e).2
    clear hcellH hbwa hBa y0 cr hrow hB hb3r hix HP
    obtain ⟨ys', hys', hr4⟩ : ∃ ys', rpullF ts xs (allL ts.length) = some ys' ∧ ok = true ∧ wp.ownsRow wa.heap.size 3 1 v4 n (ys'.map (.int .i64)) := by
      rcases hcase with ⟨h, ys', h', hr4⟩ | ⟨-, h'⟩
      · exact ⟨ys', by rw [Hv.out.2.2.2]; exact h', h, hr4⟩
      · have := Hy.out.1
        rw [Hv.out.2.2.2, h'] at this
        cases this
    obtain ⟨rfl, hr4⟩ := hr4
    obtain rfl : ys' = ys := by have := Hy.out.1; rw [hys'] at this; exact Option.some.inj this
    obtain ⟨g4, c4, rfl⟩ := ownsRow_pos hr4 (by omega)
    have hg4 := hr4.lt g4 rfl
    have hi4 := row_ints hr4 (by omega)
    have Hp := Lib.hid (And.intro hi4 (And.intro hrowp (And.intro h3p (And.intro hlt hg4))))
    have hz3p := h3p.size
    clear hcase hys' hi4 hrowp h3p hr4 hlt
    have cp := xp.cell
    obtain ⟨wo, rfl⟩ : ∃ wo, wo = wr := ⟨_, rfl⟩
    go_wp2_with (fail)
    go_loopg [11] i (fun g v11 wr => ∃ j : Nat, (j ≤ i ∧ g = i - j ∧ v11 = .int .i64 (j : Int)) ∧ Boxed wr w.heap.size 24 (.slice A1 n c) ∧ Below w.heap.size w wr ∧ Below wp.heap.size wp wr)
    case atStart => exact ⟨0, ⟨Nat.zero_le _, rfl, rfl⟩, xp, hBp, Below.refl _ _⟩
    case round =>
      clear xp cp hBp
      obtain ⟨j, ⟨hji, rfl, rfl⟩, y0, hB, hbpr⟩ := hrel
      have cr := y0.cell
      have hz := y0.lt
      have hzw := hB.size
      have hzpr := hbpr.size
      have hjn : j < n := by omega
      have hb3r := Hp.out.2.2.1.trans (hbpr.mono hz3p)
      obtain ⟨zs, hzs, hzst, hzd, hzl⟩ : ∃ zs, zs = ys'.set j 0 ∧ zs ∈ statesL ts ∧ plOf zs ∈ dq ts ∧ (la ts (plOf zs) = (k' : Int) ↔ j = i) := by
        by_cases hj : j = i
        · subst hj
          exact ⟨_, rfl, Hy.out.2.2.2.2.1, Hy.out.2.2.1, by simp [Hy.out.2.1]⟩
        · obtain ⟨z, hz1, rfl, hz2, hz3⟩ := Hy.out.2.2.2.2.2 j (by omega)
          exact ⟨_, rfl, hz1, hz3, by simp [hz2, hj]⟩
      obtain ⟨q, hq, hqi, hqs⟩ := idx_mem Hv.out.1.nonneg hzst
      have hqN : q < N := by rw [Hd.out.2.1]; exact hq
      have hrq : rs[q]?.getD 0 = la ts (plOf zs) := by rw [← row_at Hv.out.1 hqs, Hd.out.1.inn _ hzst hzd]
      obtain ⟨l, hl⟩ : ∃ l, l = la ts (plOf zs) := ⟨_, rfl⟩
      have hlb : 0 ≤ l ∧ l ≤ 60005 := by rw [hl]; exact ⟨la_nonneg Hv.out.1 _, la_big Hv.out.1 _⟩
      rw [← hl] at hrq hzl
      have Hz := Lib.hid (And.intro hzs (And.intro hzst (And.intro hqi (And.intro hrq hzl))))
      clear hzs hzst hzd hzl hq hqi hqs hrq hl
      have hwj : IntKind.i64.wrap ((j : Int) + 1) = (j : Int) + 1 := by rw [IntKind.wrap_i64]; omega
      go_wp2_with (fail)
      have hcellH : ∀ W', Boxed W' w.heap.size 24 (.slice A1 n c) → W'.cell? ⟨w.heap.size, 0, none⟩ = some (.slice A1 n c) := fun W' h => h.cell
      refine region_held_wp 1 (fun W' => Boxed W' w.heap.size 24 (.slice A1 n c)) (fun j => decide (j = 4)) (by kernel_rfl) ?_
      intro KR hKR
      have hS : Boxed wr.drew w.heap.size 24 (.slice A1 n c) := bxBelow y0 (below_drew _) y0.lt
      refine wpAnyHI_takeW (i := 0) (v := .slice (some ⟨g3, 0, none⟩) N c3) (some 43) rfl rfl (by kernel_rfl) (by kernel_rfl) (by kernel_rfl) (by kernel_rfl) (fun _ _ _ h => h) (.inl ⟨by kernel_rfl, fun W' hS' => ?_⟩) ?_
      · go_simp
      refine wpAnyHI_takeW (i := 2) (v := .slice (some ⟨g4, 0, none⟩) n c4) (some 45) rfl rfl (by kernel_rfl) (by kernel_rfl) (by kernel_rfl) (by kernel_rfl) (fun _ _ _ h => h) (.inl ⟨by kernel_rfl, fun W' hS' => ?_⟩) ?_
      · go_simp
      refine wpAnyHI_takeW (i := 3) (v := .int .i64 (j : Int)) (some 46) rfl rfl (by kernel_rfl) (by kernel_rfl) (by kernel_rfl) (by kernel_rfl) (fun _ _ _ h => h) (.inl ⟨by kernel_rfl, fun W' hS' => ?_⟩) ?_
      · go_simp
      refine wpAnyHI_takeW (i := 8) (v := .int .i64 ((k' : Int) + 1)) (some 51) rfl rfl (by kernel_rfl) (by kernel_rfl) (by kernel_rfl) (by kernel_rfl) (fun _ _ _ h => h) (.inl ⟨by kernel_rfl, fun W' hS' => ?_⟩) ?_
      · go_simp
      refine wpAnyHI_takeW (i := 9) (v := .int .i64 (k' : Int)) (some 52) rfl rfl (by kernel_rfl) (by kernel_rfl) (by kernel_rfl) (by kernel_rfl) (fun _ _ _ h => h) (.inl ⟨by kernel_rfl, fun W' hS' => ?_⟩) ?_
      · go_simp
      refine wpAnyHI_takeE (i := 1) (v := .agg #[.slice A1 n c]) (some 44) rfl rfl (by kernel_rfl) (by kernel_rfl) (by kernel_rfl) (by kernel_rfl) (by kernel_rfl) (fun _ _ _ h => h) hS (.inl ⟨by kernel_rfl, fun W' hS' => ?_⟩) ?_
      · have q := hcellH W' hS'; go_simp
      refine wpAnyHI_one (i := 4) rfl (by kernel_rfl) ?_
      intro K1 hK1
      go_simp
      refine ⟨trivial, (callsIn_wide.2 (Visited_any _ wp.heap.size (some ⟨g4, 0, none⟩) n c4 ys' (Hp.out.1.below (hbpr.trans ((below_drew wr).mono hzpr)) (Nat.le_refl _)) hzpr j hjn (by omega))).mono ?_⟩
      rintro e w6 ⟨v6, rfl, hr6, hb6⟩
      obtain ⟨g6, c6, rfl⟩ := ownsRow_pos hr6 (by omega)
      have hi6 := row_ints hr6 (by omega)
      rw [← Hz.out.1] at hi6
      have hb66 : Below wr.heap.size wr w6 := (below_drew wr).trans hb6
      have hB6 := hB.trans (hb66.mono hzw)
      have hS6 := bxBelow y0 hb66 y0.lt
      refine hK1 _ _ ⟨fun _ => hS6, ?_⟩
      clear hK1 K1 hr6 hS hb6
      refine wpAnyHI_one (i := 5) rfl (by kernel_rfl) ?_
      intro K1 hK1
      go_simp
      refine ⟨trivial, (callsIn_wide.2 (rindex_any _ B1 w6.heap.size A1 (some ⟨g6, 0, none⟩) n c c6 ts zs (h1.below hB6 hB1) (by have := hB6.size; omega) hi6 (Nat.le_refl _) Hv.out.1 Hz.out.2.1)).mono ?_⟩
      rintro e w7 ⟨rfl, hb7⟩
      rw [Hz.out.2.2.1]
      have hb77 : Below wr.heap.size wr w7 := hb66.trans (hb7.mono hb66.size)
      have hB7 := hB.trans (hb77.mono hzw)
      have x7 := bxBelow y0 hb77 y0.lt
      have hbp7 := hbpr.trans (hb77.mono hzpr)
      have hb37 := hb3r.trans (hb77.mono (by have := hb3r.size; omega))
      obtain ⟨b7, o7, e7, -, hc7⟩ := (Hd.out.2.2.below hb37 (Nat.le_refl _)).cell hqN
      cases e7
      rw [Hz.out.2.2.2.1, Nat.zero_add] at hc7
      refine hK1 _ _ ⟨fun h => absurd h (by decide), ?_⟩
      clear hK1 K1 hi6 hS6 hb7 hb66 hB6
      refine wpAnyHI_takeW (i := 6) (v := .pointer (some ⟨g3, q, none⟩)) (some 49) rfl rfl (by kernel_rfl) (by kernel_rfl) (by kernel_rfl) (by kernel_rfl) (fun _ _ _ h => h) (.inl ⟨by kernel_rfl, fun W' hS' => ?_⟩) ?_
      · go_simp <;> omega
      refine wpAnyHI_one (i := 7) rfl (by kernel_rfl) ?_
      intro K1 hK1
      go_simp
      refine hK1 _ _ ⟨fun h => absurd h (by decide), ?_⟩
      clear hK1 K1 hc7
      by_cases hji' : j = i
      case pos =>
        obtain rfl : l = (k' : Int) := Hz.out.2.2.2.2.2 hji'
        subst hji'
        refine wpAnyHI_takeW (i := 10) (v := .bool false) (some 53) rfl rfl (by kernel_rfl) (by kernel_rfl) (by kernel_rfl) (by kernel_rfl) (fun _ _ _ h => h) (.inl ⟨by kernel_rfl, fun W' hS' => ?_⟩) ?_
        · go_simp
        refine wpAnyHI_end (by kernel_rfl) ?_
        show KR _ _
        refine hKR _ _ ?_
        clear hKR KR
        have c7 := x7.cell
        have hz7 := hB7.size
        have hzp7 := hbp7.size
        have hrow7 := row_below Hp.out.2.1 hbp7
        have hi47 := Hp.out.1.below hbp7 (Nat.le_refl _)
        clear y0 cr hB hbpr hb3r hcellH hb77
        obtain ⟨A5, c5, rfl, hle5⟩ := ownsRow_slice hrow7
        have hul := Hx.out.2.2.2.2
        have hlt7 := hrow7.lt
        go_wp2_with (at_builtin; refine wpList_append_own_at _ rfl _ _ 22 rfl w3.heap.size 3 i0 (.int .i64 0) 1 8 Tryz.underlying22 hi hz0 hz1 hz2' rfl (by decide) _ _ _ rfl (hrow7.alloc _) ⟨w7.heap.size, 0, none⟩ 1 1 [.int .i64 (j : Int)] rfl rfl (cell_one_new _ _ _) (by simp [Value.oneCell']) (by simp only [maxLen]; omega) (by omega) (by simp; omega) ?_; intro v' w8 hown' hgrow _ hat)
        have hB8 : Below w.heap.size w w8 := (hB7.alloc hz7 _).trans ((Below.refl _ _).grown hgrow (by simp; omega) (fun r e => by have := (hlt7 r e).1; omega))
        have hb38 : Below w3.heap.size w3 w8 := (hb37.alloc (by omega) _).trans ((Below.refl _ _).grown hgrow (by simp; omega) (fun r e => (hlt7 r e).1))
        have x8 : Boxed w8 w.heap.size 24 (.slice A1 n c) := (hgrow.block _ (by simp; omega) (fun e => by have := (hlt7 _ e.symm).1; omega)).trans ((Below.heap_alloc _ _ _ x7.lt).trans x7)
        have hst4 : w8.heap[g4]? = w7.heap[g4]? := (hgrow.block g4 (by have := Hp.out.2.2.2.2.2; simp; omega) (fun e => by have := Hp.out.2.2.2.1 _ e.symm; have := Hp.out.2.2.2.2.1; omega)).trans (Below.heap_alloc _ _ _ (by have := Hp.out.2.2.2.2.2; omega))
        have hz8 : w7.heap.size ≤ w8.heap.size := by have := hgrow.size; simp at this; omega
        have hi48 := ints_stay hi47 hst4 (show g4 < w8.heap.size by have := Hp.out.2.2.2.2.2; omega)
        have c8 := x8.cell
        have H8 := Lib.hid (And.intro hB8 (And.intro hb38 (And.intro x8 (And.intro hi48 hown'))))
        clear hB8 hb38 x8 hi48 hown' hst4 hgrow hat hi47 hrow7 x7 c7 hB7 hb37 hlt7 hbp7
        go_wp2_with (fail)
        refine (Visited_any w8 w8.heap.size (some ⟨g4, 0, none⟩) n c4 ys' H8.out.2.2.2.1 (Nat.le_refl _) j hjn (by omega)).mono ?_
        rintro e w9 ⟨v9, rfl, hr9, hb9⟩
        obtain ⟨g9, c9, rfl⟩ := ownsRow_pos hr9 (by omega)
        have hi9 := row_ints hr9 (by omega)
        have hz88 := H8.out.1.size
        have hz38 := H8.out.2.1.size
        have H9 := Lib.hid (And.intro hi9 (And.intro (row_below H8.out.2.2.2.2 hb9) (And.intro (bxBelow H8.out.2.2.1 hb9 H8.out.2.2.1.lt) (And.intro (H8.out.1.trans (hb9.mono hz88)) (H8.out.2.1.trans (hb9.mono hz38))))))
        clear hi9 hr9 hb9 c8
        go_wp2_with (fail)
        go_roundg k'
        case measure => omega
        case rel =>
          refine ⟨k', zs, some ⟨g9, 0, none⟩, c9, us ++ [(j : Int)], ⟨rfl, by first | rfl | simp, rfl⟩, ⟨Hz.out.2.1, ?_, ?_, ?_, by simp; omega⟩, ?_, by rw [Hz.out.1]; exact H9.out.1, H9.out.2.2.1, H9.out.2.2.2.1, H9.out.2.2.2.2⟩
          · rw [Hz.out.1]; exact Hy.out.2.2.1
          · rw [Hz.out.1]; exact Hy.out.2.1
          · rw [Hz.out.1, ← Hx.out.2.2.2.1, Hy.out.2.2.2.1]
            simp
          · have h := H9.out.2.1
            simpa using h
      case neg =>
        have hne : ¬ l = (k' : Int) := fun h => hji' (Hz.out.2.2.2.2.1 h)
        have hne2 : (l != (k' : Int)) = true := by simp [hne]
        refine wpAnyHI_takeW (i := 10) (v := .bool true) (some 53) rfl rfl (by kernel_rfl) (by kernel_rfl) (by kernel_rfl) (by kernel_rfl) (fun _ _ _ h => h) (.inl ⟨by kernel_rfl, fun W' hS' => ?_⟩) ?_
        · go_simp
        refine wpAnyHI_end (by kernel_rfl) ?_
        show KR _ _
        refine hKR _ _ ?_
        clear hKR KR
        have c7 := x7.cell
        clear y0 cr hB hbpr hb3r hcellH hb77
        go_wp2_with (fail)
        go_roundg (i - (j + 1))
        case measure => omega
        case rel => exact ⟨j + 1, ⟨by omega, rfl, rfl⟩, x7, hB7, hbp7⟩
end Go.Proofs.YtdpehmdmgijcmaaGreat

/- TurnLasts: the walk. -/
namespace Go.Proofs.YtdpehmdmgijcmaaGreat
open Go.RowKit Go.Shelf

attribute [local go_sem] Oper.semAt_some

theorem lasts_len (ts ss : List Int) : (lastsR ts ss).1.length ≤ 1000 := by
  by_cases h : statedF ts ss = 0
  · have hv := valid_of (stated_hall h)
    by_cases hd : plOf ss ∈ dq ts
    · rw [lasts_doomed h hd]
      have h1 := la_lt hv hd
      have h2 := longF_len ts (tabE ts).2.1 (la ts (plOf ss)).toNat (plOf ss)
      unfold lon
      show (longF ts (tabE ts).2.1 _ _).length ≤ _
      omega
    · rw [lasts_safe h hd]
      simp
  · unfold lastsR
    rw [if_pos h]
    simp
set_option maxRecDepth 100000 in
set_option maxHeartbeats 8000000 in
theorem TurnLasts_any (w : World) (B1 B2 : Nat) (A1 A2 : Option Addr) (n c m d : Nat) (ts ss : List Int) (h1 : IntsAt w B1 A1 n ts) (hB1 : B1 ≤ w.heap.size) (h2 : IntsAt w B2 A2 m ss) (hB2 : B2 ≤ w.heap.size) :
    Calls Tryz.prog 6 #[.agg #[.slice A1 n c], .slice A2 m d] w fun e w' => e = .returned (.bool true) ∧ Below w.heap.size w w' := by
  have hm8 := h2.small
  have hb0 : Below w.heap.size w ((w.alloc (.cells #[.slice A1 n c] 24)).alloc (.cells #[.slice A1 n c] 24)) := ((Below.refl _ w).alloc (Nat.le_refl _) _).alloc (by simp) _
  have x0 := (Boxed.new w 24 (.slice A1 n c)).alloc (.cells #[.slice A1 n c] 24)
  have c0 := x0.cell
  go_enter Tryz.func6, Tryz.ntmps6
  go_wp2_with (fail)
  refine (great_any _ A1 n c).mono ?_
  rintro e w1 ⟨rfl, rfl⟩
  obtain ⟨w1, hw1⟩ : ∃ w1, w1 = (w.alloc (.cells #[.slice A1 n c] 24)).alloc (.cells #[.slice A1 n c] 24) := ⟨_, rfl⟩
  rw [← hw1] at hb0 x0 c0 ⊢
  clear hw1
  have hz0 := hb0.size
  by_cases hn : 10 < (n : Int)
  · rw [decide_eq_true hn]
    clear hn
    go_wp2_with (fail)
    refine (Works_any _).mono ?_
    rintro e wz ⟨rfl, hbz⟩
    go_wp2_with (fail)
    go_ret
    exact ⟨rfl, hb0.trans (hbz.mono hb0.size)⟩
  rw [decide_eq_false hn]
  clear hn
  go_wp2_with (fail)
  refine (wide_any w1 B1 A1 n c _ ts (h1.below hb0 hB1) (by omega)).mono ?_
  rintro e w2 ⟨⟨b, rfl⟩, hb2⟩
  have hB2' := hb0.trans (hb2.mono hz0)
  have x2 := bxBelow x0 hb2 x0.lt
  have hz2 := hB2'.size
  clear hb0 hb2 x0 c0 hz0
  have c2 := x2.cell
  cases b with
  | true =>
    go_wp2_with (fail)
    refine (Works_any _).mono ?_
    rintro e wz ⟨rfl, hbz⟩
    go_wp2_with (fail)
    go_ret
    exact ⟨rfl, hB2'.trans (hbz.mono hB2'.size)⟩
  | false =>
    by_cases hm : 20 < (m : Int)
    · go_wp2_with (fail)
      refine (Works_any _).mono ?_
      rintro e wz ⟨rfl, hbz⟩
      go_wp2_with (fail)
      go_ret
      exact ⟨rfl, hB2'.trans (hbz.mono hB2'.size)⟩
    go_wp2_with (fail)
    refine (Lasts_any w2 B1 B2 A1 A2 n c m d ts ss (h1.below hB2' hB1) (by omega) (h2.below hB2' hB2) (by omega) (fun h => ends_all (valid_of (stated_hall h)))).mono ?_
    intro e w3 hd3
    obtain ⟨L, hL⟩ : ∃ L, L = lastsR ts ss := ⟨_, rfl⟩
    have hll := lasts_len ts ss
    rw [← hL] at hd3 hll
    obtain ⟨v3, rfl, hr3, hb3⟩ := hd3
    obtain ⟨A3, m3, c3, rfl, hi3⟩ := ListAt.of_row hr3 (by omega)
    have hB3 := hB2'.trans (hb3.mono hz2)
    have x3 := bxBelow x2 hb3 x2.lt
    have c3' := x3.cell
    have hz3 := hB3.size
    have hm3 := hi3.small
    have H3 := Lib.hid (And.intro hL (And.intro hll hi3))
    clear hL hll hi3 hr3 hb3 x2 c2 hB2'
    go_wp2_with (fail)
    refine (rLasts_any w3 B1 B2 A1 A2 n c m d ts ss (h1.below hB3 hB1) (by omega) (h2.below hB3 hB2) (by omega)).mono ?_
    intro e w4 hd4
    rw [← H3.out.1] at hd4
    obtain ⟨v4, rfl, hr4, hb4⟩ := hd4
    obtain ⟨A4, m4, c4, rfl, hi4⟩ := ListAt.of_row hr4 (by have := H3.out.2.1; omega)
    have hB4 := hB3.trans (hb4.mono hz3)
    have x4 := bxBelow x3 hb4 x3.lt
    have c4' := x4.cell
    have hz4 := hB4.size
    have hm4 := hi4.small
    have H4 := Lib.hid (And.intro (H3.out.2.2.below hb4 (Nat.le_refl _)) hi4)
    have hzz4 := hb4.size
    clear hi4 hr4 hb4 x3 c3' hB3
    go_wp2_with (fail)
    refine (count_any w4 B1 A1 n c ts (h1.below hB4 hB1) (by omega) (fun h => ends_all (valid_of h))).mono ?_
    rintro e w5 ⟨rfl, hb5⟩
    have hB5 := hB4.trans (hb5.mono hz4)
    have x5 := bxBelow x4 hb5 x4.lt
    have c5' := x5.cell
    have hz5 := hB5.size
    have H5 := Lib.hid (And.intro (H4.out.1.below (hb5.mono hzz4) (Nat.le_refl _)) (H4.out.2.below hb5 (Nat.le_refl _)))
    have hzz5 := hb5.size
    obtain ⟨C, hC⟩ : ∃ C, C = countR ts := ⟨_, rfl⟩
    have HC := Lib.hid hC
    rw [← hC]
    clear hC hb5 x4 c4' hB4
    go_wp2_with (fail)
    refine (rCount_any w5 B1 A1 n c ts (h1.below hB5 hB1) (by omega)).mono ?_
    rintro e w6 ⟨rfl, hb6⟩
    rw [← HC.out]
    have hB6 := hB5.trans (hb6.mono hz5)
    have x6 := bxBelow x5 hb6 x5.lt
    have c6' := x6.cell
    have hz6 := hB6.size
    have hb56 := hb6.size
    have H6 := Lib.hid (And.intro (H5.out.1.below (hb6.mono (by omega)) (Nat.le_refl _)) (H5.out.2.below (hb6.mono hzz5) (Nat.le_refl _)))
    clear hb6 x5 c5' hB5
    go_wp2_with (fail)
    refine (ints_any w6 _ _ A3 A4 m3 m4 c3 c4 L.1 L.1 H6.out.1 H6.out.2).mono ?_
    rintro e w7 ⟨rfl, q, hq⟩
    rw [decide_eq_true (rfl : L.1 = L.1)]
    have hB7 : Below w.heap.size w w7 := by rw [hq]; exact hB6.trans ⟨rfl, rfl, rfl, Nat.le_refl _, fun _ _ => rfl⟩
    clear hq
    go_wp2_with (fail)
    refine (Works_any _).mono ?_
    rintro e wz ⟨rfl, hbz⟩
    go_wp2_with (fail)
    go_ret
    exact ⟨rfl, hB7.trans (hbz.mono hB7.size)⟩
end Go.Proofs.YtdpehmdmgijcmaaGreat
