/- Parts of a proof: EC. -/
import Derived.Test.YtdpehmdmgijcmaaGreatR30

/- TurnCircled: the walk. -/
namespace Go.Proofs.YtdpehmdmgijcmaaGreat
open Go.RowKit Go.Shelf

attribute [local go_sem] Oper.semAt_some

set_option maxRecDepth 100000 in
set_option maxHeartbeats 16000000 in
theorem TurnCircled_any (w : World) (B1 B2 : Nat) (A1 A2 : Option Addr) (n c m d : Nat) (begin : Int) (ts bs : List Int) (h1 : IntsAt w B1 A1 n ts) (hB1 : B1 ≤ w.heap.size) (hbegin : 0 ≤ begin ∧ begin ≤ 255) (h2 : U8At w B2 A2 m bs) (hB2 : B2 ≤ w.heap.size) :
    Calls Tryz.prog 7 #[.agg #[.slice A1 n c], .int .u8 begin, .slice A2 m d] w fun e w' => e = .returned (.bool true) ∧ Below w.heap.size w w' := by
  obtain ⟨i0, hi, hz0, hz1, hz2'⟩ := info_parts infoInt
  have hb0 : Below w.heap.size w (w.alloc (.cells #[.slice A1 n c] 24)) := (Below.refl _ w).alloc (Nat.le_refl _) _
  have x0 := Boxed.new w 24 (.slice A1 n c)
  have hm8 := h2.2.1
  go_enter Tryz.func7, Tryz.ntmps7
  go_wp2_with (fail)
  refine (fine_any _ B1 A1 n c ts (h1.below hb0 hB1) (by have := hb0.size; omega)).mono ?_
  rintro e w2 ⟨rfl, hb2⟩
  have hB2' := hb0.trans (hb2.mono hb0.size)
  have x2 := bxBelow x0 hb2 x0.lt
  have c2 := x2.cell
  have hz2 := hB2'.size
  clear hb0 hb2 x0
  by_cases hc : checkHallF ts = 0
  case neg =>
    rw [decide_eq_false hc]
    clear hc
    go_wp2_with (fail)
    refine (Works_any _).mono ?_
    rintro e wz ⟨rfl, hbz⟩
    go_wp2_with (fail)
    go_ret
    exact ⟨rfl, hB2'.trans (hbz.mono hB2'.size)⟩
  rw [decide_eq_true hc]
  have hv := valid_of hc
  have h1n : 1 ≤ n := by have := hv.h1; have := h1.len; omega
  have h5n : n ≤ 5 := by have := hv.h5; have := h1.len; omega
  have Hv := Lib.hid (And.intro hv (And.intro hc h1.len))
  clear hv hc
  by_cases hml : 60 < (m : Int)
  · go_wp2_with (fail)
    refine (Works_any _).mono ?_
    rintro e wz ⟨rfl, hbz⟩
    go_wp2_with (fail)
    go_ret
    exact ⟨rfl, hB2'.trans (hbz.mono hB2'.size)⟩
  obtain ⟨win, hwin⟩ := win_exists ts (fun e => by have := Hv.out.1.h1; rw [e] at this; simp at this)
  go_wp2_with (fail)
  refine (Circle_cap w2 B1 A1 n c ts (h1.below hB2' hB1) (by omega) win (fun _ => ⟨ends_all Hv.out.1, loop_ends Hv.out.1, hwin⟩)).mono ?_
  intro e w3 hd3
  obtain ⟨R, hR⟩ : ∃ R, R = circleR ts win := ⟨_, rfl⟩
  rw [← hR] at hd3
  obtain ⟨A3, nc, cc, rfl, ⟨hi3, hcap⟩, hb3⟩ := hd3
  have hB3 := hB2'.trans (hb3.mono hz2)
  have x3 := bxBelow x2 hb3 x2.lt
  have c3 := x3.cell
  have hz3 := hB3.size
  have hnc := hi3.small
  have H3 := Lib.hid (And.intro hR (And.intro hwin hi3))
  clear hR hwin hi3 hb3 x2 c2 hB2'
  go_wp2_with (fail)
  have hcellH : ∀ W', Boxed W' w.heap.size 24 (.slice A1 n c) → W'.cell? ⟨w.heap.size, 0, none⟩ = some (.slice A1 n c) := fun W' h => h.cell
  refine region_held_wp 1 (fun W' => Boxed W' w.heap.size 24 (.slice A1 n c)) (fun j => decide (j = 3 ∨ j = 1)) (by kernel_rfl) ?_
  intro KR hKR
  have hS : Boxed w3.drew w.heap.size 24 (.slice A1 n c) := bxBelow x3 (below_drew _) x3.lt
  refine wpAnyHI_takeW (i := 2) (v := .slice A2 m d) (some 30) rfl rfl (by kernel_rfl) (by kernel_rfl) (by kernel_rfl) (by kernel_rfl) (fun _ _ _ h => h) (.inl ⟨by kernel_rfl, fun W' hS' => ?_⟩) ?_
  · go_simp
  refine wpAnyHI_takeE (i := 0) (v := .agg #[.slice A1 n c]) (some 28) rfl rfl (by kernel_rfl) (by kernel_rfl) (by kernel_rfl) (by kernel_rfl) (by kernel_rfl) (fun _ _ _ h => h) hS (.inl ⟨by kernel_rfl, fun W' hS' => ?_⟩) ?_
  · have q := hcellH W' hS'; go_simp
  refine wpAnyHI_takeE (i := 1) (v := .agg #[.slice A1 n c]) (some 29) rfl rfl (by kernel_rfl) (by kernel_rfl) (by kernel_rfl) (by kernel_rfl) (by kernel_rfl) (fun _ _ _ h => h) hS (.inl ⟨by kernel_rfl, fun W' hS' => ?_⟩) ?_
  · have q := hcellH W' hS'; go_simp
  refine wpAnyHI_one (i := 3) rfl (by kernel_rfl) ?_
  intro K1 hK1
  go_simp
  refine ⟨trivial, (callsIn_wide.2 (Row_any _ B2 A1 A2 n c m d bs (h2.below (hB3.trans ((below_drew w3).mono hz3)) hB2) (Nat.le_trans hB2 hz3) h1n h5n (by omega))).mono ?_⟩
  rintro e w4 ⟨v4, xs, rfl, hr4, ⟨hxl, hxw⟩, hb4⟩
  obtain ⟨A4, m4, c4, rfl, hi4⟩ := ListAt.of_row (xs := xs) (by rw [hxl]; exact hr4) (by omega)
  have hb34 : Below w3.heap.size w3 w4 := (below_drew w3).trans hb4
  have hB4 := hB3.trans (hb34.mono hz3)
  have x4 := bxBelow x3 hb34 x3.lt
  refine hK1 _ _ ⟨fun _ => x4, ?_⟩
  clear hK1 K1 hr4 hS hb4 x3 c3
  refine wpAnyHI_one (i := 4) rfl (by kernel_rfl) ?_
  intro K1 hK1
  go_simp
  refine ⟨trivial, (callsIn_wide.2 (CheckCircle_any _ B1 w4.heap.size A1 A4 n c m4 c4 ts xs (h1.below hB4 hB1) (by have := hB4.size; omega) hi4 (Nat.le_refl _))).mono ?_⟩
  rintro e w5 ⟨rfl, hb5⟩
  obtain ⟨gv, hgv⟩ : ∃ gv, gv = checkCircleF ts xs := ⟨_, rfl⟩
  rw [← hgv]
  have hb35 := hb34.trans (hb5.mono hb34.size)
  have hB5 := hB3.trans (hb35.mono hz3)
  have x5 := bxBelow x4 hb5 x4.lt
  refine hK1 _ _ ⟨fun h => absurd h (by decide), ?_⟩
  clear hK1 K1 hi4 hb5 x4 hb34 hB4
  refine wpAnyHI_takeW (i := 5) (v := .int .i64 gv) (some 9) rfl rfl (by kernel_rfl) (by kernel_rfl) (by kernel_rfl) (by kernel_rfl) (fun _ _ _ h => h) (.inl ⟨by kernel_rfl, fun W' hS' => ?_⟩) ?_
  · go_simp
  refine wpAnyHI_end (by kernel_rfl) ?_
  show KR _ _
  refine hKR _ _ ?_
  clear hKR KR
  have c5 := x5.cell
  have hz5 := hB5.size
  have hzz5 := hb35.size
  have hxlm : xs.length = m := hxl
  have H5 := Lib.hid (And.intro hgv (And.intro hxl (And.intro hxw hb35)))
  clear hgv hxl hxw hb35 hB3 hcellH
  rcases Classical.em (emptyP ts ∈ dq ts) with hd | hd
  case inl =>
    have hRe : R = ([], 17) := H3.out.1.trans (circle_doomed Hv.out.2.1 hd)
    have hgn : gv ≠ 0 := fun e => by
      obtain ⟨p, hp⟩ := cc_zero Hv.out.2.1 (H5.out.1.symm.trans e)
      exact circ_none Hv.out.1 hd hp
    have hne : (gv != 0) = true := by simp [hgn]
    have hnc0 : nc = 0 := by have := H3.out.2.2.len; rw [hRe] at this; exact this.symm
    have hR2 : R.2 = 17 := by rw [hRe]
    clear hd hRe
    subst hnc0
    rw [hR2]
    go_wp2_with (fail)
    refine (Works_any _).mono ?_
    rintro e wz ⟨rfl, hbz⟩
    go_wp2_with (fail)
    go_ret
    exact ⟨rfl, hB5.trans (hbz.mono hB5.size)⟩
  have hRe := H3.out.1.trans (circle_safe Hv.out.2.1 (win := win) hd)
  obtain ⟨p, hcyc, hcl, hmin⟩ := circ_spec Hv.out.1 H3.out.2.1 hd
  obtain ⟨cs, hcs⟩ : ∃ cs, cs = (circP ts (tabE ts).1 win ((statesL ts).map plOf)).1 := ⟨_, rfl⟩
  rw [← hcs] at hRe hcyc hcl hmin
  have hR2 : R.2 = 0 := by rw [hRe]
  have hic : IntsAt w3 w3.heap.size A3 nc cs := by have := H3.out.2.2; rw [hRe] at this; exact this
  have hncl : cs.length = nc := hic.len
  have hnc1 : 0 < nc := by have := List.length_pos_iff.2 hcyc.ne; omega
  have hnck : nc ≤ 1000 := by omega
  obtain ⟨b7, o7, rfl, hb7, hcc0⟩ := hic.2.2 hnc1
  have hshort : ¬ (gv = 0 ∧ m < nc) := fun ⟨e, hlt⟩ => by
    obtain ⟨q, hq⟩ := cc_zero Hv.out.2.1 (H5.out.1.symm.trans e)
    have := hmin q xs hq
    have := H5.out.2.1
    omega
  have hrc0 : rcheckCircleF ts cs = 0 := by rw [← checkCircle_same]; exact cc_ok Hv.out.2.1 hcyc hcl
  have Hc := Lib.hid (And.intro hcyc (And.intro hic (And.intro hrc0 hncl)))
  rw [hR2]
  clear hcyc hcl hmin hcs hRe hd hic hrc0 hR2 hcc0 hncl H3
  have hn1 : ¬ (nc : Int) < 1 := by omega
  have hn1000 : ¬ (1000 : Int) < (nc : Int) := by omega
  go_wp2_with (fail)
  refine (rCheckCircle_any w5 B1 w3.heap.size A1 (some ⟨b7, o7, none⟩) n c nc cc ts cs (h1.below hB5 hB1) (by omega) (Hc.out.2.1.below H5.out.2.2.2 (Nat.le_refl _)) hzz5).mono ?_
  rintro e w6 ⟨rfl, hb6⟩
  rw [Hc.out.2.2.1]
  have hB6 := hB5.trans (hb6.mono hz5)
  have x6 := bxBelow x5 hb6 x5.lt
  have c6 := x6.cell
  have hz6 := hB6.size
  have hb36 := H5.out.2.2.2.trans (hb6.mono hzz5)
  have hzz6 := hb36.size
  have H6 := Lib.hid hb36
  clear hb6 hb36 x5 c5 hB5
  obtain ⟨kk, hkk⟩ : ∃ kk : Nat, (kk : Int) = begin % (nc : Int) := ⟨(begin % (nc : Int)).toNat, by have := Int.emod_nonneg begin (show (nc : Int) ≠ 0 by omega); omega⟩
  have hkn : kk < nc := by have := Int.emod_lt_of_pos begin (show 0 < (nc : Int) by omega); omega
  have htm : begin.tmod (nc : Int) = (kk : Int) := by rw [Int.tmod_eq_emod_of_nonneg hbegin.1]; exact hkk.symm
  have hwb : IntKind.i64.wrap begin = begin := by rw [IntKind.wrap_i64]; omega
  have hwk : IntKind.i64.wrap (kk : Int) = (kk : Int) := by rw [IntKind.wrap_i64]; omega
  have hnc0 : ¬ (nc : Int) = 0 := by omega
  clear hkk
  have hpk : (gv = 0 ∧ ¬ (m : Int) < (nc : Int)) ∨ ¬ gv = 0 := by
    by_cases e : gv = 0
    · exact .inl ⟨e, fun h => hshort ⟨e, by omega⟩⟩
    · exact .inr e
  clear hshort
  rcases hpk with ⟨hg0, hml2⟩ | hg0
  case inl =>
    subst hg0
    go_wp2_with (fail)
    have hck : ¬ cc = kk := by omega
    refine region_held_wp 1 (fun _ => True) (fun _ => false) (by kernel_rfl) ?_
    intro KR hKR
    refine wpAnyHI_takeW (i := 1) (v := .slice (some ⟨b7, o7, none⟩) nc cc) (some 80) rfl rfl (by kernel_rfl) (by kernel_rfl) (by kernel_rfl) (by kernel_rfl) (fun _ _ _ h => h) (.inl ⟨by kernel_rfl, fun W' hS' => ?_⟩) ?_
    · go_simp
    refine wpAnyHI_takeW (i := 2) (v := .int .i64 (kk : Int)) (some 81) rfl rfl (by kernel_rfl) (by kernel_rfl) (by kernel_rfl) (by kernel_rfl) (fun _ _ _ h => h) (.inl ⟨by kernel_rfl, fun W' hS' => ?_⟩) ?_
    · go_simp
    refine wpAnyHI_takeW (i := 3) (v := .slice (some ⟨b7, o7 + kk, none⟩) (nc - kk) (cc - kk)) (some 82) rfl rfl (by kernel_rfl) (by kernel_rfl) (by kernel_rfl) (by kernel_rfl) (fun _ _ _ h => h) (.inl ⟨by kernel_rfl, fun W' hS' => ?_⟩) ?_
    · go_simp <;> omega
    refine wpAnyHI_takeW (i := 5) (v := .slice (some ⟨b7, o7, none⟩) nc cc) (some 84) rfl rfl (by kernel_rfl) (by kernel_rfl) (by kernel_rfl) (by kernel_rfl) (fun _ _ _ h => h) (.inl ⟨by kernel_rfl, fun W' hS' => ?_⟩) ?_
    · go_simp
    refine wpAnyHI_takeW (i := 6) (v := .int .i64 (kk : Int)) (some 85) rfl rfl (by kernel_rfl) (by kernel_rfl) (by kernel_rfl) (by kernel_rfl) (fun _ _ _ h => h) (.inl ⟨by kernel_rfl, fun W' hS' => ?_⟩) ?_
    · go_simp
    refine wpAnyHI_takeW (i := 7) (v := .slice (some ⟨b7, o7, none⟩) kk cc) (some 86) rfl rfl (by kernel_rfl) (by kernel_rfl) (by kernel_rfl) (by kernel_rfl) (fun _ _ _ h => h) (.inl ⟨by kernel_rfl, fun W' hS' => ?_⟩) ?_
    · go_simp <;> omega
    refine wpAnyHI_one (i := 0) rfl (by kernel_rfl) ?_
    intro K1 hK1
    go_simp
    obtain ⟨N0, hN0⟩ : ∃ N0, N0 = w6.heap.size := ⟨_, rfl⟩
    obtain ⟨W1, hW1⟩ : ∃ W1, W1 = (w6.alloc (.cells #[] 3)).drew := ⟨_, rfl⟩
    rw [← hW1]
    have hr0 : W1.ownsRow N0 3 1 (.slice (some ⟨N0, 0, none⟩) 0 0) 0 [] := by
      have := World.ownsRow_made (base := N0) (e := 3) (size := 1) w6 #[] 0 (by omega) (by simp [maxLen]) rfl
      rw [← hN0] at this
      rw [hW1]
      exact this
    have hb01 : Below N0 w6 W1 := by
      have h := ((Below.refl w6.heap.size w6).alloc (Nat.le_refl _) (.cells #[] 3)).trans ((below_drew (w6.alloc (.cells #[] 3))).mono (by simp))
      rw [hW1, hN0]
      exact h
    have hic1 := (Hc.out.2.1.below H6.out (Nat.le_refl _)).below hb01 (by omega)
    have hz1' : W1.heap.size = N0 + 1 := by rw [hW1, hN0]; simp
    refine hK1 _ _ ⟨fun _ => trivial, ?_⟩
    clear hK1 K1
    refine wpAnyHI_one (i := 4) rfl (by kernel_rfl) ?_
    intro K1 hK1
    refine oneIn_append_own W1 (by kernel_rfl) (.tmp 79) (.tmp 82) 22 (by rfl) N0 3 i0 (.int .i64 0) 1 8 Tryz.underlying22 hi hz0 hz1 hz2' rfl (by decide) (.slice (some ⟨N0, 0, none⟩) 0 0) 0 [] (by rw [hN0]; kernel_rfl) hr0 ⟨b7, o7 + kk, none⟩ (nc - kk) (cc - kk) (((cs.drop kk).take (nc - kk)).map (.int .i64)) (by kernel_rfl) (by simp [Hc.out.2.2.2]) (ints_part hic1 (by omega)) (ones_int _) (by simp only [maxLen]; omega) (by omega) (by omega) ?_
    intro v2 W2 hr2 hg2
    refine hK1 _ _ ⟨fun _ => trivial, ?_⟩
    clear hK1 K1
    rw [Nat.zero_add, List.nil_append] at hr2
    have hb12 : Below N0 W1 W2 := (Below.refl _ _).grown hg2 (by omega) (fun r e => (hr0.lt r e).1)
    have hic2 := hic1.below hb12 (by omega)
    have hz12 := hb12.size
    obtain ⟨g2, c2', rfl⟩ := ownsRow_pos hr2 (by omega)
    refine wpAnyHI_one (i := 8) rfl (by kernel_rfl) ?_
    intro K1 hK1
    refine oneIn_append_own W2 (by kernel_rfl) (.tmp 83) (.tmp 86) 22 (by rfl) N0 3 i0 (.int .i64 0) 1 8 Tryz.underlying22 hi hz0 hz1 hz2' rfl (by decide) (.slice (some ⟨g2, 0, none⟩) (nc - kk) c2') (nc - kk) (((cs.drop kk).take (nc - kk)).map (.int .i64)) (by kernel_rfl) hr2 ⟨b7, o7, none⟩ kk cc (((cs.drop 0).take kk).map (.int .i64)) (by kernel_rfl) (by simp [Hc.out.2.2.2]; omega) (ints_part hic2 (by omega)) (ones_int _) (by simp only [maxLen]; omega) (by omega) (by omega) ?_
    intro v3 W3 hr3 hg3
    refine hK1 _ _ ⟨fun _ => trivial, ?_⟩
    clear hK1 K1
    have hb23 : Below N0 W2 W3 := (Below.refl _ _).grown hg3 (by omega) (fun r e => (hr2.lt r e).1)
    have hz23 := hb23.size
    rw [show nc - kk + kk = nc by omega] at hr3
    obtain ⟨g3, c3', rfl⟩ := ownsRow_pos hr3 (by omega)
    obtain ⟨xr, hxr⟩ : ∃ xr, xr = cs.drop kk ++ cs.take kk := ⟨_, rfl⟩
    have hxe : ((cs.drop kk).take (nc - kk)).map (Value.int .i64) ++ ((cs.drop 0).take kk).map (Value.int .i64) = xr.map (.int .i64) := by
      rw [hxr, List.map_append, List.drop_zero, List.take_of_length_le (show (cs.drop kk).length ≤ nc - kk by rw [List.length_drop, Hc.out.2.2.2]; exact Nat.le_refl _)]
    rw [hxe] at hr3
    have hi3 := row_ints hr3 (by omega)
    have hb63 : Below N0 w6 W3 := hb01.trans (hb12.trans hb23)
    rw [hN0] at hb63
    have hB3 := hB6.trans (hb63.mono hz6)
    have x3 := bxBelow x6 hb63 x6.lt
    refine wpAnyHI_takeW (i := 9) (v := .slice (some ⟨g3, 0, none⟩) nc c3') (some 11) rfl rfl (by kernel_rfl) (by kernel_rfl) (by kernel_rfl) (by kernel_rfl) (fun _ _ _ h => h) (.inl ⟨by kernel_rfl, fun W' hS' => ?_⟩) ?_
    · go_simp
    refine wpAnyHI_end (by kernel_rfl) ?_
    show KR _ _
    refine hKR _ _ ?_
    clear hKR KR
    have c3 := x3.cell
    have hz3 := hB3.size
    have hx : ∃ q, Cyc ts q xr ∧ q ∉ dq ts := by
      have h := Hc.out.1
      rw [← List.take_append_drop kk cs] at h
      obtain ⟨q, -, -, h3⟩ := h.turn Hv.out.1
      rw [hxr]
      exact ⟨q, h3, h3.safe Hv.out.1⟩
    obtain ⟨q, hq, hqd⟩ := hx
    have hxl : xr.length = nc := by rw [hxr]; simp [Hc.out.2.2.2]; omega
    have hcx : checkCircleF ts xr = 0 := cc_ok Hv.out.2.1 hq (by omega)
    have hcx2 : 2 * nc ≤ 1000 → checkCircleF ts (xr ++ xr) = 0 := fun h => cc_ok Hv.out.2.1 hq.twice (by simp; omega)
    have hpl : playR ts (List.replicate n (0 : Int)) xr = (plList q, (nc : Int), 0) := by
      rw [play_of (stated_zeros Hv.out.2.1 Hv.out.2.2.symm) (by omega) (wins_iff.2 hq.wins), plOf_laid ts Hv.out.2.2.symm, (hq.empty Hv.out.1).1, hxl]
    have hqs := stated_nice Hv.out.2.1 hq.nice
    have hqp := (nice_list Hv.out.1 hq.nice).2
    have hdm : doomR ts (plList q) = ([], 5) := (either_safe hqs (by rw [hqp]; exact hqd)).1
    have Hx := Lib.hid (And.intro hi3 (And.intro hcx (And.intro hcx2 (And.intro hpl (And.intro hqs (And.intro hdm (And.intro hxl hr3)))))))
    clear hi3 hcx hcx2 hpl hqs hqp hdm hq hqd hxr hxe hr3 hr2 hr0 hg2 hg3 hb01 hb12 hb23 hb63 hic1 hic2 hN0 hW1 hz1' hz12 hz23 x6 c6 hB6 hxl
    go_wp2_with (fail)
    refine (CheckCircle_any W3 B1 W3.heap.size A1 (some ⟨g3, 0, none⟩) n c nc c3' ts xr (h1.below hB3 hB1) (by omega) Hx.out.1 (Nat.le_refl _)).mono ?_
    rintro e w8 ⟨rfl, hb8⟩
    rw [Hx.out.2.1]
    have hB8 := hB3.trans (hb8.mono hz3)
    have x8 := bxBelow x3 hb8 x3.lt
    have c8 := x8.cell
    have hz8 := hB8.size
    have hzz8 := hb8.size
    have H8 := Lib.hid (Hx.out.1.below hb8 (Nat.le_refl _))
    clear x3 c3 hB3 hb8
    have hw2 : IntKind.i64.wrap (2 * (nc : Int)) = 2 * (nc : Int) := by rw [IntKind.wrap_i64]; omega
    go_wp2_with (fail)
    obtain ⟨w9, hw9⟩ : ∃ w9 : World, Below w.heap.size w w9 ∧ Boxed w9 w.heap.size 24 (.slice A1 n c) ∧ IntsAt w9 w9.heap.size (some ⟨g3, 0, none⟩) nc xr := ⟨w8, hB8, x8, (H8.out).more hzz8⟩
    clear hw9 w9
    by_cases h2n : 2 * nc ≤ 1000
    case pos =>
      have hle : 2 * (nc : Int) ≤ 1000 := by omega
      have hcellH : ∀ W', Boxed W' w.heap.size 24 (.slice A1 n c) → W'.cell? ⟨w.heap.size, 0, none⟩ = some (.slice A1 n c) := fun W' h => h.cell
      refine region_held_wp 1 (fun W' => Boxed W' w.heap.size 24 (.slice A1 n c)) (fun j => decide (j = 6 ∨ j = 8 ∨ j = 10)) (by kernel_rfl) ?_
      intro KR hKR
      have hS : Boxed w8.drew w.heap.size 24 (.slice A1 n c) := bxBelow x8 (below_drew _) x8.lt
      refine wpAnyHI_takeW (i := 0) (v := .slice (some ⟨b7, o7, none⟩) nc cc) (some 92) rfl rfl (by kernel_rfl) (by kernel_rfl) (by kernel_rfl) (by kernel_rfl) (fun _ _ _ h => h) (.inl ⟨by kernel_rfl, fun W' hS' => ?_⟩) ?_
      · go_simp
      refine wpAnyHI_takeW (i := 1) (v := .int .i64 (nc : Int)) (some 93) rfl rfl (by kernel_rfl) (by kernel_rfl) (by kernel_rfl) (by kernel_rfl) (fun _ _ _ h => h) (.inl ⟨by kernel_rfl, fun W' hS' => ?_⟩) ?_
      · go_simp
      refine wpAnyHI_takeW (i := 2) (v := .int .i64 (2 * (nc : Int))) (some 94) rfl rfl (by kernel_rfl) (by kernel_rfl) (by kernel_rfl) (by kernel_rfl) (fun _ _ _ h => h) (.inl ⟨by kernel_rfl, fun W' hS' => ?_⟩) ?_
      · go_simp
      refine wpAnyHI_takeW (i := 3) (v := .bool true) (some 95) rfl rfl (by kernel_rfl) (by kernel_rfl) (by kernel_rfl) (by kernel_rfl) (fun _ _ _ h => h) (.inl ⟨by kernel_rfl, fun W' hS' => ?_⟩) ?_
      · go_simp
      refine wpAnyHI_takeW (i := 4) (v := .bool true) (some 96) rfl rfl (by kernel_rfl) (by kernel_rfl) (by kernel_rfl) (by kernel_rfl) (fun _ _ _ h => h) (.inl ⟨by kernel_rfl, fun W' hS' => ?_⟩) ?_
      · go_simp
      refine wpAnyHI_takeW (i := 7) (v := .slice (some ⟨g3, 0, none⟩) nc c3') (some 99) rfl rfl (by kernel_rfl) (by kernel_rfl) (by kernel_rfl) (by kernel_rfl) (fun _ _ _ h => h) (.inl ⟨by kernel_rfl, fun W' hS' => ?_⟩) ?_
      · go_simp
      refine wpAnyHI_takeW (i := 9) (v := .slice (some ⟨g3, 0, none⟩) nc c3') (some 101) rfl rfl (by kernel_rfl) (by kernel_rfl) (by kernel_rfl) (by kernel_rfl) (fun _ _ _ h => h) (.inl ⟨by kernel_rfl, fun W' hS' => ?_⟩) ?_
      · go_simp
      refine wpAnyHI_takeE (i := 5) (v := .agg #[.slice A1 n c]) (some 97) rfl rfl (by kernel_rfl) (by kernel_rfl) (by kernel_rfl) (by kernel_rfl) (by kernel_rfl) (fun _ _ _ h => h) hS (.inl ⟨by kernel_rfl, fun W' hS' => ?_⟩) ?_
      · have q := hcellH W' hS'; go_simp
      refine wpAnyHI_one (i := 6) rfl (by kernel_rfl) ?_
      intro K1 hK1
      go_simp
      obtain ⟨N0, hN0⟩ : ∃ N0, N0 = w8.heap.size := ⟨_, rfl⟩
      obtain ⟨W1, hW1⟩ : ∃ W1, W1 = (w8.alloc (.cells #[] 3)).drew := ⟨_, rfl⟩
      rw [← hW1]
      have hr0 : W1.ownsRow N0 3 1 (.slice (some ⟨N0, 0, none⟩) 0 0) 0 [] := by
        have := World.ownsRow_made (base := N0) (e := 3) (size := 1) w8 #[] 0 (by omega) (by simp [maxLen]) rfl
        rw [← hN0] at this
        rw [hW1]
        exact this
      have hb01 : Below N0 w8 W1 := by
        have h := ((Below.refl w8.heap.size w8).alloc (Nat.le_refl _) (.cells #[] 3)).trans ((below_drew (w8.alloc (.cells #[] 3))).mono (by simp))
        rw [hW1, hN0]
        exact h
      have hic1 := H8.out.below hb01 (by omega)
      have hz1' : W1.heap.size = N0 + 1 := by rw [hW1, hN0]; simp
      have hS1 : Boxed W1 w.heap.size 24 (.slice A1 n c) := bxBelow x8 hb01 (by rw [hN0]; exact x8.lt)
      refine hK1 _ _ ⟨fun _ => hS1, ?_⟩
      clear hK1 K1
      refine wpAnyHI_one (i := 8) rfl (by kernel_rfl) ?_
      intro K1 hK1
      refine oneIn_append_own W1 (by kernel_rfl) (.tmp 98) (.tmp 99) 22 (by rfl) N0 3 i0 (.int .i64 0) 1 8 Tryz.underlying22 hi hz0 hz1 hz2' rfl (by decide) (.slice (some ⟨N0, 0, none⟩) 0 0) 0 [] (by rw [hN0]; kernel_rfl) hr0 ⟨g3, 0 + 0, none⟩ nc c3' (((xr.drop 0).take nc).map (.int .i64)) (by kernel_rfl) (by simp [Hx.out.2.2.2.2.2.2.1]) (ints_part hic1 (by omega)) (ones_int _) (by simp only [maxLen]; omega) (by omega) (by omega) ?_
      intro v2 W2 hr2 hg2
      rw [Nat.zero_add, List.nil_append] at hr2
      have hb12 : Below N0 W1 W2 := (Below.refl _ _).grown hg2 (by omega) (fun r e => (hr0.lt r e).1)
      have hic2 := hic1.below hb12 (by omega)
      have hz12 := hb12.size
      have hS2 : Boxed W2 w.heap.size 24 (.slice A1 n c) := bxBelow hS1 hb12 (by rw [hN0]; exact x8.lt)
      refine hK1 _ _ ⟨fun _ => hS2, ?_⟩
      clear hK1 K1
      obtain ⟨g2, c2', rfl⟩ := ownsRow_pos hr2 (by omega)
      refine wpAnyHI_one (i := 10) rfl (by kernel_rfl) ?_
      intro K1 hK1
      refine oneIn_append_own W2 (by kernel_rfl) (.tmp 100) (.tmp 101) 22 (by rfl) N0 3 i0 (.int .i64 0) 1 8 Tryz.underlying22 hi hz0 hz1 hz2' rfl (by decide) (.slice (some ⟨g2, 0, none⟩) nc c2') nc (((xr.drop 0).take nc).map (.int .i64)) (by kernel_rfl) hr2 ⟨g3, 0 + 0, none⟩ nc c3' (((xr.drop 0).take nc).map (.int .i64)) (by kernel_rfl) (by simp [Hx.out.2.2.2.2.2.2.1]) (ints_part hic2 (by omega)) (ones_int _) (by simp only [maxLen]; omega) (by omega) (by omega) ?_
      intro v3 W3' hr3 hg3
      have hb23 : Below N0 W2 W3' := (Below.refl _ _).grown hg3 (by omega) (fun r e => (hr2.lt r e).1)
      have hz23 := hb23.size
      have hS3 : Boxed W3' w.heap.size 24 (.slice A1 n c) := bxBelow hS2 hb23 (by rw [hN0]; exact x8.lt)
      refine hK1 _ _ ⟨fun _ => hS3, ?_⟩
      clear hK1 K1
      obtain ⟨g4, c4', rfl⟩ := ownsRow_pos hr3 (by omega)
      have hxe : ((xr.drop 0).take nc).map (Value.int .i64) ++ ((xr.drop 0).take nc).map (Value.int .i64) = (xr ++ xr).map (.int .i64) := by
        rw [List.map_append, List.drop_zero, List.take_of_length_le (by rw [Hx.out.2.2.2.2.2.2.1]; exact Nat.le_refl _)]
      rw [hxe] at hr3
      have hi3 := row_ints hr3 (by omega)
      have hb83 : Below N0 w8 W3' := hb01.trans (hb12.trans hb23)
      rw [hN0] at hb83
      have hB3 := hB8.trans (hb83.mono hz8)
      refine wpAnyHI_one (i := 11) rfl (by kernel_rfl) ?_
      intro K1 hK1
      go_simp
      refine ⟨trivial, (callsIn_wide.2 (CheckCircle_any W3' B1 W3'.heap.size A1 (some ⟨g4, 0, none⟩) n c (nc + nc) c4' ts (xr ++ xr) (h1.below hB3 hB1) (by have := hB3.size; omega) hi3 (Nat.le_refl _))).mono ?_⟩
      rintro e w9 ⟨rfl, hb9⟩
      rw [Hx.out.2.2.1 h2n]
      have hb89 : Below w8.heap.size w8 w9 := hb83.trans (hb9.mono hb83.size)
      refine hK1 _ _ ⟨fun h => absurd h (by decide), ?_⟩
      clear hK1 K1 hS hS1 hS2 hS3 hr0 hr2 hr3 hg2 hg3 hb01 hb12 hb23 hic1 hic2 hi3 hxe hb83 hB3 hb9 hN0 hW1 hz1' hz12 hz23
      refine wpAnyHI_takeW (i := 12) (v := .bool false) (some 104) rfl rfl (by kernel_rfl) (by kernel_rfl) (by kernel_rfl) (by kernel_rfl) (fun _ _ _ h => h) (.inl ⟨by kernel_rfl, fun W' hS' => ?_⟩) ?_
      · go_simp
      refine wpAnyHI_takeW (i := 13) (v := .bool false) (some 105) rfl rfl (by kernel_rfl) (by kernel_rfl) (by kernel_rfl) (by kernel_rfl) (fun _ _ _ h => h) (.inl ⟨by kernel_rfl, fun W' hS' => ?_⟩) ?_
      · go_simp
      refine wpAnyHI_end (by kernel_rfl) ?_
      show KR _ _
      refine hKR _ _ ?_
      clear hKR KR
      have hB9 := hB8.trans (hb89.mono hz8)
      have x9 := bxBelow x8 hb89 x8.lt
      have c9 := x9.cell
      have hz9 := hB9.size
      have hzz9 := hb89.size
      have H9 := Lib.hid (H8.out.below (hb89.mono hzz8) (Nat.le_refl _))
      clear hb89 x8 c8 hB8
      go_wp2_with (fail)
      have hcellQ : ∀ W', Boxed W' w.heap.size 24 (.slice A1 n c) → W'.cell? ⟨w.heap.size, 0, none⟩ = some (.slice A1 n c) := fun W' h => h.cell
      refine region_held_wp 1 (fun W' => Boxed W' w.heap.size 24 (.slice A1 n c)) (fun j => decide (j = 1 ∨ j = 2)) (by kernel_rfl) ?_
      intro KR hKR
      have hS : Boxed w9.drew w.heap.size 24 (.slice A1 n c) := bxBelow x9 (below_drew _) x9.lt
      refine wpAnyHI_takeW (i := 3) (v := .slice (some ⟨g3, 0, none⟩) nc c3') (some 110) rfl rfl (by kernel_rfl) (by kernel_rfl) (by kernel_rfl) (by kernel_rfl) (fun _ _ _ h => h) (.inl ⟨by kernel_rfl, fun W' hS' => ?_⟩) ?_
      · go_simp
      refine wpAnyHI_takeE (i := 0) (v := .agg #[.slice A1 n c]) (some 107) rfl rfl (by kernel_rfl) (by kernel_rfl) (by kernel_rfl) (by kernel_rfl) (by kernel_rfl) (fun _ _ _ h => h) hS (.inl ⟨by kernel_rfl, fun W' hS' => ?_⟩) ?_
      · have q := hcellQ W' hS'; go_simp
      refine wpAnyHI_takeE (i := 1) (v := .agg #[.slice A1 n c]) (some 108) rfl rfl (by kernel_rfl) (by kernel_rfl) (by kernel_rfl) (by kernel_rfl) (by kernel_rfl) (fun _ _ _ h => h) hS (.inl ⟨by kernel_rfl, fun W' hS' => ?_⟩) ?_
      · have q := hcellQ W' hS'; go_simp
      refine wpAnyHI_one (i := 2) rfl (by kernel_rfl) ?_
      intro K1 hK1
      go_simp
      refine ⟨trivial, (callsIn_wide.2 (Empty_any _ A1 n c h1n h5n)).mono ?_⟩
      rintro e wa ⟨ga, hga, rfl, hra, hba⟩
      have hb9a : Below w9.heap.size w9 wa := (below_drew w9).trans hba
      have hBa := hB9.trans (hb9a.mono hz9)
      have xa := bxBelow x9 hb9a x9.lt
      have hia := ints_laid (n := n) (xs := List.replicate n (0 : Int)) hra (by simp) (by omega)
      refine hK1 _ _ ⟨fun _ => xa, ?_⟩
      clear hK1 K1 hra hS hba
      refine wpAnyHI_one (i := 4) rfl (by kernel_rfl) ?_
      intro K1 hK1
      go_simp
      refine ⟨trivial, (callsIn_wide.2 (Play_any _ B1 wa.heap.size W3.heap.size A1 (some ⟨ga, 0, none⟩) (some ⟨g3, 0, none⟩) n c n n nc c3' ts (List.replicate n (0 : Int)) xr (h1.below hBa hB1) (by have := hBa.size; omega) hia (Nat.le_refl _) (H9.out.below (hb9a.mono (by omega)) (Nat.le_refl _)) (by have := hb9a.size; omega))).mono ?_⟩
      rintro e wb ⟨vb, rfl, hlb, hbb⟩
      rw [Hx.out.2.2.2.1] at hlb ⊢
      obtain ⟨Ab, mb, cb, rfl, hib⟩ := hlb
      simp only at hib ⊢
      have hb9b := hb9a.trans (hbb.mono hb9a.size)
      have hBb := hB9.trans (hb9b.mono hz9)
      have xb := bxBelow x9 hb9b x9.lt
      refine hK1 _ _ ⟨fun h => absurd h (by decide), ?_⟩
      clear hK1 K1 hia xa hb9a hBa hbb
      refine wpAnyHI_takeW (i := 5) (v := .tuple #[.slice Ab mb cb, .int .i64 (nc : Int), .int .i64 0]) (some 106) rfl rfl (by kernel_rfl) (by kernel_rfl) (by kernel_rfl) (by kernel_rfl) (fun _ _ _ h => h) (.inl ⟨by kernel_rfl, fun W' hS' => ?_⟩) ?_
      · go_simp
      refine wpAnyHI_takeW (i := 6) (v := .slice Ab mb cb) (some 112) rfl rfl (by kernel_rfl) (by kernel_rfl) (by kernel_rfl) (by kernel_rfl) (fun _ _ _ h => h) (.inl ⟨by kernel_rfl, fun W' hS' => ?_⟩) ?_
      · go_simp
      refine wpAnyHI_takeW (i := 7) (v := .int .i64 (nc : Int)) (some 113) rfl rfl (by kernel_rfl) (by kernel_rfl) (by kernel_rfl) (by kernel_rfl) (fun _ _ _ h => h) (.inl ⟨by kernel_rfl, fun W' hS' => ?_⟩) ?_
      · go_simp
      refine wpAnyHI_takeW (i := 8) (v := .int .i64 0) (some 114) rfl rfl (by kernel_rfl) (by kernel_rfl) (by kernel_rfl) (by kernel_rfl) (fun _ _ _ h => h) (.inl ⟨by kernel_rfl, fun W' hS' => ?_⟩) ?_
      · go_simp
      refine wpAnyHI_takeW (i := 9) (v := .slice Ab mb cb) (some 12) rfl rfl (by kernel_rfl) (by kernel_rfl) (by kernel_rfl) (by kernel_rfl) (fun _ _ _ h => h) (.inl ⟨by kernel_rfl, fun W' hS' => ?_⟩) ?_
      · go_simp
      refine wpAnyHI_takeW (i := 10) (v := .int .i64 (nc : Int)) (some 13) rfl rfl (by kernel_rfl) (by kernel_rfl) (by kernel_rfl) (by kernel_rfl) (fun _ _ _ h => h) (.inl ⟨by kernel_rfl, fun W' hS' => ?_⟩) ?_
      · go_simp
      refine wpAnyHI_takeW (i := 11) (v := .int .i64 0) (some 8) rfl rfl (by kernel_rfl) (by kernel_rfl) (by kernel_rfl) (by kernel_rfl) (fun _ _ _ h => h) (.inl ⟨by kernel_rfl, fun W' hS' => ?_⟩) ?_
      · go_simp
      refine wpAnyHI_end (by kernel_rfl) ?_
      show KR _ _
      refine hKR _ _ ?_
      clear hKR KR
      have cb' := xb.cell
      have hzb := hBb.size
      have hmb := hib.small
      have Hb := Lib.hid hib
      clear hib hb9b x9 c9 hB9 hcellQ
      go_wp2_with (fail)
      refine (Stated_any wb B1 wb.heap.size A1 Ab n c mb cb ts (plList q) (h1.below hBb hB1) (by omega) Hb.out (Nat.le_refl _)).mono ?_
      rintro e wd ⟨rfl, hbd⟩
      rw [Hx.out.2.2.2.2.1]
      have hBd := hBb.trans (hbd.mono hzb)
      have xd := bxBelow xb hbd xb.lt
      have cd' := xd.cell
      have hzd := hBd.size
      have hzzd := hbd.size
      have Hd := Lib.hid (Hb.out.below hbd (Nat.le_refl _))
      clear hbd xb cb' hBb
      go_wp2_with (fail)
      refine (Doom_any wd B1 wb.heap.size A1 Ab n c mb cb ts (plList q) (h1.below hBd hB1) (by omega) Hd.out hzzd (fun _ => ends_all Hv.out.1) (fun h => rends_all Hv.out.1 (nice_stated h))).mono ?_
      intro e we hde
      rw [Hx.out.2.2.2.2.2.1] at hde
      obtain ⟨Ae, ke, ce, rfl, -, hbe⟩ := hde
      have hBe := hBd.trans (hbe.mono hzd)
      clear hbe xd cd'
      go_wp2_with (fail)
      refine (Works_any _).mono ?_
      rintro e wz ⟨rfl, hbz⟩
      go_wp2_with (fail)
      go_ret
      exact ⟨rfl, hBe.trans (hbz.mono hBe.size)⟩
    case neg =>
      have hle : ¬ 2 * (nc : Int) ≤ 1000 := by omega
      refine region_held_wp 1 (fun _ => True) (fun _ => false) (by kernel_rfl) ?_
      intro KR hKR
      refine wpAnyHI_takeW (i := 0) (v := .slice (some ⟨b7, o7, none⟩) nc cc) (some 92) rfl rfl (by kernel_rfl) (by kernel_rfl) (by kernel_rfl) (by kernel_rfl) (fun _ _ _ h => h) (.inl ⟨by kernel_rfl, fun W' hS' => ?_⟩) ?_
      · go_simp
      refine wpAnyHI_takeW (i := 1) (v := .int .i64 (nc : Int)) (some 93) rfl rfl (by kernel_rfl) (by kernel_rfl) (by kernel_rfl) (by kernel_rfl) (fun _ _ _ h => h) (.inl ⟨by kernel_rfl, fun W' hS' => ?_⟩) ?_
      · go_simp
      refine wpAnyHI_takeW (i := 2) (v := .int .i64 (2 * (nc : Int))) (some 94) rfl rfl (by kernel_rfl) (by kernel_rfl) (by kernel_rfl) (by kernel_rfl) (fun _ _ _ h => h) (.inl ⟨by kernel_rfl, fun W' hS' => ?_⟩) ?_
      · go_simp
      refine wpAnyHI_takeW (i := 3) (v := .bool false) (some 95) rfl rfl (by kernel_rfl) (by kernel_rfl) (by kernel_rfl) (by kernel_rfl) (fun _ _ _ h => h) (.inl ⟨by kernel_rfl, fun W' hS' => ?_⟩) ?_
      · go_simp
      refine wpAnyHI_takeW (i := 4) (v := .bool false) (some 96) rfl rfl (by kernel_rfl) (by kernel_rfl) (by kernel_rfl) (by kernel_rfl) (fun _ _ _ h => h) (.inl ⟨by kernel_rfl, fun W' hS' => ?_⟩) ?_
      · go_simp
      refine wpAnyHI_takeW (i := 5) (v := undef) (some 97) rfl rfl (by kernel_rfl) (by kernel_rfl) (by kernel_rfl) (by kernel_rfl) (fun _ _ _ h => h) (.inr ⟨by kernel_rfl, rfl⟩) ?_
      refine wpAnyHI_takeW (i := 6) (v := undef) (some 98) rfl rfl (by kernel_rfl) (by kernel_rfl) (by kernel_rfl) (by kernel_rfl) (fun _ _ _ h => h) (.inr ⟨by kernel_rfl, rfl⟩) ?_
      refine wpAnyHI_takeW (i := 7) (v := undef) (some 99) rfl rfl (by kernel_rfl) (by kernel_rfl) (by kernel_rfl) (by kernel_rfl) (fun _ _ _ h => h) (.inr ⟨by kernel_rfl, rfl⟩) ?_
      refine wpAnyHI_takeW (i := 8) (v := undef) (some 100) rfl rfl (by kernel_rfl) (by kernel_rfl) (by kernel_rfl) (by kernel_rfl) (fun _ _ _ h => h) (.inr ⟨by kernel_rfl, rfl⟩) ?_
      refine wpAnyHI_takeW (i := 9) (v := undef) (some 101) rfl rfl (by kernel_rfl) (by kernel_rfl) (by kernel_rfl) (by kernel_rfl) (fun _ _ _ h => h) (.inr ⟨by kernel_rfl, rfl⟩) ?_
      refine wpAnyHI_takeW (i := 10) (v := undef) (some 102) rfl rfl (by kernel_rfl) (by kernel_rfl) (by kernel_rfl) (by kernel_rfl) (fun _ _ _ h => h) (.inr ⟨by kernel_rfl, rfl⟩) ?_
      refine wpAnyHI_takeW (i := 11) (v := undef) (some 103) rfl rfl (by kernel_rfl) (by kernel_rfl) (by kernel_rfl) (by kernel_rfl) (fun _ _ _ h => h) (.inr ⟨by kernel_rfl, rfl⟩) ?_
      refine wpAnyHI_takeW (i := 12) (v := undef) (some 104) rfl rfl (by kernel_rfl) (by kernel_rfl) (by kernel_rfl) (by kernel_rfl) (fun _ _ _ h => h) (.inr ⟨by kernel_rfl, rfl⟩) ?_
      refine wpAnyHI_takeW (i := 13) (v := .bool false) (some 105) rfl rfl (by kernel_rfl) (by kernel_rfl) (by kernel_rfl) (by kernel_rfl) (fun _ _ _ h => h) (.inl ⟨by kernel_rfl, fun W' hS' => ?_⟩) ?_
      · go_simp
      refine wpAnyHI_end (by kernel_rfl) ?_
      show KR _ _
      go_simp
      refine hKR _ _ ?_
      clear hKR KR
      have hb89 : Below w8.heap.size w8 w8.drew := below_drew w8
      obtain ⟨w9, hw9⟩ : ∃ w9, w9 = w8.drew := ⟨_, rfl⟩
      rw [← hw9] at hb89 ⊢
      clear hw9
      have hB9 := hB8.trans (hb89.mono hz8)
      have x9 := bxBelow x8 hb89 x8.lt
      have c9 := x9.cell
      have hz9 := hB9.size
      have hzz9 := hb89.size
      have H9 := Lib.hid (H8.out.below (hb89.mono hzz8) (Nat.le_refl _))
      clear hb89 x8 c8 hB8
      go_wp2_with (fail)
      have hcellQ : ∀ W', Boxed W' w.heap.size 24 (.slice A1 n c) → W'.cell? ⟨w.heap.size, 0, none⟩ = some (.slice A1 n c) := fun W' h => h.cell
      refine region_held_wp 1 (fun W' => Boxed W' w.heap.size 24 (.slice A1 n c)) (fun j => decide (j = 1 ∨ j = 2)) (by kernel_rfl) ?_
      intro KR hKR
      have hS : Boxed w9.drew w.heap.size 24 (.slice A1 n c) := bxBelow x9 (below_drew _) x9.lt
      refine wpAnyHI_takeW (i := 3) (v := .slice (some ⟨g3, 0, none⟩) nc c3') (some 110) rfl rfl (by kernel_rfl) (by kernel_rfl) (by kernel_rfl) (by kernel_rfl) (fun _ _ _ h => h) (.inl ⟨by kernel_rfl, fun W' hS' => ?_⟩) ?_
      · go_simp
      refine wpAnyHI_takeE (i := 0) (v := .agg #[.slice A1 n c]) (some 107) rfl rfl (by kernel_rfl) (by kernel_rfl) (by kernel_rfl) (by kernel_rfl) (by kernel_rfl) (fun _ _ _ h => h) hS (.inl ⟨by kernel_rfl, fun W' hS' => ?_⟩) ?_
      · have q := hcellQ W' hS'; go_simp
      refine wpAnyHI_takeE (i := 1) (v := .agg #[.slice A1 n c]) (some 108) rfl rfl (by kernel_rfl) (by kernel_rfl) (by kernel_rfl) (by kernel_rfl) (by kernel_rfl) (fun _ _ _ h => h) hS (.inl ⟨by kernel_rfl, fun W' hS' => ?_⟩) ?_
      · have q := hcellQ W' hS'; go_simp
      refine wpAnyHI_one (i := 2) rfl (by kernel_rfl) ?_
      intro K1 hK1
      go_simp
      refine ⟨trivial, (callsIn_wide.2 (Empty_any _ A1 n c h1n h5n)).mono ?_⟩
      rintro e wa ⟨ga, hga, rfl, hra, hba⟩
      have hb9a : Below w9.heap.size w9 wa := (below_drew w9).trans hba
      have hBa := hB9.trans (hb9a.mono hz9)
      have xa := bxBelow x9 hb9a x9.lt
      have hia := ints_laid (n := n) (xs := List.replicate n (0 : Int)) hra (by simp) (by omega)
      refine hK1 _ _ ⟨fun _ => xa, ?_⟩
      clear hK1 K1 hra hS hba
      refine wpAnyHI_one (i := 4) rfl (by kernel_rfl) ?_
      intro K1 hK1
      go_simp
      refine ⟨trivial, (callsIn_wide.2 (Play_any _ B1 wa.heap.size W3.heap.size A1 (some ⟨ga, 0, none⟩) (some ⟨g3, 0, none⟩) n c n n nc c3' ts (List.replicate n (0 : Int)) xr (h1.below hBa hB1) (by have := hBa.size; omega) hia (Nat.le_refl _) (H9.out.below (hb9a.mono (by omega)) (Nat.le_refl _)) (by have := hb9a.size; omega))).mono ?_⟩
      rintro e wb ⟨vb, rfl, hlb, hbb⟩
      rw [Hx.out.2.2.2.1] at hlb ⊢
      obtain ⟨Ab, mb, cb, rfl, hib⟩ := hlb
      simp only at hib ⊢
      have hb9b := hb9a.trans (hbb.mono hb9a.size)
      have hBb := hB9.trans (hb9b.mono hz9)
      have xb := bxBelow x9 hb9b x9.lt
      refine hK1 _ _ ⟨fun h => absurd h (by decide), ?_⟩
      clear hK1 K1 hia xa hb9a hBa hbb
      refine wpAnyHI_takeW (i := 5) (v := .tuple #[.slice Ab mb cb, .int .i64 (nc : Int), .int .i64 0]) (some 106) rfl rfl (by kernel_rfl) (by kernel_rfl) (by kernel_rfl) (by kernel_rfl) (fun _ _ _ h => h) (.inl ⟨by kernel_rfl, fun W' hS' => ?_⟩) ?_
      · go_simp
      refine wpAnyHI_takeW (i := 6) (v := .slice Ab mb cb) (some 112) rfl rfl (by kernel_rfl) (by kernel_rfl) (by kernel_rfl) (by kernel_rfl) (fun _ _ _ h => h) (.inl ⟨by kernel_rfl, fun W' hS' => ?_⟩) ?_
      · go_simp
      refine wpAnyHI_takeW (i := 7) (v := .int .i64 (nc : Int)) (some 113) rfl rfl (by kernel_rfl) (by kernel_rfl) (by kernel_rfl) (by kernel_rfl) (fun _ _ _ h => h) (.inl ⟨by kernel_rfl, fun W' hS' => ?_⟩) ?_
      · go_simp
      refine wpAnyHI_takeW (i := 8) (v := .int .i64 0) (some 114) rfl rfl (by kernel_rfl) (by kernel_rfl) (by kernel_rfl) (by kernel_rfl) (fun _ _ _ h => h) (.inl ⟨by kernel_rfl, fun W' hS' => ?_⟩) ?_
      · go_simp
      refine wpAnyHI_takeW (i := 9) (v := .slice Ab mb cb) (some 12) rfl rfl (by kernel_rfl) (by kernel_rfl) (by kernel_rfl) (by kernel_rfl) (fun _ _ _ h => h) (.inl ⟨by kernel_rfl, fun W' hS' => ?_⟩) ?_
      · go_simp
      refine wpAnyHI_takeW (i := 10) (v := .int .i64 (nc : Int)) (some 13) rfl rfl (by kernel_rfl) (by kernel_rfl) (by kernel_rfl) (by kernel_rfl) (fun _ _ _ h => h) (.inl ⟨by kernel_rfl, fun W' hS' => ?_⟩) ?_
      · go_simp
      refine wpAnyHI_takeW (i := 11) (v := .int .i64 0) (some 8) rfl rfl (by kernel_rfl) (by kernel_rfl) (by kernel_rfl) (by kernel_rfl) (fun _ _ _ h => h) (.inl ⟨by kernel_rfl, fun W' hS' => ?_⟩) ?_
      · go_simp
      refine wpAnyHI_end (by kernel_rfl) ?_
      show KR _ _
      refine hKR _ _ ?_
      clear hKR KR
      have cb' := xb.cell
      have hzb := hBb.size
      have hmb := hib.small
      have Hb := Lib.hid hib
      clear hib hb9b x9 c9 hB9 hcellQ
      go_wp2_with (fail)
      refine (Stated_any wb B1 wb.heap.size A1 Ab n c mb cb ts (plList q) (h1.below hBb hB1) (by omega) Hb.out (Nat.le_refl _)).mono ?_
      rintro e wd ⟨rfl, hbd⟩
      rw [Hx.out.2.2.2.2.1]
      have hBd := hBb.trans (hbd.mono hzb)
      have xd := bxBelow xb hbd xb.lt
      have cd' := xd.cell
      have hzd := hBd.size
      have hzzd := hbd.size
      have Hd := Lib.hid (Hb.out.below hbd (Nat.le_refl _))
      clear hbd xb cb' hBb
      go_wp2_with (fail)
      refine (Doom_any wd B1 wb.heap.size A1 Ab n c mb cb ts (plList q) (h1.below hBd hB1) (by omega) Hd.out hzzd (fun _ => ends_all Hv.out.1) (fun h => rends_all Hv.out.1 (nice_stated h))).mono ?_
      intro e we hde
      rw [Hx.out.2.2.2.2.2.1] at hde
      obtain ⟨Ae, ke, ce, rfl, -, hbe⟩ := hde
      have hBe := hBd.trans (hbe.mono hzd)
      clear hbe xd cd'
      go_wp2_with (fail)
      refine (Works_any _).mono ?_
      rintro e wz ⟨rfl, hbz⟩
      go_wp2_with (fail)
      go_ret
      exact ⟨rfl, hBe.trans (hbz.mono hBe.size)⟩
  case inr =>
    have hg1 : (gv == 0) = false := by simp [hg0]
    go_wp2_with (fail)
    have hck : ¬ cc = kk := by omega
    refine region_held_wp 1 (fun _ => True) (fun _ => false) (by kernel_rfl) ?_
    intro KR hKR
    refine wpAnyHI_takeW (i := 1) (v := .slice (some ⟨b7, o7, none⟩) nc cc) (some 80) rfl rfl (by kernel_rfl) (by kernel_rfl) (by kernel_rfl) (by kernel_rfl) (fun _ _ _ h => h) (.inl ⟨by kernel_rfl, fun W' hS' => ?_⟩) ?_
    · go_simp
    refine wpAnyHI_takeW (i := 2) (v := .int .i64 (kk : Int)) (some 81) rfl rfl (by kernel_rfl) (by kernel_rfl) (by kernel_rfl) (by kernel_rfl) (fun _ _ _ h => h) (.inl ⟨by kernel_rfl, fun W' hS' => ?_⟩) ?_
    · go_simp
    refine wpAnyHI_takeW (i := 3) (v := .slice (some ⟨b7, o7 + kk, none⟩) (nc - kk) (cc - kk)) (some 82) rfl rfl (by kernel_rfl) (by kernel_rfl) (by kernel_rfl) (by kernel_rfl) (fun _ _ _ h => h) (.inl ⟨by kernel_rfl, fun W' hS' => ?_⟩) ?_
    · go_simp <;> omega
    refine wpAnyHI_takeW (i := 5) (v := .slice (some ⟨b7, o7, none⟩) nc cc) (some 84) rfl rfl (by kernel_rfl) (by kernel_rfl) (by kernel_rfl) (by kernel_rfl) (fun _ _ _ h => h) (.inl ⟨by kernel_rfl, fun W' hS' => ?_⟩) ?_
    · go_simp
    refine wpAnyHI_takeW (i := 6) (v := .int .i64 (kk : Int)) (some 85) rfl rfl (by kernel_rfl) (by kernel_rfl) (by kernel_rfl) (by kernel_rfl) (fun _ _ _ h => h) (.inl ⟨by kernel_rfl, fun W' hS' => ?_⟩) ?_
    · go_simp
    refine wpAnyHI_takeW (i := 7) (v := .slice (some ⟨b7, o7, none⟩) kk cc) (some 86) rfl rfl (by kernel_rfl) (by kernel_rfl) (by kernel_rfl) (by kernel_rfl) (fun _ _ _ h => h) (.inl ⟨by kernel_rfl, fun W' hS' => ?_⟩) ?_
    · go_simp <;> omega
    refine wpAnyHI_one (i := 0) rfl (by kernel_rfl) ?_
    intro K1 hK1
    go_simp
    obtain ⟨N0, hN0⟩ : ∃ N0, N0 = w6.heap.size := ⟨_, rfl⟩
    obtain ⟨W1, hW1⟩ : ∃ W1, W1 = (w6.alloc (.cells #[] 3)).drew := ⟨_, rfl⟩
    rw [← hW1]
    have hr0 : W1.ownsRow N0 3 1 (.slice (some ⟨N0, 0, none⟩) 0 0) 0 [] := by
      have := World.ownsRow_made (base := N0) (e := 3) (size := 1) w6 #[] 0 (by omega) (by simp [maxLen]) rfl
      rw [← hN0] at this
      rw [hW1]
      exact this
    have hb01 : Below N0 w6 W1 := by
      have h := ((Below.refl w6.heap.size w6).alloc (Nat.le_refl _) (.cells #[] 3)).trans ((below_drew (w6.alloc (.cells #[] 3))).mono (by simp))
      rw [hW1, hN0]
      exact h
    have hic1 := (Hc.out.2.1.below H6.out (Nat.le_refl _)).below hb01 (by omega)
    have hz1' : W1.heap.size = N0 + 1 := by rw [hW1, hN0]; simp
    refine hK1 _ _ ⟨fun _ => trivial, ?_⟩
    clear hK1 K1
    refine wpAnyHI_one (i := 4) rfl (by kernel_rfl) ?_
    intro K1 hK1
    refine oneIn_append_own W1 (by kernel_rfl) (.tmp 79) (.tmp 82) 22 (by rfl) N0 3 i0 (.int .i64 0) 1 8 Tryz.underlying22 hi hz0 hz1 hz2' rfl (by decide) (.slice (some ⟨N0, 0, none⟩) 0 0) 0 [] (by rw [hN0]; kernel_rfl) hr0 ⟨b7, o7 + kk, none⟩ (nc - kk) (cc - kk) (((cs.drop kk).take (nc - kk)).map (.int .i64)) (by kernel_rfl) (by simp [Hc.out.2.2.2]) (ints_part hic1 (by omega)) (ones_int _) (by simp only [maxLen]; omega) (by omega) (by omega) ?_
    intro v2 W2 hr2 hg2
    refine hK1 _ _ ⟨fun _ => trivial, ?_⟩
    clear hK1 K1
    rw [Nat.zero_add, List.nil_append] at hr2
    have hb12 : Below N0 W1 W2 := (Below.refl _ _).grown hg2 (by omega) (fun r e => (hr0.lt r e).1)
    have hic2 := hic1.below hb12 (by omega)
    have hz12 := hb12.size
    obtain ⟨g2, c2', rfl⟩ := ownsRow_pos hr2 (by omega)
    refine wpAnyHI_one (i := 8) rfl (by kernel_rfl) ?_
    intro K1 hK1
    refine oneIn_append_own W2 (by kernel_rfl) (.tmp 83) (.tmp 86) 22 (by rfl) N0 3 i0 (.int .i64 0) 1 8 Tryz.underlying22 hi hz0 hz1 hz2' rfl (by decide) (.slice (some ⟨g2, 0, none⟩) (nc - kk) c2') (nc - kk) (((cs.drop kk).take (nc - kk)).map (.int .i64)) (by kernel_rfl) hr2 ⟨b7, o7, none⟩ kk cc (((cs.drop 0).take kk).map (.int .i64)) (by kernel_rfl) (by simp [Hc.out.2.2.2]; omega) (ints_part hic2 (by omega)) (ones_int _) (by simp only [maxLen]; omega) (by omega) (by omega) ?_
    intro v3 W3 hr3 hg3
    refine hK1 _ _ ⟨fun _ => trivial, ?_⟩
    clear hK1 K1
    have hb23 : Below N0 W2 W3 := (Below.refl _ _).grown hg3 (by omega) (fun r e => (hr2.lt r e).1)
    have hz23 := hb23.size
    rw [show nc - kk + kk = nc by omega] at hr3
    obtain ⟨g3, c3', rfl⟩ := ownsRow_pos hr3 (by omega)
    obtain ⟨xr, hxr⟩ : ∃ xr, xr = cs.drop kk ++ cs.take kk := ⟨_, rfl⟩
    have hxe : ((cs.drop kk).take (nc - kk)).map (Value.int .i64) ++ ((cs.drop 0).take kk).map (Value.int .i64) = xr.map (.int .i64) := by
      rw [hxr, List.map_append, List.drop_zero, List.take_of_length_le (show (cs.drop kk).length ≤ nc - kk by rw [List.length_drop, Hc.out.2.2.2]; exact Nat.le_refl _)]
    rw [hxe] at hr3
    have hi3 := row_ints hr3 (by omega)
    have hb63 : Below N0 w6 W3 := hb01.trans (hb12.trans hb23)
    rw [hN0] at hb63
    have hB3 := hB6.trans (hb63.mono hz6)
    have x3 := bxBelow x6 hb63 x6.lt
    refine wpAnyHI_takeW (i := 9) (v := .slice (some ⟨g3, 0, none⟩) nc c3') (some 11) rfl rfl (by kernel_rfl) (by kernel_rfl) (by kernel_rfl) (by kernel_rfl) (fun _ _ _ h => h) (.inl ⟨by kernel_rfl, fun W' hS' => ?_⟩) ?_
    · go_simp
    refine wpAnyHI_end (by kernel_rfl) ?_
    show KR _ _
    refine hKR _ _ ?_
    clear hKR KR
    have c3 := x3.cell
    have hz3 := hB3.size
    have hx : ∃ q, Cyc ts q xr ∧ q ∉ dq ts := by
      have h := Hc.out.1
      rw [← List.take_append_drop kk cs] at h
      obtain ⟨q, -, -, h3⟩ := h.turn Hv.out.1
      rw [hxr]
      exact ⟨q, h3, h3.safe Hv.out.1⟩
    obtain ⟨q, hq, hqd⟩ := hx
    have hxl : xr.length = nc := by rw [hxr]; simp [Hc.out.2.2.2]; omega
    have hcx : checkCircleF ts xr = 0 := cc_ok Hv.out.2.1 hq (by omega)
    have hcx2 : 2 * nc ≤ 1000 → checkCircleF ts (xr ++ xr) = 0 := fun h => cc_ok Hv.out.2.1 hq.twice (by simp; omega)
    have hpl : playR ts (List.replicate n (0 : Int)) xr = (plList q, (nc : Int), 0) := by
      rw [play_of (stated_zeros Hv.out.2.1 Hv.out.2.2.symm) (by omega) (wins_iff.2 hq.wins), plOf_laid ts Hv.out.2.2.symm, (hq.empty Hv.out.1).1, hxl]
    have hqs := stated_nice Hv.out.2.1 hq.nice
    have hqp := (nice_list Hv.out.1 hq.nice).2
    have hdm : doomR ts (plList q) = ([], 5) := (either_safe hqs (by rw [hqp]; exact hqd)).1
    have Hx := Lib.hid (And.intro hi3 (And.intro hcx (And.intro hcx2 (And.intro hpl (And.intro hqs (And.intro hdm (And.intro hxl hr3)))))))
    clear hi3 hcx hcx2 hpl hqs hqp hdm hq hqd hxr hxe hr3 hr2 hr0 hg2 hg3 hb01 hb12 hb23 hb63 hic1 hic2 hN0 hW1 hz1' hz12 hz23 x6 c6 hB6 hxl
    go_wp2_with (fail)
    refine (CheckCircle_any W3 B1 W3.heap.size A1 (some ⟨g3, 0, none⟩) n c nc c3' ts xr (h1.below hB3 hB1) (by omega) Hx.out.1 (Nat.le_refl _)).mono ?_
    rintro e w8 ⟨rfl, hb8⟩
    rw [Hx.out.2.1]
    have hB8 := hB3.trans (hb8.mono hz3)
    have x8 := bxBelow x3 hb8 x3.lt
    have c8 := x8.cell
    have hz8 := hB8.size
    have hzz8 := hb8.size
    have H8 := Lib.hid (Hx.out.1.below hb8 (Nat.le_refl _))
    clear x3 c3 hB3 hb8
    have hw2 : IntKind.i64.wrap (2 * (nc : Int)) = 2 * (nc : Int) := by rw [IntKind.wrap_i64]; omega
    go_wp2_with (fail)
    obtain ⟨w9, hw9⟩ : ∃ w9 : World, Below w.heap.size w w9 ∧ Boxed w9 w.heap.size 24 (.slice A1 n c) ∧ IntsAt w9 w9.heap.size (some ⟨g3, 0, none⟩) nc xr := ⟨w8, hB8, x8, (H8.out).more hzz8⟩
    clear hw9 w9
    by_cases h2n : 2 * nc ≤ 1000
    case pos =>
      have hle : 2 * (nc : Int) ≤ 1000 := by omega
      have hcellH : ∀ W', Boxed W' w.heap.size 24 (.slice A1 n c) → W'.cell? ⟨w.heap.size, 0, none⟩ = some (.slice A1 n c) := fun W' h => h.cell
      refine region_held_wp 1 (fun W' => Boxed W' w.heap.size 24 (.slice A1 n c)) (fun j => decide (j = 6 ∨ j = 8 ∨ j = 10)) (by kernel_rfl) ?_
      intro KR hKR
      have hS : Boxed w8.drew w.heap.size 24 (.slice A1 n c) := bxBelow x8 (below_drew _) x8.lt
      refine wpAnyHI_takeW (i := 0) (v := .slice (some ⟨b7, o7, none⟩) nc cc) (some 92) rfl rfl (by kernel_rfl) (by kernel_rfl) (by kernel_rfl) (by kernel_rfl) (fun _ _ _ h => h) (.inl ⟨by kernel_rfl, fun W' hS' => ?_⟩) ?_
      · go_simp
      refine wpAnyHI_takeW (i := 1) (v := .int .i64 (nc : Int)) (some 93) rfl rfl (by kernel_rfl) (by kernel_rfl) (by kernel_rfl) (by kernel_rfl) (fun _ _ _ h => h) (.inl ⟨by kernel_rfl, fun W' hS' => ?_⟩) ?_
      · go_simp
      refine wpAnyHI_takeW (i := 2) (v := .int .i64 (2 * (nc : Int))) (some 94) rfl rfl (by kernel_rfl) (by kernel_rfl) (by kernel_rfl) (by kernel_rfl) (fun _ _ _ h => h) (.inl ⟨by kernel_rfl, fun W' hS' => ?_⟩) ?_
      · go_simp
      refine wpAnyHI_takeW (i := 3) (v := .bool true) (some 95) rfl rfl (by kernel_rfl) (by kernel_rfl) (by kernel_rfl) (by kernel_rfl) (fun _ _ _ h => h) (.inl ⟨by kernel_rfl, fun W' hS' => ?_⟩) ?_
      · go_simp
      refine wpAnyHI_takeW (i := 4) (v := .bool true) (some 96) rfl rfl (by kernel_rfl) (by kernel_rfl) (by kernel_rfl) (by kernel_rfl) (fun _ _ _ h => h) (.inl ⟨by kernel_rfl, fun W' hS' => ?_⟩) ?_
      · go_simp
      refine wpAnyHI_takeW (i := 7) (v := .slice (some ⟨g3, 0, none⟩) nc c3') (some 99) rfl rfl (by kernel_rfl) (by kernel_rfl) (by kernel_rfl) (by kernel_rfl) (fun _ _ _ h => h) (.inl ⟨by kernel_rfl, fun W' hS' => ?_⟩) ?_
      · go_simp
      refine wpAnyHI_takeW (i := 9) (v := .slice (some ⟨g3, 0, none⟩) nc c3') (some 101) rfl rfl (by kernel_rfl) (by kernel_rfl) (by kernel_rfl) (by kernel_rfl) (fun _ _ _ h => h) (.inl ⟨by kernel_rfl, fun W' hS' => ?_⟩) ?_
      · go_simp
      refine wpAnyHI_takeE (i := 5) (v := .agg #[.slice A1 n c]) (some 97) rfl rfl (by kernel_rfl) (by kernel_rfl) (by kernel_rfl) (by kernel_rfl) (by kernel_rfl) (fun _ _ _ h => h) hS (.inl ⟨by kernel_rfl, fun W' hS' => ?_⟩) ?_
      · have q := hcellH W' hS'; go_simp
      refine wpAnyHI_one (i := 6) rfl (by kernel_rfl) ?_
      intro K1 hK1
      go_simp
      obtain ⟨N0, hN0⟩ : ∃ N0, N0 = w8.heap.size := ⟨_, rfl⟩
      obtain ⟨W1, hW1⟩ : ∃ W1, W1 = (w8.alloc (.cells #[] 3)).drew := ⟨_, rfl⟩
      rw [← hW1]
      have hr0 : W1.ownsRow N0 3 1 (.slice (some ⟨N0, 0, none⟩) 0 0) 0 [] := by
        have := World.ownsRow_made (base := N0) (e := 3) (size := 1) w8 #[] 0 (by omega) (by simp [maxLen]) rfl
        rw [← hN0] at this
        rw [hW1]
        exact this
      have hb01 : Below N0 w8 W1 := by
        have h := ((Below.refl w8.heap.size w8).alloc (Nat.le_refl _) (.cells #[] 3)).trans ((below_drew (w8.alloc (.cells #[] 3))).mono (by simp))
        rw [hW1, hN0]
        exact h
      have hic1 := H8.out.below hb01 (by omega)
      have hz1' : W1.heap.size = N0 + 1 := by rw [hW1, hN0]; simp
      have hS1 : Boxed W1 w.heap.size 24 (.slice A1 n c) := bxBelow x8 hb01 (by rw [hN0]; exact x8.lt)
      refine hK1 _ _ ⟨fun _ => hS1, ?_⟩
      clear hK1 K1
      refine wpAnyHI_one (i := 8) rfl (by kernel_rfl) ?_
      intro K1 hK1
      refine oneIn_append_own W1 (by kernel_rfl) (.tmp 98) (.tmp 99) 22 (by rfl) N0 3 i0 (.int .i64 0) 1 8 Tryz.underlying22 hi hz0 hz1 hz2' rfl (by decide) (.slice (some ⟨N0, 0, none⟩) 0 0) 0 [] (by rw [hN0]; kernel_rfl) hr0 ⟨g3, 0 + 0, none⟩ nc c3' (((xr.drop 0).take nc).map (.int .i64)) (by kernel_rfl) (by simp [Hx.out.2.2.2.2.2.2.1]) (ints_part hic1 (by omega)) (ones_int _) (by simp only [maxLen]; omega) (by omega) (by omega) ?_
      intro v2 W2 hr2 hg2
      rw [Nat.zero_add, List.nil_append] at hr2
      have hb12 : Below N0 W1 W2 := (Below.refl _ _).grown hg2 (by omega) (fun r e => (hr0.lt r e).1)
      have hic2 := hic1.below hb12 (by omega)
      have hz12 := hb12.size
      have hS2 : Boxed W2 w.heap.size 24 (.slice A1 n c) := bxBelow hS1 hb12 (by rw [hN0]; exact x8.lt)
      refine hK1 _ _ ⟨fun _ => hS2, ?_⟩
      clear hK1 K1
      obtain ⟨g2, c2', rfl⟩ := ownsRow_pos hr2 (by omega)
      refine wpAnyHI_one (i := 10) rfl (by kernel_rfl) ?_
      intro K1 hK1
      refine oneIn_append_own W2 (by kernel_rfl) (.tmp 100) (.tmp 101) 22 (by rfl) N0 3 i0 (.int .i64 0) 1 8 Tryz.underlying22 hi hz0 hz1 hz2' rfl (by decide) (.slice (some ⟨g2, 0, none⟩) nc c2') nc (((xr.drop 0).take nc).map (.int .i64)) (by kernel_rfl) hr2 ⟨g3, 0 + 0, none⟩ nc c3' (((xr.drop 0).take nc).map (.int .i64)) (by kernel_rfl) (by simp [Hx.out.2.2.2.2.2.2.1]) (ints_part hic2 (by omega)) (ones_int _) (by simp only [maxLen]; omega) (by omega) (by omega) ?_
      intro v3 W3' hr3 hg3
      have hb23 : Below N0 W2 W3' := (Below.refl _ _).grown hg3 (by omega) (fun r e => (hr2.lt r e).1)
      have hz23 := hb23.size
      have hS3 : Boxed W3' w.heap.size 24 (.slice A1 n c) := bxBelow hS2 hb23 (by rw [hN0]; exact x8.lt)
      refine hK1 _ _ ⟨fun _ => hS3, ?_⟩
      clear hK1 K1
      obtain ⟨g4, c4', rfl⟩ := ownsRow_pos hr3 (by omega)
      have hxe : ((xr.drop 0).take nc).map (Value.int .i64) ++ ((xr.drop 0).take nc).map (Value.int .i64) = (xr ++ xr).map (.int .i64) := by
        rw [List.map_append, List.drop_zero, List.take_of_length_le (by rw [Hx.out.2.2.2.2.2.2.1]; exact Nat.le_refl _)]
      rw [hxe] at hr3
      have hi3 := row_ints hr3 (by omega)
      have hb83 : Below N0 w8 W3' := hb01.trans (hb12.trans hb23)
      rw [hN0] at hb83
      have hB3 := hB8.trans (hb83.mono hz8)
      refine wpAnyHI_one (i := 11) rfl (by kernel_rfl) ?_
      intro K1 hK1
      go_simp
      refine ⟨trivial, (callsIn_wide.2 (CheckCircle_any W3' B1 W3'.heap.size A1 (some ⟨g4, 0, none⟩) n c (nc + nc) c4' ts (xr ++ xr) (h1.below hB3 hB1) (by have := hB3.size; omega) hi3 (Nat.le_refl _))).mono ?_⟩
      rintro e w9 ⟨rfl, hb9⟩
      rw [Hx.out.2.2.1 h2n]
      have hb89 : Below w8.heap.size w8 w9 := hb83.trans (hb9.mono hb83.size)
      refine hK1 _ _ ⟨fun h => absurd h (by decide), ?_⟩
      clear hK1 K1 hS hS1 hS2 hS3 hr0 hr2 hr3 hg2 hg3 hb01 hb12 hb23 hic1 hic2 hi3 hxe hb83 hB3 hb9 hN0 hW1 hz1' hz12 hz23
      refine wpAnyHI_takeW (i := 12) (v := .bool false) (some 104) rfl rfl (by kernel_rfl) (by kernel_rfl) (by kernel_rfl) (by kernel_rfl) (fun _ _ _ h => h) (.inl ⟨by kernel_rfl, fun W' hS' => ?_⟩) ?_
      · go_simp
      refine wpAnyHI_takeW (i := 13) (v := .bool false) (some 105) rfl rfl (by kernel_rfl) (by kernel_rfl) (by kernel_rfl) (by kernel_rfl) (fun _ _ _ h => h) (.inl ⟨by kernel_rfl, fun W' hS' => ?_⟩) ?_
      · go_simp
      refine wpAnyHI_end (by kernel_rfl) ?_
      show KR _ _
      refine hKR _ _ ?_
      clear hKR KR
      have hB9 := hB8.trans (hb89.mono hz8)
      have x9 := bxBelow x8 hb89 x8.lt
      have c9 := x9.cell
      have hz9 := hB9.size
      have hzz9 := hb89.size
      have H9 := Lib.hid (H8.out.below (hb89.mono hzz8) (Nat.le_refl _))
      clear hb89 x8 c8 hB8
      go_wp2_with (fail)
      have hcellQ : ∀ W', Boxed W' w.heap.size 24 (.slice A1 n c) → W'.cell? ⟨w.heap.size, 0, none⟩ = some (.slice A1 n c) := fun W' h => h.cell
      refine region_held_wp 1 (fun W' => Boxed W' w.heap.size 24 (.slice A1 n c)) (fun j => decide (j = 1 ∨ j = 2)) (by kernel_rfl) ?_
      intro KR hKR
      have hS : Boxed w9.drew w.heap.size 24 (.slice A1 n c) := bxBelow x9 (below_drew _) x9.lt
      refine wpAnyHI_takeW (i := 3) (v := .slice (some ⟨g3, 0, none⟩) nc c3') (some 110) rfl rfl (by kernel_rfl) (by kernel_rfl) (by kernel_rfl) (by kernel_rfl) (fun _ _ _ h => h) (.inl ⟨by kernel_rfl, fun W' hS' => ?_⟩) ?_
      · go_simp
      refine wpAnyHI_takeE (i := 0) (v := .agg #[.slice A1 n c]) (some 107) rfl rfl (by kernel_rfl) (by kernel_rfl) (by kernel_rfl) (by kernel_rfl) (by kernel_rfl) (fun _ _ _ h => h) hS (.inl ⟨by kernel_rfl, fun W' hS' => ?_⟩) ?_
      · have q := hcellQ W' hS'; go_simp
      refine wpAnyHI_takeE (i := 1) (v := .agg #[.slice A1 n c]) (some 108) rfl rfl (by kernel_rfl) (by kernel_rfl) (by kernel_rfl) (by kernel_rfl) (by kernel_rfl) (fun _ _ _ h => h) hS (.inl ⟨by kernel_rfl, fun W' hS' => ?_⟩) ?_
      · have q := hcellQ W' hS'; go_simp
      refine wpAnyHI_one (i := 2) rfl (by kernel_rfl) ?_
      intro K1 hK1
      go_simp
      refine ⟨trivial, (callsIn_wide.2 (Empty_any _ A1 n c h1n h5n)).mono ?_⟩
      rintro e wa ⟨ga, hga, rfl, hra, hba⟩
      have hb9a : Below w9.heap.size w9 wa := (below_drew w9).trans hba
      have hBa := hB9.trans (hb9a.mono hz9)
      have xa := bxBelow x9 hb9a x9.lt
      have hia := ints_laid (n := n) (xs := List.replicate n (0 : Int)) hra (by simp) (by omega)
      refine hK1 _ _ ⟨fun _ => xa, ?_⟩
      clear hK1 K1 hra hS hba
      refine wpAnyHI_one (i := 4) rfl (by kernel_rfl) ?_
      intro K1 hK1
      go_simp
      refine ⟨trivial, (callsIn_wide.2 (Play_any _ B1 wa.heap.size W3.heap.size A1 (some ⟨ga, 0, none⟩) (some ⟨g3, 0, none⟩) n c n n nc c3' ts (List.replicate n (0 : Int)) xr (h1.below hBa hB1) (by have := hBa.size; omega) hia (Nat.le_refl _) (H9.out.below (hb9a.mono (by omega)) (Nat.le_refl _)) (by have := hb9a.size; omega))).mono ?_⟩
      rintro e wb ⟨vb, rfl, hlb, hbb⟩
      rw [Hx.out.2.2.2.1] at hlb ⊢
      obtain ⟨Ab, mb, cb, rfl, hib⟩ := hlb
      simp only at hib ⊢
      have hb9b := hb9a.trans (hbb.mono hb9a.size)
      have hBb := hB9.trans (hb9b.mono hz9)
      have xb := bxBelow x9 hb9b x9.lt
      refine hK1 _ _ ⟨fun h => absurd h (by decide), ?_⟩
      clear hK1 K1 hia xa hb9a hBa hbb
      refine wpAnyHI_takeW (i := 5) (v := .tuple #[.slice Ab mb cb, .int .i64 (nc : Int), .int .i64 0]) (some 106) rfl rfl (by kernel_rfl) (by kernel_rfl) (by kernel_rfl) (by kernel_rfl) (fun _ _ _ h => h) (.inl ⟨by kernel_rfl, fun W' hS' => ?_⟩) ?_
      · go_simp
      refine wpAnyHI_takeW (i := 6) (v := .slice Ab mb cb) (some 112) rfl rfl (by kernel_rfl) (by kernel_rfl) (by kernel_rfl) (by kernel_rfl) (fun _ _ _ h => h) (.inl ⟨by kernel_rfl, fun W' hS' => ?_⟩) ?_
      · go_simp
      refine wpAnyHI_takeW (i := 7) (v := .int .i64 (nc : Int)) (some 113) rfl rfl (by kernel_rfl) (by kernel_rfl) (by kernel_rfl) (by kernel_rfl) (fun _ _ _ h => h) (.inl ⟨by kernel_rfl, fun W' hS' => ?_⟩) ?_
      · go_simp
      refine wpAnyHI_takeW (i := 8) (v := .int .i64 0) (some 114) rfl rfl (by kernel_rfl) (by kernel_rfl) (by kernel_rfl) (by kernel_rfl) (fun _ _ _ h => h) (.inl ⟨by kernel_rfl, fun W' hS' => ?_⟩) ?_
      · go_simp
      refine wpAnyHI_takeW (i := 9) (v := .slice Ab mb cb) (some 12) rfl rfl (by kernel_rfl) (by kernel_rfl) (by kernel_rfl) (by kernel_rfl) (fun _ _ _ h => h) (.inl ⟨by kernel_rfl, fun W' hS' => ?_⟩) ?_
      · go_simp
      refine wpAnyHI_takeW (i := 10) (v := .int .i64 (nc : Int)) (some 13) rfl rfl (by kernel_rfl) (by kernel_rfl) (by kernel_rfl) (by kernel_rfl) (fun _ _ _ h => h) (.inl ⟨by kernel_rfl, fun W' hS' => ?_⟩) ?_
      · go_simp
      refine wpAnyHI_takeW (i := 11) (v := .int .i64 0) (some 8) rfl rfl (by kernel_rfl) (by kernel_rfl) (by kernel_rfl) (by kernel_rfl) (fun _ _ _ h => h) (.inl ⟨by kernel_rfl, fun W' hS' => ?_⟩) ?_
      · go_simp
      refine wpAnyHI_end (by kernel_rfl) ?_
      show KR _ _
      refine hKR _ _ ?_
      clear hKR KR
      have cb' := xb.cell
      have hzb := hBb.size
      have hmb := hib.small
      have Hb := Lib.hid hib
      clear hib hb9b x9 c9 hB9 hcellQ
      go_wp2_with (fail)
      refine (Stated_any wb B1 wb.heap.size A1 Ab n c mb cb ts (plList q) (h1.below hBb hB1) (by omega) Hb.out (Nat.le_refl _)).mono ?_
      rintro e wd ⟨rfl, hbd⟩
      rw [Hx.out.2.2.2.2.1]
      have hBd := hBb.trans (hbd.mono hzb)
      have xd := bxBelow xb hbd xb.lt
      have cd' := xd.cell
      have hzd := hBd.size
      have hzzd := hbd.size
      have Hd := Lib.hid (Hb.out.below hbd (Nat.le_refl _))
      clear hbd xb cb' hBb
      go_wp2_with (fail)
      refine (Doom_any wd B1 wb.heap.size A1 Ab n c mb cb ts (plList q) (h1.below hBd hB1) (by omega) Hd.out hzzd (fun _ => ends_all Hv.out.1) (fun h => rends_all Hv.out.1 (nice_stated h))).mono ?_
      intro e we hde
      rw [Hx.out.2.2.2.2.2.1] at hde
      obtain ⟨Ae, ke, ce, rfl, -, hbe⟩ := hde
      have hBe := hBd.trans (hbe.mono hzd)
      clear hbe xd cd'
      go_wp2_with (fail)
      refine (Works_any _).mono ?_
      rintro e wz ⟨rfl, hbz⟩
      go_wp2_with (fail)
      go_ret
      exact ⟨rfl, hBe.trans (hbz.mono hBe.size)⟩
    case neg =>
      have hle : ¬ 2 * (nc : Int) ≤ 1000 := by omega
      refine region_held_wp 1 (fun _ => True) (fun _ => false) (by kernel_rfl) ?_
      intro KR hKR
      refine wpAnyHI_takeW (i := 0) (v := .slice (some ⟨b7, o7, none⟩) nc cc) (some 92) rfl rfl (by kernel_rfl) (by kernel_rfl) (by kernel_rfl) (by kernel_rfl) (fun _ _ _ h => h) (.inl ⟨by kernel_rfl, fun W' hS' => ?_⟩) ?_
      · go_simp
      refine wpAnyHI_takeW (i := 1) (v := .int .i64 (nc : Int)) (some 93) rfl rfl (by kernel_rfl) (by kernel_rfl) (by kernel_rfl) (by kernel_rfl) (fun _ _ _ h => h) (.inl ⟨by kernel_rfl, fun W' hS' => ?_⟩) ?_
      · go_simp
      refine wpAnyHI_takeW (i := 2) (v := .int .i64 (2 * (nc : Int))) (some 94) rfl rfl (by kernel_rfl) (by kernel_rfl) (by kernel_rfl) (by kernel_rfl) (fun _ _ _ h => h) (.inl ⟨by kernel_rfl, fun W' hS' => ?_⟩) ?_
      · go_simp
      refine wpAnyHI_takeW (i := 3) (v := .bool false) (some 95) rfl rfl (by kernel_rfl) (by kernel_rfl) (by kernel_rfl) (by kernel_rfl) (fun _ _ _ h => h) (.inl ⟨by kernel_rfl, fun W' hS' => ?_⟩) ?_
      · go_simp
      refine wpAnyHI_takeW (i := 4) (v := .bool false) (some 96) rfl rfl (by kernel_rfl) (by kernel_rfl) (by kernel_rfl) (by kernel_rfl) (fun _ _ _ h => h) (.inl ⟨by kernel_rfl, fun W' hS' => ?_⟩) ?_
      · go_simp
      refine wpAnyHI_takeW (i := 5) (v := undef) (some 97) rfl rfl (by kernel_rfl) (by kernel_rfl) (by kernel_rfl) (by kernel_rfl) (fun _ _ _ h => h) (.inr ⟨by kernel_rfl, rfl⟩) ?_
      refine wpAnyHI_takeW (i := 6) (v := undef) (some 98) rfl rfl (by kernel_rfl) (by kernel_rfl) (by kernel_rfl) (by kernel_rfl) (fun _ _ _ h => h) (.inr ⟨by kernel_rfl, rfl⟩) ?_
      refine wpAnyHI_takeW (i := 7) (v := undef) (some 99) rfl rfl (by kernel_rfl) (by kernel_rfl) (by kernel_rfl) (by kernel_rfl) (fun _ _ _ h => h) (.inr ⟨by kernel_rfl, rfl⟩) ?_
      refine wpAnyHI_takeW (i := 8) (v := undef) (some 100) rfl rfl (by kernel_rfl) (by kernel_rfl) (by kernel_rfl) (by kernel_rfl) (fun _ _ _ h => h) (.inr ⟨by kernel_rfl, rfl⟩) ?_
      refine wpAnyHI_takeW (i := 9) (v := undef) (some 101) rfl rfl (by kernel_rfl) (by kernel_rfl) (by kernel_rfl) (by kernel_rfl) (fun _ _ _ h => h) (.inr ⟨by kernel_rfl, rfl⟩) ?_
      refine wpAnyHI_takeW (i := 10) (v := undef) (some 102) rfl rfl (by kernel_rfl) (by kernel_rfl) (by kernel_rfl) (by kernel_rfl) (fun _ _ _ h => h) (.inr ⟨by kernel_rfl, rfl⟩) ?_
      refine wpAnyHI_takeW (i := 11) (v := undef) (some 103) rfl rfl (by kernel_rfl) (by kernel_rfl) (by kernel_rfl) (by kernel_rfl) (fun _ _ _ h => h) (.inr ⟨by kernel_rfl, rfl⟩) ?_
      refine wpAnyHI_takeW (i := 12) (v := undef) (some 104) rfl rfl (by kernel_rfl) (by kernel_rfl) (by kernel_rfl) (by kernel_rfl) (fun _ _ _ h => h) (.inr ⟨by kernel_rfl, rfl⟩) ?_
      refine wpAnyHI_takeW (i := 13) (v := .bool false) (some 105) rfl rfl (by kernel_rfl) (by kernel_rfl) (by kernel_rfl) (by kernel_rfl) (fun _ _ _ h => h) (.inl ⟨by kernel_rfl, fun W' hS' => ?_⟩) ?_
      · go_simp
      refine wpAnyHI_end (by kernel_rfl) ?_
      show KR _ _
      go_simp
      refine hKR _ _ ?_
      clear hKR KR
      have hb89 : Below w8.heap.size w8 w8.drew := below_drew w8
      obtain ⟨w9, hw9⟩ : ∃ w9, w9 = w8.drew := ⟨_, rfl⟩
      rw [← hw9] at hb89 ⊢
      clear hw9
      have hB9 := hB8.trans (hb89.mono hz8)
      have x9 := bxBelow x8 hb89 x8.lt
      have c9 := x9.cell
      have hz9 := hB9.size
      have hzz9 := hb89.size
      have H9 := Lib.hid (H8.out.below (hb89.mono hzz8) (Nat.le_refl _))
      clear hb89 x8 c8 hB8
      go_wp2_with (fail)
      have hcellQ : ∀ W', Boxed W' w.heap.size 24 (.slice A1 n c) → W'.cell? ⟨w.heap.size, 0, none⟩ = some (.slice A1 n c) := fun W' h => h.cell
      refine region_held_wp 1 (fun W' => Boxed W' w.heap.size 24 (.slice A1 n c)) (fun j => decide (j = 1 ∨ j = 2)) (by kernel_rfl) ?_
      intro KR hKR
      have hS : Boxed w9.drew w.heap.size 24 (.slice A1 n c) := bxBelow x9 (below_drew _) x9.lt
      refine wpAnyHI_takeW (i := 3) (v := .slice (some ⟨g3, 0, none⟩) nc c3') (some 110) rfl rfl (by kernel_rfl) (by kernel_rfl) (by kernel_rfl) (by kernel_rfl) (fun _ _ _ h => h) (.inl ⟨by kernel_rfl, fun W' hS' => ?_⟩) ?_
      · go_simp
      refine wpAnyHI_takeE (i := 0) (v := .agg #[.slice A1 n c]) (some 107) rfl rfl (by kernel_rfl) (by kernel_rfl) (by kernel_rfl) (by kernel_rfl) (by kernel_rfl) (fun _ _ _ h => h) hS (.inl ⟨by kernel_rfl, fun W' hS' => ?_⟩) ?_
      · have q := hcellQ W' hS'; go_simp
      refine wpAnyHI_takeE (i := 1) (v := .agg #[.slice A1 n c]) (some 108) rfl rfl (by kernel_rfl) (by kernel_rfl) (by kernel_rfl) (by kernel_rfl) (by kernel_rfl) (fun _ _ _ h => h) hS (.inl ⟨by kernel_rfl, fun W' hS' => ?_⟩) ?_
      · have q := hcellQ W' hS'; go_simp
      refine wpAnyHI_one (i := 2) rfl (by kernel_rfl) ?_
      intro K1 hK1
      go_simp
      refine ⟨trivial, (callsIn_wide.2 (Empty_any _ A1 n c h1n h5n)).mono ?_⟩
      rintro e wa ⟨ga, hga, rfl, hra, hba⟩
      have hb9a : Below w9.heap.size w9 wa := (below_drew w9).trans hba
      have hBa := hB9.trans (hb9a.mono hz9)
      have xa := bxBelow x9 hb9a x9.lt
      have hia := ints_laid (n := n) (xs := List.replicate n (0 : Int)) hra (by simp) (by omega)
      refine hK1 _ _ ⟨fun _ => xa, ?_⟩
      clear hK1 K1 hra hS hba
      refine wpAnyHI_one (i := 4) rfl (by kernel_rfl) ?_
      intro K1 hK1
      go_simp
      refine ⟨trivial, (callsIn_wide.2 (Play_any _ B1 wa.heap.size W3.heap.size A1 (some ⟨ga, 0, none⟩) (some ⟨g3, 0, none⟩) n c n n nc c3' ts (List.replicate n (0 : Int)) xr (h1.below hBa hB1) (by have := hBa.size; omega) hia (Nat.le_refl _) (H9.out.below (hb9a.mono (by omega)) (Nat.le_refl _)) (by have := hb9a.size; omega))).mono ?_⟩
      rintro e wb ⟨vb, rfl, hlb, hbb⟩
      rw [Hx.out.2.2.2.1] at hlb ⊢
      obtain ⟨Ab, mb, cb, rfl, hib⟩ := hlb
      simp only at hib ⊢
      have hb9b := hb9a.trans (hbb.mono hb9a.size)
      have hBb := hB9.trans (hb9b.mono hz9)
      have xb := bxBelow x9 hb9b x9.lt
      refine hK1 _ _ ⟨fun h => absurd h (by decide), ?_⟩
      clear hK1 K1 hia xa hb9a hBa hbb
      refine wpAnyHI_takeW (i := 5) (v := .tuple #[.slice Ab mb cb, .int .i64 (nc : Int), .int .i64 0]) (some 106) rfl rfl (by kernel_rfl) (by kernel_rfl) (by kernel_rfl) (by kernel_rfl) (fun _ _ _ h => h) (.inl ⟨by kernel_rfl, fun W' hS' => ?_⟩) ?_
      · go_simp
      refine wpAnyHI_takeW (i := 6) (v := .slice Ab mb cb) (some 112) rfl rfl (by kernel_rfl) (by kernel_rfl) (by kernel_rfl) (by kernel_rfl) (fun _ _ _ h => h) (.inl ⟨by kernel_rfl, fun W' hS' => ?_⟩) ?_
      · go_simp
      refine wpAnyHI_takeW (i := 7) (v := .int .i64 (nc : Int)) (some 113) rfl rfl (by kernel_rfl) (by kernel_rfl) (by kernel_rfl) (by kernel_rfl) (fun _ _ _ h => h) (.inl ⟨by kernel_rfl, fun W' hS' => ?_⟩) ?_
      · go_simp
      refine wpAnyHI_takeW (i := 8) (v := .int .i64 0) (some 114) rfl rfl (by kernel_rfl) (by kernel_rfl) (by kernel_rfl) (by kernel_rfl) (fun _ _ _ h => h) (.inl ⟨by kernel_rfl, fun W' hS' => ?_⟩) ?_
      · go_simp
      refine wpAnyHI_takeW (i := 9) (v := .slice Ab mb cb) (some 12) rfl rfl (by kernel_rfl) (by kernel_rfl) (by kernel_rfl) (by kernel_rfl) (fun _ _ _ h => h) (.inl ⟨by kernel_rfl, fun W' hS' => ?_⟩) ?_
      · go_simp
      refine wpAnyHI_takeW (i := 10) (v := .int .i64 (nc : Int)) (some 13) rfl rfl (by kernel_rfl) (by kernel_rfl) (by kernel_rfl) (by kernel_rfl) (fun _ _ _ h => h) (.inl ⟨by kernel_rfl, fun W' hS' => ?_⟩) ?_
      · go_simp
      refine wpAnyHI_takeW (i := 11) (v := .int .i64 0) (some 8) rfl rfl (by kernel_rfl) (by kernel_rfl) (by kernel_rfl) (by kernel_rfl) (fun _ _ _ h => h) (.inl ⟨by kernel_rfl, fun W' hS' => ?_⟩) ?_
      · go_simp
      refine wpAnyHI_end (by kernel_rfl) ?_
      show KR _ _
      refine hKR _ _ ?_
      clear hKR KR
      have cb' := xb.cell
      have hzb := hBb.size
      have hmb := hib.small
      have Hb := Lib.hid hib
      clear hib hb9b x9 c9 hB9 hcellQ
      go_wp2_with (fail)
      refine (Stated_any wb B1 wb.heap.size A1 Ab n c mb cb ts (plList q) (h1.below hBb hB1) (by omega) Hb.out (Nat.le_refl _)).mono ?_
      rintro e wd ⟨rfl, hbd⟩
      rw [Hx.out.2.2.2.2.1]
      have hBd := hBb.trans (hbd.mono hzb)
      have xd := bxBelow xb hbd xb.lt
      have cd' := xd.cell
      have hzd := hBd.size
      have hzzd := hbd.size
      have Hd := Lib.hid (Hb.out.below hbd (Nat.le_refl _))
      clear hbd xb cb' hBb
      go_wp2_with (fail)
      refine (Doom_any wd B1 wb.heap.size A1 Ab n c mb cb ts (plList q) (h1.below hBd hB1) (by omega) Hd.out hzzd (fun _ => ends_all Hv.out.1) (fun h => rends_all Hv.out.1 (nice_stated h))).mono ?_
      intro e we hde
      rw [Hx.out.2.2.2.2.2.1] at hde
      obtain ⟨Ae, ke, ce, rfl, -, hbe⟩ := hde
      have hBe := hBd.trans (hbe.mono hzd)
      clear hbe xd cd'
      go_wp2_with (fail)
      refine (Works_any _).mono ?_
      rintro e wz ⟨rfl, hbz⟩
      go_wp2_with (fail)
      go_ret
      exact ⟨rfl, hBe.trans (hbz.mono hBe.size)⟩
end Go.Proofs.YtdpehmdmgijcmaaGreat
