/- Parts of a proof: EM. -/
import Derived.Test.YtdpehmdmgijcmaaGreatW34

/- TurnNamed: the walk. -/
namespace Go.Proofs.YtdpehmdmgijcmaaGreat
open Go.RowKit Go.Shelf

theorem row_keep' {W W' : World} {base g cap n : Nat} {e : TypeId} {xs : List Value} (h : W.ownsRow base e 1 (.slice (some ⟨g, 0, none⟩) n cap) n xs) (hh : W'.heap[g]? = W.heap[g]?) : W'.ownsRow base e 1 (.slice (some ⟨g, 0, none⟩) n cap) n xs := by
  refine ⟨h.1, ?_⟩
  rcases h.2 with ⟨he, -⟩ | ⟨g', cap', cur, he, hb, hg, hr⟩
  · cases he
  · cases he
    exact .inr ⟨g, cap, cur, rfl, hb, by rw [hh]; exact hg, hr⟩

attribute [local go_sem] Oper.semAt_some

set_option maxRecDepth 100000 in
set_option maxHeartbeats 32000000 in
theorem TurnNamed_any (w : World) (B1 B2 B3 : Nat) (A1 A2 A3 : Option Addr) (n c m d k f : Nat) (ts bs rs : List Int) (h1 : IntsAt w B1 A1 n ts) (hB1 : B1 ≤ w.heap.size) (h2 : U8At w B2 A2 m bs) (hB2 : B2 ≤ w.heap.size) (h3 : U8At w B3 A3 k rs) (hB3 : B3 ≤ w.heap.size) :
    Calls Tryz.prog 9 #[.agg #[.slice A1 n c], .slice A2 m d, .slice A3 k f] w fun e w' => e = .returned (.bool true) ∧ Below w.heap.size w w' := by
  obtain ⟨i0, hi, hz0, hz1, hz2'⟩ := info_parts infoInt
  have hb0 : Below w.heap.size w (w.alloc (.cells #[.slice A1 n c] 24)) := (Below.refl _ w).alloc (Nat.le_refl _) _
  have x0 := Boxed.new w 24 (.slice A1 n c)
  have hm8 := h2.2.1
  have hk83 := h3.2.1
  go_enter Tryz.func9, Tryz.ntmps9
  go_wp2_with (fail)
  refine (fine_any _ B1 A1 n c ts (h1.below hb0 hB1) (by have := hb0.size; omega)).mono ?_
  rintro e w2 ⟨rfl, hb2⟩
  have hB2' := hb0.trans (hb2.mono hb0.size)
  have x2 := bxBelow x0 hb2 x0.lt
  have c2 := x2.cell
  have hz2 := hB2'.size
  clear hb0 hb2 x0
  by_cases hc : checkHallF ts = 0
  case neg =>
    rw [decide_eq_false hc]
    clear hc
    go_wp2_with (fail)
    refine (Works_any _).mono ?_
    rintro e wz ⟨rfl, hbz⟩
    go_wp2_with (fail)
    go_ret
    exact ⟨rfl, hB2'.trans (hbz.mono hB2'.size)⟩
  rw [decide_eq_true hc]
  have hv := valid_of hc
  have h1n : 1 ≤ n := by have := hv.h1; have := h1.len; omega
  have h5n : n ≤ 5 := by have := hv.h5; have := h1.len; omega
  have Hv := Lib.hid (And.intro hv (And.intro hc h1.len))
  clear hv hc
  by_cases hml : 20 < (m : Int)
  · go_wp2_with (fail)
    refine (Works_any _).mono ?_
    rintro e wz ⟨rfl, hbz⟩
    go_wp2_with (fail)
    go_ret
    exact ⟨rfl, hB2'.trans (hbz.mono hB2'.size)⟩
  by_cases hkl : 20 < (k : Int)
  · go_wp2_with (fail)
    refine (Works_any _).mono ?_
    rintro e wz ⟨rfl, hbz⟩
    go_wp2_with (fail)
    go_ret
    exact ⟨rfl, hB2'.trans (hbz.mono hB2'.size)⟩
  go_wp2_with (fail)
  refine (State_any w2 B1 B2 A1 A2 n c m d ts bs (h1.below hB2' hB1) (by omega) (h2.below hB2' hB2) (by omega) Hv.out.1).mono ?_
  rintro e w3 hpost
  obtain ⟨g, s0, hg, rfl, hrow, ⟨hs0, hok⟩, hb3⟩ := hpost
  have hB3' := hB2'.trans (hb3.mono hz2)
  have x3 := bxBelow x2 hb3 x2.lt
  have hz3 := hB3'.size
  have hst : statedF ts s0 = 0 := by
    unfold statedF
    rw [if_neg (by rw [Hv.out.2.1]; simp), if_neg (by have := Hv.out.2.2; simp; omega), if_pos hok]
  have hi3 := ints_laid hrow hs0 (by omega)
  have c3 := x3.cell
  have hlt3 := x3.lt
  obtain ⟨N0, hN0⟩ : ∃ N0, N0 = w3.heap.size := ⟨_, rfl⟩
  have H3 := Lib.hid (And.intro hst (And.intro hs0 hi3))
  have hr0 := World.ownsRow_made (base := w3.heap.size) (e := 3) (size := 1) w3 #[] 0 (Nat.le_refl _) (by simp [maxLen]) rfl
  obtain ⟨b1, o1, eA1, hb1, -⟩ := (h1.below hB3' hB1).cell (k := 0) (by omega)
  subst eA1
  have htV := (h1.below hB3' hB1).below ((Below.refl w3.heap.size w3).alloc (Nat.le_refl _) (.cells #[] 3)) (by omega)
  have htl := Hv.out.2.2
  clear hst hs0 hok hrow hi3 hb3 x2 c2 hB2' hz2
  go_wp2_with (at_builtin; refine wpList_append_own_at _ rfl _ _ 22 rfl w3.heap.size 3 i0 (.int .i64 0) 1 8 Tryz.underlying22 hi hz0 hz1 hz2' rfl (by decide) (.slice (some ⟨w3.heap.size, 0, none⟩) 0 0) 0 [] rfl hr0 ⟨b1, o1, none⟩ n c (ts.map (.int .i64)) rfl (by simp [htl]) (ints_cells htV) (ones_int _) (by simp only [maxLen]; omega) (by omega) (by simp) ?_; intro v' w4 hown4 hgrow4 _ hat4; rw [Nat.zero_add, List.nil_append] at hown4; obtain ⟨g1, cc1, rfl⟩ := ownsRow_pos hown4 h1n)
  have hb34 : Below w3.heap.size w3 w4 := ((Below.refl w3.heap.size w3).alloc (Nat.le_refl _) _).trans ((Below.refl _ _).grown hgrow4 (by simp) (fun r e => (hr0.lt r e).1))
  have hg1 := hown4.lt g1 rfl
  obtain ⟨D, hD⟩ : ∃ D, D = w4.heap.size := ⟨_, rfl⟩
  obtain ⟨W0, hW0⟩ : ∃ W0, W0 = w4.alloc (.cells #[.slice (some ⟨g1, 0, none⟩) n cc1] 24) := ⟨_, rfl⟩
  have hbW0 : Below w3.heap.size w3 W0 := by rw [hW0]; exact hb34.alloc hb34.size _
  have hB0 : Below w.heap.size w W0 := hB3'.trans (hbW0.mono hz3)
  have y0 : Boxed W0 w.heap.size 24 (.slice (some ⟨b1, o1, none⟩) n c) := bxBelow x3 hbW0 x3.lt
  have yD : Boxed W0 D 24 (.slice (some ⟨g1, 0, none⟩) n cc1) := by rw [hW0, hD]; exact Boxed.new w4 24 _
  have r1 : W0.ownsRow w3.heap.size 3 1 (.slice (some ⟨g1, 0, none⟩) n cc1) n (ts.map (.int .i64)) := row_keep' hown4 (by rw [hW0]; exact Below.heap_alloc _ _ _ hg1.2)
  have hDg : g1 < D := by rw [hD]; exact hg1.2
  have hDl : D + 1 = W0.heap.size := by rw [hW0, hD]; simp
  have hgs : g < w3.heap.size := ints_lt H3.out.2.2 (by omega)
  rw [← hW0, ← hD]
  have HW := Lib.hid (And.intro hbW0 (And.intro hB0 (And.intro yD (And.intro r1 hg1.1))))
  clear hW0 hD hown4 hgrow4 hat4 hr0 htV hb34 hbW0 hB0 yD r1 hg1 hN0 N0 x3 c3 htl
  have his0 := H3.out.2.2.below HW.out.1 (Nat.le_refl _)
  have hwz := HW.out.2.1.size
  have hzW0 := HW.out.1.size
  have hcellH : ∀ W', Boxed W' w.heap.size 24 (.slice (some ⟨b1, o1, none⟩) n c) → W'.cell? ⟨w.heap.size, 0, none⟩ = some (.slice (some ⟨b1, o1, none⟩) n c) := fun W' h => h.cell
  refine region_held_wp 1 (fun W' => Boxed W' w.heap.size 24 (.slice (some ⟨b1, o1, none⟩) n c)) (fun j => decide (j = 0 ∨ j = 2)) (by kernel_rfl) ?_
  intro KR hKR
  have hS : Boxed W0.drew w.heap.size 24 (.slice (some ⟨b1, o1, none⟩) n c) := bxBelow y0 (below_drew _) y0.lt
  refine wpAnyHI_takeW (i := 1) (v := .slice (some ⟨g, 0, none⟩) n n) (some 56) rfl rfl (by kernel_rfl) (by kernel_rfl) (by kernel_rfl) (by kernel_rfl) (fun _ _ _ h => h) (.inl ⟨by kernel_rfl, fun W' hS' => ?_⟩) ?_
  · go_simp
  refine wpAnyHI_takeE (i := 3) (v := .agg #[.slice (some ⟨b1, o1, none⟩) n c]) (some 58) rfl rfl (by kernel_rfl) (by kernel_rfl) (by kernel_rfl) (by kernel_rfl) (by kernel_rfl) (fun _ _ _ h => h) hS (.inl ⟨by kernel_rfl, fun W' hS' => ?_⟩) ?_
  · have q := hcellH W' hS'; go_simp
  refine wpAnyHI_one (i := 0) rfl (by kernel_rfl) ?_
  intro K1 hK1
  go_simp
  obtain ⟨N1, hN1⟩ : ∃ N1, N1 = W0.heap.size := ⟨_, rfl⟩
  obtain ⟨W1, hW1⟩ : ∃ W1, W1 = (W0.alloc (.cells #[] 3)).drew := ⟨_, rfl⟩
  rw [← hW1]
  have hr0 : W1.ownsRow N1 3 1 (.slice (some ⟨N1, 0, none⟩) 0 0) 0 [] := by
    have := World.ownsRow_made (base := N1) (e := 3) (size := 1) W0 #[] 0 (by omega) (by simp [maxLen]) rfl
    rw [← hN1] at this
    rw [hW1]
    exact this
  have hb01 : Below N1 W0 W1 := by
    have h := ((Below.refl W0.heap.size W0).alloc (Nat.le_refl _) (.cells #[] 3)).trans ((below_drew (W0.alloc (.cells #[] 3))).mono (by simp))
    rw [hW1, hN1]
    exact h
  have hz1W : W1.heap.size = N1 + 1 := by rw [hW1, hN1]; simp
  have hS1 : Boxed W1 w.heap.size 24 (.slice (some ⟨b1, o1, none⟩) n c) := bxBelow y0 hb01 (by have := y0.lt; omega)
  refine hK1 _ _ ⟨fun _ => hS1, ?_⟩
  clear hK1 K1
  have hsv := his0.below (hb01.mono (by omega)) (Nat.le_refl _)
  refine wpAnyHI_one (i := 2) rfl (by kernel_rfl) ?_
  intro K1 hK1
  refine oneIn_append_own W1 (by kernel_rfl) (.tmp 55) (.tmp 56) 22 (by rfl) N1 3 i0 (.int .i64 0) 1 8 Tryz.underlying22 hi hz0 hz1 hz2' rfl (by decide) (.slice (some ⟨N1, 0, none⟩) 0 0) 0 [] (by rw [hN1]; kernel_rfl) hr0 ⟨g, 0 + 0, none⟩ n n (((s0.drop 0).take n).map (.int .i64)) (by kernel_rfl) (by simp [H3.out.2.1]) (ints_part hsv (by omega)) (ones_int _) (by simp only [maxLen]; omega) (by omega) (by omega) ?_
  intro v2 W2 hr2 hg2
  rw [Nat.zero_add, List.nil_append, List.drop_zero, List.take_of_length_le (by rw [H3.out.2.1]; exact Nat.le_refl _)] at hr2
  have hb12 : Below N1 W1 W2 := (Below.refl _ _).grown hg2 (by omega) (fun r e => (hr0.lt r e).1)
  have hS2 : Boxed W2 w.heap.size 24 (.slice (some ⟨b1, o1, none⟩) n c) := bxBelow hS1 hb12 (by have := y0.lt; omega)
  obtain ⟨g2, c2, rfl⟩ := ownsRow_pos hr2 h1n
  have hg2' := hr2.lt g2 rfl
  have hb02 := hb01.trans hb12
  refine hK1 _ _ ⟨fun _ => hS2, ?_⟩
  clear hK1 K1
  refine wpAnyHI_one (i := 4) rfl (by kernel_rfl) ?_
  intro K1 hK1
  go_simp
  refine ⟨trivial, (callsIn_wide.2 (All_any _ (some ⟨b1, o1, none⟩) n c (by omega))).mono ?_⟩
  rintro e W3 ⟨v3, rfl, hr3, hb23⟩
  obtain ⟨g3, c3, rfl⟩ := ownsRow_pos hr3 h1n
  have hg3 := hr3.lt g3 rfl
  have hb03 : Below W0.heap.size W0 W3 := by
    rw [hN1] at hb02
    exact hb02.trans (hb23.mono hb02.size)
  refine hK1 _ _ ⟨fun h => absurd h (by decide), ?_⟩
  clear hK1 K1
  refine wpAnyHI_takeW (i := 5) (v := .slice (some ⟨g2, 0, none⟩) n c2) (some 9) rfl rfl (by kernel_rfl) (by kernel_rfl) (by kernel_rfl) (by kernel_rfl) (fun _ _ _ h => h) (.inl ⟨by kernel_rfl, fun W' hS' => ?_⟩) ?_
  · go_simp
  refine wpAnyHI_takeW (i := 6) (v := .slice (some ⟨g3, 0, none⟩) n c3) (some 10) rfl rfl (by kernel_rfl) (by kernel_rfl) (by kernel_rfl) (by kernel_rfl) (fun _ _ _ h => h) (.inl ⟨by kernel_rfl, fun W' hS' => ?_⟩) ?_
  · go_simp
  refine wpAnyHI_end (by kernel_rfl) ?_
  show KR _ _
  go_simp
  refine hKR _ _ ?_
  clear hKR KR
  have hz03 := hb03.size
  have hall := at_all Hv.out.2.2
  have hals := at_all H3.out.2.1
  have r1 : W3.ownsRow w3.heap.size 3 1 (.slice (some ⟨g1, 0, none⟩) n cc1) n (((allL n).map (atF ts)).map (.int .i64)) := by rw [hall]; exact row_below HW.out.2.2.2.1 hb03
  have r2 : W3.ownsRow w3.heap.size 3 1 (.slice (some ⟨g2, 0, none⟩) n c2) n (((allL n).map (atF s0)).map (.int .i64)) := by rw [hals]; exact row_mono (row_below hr2 hb23) (by omega)
  have r3 : W3.ownsRow w3.heap.size 3 1 (.slice (some ⟨g3, 0, none⟩) n c3) n ((allL n).map (.int .i64)) := row_mono hr3 (by have := hb02.size; omega)
  have hS3 := bxBelow y0 hb03 y0.lt
  have hD3 := bxBelow HW.out.2.2.1 hb03 (by omega)
  have hB3w : Below w.heap.size w W3 := HW.out.2.1.trans (hb03.mono hwz)
  have hB33 : Below w3.heap.size w3 W3 := HW.out.1.trans (hb03.mono hzW0)
  have hd12 : g1 < g2 := by omega
  have hd23 : g2 < g3 := by omega
  have hdD2 : D < g2 := by omega
  have Hr := Lib.hid (And.intro r1 (And.intro r2 (And.intro r3 (And.intro hS3 (And.intro hD3 (And.intro hB3w hB33))))))
  have hg1b : w3.heap.size ≤ g1 := HW.out.2.2.2.2
  clear r1 r2 r3 hS3 hD3 hB3w hB33 hr0 hr2 hr3 hg2 hb01 hb12 hb02 hb23 hS1 hS2 hsv hN1 hW1 hz1W his0 hall hals hS y0 hb03 hz03 hg2' hg3 hcellH
  go_wp2_with (fail)
  go_loopg [11] k (fun gg v11 wr => ∃ (j : Nat) (nm : List Int), (j ≤ k ∧ gg = k - j ∧ v11 = .int .i64 (j : Int)) ∧ nm.Perm (allL n) ∧ (wr.ownsRow w3.heap.size 3 1 (.slice (some ⟨g1, 0, none⟩) n cc1) n ((nm.map (atF ts)).map (.int .i64)) ∧ wr.ownsRow w3.heap.size 3 1 (.slice (some ⟨g2, 0, none⟩) n c2) n ((nm.map (atF s0)).map (.int .i64)) ∧ wr.ownsRow w3.heap.size 3 1 (.slice (some ⟨g3, 0, none⟩) n c3) n (nm.map (.int .i64))) ∧ (Boxed wr w.heap.size 24 (.slice (some ⟨b1, o1, none⟩) n c) ∧ Boxed wr D 24 (.slice (some ⟨g1, 0, none⟩) n cc1)) ∧ (Below w.heap.size w wr ∧ Below w3.heap.size w3 wr))
  case atStart => exact ⟨0, allL n, ⟨Nat.zero_le _, rfl, rfl⟩, List.Perm.refl _, ⟨Hr.out.1, Hr.out.2.1, Hr.out.2.2.1⟩, ⟨Hr.out.2.2.2.1, Hr.out.2.2.2.2.1⟩, Hr.out.2.2.2.2.2⟩
  case round =>
    clear Hr HW
    obtain ⟨j, nm, ⟨hjk, rfl, rfl⟩, hperm, ⟨r1, r2, r3⟩, ⟨hx, hxD⟩, hB, hb3r⟩ := hrel
    have hnl : nm.length = n := by rw [hperm.length_eq, allL_len]
    have hz := hx.lt
    have hzD := hxD.lt
    have hzw := hB.size
    by_cases hj : j < k
    case pos =>
      obtain ⟨b3, o3, rfl, hb3, hc8⟩ := (h3.below hB hB3).2.2 (by omega)
      obtain ⟨hcj, h80, h81⟩ := hc8 j hj
      obtain ⟨bj, hbj⟩ : ∃ bj, bj = rs[j]?.getD 0 := ⟨_, rfl⟩
      rw [← hbj] at hcj h80 h81
      clear hc8 hbj
      obtain ⟨a, ha'⟩ : ∃ a : Nat, a = j % n := ⟨_, rfl⟩
      have han : a < n := by rw [ha']; exact Nat.mod_lt _ (by omega)
      have hma : ((j : Int)).tmod (n : Int) = (a : Int) := by rw [Int.tmod_eq_emod_of_nonneg (by omega), ha']; simp
      obtain ⟨b, hb'⟩ : ∃ b : Nat, (b : Int) = bj % (n : Int) := ⟨(bj % (n : Int)).toNat, by have := Int.emod_nonneg bj (show (n : Int) ≠ 0 by omega); omega⟩
      have hbn : b < n := by have := Int.emod_lt_of_pos bj (show 0 < (n : Int) by omega); omega
      have hmb : bj.tmod (n : Int) = (b : Int) := by rw [Int.tmod_eq_emod_of_nonneg h80]; exact hb'.symm
      have hwb : IntKind.i64.wrap bj = bj := by rw [IntKind.wrap_i64]; omega
      have hwa : IntKind.i64.wrap (a : Int) = (a : Int) := by rw [IntKind.wrap_i64]; omega
      have hwbb : IntKind.i64.wrap (b : Int) = (b : Int) := by rw [IntKind.wrap_i64]; omega
      have hwj : IntKind.i64.wrap ((j : Int) + 1) = (j : Int) + 1 := by rw [IntKind.wrap_i64]; omega
      have hn0 : ¬ (n : Int) = 0 := by omega
      clear ha' hb'
      have Hm := Lib.hid (And.intro hperm (And.intro r1 (And.intro r2 (And.intro r3 (And.intro hx (And.intro hxD (And.intro hB hb3r)))))))
      clear hperm r1 r2 r3 hx hxD hB hb3r
      go_wp2_with (fail)
      refine region_held_wp 1 (fun W' => W' = wr.drew) (fun _ => true) (by kernel_rfl) ?_
      intro KR hKR
      have hS : wr.drew = wr.drew := rfl
      refine wpAnyHI_takeE (i := 0) (v := .int .i64 (j : Int)) (some 66) rfl rfl (by kernel_rfl) (by kernel_rfl) (by kernel_rfl) (by kernel_rfl) (by kernel_rfl) (fun _ _ _ h => h) hS (.inl ⟨by kernel_rfl, fun W' hS' => ?_⟩) ?_
      · subst hS'; go_simp
      refine wpAnyHI_takeE (i := 1) (v := .slice (some ⟨g2, 0, none⟩) n c2) (some 67) rfl rfl (by kernel_rfl) (by kernel_rfl) (by kernel_rfl) (by kernel_rfl) (by kernel_rfl) (fun _ _ _ h => h) hS (.inl ⟨by kernel_rfl, fun W' hS' => ?_⟩) ?_
      · subst hS'; go_simp
      refine wpAnyHI_takeE (i := 2) (v := .int .i64 (n : Int)) (some 68) rfl rfl (by kernel_rfl) (by kernel_rfl) (by kernel_rfl) (by kernel_rfl) (by kernel_rfl) (fun _ _ _ h => h) hS (.inl ⟨by kernel_rfl, fun W' hS' => ?_⟩) ?_
      · subst hS'; go_simp
      refine wpAnyHI_takeE (i := 3) (v := .int .i64 (a : Int)) (some 69) rfl rfl (by kernel_rfl) (by kernel_rfl) (by kernel_rfl) (by kernel_rfl) (by kernel_rfl) (fun _ _ _ h => h) hS (.inl ⟨by kernel_rfl, fun W' hS' => ?_⟩) ?_
      · subst hS'; go_simp <;> omega
      refine wpAnyHI_takeE (i := 9) (v := .slice (some ⟨g2, 0, none⟩) n c2) (some 75) rfl rfl (by kernel_rfl) (by kernel_rfl) (by kernel_rfl) (by kernel_rfl) (by kernel_rfl) (fun _ _ _ h => h) hS (.inl ⟨by kernel_rfl, fun W' hS' => ?_⟩) ?_
      · subst hS'; go_simp
      refine wpAnyHI_takeE (i := 10) (v := .int .i64 (n : Int)) (some 76) rfl rfl (by kernel_rfl) (by kernel_rfl) (by kernel_rfl) (by kernel_rfl) (by kernel_rfl) (fun _ _ _ h => h) hS (.inl ⟨by kernel_rfl, fun W' hS' => ?_⟩) ?_
      · subst hS'; go_simp
      refine wpAnyHI_takeE (i := 12) (v := .int .i64 (a : Int)) (some 12) rfl rfl (by kernel_rfl) (by kernel_rfl) (by kernel_rfl) (by kernel_rfl) (by kernel_rfl) (fun _ _ _ h => h) hS (.inl ⟨by kernel_rfl, fun W' hS' => ?_⟩) ?_
      · subst hS'; go_simp
      refine wpAnyHI_takeE (i := 4) (v := .slice (some ⟨b3, o3, none⟩) k f) (some 70) rfl rfl (by kernel_rfl) (by kernel_rfl) (by kernel_rfl) (by kernel_rfl) (by kernel_rfl) (fun _ _ _ h => h) hS (.inl ⟨by kernel_rfl, fun W' hS' => ?_⟩) ?_
      · subst hS'; go_simp
      refine wpAnyHI_takeE (i := 5) (v := .int .i64 (j : Int)) (some 71) rfl rfl (by kernel_rfl) (by kernel_rfl) (by kernel_rfl) (by kernel_rfl) (by kernel_rfl) (fun _ _ _ h => h) hS (.inl ⟨by kernel_rfl, fun W' hS' => ?_⟩) ?_
      · subst hS'; go_simp
      refine wpAnyHI_takeE (i := 6) (v := .pointer (some ⟨b3, o3 + j, none⟩)) (some 72) rfl rfl (by kernel_rfl) (by kernel_rfl) (by kernel_rfl) (by kernel_rfl) (by kernel_rfl) (fun _ _ _ h => h) hS (.inl ⟨by kernel_rfl, fun W' hS' => ?_⟩) ?_
      · subst hS'; go_simp <;> omega
      refine wpAnyHI_takeE (i := 7) (v := .int .u8 bj) (some 73) rfl rfl (by kernel_rfl) (by kernel_rfl) (by kernel_rfl) (by kernel_rfl) (by kernel_rfl) (fun _ _ _ h => h) hS (.inl ⟨by kernel_rfl, fun W' hS' => ?_⟩) ?_
      · subst hS'; go_simp
      refine wpAnyHI_takeE (i := 8) (v := .int .i64 bj) (some 74) rfl rfl (by kernel_rfl) (by kernel_rfl) (by kernel_rfl) (by kernel_rfl) (by kernel_rfl) (fun _ _ _ h => h) hS (.inl ⟨by kernel_rfl, fun W' hS' => ?_⟩) ?_
      · subst hS'; go_simp
      refine wpAnyHI_takeE (i := 11) (v := .int .i64 (b : Int)) (some 77) rfl rfl (by kernel_rfl) (by kernel_rfl) (by kernel_rfl) (by kernel_rfl) (by kernel_rfl) (fun _ _ _ h => h) hS (.inl ⟨by kernel_rfl, fun W' hS' => ?_⟩) ?_
      · subst hS'; go_simp <;> omega
      refine wpAnyHI_takeE (i := 13) (v := .int .i64 (b : Int)) (some 13) rfl rfl (by kernel_rfl) (by kernel_rfl) (by kernel_rfl) (by kernel_rfl) (by kernel_rfl) (fun _ _ _ h => h) hS (.inl ⟨by kernel_rfl, fun W' hS' => ?_⟩) ?_
      · subst hS'; go_simp
      refine wpAnyHI_end (by kernel_rfl) ?_
      show KR _ _
      go_simp
      refine hKR _ _ ?_
      clear hKR KR
      obtain ⟨W4, hW4⟩ : ∃ W4, W4 = wr.drew := ⟨_, rfl⟩
      have hb44 : Below wr.heap.size wr W4 := by rw [hW4]; exact below_drew wr
      rw [← hW4]
      clear hW4 hcj hS
      have hz4 := hb44.size
      have r1 := row_below Hm.out.2.1 hb44
      have r2 := row_below Hm.out.2.2.1 hb44
      have r3 := row_below Hm.out.2.2.2.1 hb44
      have yh := bxBelow Hm.out.2.2.2.2.1 hb44 Hm.out.2.2.2.2.1.lt
      have yx := bxBelow Hm.out.2.2.2.2.2.1 hb44 Hm.out.2.2.2.2.2.1.lt
      have hBw := Hm.out.2.2.2.2.2.2.1.trans (hb44.mono hzw)
      have hB3w := Hm.out.2.2.2.2.2.2.2.trans (hb44.mono (by have := Hm.out.2.2.2.2.2.2.2.size; omega))
      have hg3l := (r3.lt g3 rfl).2
      have hll : (nm.map (atF ts)).length = n := by simp [hnl]
      obtain ⟨xa, hxa⟩ : ∃ xa, xa = (nm.map (atF ts))[a]?.getD 0 := ⟨_, rfl⟩
      obtain ⟨xb, hxb⟩ : ∃ xb, xb = (nm.map (atF ts))[b]?.getD 0 := ⟨_, rfl⟩
      have hca := row_cell (xs := nm.map (atF ts)) r1 han
      have hcb := row_cell (xs := nm.map (atF ts)) r1 hbn
      rw [← hxa] at hca
      rw [← hxb] at hcb
      have hfa := row_frozen r1 a
      have hs1 := row_set r1 han (.int .i64 xb)
      have HX := Lib.hid (And.intro hxa (And.intro hxb (And.intro hll hs1)))
      clear hxa hxb hll hs1
      have cyx := yx.cell
      go_wp2_with (fail)
      have hcellD : ∀ W', Boxed W' D 24 (.slice (some ⟨g1, 0, none⟩) n cc1) → W'.cell? ⟨D, 0, none⟩ = some (.slice (some ⟨g1, 0, none⟩) n cc1) := fun W' h => h.cell
      refine region_held_wp 1 (fun W' => Boxed W' D 24 (.slice (some ⟨g1, 0, none⟩) n cc1)) (fun j => decide (j < 18)) (by kernel_rfl) ?_
      intro KR hKR
      have hS : Boxed W4.drew D 24 (.slice (some ⟨g1, 0, none⟩) n cc1) := bxBelow yx (below_drew _) yx.lt
      refine wpAnyHI_takeE (i := 0) (v := .pointer (some ⟨D, 0, none⟩)) (some 78) rfl rfl (by kernel_rfl) (by kernel_rfl) (by kernel_rfl) (by kernel_rfl) (by kernel_rfl) (fun _ _ _ h => h) hS (.inl ⟨by kernel_rfl, fun W' hS' => ?_⟩) ?_
      · have q := hcellD W' hS'; go_simp
      refine wpAnyHI_takeE (i := 1) (v := .slice (some ⟨g1, 0, none⟩) n cc1) (some 79) rfl rfl (by kernel_rfl) (by kernel_rfl) (by kernel_rfl) (by kernel_rfl) (by kernel_rfl) (fun _ _ _ h => h) hS (.inl ⟨by kernel_rfl, fun W' hS' => ?_⟩) ?_
      · have q := hcellD W' hS'; go_simp
      refine wpAnyHI_takeE (i := 2) (v := .int .i64 (a : Int)) (some 80) rfl rfl (by kernel_rfl) (by kernel_rfl) (by kernel_rfl) (by kernel_rfl) (by kernel_rfl) (fun _ _ _ h => h) hS (.inl ⟨by kernel_rfl, fun W' hS' => ?_⟩) ?_
      · have q := hcellD W' hS'; go_simp
      refine wpAnyHI_takeE (i := 3) (v := .pointer (some ⟨D, 0, none⟩)) (some 81) rfl rfl (by kernel_rfl) (by kernel_rfl) (by kernel_rfl) (by kernel_rfl) (by kernel_rfl) (fun _ _ _ h => h) hS (.inl ⟨by kernel_rfl, fun W' hS' => ?_⟩) ?_
      · have q := hcellD W' hS'; go_simp
      refine wpAnyHI_takeE (i := 4) (v := .slice (some ⟨g1, 0, none⟩) n cc1) (some 82) rfl rfl (by kernel_rfl) (by kernel_rfl) (by kernel_rfl) (by kernel_rfl) (by kernel_rfl) (fun _ _ _ h => h) hS (.inl ⟨by kernel_rfl, fun W' hS' => ?_⟩) ?_
      · have q := hcellD W' hS'; go_simp
      refine wpAnyHI_takeE (i := 5) (v := .int .i64 (b : Int)) (some 83) rfl rfl (by kernel_rfl) (by kernel_rfl) (by kernel_rfl) (by kernel_rfl) (by kernel_rfl) (fun _ _ _ h => h) hS (.inl ⟨by kernel_rfl, fun W' hS' => ?_⟩) ?_
      · have q := hcellD W' hS'; go_simp
      refine wpAnyHI_takeE (i := 6) (v := .pointer (some ⟨D, 0, none⟩)) (some 84) rfl rfl (by kernel_rfl) (by kernel_rfl) (by kernel_rfl) (by kernel_rfl) (by kernel_rfl) (fun _ _ _ h => h) hS (.inl ⟨by kernel_rfl, fun W' hS' => ?_⟩) ?_
      · have q := hcellD W' hS'; go_simp
      refine wpAnyHI_takeE (i := 7) (v := .slice (some ⟨g1, 0, none⟩) n cc1) (some 85) rfl rfl (by kernel_rfl) (by kernel_rfl) (by kernel_rfl) (by kernel_rfl) (by kernel_rfl) (fun _ _ _ h => h) hS (.inl ⟨by kernel_rfl, fun W' hS' => ?_⟩) ?_
      · have q := hcellD W' hS'; go_simp
      refine wpAnyHI_takeE (i := 8) (v := .int .i64 (b : Int)) (some 86) rfl rfl (by kernel_rfl) (by kernel_rfl) (by kernel_rfl) (by kernel_rfl) (by kernel_rfl) (fun _ _ _ h => h) hS (.inl ⟨by kernel_rfl, fun W' hS' => ?_⟩) ?_
      · have q := hcellD W' hS'; go_simp
      refine wpAnyHI_takeE (i := 9) (v := .pointer (some ⟨g1, b, none⟩)) (some 87) rfl rfl (by kernel_rfl) (by kernel_rfl) (by kernel_rfl) (by kernel_rfl) (by kernel_rfl) (fun _ _ _ h => h) hS (.inl ⟨by kernel_rfl, fun W' hS' => ?_⟩) ?_
      · have q := hcellD W' hS'; go_simp <;> omega
      refine wpAnyHI_takeE (i := 11) (v := .pointer (some ⟨D, 0, none⟩)) (some 89) rfl rfl (by kernel_rfl) (by kernel_rfl) (by kernel_rfl) (by kernel_rfl) (by kernel_rfl) (fun _ _ _ h => h) hS (.inl ⟨by kernel_rfl, fun W' hS' => ?_⟩) ?_
      · have q := hcellD W' hS'; go_simp
      refine wpAnyHI_takeE (i := 12) (v := .slice (some ⟨g1, 0, none⟩) n cc1) (some 90) rfl rfl (by kernel_rfl) (by kernel_rfl) (by kernel_rfl) (by kernel_rfl) (by kernel_rfl) (fun _ _ _ h => h) hS (.inl ⟨by kernel_rfl, fun W' hS' => ?_⟩) ?_
      · have q := hcellD W' hS'; go_simp
      refine wpAnyHI_takeE (i := 13) (v := .int .i64 (a : Int)) (some 91) rfl rfl (by kernel_rfl) (by kernel_rfl) (by kernel_rfl) (by kernel_rfl) (by kernel_rfl) (fun _ _ _ h => h) hS (.inl ⟨by kernel_rfl, fun W' hS' => ?_⟩) ?_
      · have q := hcellD W' hS'; go_simp
      refine wpAnyHI_takeE (i := 14) (v := .pointer (some ⟨g1, a, none⟩)) (some 92) rfl rfl (by kernel_rfl) (by kernel_rfl) (by kernel_rfl) (by kernel_rfl) (by kernel_rfl) (fun _ _ _ h => h) hS (.inl ⟨by kernel_rfl, fun W' hS' => ?_⟩) ?_
      · have q := hcellD W' hS'; go_simp <;> omega
      refine wpAnyHI_two (i := 10) (j := 15) rfl rfl (by kernel_rfl) ?g10 ?g15
      case' g10 =>
        intro K1 hK1
        go_simp
        refine hK1 _ _ ⟨fun _ => hS, ?_⟩
        clear hK1 K1
        refine wpAnyHI_one (i := 15) rfl (by kernel_rfl) ?_
        intro K1 hK1
        go_simp
        refine hK1 _ _ ⟨fun _ => hS, ?_⟩
        clear hK1 K1
      case' g15 =>
        intro K1 hK1
        go_simp
        refine hK1 _ _ ⟨fun _ => hS, ?_⟩
        clear hK1 K1
        refine wpAnyHI_one (i := 10) rfl (by kernel_rfl) ?_
        intro K1 hK1
        go_simp
        refine hK1 _ _ ⟨fun _ => hS, ?_⟩
        clear hK1 K1
      all_goals
        refine wpAnyHI_takeE (i := 16) (v := .pointer (some ⟨g1, a, none⟩)) (some 94) rfl rfl (by kernel_rfl) (by kernel_rfl) (by kernel_rfl) (by kernel_rfl) (by kernel_rfl) (fun _ _ _ h => h) hS (.inl ⟨by kernel_rfl, fun W' hS' => ?_⟩) ?_
        · have q := hcellD W' hS'; go_simp <;> omega
        refine wpAnyHI_one (i := 17) rfl (by kernel_rfl) ?_
        intro K1 hK1
        go_simp
        obtain ⟨V1, hV1⟩ : ∃ V1, V1 = (W4.setCell ⟨g1, a, none⟩ (.int .i64 xb)).drew := ⟨_, rfl⟩
        first | rw [← hV1] | (rw [show (W4.drew.setCell ⟨g1, a, none⟩ (.int .i64 xb)) = V1 from hV1.symm])
        have hrV : V1.ownsRow w3.heap.size 3 1 (.slice (some ⟨g1, 0, none⟩) n cc1) n (((nm.map (atF ts)).set a xb).map (.int .i64)) := by rw [List.map_set, hV1]; exact HX.out.2.2.2
        have hzV : V1.heap.size = W4.heap.size := by rw [hV1]; simp [World.setCell]
        have hoV : ∀ q : Nat, q ≠ g1 → V1.heap[q]? = W4.heap[q]? := fun q hq => by rw [hV1]; exact Below.heap_setCell _ ⟨g1, a, none⟩ _ _ hq
        have hBV : Below w.heap.size w V1 ∧ Below w3.heap.size w3 V1 := by
          rw [hV1]
          exact ⟨(hBw.setCell (by show w.heap.size ≤ g1; omega) _).trans ⟨rfl, rfl, rfl, Nat.le_refl _, fun _ _ => rfl⟩, (hB3w.setCell (by show w3.heap.size ≤ g1; omega) _).trans ⟨rfl, rfl, rfl, Nat.le_refl _, fun _ _ => rfl⟩⟩
        have hxx : Boxed V1 D 24 (.slice (some ⟨g1, 0, none⟩) n cc1) := (hoV D (by omega)).trans yx
        clear hV1
        refine hK1 _ _ ⟨fun h => hxx, ?_⟩
        clear hK1 K1
        have hcv := row_cell (xs := (nm.map (atF ts)).set a xb) hrV hbn
        have hfv := row_frozen hrV b
        have hs2 := row_set hrV hbn (.int .i64 xa)
        have HY := Lib.hid (And.intro hs2 (And.intro hBV hoV))
        clear hs2 hBV hoV hrV
        refine wpAnyHI_takeW (i := 18) (v := .pointer (some ⟨g1, b, none⟩)) (some 95) rfl rfl (by kernel_rfl) (by kernel_rfl) (by kernel_rfl) (by kernel_rfl) (fun _ _ _ h => h) (.inl ⟨by kernel_rfl, fun W' hS' => ?_⟩) ?_
        · go_simp <;> omega
        refine wpAnyHI_one (i := 19) rfl (by kernel_rfl) ?_
        intro K1 hK1
        go_simp
        obtain ⟨W5, hW5⟩ : ∃ V2, V2 = V1.setCell ⟨g1, b, none⟩ (.int .i64 xa) := ⟨_, rfl⟩
        rw [← hW5]
        have HV := Lib.hid hW5
        clear hW5
        refine hK1 _ _ ⟨fun h => absurd h (by decide), ?_⟩
        clear hK1 K1 hcv hfv hca hcb hfa cyx hS hxx
        refine wpAnyHI_end (by kernel_rfl) ?_
        show KR _ _
        go_simp
        refine hKR _ _ ?_
        clear hKR KR
        have hoo : ∀ q : Nat, q ≠ g1 → W5.heap[q]? = W4.heap[q]? := fun q hq => by rw [HV.out, Below.heap_setCell _ ⟨g1, b, none⟩ _ _ hq]; exact HY.out.2.2 q hq
        have hzz : W5.heap.size = W4.heap.size := by rw [HV.out, ← hzV]; simp [World.setCell]
        have r1' : W5.ownsRow w3.heap.size 3 1 (.slice (some ⟨g1, 0, none⟩) n cc1) n ((swp (nm.map (atF ts)) a b).map (.int .i64)) := by
          rw [HV.out]
          unfold swp
          rw [List.map_set, ← HX.out.1, ← HX.out.2.1]
          exact HY.out.1
        have r2' := row_keep' r2 (hoo g2 (by omega))
        have r3' := row_keep' r3 (hoo g3 (by omega))
        have yh' : Boxed W5 w.heap.size 24 (.slice (some ⟨b1, o1, none⟩) n c) := (hoo _ (by omega)).trans yh
        have yx' : Boxed W5 D 24 (.slice (some ⟨g1, 0, none⟩) n cc1) := (hoo _ (by omega)).trans yx
        have hBw' : Below w.heap.size w W5 := by rw [HV.out]; exact HY.out.2.1.1.setCell (by show w.heap.size ≤ g1; omega) _
        have hB3w' : Below w3.heap.size w3 W5 := by rw [HV.out]; exact HY.out.2.1.2.setCell (by show w3.heap.size ≤ g1; omega) _
        have hg3l' : g3 < W5.heap.size := by rw [hzz]; exact hg3l
        clear HV HY HX hoo hzz hzV r1 r2 r3 yh yx hBw hB3w hg3l
        have r1 := r1'
        clear r1'
        have r2 := r2'
        clear r2'
        have r3 := r3'
        clear r3'
        have yh := yh'
        clear yh'
        have yx := yx'
        clear yx'
        have hBw := hBw'
        clear hBw'
        have hB3w := hB3w'
        clear hB3w'
        have hg3l := hg3l'
        clear hg3l'
        have hll : (nm.map (atF s0)).length = n := by simp [hnl]
        obtain ⟨xa, hxa⟩ : ∃ xa, xa = (nm.map (atF s0))[a]?.getD 0 := ⟨_, rfl⟩
        obtain ⟨xb, hxb⟩ : ∃ xb, xb = (nm.map (atF s0))[b]?.getD 0 := ⟨_, rfl⟩
        have hca := row_cell (xs := nm.map (atF s0)) r2 han
        have hcb := row_cell (xs := nm.map (atF s0)) r2 hbn
        rw [← hxa] at hca
        rw [← hxb] at hcb
        have hfa := row_frozen r2 a
        have hs1 := row_set r2 han (.int .i64 xb)
        have HX := Lib.hid (And.intro hxa (And.intro hxb (And.intro hll hs1)))
        clear hxa hxb hll hs1
        have cyx := yx.cell
        go_wp2_with (fail)
        refine region_held_wp 1 (fun W' => W' = W5.drew) (fun j => decide (j < 12 ∧ ¬(j = 2 ∨ j = 3))) (by kernel_rfl) ?_
        intro KR hKR
        have hS : W5.drew = W5.drew := rfl
        refine wpAnyHI_takeW (i := 2) (v := .slice (some ⟨g2, 0, none⟩) n c2) (some 98) rfl rfl (by kernel_rfl) (by kernel_rfl) (by kernel_rfl) (by kernel_rfl) (fun _ _ _ h => h) (.inl ⟨by kernel_rfl, fun W' hS' => ?_⟩) ?_
        · go_simp
        refine wpAnyHI_takeW (i := 3) (v := .int .i64 (b : Int)) (some 99) rfl rfl (by kernel_rfl) (by kernel_rfl) (by kernel_rfl) (by kernel_rfl) (fun _ _ _ h => h) (.inl ⟨by kernel_rfl, fun W' hS' => ?_⟩) ?_
        · go_simp
        refine wpAnyHI_takeE (i := 0) (v := .slice (some ⟨g2, 0, none⟩) n c2) (some 96) rfl rfl (by kernel_rfl) (by kernel_rfl) (by kernel_rfl) (by kernel_rfl) (by kernel_rfl) (fun _ _ _ h => h) hS (.inl ⟨by kernel_rfl, fun W' hS' => ?_⟩) ?_
        · subst hS'; go_simp
        refine wpAnyHI_takeE (i := 1) (v := .int .i64 (a : Int)) (some 97) rfl rfl (by kernel_rfl) (by kernel_rfl) (by kernel_rfl) (by kernel_rfl) (by kernel_rfl) (fun _ _ _ h => h) hS (.inl ⟨by kernel_rfl, fun W' hS' => ?_⟩) ?_
        · subst hS'; go_simp
        refine wpAnyHI_takeE (i := 4) (v := .slice (some ⟨g2, 0, none⟩) n c2) (some 100) rfl rfl (by kernel_rfl) (by kernel_rfl) (by kernel_rfl) (by kernel_rfl) (by kernel_rfl) (fun _ _ _ h => h) hS (.inl ⟨by kernel_rfl, fun W' hS' => ?_⟩) ?_
        · subst hS'; go_simp
        refine wpAnyHI_takeE (i := 5) (v := .int .i64 (b : Int)) (some 101) rfl rfl (by kernel_rfl) (by kernel_rfl) (by kernel_rfl) (by kernel_rfl) (by kernel_rfl) (fun _ _ _ h => h) hS (.inl ⟨by kernel_rfl, fun W' hS' => ?_⟩) ?_
        · subst hS'; go_simp
        refine wpAnyHI_takeE (i := 6) (v := .pointer (some ⟨g2, b, none⟩)) (some 102) rfl rfl (by kernel_rfl) (by kernel_rfl) (by kernel_rfl) (by kernel_rfl) (by kernel_rfl) (fun _ _ _ h => h) hS (.inl ⟨by kernel_rfl, fun W' hS' => ?_⟩) ?_
        · subst hS'; go_simp <;> omega
        refine wpAnyHI_takeE (i := 7) (v := .int .i64 xb) (some 103) rfl rfl (by kernel_rfl) (by kernel_rfl) (by kernel_rfl) (by kernel_rfl) (by kernel_rfl) (fun _ _ _ h => h) hS (.inl ⟨by kernel_rfl, fun W' hS' => ?_⟩) ?_
        · subst hS'; go_simp
        refine wpAnyHI_takeE (i := 8) (v := .slice (some ⟨g2, 0, none⟩) n c2) (some 104) rfl rfl (by kernel_rfl) (by kernel_rfl) (by kernel_rfl) (by kernel_rfl) (by kernel_rfl) (fun _ _ _ h => h) hS (.inl ⟨by kernel_rfl, fun W' hS' => ?_⟩) ?_
        · subst hS'; go_simp
        refine wpAnyHI_takeE (i := 9) (v := .int .i64 (a : Int)) (some 105) rfl rfl (by kernel_rfl) (by kernel_rfl) (by kernel_rfl) (by kernel_rfl) (by kernel_rfl) (fun _ _ _ h => h) hS (.inl ⟨by kernel_rfl, fun W' hS' => ?_⟩) ?_
        · subst hS'; go_simp
        refine wpAnyHI_takeE (i := 10) (v := .pointer (some ⟨g2, a, none⟩)) (some 106) rfl rfl (by kernel_rfl) (by kernel_rfl) (by kernel_rfl) (by kernel_rfl) (by kernel_rfl) (fun _ _ _ h => h) hS (.inl ⟨by kernel_rfl, fun W' hS' => ?_⟩) ?_
        · subst hS'; go_simp <;> omega
        refine wpAnyHI_takeE (i := 11) (v := .int .i64 xa) (some 107) rfl rfl (by kernel_rfl) (by kernel_rfl) (by kernel_rfl) (by kernel_rfl) (by kernel_rfl) (fun _ _ _ h => h) hS (.inl ⟨by kernel_rfl, fun W' hS' => ?_⟩) ?_
        · subst hS'; go_simp
        refine wpAnyHI_takeW (i := 12) (v := .pointer (some ⟨g2, a, none⟩)) (some 108) rfl rfl (by kernel_rfl) (by kernel_rfl) (by kernel_rfl) (by kernel_rfl) (fun _ _ _ h => h) (.inl ⟨by kernel_rfl, fun W' hS' => ?_⟩) ?_
        · go_simp <;> omega
        refine wpAnyHI_one (i := 13) rfl (by kernel_rfl) ?_
        intro K1 hK1
        go_simp
        obtain ⟨V1, hV1⟩ : ∃ V1, V1 = (W5.setCell ⟨g2, a, none⟩ (.int .i64 xb)).drew := ⟨_, rfl⟩
        first | rw [← hV1] | (rw [show (W5.drew.setCell ⟨g2, a, none⟩ (.int .i64 xb)) = V1 from hV1.symm])
        have hrV : V1.ownsRow w3.heap.size 3 1 (.slice (some ⟨g2, 0, none⟩) n c2) n (((nm.map (atF s0)).set a xb).map (.int .i64)) := by rw [List.map_set, hV1]; exact HX.out.2.2.2
        have hzV : V1.heap.size = W5.heap.size := by rw [hV1]; simp [World.setCell]
        have hoV : ∀ q : Nat, q ≠ g2 → V1.heap[q]? = W5.heap[q]? := fun q hq => by rw [hV1]; exact Below.heap_setCell _ ⟨g2, a, none⟩ _ _ hq
        have hBV : Below w.heap.size w V1 ∧ Below w3.heap.size w3 V1 := by
          rw [hV1]
          exact ⟨(hBw.setCell (by show w.heap.size ≤ g2; omega) _).trans ⟨rfl, rfl, rfl, Nat.le_refl _, fun _ _ => rfl⟩, (hB3w.setCell (by show w3.heap.size ≤ g2; omega) _).trans ⟨rfl, rfl, rfl, Nat.le_refl _, fun _ _ => rfl⟩⟩
        have hxx : Boxed V1 D 24 (.slice (some ⟨g1, 0, none⟩) n cc1) := (hoV D (by omega)).trans yx
        clear hV1
        refine hK1 _ _ ⟨fun h => absurd h (by decide), ?_⟩
        clear hK1 K1
        have hcv := row_cell (xs := (nm.map (atF s0)).set a xb) hrV hbn
        have hfv := row_frozen hrV b
        have hs2 := row_set hrV hbn (.int .i64 xa)
        have HY := Lib.hid (And.intro hs2 (And.intro hBV hoV))
        clear hs2 hBV hoV hrV
        refine wpAnyHI_takeW (i := 14) (v := .pointer (some ⟨g2, b, none⟩)) (some 109) rfl rfl (by kernel_rfl) (by kernel_rfl) (by kernel_rfl) (by kernel_rfl) (fun _ _ _ h => h) (.inl ⟨by kernel_rfl, fun W' hS' => ?_⟩) ?_
        · go_simp <;> omega
        refine wpAnyHI_one (i := 15) rfl (by kernel_rfl) ?_
        intro K1 hK1
        go_simp
        obtain ⟨W6, hW6⟩ : ∃ V2, V2 = V1.setCell ⟨g2, b, none⟩ (.int .i64 xa) := ⟨_, rfl⟩
        rw [← hW6]
        have HV := Lib.hid hW6
        clear hW6
        refine hK1 _ _ ⟨fun h => absurd h (by decide), ?_⟩
        clear hK1 K1 hcv hfv hca hcb hfa cyx hS hxx
        refine wpAnyHI_end (by kernel_rfl) ?_
        show KR _ _
        go_simp
        refine hKR _ _ ?_
        clear hKR KR
        have hoo : ∀ q : Nat, q ≠ g2 → W6.heap[q]? = W5.heap[q]? := fun q hq => by rw [HV.out, Below.heap_setCell _ ⟨g2, b, none⟩ _ _ hq]; exact HY.out.2.2 q hq
        have hzz : W6.heap.size = W5.heap.size := by rw [HV.out, ← hzV]; simp [World.setCell]
        have r2' : W6.ownsRow w3.heap.size 3 1 (.slice (some ⟨g2, 0, none⟩) n c2) n ((swp (nm.map (atF s0)) a b).map (.int .i64)) := by
          rw [HV.out]
          unfold swp
          rw [List.map_set, ← HX.out.1, ← HX.out.2.1]
          exact HY.out.1
        have r1' := row_keep' r1 (hoo g1 (by omega))
        have r3' := row_keep' r3 (hoo g3 (by omega))
        have yh' : Boxed W6 w.heap.size 24 (.slice (some ⟨b1, o1, none⟩) n c) := (hoo _ (by omega)).trans yh
        have yx' : Boxed W6 D 24 (.slice (some ⟨g1, 0, none⟩) n cc1) := (hoo _ (by omega)).trans yx
        have hBw' : Below w.heap.size w W6 := by rw [HV.out]; exact HY.out.2.1.1.setCell (by show w.heap.size ≤ g2; omega) _
        have hB3w' : Below w3.heap.size w3 W6 := by rw [HV.out]; exact HY.out.2.1.2.setCell (by show w3.heap.size ≤ g2; omega) _
        have hg3l' : g3 < W6.heap.size := by rw [hzz]; exact hg3l
        clear HV HY HX hoo hzz hzV r2 r1 r3 yh yx hBw hB3w hg3l
        have r1 := r1'
        clear r1'
        have r2 := r2'
        clear r2'
        have r3 := r3'
        clear r3'
        have yh := yh'
        clear yh'
        have yx := yx'
        clear yx'
        have hBw := hBw'
        clear hBw'
        have hB3w := hB3w'
        clear hB3w'
        have hg3l := hg3l'
        clear hg3l'
        have hll : (nm).length = n := by simp [hnl]
        obtain ⟨xa, hxa⟩ : ∃ xa, xa = (nm)[a]?.getD 0 := ⟨_, rfl⟩
        obtain ⟨xb, hxb⟩ : ∃ xb, xb = (nm)[b]?.getD 0 := ⟨_, rfl⟩
        have hca := row_cell (xs := nm) r3 han
        have hcb := row_cell (xs := nm) r3 hbn
        rw [← hxa] at hca
        rw [← hxb] at hcb
        have hfa := row_frozen r3 a
        have hs1 := row_set r3 han (.int .i64 xb)
        have HX := Lib.hid (And.intro hxa (And.intro hxb (And.intro hll hs1)))
        clear hxa hxb hll hs1
        have cyx := yx.cell
        go_wp2_with (fail)
        refine region_held_wp 1 (fun W' => W' = W6.drew) (fun j => decide (j < 12 ∧ ¬(j = 2 ∨ j = 3))) (by kernel_rfl) ?_
        intro KR hKR
        have hS : W6.drew = W6.drew := rfl
        refine wpAnyHI_takeW (i := 2) (v := .slice (some ⟨g3, 0, none⟩) n c3) (some 112) rfl rfl (by kernel_rfl) (by kernel_rfl) (by kernel_rfl) (by kernel_rfl) (fun _ _ _ h => h) (.inl ⟨by kernel_rfl, fun W' hS' => ?_⟩) ?_
        · go_simp
        refine wpAnyHI_takeW (i := 3) (v := .int .i64 (b : Int)) (some 113) rfl rfl (by kernel_rfl) (by kernel_rfl) (by kernel_rfl) (by kernel_rfl) (fun _ _ _ h => h) (.inl ⟨by kernel_rfl, fun W' hS' => ?_⟩) ?_
        · go_simp
        refine wpAnyHI_takeE (i := 0) (v := .slice (some ⟨g3, 0, none⟩) n c3) (some 110) rfl rfl (by kernel_rfl) (by kernel_rfl) (by kernel_rfl) (by kernel_rfl) (by kernel_rfl) (fun _ _ _ h => h) hS (.inl ⟨by kernel_rfl, fun W' hS' => ?_⟩) ?_
        · subst hS'; go_simp
        refine wpAnyHI_takeE (i := 1) (v := .int .i64 (a : Int)) (some 111) rfl rfl (by kernel_rfl) (by kernel_rfl) (by kernel_rfl) (by kernel_rfl) (by kernel_rfl) (fun _ _ _ h => h) hS (.inl ⟨by kernel_rfl, fun W' hS' => ?_⟩) ?_
        · subst hS'; go_simp
        refine wpAnyHI_takeE (i := 4) (v := .slice (some ⟨g3, 0, none⟩) n c3) (some 114) rfl rfl (by kernel_rfl) (by kernel_rfl) (by kernel_rfl) (by kernel_rfl) (by kernel_rfl) (fun _ _ _ h => h) hS (.inl ⟨by kernel_rfl, fun W' hS' => ?_⟩) ?_
        · subst hS'; go_simp
        refine wpAnyHI_takeE (i := 5) (v := .int .i64 (b : Int)) (some 115) rfl rfl (by kernel_rfl) (by kernel_rfl) (by kernel_rfl) (by kernel_rfl) (by kernel_rfl) (fun _ _ _ h => h) hS (.inl ⟨by kernel_rfl, fun W' hS' => ?_⟩) ?_
        · subst hS'; go_simp
        refine wpAnyHI_takeE (i := 6) (v := .pointer (some ⟨g3, b, none⟩)) (some 116) rfl rfl (by kernel_rfl) (by kernel_rfl) (by kernel_rfl) (by kernel_rfl) (by kernel_rfl) (fun _ _ _ h => h) hS (.inl ⟨by kernel_rfl, fun W' hS' => ?_⟩) ?_
        · subst hS'; go_simp <;> omega
        refine wpAnyHI_takeE (i := 7) (v := .int .i64 xb) (some 117) rfl rfl (by kernel_rfl) (by kernel_rfl) (by kernel_rfl) (by kernel_rfl) (by kernel_rfl) (fun _ _ _ h => h) hS (.inl ⟨by kernel_rfl, fun W' hS' => ?_⟩) ?_
        · subst hS'; go_simp
        refine wpAnyHI_takeE (i := 8) (v := .slice (some ⟨g3, 0, none⟩) n c3) (some 118) rfl rfl (by kernel_rfl) (by kernel_rfl) (by kernel_rfl) (by kernel_rfl) (by kernel_rfl) (fun _ _ _ h => h) hS (.inl ⟨by kernel_rfl, fun W' hS' => ?_⟩) ?_
        · subst hS'; go_simp
        refine wpAnyHI_takeE (i := 9) (v := .int .i64 (a : Int)) (some 119) rfl rfl (by kernel_rfl) (by kernel_rfl) (by kernel_rfl) (by kernel_rfl) (by kernel_rfl) (fun _ _ _ h => h) hS (.inl ⟨by kernel_rfl, fun W' hS' => ?_⟩) ?_
        · subst hS'; go_simp
        refine wpAnyHI_takeE (i := 10) (v := .pointer (some ⟨g3, a, none⟩)) (some 120) rfl rfl (by kernel_rfl) (by kernel_rfl) (by kernel_rfl) (by kernel_rfl) (by kernel_rfl) (fun _ _ _ h => h) hS (.inl ⟨by kernel_rfl, fun W' hS' => ?_⟩) ?_
        · subst hS'; go_simp <;> omega
        refine wpAnyHI_takeE (i := 11) (v := .int .i64 xa) (some 121) rfl rfl (by kernel_rfl) (by kernel_rfl) (by kernel_rfl) (by kernel_rfl) (by kernel_rfl) (fun _ _ _ h => h) hS (.inl ⟨by kernel_rfl, fun W' hS' => ?_⟩) ?_
        · subst hS'; go_simp
        refine wpAnyHI_takeW (i := 12) (v := .pointer (some ⟨g3, a, none⟩)) (some 122) rfl rfl (by kernel_rfl) (by kernel_rfl) (by kernel_rfl) (by kernel_rfl) (fun _ _ _ h => h) (.inl ⟨by kernel_rfl, fun W' hS' => ?_⟩) ?_
        · go_simp <;> omega
        refine wpAnyHI_one (i := 13) rfl (by kernel_rfl) ?_
        intro K1 hK1
        go_simp
        obtain ⟨V1, hV1⟩ : ∃ V1, V1 = (W6.setCell ⟨g3, a, none⟩ (.int .i64 xb)).drew := ⟨_, rfl⟩
        first | rw [← hV1] | (rw [show (W6.drew.setCell ⟨g3, a, none⟩ (.int .i64 xb)) = V1 from hV1.symm])
        have hrV : V1.ownsRow w3.heap.size 3 1 (.slice (some ⟨g3, 0, none⟩) n c3) n (((nm).set a xb).map (.int .i64)) := by rw [List.map_set, hV1]; exact HX.out.2.2.2
        have hzV : V1.heap.size = W6.heap.size := by rw [hV1]; simp [World.setCell]
        have hoV : ∀ q : Nat, q ≠ g3 → V1.heap[q]? = W6.heap[q]? := fun q hq => by rw [hV1]; exact Below.heap_setCell _ ⟨g3, a, none⟩ _ _ hq
        have hBV : Below w.heap.size w V1 ∧ Below w3.heap.size w3 V1 := by
          rw [hV1]
          exact ⟨(hBw.setCell (by show w.heap.size ≤ g3; omega) _).trans ⟨rfl, rfl, rfl, Nat.le_refl _, fun _ _ => rfl⟩, (hB3w.setCell (by show w3.heap.size ≤ g3; omega) _).trans ⟨rfl, rfl, rfl, Nat.le_refl _, fun _ _ => rfl⟩⟩
        have hxx : Boxed V1 D 24 (.slice (some ⟨g1, 0, none⟩) n cc1) := (hoV D (by omega)).trans yx
        clear hV1
        refine hK1 _ _ ⟨fun h => absurd h (by decide), ?_⟩
        clear hK1 K1
        have hcv := row_cell (xs := (nm).set a xb) hrV hbn
        have hfv := row_frozen hrV b
        have hs2 := row_set hrV hbn (.int .i64 xa)
        have HY := Lib.hid (And.intro hs2 (And.intro hBV hoV))
        clear hs2 hBV hoV hrV
        refine wpAnyHI_takeW (i := 14) (v := .pointer (some ⟨g3, b, none⟩)) (some 123) rfl rfl (by kernel_rfl) (by kernel_rfl) (by kernel_rfl) (by kernel_rfl) (fun _ _ _ h => h) (.inl ⟨by kernel_rfl, fun W' hS' => ?_⟩) ?_
        · go_simp <;> omega
        refine wpAnyHI_one (i := 15) rfl (by kernel_rfl) ?_
        intro K1 hK1
        go_simp
        obtain ⟨W7, hW7⟩ : ∃ V2, V2 = V1.setCell ⟨g3, b, none⟩ (.int .i64 xa) := ⟨_, rfl⟩
        rw [← hW7]
        have HV := Lib.hid hW7
        clear hW7
        refine hK1 _ _ ⟨fun h => absurd h (by decide), ?_⟩
        clear hK1 K1 hcv hfv hca hcb hfa cyx hS hxx
        refine wpAnyHI_end (by kernel_rfl) ?_
        show KR _ _
        go_simp
        refine hKR _ _ ?_
        clear hKR KR
        have hoo : ∀ q : Nat, q ≠ g3 → W7.heap[q]? = W6.heap[q]? := fun q hq => by rw [HV.out, Below.heap_setCell _ ⟨g3, b, none⟩ _ _ hq]; exact HY.out.2.2 q hq
        have hzz : W7.heap.size = W6.heap.size := by rw [HV.out, ← hzV]; simp [World.setCell]
        have r3' : W7.ownsRow w3.heap.size 3 1 (.slice (some ⟨g3, 0, none⟩) n c3) n ((swp (nm) a b).map (.int .i64)) := by
          rw [HV.out]
          unfold swp
          rw [List.map_set, ← HX.out.1, ← HX.out.2.1]
          exact HY.out.1
        have r1' := row_keep' r1 (hoo g1 (by omega))
        have r2' := row_keep' r2 (hoo g2 (by omega))
        have yh' : Boxed W7 w.heap.size 24 (.slice (some ⟨b1, o1, none⟩) n c) := (hoo _ (by omega)).trans yh
        have yx' : Boxed W7 D 24 (.slice (some ⟨g1, 0, none⟩) n cc1) := (hoo _ (by omega)).trans yx
        have hBw' : Below w.heap.size w W7 := by rw [HV.out]; exact HY.out.2.1.1.setCell (by show w.heap.size ≤ g3; omega) _
        have hB3w' : Below w3.heap.size w3 W7 := by rw [HV.out]; exact HY.out.2.1.2.setCell (by show w3.heap.size ≤ g3; omega) _
        have hg3l' : g3 < W7.heap.size := by rw [hzz]; exact hg3l
        clear HV HY HX hoo hzz hzV r3 r1 r2 yh yx hBw hB3w hg3l
        have r1 := r1'
        clear r1'
        have r2 := r2'
        clear r2'
        have r3 := r3'
        clear r3'
        have yh := yh'
        clear yh'
        have yx := yx'
        clear yx'
        have hBw := hBw'
        clear hBw'
        have hB3w := hB3w'
        clear hB3w'
        have hg3l := hg3l'
        clear hg3l'
        go_wp2_with (fail)
        go_roundg (k - (j + 1))
        case measure => omega
        case rel =>
          refine ⟨j + 1, swp nm a b, ⟨hj, rfl, rfl⟩, (swp_perm (by omega) (by omega)).trans Hm.out.1, ⟨?_, ?_, r3⟩, ⟨yh, yx⟩, hBw, hB3w⟩
          · rw [swp_map _ (by omega) (by omega)]; exact r1
          · rw [swp_map _ (by omega) (by omega)]; exact r2
    obtain rfl : j = k := by omega
    obtain ⟨win, winx, N⟩ := named_pure Hv.out.2.1 Hv.out.2.2 H3.out.1 hperm
    obtain ⟨tx, htx⟩ : ∃ tx, tx = nm.map (atF ts) := ⟨_, rfl⟩
    obtain ⟨st, hstx⟩ : ∃ st, st = nm.map (atF s0) := ⟨_, rfl⟩
    rw [← htx, ← hstx] at N
    rw [← htx] at r1
    rw [← hstx] at r2
    have nb : NB w (.slice (some ⟨b1, o1, none⟩) n c) (.slice (some ⟨g1, 0, none⟩) n cc1) D (some ⟨g1, 0, none⟩) (some ⟨g2, 0, none⟩) (some ⟨g, 0, none⟩) (some ⟨g3, 0, none⟩) n tx st s0 nm wr := ⟨hx, hxD, row_ints r1 (by omega), row_ints r2 (by omega), (H3.out.2.2.below hb3r (Nat.le_refl _)).more hb3r.size, row_ints r3 (by omega), hB⟩
    have HN := Lib.hid N
    clear N htx hstx r1 r2 r3 hx hxD hB hb3r hperm hz hzD hzw hj hjk
    obtain ⟨u0, hu0⟩ : ∃ u0, u0 = wr := ⟨_, rfl⟩
    rw [← hu0] at nb ⊢
    clear hu0
    have c0 := nb.bh.cell
    have cD := nb.bx.cell
    have l0 := nb.bh.lt
    have lD := nb.bx.lt
    have lz := nb.bl.size
    go_wp2_with (fail)
    refine (Circle_any u0 B1 (some ⟨b1, o1, none⟩) n c ts (h1.below nb.bl hB1) (by have := nb.bl.size; omega) win (fun hc => ⟨ends_all (valid_of hc), loop_ends (valid_of hc), HN.out.hw⟩)).mono ?_
    rintro e u1 ⟨A4, n4, c4, rfl, hi4, hb⟩
    obtain ⟨z1, hz1⟩ : ∃ z1, z1 = (circleR ts win).2 := ⟨_, rfl⟩
    rw [← hz1]
    have H4 := Lib.hid (And.intro hz1 hi4.len)
    clear hz1 hi4
    have nb' := nb.later hb
    clear c0 cD l0 lD lz nb hb
    have nb := nb'
    clear nb'
    have c0 := nb.bh.cell
    have cD := nb.bx.cell
    have l0 := nb.bh.lt
    have lD := nb.bx.lt
    have lz := nb.bl.size
    go_wp2_with (fail)
    refine (Circle_any u1 _ (some ⟨g1, 0, none⟩) n cc1 tx nb.ix (Nat.le_refl _) winx (fun hc => ⟨ends_all (valid_of hc), loop_ends (valid_of hc), HN.out.hwx⟩)).mono ?_
    rintro e u2 ⟨A5, n5, c5, rfl, hi5, hb⟩
    rw [HN.out.circ.1, ← H4.out.1]
    obtain rfl : n5 = n4 := by have a := hi5.len; have b := HN.out.circ.2; have d := H4.out.2; omega
    clear hi5 H4
    have nb' := nb.later hb
    clear c0 cD l0 lD lz nb hb
    have nb := nb'
    clear nb'
    have c0 := nb.bh.cell
    have cD := nb.bx.cell
    have l0 := nb.bh.lt
    have lD := nb.bx.lt
    have lz := nb.bl.size
    go_wp2_with (fail)
    refine (count_any u2 B1 (some ⟨b1, o1, none⟩) n c ts (h1.below nb.bl hB1) (by have := nb.bl.size; omega) (fun hc => ends_all (valid_of hc))).mono ?_
    rintro e u3 ⟨rfl, hb⟩
    rw [countR_ok Hv.out.2.1]
    obtain ⟨z2, hz2⟩ : ∃ z2, z2 = (tabE ts).1.length := ⟨_, rfl⟩
    simp only [← hz2]
    have H5 := Lib.hid hz2
    clear hz2
    have nb' := nb.later hb
    clear c0 cD l0 lD lz nb hb
    have nb := nb'
    clear nb'
    have c0 := nb.bh.cell
    have cD := nb.bx.cell
    have l0 := nb.bh.lt
    have lD := nb.bx.lt
    have lz := nb.bl.size
    go_wp2_with (fail)
    refine (count_any u3 _ (some ⟨g1, 0, none⟩) n cc1 tx nb.ix (Nat.le_refl _) (fun hc => ends_all (valid_of hc))).mono ?_
    rintro e u4 ⟨rfl, hb⟩
    rw [countR_ok HN.out.hcx, HN.out.cnt]
    simp only [← H5.out]
    clear H5
    have nb' := nb.later hb
    clear c0 cD l0 lD lz nb hb
    have nb := nb'
    clear nb'
    have c0 := nb.bh.cell
    have cD := nb.bx.cell
    have l0 := nb.bh.lt
    have lD := nb.bx.lt
    have lz := nb.bl.size
    go_wp2_with (fail)
    refine (Next_any u4 B1 _ (some ⟨b1, o1, none⟩) (some ⟨g, 0, none⟩) n c n n ts s0 (h1.below nb.bl hB1) (by have := nb.bl.size; omega) nb.is (Nat.le_refl _) (fun _ => ends_all Hv.out.1)).mono ?_
    rintro e u5 ⟨v5, rfl, hrow5, hb⟩
    obtain ⟨A6, m6, c6, rfl, hi6⟩ := ListAt.of_row hrow5 (by have := HN.out.few; omega)
    obtain ⟨X1, hX1⟩ : ∃ X1, X1 = (nextR ts s0).1 := ⟨_, rfl⟩
    obtain ⟨z3, hz3⟩ : ∃ z3, z3 = (nextR ts s0).2 := ⟨_, rfl⟩
    rw [← hz3]
    rw [← hX1] at hi6
    have H6 := Lib.hid (And.intro hX1 (And.intro hz3 hi6))
    clear hX1 hz3 hi6 hrow5
    have nb' := nb.later hb
    clear c0 cD l0 lD lz nb hb
    have nb := nb'
    clear nb'
    have c0 := nb.bh.cell
    have cD := nb.bx.cell
    have l0 := nb.bh.lt
    have lD := nb.bx.lt
    have lz := nb.bl.size
    go_wp2_with (fail)
    refine (Next_any u5 _ _ (some ⟨g1, 0, none⟩) (some ⟨g2, 0, none⟩) n cc1 n c2 tx st nb.ix (Nat.le_refl _) nb.it (Nat.le_refl _) (fun h => ends_all (valid_of (stated_hall h)))).mono ?_
    rintro e u6 ⟨v6, rfl, hrow6, hb⟩
    obtain ⟨A7, m7, c7, rfl, hi7⟩ := ListAt.of_row hrow6 (by have := HN.out.few; have := HN.out.next.2; omega)
    obtain ⟨X2, hX2⟩ : ∃ X2, X2 = (nextR tx st).1 := ⟨_, rfl⟩
    rw [HN.out.next.1, ← H6.out.2.1]
    rw [← hX2] at hi7
    obtain rfl : m7 = m6 := by have a := hi7.len; have b := H6.out.2.2.len; have d := HN.out.next.2; rw [← hX2, ← H6.out.1] at d; omega
    have hi6 := (H6.out.2.2.below hb (Nat.le_refl _)).more hb.size
    have hfew : m7 ≤ 5 := by have a := hi7.len; have b := HN.out.few; have d := HN.out.next.2; rw [← hX2] at d; omega
    have H7 := Lib.hid (And.intro hX2 (And.intro hi6 hi7))
    clear hX2 hi6 hi7 hrow6
    have nb' := nb.later hb
    clear c0 cD l0 lD lz nb hb
    have nb := nb'
    clear nb'
    have c0 := nb.bh.cell
    have cD := nb.bx.cell
    have l0 := nb.bh.lt
    have lD := nb.bx.lt
    have lz := nb.bl.size
    go_wp2_with (fail)
    refine (Lasts_any u6 B1 _ (some ⟨b1, o1, none⟩) (some ⟨g, 0, none⟩) n c n n ts s0 (h1.below nb.bl hB1) (by have := nb.bl.size; omega) nb.is (Nat.le_refl _) (fun _ => ends_all Hv.out.1)).mono ?_
    rintro e u7 ⟨v7, rfl, hrow7, hb⟩
    obtain ⟨A8, c8, rfl, -⟩ := ownsRow_slice hrow7
    obtain ⟨m8, hm8⟩ : ∃ m8, m8 = (lastsR ts s0).1.length := ⟨_, rfl⟩
    obtain ⟨z4, hz4⟩ : ∃ z4, z4 = (lastsR ts s0).2 := ⟨_, rfl⟩
    simp only [← hz4, ← hm8]
    have hi6 := (H7.out.2.1.below hb (Nat.le_refl _)).more hb.size
    have hi7 := (H7.out.2.2.below hb (Nat.le_refl _)).more hb.size
    have H8 := Lib.hid (And.intro hm8 (And.intro hz4 (And.intro H7.out.1 (And.intro hi6 hi7))))
    clear hm8 hz4 hi6 hi7 hrow7 H7
    have nb' := nb.later hb
    clear c0 cD l0 lD lz nb hb
    have nb := nb'
    clear nb'
    have c0 := nb.bh.cell
    have cD := nb.bx.cell
    have l0 := nb.bh.lt
    have lD := nb.bx.lt
    have lz := nb.bl.size
    go_wp2_with (fail)
    refine (Lasts_any u7 _ _ (some ⟨g1, 0, none⟩) (some ⟨g2, 0, none⟩) n cc1 n c2 tx st nb.ix (Nat.le_refl _) nb.it (Nat.le_refl _) (fun h => ends_all (valid_of (stated_hall h)))).mono ?_
    rintro e u8 ⟨v8, rfl, hrow8, hb⟩
    rw [HN.out.lasts.1, ← H8.out.2.1]
    rw [HN.out.lasts.2, ← H8.out.1] at hrow8
    obtain ⟨A9, c9, rfl, -⟩ := ownsRow_slice hrow8
    have hi6 := (H8.out.2.2.2.1.below hb (Nat.le_refl _)).more hb.size
    have hi7 := (H8.out.2.2.2.2.below hb (Nat.le_refl _)).more hb.size
    have hback : ∀ j, j < m7 → ∃ i l : Nat, X2[j]?.getD 0 = (i : Int) ∧ i < n ∧ l < m7 ∧ X1[l]?.getD 0 = nm[i]?.getD 0 := fun j hj => by
      have a := hi6.len
      have b := hi7.len
      obtain ⟨i, l, q1, q2, q3, q4⟩ := HN.out.back j (by rw [← H8.out.2.2.1]; omega)
      rw [← H8.out.2.2.1] at q1
      rw [← H6.out.1] at q3 q4
      exact ⟨i, l, q1, q2, by omega, q4⟩
    have hcase : (z3 = 0 ∧ z4 = 5) ∨ (z3 ≠ 0 ∧ z4 ≠ 5) := by
      have h := HN.out.both
      rw [← H6.out.2.1, ← H8.out.2.1] at h
      by_cases hz : z3 = 0
      · exact .inl ⟨hz, h.1 hz⟩
      · exact .inr ⟨hz, fun h4 => hz (h.2 h4)⟩
    have HB := Lib.hid (And.intro hback (And.intro hi6 hi7))
    clear hback hi6 hi7 hrow8 H8 H6 HN H3 Hv
    have nb' := nb.later hb
    clear c0 cD l0 lD lz nb hb
    have nb := nb'
    clear nb'
    have c0 := nb.bh.cell
    have cD := nb.bx.cell
    have l0 := nb.bh.lt
    have lD := nb.bx.lt
    have lz := nb.bl.size
    have HNB := Lib.hid nb
    clear nb
    rcases hcase with ⟨hz3, hz4⟩ | ⟨hz3, hz4⟩
    case inl =>
      subst hz3 hz4
      go_wp2_with (fail)
      go_loopg [30] m7 (fun gg v30 wr => ∃ j : Nat, (j ≤ m7 ∧ gg = m7 - j ∧ v30 = .int .i64 (j : Int)) ∧ NB w (.slice (some ⟨b1, o1, none⟩) n c) (.slice (some ⟨g1, 0, none⟩) n cc1) D (some ⟨g1, 0, none⟩) (some ⟨g2, 0, none⟩) (some ⟨g, 0, none⟩) (some ⟨g3, 0, none⟩) n tx st s0 nm wr ∧ (IntsAt wr wr.heap.size A6 m7 X1 ∧ IntsAt wr wr.heap.size A7 m7 X2))
      case atStart => exact ⟨0, ⟨Nat.zero_le _, rfl, rfl⟩, HNB.out, HB.out.2⟩
      case round =>
        clear c0 cD l0 lD lz
        obtain ⟨j, ⟨hjm, rfl, rfl⟩, nb, hi6, hi7⟩ := hrel
        have c0 := nb.bh.cell
        by_cases hj : j < m7
        case neg =>
          have hB := nb.bl
          go_wp2_with (fail)
          refine (Works_any _).mono ?_
          rintro e wz ⟨rfl, hbz⟩
          go_wp2_with (fail)
          go_ret
          exact ⟨rfl, hB.trans (hbz.mono hB.size)⟩
        case pos =>
          obtain ⟨i, k0, q1, hin, hkm, q4⟩ := HB.out.1 j hj
          obtain ⟨y, hy⟩ : ∃ y, y = nm[i]?.getD 0 := ⟨_, rfl⟩
          rw [← hy] at q4
          have Hq := Lib.hid (And.intro q1 (And.intro q4 hy))
          clear q1 q4 hy
          have hjj : IntKind.i64.wrap ((j : Int) + 1) = (j : Int) + 1 := by rw [IntKind.wrap_i64]; omega
          go_wp2_with (fail)
          obtain ⟨wo, rfl⟩ : ∃ wo, wo = wr := ⟨_, rfl⟩
          go_loopg [31, 32] m7 (fun gg v31 v32 wr => ∃ (l : Nat) (f : Bool), (l ≤ m7 ∧ gg = m7 - l ∧ v32 = .int .i64 (l : Int) ∧ v31 = .bool f) ∧ (k0 < l → f = true) ∧ NB w (.slice (some ⟨b1, o1, none⟩) n c) (.slice (some ⟨g1, 0, none⟩) n cc1) D (some ⟨g1, 0, none⟩) (some ⟨g2, 0, none⟩) (some ⟨g, 0, none⟩) (some ⟨g3, 0, none⟩) n tx st s0 nm wr ∧ (IntsAt wr wr.heap.size A6 m7 X1 ∧ IntsAt wr wr.heap.size A7 m7 X2))
          case atStart => exact ⟨0, false, ⟨Nat.zero_le _, rfl, rfl, rfl⟩, fun h => absurd h (by omega), nb, hi6, hi7⟩
          case round =>
            clear nb hi6 hi7 c0
            obtain ⟨l, f, ⟨hlm, rfl, rfl, rfl⟩, hf, nb, hi6, hi7⟩ := hrel
            by_cases hl : l < m7
            case neg =>
              obtain rfl : f = true := hf (by omega)
              go_wp2_with (fail)
              go_roundg (m7 - (j + 1))
              case measure => omega
              case rel => exact ⟨j + 1, ⟨hj, rfl, rfl⟩, nb, hi6, hi7⟩
            case pos =>
              have hll : IntKind.i64.wrap ((l : Int) + 1) = (l : Int) + 1 := by rw [IntKind.wrap_i64]; omega
              obtain ⟨b6, o6, eA6, hb6, hc6⟩ := hi6.cell hl
              subst eA6
              obtain ⟨b7, o7, eA7, hb7, hc7⟩ := hi7.cell hj
              subst eA7
              obtain ⟨b8, o8, e8, hb8, hc8⟩ := nb.im.cell hin
              cases e8
              obtain ⟨x, hx⟩ : ∃ x, x = X1[l]?.getD 0 := ⟨_, rfl⟩
              rw [← hx] at hc6
              rw [Hq.out.1] at hc7
              rw [← Hq.out.2.2, Nat.zero_add] at hc8
              have cD := nb.bx.cell
              have hcD : ∀ W', Below wr.heap.size wr.drew W' → W'.cell? ⟨D, 0, none⟩ = some (.slice (some ⟨g1, 0, none⟩) n cc1) := fun W' hb => (hb.cell (p := ⟨D, 0, none⟩) nb.bx.lt).trans cD
              have hcl6 : ∀ W', Below wr.heap.size wr.drew W' → W'.cell? ⟨b6, o6 + l, none⟩ = some (.int .i64 x) := fun W' hb => (hb.cell (p := ⟨b6, o6 + l, none⟩) hb6).trans hc6
              have hcl7 : ∀ W', Below wr.heap.size wr.drew W' → W'.cell? ⟨b7, o7 + j, none⟩ = some (.int .i64 (i : Int)) := fun W' hb => (hb.cell (p := ⟨b7, o7 + j, none⟩) hb7).trans hc7
              have hcl8 : ∀ W', Below wr.heap.size wr.drew W' → W'.cell? ⟨g3, i, none⟩ = some (.int .i64 y) := fun W' hb => (hb.cell (p := ⟨g3, i, none⟩) hb8).trans hc8
              have Hl := Lib.hid (And.intro hx (And.intro hf (And.intro nb (And.intro hi6 hi7))))
              clear hx hf nb hi6 hi7 hc6 hc7 hc8 cD hb6 hb7 hb8
              cases f
              case true =>
                go_wp2_with (fail)
                refine region_held_wp 1 (fun W' => Below wr.heap.size wr.drew W') (fun _ => true) (by kernel_rfl) ?_
                intro KR hKR
                have hS : Below wr.heap.size wr.drew wr.drew := Below.refl _ _
                refine wpAnyHI_takeE (i := 0) (v := .bool true) (some 234) rfl rfl (by kernel_rfl) (by kernel_rfl) (by kernel_rfl) (by kernel_rfl) (by kernel_rfl) (fun _ _ _ h => h) hS (.inl ⟨by kernel_rfl, fun W' hS' => ?_⟩) ?_
                · go_simp
                refine wpAnyHI_takeE (i := 1) (v := .bool true) (some 235) rfl rfl (by kernel_rfl) (by kernel_rfl) (by kernel_rfl) (by kernel_rfl) (by kernel_rfl) (fun _ _ _ h => h) hS (.inl ⟨by kernel_rfl, fun W' hS' => ?_⟩) ?_
                · go_simp
                refine wpAnyHI_takeE (i := 2) (v := undef) (some 236) rfl rfl (by kernel_rfl) (by kernel_rfl) (by kernel_rfl) (by kernel_rfl) (by kernel_rfl) (fun _ _ _ h => h) hS (.inr ⟨by kernel_rfl, rfl⟩) ?_
                refine wpAnyHI_takeE (i := 3) (v := undef) (some 237) rfl rfl (by kernel_rfl) (by kernel_rfl) (by kernel_rfl) (by kernel_rfl) (by kernel_rfl) (fun _ _ _ h => h) hS (.inr ⟨by kernel_rfl, rfl⟩) ?_
                refine wpAnyHI_takeE (i := 4) (v := undef) (some 238) rfl rfl (by kernel_rfl) (by kernel_rfl) (by kernel_rfl) (by kernel_rfl) (by kernel_rfl) (fun _ _ _ h => h) hS (.inr ⟨by kernel_rfl, rfl⟩) ?_
                refine wpAnyHI_takeE (i := 5) (v := undef) (some 239) rfl rfl (by kernel_rfl) (by kernel_rfl) (by kernel_rfl) (by kernel_rfl) (by kernel_rfl) (fun _ _ _ h => h) hS (.inr ⟨by kernel_rfl, rfl⟩) ?_
                refine wpAnyHI_takeE (i := 6) (v := undef) (some 240) rfl rfl (by kernel_rfl) (by kernel_rfl) (by kernel_rfl) (by kernel_rfl) (by kernel_rfl) (fun _ _ _ h => h) hS (.inr ⟨by kernel_rfl, rfl⟩) ?_
                refine wpAnyHI_takeE (i := 7) (v := undef) (some 241) rfl rfl (by kernel_rfl) (by kernel_rfl) (by kernel_rfl) (by kernel_rfl) (by kernel_rfl) (fun _ _ _ h => h) hS (.inr ⟨by kernel_rfl, rfl⟩) ?_
                refine wpAnyHI_takeE (i := 8) (v := undef) (some 242) rfl rfl (by kernel_rfl) (by kernel_rfl) (by kernel_rfl) (by kernel_rfl) (by kernel_rfl) (fun _ _ _ h => h) hS (.inr ⟨by kernel_rfl, rfl⟩) ?_
                refine wpAnyHI_takeE (i := 9) (v := undef) (some 243) rfl rfl (by kernel_rfl) (by kernel_rfl) (by kernel_rfl) (by kernel_rfl) (by kernel_rfl) (fun _ _ _ h => h) hS (.inr ⟨by kernel_rfl, rfl⟩) ?_
                refine wpAnyHI_takeE (i := 10) (v := undef) (some 244) rfl rfl (by kernel_rfl) (by kernel_rfl) (by kernel_rfl) (by kernel_rfl) (by kernel_rfl) (fun _ _ _ h => h) hS (.inr ⟨by kernel_rfl, rfl⟩) ?_
                refine wpAnyHI_takeE (i := 11) (v := undef) (some 245) rfl rfl (by kernel_rfl) (by kernel_rfl) (by kernel_rfl) (by kernel_rfl) (by kernel_rfl) (fun _ _ _ h => h) hS (.inr ⟨by kernel_rfl, rfl⟩) ?_
                refine wpAnyHI_takeE (i := 12) (v := undef) (some 246) rfl rfl (by kernel_rfl) (by kernel_rfl) (by kernel_rfl) (by kernel_rfl) (by kernel_rfl) (fun _ _ _ h => h) hS (.inr ⟨by kernel_rfl, rfl⟩) ?_
                refine wpAnyHI_takeE (i := 13) (v := undef) (some 247) rfl rfl (by kernel_rfl) (by kernel_rfl) (by kernel_rfl) (by kernel_rfl) (by kernel_rfl) (fun _ _ _ h => h) hS (.inr ⟨by kernel_rfl, rfl⟩) ?_
                refine wpAnyHI_takeE (i := 14) (v := undef) (some 248) rfl rfl (by kernel_rfl) (by kernel_rfl) (by kernel_rfl) (by kernel_rfl) (by kernel_rfl) (fun _ _ _ h => h) hS (.inr ⟨by kernel_rfl, rfl⟩) ?_
                refine wpAnyHI_takeE (i := 15) (v := undef) (some 249) rfl rfl (by kernel_rfl) (by kernel_rfl) (by kernel_rfl) (by kernel_rfl) (by kernel_rfl) (fun _ _ _ h => h) hS (.inr ⟨by kernel_rfl, rfl⟩) ?_
                refine wpAnyHI_takeE (i := 16) (v := undef) (some 250) rfl rfl (by kernel_rfl) (by kernel_rfl) (by kernel_rfl) (by kernel_rfl) (by kernel_rfl) (fun _ _ _ h => h) hS (.inr ⟨by kernel_rfl, rfl⟩) ?_
                refine wpAnyHI_takeE (i := 17) (v := undef) (some 251) rfl rfl (by kernel_rfl) (by kernel_rfl) (by kernel_rfl) (by kernel_rfl) (by kernel_rfl) (fun _ _ _ h => h) hS (.inr ⟨by kernel_rfl, rfl⟩) ?_
                refine wpAnyHI_takeE (i := 18) (v := undef) (some 252) rfl rfl (by kernel_rfl) (by kernel_rfl) (by kernel_rfl) (by kernel_rfl) (by kernel_rfl) (fun _ _ _ h => h) hS (.inr ⟨by kernel_rfl, rfl⟩) ?_
                refine wpAnyHI_takeE (i := 19) (v := undef) (some 253) rfl rfl (by kernel_rfl) (by kernel_rfl) (by kernel_rfl) (by kernel_rfl) (by kernel_rfl) (fun _ _ _ h => h) hS (.inr ⟨by kernel_rfl, rfl⟩) ?_
                refine wpAnyHI_takeE (i := 20) (v := undef) (some 254) rfl rfl (by kernel_rfl) (by kernel_rfl) (by kernel_rfl) (by kernel_rfl) (by kernel_rfl) (fun _ _ _ h => h) hS (.inr ⟨by kernel_rfl, rfl⟩) ?_
                refine wpAnyHI_takeE (i := 21) (v := undef) (some 255) rfl rfl (by kernel_rfl) (by kernel_rfl) (by kernel_rfl) (by kernel_rfl) (by kernel_rfl) (fun _ _ _ h => h) hS (.inr ⟨by kernel_rfl, rfl⟩) ?_
                refine wpAnyHI_takeE (i := 22) (v := .bool true) (some 256) rfl rfl (by kernel_rfl) (by kernel_rfl) (by kernel_rfl) (by kernel_rfl) (by kernel_rfl) (fun _ _ _ h => h) hS (.inl ⟨by kernel_rfl, fun W' hS' => ?_⟩) ?_
                · go_simp
                refine wpAnyHI_takeE (i := 23) (v := .bool true) (some 31) rfl rfl (by kernel_rfl) (by kernel_rfl) (by kernel_rfl) (by kernel_rfl) (by kernel_rfl) (fun _ _ _ h => h) hS (.inl ⟨by kernel_rfl, fun W' hS' => ?_⟩) ?_
                · go_simp
                refine wpAnyHI_end (by kernel_rfl) ?_
                show KR _ _
                go_simp
                refine hKR _ _ ?_
                clear hKR KR
                have hbV := below_drew wr
                clear hcD hcl6 hcl7 hcl8
                go_wp2_with (fail)
                go_roundg (m7 - (l + 1))
                case measure => omega
                case rel => exact ⟨l + 1, true, ⟨hl, rfl, rfl, rfl⟩, fun _ => rfl, Hl.out.2.2.1.later hbV, (Hl.out.2.2.2.1.below hbV (Nat.le_refl _)).more hbV.size, (Hl.out.2.2.2.2.below hbV (Nat.le_refl _)).more hbV.size⟩
              case false =>
                go_wp2_with (fail)
                refine region_held_wp 1 (fun W' => Below wr.heap.size wr.drew W') (fun _ => true) (by kernel_rfl) ?_
                intro KR hKR
                have hS : Below wr.heap.size wr.drew wr.drew := Below.refl _ _
                refine wpAnyHI_takeE (i := 0) (v := .bool false) (some 234) rfl rfl (by kernel_rfl) (by kernel_rfl) (by kernel_rfl) (by kernel_rfl) (by kernel_rfl) (fun _ _ _ h => h) hS (.inl ⟨by kernel_rfl, fun W' hS' => ?_⟩) ?_
                · go_simp
                refine wpAnyHI_takeE (i := 1) (v := .bool false) (some 235) rfl rfl (by kernel_rfl) (by kernel_rfl) (by kernel_rfl) (by kernel_rfl) (by kernel_rfl) (fun _ _ _ h => h) hS (.inl ⟨by kernel_rfl, fun W' hS' => ?_⟩) ?_
                · go_simp
                refine wpAnyHI_takeE (i := 2) (v := .agg #[.slice (some ⟨g1, 0, none⟩) n cc1]) (some 236) rfl rfl (by kernel_rfl) (by kernel_rfl) (by kernel_rfl) (by kernel_rfl) (by kernel_rfl) (fun _ _ _ h => h) hS (.inl ⟨by kernel_rfl, fun W' hS' => ?_⟩) ?_
                · have q := hcD W' hS'; go_simp
                refine wpAnyHI_takeE (i := 3) (v := .slice (some ⟨b7, o7, none⟩) m7 c7) (some 237) rfl rfl (by kernel_rfl) (by kernel_rfl) (by kernel_rfl) (by kernel_rfl) (by kernel_rfl) (fun _ _ _ h => h) hS (.inl ⟨by kernel_rfl, fun W' hS' => ?_⟩) ?_
                · go_simp
                refine wpAnyHI_takeE (i := 4) (v := .int .i64 (j : Int)) (some 238) rfl rfl (by kernel_rfl) (by kernel_rfl) (by kernel_rfl) (by kernel_rfl) (by kernel_rfl) (fun _ _ _ h => h) hS (.inl ⟨by kernel_rfl, fun W' hS' => ?_⟩) ?_
                · go_simp
                refine wpAnyHI_takeE (i := 5) (v := .pointer (some ⟨b7, o7 + j, none⟩)) (some 239) rfl rfl (by kernel_rfl) (by kernel_rfl) (by kernel_rfl) (by kernel_rfl) (by kernel_rfl) (fun _ _ _ h => h) hS (.inl ⟨by kernel_rfl, fun W' hS' => ?_⟩) ?_
                · go_simp <;> omega
                refine wpAnyHI_takeE (i := 6) (v := .int .i64 (i : Int)) (some 240) rfl rfl (by kernel_rfl) (by kernel_rfl) (by kernel_rfl) (by kernel_rfl) (by kernel_rfl) (fun _ _ _ h => h) hS (.inl ⟨by kernel_rfl, fun W' hS' => ?_⟩) ?_
                · have q := hcl7 W' hS'; go_simp
                refine wpAnyHI_one (i := 7) rfl (by kernel_rfl) ?_
                intro K1 hK1
                go_simp
                refine ⟨trivial, (callsIn_wide.2 (isWindow_any _ (some ⟨g1, 0, none⟩) n cc1 (i : Int))).mono ?_⟩
                rintro e V ⟨rfl, hV⟩
                rw [show isWinF n (i : Int) = true from by simp [isWinF]; omega]
                have hS4 : Below wr.heap.size wr.drew V := by rw [hV]; exact (Below.refl wr.heap.size wr.drew).alloc (Nat.le_refl _) _
                clear hV
                refine hK1 _ _ ⟨fun _ => hS4, ?_⟩
                clear hK1 K1
                refine wpAnyHI_takeE (i := 8) (v := .bool true) (some 242) rfl rfl (by kernel_rfl) (by kernel_rfl) (by kernel_rfl) (by kernel_rfl) (by kernel_rfl) (fun _ _ _ h => h) hS4 (.inl ⟨by kernel_rfl, fun W' hS' => ?_⟩) ?_
                · go_simp
                refine wpAnyHI_takeE (i := 9) (v := .slice (some ⟨b6, o6, none⟩) m7 c6) (some 243) rfl rfl (by kernel_rfl) (by kernel_rfl) (by kernel_rfl) (by kernel_rfl) (by kernel_rfl) (fun _ _ _ h => h) hS4 (.inl ⟨by kernel_rfl, fun W' hS' => ?_⟩) ?_
                · go_simp
                refine wpAnyHI_takeE (i := 10) (v := .int .i64 (l : Int)) (some 244) rfl rfl (by kernel_rfl) (by kernel_rfl) (by kernel_rfl) (by kernel_rfl) (by kernel_rfl) (fun _ _ _ h => h) hS4 (.inl ⟨by kernel_rfl, fun W' hS' => ?_⟩) ?_
                · go_simp
                refine wpAnyHI_takeE (i := 11) (v := .pointer (some ⟨b6, o6 + l, none⟩)) (some 245) rfl rfl (by kernel_rfl) (by kernel_rfl) (by kernel_rfl) (by kernel_rfl) (by kernel_rfl) (fun _ _ _ h => h) hS4 (.inl ⟨by kernel_rfl, fun W' hS' => ?_⟩) ?_
                · go_simp <;> omega
                refine wpAnyHI_takeE (i := 12) (v := .int .i64 x) (some 246) rfl rfl (by kernel_rfl) (by kernel_rfl) (by kernel_rfl) (by kernel_rfl) (by kernel_rfl) (fun _ _ _ h => h) hS4 (.inl ⟨by kernel_rfl, fun W' hS' => ?_⟩) ?_
                · have q := hcl6 W' hS'; go_simp
                refine wpAnyHI_takeE (i := 13) (v := .slice (some ⟨g3, 0, none⟩) n c3) (some 247) rfl rfl (by kernel_rfl) (by kernel_rfl) (by kernel_rfl) (by kernel_rfl) (by kernel_rfl) (fun _ _ _ h => h) hS4 (.inl ⟨by kernel_rfl, fun W' hS' => ?_⟩) ?_
                · go_simp
                refine wpAnyHI_takeE (i := 14) (v := .slice (some ⟨b7, o7, none⟩) m7 c7) (some 248) rfl rfl (by kernel_rfl) (by kernel_rfl) (by kernel_rfl) (by kernel_rfl) (by kernel_rfl) (fun _ _ _ h => h) hS4 (.inl ⟨by kernel_rfl, fun W' hS' => ?_⟩) ?_
                · go_simp
                refine wpAnyHI_takeE (i := 15) (v := .int .i64 (j : Int)) (some 249) rfl rfl (by kernel_rfl) (by kernel_rfl) (by kernel_rfl) (by kernel_rfl) (by kernel_rfl) (fun _ _ _ h => h) hS4 (.inl ⟨by kernel_rfl, fun W' hS' => ?_⟩) ?_
                · go_simp
                refine wpAnyHI_takeE (i := 16) (v := .pointer (some ⟨b7, o7 + j, none⟩)) (some 250) rfl rfl (by kernel_rfl) (by kernel_rfl) (by kernel_rfl) (by kernel_rfl) (by kernel_rfl) (fun _ _ _ h => h) hS4 (.inl ⟨by kernel_rfl, fun W' hS' => ?_⟩) ?_
                · go_simp <;> omega
                refine wpAnyHI_takeE (i := 17) (v := .int .i64 (i : Int)) (some 251) rfl rfl (by kernel_rfl) (by kernel_rfl) (by kernel_rfl) (by kernel_rfl) (by kernel_rfl) (fun _ _ _ h => h) hS4 (.inl ⟨by kernel_rfl, fun W' hS' => ?_⟩) ?_
                · have q := hcl7 W' hS'; go_simp
                refine wpAnyHI_takeE (i := 18) (v := .pointer (some ⟨g3, i, none⟩)) (some 252) rfl rfl (by kernel_rfl) (by kernel_rfl) (by kernel_rfl) (by kernel_rfl) (by kernel_rfl) (fun _ _ _ h => h) hS4 (.inl ⟨by kernel_rfl, fun W' hS' => ?_⟩) ?_
                · go_simp <;> omega
                refine wpAnyHI_takeE (i := 19) (v := .int .i64 y) (some 253) rfl rfl (by kernel_rfl) (by kernel_rfl) (by kernel_rfl) (by kernel_rfl) (by kernel_rfl) (fun _ _ _ h => h) hS4 (.inl ⟨by kernel_rfl, fun W' hS' => ?_⟩) ?_
                · have q := hcl8 W' hS'; go_simp
                refine wpAnyHI_takeE (i := 20) (v := .bool (decide (x = y))) (some 254) rfl rfl (by kernel_rfl) (by kernel_rfl) (by kernel_rfl) (by kernel_rfl) (by kernel_rfl) (fun _ _ _ h => h) hS4 (.inl ⟨by kernel_rfl, fun W' hS' => ?_⟩) ?_
                · go_simp
                  rfl
                refine wpAnyHI_takeE (i := 21) (v := .bool (decide (x = y))) (some 255) rfl rfl (by kernel_rfl) (by kernel_rfl) (by kernel_rfl) (by kernel_rfl) (by kernel_rfl) (fun _ _ _ h => h) hS4 (.inl ⟨by kernel_rfl, fun W' hS' => ?_⟩) ?_
                · go_simp
                refine wpAnyHI_takeE (i := 22) (v := .bool (decide (x = y))) (some 256) rfl rfl (by kernel_rfl) (by kernel_rfl) (by kernel_rfl) (by kernel_rfl) (by kernel_rfl) (fun _ _ _ h => h) hS4 (.inl ⟨by kernel_rfl, fun W' hS' => ?_⟩) ?_
                · go_simp
                refine wpAnyHI_takeE (i := 23) (v := .bool (decide (x = y))) (some 31) rfl rfl (by kernel_rfl) (by kernel_rfl) (by kernel_rfl) (by kernel_rfl) (by kernel_rfl) (fun _ _ _ h => h) hS4 (.inl ⟨by kernel_rfl, fun W' hS' => ?_⟩) ?_
                · go_simp
                have hkk : k0 < l + 1 → decide (x = y) = true := fun h => by
                  have hkl : l = k0 := by
                    by_cases hk : k0 < l
                    · exact absurd (Hl.out.2.1 hk) (by simp)
                    · omega
                  exact decide_eq_true (Hl.out.1.trans (by rw [hkl]; exact Hq.out.2.1))
                refine wpAnyHI_end (by kernel_rfl) ?_
                show KR _ _
                go_simp
                refine hKR _ _ ?_
                clear hKR KR
                have hbV := (below_drew wr).trans hS4
                clear hcD hcl6 hcl7 hcl8
                go_wp2_with (fail)
                go_roundg (m7 - (l + 1))
                case measure => omega
                case rel => exact ⟨l + 1, decide (x = y), ⟨hl, rfl, rfl, rfl⟩, hkk, Hl.out.2.2.1.later hbV, (Hl.out.2.2.2.1.below hbV (Nat.le_refl _)).more hbV.size, (Hl.out.2.2.2.2.below hbV (Nat.le_refl _)).more hbV.size⟩
    case inr =>
      have e3 : (z3 == 0) = false := by simp [hz3]
      have e4 : (z4 == 5) = false := by simp [hz4]
      clear hz3 hz4
      go_wp2_with (fail)
      go_loopg [30] m7 (fun gg v30 wr => ∃ j : Nat, (j ≤ m7 ∧ gg = m7 - j ∧ v30 = .int .i64 (j : Int)) ∧ NB w (.slice (some ⟨b1, o1, none⟩) n c) (.slice (some ⟨g1, 0, none⟩) n cc1) D (some ⟨g1, 0, none⟩) (some ⟨g2, 0, none⟩) (some ⟨g, 0, none⟩) (some ⟨g3, 0, none⟩) n tx st s0 nm wr ∧ (IntsAt wr wr.heap.size A6 m7 X1 ∧ IntsAt wr wr.heap.size A7 m7 X2))
      case atStart => exact ⟨0, ⟨Nat.zero_le _, rfl, rfl⟩, HNB.out, HB.out.2⟩
      case round =>
        clear c0 cD l0 lD lz
        obtain ⟨j, ⟨hjm, rfl, rfl⟩, nb, hi6, hi7⟩ := hrel
        have c0 := nb.bh.cell
        by_cases hj : j < m7
        case neg =>
          have hB := nb.bl
          go_wp2_with (fail)
          refine (Works_any _).mono ?_
          rintro e wz ⟨rfl, hbz⟩
          go_wp2_with (fail)
          go_ret
          exact ⟨rfl, hB.trans (hbz.mono hB.size)⟩
        case pos =>
          obtain ⟨i, k0, q1, hin, hkm, q4⟩ := HB.out.1 j hj
          obtain ⟨y, hy⟩ : ∃ y, y = nm[i]?.getD 0 := ⟨_, rfl⟩
          rw [← hy] at q4
          have Hq := Lib.hid (And.intro q1 (And.intro q4 hy))
          clear q1 q4 hy
          have hjj : IntKind.i64.wrap ((j : Int) + 1) = (j : Int) + 1 := by rw [IntKind.wrap_i64]; omega
          go_wp2_with (fail)
          obtain ⟨wo, rfl⟩ : ∃ wo, wo = wr := ⟨_, rfl⟩
          go_loopg [31, 32] m7 (fun gg v31 v32 wr => ∃ (l : Nat) (f : Bool), (l ≤ m7 ∧ gg = m7 - l ∧ v32 = .int .i64 (l : Int) ∧ v31 = .bool f) ∧ (k0 < l → f = true) ∧ NB w (.slice (some ⟨b1, o1, none⟩) n c) (.slice (some ⟨g1, 0, none⟩) n cc1) D (some ⟨g1, 0, none⟩) (some ⟨g2, 0, none⟩) (some ⟨g, 0, none⟩) (some ⟨g3, 0, none⟩) n tx st s0 nm wr ∧ (IntsAt wr wr.heap.size A6 m7 X1 ∧ IntsAt wr wr.heap.size A7 m7 X2))
          case atStart => exact ⟨0, false, ⟨Nat.zero_le _, rfl, rfl, rfl⟩, fun h => absurd h (by omega), nb, hi6, hi7⟩
          case round =>
            clear nb hi6 hi7 c0
            obtain ⟨l, f, ⟨hlm, rfl, rfl, rfl⟩, hf, nb, hi6, hi7⟩ := hrel
            by_cases hl : l < m7
            case neg =>
              obtain rfl : f = true := hf (by omega)
              go_wp2_with (fail)
              go_roundg (m7 - (j + 1))
              case measure => omega
              case rel => exact ⟨j + 1, ⟨hj, rfl, rfl⟩, nb, hi6, hi7⟩
            case pos =>
              have hll : IntKind.i64.wrap ((l : Int) + 1) = (l : Int) + 1 := by rw [IntKind.wrap_i64]; omega
              obtain ⟨b6, o6, eA6, hb6, hc6⟩ := hi6.cell hl
              subst eA6
              obtain ⟨b7, o7, eA7, hb7, hc7⟩ := hi7.cell hj
              subst eA7
              obtain ⟨b8, o8, e8, hb8, hc8⟩ := nb.im.cell hin
              cases e8
              obtain ⟨x, hx⟩ : ∃ x, x = X1[l]?.getD 0 := ⟨_, rfl⟩
              rw [← hx] at hc6
              rw [Hq.out.1] at hc7
              rw [← Hq.out.2.2, Nat.zero_add] at hc8
              have cD := nb.bx.cell
              have hcD : ∀ W', Below wr.heap.size wr.drew W' → W'.cell? ⟨D, 0, none⟩ = some (.slice (some ⟨g1, 0, none⟩) n cc1) := fun W' hb => (hb.cell (p := ⟨D, 0, none⟩) nb.bx.lt).trans cD
              have hcl6 : ∀ W', Below wr.heap.size wr.drew W' → W'.cell? ⟨b6, o6 + l, none⟩ = some (.int .i64 x) := fun W' hb => (hb.cell (p := ⟨b6, o6 + l, none⟩) hb6).trans hc6
              have hcl7 : ∀ W', Below wr.heap.size wr.drew W' → W'.cell? ⟨b7, o7 + j, none⟩ = some (.int .i64 (i : Int)) := fun W' hb => (hb.cell (p := ⟨b7, o7 + j, none⟩) hb7).trans hc7
              have hcl8 : ∀ W', Below wr.heap.size wr.drew W' → W'.cell? ⟨g3, i, none⟩ = some (.int .i64 y) := fun W' hb => (hb.cell (p := ⟨g3, i, none⟩) hb8).trans hc8
              have Hl := Lib.hid (And.intro hx (And.intro hf (And.intro nb (And.intro hi6 hi7))))
              clear hx hf nb hi6 hi7 hc6 hc7 hc8 cD hb6 hb7 hb8
              cases f
              case true =>
                go_wp2_with (fail)
                refine region_held_wp 1 (fun W' => Below wr.heap.size wr.drew W') (fun _ => true) (by kernel_rfl) ?_
                intro KR hKR
                have hS : Below wr.heap.size wr.drew wr.drew := Below.refl _ _
                refine wpAnyHI_takeE (i := 0) (v := .bool true) (some 234) rfl rfl (by kernel_rfl) (by kernel_rfl) (by kernel_rfl) (by kernel_rfl) (by kernel_rfl) (fun _ _ _ h => h) hS (.inl ⟨by kernel_rfl, fun W' hS' => ?_⟩) ?_
                · go_simp
                refine wpAnyHI_takeE (i := 1) (v := .bool true) (some 235) rfl rfl (by kernel_rfl) (by kernel_rfl) (by kernel_rfl) (by kernel_rfl) (by kernel_rfl) (fun _ _ _ h => h) hS (.inl ⟨by kernel_rfl, fun W' hS' => ?_⟩) ?_
                · go_simp
                refine wpAnyHI_takeE (i := 2) (v := undef) (some 236) rfl rfl (by kernel_rfl) (by kernel_rfl) (by kernel_rfl) (by kernel_rfl) (by kernel_rfl) (fun _ _ _ h => h) hS (.inr ⟨by kernel_rfl, rfl⟩) ?_
                refine wpAnyHI_takeE (i := 3) (v := undef) (some 237) rfl rfl (by kernel_rfl) (by kernel_rfl) (by kernel_rfl) (by kernel_rfl) (by kernel_rfl) (fun _ _ _ h => h) hS (.inr ⟨by kernel_rfl, rfl⟩) ?_
                refine wpAnyHI_takeE (i := 4) (v := undef) (some 238) rfl rfl (by kernel_rfl) (by kernel_rfl) (by kernel_rfl) (by kernel_rfl) (by kernel_rfl) (fun _ _ _ h => h) hS (.inr ⟨by kernel_rfl, rfl⟩) ?_
                refine wpAnyHI_takeE (i := 5) (v := undef) (some 239) rfl rfl (by kernel_rfl) (by kernel_rfl) (by kernel_rfl) (by kernel_rfl) (by kernel_rfl) (fun _ _ _ h => h) hS (.inr ⟨by kernel_rfl, rfl⟩) ?_
                refine wpAnyHI_takeE (i := 6) (v := undef) (some 240) rfl rfl (by kernel_rfl) (by kernel_rfl) (by kernel_rfl) (by kernel_rfl) (by kernel_rfl) (fun _ _ _ h => h) hS (.inr ⟨by kernel_rfl, rfl⟩) ?_
                refine wpAnyHI_takeE (i := 7) (v := undef) (some 241) rfl rfl (by kernel_rfl) (by kernel_rfl) (by kernel_rfl) (by kernel_rfl) (by kernel_rfl) (fun _ _ _ h => h) hS (.inr ⟨by kernel_rfl, rfl⟩) ?_
                refine wpAnyHI_takeE (i := 8) (v := undef) (some 242) rfl rfl (by kernel_rfl) (by kernel_rfl) (by kernel_rfl) (by kernel_rfl) (by kernel_rfl) (fun _ _ _ h => h) hS (.inr ⟨by kernel_rfl, rfl⟩) ?_
                refine wpAnyHI_takeE (i := 9) (v := undef) (some 243) rfl rfl (by kernel_rfl) (by kernel_rfl) (by kernel_rfl) (by kernel_rfl) (by kernel_rfl) (fun _ _ _ h => h) hS (.inr ⟨by kernel_rfl, rfl⟩) ?_
                refine wpAnyHI_takeE (i := 10) (v := undef) (some 244) rfl rfl (by kernel_rfl) (by kernel_rfl) (by kernel_rfl) (by kernel_rfl) (by kernel_rfl) (fun _ _ _ h => h) hS (.inr ⟨by kernel_rfl, rfl⟩) ?_
                refine wpAnyHI_takeE (i := 11) (v := undef) (some 245) rfl rfl (by kernel_rfl) (by kernel_rfl) (by kernel_rfl) (by kernel_rfl) (by kernel_rfl) (fun _ _ _ h => h) hS (.inr ⟨by kernel_rfl, rfl⟩) ?_
                refine wpAnyHI_takeE (i := 12) (v := undef) (some 246) rfl rfl (by kernel_rfl) (by kernel_rfl) (by kernel_rfl) (by kernel_rfl) (by kernel_rfl) (fun _ _ _ h => h) hS (.inr ⟨by kernel_rfl, rfl⟩) ?_
                refine wpAnyHI_takeE (i := 13) (v := undef) (some 247) rfl rfl (by kernel_rfl) (by kernel_rfl) (by kernel_rfl) (by kernel_rfl) (by kernel_rfl) (fun _ _ _ h => h) hS (.inr ⟨by kernel_rfl, rfl⟩) ?_
                refine wpAnyHI_takeE (i := 14) (v := undef) (some 248) rfl rfl (by kernel_rfl) (by kernel_rfl) (by kernel_rfl) (by kernel_rfl) (by kernel_rfl) (fun _ _ _ h => h) hS (.inr ⟨by kernel_rfl, rfl⟩) ?_
                refine wpAnyHI_takeE (i := 15) (v := undef) (some 249) rfl rfl (by kernel_rfl) (by kernel_rfl) (by kernel_rfl) (by kernel_rfl) (by kernel_rfl) (fun _ _ _ h => h) hS (.inr ⟨by kernel_rfl, rfl⟩) ?_
                refine wpAnyHI_takeE (i := 16) (v := undef) (some 250) rfl rfl (by kernel_rfl) (by kernel_rfl) (by kernel_rfl) (by kernel_rfl) (by kernel_rfl) (fun _ _ _ h => h) hS (.inr ⟨by kernel_rfl, rfl⟩) ?_
                refine wpAnyHI_takeE (i := 17) (v := undef) (some 251) rfl rfl (by kernel_rfl) (by kernel_rfl) (by kernel_rfl) (by kernel_rfl) (by kernel_rfl) (fun _ _ _ h => h) hS (.inr ⟨by kernel_rfl, rfl⟩) ?_
                refine wpAnyHI_takeE (i := 18) (v := undef) (some 252) rfl rfl (by kernel_rfl) (by kernel_rfl) (by kernel_rfl) (by kernel_rfl) (by kernel_rfl) (fun _ _ _ h => h) hS (.inr ⟨by kernel_rfl, rfl⟩) ?_
                refine wpAnyHI_takeE (i := 19) (v := undef) (some 253) rfl rfl (by kernel_rfl) (by kernel_rfl) (by kernel_rfl) (by kernel_rfl) (by kernel_rfl) (fun _ _ _ h => h) hS (.inr ⟨by kernel_rfl, rfl⟩) ?_
                refine wpAnyHI_takeE (i := 20) (v := undef) (some 254) rfl rfl (by kernel_rfl) (by kernel_rfl) (by kernel_rfl) (by kernel_rfl) (by kernel_rfl) (fun _ _ _ h => h) hS (.inr ⟨by kernel_rfl, rfl⟩) ?_
                refine wpAnyHI_takeE (i := 21) (v := undef) (some 255) rfl rfl (by kernel_rfl) (by kernel_rfl) (by kernel_rfl) (by kernel_rfl) (by kernel_rfl) (fun _ _ _ h => h) hS (.inr ⟨by kernel_rfl, rfl⟩) ?_
                refine wpAnyHI_takeE (i := 22) (v := .bool true) (some 256) rfl rfl (by kernel_rfl) (by kernel_rfl) (by kernel_rfl) (by kernel_rfl) (by kernel_rfl) (fun _ _ _ h => h) hS (.inl ⟨by kernel_rfl, fun W' hS' => ?_⟩) ?_
                · go_simp
                refine wpAnyHI_takeE (i := 23) (v := .bool true) (some 31) rfl rfl (by kernel_rfl) (by kernel_rfl) (by kernel_rfl) (by kernel_rfl) (by kernel_rfl) (fun _ _ _ h => h) hS (.inl ⟨by kernel_rfl, fun W' hS' => ?_⟩) ?_
                · go_simp
                refine wpAnyHI_end (by kernel_rfl) ?_
                show KR _ _
                go_simp
                refine hKR _ _ ?_
                clear hKR KR
                have hbV := below_drew wr
                clear hcD hcl6 hcl7 hcl8
                go_wp2_with (fail)
                go_roundg (m7 - (l + 1))
                case measure => omega
                case rel => exact ⟨l + 1, true, ⟨hl, rfl, rfl, rfl⟩, fun _ => rfl, Hl.out.2.2.1.later hbV, (Hl.out.2.2.2.1.below hbV (Nat.le_refl _)).more hbV.size, (Hl.out.2.2.2.2.below hbV (Nat.le_refl _)).more hbV.size⟩
              case false =>
                go_wp2_with (fail)
                refine region_held_wp 1 (fun W' => Below wr.heap.size wr.drew W') (fun _ => true) (by kernel_rfl) ?_
                intro KR hKR
                have hS : Below wr.heap.size wr.drew wr.drew := Below.refl _ _
                refine wpAnyHI_takeE (i := 0) (v := .bool false) (some 234) rfl rfl (by kernel_rfl) (by kernel_rfl) (by kernel_rfl) (by kernel_rfl) (by kernel_rfl) (fun _ _ _ h => h) hS (.inl ⟨by kernel_rfl, fun W' hS' => ?_⟩) ?_
                · go_simp
                refine wpAnyHI_takeE (i := 1) (v := .bool false) (some 235) rfl rfl (by kernel_rfl) (by kernel_rfl) (by kernel_rfl) (by kernel_rfl) (by kernel_rfl) (fun _ _ _ h => h) hS (.inl ⟨by kernel_rfl, fun W' hS' => ?_⟩) ?_
                · go_simp
                refine wpAnyHI_takeE (i := 2) (v := .agg #[.slice (some ⟨g1, 0, none⟩) n cc1]) (some 236) rfl rfl (by kernel_rfl) (by kernel_rfl) (by kernel_rfl) (by kernel_rfl) (by kernel_rfl) (fun _ _ _ h => h) hS (.inl ⟨by kernel_rfl, fun W' hS' => ?_⟩) ?_
                · have q := hcD W' hS'; go_simp
                refine wpAnyHI_takeE (i := 3) (v := .slice (some ⟨b7, o7, none⟩) m7 c7) (some 237) rfl rfl (by kernel_rfl) (by kernel_rfl) (by kernel_rfl) (by kernel_rfl) (by kernel_rfl) (fun _ _ _ h => h) hS (.inl ⟨by kernel_rfl, fun W' hS' => ?_⟩) ?_
                · go_simp
                refine wpAnyHI_takeE (i := 4) (v := .int .i64 (j : Int)) (some 238) rfl rfl (by kernel_rfl) (by kernel_rfl) (by kernel_rfl) (by kernel_rfl) (by kernel_rfl) (fun _ _ _ h => h) hS (.inl ⟨by kernel_rfl, fun W' hS' => ?_⟩) ?_
                · go_simp
                refine wpAnyHI_takeE (i := 5) (v := .pointer (some ⟨b7, o7 + j, none⟩)) (some 239) rfl rfl (by kernel_rfl) (by kernel_rfl) (by kernel_rfl) (by kernel_rfl) (by kernel_rfl) (fun _ _ _ h => h) hS (.inl ⟨by kernel_rfl, fun W' hS' => ?_⟩) ?_
                · go_simp <;> omega
                refine wpAnyHI_takeE (i := 6) (v := .int .i64 (i : Int)) (some 240) rfl rfl (by kernel_rfl) (by kernel_rfl) (by kernel_rfl) (by kernel_rfl) (by kernel_rfl) (fun _ _ _ h => h) hS (.inl ⟨by kernel_rfl, fun W' hS' => ?_⟩) ?_
                · have q := hcl7 W' hS'; go_simp
                refine wpAnyHI_one (i := 7) rfl (by kernel_rfl) ?_
                intro K1 hK1
                go_simp
                refine ⟨trivial, (callsIn_wide.2 (isWindow_any _ (some ⟨g1, 0, none⟩) n cc1 (i : Int))).mono ?_⟩
                rintro e V ⟨rfl, hV⟩
                rw [show isWinF n (i : Int) = true from by simp [isWinF]; omega]
                have hS4 : Below wr.heap.size wr.drew V := by rw [hV]; exact (Below.refl wr.heap.size wr.drew).alloc (Nat.le_refl _) _
                clear hV
                refine hK1 _ _ ⟨fun _ => hS4, ?_⟩
                clear hK1 K1
                refine wpAnyHI_takeE (i := 8) (v := .bool true) (some 242) rfl rfl (by kernel_rfl) (by kernel_rfl) (by kernel_rfl) (by kernel_rfl) (by kernel_rfl) (fun _ _ _ h => h) hS4 (.inl ⟨by kernel_rfl, fun W' hS' => ?_⟩) ?_
                · go_simp
                refine wpAnyHI_takeE (i := 9) (v := .slice (some ⟨b6, o6, none⟩) m7 c6) (some 243) rfl rfl (by kernel_rfl) (by kernel_rfl) (by kernel_rfl) (by kernel_rfl) (by kernel_rfl) (fun _ _ _ h => h) hS4 (.inl ⟨by kernel_rfl, fun W' hS' => ?_⟩) ?_
                · go_simp
                refine wpAnyHI_takeE (i := 10) (v := .int .i64 (l : Int)) (some 244) rfl rfl (by kernel_rfl) (by kernel_rfl) (by kernel_rfl) (by kernel_rfl) (by kernel_rfl) (fun _ _ _ h => h) hS4 (.inl ⟨by kernel_rfl, fun W' hS' => ?_⟩) ?_
                · go_simp
                refine wpAnyHI_takeE (i := 11) (v := .pointer (some ⟨b6, o6 + l, none⟩)) (some 245) rfl rfl (by kernel_rfl) (by kernel_rfl) (by kernel_rfl) (by kernel_rfl) (by kernel_rfl) (fun _ _ _ h => h) hS4 (.inl ⟨by kernel_rfl, fun W' hS' => ?_⟩) ?_
                · go_simp <;> omega
                refine wpAnyHI_takeE (i := 12) (v := .int .i64 x) (some 246) rfl rfl (by kernel_rfl) (by kernel_rfl) (by kernel_rfl) (by kernel_rfl) (by kernel_rfl) (fun _ _ _ h => h) hS4 (.inl ⟨by kernel_rfl, fun W' hS' => ?_⟩) ?_
                · have q := hcl6 W' hS'; go_simp
                refine wpAnyHI_takeE (i := 13) (v := .slice (some ⟨g3, 0, none⟩) n c3) (some 247) rfl rfl (by kernel_rfl) (by kernel_rfl) (by kernel_rfl) (by kernel_rfl) (by kernel_rfl) (fun _ _ _ h => h) hS4 (.inl ⟨by kernel_rfl, fun W' hS' => ?_⟩) ?_
                · go_simp
                refine wpAnyHI_takeE (i := 14) (v := .slice (some ⟨b7, o7, none⟩) m7 c7) (some 248) rfl rfl (by kernel_rfl) (by kernel_rfl) (by kernel_rfl) (by kernel_rfl) (by kernel_rfl) (fun _ _ _ h => h) hS4 (.inl ⟨by kernel_rfl, fun W' hS' => ?_⟩) ?_
                · go_simp
                refine wpAnyHI_takeE (i := 15) (v := .int .i64 (j : Int)) (some 249) rfl rfl (by kernel_rfl) (by kernel_rfl) (by kernel_rfl) (by kernel_rfl) (by kernel_rfl) (fun _ _ _ h => h) hS4 (.inl ⟨by kernel_rfl, fun W' hS' => ?_⟩) ?_
                · go_simp
                refine wpAnyHI_takeE (i := 16) (v := .pointer (some ⟨b7, o7 + j, none⟩)) (some 250) rfl rfl (by kernel_rfl) (by kernel_rfl) (by kernel_rfl) (by kernel_rfl) (by kernel_rfl) (fun _ _ _ h => h) hS4 (.inl ⟨by kernel_rfl, fun W' hS' => ?_⟩) ?_
                · go_simp <;> omega
                refine wpAnyHI_takeE (i := 17) (v := .int .i64 (i : Int)) (some 251) rfl rfl (by kernel_rfl) (by kernel_rfl) (by kernel_rfl) (by kernel_rfl) (by kernel_rfl) (fun _ _ _ h => h) hS4 (.inl ⟨by kernel_rfl, fun W' hS' => ?_⟩) ?_
                · have q := hcl7 W' hS'; go_simp
                refine wpAnyHI_takeE (i := 18) (v := .pointer (some ⟨g3, i, none⟩)) (some 252) rfl rfl (by kernel_rfl) (by kernel_rfl) (by kernel_rfl) (by kernel_rfl) (by kernel_rfl) (fun _ _ _ h => h) hS4 (.inl ⟨by kernel_rfl, fun W' hS' => ?_⟩) ?_
                · go_simp <;> omega
                refine wpAnyHI_takeE (i := 19) (v := .int .i64 y) (some 253) rfl rfl (by kernel_rfl) (by kernel_rfl) (by kernel_rfl) (by kernel_rfl) (by kernel_rfl) (fun _ _ _ h => h) hS4 (.inl ⟨by kernel_rfl, fun W' hS' => ?_⟩) ?_
                · have q := hcl8 W' hS'; go_simp
                refine wpAnyHI_takeE (i := 20) (v := .bool (decide (x = y))) (some 254) rfl rfl (by kernel_rfl) (by kernel_rfl) (by kernel_rfl) (by kernel_rfl) (by kernel_rfl) (fun _ _ _ h => h) hS4 (.inl ⟨by kernel_rfl, fun W' hS' => ?_⟩) ?_
                · go_simp
                  rfl
                refine wpAnyHI_takeE (i := 21) (v := .bool (decide (x = y))) (some 255) rfl rfl (by kernel_rfl) (by kernel_rfl) (by kernel_rfl) (by kernel_rfl) (by kernel_rfl) (fun _ _ _ h => h) hS4 (.inl ⟨by kernel_rfl, fun W' hS' => ?_⟩) ?_
                · go_simp
                refine wpAnyHI_takeE (i := 22) (v := .bool (decide (x = y))) (some 256) rfl rfl (by kernel_rfl) (by kernel_rfl) (by kernel_rfl) (by kernel_rfl) (by kernel_rfl) (fun _ _ _ h => h) hS4 (.inl ⟨by kernel_rfl, fun W' hS' => ?_⟩) ?_
                · go_simp
                refine wpAnyHI_takeE (i := 23) (v := .bool (decide (x = y))) (some 31) rfl rfl (by kernel_rfl) (by kernel_rfl) (by kernel_rfl) (by kernel_rfl) (by kernel_rfl) (fun _ _ _ h => h) hS4 (.inl ⟨by kernel_rfl, fun W' hS' => ?_⟩) ?_
                · go_simp
                have hkk : k0 < l + 1 → decide (x = y) = true := fun h => by
                  have hkl : l = k0 := by
                    by_cases hk : k0 < l
                    · exact absurd (Hl.out.2.1 hk) (by simp)
                    · omega
                  exact decide_eq_true (Hl.out.1.trans (by rw [hkl]; exact Hq.out.2.1))
                refine wpAnyHI_end (by kernel_rfl) ?_
                show KR _ _
                go_simp
                refine hKR _ _ ?_
                clear hKR KR
                have hbV := (below_drew wr).trans hS4
                clear hcD hcl6 hcl7 hcl8
                go_wp2_with (fail)
                go_roundg (m7 - (l + 1))
                case measure => omega
                case rel => exact ⟨l + 1, decide (x = y), ⟨hl, rfl, rfl, rfl⟩, hkk, Hl.out.2.2.1.later hbV, (Hl.out.2.2.2.1.below hbV (Nat.le_refl _)).more hbV.size, (Hl.out.2.2.2.2.below hbV (Nat.le_refl _)).more hbV.size⟩
end Go.Proofs.YtdpehmdmgijcmaaGreat
