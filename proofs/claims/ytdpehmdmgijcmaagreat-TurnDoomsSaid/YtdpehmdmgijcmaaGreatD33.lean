/- Parts of a proof: DV. -/
import Derived.Test.YtdpehmdmgijcmaaGreatM32

/- TurnDooms: the walk. -/
namespace Go.Proofs.YtdpehmdmgijcmaaGreat
open Go.RowKit Go.Shelf

attribute [local go_sem] Oper.semAt_some

set_option maxRecDepth 100000 in
set_option maxHeartbeats 16000000 in
theorem TurnDooms_any (w : World) (B1 B2 B3 : Nat) (A1 A2 A3 : Option Addr) (n c m d k f : Nat) (ts ss : List Int) (gs : List (List Int × Int)) (h1 : IntsAt w B1 A1 n ts) (hB1 : B1 ≤ w.heap.size) (h2 : IntsAt w B2 A2 m ss) (hB2 : B2 ≤ w.heap.size) (h3 : StepsAt w B3 A3 k gs) (hB3 : B3 ≤ w.heap.size) :
    Calls Tryz.prog 4 #[.agg #[.slice A1 n c], .slice A2 m d, .slice A3 k f] w fun e w' => e = .returned (.bool true) ∧ Below w.heap.size w w' := by
  have hm8 := h2.small
  have hk8 := h3.2.1
  have hb0 : Below w.heap.size w ((w.alloc (.cells #[.slice A1 n c] 24)).alloc (.cells #[.slice A1 n c] 24)) := ((Below.refl _ w).alloc (Nat.le_refl _) _).alloc (by simp) _
  have x0 := (Boxed.new w 24 (.slice A1 n c)).alloc (.cells #[.slice A1 n c] 24)
  have c0 := x0.cell
  go_enter Tryz.func4, Tryz.ntmps4
  go_wp2_with (fail)
  refine (great_any _ A1 n c).mono ?_
  rintro e w1 ⟨rfl, rfl⟩
  obtain ⟨w1, hw1⟩ : ∃ w1, w1 = (w.alloc (.cells #[.slice A1 n c] 24)).alloc (.cells #[.slice A1 n c] 24) := ⟨_, rfl⟩
  rw [← hw1] at hb0 x0 c0 ⊢
  clear hw1
  have hz0 := hb0.size
  by_cases hn : 10 < (n : Int)
  · rw [decide_eq_true hn]
    clear hn
    go_wp2_with (fail)
    refine (Works_any _).mono ?_
    rintro e wz ⟨rfl, hbz⟩
    go_wp2_with (fail)
    go_ret
    exact ⟨rfl, hb0.trans (hbz.mono hb0.size)⟩
  rw [decide_eq_false hn]
  clear hn
  go_wp2_with (fail)
  refine (wide_any w1 B1 A1 n c _ ts (h1.below hb0 hB1) (by omega)).mono ?_
  rintro e w2 ⟨⟨b, rfl⟩, hb2⟩
  have hB2' := hb0.trans (hb2.mono hz0)
  have x2 := bxBelow x0 hb2 x0.lt
  have hz2 := hB2'.size
  clear hb0 hb2 x0 c0 hz0
  have c2 := x2.cell
  cases b with
  | true =>
    go_wp2_with (fail)
    refine (Works_any _).mono ?_
    rintro e wz ⟨rfl, hbz⟩
    go_wp2_with (fail)
    go_ret
    exact ⟨rfl, hB2'.trans (hbz.mono hB2'.size)⟩
  | false =>
    by_cases hm : 20 < (m : Int)
    · go_wp2_with (fail)
      refine (Works_any _).mono ?_
      rintro e wz ⟨rfl, hbz⟩
      go_wp2_with (fail)
      go_ret
      exact ⟨rfl, hB2'.trans (hbz.mono hB2'.size)⟩
    by_cases hk : 40 < (k : Int)
    · go_wp2_with (fail)
      refine (Works_any _).mono ?_
      rintro e wz ⟨rfl, hbz⟩
      go_wp2_with (fail)
      go_ret
      exact ⟨rfl, hB2'.trans (hbz.mono hB2'.size)⟩
    have hs2 := h3.below hB2' hB3
    have Hg := Lib.hid (And.intro hs2 h3.1)
    clear hs2
    go_wp2_with (fail)
    go_loopg [7] k (fun gg v7 wr => ∃ j : Nat, (j ≤ k ∧ gg = k - j ∧ v7 = .int .i64 (j : Int)) ∧ w2 = wr)
    case atStart => exact ⟨0, ⟨Nat.zero_le _, rfl, rfl⟩, rfl⟩
    case round =>
      obtain ⟨j, ⟨hjk, rfl, rfl⟩, rfl⟩ := hrel
      by_cases hj : j < k
      · have hwj : IntKind.i64.wrap ((j : Int) + 1) = (j : Int) + 1 := by rw [IntKind.wrap_i64]; omega
        obtain ⟨b3, o3, rfl, hb3, hcs⟩ := Hg.out.1.2.2 (by omega)
        have hjl : j < gs.length := by have := Hg.out.2; omega
        obtain ⟨A', m', c', hc0, -, -⟩ := hcs j gs[j] (List.getElem?_eq_getElem hjl)
        clear hcs hjl
        by_cases hl : 20 < (m' : Int)
        · go_wp2_with (fail)
          refine (Works_any _).mono ?_
          rintro e wz ⟨rfl, hbz⟩
          go_wp2_with (fail)
          go_ret
          exact ⟨rfl, hB2'.trans (hbz.mono hB2'.size)⟩
        · go_wp2_with (fail)
          go_roundg (k - (j + 1))
          case measure => omega
          case rel => exact ⟨j + 1, ⟨hj, rfl, by simp⟩, rfl⟩
      obtain rfl : k = j := by omega
      have hlt : ¬ (k : Int) < (k : Int) := by omega
      go_wp2_with (fail)
      clear hlt hj
      refine (Doom_any w2 B1 B2 A1 A2 n c m d ts ss (h1.below hB2' hB1) (by omega) (h2.below hB2' hB2) (by omega) (fun h => ends_all (valid_of (stated_hall h))) (fun h => rends_all (valid_of (stated_hall h)) (nice_stated h))).mono ?_
      intro e w4 hd4
      obtain ⟨D, hD⟩ : ∃ D, D = doomR ts ss := ⟨_, rfl⟩
      rw [← hD] at hd4
      obtain ⟨A4, k4, c4, rfl, hl4, hb4⟩ := hd4
      have hB4 := hB2'.trans (hb4.mono hz2)
      have x4 := bxBelow x2 hb4 x2.lt
      have c4' := x4.cell
      have hz4 := hB4.size
      have hk4 := hl4.2.1
      have H4 := Lib.hid (And.intro hD (And.intro hl4 hl4.1))
      clear hD hl4 hb4 x2 c2 hB2' Hg
      go_wp2_with (fail)
      refine (DoomError_any w4 B1 B2 A1 A2 n c m d ts ss (h1.below hB4 hB1) (by omega) (h2.below hB4 hB2) (by omega)).mono ?_
      rintro e w5 ⟨rfl, hb5⟩
      rw [← doom_err, ← H4.out.1]
      have hB5 := hB4.trans (hb5.mono hz4)
      have x5 := bxBelow x4 hb5 x4.lt
      have c5' := x5.cell
      have hz5 := hB5.size
      have hzz5 := hb5.size
      have H5 := Lib.hid (H4.out.2.1.below hb5 (Nat.le_refl _))
      clear hb5 x4 c4' hB4
      go_wp2_with (fail)
      have hcellH : ∀ W', Boxed W' w.heap.size 24 (.slice A1 n c) → W'.cell? ⟨w.heap.size, 0, none⟩ = some (.slice A1 n c) := fun W' h => h.cell
      refine region_held_wp 1 (fun W' => Boxed W' w.heap.size 24 (.slice A1 n c)) (fun j => decide (j = 3 ∨ j = 4)) (by kernel_rfl) ?_
      intro KR hKR
      have hS : Boxed w5.drew w.heap.size 24 (.slice A1 n c) := bxBelow x5 (below_drew _) x5.lt
      have hBd : Below w.heap.size w w5.drew := hB5.trans ((below_drew w5).mono hz5)
      refine wpAnyHI_takeW (i := 1) (v := .slice A2 m d) (some 52) rfl rfl (by kernel_rfl) (by kernel_rfl) (by kernel_rfl) (by kernel_rfl) (fun _ _ _ h => h) (.inl ⟨by kernel_rfl, fun W' hS' => ?_⟩) ?_
      · go_simp
      refine wpAnyHI_takeW (i := 2) (v := .slice A3 k f) (some 53) rfl rfl (by kernel_rfl) (by kernel_rfl) (by kernel_rfl) (by kernel_rfl) (fun _ _ _ h => h) (.inl ⟨by kernel_rfl, fun W' hS' => ?_⟩) ?_
      · go_simp
      refine wpAnyHI_takeW (i := 5) (v := .slice A2 m d) (some 56) rfl rfl (by kernel_rfl) (by kernel_rfl) (by kernel_rfl) (by kernel_rfl) (fun _ _ _ h => h) (.inl ⟨by kernel_rfl, fun W' hS' => ?_⟩) ?_
      · go_simp
      refine wpAnyHI_takeW (i := 6) (v := .slice A3 k f) (some 57) rfl rfl (by kernel_rfl) (by kernel_rfl) (by kernel_rfl) (by kernel_rfl) (fun _ _ _ h => h) (.inl ⟨by kernel_rfl, fun W' hS' => ?_⟩) ?_
      · go_simp
      refine wpAnyHI_takeE (i := 0) (v := .agg #[.slice A1 n c]) (some 51) rfl rfl (by kernel_rfl) (by kernel_rfl) (by kernel_rfl) (by kernel_rfl) (by kernel_rfl) (fun _ _ _ h => h) hS (.inl ⟨by kernel_rfl, fun W' hS' => ?_⟩) ?_
      · have q := hcellH W' hS'; go_simp
      refine wpAnyHI_takeE (i := 4) (v := .agg #[.slice A1 n c]) (some 55) rfl rfl (by kernel_rfl) (by kernel_rfl) (by kernel_rfl) (by kernel_rfl) (by kernel_rfl) (fun _ _ _ h => h) hS (.inl ⟨by kernel_rfl, fun W' hS' => ?_⟩) ?_
      · have q := hcellH W' hS'; go_simp
      refine wpAnyHI_one (i := 3) rfl (by kernel_rfl) ?_
      intro K1 hK1
      go_simp
      refine ⟨trivial, (callsIn_wide.2 (CheckDoom_any _ B1 B2 B3 A1 A2 A3 n c m d k f ts ss gs (h1.below hBd hB1) (by have := hBd.size; omega) (h2.below hBd hB2) (by have := hBd.size; omega) (h3.below hBd hB3) (by have := hBd.size; omega))).mono ?_⟩
      rintro e w6 ⟨rfl, hb6⟩
      have hB6 := hBd.trans (hb6.mono hBd.size)
      have x6 := bxBelow hS hb6 hS.lt
      have hb56 : Below w5.heap.size w5 w6 := (below_drew w5).trans hb6
      refine hK1 _ _ ⟨fun _ => x6, ?_⟩
      clear hK1 K1 hS hb6
      refine wpAnyHI_one (i := 7) rfl (by kernel_rfl) ?_
      intro K1 hK1
      go_simp
      refine ⟨trivial, (callsIn_wide.2 (rCheckDoom_any _ B1 B2 B3 A1 A2 A3 n c m d k f ts ss gs (h1.below hB6 hB1) (by have := hB6.size; omega) (h2.below hB6 hB2) (by have := hB6.size; omega) (h3.below hB6 hB3) (by have := hB6.size; omega))).mono ?_⟩
      rintro e w7 ⟨rfl, hb7⟩
      rw [checkDoom_same]
      obtain ⟨z, hz⟩ : ∃ z, z = rcheckDoomF ts ss gs := ⟨_, rfl⟩
      rw [← hz]
      have hB7 := hB6.trans (hb7.mono hB6.size)
      have x7 := bxBelow x6 hb7 x6.lt
      have hb57 := hb56.trans (hb7.mono hb56.size)
      refine hK1 _ _ ⟨fun h => absurd h (by decide), ?_⟩
      clear hK1 K1 x6 hb7 hB6 hb56 hBd hz
      refine wpAnyHI_takeW (i := 8) (v := .bool false) (some 59) rfl rfl (by kernel_rfl) (by kernel_rfl) (by kernel_rfl) (by kernel_rfl) (fun _ _ _ h => h) (.inl ⟨by kernel_rfl, fun W' hS' => ?_⟩) ?_
      · go_simp
      refine wpAnyHI_takeW (i := 9) (v := .bool false) (some 60) rfl rfl (by kernel_rfl) (by kernel_rfl) (by kernel_rfl) (by kernel_rfl) (fun _ _ _ h => h) (.inl ⟨by kernel_rfl, fun W' hS' => ?_⟩) ?_
      · go_simp
      refine wpAnyHI_takeW (i := 10) (v := .int .i64 D.2) (some 61) rfl rfl (by kernel_rfl) (by kernel_rfl) (by kernel_rfl) (by kernel_rfl) (fun _ _ _ h => h) (.inl ⟨by kernel_rfl, fun W' hS' => ?_⟩) ?_
      · go_simp
      refine wpAnyHI_takeW (i := 11) (v := .int .i64 D.2) (some 62) rfl rfl (by kernel_rfl) (by kernel_rfl) (by kernel_rfl) (by kernel_rfl) (fun _ _ _ h => h) (.inl ⟨by kernel_rfl, fun W' hS' => ?_⟩) ?_
      · go_simp
      refine wpAnyHI_takeW (i := 12) (v := .bool false) (some 63) rfl rfl (by kernel_rfl) (by kernel_rfl) (by kernel_rfl) (by kernel_rfl) (fun _ _ _ h => h) (.inl ⟨by kernel_rfl, fun W' hS' => ?_⟩) ?_
      · go_simp
      refine wpAnyHI_takeW (i := 13) (v := .bool false) (some 64) rfl rfl (by kernel_rfl) (by kernel_rfl) (by kernel_rfl) (by kernel_rfl) (fun _ _ _ h => h) (.inl ⟨by kernel_rfl, fun W' hS' => ?_⟩) ?_
      · go_simp
      refine wpAnyHI_end (by kernel_rfl) ?_
      show KR _ _
      refine hKR _ _ ?_
      clear hKR KR
      have c7 := x7.cell
      have hz7 := hB7.size
      have hzz7 := hb57.size
      have H7 := Lib.hid (H5.out.below (hb57.mono hzz5) (Nat.le_refl _))
      clear x5 c5' hB5 hb57 hcellH
      by_cases hst : statedF ts ss = 0 ∧ plOf ss ∈ dq ts
      case pos =>
        obtain ⟨hs0, hd0⟩ := hst
        obtain ⟨hd1, -⟩ := either_doomed hs0 hd0
        have hD2 : D.2 = 0 := by rw [H4.out.1, hd1]
        have hD1 : D.1 = stepsF (tabE ts).2.1 (reachE ts (plOf ss)).1 := by rw [H4.out.1, hd1]
        have hgood := (own_good hs0 hd0).2
        rw [← hD1] at hgood
        have Hgd := Lib.hid hgood
        clear hgood hs0 hd0 hd1 hD1
        rw [hD2]
        clear hD2
        go_wp2_with (fail)
        refine (rCheckDoom_any w7 B1 B2 w4.heap.size A1 A2 A4 n c m d k4 c4 ts ss D.1 (h1.below hB7 hB1) (by omega) (h2.below hB7 hB2) (by omega) H7.out (by omega)).mono ?_
        rintro e w8 ⟨rfl, hb8⟩
        rw [Hgd.out]
        have hB8 := hB7.trans (hb8.mono hz7)
        go_wp2_with (fail)
        refine (Works_any _).mono ?_
        rintro e wz ⟨rfl, hbz⟩
        go_wp2_with (fail)
        go_ret
        exact ⟨rfl, hB8.trans (hbz.mono hB8.size)⟩
      case neg =>
        have hD : D.2 ≠ 0 ∧ D.1 = [] := by
          rw [H4.out.1]
          by_cases hs0 : statedF ts ss = 0
          · have hd0 : plOf ss ∉ dq ts := fun h => hst ⟨hs0, h⟩
            rw [(either_safe hs0 hd0).1]
            simp
          · unfold doomR
            rw [if_pos hs0]
            exact ⟨hs0, rfl⟩
        have hk0 : k4 = 0 := by rw [← H4.out.2.2, hD.2]; rfl
        have hD2 := hD.1
        obtain ⟨y, hy⟩ : ∃ y, y = D.2 := ⟨_, rfl⟩
        rw [← hy] at hD2 ⊢
        have hne : (y != 0) = true := by simp [hD2]
        clear hst hD hy
        subst hk0
        go_wp2_with (fail)
        refine (Works_any _).mono ?_
        rintro e wz ⟨rfl, hbz⟩
        go_wp2_with (fail)
        go_ret
        exact ⟨rfl, hB7.trans (hbz.mono hB7.size)⟩
end Go.Proofs.YtdpehmdmgijcmaaGreat
