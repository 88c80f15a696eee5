/- Parts of a proof: EI. -/
import Derived.Test.YtdpehmdmgijcmaaGreatS36

/- TurnCircles: the walk. -/
namespace Go.Proofs.YtdpehmdmgijcmaaGreat
open Go.RowKit Go.Shelf

attribute [local go_sem] Oper.semAt_some

set_option maxRecDepth 100000 in
set_option maxHeartbeats 8000000 in
theorem TurnCircles_any (w : World) (B1 : Nat) (A1 : Option Addr) (n c : Nat) (ts : List Int) (h1 : IntsAt w B1 A1 n ts) (hB1 : B1 ≤ w.heap.size) :
    Calls Tryz.prog 3 #[.agg #[.slice A1 n c]] w fun e w' => e = .returned (.bool true) ∧ Below w.heap.size w w' := by
  have hb0 : Below w.heap.size w ((w.alloc (.cells #[.slice A1 n c] 24)).alloc (.cells #[.slice A1 n c] 24)) := ((Below.refl _ w).alloc (Nat.le_refl _) _).alloc (by simp) _
  have x0 := (Boxed.new w 24 (.slice A1 n c)).alloc (.cells #[.slice A1 n c] 24)
  have c0 := x0.cell
  go_enter Tryz.func3, Tryz.ntmps3
  go_wp2_with (fail)
  refine (great_any _ A1 n c).mono ?_
  rintro e w1 ⟨rfl, rfl⟩
  obtain ⟨w1, hw1⟩ : ∃ w1, w1 = (w.alloc (.cells #[.slice A1 n c] 24)).alloc (.cells #[.slice A1 n c] 24) := ⟨_, rfl⟩
  rw [← hw1] at hb0 x0 c0 ⊢
  clear hw1
  have hz0 := hb0.size
  by_cases hn : 10 < (n : Int)
  · rw [decide_eq_true hn]
    clear hn
    go_wp2_with (fail)
    refine (Works_any _).mono ?_
    rintro e wz ⟨rfl, hbz⟩
    go_wp2_with (fail)
    go_ret
    exact ⟨rfl, hb0.trans (hbz.mono hb0.size)⟩
  rw [decide_eq_false hn]
  clear hn
  go_wp2_with (fail)
  refine (wide_any w1 B1 A1 n c _ ts (h1.below hb0 hB1) (by omega)).mono ?_
  rintro e w2 ⟨⟨b, rfl⟩, hb2⟩
  have hB2' := hb0.trans (hb2.mono hz0)
  have x2 := bxBelow x0 hb2 x0.lt
  have hz2 := hB2'.size
  clear hb0 hb2 x0 c0 hz0
  have c2 := x2.cell
  cases b with
  | true =>
    go_wp2_with (fail)
    refine (Works_any _).mono ?_
    rintro e wz ⟨rfl, hbz⟩
    go_wp2_with (fail)
    go_ret
    exact ⟨rfl, hB2'.trans (hbz.mono hB2'.size)⟩
  | false =>
    obtain ⟨win, hwin⟩ : ∃ win, checkHallF ts = 0 → IsWin ts win := by
      by_cases h : ts = []
      · exact ⟨0, fun hc => by have := (valid_of hc).h1; rw [h] at this; simp at this⟩
      · obtain ⟨k, hk⟩ := win_exists ts h
        exact ⟨k, fun _ => hk⟩
    go_wp2_with (fail)
    refine (Circle_any w2 B1 A1 n c ts (h1.below hB2' hB1) (by omega) win (fun hc => ⟨ends_all (valid_of hc), loop_ends (valid_of hc), hwin hc⟩)).mono ?_
    intro e w3 hd3
    obtain ⟨R, hR⟩ : ∃ R, R = circleR ts win := ⟨_, rfl⟩
    rw [← hR] at hd3
    obtain ⟨A3, nc, cc, rfl, hi3, hb3⟩ := hd3
    have hB3 := hB2'.trans (hb3.mono hz2)
    have x3 := bxBelow x2 hb3 x2.lt
    have c3 := x3.cell
    have hz3 := hB3.size
    have hnc := hi3.small
    have H3 := Lib.hid (And.intro hR (And.intro hwin (And.intro hi3 hi3.len)))
    clear hR hwin hi3 hb3 x2 c2 hB2'
    go_wp2_with (fail)
    refine (CircleError_any w3 B1 A1 n c ts (h1.below hB3 hB1) (by omega)).mono ?_
    rintro e w4 ⟨rfl, hb4⟩
    rw [← circ_err ts win, ← H3.out.1]
    have hB4 := hB3.trans (hb4.mono hz3)
    have x4 := bxBelow x3 hb4 x3.lt
    have c4 := x4.cell
    have hz4 := hB4.size
    have hzz4 := hb4.size
    have H4 := Lib.hid (H3.out.2.2.1.below hb4 (Nat.le_refl _))
    clear hb4 x3 c3 hB3
    obtain ⟨y, hy⟩ : ∃ y, y = R.2 := ⟨_, rfl⟩
    rw [← hy]
    have hyy : (y != y) = false := by simp
    have Hy := Lib.hid hy
    clear hy
    by_cases hy0 : y = 0
    case neg =>
      have hnc0 : nc = 0 := by
        have h2 : R.2 ≠ 0 := fun e => hy0 (Hy.out.trans e)
        have h1 : R.1 = [] := by
          rw [H3.out.1] at h2 ⊢
          by_cases hc : checkHallF ts = 0
          · by_cases hd : emptyP ts ∈ dq ts
            · rw [circle_doomed hc hd]
            · rw [circle_safe hc hd] at h2
              exact absurd rfl h2
          · unfold circleR
            rw [if_pos hc]
        have := H3.out.2.2.2
        rw [h1] at this
        exact this.symm
      have hne : (y != 0) = true := by simp [hy0]
      subst hnc0
      go_wp2_with (fail)
      refine (Works_any _).mono ?_
      rintro e wz ⟨rfl, hbz⟩
      go_wp2_with (fail)
      go_ret
      exact ⟨rfl, hB4.trans (hbz.mono hB4.size)⟩
    have hR2 : (circleR ts win).2 = 0 := by rw [← H3.out.1, ← Hy.out]; exact hy0
    have hc : checkHallF ts = 0 := by
      refine Classical.byContradiction fun hc => ?_
      unfold circleR at hR2
      rw [if_pos hc] at hR2
      exact hc hR2
    have hv := valid_of hc
    have hd : emptyP ts ∉ dq ts := fun hd => by
      rw [circle_doomed hc hd] at hR2
      cases hR2
    obtain ⟨p, hcyc, hcl, hmin⟩ := circ_spec hv (H3.out.2.1 hc) hd
    obtain ⟨cs, hcs⟩ : ∃ cs, cs = (circP ts (tabE ts).1 win ((statesL ts).map plOf)).1 := ⟨_, rfl⟩
    rw [← hcs] at hcyc hcl hmin
    have hR1 : R.1 = cs := by rw [H3.out.1, circle_safe hc hd, hcs]
    have hrc0 : rcheckCircleF ts cs = 0 := by rw [← checkCircle_same]; exact cc_ok hc hcyc hcl
    have hic : IntsAt w4 w3.heap.size A3 nc cs := by have := H4.out; rw [hR1] at this; exact this
    have Hc := Lib.hid (And.intro hv (And.intro hcyc (And.intro hmin (And.intro hrc0 (And.intro hic hic.len)))))
    clear hR2 hc hv hd hcyc hcl hmin hcs hR1 hrc0 hic
    subst hy0
    go_wp2_with (fail)
    refine (rCheckCircle_any w4 B1 w3.heap.size A1 A3 n c nc cc ts cs (h1.below hB4 hB1) (by omega) Hc.out.2.2.2.2.1 hzz4).mono ?_
    rintro e w5 ⟨rfl, hb5⟩
    rw [Hc.out.2.2.2.1]
    have hB5 := hB4.trans (hb5.mono hz4)
    have x5 := bxBelow x4 hb5 x4.lt
    have c5 := x5.cell
    have hz5 := hB5.size
    clear hb5 x4 c4 hB4
    go_wp2_with (fail)
    refine (Shortest_any w5 B1 A1 n c ts (h1.below hB5 hB1) (by omega) Hc.out.1).mono ?_
    rintro e w6 ⟨best, rfl, hbest, hb6⟩
    obtain rfl : best = (nc : Int) := by rw [best_is Hc.out.1 hbest Hc.out.2.1 Hc.out.2.2.1, Hc.out.2.2.2.2.2]
    have hB6 := hB5.trans (hb6.mono hz5)
    clear hbest hb6 x5 c5
    go_wp2_with (fail)
    refine (Works_any _).mono ?_
    rintro e wz ⟨rfl, hbz⟩
    go_wp2_with (fail)
    go_ret
    exact ⟨rfl, hB6.trans (hbz.mono hB6.size)⟩
end Go.Proofs.YtdpehmdmgijcmaaGreat
