/- Parts of a proof: FD. -/
import Derived.Test.YthjgecblkagelaaGreatM33

/- TurnNexts: the walk. -/
namespace Go.Proofs.YthjgecblkagelaaGreat
open Go.RowKit Go.Shelf

attribute [local go_sem] Oper.semAt_some

theorem next_len (ts ss : List Int) : (nextR ts ss).1.length ≤ 5 := by
  unfold nextR
  by_cases h : statedF ts ss = 0
  · rw [if_neg (by simp [h])]
    split
    · have hv := valid_of (stated_hall h)
      have h1 := visitsF_len (ts := ts) (p := plOf ss)
      have h2 := hv.h5
      unfold nextF
      rw [List.length_map]
      have := List.length_filter_le (fun x : Nat × Pl => decide (0 < mget 0 (tabE ts).1 x.2)) (visitsF ts (plOf ss))
      omega
    · simp
  · rw [if_pos h]
    simp
set_option maxRecDepth 100000 in
set_option maxHeartbeats 8000000 in
theorem TurnNexts_any (w : World) (B1 B2 : Nat) (A1 A2 : Option Addr) (n c m d : Nat) (ts ss : List Int) (h1 : IntsAt w B1 A1 n ts) (hB1 : B1 ≤ w.heap.size) (h2 : IntsAt w B2 A2 m ss) (hB2 : B2 ≤ w.heap.size) :
    Calls Tryz.prog 3 #[.agg #[.slice A1 n c], .slice A2 m d] w fun e w' => e = .returned (.bool true) ∧ Below w.heap.size w w' := by
  have hm8 := h2.small
  have hn1 := h1.len
  have hb0 : Below w.heap.size w ((w.alloc (.cells #[.slice A1 n c] 24)).alloc (.cells #[.slice A1 n c] 24)) := ((Below.refl _ w).alloc (Nat.le_refl _) _).alloc (by simp) _
  have x0 := (Boxed.new w 24 (.slice A1 n c)).alloc (.cells #[.slice A1 n c] 24)
  have c0 := x0.cell
  go_enter Tryz.func3, Tryz.ntmps3
  go_wp2_with (fail)
  refine (great_any _ A1 n c).mono ?_
  rintro e w1 ⟨rfl, rfl⟩
  obtain ⟨w1, hw1⟩ : ∃ w1, w1 = (w.alloc (.cells #[.slice A1 n c] 24)).alloc (.cells #[.slice A1 n c] 24) := ⟨_, rfl⟩
  rw [← hw1] at hb0 x0 c0 ⊢
  clear hw1
  have hz0 := hb0.size
  by_cases hn : 10 < (n : Int)
  · rw [decide_eq_true hn]
    clear hn
    go_wp2_with (fail)
    refine (Works_any _).mono ?_
    rintro e wz ⟨rfl, hbz⟩
    go_wp2_with (fail)
    go_ret
    exact ⟨rfl, hb0.trans (hbz.mono hb0.size)⟩
  rw [decide_eq_false hn]
  clear hn
  go_wp2_with (fail)
  refine (wide_any w1 B1 A1 n c _ ts (h1.below hb0 hB1) (by omega)).mono ?_
  rintro e w2 ⟨⟨b, rfl⟩, hb2⟩
  have hB2' := hb0.trans (hb2.mono hz0)
  have x2 := bxBelow x0 hb2 x0.lt
  have hz2 := hB2'.size
  clear hb0 hb2 x0 c0 hz0
  have c2 := x2.cell
  cases b with
  | true =>
    go_wp2_with (fail)
    refine (Works_any _).mono ?_
    rintro e wz ⟨rfl, hbz⟩
    go_wp2_with (fail)
    go_ret
    exact ⟨rfl, hB2'.trans (hbz.mono hB2'.size)⟩
  | false =>
    by_cases hm : 20 < (m : Int)
    · go_wp2_with (fail)
      refine (Works_any _).mono ?_
      rintro e wz ⟨rfl, hbz⟩
      go_wp2_with (fail)
      go_ret
      exact ⟨rfl, hB2'.trans (hbz.mono hB2'.size)⟩
    go_wp2_with (fail)
    refine (Next_any w2 B1 B2 A1 A2 n c m d ts ss (h1.below hB2' hB1) (by omega) (h2.below hB2' hB2) (by omega) (fun h => ends_all (valid_of (stated_hall h)))).mono ?_
    intro e w3 hd3
    obtain ⟨L, hL⟩ : ∃ L, L = nextR ts ss := ⟨_, rfl⟩
    have hll := next_len ts ss
    rw [← hL] at hd3 hll
    obtain ⟨v3, rfl, hr3, hb3⟩ := hd3
    obtain ⟨A3, m3, c3, rfl, hi3⟩ := ListAt.of_row hr3 (by omega)
    have hB3 := hB2'.trans (hb3.mono hz2)
    have x3 := bxBelow x2 hb3 x2.lt
    have c3' := x3.cell
    have hz3 := hB3.size
    have hm3 := hi3.small
    have H3 := Lib.hid (And.intro hL (And.intro hll hi3))
    clear hL hll hi3 hr3 hb3 x2 c2 hB2'
    go_wp2_with (fail)
    refine (rNext_any w3 B1 B2 A1 A2 n c m d ts ss (h1.below hB3 hB1) (by omega) (h2.below hB3 hB2) (by omega)).mono ?_
    intro e w4 hd4
    rw [← next_same, ← H3.out.1] at hd4
    obtain ⟨v4, rfl, hr4, hb4⟩ := hd4
    obtain ⟨A4, m4, c4, rfl, hi4⟩ := ListAt.of_row hr4 (by have := H3.out.2.1; omega)
    have hB4 := hB3.trans (hb4.mono hz3)
    have x4 := bxBelow x3 hb4 x3.lt
    have c4' := x4.cell
    have hz4 := hB4.size
    have hm4 := hi4.small
    have H4 := Lib.hid (And.intro (H3.out.2.2.below hb4 (Nat.le_refl _)) hi4)
    have hzz4 := hb4.size
    clear hi4 hr4 hb4 x3 c3' hB3
    go_wp2_with (fail)
    refine (Wait_any w4 B1 B2 A1 A2 n c m d ts ss (h1.below hB4 hB1) (by omega) (h2.below hB4 hB2) (by omega) (fun h => ⟨ends_all (valid_of (stated_hall h)), by have := (valid_of (stated_hall h)).h5; omega⟩)).mono ?_
    intro e w5 hd5
    obtain ⟨R, hR⟩ : ∃ R, R = waitR ts ss := ⟨_, rfl⟩
    rw [← hR] at hd5
    obtain ⟨A5, m5, c5, rfl, hi5, hb5⟩ := hd5
    have hm5 := hi5.small
    have hl5 := hi5.len
    have hB5 := hB4.trans (hb5.mono hz4)
    have x5 := bxBelow x4 hb5 x4.lt
    have c5' := x5.cell
    have hz5 := hB5.size
    have hzz5 := hb5.size
    have H5 := Lib.hid (And.intro hR (And.intro (H4.out.1.below (hb5.mono hzz4) (Nat.le_refl _)) (And.intro (H4.out.2.below hb5 (Nat.le_refl _)) (And.intro hi5 hl5))))
    clear hR hi5 hb5 hl5 x4 c4' hB4
    go_wp2_with (fail)
    refine (rWait_any w5 B1 B2 A1 A2 n c m d ts ss (h1.below hB5 hB1) (by omega) (h2.below hB5 hB2) (by omega)).mono ?_
    intro e w6 hd6
    rw [← wait_same, ← H5.out.1] at hd6
    obtain ⟨v6, rfl, hr6, hb6⟩ := hd6
    obtain ⟨A6, m6, c6, rfl, hi6⟩ := ListAt.of_row hr6 (by have := H5.out.2.2.2.2; omega)
    have hm6 := hi6.small
    have hB6 := hB5.trans (hb6.mono hz5)
    have hz6 := hB6.size
    have hzz6 := hb6.size
    have H6 := Lib.hid (And.intro (H5.out.2.1.below (hb6.mono (by omega)) (Nat.le_refl _)) (And.intro (H5.out.2.2.1.below (hb6.mono hzz5) (Nat.le_refl _)) (And.intro (H5.out.2.2.2.1.below hb6 (Nat.le_refl _)) hi6)))
    clear hi6 hr6 hb6 x5 c5' hB5
    go_wp2_with (fail)
    refine (ints_any w6 _ _ A3 A4 m3 m4 c3 c4 L.1 L.1 H6.out.1 H6.out.2.1).mono ?_
    rintro e w7 ⟨rfl, q, hq⟩
    rw [decide_eq_true (rfl : L.1 = L.1)]
    have hb67 : Below w6.heap.size w6 w7 := by rw [hq]; exact ⟨rfl, rfl, rfl, Nat.le_refl _, fun _ _ => rfl⟩
    have hB7 : Below w.heap.size w w7 := hB6.trans (hb67.mono hz6)
    have hzz7 := hb67.size
    have H7 := Lib.hid (And.intro (H6.out.2.2.1.below (hb67.mono hzz6) (Nat.le_refl _)) (H6.out.2.2.2.below hb67 (Nat.le_refl _)))
    clear hq hb67 hB6
    go_wp2_with (fail)
    refine (ints_any w7 _ _ A5 A6 m5 m6 c5 c6 R.1 R.1 H7.out.1 H7.out.2).mono ?_
    rintro e w8 ⟨rfl, q, hq⟩
    rw [decide_eq_true (rfl : R.1 = R.1)]
    have hB8 : Below w.heap.size w w8 := by rw [hq]; exact hB7.trans ⟨rfl, rfl, rfl, Nat.le_refl _, fun _ _ => rfl⟩
    clear hq hB7
    go_wp2_with (fail)
    refine (Works_any _).mono ?_
    rintro e wz ⟨rfl, hbz⟩
    go_wp2_with (fail)
    go_ret
    exact ⟨rfl, hB8.trans (hbz.mono hB8.size)⟩
end Go.Proofs.YthjgecblkagelaaGreat
