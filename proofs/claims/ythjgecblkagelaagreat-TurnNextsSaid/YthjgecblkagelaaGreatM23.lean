/- Parts of a proof: BP. -/
import Derived.Test.YthjgecblkagelaaGreatM22

/- Works. -/
namespace Go.Proofs.YthjgecblkagelaaGreat
open Go.RowKit Go.Shelf

attribute [local go_sem] Oper.semAt_some

set_option maxRecDepth 100000 in
set_option maxHeartbeats 16000000 in
theorem Works_any (w : World) : Calls Tryz.prog 8 #[] w fun e w' => e = .returned (.bool true) ∧ Below w.heap.size w w' := by
  go_enter Tryz.func8, Tryz.ntmps8
  go_wp2_with (fail)
  have n1 := ints_new w [2, 3] (by decide)
  have hb1 : Below w.heap.size w (w.alloc (.cells #[.int .i64 2, .int .i64 3] 3)) := (Below.refl _ w).alloc (Nat.le_refl _) _
  refine (Hall_any _ _ _ _).mono ?_
  rintro e w2 ⟨rfl, hb2⟩
  have i1 := ints_up n1 hb2
  have hB2 := hb1.trans (hb2.mono hb1.size)
  clear n1 hb1 hb2
  go_wp2_with (fail)
  have n2 := ints_new w2 [2, 3, 6] (by decide)
  have hb1 : Below w2.heap.size w2 (w2.alloc (.cells #[.int .i64 2, .int .i64 3, .int .i64 6] 3)) := (Below.refl _ w2).alloc (Nat.le_refl _) _
  refine (Hall_any _ _ _ _).mono ?_
  rintro e w3 ⟨rfl, hb2⟩
  have i2 := ints_up n2 hb2
  have hb3 := hb1.trans (hb2.mono hb1.size)
  have i1 := ints_up i1 hb3
  have hB3 := hB2.trans (hb3.mono hB2.size)
  clear n2 hb1 hb2 hb3 hB2
  go_wp2_with (fail)
  have n3 := ints_new w3 [1, 1] (by decide)
  have hb1 : Below w3.heap.size w3 (w3.alloc (.cells #[.int .i64 1, .int .i64 1] 3)) := (Below.refl _ w3).alloc (Nat.le_refl _) _
  refine (Hall_any _ _ _ _).mono ?_
  rintro e w4 ⟨rfl, hb2⟩
  have i3 := ints_up n3 hb2
  have hb3 := hb1.trans (hb2.mono hb1.size)
  have i1 := ints_up i1 hb3
  have i2 := ints_up i2 hb3
  have hB4 := hB3.trans (hb3.mono hB3.size)
  clear n3 hb1 hb2 hb3 hB3
  go_wp2_with (fail)
  have x1 := ((Boxed.new w4 24 (.slice (some ⟨w.heap.size, 0, none⟩) 2 2)).alloc (.cells #[.slice (some ⟨w2.heap.size, 0, none⟩) 3 3] 24)).alloc (.cells #[.slice (some ⟨w3.heap.size, 0, none⟩) 2 2] 24)
  have x2 := (Boxed.new (w4.alloc (.cells #[.slice (some ⟨w.heap.size, 0, none⟩) 2 2] 24)) 24 (.slice (some ⟨w2.heap.size, 0, none⟩) 3 3)).alloc (.cells #[.slice (some ⟨w3.heap.size, 0, none⟩) 2 2] 24)
  have x3 := Boxed.new ((w4.alloc (.cells #[.slice (some ⟨w.heap.size, 0, none⟩) 2 2] 24)).alloc (.cells #[.slice (some ⟨w2.heap.size, 0, none⟩) 3 3] 24)) 24 (.slice (some ⟨w3.heap.size, 0, none⟩) 2 2)
  have hz0 : (((w4.alloc (.cells #[.slice (some ⟨w.heap.size, 0, none⟩) 2 2] 24)).alloc (.cells #[.slice (some ⟨w2.heap.size, 0, none⟩) 3 3] 24)).alloc (.cells #[.slice (some ⟨w3.heap.size, 0, none⟩) 2 2] 24)).heap.size = w4.heap.size + 1 + 1 + 1 := by simp
  simp only [World.size_alloc] at x1 x2 x3
  have hbx : Below w4.heap.size w4 (((w4.alloc (.cells #[.slice (some ⟨w.heap.size, 0, none⟩) 2 2] 24)).alloc (.cells #[.slice (some ⟨w2.heap.size, 0, none⟩) 3 3] 24)).alloc (.cells #[.slice (some ⟨w3.heap.size, 0, none⟩) 2 2] 24)) := (((Below.refl _ w4).alloc (Nat.le_refl _) _).alloc (by simp) _).alloc (by simp; omega) _
  obtain ⟨w5, hw5⟩ : ∃ W, W = (((w4.alloc (.cells #[.slice (some ⟨w.heap.size, 0, none⟩) 2 2] 24)).alloc (.cells #[.slice (some ⟨w2.heap.size, 0, none⟩) 3 3] 24)).alloc (.cells #[.slice (some ⟨w3.heap.size, 0, none⟩) 2 2] 24)) := ⟨_, rfl⟩
  rw [← hw5] at x1 x2 x3 hbx hz0 ⊢
  have S5 : HallsAt w w5 w4.heap.size (w4.heap.size + 1) (w4.heap.size + 1 + 1) w.heap.size w2.heap.size w3.heap.size := ⟨hB4.trans (hbx.mono hB4.size), x1, x2, x3, ints_up i1 hbx, ints_up i2 hbx, ints_up i3 hbx⟩
  clear x1 x2 x3 hbx hw5 i1 i2 i3 hB4
  obtain ⟨c1, c2, c3⟩ : _ ∧ _ ∧ _ := ⟨S5.h1.cell, S5.h2.cell, S5.h3.cell⟩
  go_wp2_with (fail)
  clear c1 c2 c3
  have nn0 := ints_new2 w5 (w4.heap.size + 1 + 1 + 1) [1, 2] (by decide) hz0.symm
  have ha0 : Below w5.heap.size w5 (w5.alloc (.cells #[.int .i64 1, .int .i64 2] 3)) := (Below.refl _ _).alloc (Nat.le_refl _) _
  have hA0 : Below w5.heap.size w5 (w5.alloc (.cells #[.int .i64 1, .int .i64 2] 3)) := ha0
  have nn1 := ints_new2 (w5.alloc (.cells #[.int .i64 1, .int .i64 2] 3)) (w4.heap.size + 1 + 1 + 1 + 1) [0] (by decide) (by rw [World.size_alloc, hz0])
  have ha1 : Below (w5.alloc (.cells #[.int .i64 1, .int .i64 2] 3)).heap.size (w5.alloc (.cells #[.int .i64 1, .int .i64 2] 3)) ((w5.alloc (.cells #[.int .i64 1, .int .i64 2] 3)).alloc (.cells #[.int .i64 0] 3)) := (Below.refl _ _).alloc (Nat.le_refl _) _
  have nn0 := ints_up nn0 ha1
  have hA1 : Below w5.heap.size w5 ((w5.alloc (.cells #[.int .i64 1, .int .i64 2] 3)).alloc (.cells #[.int .i64 0] 3)) := hA0.trans (ha1.mono hA0.size)
  refine (Turn_any _ _ _ _ _ _ _ _ _ _ _ _ _ [2, 3] [1, 2] [0] 1 (S5.i1.below hA1 (Nat.le_refl _)) hA1.size nn0 (Nat.le_refl _) nn1 (Nat.le_refl _)).mono ?_
  rintro e w6 hr
  unfold TurnPost at hr
  rw [tu1] at hr
  obtain ⟨_, rfl, ⟨A4, m4, c4, rfl, hl4⟩, hb⟩ := hr
  have hb := hA1.trans (hb.mono hA1.size)
  have S6 := S5.below hb
  obtain ⟨c1, c2, c3⟩ : _ ∧ _ ∧ _ := ⟨S6.h1.cell, S6.h2.cell, S6.h3.cell⟩
  go_wp2_with (fail)
  clear c1 c2 c3
  have nn0 := ints_new2 w6 (w6.heap.size) [0, 0] (by decide) rfl
  have ha0 : Below w6.heap.size w6 (w6.alloc (.cells #[.int .i64 0, .int .i64 0] 3)) := (Below.refl _ _).alloc (Nat.le_refl _) _
  have hA0 : Below w6.heap.size w6 (w6.alloc (.cells #[.int .i64 0, .int .i64 0] 3)) := ha0
  have nn1 := ints_new2 (w6.alloc (.cells #[.int .i64 0, .int .i64 0] 3)) (w6.heap.size + 1) [0, 1, 0] (by decide) (by rw [World.size_alloc])
  have ha1 : Below (w6.alloc (.cells #[.int .i64 0, .int .i64 0] 3)).heap.size (w6.alloc (.cells #[.int .i64 0, .int .i64 0] 3)) ((w6.alloc (.cells #[.int .i64 0, .int .i64 0] 3)).alloc (.cells #[.int .i64 0, .int .i64 1, .int .i64 0] 3)) := (Below.refl _ _).alloc (Nat.le_refl _) _
  have nn0 := ints_up nn0 ha1
  have hA1 : Below w6.heap.size w6 ((w6.alloc (.cells #[.int .i64 0, .int .i64 0] 3)).alloc (.cells #[.int .i64 0, .int .i64 1, .int .i64 0] 3)) := hA0.trans (ha1.mono hA0.size)
  refine (Play_any _ _ _ _ _ _ _ _ _ _ _ _ _ [2, 3] [0, 0] [0, 1, 0] (S6.i1.below hA1 (Nat.le_refl _)) hA1.size nn0 (Nat.le_refl _) nn1 (Nat.le_refl _)).mono ?_
  rintro e w7 hr
  unfold TurnPost at hr
  rw [pl1] at hr
  obtain ⟨_, rfl, ⟨A7, m7, c7, rfl, hl7⟩, hb⟩ := hr
  have hb := hA1.trans (hb.mono hA1.size)
  have S7 := S6.below hb
  have hl4 := ints_up hl4 hb
  obtain ⟨c1, c2, c3⟩ : _ ∧ _ ∧ _ := ⟨S7.h1.cell, S7.h2.cell, S7.h3.cell⟩
  go_wp2_with (fail)
  clear c1 c2 c3
  have nn0 := ints_new2 w7 (w7.heap.size) [0, 0] (by decide) rfl
  have ha0 : Below w7.heap.size w7 (w7.alloc (.cells #[.int .i64 0, .int .i64 0] 3)) := (Below.refl _ _).alloc (Nat.le_refl _) _
  have hA0 : Below w7.heap.size w7 (w7.alloc (.cells #[.int .i64 0, .int .i64 0] 3)) := ha0
  have nn1 := ints_new2 (w7.alloc (.cells #[.int .i64 0, .int .i64 0] 3)) (w7.heap.size + 1) [0, 0, 0, 0] (by decide) (by rw [World.size_alloc])
  have ha1 : Below (w7.alloc (.cells #[.int .i64 0, .int .i64 0] 3)).heap.size (w7.alloc (.cells #[.int .i64 0, .int .i64 0] 3)) ((w7.alloc (.cells #[.int .i64 0, .int .i64 0] 3)).alloc (.cells #[.int .i64 0, .int .i64 0, .int .i64 0, .int .i64 0] 3)) := (Below.refl _ _).alloc (Nat.le_refl _) _
  have nn0 := ints_up nn0 ha1
  have hA1 : Below w7.heap.size w7 ((w7.alloc (.cells #[.int .i64 0, .int .i64 0] 3)).alloc (.cells #[.int .i64 0, .int .i64 0, .int .i64 0, .int .i64 0] 3)) := hA0.trans (ha1.mono hA0.size)
  refine (Play_any _ _ _ _ _ _ _ _ _ _ _ _ _ [2, 3] [0, 0] [0, 0, 0, 0] (S7.i1.below hA1 (Nat.le_refl _)) hA1.size nn0 (Nat.le_refl _) nn1 (Nat.le_refl _)).mono ?_
  rintro e w8 hr
  unfold TurnPost at hr
  rw [pl2] at hr
  obtain ⟨_, rfl, ⟨A10, m10, c10, rfl, hl10⟩, hb⟩ := hr
  have hb := hA1.trans (hb.mono hA1.size)
  have S8 := S7.below hb
  have hl4 := ints_up hl4 hb
  have hl7 := ints_up hl7 hb
  obtain ⟨c1, c2, c3⟩ : _ ∧ _ ∧ _ := ⟨S8.h1.cell, S8.h2.cell, S8.h3.cell⟩
  go_wp2_with (fail)
  clear c1 c2 c3
  have nn0 := ints_new2 w8 (w8.heap.size) [0, 0, 1] (by decide) rfl
  have ha0 : Below w8.heap.size w8 (w8.alloc (.cells #[.int .i64 0, .int .i64 0, .int .i64 1] 3)) := (Below.refl _ _).alloc (Nat.le_refl _) _
  have hA0 : Below w8.heap.size w8 (w8.alloc (.cells #[.int .i64 0, .int .i64 0, .int .i64 1] 3)) := ha0
  refine (CheckCircle_any _ _ _ _ _ _ _ _ _ [2, 3] [0, 0, 1] (S8.i1.below hA0 (Nat.le_refl _)) hA0.size nn0 (Nat.le_refl _)).mono ?_
  rintro e w9 ⟨rfl, hb⟩
  rw [cc1]
  have hb := hA0.trans (hb.mono hA0.size)
  have S9 := S8.below hb
  have hl4 := ints_up hl4 hb
  have hl7 := ints_up hl7 hb
  obtain ⟨c1, c2, c3⟩ : _ ∧ _ ∧ _ := ⟨S9.h1.cell, S9.h2.cell, S9.h3.cell⟩
  go_wp2_with (fail)
  clear c1 c2 c3
  refine (Circle_any _ _ _ _ _ [2, 3] S9.i1 (Nat.le_refl _) 1 (fun _ => ⟨ends23.1, lends23, win23⟩)).mono ?_
  rintro e w10 hr
  unfold ListIn at hr
  rw [ci1] at hr
  obtain ⟨A14, m14, c14, rfl, hl14, hb⟩ := hr
  obtain rfl : m14 = 2 := by simpa using hl14.len.symm
  have S10 := S9.below hb
  have hl4 := ints_up hl4 hb
  have hl7 := ints_up hl7 hb
  obtain ⟨c1, c2, c3⟩ : _ ∧ _ ∧ _ := ⟨S10.h1.cell, S10.h2.cell, S10.h3.cell⟩
  go_wp2_with (fail)
  clear c1 c2 c3
  refine (Circle_any _ _ _ _ _ [2, 3, 6] S10.i2 (Nat.le_refl _) 2 (fun _ => ⟨ends236.1, lends236, win236⟩)).mono ?_
  rintro e w11 hr
  unfold ListIn at hr
  rw [ci2] at hr
  obtain ⟨A16, m16, c16, rfl, hl16, hb⟩ := hr
  have S11 := S10.below hb
  have hl4 := ints_up hl4 hb
  have hl7 := ints_up hl7 hb
  have hl14 := ints_up hl14 hb
  obtain ⟨c1, c2, c3⟩ : _ ∧ _ ∧ _ := ⟨S11.h1.cell, S11.h2.cell, S11.h3.cell⟩
  go_wp2_with (fail)
  clear c1 c2 c3
  refine wpIn_wide.1 (region_inv (m := 3) [74, 75, 76, 77, 78, 79, 80, 81, 82, 83, 18] (wantAt [.val (.agg #[.slice (some ⟨w3.heap.size, 0, none⟩) 2 2]), .list [0, 0], .list [0, 1], .step 1 [0, 1], .list [1, 0], .step 1 [1, 0], .list [0, 0], .step 2 [0, 0], .steps [([0, 1], 1), ([1, 0], 1), ([0, 0], 2)], .val (.int .i64 0), .val (.int .i64 0)]) (by kernel_rfl) (by kernel_rfl) (by kernel_rfl) (by kernel_rfl) (by kernel_rfl) (fun j v W W' h hb => Want.keep _ v W W' h hb) ?_ ?_)
  · intro i o ho a W hb hout hops K hK
    have hi : i < 11 := (Array.getElem?_eq_some_iff.1 ho).1
    have S := S11.below hb
    rcases (by omega : i = 0 ∨ i = 1 ∨ i = 2 ∨ i = 3 ∨ i = 4 ∨ i = 5 ∨ i = 6 ∨ i = 7 ∨ i = 8 ∨ i = 9 ∨ i = 10) with rfl | rfl | rfl | rfl | rfl | rfl | rfl | rfl | rfl | rfl | rfl
    · obtain rfl := Option.some.inj ho
      have h3 : a.tmps.getD 3 undef = .pointer (some ⟨w4.heap.size + 1 + 1, 0, none⟩) := hout 3 (by decide)
      simp only [Array.getD_eq_getD_getElem?] at h3
      have c3 := S.h3.cell
      go_simp
      exact hK _ _ (Below.refl _ _) rfl
    · obtain rfl := Option.some.inj ho
      go_simp
      exact hK _ _ ((Below.refl _ _).alloc (Nat.le_refl _) _) (list_new W [0, 0] (by decide))
    · obtain rfl := Option.some.inj ho
      go_simp
      exact hK _ _ ((Below.refl _ _).alloc (Nat.le_refl _) _) (list_new W [0, 1] (by decide))
    · obtain rfl := Option.some.inj ho
      obtain ⟨A, m, c, e, hl⟩ := hops 2 76 (by kernel_rfl) (by kernel_rfl)
      simp only [Array.getD_eq_getD_getElem?] at e
      go_simp
      refine ⟨trivial, (callsIn_wide.2 (step_any _ _ _ _ _)).mono ?_⟩
      rintro e' W' ⟨rfl, hb'⟩
      exact hK _ _ hb' ⟨_, rfl, ListAt.below ⟨A, m, c, rfl, hl⟩ hb'⟩
    · obtain rfl := Option.some.inj ho
      go_simp
      exact hK _ _ ((Below.refl _ _).alloc (Nat.le_refl _) _) (list_new W [1, 0] (by decide))
    · obtain rfl := Option.some.inj ho
      obtain ⟨A, m, c, e, hl⟩ := hops 4 78 (by kernel_rfl) (by kernel_rfl)
      simp only [Array.getD_eq_getD_getElem?] at e
      go_simp
      refine ⟨trivial, (callsIn_wide.2 (step_any _ _ _ _ _)).mono ?_⟩
      rintro e' W' ⟨rfl, hb'⟩
      exact hK _ _ hb' ⟨_, rfl, ListAt.below ⟨A, m, c, rfl, hl⟩ hb'⟩
    · obtain rfl := Option.some.inj ho
      go_simp
      exact hK _ _ ((Below.refl _ _).alloc (Nat.le_refl _) _) (list_new W [0, 0] (by decide))
    · obtain rfl := Option.some.inj ho
      obtain ⟨A, m, c, e, hl⟩ := hops 6 80 (by kernel_rfl) (by kernel_rfl)
      simp only [Array.getD_eq_getD_getElem?] at e
      go_simp
      refine ⟨trivial, (callsIn_wide.2 (step_any _ _ _ _ _)).mono ?_⟩
      rintro e' W' ⟨rfl, hb'⟩
      exact hK _ _ hb' ⟨_, rfl, ListAt.below ⟨A, m, c, rfl, hl⟩ hb'⟩
    · obtain rfl := Option.some.inj ho
      obtain ⟨s1, e1, l1⟩ := hops 3 77 (by kernel_rfl) (by kernel_rfl)
      obtain ⟨s2, e2, l2⟩ := hops 5 79 (by kernel_rfl) (by kernel_rfl)
      obtain ⟨s3, e3, l3⟩ := hops 7 81 (by kernel_rfl) (by kernel_rfl)
      simp only [Array.getD_eq_getD_getElem?] at e1 e2 e3
      go_simp
      exact hK _ _ ((Below.refl _ _).alloc (Nat.le_refl _) _) ⟨_, _, _, rfl, steps_new3 W s1 s2 s3 1 1 2 [0, 1] [1, 0] [0, 0] l1 l2 l3⟩
    · obtain rfl := Option.some.inj ho
      have e1 := hops 0 74 (by kernel_rfl) (by kernel_rfl)
      obtain ⟨A2, m2, c2, e2, l2⟩ := hops 1 75 (by kernel_rfl) (by kernel_rfl)
      obtain ⟨A3, k3, c3, e3, l3⟩ := hops 8 82 (by kernel_rfl) (by kernel_rfl)
      replace e1 : a.tmps.getD 74 undef = .agg #[.slice (some ⟨w3.heap.size, 0, none⟩) 2 2] := e1
      simp only [Array.getD_eq_getD_getElem?] at e1 e2 e3
      go_simp
      refine ⟨trivial, (callsIn_wide.2 (CheckDoom_any W _ _ _ _ _ _ _ _ _ _ _ _ [1, 1] [0, 0] [([0, 1], 1), ([1, 0], 1), ([0, 0], 2)] S.i3 (Nat.le_refl _) l2 (Nat.le_refl _) l3 (Nat.le_refl _))).mono ?_⟩
      rintro e' W' ⟨rfl, hb'⟩
      exact hK _ _ hb' (show Value.int .i64 (checkDoomF [1, 1] [0, 0] [([0, 1], 1), ([1, 0], 1), ([0, 0], 2)]) = .int .i64 0 by rw [cd1])
    · obtain rfl := Option.some.inj ho
      have e1 : a.tmps.getD 83 undef = .int .i64 0 := hops 9 83 (by kernel_rfl) (by kernel_rfl)
      simp only [Array.getD_eq_getD_getElem?] at e1
      go_simp
      exact hK _ _ (Below.refl _ _) rfl
  · intro a W hb hv ha
    have hcd : a.tmps.getD 18 undef = .int .i64 0 := hv 10 18 rfl
    rw [ha, put_fold]
    simp only [List.foldl_cons, List.foldl_nil, hcd]
    have S12 := S11.below hb
    have hl4 := ints_up hl4 hb
    have hl7 := ints_up hl7 hb
    have hl14 := ints_up hl14 hb
    generalize a.tmps.getD 74 undef = v74
    generalize a.tmps.getD 75 undef = v75
    generalize a.tmps.getD 76 undef = v76
    generalize a.tmps.getD 77 undef = v77
    generalize a.tmps.getD 78 undef = v78
    generalize a.tmps.getD 79 undef = v79
    generalize a.tmps.getD 80 undef = v80
    generalize a.tmps.getD 81 undef = v81
    generalize a.tmps.getD 82 undef = v82
    generalize a.tmps.getD 83 undef = v83
    clear ha hv hcd hb
    obtain ⟨w12, hWW⟩ : ∃ V, V = W := ⟨_, rfl⟩
    subst hWW
    obtain ⟨c1, c2, c3⟩ : _ ∧ _ ∧ _ := ⟨S12.h1.cell, S12.h2.cell, S12.h3.cell⟩
    go_wp2_with (fail)
    clear c1 c2 c3
    have nn0 := ints_new2 w12 (w12.heap.size) [0, 0, 0] (by decide) rfl
    have ha0 : Below w12.heap.size w12 (w12.alloc (.cells #[.int .i64 0, .int .i64 0, .int .i64 0] 3)) := (Below.refl _ _).alloc (Nat.le_refl _) _
    have hA0 : Below w12.heap.size w12 (w12.alloc (.cells #[.int .i64 0, .int .i64 0, .int .i64 0] 3)) := ha0
    refine (Doom_any _ _ _ _ _ _ _ _ _ [2, 3, 6] [0, 0, 0] (S12.i2.below hA0 (Nat.le_refl _)) hA0.size nn0 (Nat.le_refl _) (fun _ => ends236.1) (fun _ => rends236.1)).mono ?_
    rintro e w13 hr
    unfold StepRes at hr
    rw [do1] at hr
    obtain ⟨A19, m19, c19, rfl, hl19, hb⟩ := hr
    have hrd := rd1
    generalize stepsF (tabN [2, 3, 6] 84).2.1 (reachN [2, 3, 6] (plOf [0, 0, 0]) 84).1 = D19 at hl19 hrd
    dsimp only at hl19
    have Hrd := Lib.hid hrd
    clear hrd
    have hb := hA0.trans (hb.mono hA0.size)
    have S13 := S12.below hb
    have hl4 := ints_up hl4 hb
    have hl7 := ints_up hl7 hb
    have hl14 := ints_up hl14 hb
    obtain ⟨c1, c2, c3⟩ : _ ∧ _ ∧ _ := ⟨S13.h1.cell, S13.h2.cell, S13.h3.cell⟩
    go_wp2_with (fail)
    clear c1 c2 c3
    have nn0 := ints_new2 w13 (w13.heap.size) [0, 2] (by decide) rfl
    have ha0 : Below w13.heap.size w13 (w13.alloc (.cells #[.int .i64 0, .int .i64 2] 3)) := (Below.refl _ _).alloc (Nat.le_refl _) _
    have hA0 : Below w13.heap.size w13 (w13.alloc (.cells #[.int .i64 0, .int .i64 2] 3)) := ha0
    refine (Next_any _ _ _ _ _ _ _ _ _ [2, 3] [0, 2] (S13.i1.below hA0 (Nat.le_refl _)) hA0.size nn0 (Nat.le_refl _) (fun _ => ends23.1)).mono ?_
    rintro e w14 hr
    unfold ListRes at hr
    rw [ne1] at hr
    obtain ⟨_, rfl, hrow, hb⟩ := hr
    obtain ⟨A21, m21, c21, rfl, hl21⟩ := ListAt.of_row hrow (by decide)
    clear hrow
    have hb := hA0.trans (hb.mono hA0.size)
    have S14 := S13.below hb
    have hl4 := ints_up hl4 hb
    have hl7 := ints_up hl7 hb
    have hl14 := ints_up hl14 hb
    have hl19 := steps_up hl19 hb
    obtain ⟨c1, c2, c3⟩ : _ ∧ _ ∧ _ := ⟨S14.h1.cell, S14.h2.cell, S14.h3.cell⟩
    go_wp2_with (fail)
    clear c1 c2 c3
    have nn0 := ints_new2 w14 (w14.heap.size) [2, 2] (by decide) rfl
    have ha0 : Below w14.heap.size w14 (w14.alloc (.cells #[.int .i64 2, .int .i64 2] 3)) := (Below.refl _ _).alloc (Nat.le_refl _) _
    have hA0 : Below w14.heap.size w14 (w14.alloc (.cells #[.int .i64 2, .int .i64 2] 3)) := ha0
    refine (Wait_any _ _ _ _ _ _ _ _ _ [2, 3] [2, 2] (S14.i1.below hA0 (Nat.le_refl _)) hA0.size nn0 (Nat.le_refl _) (fun _ => ⟨ends23.1, by omega⟩)).mono ?_
    rintro e w15 hr
    unfold ListIn at hr
    rw [wa1] at hr
    obtain ⟨A23, m23, c23, rfl, hl23, hb⟩ := hr
    have hb := hA0.trans (hb.mono hA0.size)
    have S15 := S14.below hb
    have hl4 := ints_up hl4 hb
    have hl7 := ints_up hl7 hb
    have hl14 := ints_up hl14 hb
    have hl19 := steps_up hl19 hb
    have hl21 := ints_up hl21 hb
    obtain ⟨c1, c2, c3⟩ : _ ∧ _ ∧ _ := ⟨S15.h1.cell, S15.h2.cell, S15.h3.cell⟩
    go_wp2_with (fail)
    clear c1 c2 c3
    have nn0 := ints_new2 w15 (w15.heap.size) [2, 3] (by decide) rfl
    have ha0 : Below w15.heap.size w15 (w15.alloc (.cells #[.int .i64 2, .int .i64 3] 3)) := (Below.refl _ _).alloc (Nat.le_refl _) _
    have hA0 : Below w15.heap.size w15 (w15.alloc (.cells #[.int .i64 2, .int .i64 3] 3)) := ha0
    refine (Wait_any _ _ _ _ _ _ _ _ _ [2, 3] [2, 3] (S15.i1.below hA0 (Nat.le_refl _)) hA0.size nn0 (Nat.le_refl _) (fun _ => ⟨ends23.1, by omega⟩)).mono ?_
    rintro e w16 hr
    unfold ListIn at hr
    rw [wa2] at hr
    obtain ⟨A25, m25, c25, rfl, hl25, hb⟩ := hr
    have hb := hA0.trans (hb.mono hA0.size)
    have S16 := S15.below hb
    have hl4 := ints_up hl4 hb
    have hl7 := ints_up hl7 hb
    have hl14 := ints_up hl14 hb
    have hl19 := steps_up hl19 hb
    have hl21 := ints_up hl21 hb
    have hl23 := ints_up hl23 hb
    obtain ⟨c1, c2, c3⟩ : _ ∧ _ ∧ _ := ⟨S16.h1.cell, S16.h2.cell, S16.h3.cell⟩
    go_wp2_with (fail)
    clear c1 c2 c3
    have nn0 := ints_new2 w16 (w16.heap.size) [0, 0, 0] (by decide) rfl
    have ha0 : Below w16.heap.size w16 (w16.alloc (.cells #[.int .i64 0, .int .i64 0, .int .i64 0] 3)) := (Below.refl _ _).alloc (Nat.le_refl _) _
    have hA0 : Below w16.heap.size w16 (w16.alloc (.cells #[.int .i64 0, .int .i64 0, .int .i64 0] 3)) := ha0
    refine (Lasts_any _ _ _ _ _ _ _ _ _ [2, 3, 6] [0, 0, 0] (S16.i2.below hA0 (Nat.le_refl _)) hA0.size nn0 (Nat.le_refl _) (fun _ => ends236.1)).mono ?_
    rintro e w17 hr
    unfold ListRes at hr
    rw [la1] at hr
    obtain ⟨_, rfl, hrow, hb⟩ := hr
    obtain ⟨A27, m27, c27, rfl, hl27⟩ := ListAt.of_row hrow (by decide)
    clear hrow
    have hb := hA0.trans (hb.mono hA0.size)
    have S17 := S16.below hb
    have hl4 := ints_up hl4 hb
    have hl7 := ints_up hl7 hb
    have hl14 := ints_up hl14 hb
    have hl19 := steps_up hl19 hb
    have hl21 := ints_up hl21 hb
    have hl23 := ints_up hl23 hb
    obtain ⟨c1, c2, c3⟩ : _ ∧ _ ∧ _ := ⟨S17.h1.cell, S17.h2.cell, S17.h3.cell⟩
    go_wp2_with (fail)
    clear c1 c2 c3
    refine (count_any _ _ _ _ _ [2, 3] S17.i1 (Nat.le_refl _) (fun _ => ends23.1)).mono ?_
    rintro e w18 ⟨rfl, hb⟩
    rw [co1]
    have S18 := S17.below hb
    have hl4 := ints_up hl4 hb
    have hl7 := ints_up hl7 hb
    have hl14 := ints_up hl14 hb
    have hl19 := steps_up hl19 hb
    have hl21 := ints_up hl21 hb
    have hl23 := ints_up hl23 hb
    have hl27 := ints_up hl27 hb
    obtain ⟨c1, c2, c3⟩ : _ ∧ _ ∧ _ := ⟨S18.h1.cell, S18.h2.cell, S18.h3.cell⟩
    go_wp2_with (fail)
    clear c1 c2 c3
    have nn0 := ints_new2 w18 (w18.heap.size) [2, 0] (by decide) rfl
    have ha0 : Below w18.heap.size w18 (w18.alloc (.cells #[.int .i64 2, .int .i64 0] 3)) := (Below.refl _ _).alloc (Nat.le_refl _) _
    have hA0 : Below w18.heap.size w18 (w18.alloc (.cells #[.int .i64 2, .int .i64 0] 3)) := ha0
    refine (ints_any _ _ _ _ _ _ _ _ _ [2, 0] [2, 0] (hl4.below hA0 (Nat.le_refl _)) nn0).mono ?_
    rintro e w19 ⟨rfl, q, hq⟩
    have hb : Below (w18.alloc (.cells #[.int .i64 2, .int .i64 0] 3)).heap.size (w18.alloc (.cells #[.int .i64 2, .int .i64 0] 3)) w19 := by rw [hq]; exact ⟨rfl, rfl, rfl, Nat.le_refl _, fun _ _ => rfl⟩
    clear hq
    rw [show (decide (([2, 0] : List Int) = [2, 0])) = true from by decide]
    have hb := hA0.trans (hb.mono hA0.size)
    have S19 := S18.below hb
    have hl4 := ints_up hl4 hb
    have hl7 := ints_up hl7 hb
    have hl14 := ints_up hl14 hb
    have hl19 := steps_up hl19 hb
    have hl21 := ints_up hl21 hb
    have hl23 := ints_up hl23 hb
    have hl27 := ints_up hl27 hb
    obtain ⟨c1, c2, c3⟩ : _ ∧ _ ∧ _ := ⟨S19.h1.cell, S19.h2.cell, S19.h3.cell⟩
    go_wp2_with (fail)
    clear c1 c2 c3
    have nn0 := ints_new2 w19 (w19.heap.size) [0, 1] (by decide) rfl
    have ha0 : Below w19.heap.size w19 (w19.alloc (.cells #[.int .i64 0, .int .i64 1] 3)) := (Below.refl _ _).alloc (Nat.le_refl _) _
    have hA0 : Below w19.heap.size w19 (w19.alloc (.cells #[.int .i64 0, .int .i64 1] 3)) := ha0
    refine (ints_any _ _ _ _ _ _ _ _ _ [0, 1] [0, 1] (hl7.below hA0 (Nat.le_refl _)) nn0).mono ?_
    rintro e w20 ⟨rfl, q, hq⟩
    have hb : Below (w19.alloc (.cells #[.int .i64 0, .int .i64 1] 3)).heap.size (w19.alloc (.cells #[.int .i64 0, .int .i64 1] 3)) w20 := by rw [hq]; exact ⟨rfl, rfl, rfl, Nat.le_refl _, fun _ _ => rfl⟩
    clear hq
    rw [show (decide (([0, 1] : List Int) = [0, 1])) = true from by decide]
    have hb := hA0.trans (hb.mono hA0.size)
    have S20 := S19.below hb
    have hl4 := ints_up hl4 hb
    have hl7 := ints_up hl7 hb
    have hl14 := ints_up hl14 hb
    have hl19 := steps_up hl19 hb
    have hl21 := ints_up hl21 hb
    have hl23 := ints_up hl23 hb
    have hl27 := ints_up hl27 hb
    obtain ⟨c1, c2, c3⟩ : _ ∧ _ ∧ _ := ⟨S20.h1.cell, S20.h2.cell, S20.h3.cell⟩
    go_wp2_with (fail)
    clear c1 c2 c3
    refine (rCheckCircle_any _ _ _ _ _ _ _ _ _ [2, 3] [0, 1] S20.i1 (Nat.le_refl _) hl14 (Nat.le_refl _)).mono ?_
    rintro e w21 ⟨rfl, hb⟩
    rw [rc1]
    have S21 := S20.below hb
    have hl4 := ints_up hl4 hb
    have hl7 := ints_up hl7 hb
    have hl14 := ints_up hl14 hb
    have hl19 := steps_up hl19 hb
    have hl21 := ints_up hl21 hb
    have hl23 := ints_up hl23 hb
    have hl27 := ints_up hl27 hb
    obtain ⟨c1, c2, c3⟩ : _ ∧ _ ∧ _ := ⟨S21.h1.cell, S21.h2.cell, S21.h3.cell⟩
    go_wp2_with (fail)
    clear c1 c2 c3
    have nn0 := ints_new2 w21 (w21.heap.size) [0, 0, 0] (by decide) rfl
    have ha0 : Below w21.heap.size w21 (w21.alloc (.cells #[.int .i64 0, .int .i64 0, .int .i64 0] 3)) := (Below.refl _ _).alloc (Nat.le_refl _) _
    have hA0 : Below w21.heap.size w21 (w21.alloc (.cells #[.int .i64 0, .int .i64 0, .int .i64 0] 3)) := ha0
    refine (rCheckDoom_any _ _ _ _ _ _ _ _ _ _ _ _ _ [2, 3, 6] [0, 0, 0] D19 (S21.i2.below hA0 (Nat.le_refl _)) hA0.size nn0 (Nat.le_refl _) (hl19.below hA0 (Nat.le_refl _)) hA0.size).mono ?_
    rintro e w22 ⟨rfl, hb⟩
    rw [Hrd.out]
    have hb := hA0.trans (hb.mono hA0.size)
    have S22 := S21.below hb
    have hl4 := ints_up hl4 hb
    have hl7 := ints_up hl7 hb
    have hl14 := ints_up hl14 hb
    have hl19 := steps_up hl19 hb
    have hl21 := ints_up hl21 hb
    have hl23 := ints_up hl23 hb
    have hl27 := ints_up hl27 hb
    obtain ⟨c1, c2, c3⟩ : _ ∧ _ ∧ _ := ⟨S22.h1.cell, S22.h2.cell, S22.h3.cell⟩
    go_wp2_with (fail)
    clear c1 c2 c3
    have nn0 := ints_new2 w22 (w22.heap.size) [1] (by decide) rfl
    have ha0 : Below w22.heap.size w22 (w22.alloc (.cells #[.int .i64 1] 3)) := (Below.refl _ _).alloc (Nat.le_refl _) _
    have hA0 : Below w22.heap.size w22 (w22.alloc (.cells #[.int .i64 1] 3)) := ha0
    refine (ints_any _ _ _ _ _ _ _ _ _ [1] [1] (hl21.below hA0 (Nat.le_refl _)) nn0).mono ?_
    rintro e w23 ⟨rfl, q, hq⟩
    have hb : Below (w22.alloc (.cells #[.int .i64 1] 3)).heap.size (w22.alloc (.cells #[.int .i64 1] 3)) w23 := by rw [hq]; exact ⟨rfl, rfl, rfl, Nat.le_refl _, fun _ _ => rfl⟩
    clear hq
    rw [show (decide (([1] : List Int) = [1])) = true from by decide]
    have hb := hA0.trans (hb.mono hA0.size)
    have S23 := S22.below hb
    have hl4 := ints_up hl4 hb
    have hl7 := ints_up hl7 hb
    have hl14 := ints_up hl14 hb
    have hl19 := steps_up hl19 hb
    have hl21 := ints_up hl21 hb
    have hl23 := ints_up hl23 hb
    have hl27 := ints_up hl27 hb
    obtain ⟨c1, c2, c3⟩ : _ ∧ _ ∧ _ := ⟨S23.h1.cell, S23.h2.cell, S23.h3.cell⟩
    go_wp2_with (fail)
    clear c1 c2 c3
    have nn0 := ints_new2 w23 (w23.heap.size) [0, 1] (by decide) rfl
    have ha0 : Below w23.heap.size w23 (w23.alloc (.cells #[.int .i64 0, .int .i64 1] 3)) := (Below.refl _ _).alloc (Nat.le_refl _) _
    have hA0 : Below w23.heap.size w23 (w23.alloc (.cells #[.int .i64 0, .int .i64 1] 3)) := ha0
    refine (ints_any _ _ _ _ _ _ _ _ _ [0, 1] [0, 1] (hl23.below hA0 (Nat.le_refl _)) nn0).mono ?_
    rintro e w24 ⟨rfl, q, hq⟩
    have hb : Below (w23.alloc (.cells #[.int .i64 0, .int .i64 1] 3)).heap.size (w23.alloc (.cells #[.int .i64 0, .int .i64 1] 3)) w24 := by rw [hq]; exact ⟨rfl, rfl, rfl, Nat.le_refl _, fun _ _ => rfl⟩
    clear hq
    rw [show (decide (([0, 1] : List Int) = [0, 1])) = true from by decide]
    have hb := hA0.trans (hb.mono hA0.size)
    have S24 := S23.below hb
    have hl4 := ints_up hl4 hb
    have hl7 := ints_up hl7 hb
    have hl14 := ints_up hl14 hb
    have hl19 := steps_up hl19 hb
    have hl21 := ints_up hl21 hb
    have hl23 := ints_up hl23 hb
    have hl27 := ints_up hl27 hb
    obtain ⟨c1, c2, c3⟩ : _ ∧ _ ∧ _ := ⟨S24.h1.cell, S24.h2.cell, S24.h3.cell⟩
    go_wp2_with (fail)
    clear c1 c2 c3
    have nn0 := ints_new2 w24 (w24.heap.size) [2, 0, 1, 0, 1, 0, 2, 0] (by decide) rfl
    have ha0 : Below w24.heap.size w24 (w24.alloc (.cells #[.int .i64 2, .int .i64 0, .int .i64 1, .int .i64 0, .int .i64 1, .int .i64 0, .int .i64 2, .int .i64 0] 3)) := (Below.refl _ _).alloc (Nat.le_refl _) _
    have hA0 : Below w24.heap.size w24 (w24.alloc (.cells #[.int .i64 2, .int .i64 0, .int .i64 1, .int .i64 0, .int .i64 1, .int .i64 0, .int .i64 2, .int .i64 0] 3)) := ha0
    refine (ints_any _ _ _ _ _ _ _ _ _ [2, 0, 1, 0, 1, 0, 2, 0] [2, 0, 1, 0, 1, 0, 2, 0] (hl27.below hA0 (Nat.le_refl _)) nn0).mono ?_
    rintro e w25 ⟨rfl, q, hq⟩
    have hb : Below (w24.alloc (.cells #[.int .i64 2, .int .i64 0, .int .i64 1, .int .i64 0, .int .i64 1, .int .i64 0, .int .i64 2, .int .i64 0] 3)).heap.size (w24.alloc (.cells #[.int .i64 2, .int .i64 0, .int .i64 1, .int .i64 0, .int .i64 1, .int .i64 0, .int .i64 2, .int .i64 0] 3)) w25 := by rw [hq]; exact ⟨rfl, rfl, rfl, Nat.le_refl _, fun _ _ => rfl⟩
    clear hq
    rw [show (decide (([2, 0, 1, 0, 1, 0, 2, 0] : List Int) = [2, 0, 1, 0, 1, 0, 2, 0])) = true from by decide]
    have hb := hA0.trans (hb.mono hA0.size)
    have S25 := S24.below hb
    have hl4 := ints_up hl4 hb
    have hl7 := ints_up hl7 hb
    have hl14 := ints_up hl14 hb
    have hl19 := steps_up hl19 hb
    have hl21 := ints_up hl21 hb
    have hl23 := ints_up hl23 hb
    have hl27 := ints_up hl27 hb
    go_wp2_with (fail)
    go_ret
    exact ⟨rfl, S25.bel⟩
end Go.Proofs.YthjgecblkagelaaGreat
