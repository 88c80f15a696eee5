/- TurnKnown answers true, as a closed statement: the chapter's examples of package turn hold, and those of Works with them. No condition. -/
import Derived.Test.YtiffpknghkfgbaaGreatM23
import Derived.Test.YtiffpknghkfgbaaGreatRows
import Derived.WalkKit
import Derived.ProofKit
import Derived.OpenShut

/- TurnKnown. -/
namespace Go.Proofs.YtiffpknghkfgbaaGreat
open Go.RowKit Go.Shelf

attribute [local go_sem] Oper.semAt_some

structure HallsB (w W : World) (p1 p3 b1 b3 : Nat) : Prop where
  bel : Below w.heap.size w W
  h1 : Boxed W p1 24 (.slice (some ⟨b1, 0, none⟩) 2 2)
  h3 : Boxed W p3 24 (.slice (some ⟨b3, 0, none⟩) 2 2)
  i1 : IntsAt W W.heap.size (some ⟨b1, 0, none⟩) 2 [2, 3]
  i3 : IntsAt W W.heap.size (some ⟨b3, 0, none⟩) 2 [1, 1]
theorem HallsB.below {w W W' : World} {p1 p3 b1 b3 : Nat} (h : HallsB w W p1 p3 b1 b3) (hb : Below W.heap.size W W') : HallsB w W' p1 p3 b1 b3 :=
  ⟨h.bel.trans (hb.mono h.bel.size), bxBelow h.h1 hb h.h1.lt, bxBelow h.h3 hb h.h3.lt, ints_up h.i1 hb, ints_up h.i3 hb⟩

set_option maxRecDepth 100000 in
set_option maxHeartbeats 16000000 in
theorem TurnKnown_any (w : World) : Calls Tryz.prog 5 #[] w fun e w' => e = .returned (.bool true) ∧ Below w.heap.size w w' := by
  go_enter Tryz.func5, Tryz.ntmps5
  go_wp2_with (fail)
  have n1 := ints_new w [2, 3] (by decide)
  have hb1 : Below w.heap.size w (w.alloc (.cells #[.int .i64 2, .int .i64 3] 3)) := (Below.refl _ w).alloc (Nat.le_refl _) _
  refine (Hall_any _ _ _ _).mono ?_
  rintro e w2 ⟨rfl, hb2⟩
  have i1 := ints_up n1 hb2
  have hB2 := hb1.trans (hb2.mono hb1.size)
  clear n1 hb1 hb2
  go_wp2_with (fail)
  have n3 := ints_new w2 [1, 1] (by decide)
  have hb1 : Below w2.heap.size w2 (w2.alloc (.cells #[.int .i64 1, .int .i64 1] 3)) := (Below.refl _ w2).alloc (Nat.le_refl _) _
  refine (Hall_any _ _ _ _).mono ?_
  rintro e w4 ⟨rfl, hb2⟩
  have i3 := ints_up n3 hb2
  have hb3 := hb1.trans (hb2.mono hb1.size)
  have i1 := ints_up i1 hb3
  have hB4 := hB2.trans (hb3.mono hB2.size)
  clear n3 hb1 hb2 hb3 hB2
  go_wp2_with (fail)
  have x1 := (Boxed.new w4 24 (.slice (some ⟨w.heap.size, 0, none⟩) 2 2)).alloc (.cells #[.slice (some ⟨w2.heap.size, 0, none⟩) 2 2] 24)
  have x3 := Boxed.new (w4.alloc (.cells #[.slice (some ⟨w.heap.size, 0, none⟩) 2 2] 24)) 24 (.slice (some ⟨w2.heap.size, 0, none⟩) 2 2)
  have hz0 : ((w4.alloc (.cells #[.slice (some ⟨w.heap.size, 0, none⟩) 2 2] 24)).alloc (.cells #[.slice (some ⟨w2.heap.size, 0, none⟩) 2 2] 24)).heap.size = w4.heap.size + 1 + 1 := by simp
  simp only [World.size_alloc] at x1 x3
  have hbx : Below w4.heap.size w4 ((w4.alloc (.cells #[.slice (some ⟨w.heap.size, 0, none⟩) 2 2] 24)).alloc (.cells #[.slice (some ⟨w2.heap.size, 0, none⟩) 2 2] 24)) := ((Below.refl _ w4).alloc (Nat.le_refl _) _).alloc (by simp) _
  obtain ⟨w5, hw5⟩ : ∃ W, W = ((w4.alloc (.cells #[.slice (some ⟨w.heap.size, 0, none⟩) 2 2] 24)).alloc (.cells #[.slice (some ⟨w2.heap.size, 0, none⟩) 2 2] 24)) := ⟨_, rfl⟩
  rw [← hw5] at x1 x3 hbx hz0 ⊢
  have S5 : HallsB w w5 w4.heap.size (w4.heap.size + 1) w.heap.size w2.heap.size := ⟨hB4.trans (hbx.mono hB4.size), x1, x3, ints_up i1 hbx, ints_up i3 hbx⟩
  clear x1 x3 hbx hw5 i1 i3 hB4
  obtain ⟨c1, c3⟩ : _ ∧ _ := ⟨S5.h1.cell, S5.h3.cell⟩
  go_wp2_with (fail)
  clear c1 c3
  have nn0 := ints_new2 w5 (w4.heap.size + 1 + 1) [1, 2] (by decide) hz0.symm
  have ha0 : Below w5.heap.size w5 (w5.alloc (.cells #[.int .i64 1, .int .i64 2] 3)) := (Below.refl _ _).alloc (Nat.le_refl _) _
  have hA0 : Below w5.heap.size w5 (w5.alloc (.cells #[.int .i64 1, .int .i64 2] 3)) := ha0
  have nn1 := ints_new2 (w5.alloc (.cells #[.int .i64 1, .int .i64 2] 3)) (w4.heap.size + 1 + 1 + 1) [0, 1] (by decide) (by rw [World.size_alloc, hz0])
  have ha1 : Below (w5.alloc (.cells #[.int .i64 1, .int .i64 2] 3)).heap.size (w5.alloc (.cells #[.int .i64 1, .int .i64 2] 3)) ((w5.alloc (.cells #[.int .i64 1, .int .i64 2] 3)).alloc (.cells #[.int .i64 0, .int .i64 1] 3)) := (Below.refl _ _).alloc (Nat.le_refl _) _
  have nn0 := ints_up nn0 ha1
  have hA1 : Below w5.heap.size w5 ((w5.alloc (.cells #[.int .i64 1, .int .i64 2] 3)).alloc (.cells #[.int .i64 0, .int .i64 1] 3)) := hA0.trans (ha1.mono hA0.size)
  refine (Turn_any _ _ _ _ _ _ _ _ _ _ _ _ _ [2, 3] [1, 2] [0, 1] 0 (S5.i1.below hA1 (Nat.le_refl _)) hA1.size nn0 (Nat.le_refl _) nn1 (Nat.le_refl _)).mono ?_
  rintro e w6 hr
  unfold TurnPost at hr
  rw [tu2] at hr
  obtain ⟨_, rfl, ⟨A3, m3, c3, rfl, hl3⟩, hb⟩ := hr
  have hb := hA1.trans (hb.mono hA1.size)
  have S6 := S5.below hb
  obtain ⟨c1, c3⟩ : _ ∧ _ := ⟨S6.h1.cell, S6.h3.cell⟩
  go_wp2_with (fail)
  clear c1 c3
  have nn0 := ints_new2 w6 (w6.heap.size) [2, 2] (by decide) rfl
  have ha0 : Below w6.heap.size w6 (w6.alloc (.cells #[.int .i64 2, .int .i64 2] 3)) := (Below.refl _ _).alloc (Nat.le_refl _) _
  have hA0 : Below w6.heap.size w6 (w6.alloc (.cells #[.int .i64 2, .int .i64 2] 3)) := ha0
  have nn1 := ints_new2 (w6.alloc (.cells #[.int .i64 2, .int .i64 2] 3)) (w6.heap.size + 1) [0] (by decide) (by rw [World.size_alloc])
  have ha1 : Below (w6.alloc (.cells #[.int .i64 2, .int .i64 2] 3)).heap.size (w6.alloc (.cells #[.int .i64 2, .int .i64 2] 3)) ((w6.alloc (.cells #[.int .i64 2, .int .i64 2] 3)).alloc (.cells #[.int .i64 0] 3)) := (Below.refl _ _).alloc (Nat.le_refl _) _
  have nn0 := ints_up nn0 ha1
  have hA1 : Below w6.heap.size w6 ((w6.alloc (.cells #[.int .i64 2, .int .i64 2] 3)).alloc (.cells #[.int .i64 0] 3)) := hA0.trans (ha1.mono hA0.size)
  refine (Turn_any _ _ _ _ _ _ _ _ _ _ _ _ _ [2, 3] [2, 2] [0] 0 (S6.i1.below hA1 (Nat.le_refl _)) hA1.size nn0 (Nat.le_refl _) nn1 (Nat.le_refl _)).mono ?_
  rintro e w7 hr
  unfold TurnPost at hr
  rw [tu3] at hr
  obtain ⟨_, rfl, ⟨A6, m6, c6, rfl, hl6⟩, hb⟩ := hr
  have hb := hA1.trans (hb.mono hA1.size)
  have S7 := S6.below hb
  have hl3 := ints_up hl3 hb
  obtain ⟨c1, c3⟩ : _ ∧ _ := ⟨S7.h1.cell, S7.h3.cell⟩
  go_wp2_with (fail)
  clear c1 c3
  refine wpIn_wide.1 (region_inv (m := 3) [46, 47, 48, 49, 50, 51, 9, 10] (wantAt [.val (.agg #[.slice (some ⟨w.heap.size, 0, none⟩) 2 2]), .list [0, 1], .val (.int .i64 0), .val (.agg #[.slice (some ⟨w.heap.size, 0, none⟩) 2 2]), .list [0], .val (.int .i64 17), .val (.int .i64 0), .val (.int .i64 17)]) (by kernel_rfl) (by kernel_rfl) (by kernel_rfl) (by kernel_rfl) (by kernel_rfl) (fun j v W W' h hb => Want.keep _ v W W' h hb) ?_ ?_)
  · intro i o ho a W hb hout hops K hK
    have hi : i < 8 := (Array.getElem?_eq_some_iff.1 ho).1
    have S := S7.below hb
    rcases (by omega : i = 0 ∨ i = 1 ∨ i = 2 ∨ i = 3 ∨ i = 4 ∨ i = 5 ∨ i = 6 ∨ i = 7) with rfl | rfl | rfl | rfl | rfl | rfl | rfl | rfl
    · obtain rfl := Option.some.inj ho
      have h3 : a.tmps.getD 1 undef = .pointer (some ⟨w4.heap.size, 0, none⟩) := (hout 1 (by decide)).trans (by kernel_rfl)
      simp only [Array.getD_eq_getD_getElem?] at h3
      have c3 := S.h1.cell
      go_simp
      exact hK _ _ (Below.refl _ _) rfl
    · obtain rfl := Option.some.inj ho
      go_simp
      exact hK _ _ ((Below.refl _ _).alloc (Nat.le_refl _) _) (list_new W [0, 1] (by decide))
    · obtain rfl := Option.some.inj ho
      have e1 := hops 0 46 (by kernel_rfl) (by kernel_rfl)
      obtain ⟨A2, m2, c2, e2, l2⟩ := hops 1 47 (by kernel_rfl) (by kernel_rfl)
      replace e1 : a.tmps.getD 46 undef = .agg #[.slice (some ⟨w.heap.size, 0, none⟩) 2 2] := e1
      simp only [Array.getD_eq_getD_getElem?] at e1 e2
      go_simp
      refine ⟨trivial, (callsIn_wide.2 (CheckCircle_any W _ _ _ _ _ _ _ _ [2, 3] [0, 1] S.i1 (Nat.le_refl _) l2 (Nat.le_refl _))).mono ?_⟩
      rintro e' W' ⟨rfl, hb'⟩
      exact hK _ _ hb' (show Value.int .i64 (checkCircleF [2, 3] [0, 1]) = .int .i64 0 by rw [cc2])
    · obtain rfl := Option.some.inj ho
      have h3 : a.tmps.getD 1 undef = .pointer (some ⟨w4.heap.size, 0, none⟩) := (hout 1 (by decide)).trans (by kernel_rfl)
      simp only [Array.getD_eq_getD_getElem?] at h3
      have c3 := S.h1.cell
      go_simp
      exact hK _ _ (Below.refl _ _) rfl
    · obtain rfl := Option.some.inj ho
      go_simp
      exact hK _ _ ((Below.refl _ _).alloc (Nat.le_refl _) _) (list_new W [0] (by decide))
    · obtain rfl := Option.some.inj ho
      have e1 := hops 3 49 (by kernel_rfl) (by kernel_rfl)
      obtain ⟨A2, m2, c2, e2, l2⟩ := hops 4 50 (by kernel_rfl) (by kernel_rfl)
      replace e1 : a.tmps.getD 49 undef = .agg #[.slice (some ⟨w.heap.size, 0, none⟩) 2 2] := e1
      simp only [Array.getD_eq_getD_getElem?] at e1 e2
      go_simp
      refine ⟨trivial, (callsIn_wide.2 (CheckCircle_any W _ _ _ _ _ _ _ _ [2, 3] [0] S.i1 (Nat.le_refl _) l2 (Nat.le_refl _))).mono ?_⟩
      rintro e' W' ⟨rfl, hb'⟩
      exact hK _ _ hb' (show Value.int .i64 (checkCircleF [2, 3] [0]) = .int .i64 17 by rw [cc3])
    · obtain rfl := Option.some.inj ho
      have e1 : a.tmps.getD 48 undef = .int .i64 0 := hops 2 48 (by kernel_rfl) (by kernel_rfl)
      simp only [Array.getD_eq_getD_getElem?] at e1
      go_simp
      exact hK _ _ (Below.refl _ _) rfl
    · obtain rfl := Option.some.inj ho
      have e1 : a.tmps.getD 51 undef = .int .i64 17 := hops 5 51 (by kernel_rfl) (by kernel_rfl)
      simp only [Array.getD_eq_getD_getElem?] at e1
      go_simp
      exact hK _ _ (Below.refl _ _) rfl
  · intro a W hb hv ha
    have hcd9 : a.tmps.getD 9 undef = .int .i64 0 := hv 6 9 rfl
    have hcd10 : a.tmps.getD 10 undef = .int .i64 17 := hv 7 10 rfl
    rw [ha, put_fold]
    simp only [List.foldl_cons, List.foldl_nil, hcd9, hcd10]
    have S8 := S7.below hb
    have hl3 := ints_up hl3 hb
    generalize a.tmps.getD 46 undef = v46
    generalize a.tmps.getD 47 undef = v47
    generalize a.tmps.getD 48 undef = v48
    generalize a.tmps.getD 49 undef = v49
    generalize a.tmps.getD 50 undef = v50
    generalize a.tmps.getD 51 undef = v51
    clear ha hv hb hcd9 hcd10
    obtain ⟨w8, hWW⟩ : ∃ V, V = W := ⟨_, rfl⟩
    subst hWW
    obtain ⟨c1, c3⟩ : _ ∧ _ := ⟨S8.h1.cell, S8.h3.cell⟩
    go_wp2_with (fail)
    clear c1 c3
    refine wpIn_wide.1 (region_inv (m := 3) [52, 53, 54, 55, 56, 57, 58, 59, 11] (wantAt [.val (.agg #[.slice (some ⟨w2.heap.size, 0, none⟩) 2 2]), .list [0, 0], .list [0, 1], .step 1 [0, 1], .list [0, 0], .step 2 [0, 0], .steps [([0, 1], 1), ([0, 0], 2)], .val (.int .i64 14), .val (.int .i64 14)]) (by kernel_rfl) (by kernel_rfl) (by kernel_rfl) (by kernel_rfl) (by kernel_rfl) (fun j v W W' h hb => Want.keep _ v W W' h hb) ?_ ?_)
    · intro i o ho a W hb hout hops K hK
      have hi : i < 9 := (Array.getElem?_eq_some_iff.1 ho).1
      have S := S8.below hb
      rcases (by omega : i = 0 ∨ i = 1 ∨ i = 2 ∨ i = 3 ∨ i = 4 ∨ i = 5 ∨ i = 6 ∨ i = 7 ∨ i = 8) with rfl | rfl | rfl | rfl | rfl | rfl | rfl | rfl | rfl
      · obtain rfl := Option.some.inj ho
        have h3 : a.tmps.getD 2 undef = .pointer (some ⟨w4.heap.size + 1, 0, none⟩) := (hout 2 (by decide)).trans (by kernel_rfl)
        simp only [Array.getD_eq_getD_getElem?] at h3
        have c3 := S.h3.cell
        go_simp
        exact hK _ _ (Below.refl _ _) rfl
      · obtain rfl := Option.some.inj ho
        go_simp
        exact hK _ _ ((Below.refl _ _).alloc (Nat.le_refl _) _) (list_new W [0, 0] (by decide))
      · obtain rfl := Option.some.inj ho
        go_simp
        exact hK _ _ ((Below.refl _ _).alloc (Nat.le_refl _) _) (list_new W [0, 1] (by decide))
      · obtain rfl := Option.some.inj ho
        obtain ⟨A, m, c, e, hl⟩ := hops 2 54 (by kernel_rfl) (by kernel_rfl)
        simp only [Array.getD_eq_getD_getElem?] at e
        go_simp
        refine ⟨trivial, (callsIn_wide.2 (step_any _ _ _ _ _)).mono ?_⟩
        rintro e' W' ⟨rfl, hb'⟩
        exact hK _ _ hb' ⟨_, rfl, ListAt.below ⟨A, m, c, rfl, hl⟩ hb'⟩
      · obtain rfl := Option.some.inj ho
        go_simp
        exact hK _ _ ((Below.refl _ _).alloc (Nat.le_refl _) _) (list_new W [0, 0] (by decide))
      · obtain rfl := Option.some.inj ho
        obtain ⟨A, m, c, e, hl⟩ := hops 4 56 (by kernel_rfl) (by kernel_rfl)
        simp only [Array.getD_eq_getD_getElem?] at e
        go_simp
        refine ⟨trivial, (callsIn_wide.2 (step_any _ _ _ _ _)).mono ?_⟩
        rintro e' W' ⟨rfl, hb'⟩
        exact hK _ _ hb' ⟨_, rfl, ListAt.below ⟨A, m, c, rfl, hl⟩ hb'⟩
      · obtain rfl := Option.some.inj ho
        obtain ⟨s1, e1, l1⟩ := hops 3 55 (by kernel_rfl) (by kernel_rfl)
        obtain ⟨s2, e2, l2⟩ := hops 5 57 (by kernel_rfl) (by kernel_rfl)
        simp only [Array.getD_eq_getD_getElem?] at e1 e2
        go_simp
        exact hK _ _ ((Below.refl _ _).alloc (Nat.le_refl _) _) ⟨_, _, _, rfl, steps_new2 W s1 s2 1 2 [0, 1] [0, 0] l1 l2⟩
      · obtain rfl := Option.some.inj ho
        have e1 := hops 0 52 (by kernel_rfl) (by kernel_rfl)
        obtain ⟨A2, m2, c2, e2, l2⟩ := hops 1 53 (by kernel_rfl) (by kernel_rfl)
        obtain ⟨A3, k3, c3, e3, l3⟩ := hops 6 58 (by kernel_rfl) (by kernel_rfl)
        replace e1 : a.tmps.getD 52 undef = .agg #[.slice (some ⟨w2.heap.size, 0, none⟩) 2 2] := e1
        simp only [Array.getD_eq_getD_getElem?] at e1 e2 e3
        go_simp
        refine ⟨trivial, (callsIn_wide.2 (CheckDoom_any W _ _ _ _ _ _ _ _ _ _ _ _ [1, 1] [0, 0] [([0, 1], 1), ([0, 0], 2)] S.i3 (Nat.le_refl _) l2 (Nat.le_refl _) l3 (Nat.le_refl _))).mono ?_⟩
        rintro e' W' ⟨rfl, hb'⟩
        exact hK _ _ hb' (show Value.int .i64 (checkDoomF [1, 1] [0, 0] [([0, 1], 1), ([0, 0], 2)]) = .int .i64 14 by rw [cd2])
      · obtain rfl := Option.some.inj ho
        have e1 : a.tmps.getD 59 undef = .int .i64 14 := hops 7 59 (by kernel_rfl) (by kernel_rfl)
        simp only [Array.getD_eq_getD_getElem?] at e1
        go_simp
        exact hK _ _ (Below.refl _ _) rfl
    · intro a W hb hv ha
      have hcd11 : a.tmps.getD 11 undef = .int .i64 14 := hv 8 11 rfl
      rw [ha, put_fold]
      simp only [List.foldl_cons, List.foldl_nil, hcd11]
      have S9 := S8.below hb
      have hl3 := ints_up hl3 hb
      generalize a.tmps.getD 52 undef = v52
      generalize a.tmps.getD 53 undef = v53
      generalize a.tmps.getD 54 undef = v54
      generalize a.tmps.getD 55 undef = v55
      generalize a.tmps.getD 56 undef = v56
      generalize a.tmps.getD 57 undef = v57
      generalize a.tmps.getD 58 undef = v58
      generalize a.tmps.getD 59 undef = v59
      clear ha hv hb hcd11
      obtain ⟨w9, hWW⟩ : ∃ V, V = W := ⟨_, rfl⟩
      subst hWW
      obtain ⟨c1, c3⟩ : _ ∧ _ := ⟨S9.h1.cell, S9.h3.cell⟩
      go_wp2_with (fail)
      clear c1 c3
      have nn0 := ints_new2 w9 (w9.heap.size) [0, 0] (by decide) rfl
      have ha0 : Below w9.heap.size w9 (w9.alloc (.cells #[.int .i64 0, .int .i64 0] 3)) := (Below.refl _ _).alloc (Nat.le_refl _) _
      have hA0 : Below w9.heap.size w9 (w9.alloc (.cells #[.int .i64 0, .int .i64 0] 3)) := ha0
      refine (Next_any _ _ _ _ _ _ _ _ _ [2, 3] [0, 0] (S9.i1.below hA0 (Nat.le_refl _)) hA0.size nn0 (Nat.le_refl _) (fun _ => ends23.1)).mono ?_
      rintro e w10 hr
      unfold ListRes at hr
      rw [ne2] at hr
      obtain ⟨_, rfl, hrow, hb⟩ := hr
      obtain ⟨A12, m12, c12, rfl, hl12⟩ := ListAt.of_row hrow (by decide)
      clear hrow
      have hb := hA0.trans (hb.mono hA0.size)
      have S10 := S9.below hb
      have hl3 := ints_up hl3 hb
      obtain ⟨c1, c3⟩ : _ ∧ _ := ⟨S10.h1.cell, S10.h3.cell⟩
      go_wp2_with (fail)
      clear c1 c3
      have nn0 := ints_new2 w10 (w10.heap.size) [1, 2] (by decide) rfl
      have ha0 : Below w10.heap.size w10 (w10.alloc (.cells #[.int .i64 1, .int .i64 2] 3)) := (Below.refl _ _).alloc (Nat.le_refl _) _
      have hA0 : Below w10.heap.size w10 (w10.alloc (.cells #[.int .i64 1, .int .i64 2] 3)) := ha0
      refine (Next_any _ _ _ _ _ _ _ _ _ [2, 3] [1, 2] (S10.i1.below hA0 (Nat.le_refl _)) hA0.size nn0 (Nat.le_refl _) (fun _ => ends23.1)).mono ?_
      rintro e w11 hr
      unfold ListRes at hr
      rw [ne3] at hr
      obtain ⟨_, rfl, hrow, hb⟩ := hr
      obtain ⟨A14, m14, c14, rfl, hl14⟩ := ListAt.of_row hrow (by decide)
      clear hrow
      have hb := hA0.trans (hb.mono hA0.size)
      have S11 := S10.below hb
      have hl3 := ints_up hl3 hb
      have hl12 := ints_up hl12 hb
      obtain ⟨c1, c3⟩ : _ ∧ _ := ⟨S11.h1.cell, S11.h3.cell⟩
      go_wp2_with (fail)
      clear c1 c3
      have nn0 := ints_new2 w11 (w11.heap.size) [1, 2] (by decide) rfl
      have ha0 : Below w11.heap.size w11 (w11.alloc (.cells #[.int .i64 1, .int .i64 2] 3)) := (Below.refl _ _).alloc (Nat.le_refl _) _
      have hA0 : Below w11.heap.size w11 (w11.alloc (.cells #[.int .i64 1, .int .i64 2] 3)) := ha0
      refine (Wait_any _ _ _ _ _ _ _ _ _ [2, 3] [1, 2] (S11.i1.below hA0 (Nat.le_refl _)) hA0.size nn0 (Nat.le_refl _) (fun _ => ⟨ends23.1, by omega⟩)).mono ?_
      rintro e w12 hr
      unfold ListIn at hr
      rw [wa3] at hr
      obtain ⟨A16, m16, c16, rfl, hl16, hb⟩ := hr
      have hb := hA0.trans (hb.mono hA0.size)
      have S12 := S11.below hb
      have hl3 := ints_up hl3 hb
      have hl12 := ints_up hl12 hb
      obtain ⟨c1, c3⟩ : _ ∧ _ := ⟨S12.h1.cell, S12.h3.cell⟩
      go_wp2_with (fail)
      clear c1 c3
      have nn0 := ints_new2 w12 (w12.heap.size) [1, 1] (by decide) rfl
      have ha0 : Below w12.heap.size w12 (w12.alloc (.cells #[.int .i64 1, .int .i64 1] 3)) := (Below.refl _ _).alloc (Nat.le_refl _) _
      have hA0 : Below w12.heap.size w12 (w12.alloc (.cells #[.int .i64 1, .int .i64 1] 3)) := ha0
      refine (Wait_any _ _ _ _ _ _ _ _ _ [2, 3] [1, 1] (S12.i1.below hA0 (Nat.le_refl _)) hA0.size nn0 (Nat.le_refl _) (fun _ => ⟨ends23.1, by omega⟩)).mono ?_
      rintro e w13 hr
      unfold ListIn at hr
      rw [wa4] at hr
      obtain ⟨A18, m18, c18, rfl, hl18, hb⟩ := hr
      obtain rfl : m18 = 0 := by simpa using hl18.len.symm
      have hb := hA0.trans (hb.mono hA0.size)
      have S13 := S12.below hb
      have hl3 := ints_up hl3 hb
      have hl12 := ints_up hl12 hb
      have hl16 := ints_up hl16 hb
      obtain ⟨c1, c3⟩ : _ ∧ _ := ⟨S13.h1.cell, S13.h3.cell⟩
      go_wp2_with (fail)
      clear c1 c3
      have nn0 := ints_new2 w13 (w13.heap.size) [1, 2] (by decide) rfl
      have ha0 : Below w13.heap.size w13 (w13.alloc (.cells #[.int .i64 1, .int .i64 2] 3)) := (Below.refl _ _).alloc (Nat.le_refl _) _
      have hA0 : Below w13.heap.size w13 (w13.alloc (.cells #[.int .i64 1, .int .i64 2] 3)) := ha0
      refine (Lasts_any _ _ _ _ _ _ _ _ _ [2, 3] [1, 2] (S13.i1.below hA0 (Nat.le_refl _)) hA0.size nn0 (Nat.le_refl _) (fun _ => ends23.1)).mono ?_
      rintro e w14 hr
      unfold ListRes at hr
      rw [la2] at hr
      obtain ⟨_, rfl, hrow, hb⟩ := hr
      obtain ⟨A20, m20, c20, rfl, hl20⟩ := ListAt.of_row hrow (by decide)
      clear hrow
      have hb := hA0.trans (hb.mono hA0.size)
      have S14 := S13.below hb
      have hl3 := ints_up hl3 hb
      have hl12 := ints_up hl12 hb
      have hl16 := ints_up hl16 hb
      obtain ⟨c1, c3⟩ : _ ∧ _ := ⟨S14.h1.cell, S14.h3.cell⟩
      go_wp2_with (fail)
      clear c1 c3
      have nn0 := ints_new2 w14 (w14.heap.size) [0, 0] (by decide) rfl
      have ha0 : Below w14.heap.size w14 (w14.alloc (.cells #[.int .i64 0, .int .i64 0] 3)) := (Below.refl _ _).alloc (Nat.le_refl _) _
      have hA0 : Below w14.heap.size w14 (w14.alloc (.cells #[.int .i64 0, .int .i64 0] 3)) := ha0
      refine (Lasts_any _ _ _ _ _ _ _ _ _ [2, 3] [0, 0] (S14.i1.below hA0 (Nat.le_refl _)) hA0.size nn0 (Nat.le_refl _) (fun _ => ends23.1)).mono ?_
      rintro e w15 hr
      unfold ListRes at hr
      rw [la3] at hr
      obtain ⟨_, rfl, hrow, hb⟩ := hr
      obtain ⟨A22, m22, c22, rfl, hl22⟩ := ListAt.of_row hrow (by decide)
      clear hrow
      have hb := hA0.trans (hb.mono hA0.size)
      have S15 := S14.below hb
      have hl3 := ints_up hl3 hb
      have hl12 := ints_up hl12 hb
      have hl16 := ints_up hl16 hb
      have hl20 := ints_up hl20 hb
      obtain ⟨c1, c3⟩ : _ ∧ _ := ⟨S15.h1.cell, S15.h3.cell⟩
      go_wp2_with (fail)
      clear c1 c3
      refine (count_any _ _ _ _ _ [1, 1] S15.i3 (Nat.le_refl _) (fun _ => ends11.1)).mono ?_
      rintro e w16 ⟨rfl, hb⟩
      rw [co2]
      have S16 := S15.below hb
      have hl3 := ints_up hl3 hb
      have hl12 := ints_up hl12 hb
      have hl16 := ints_up hl16 hb
      have hl20 := ints_up hl20 hb
      obtain ⟨c1, c3⟩ : _ ∧ _ := ⟨S16.h1.cell, S16.h3.cell⟩
      go_wp2_with (fail)
      clear c1 c3
      have nn0 := ints_new2 w16 (w16.heap.size) [0, 3] (by decide) rfl
      have ha0 : Below w16.heap.size w16 (w16.alloc (.cells #[.int .i64 0, .int .i64 3] 3)) := (Below.refl _ _).alloc (Nat.le_refl _) _
      have hA0 : Below w16.heap.size w16 (w16.alloc (.cells #[.int .i64 0, .int .i64 3] 3)) := ha0
      refine (ints_any _ _ _ _ _ _ _ _ _ [0, 3] [0, 3] (hl3.below hA0 (Nat.le_refl _)) nn0).mono ?_
      rintro e w17 ⟨rfl, q, hq⟩
      have hb : Below (w16.alloc (.cells #[.int .i64 0, .int .i64 3] 3)).heap.size (w16.alloc (.cells #[.int .i64 0, .int .i64 3] 3)) w17 := by rw [hq]; exact ⟨rfl, rfl, rfl, Nat.le_refl _, fun _ _ => rfl⟩
      clear hq
      rw [show (decide (([0, 3] : List Int) = [0, 3])) = true from by decide]
      have hb := hA0.trans (hb.mono hA0.size)
      have S17 := S16.below hb
      have hl3 := ints_up hl3 hb
      have hl12 := ints_up hl12 hb
      have hl16 := ints_up hl16 hb
      have hl20 := ints_up hl20 hb
      obtain ⟨c1, c3⟩ : _ ∧ _ := ⟨S17.h1.cell, S17.h3.cell⟩
      go_wp2_with (fail)
      clear c1 c3
      have nn0 := ints_new2 w17 (w17.heap.size) [0, 1] (by decide) rfl
      have ha0 : Below w17.heap.size w17 (w17.alloc (.cells #[.int .i64 0, .int .i64 1] 3)) := (Below.refl _ _).alloc (Nat.le_refl _) _
      have hA0 : Below w17.heap.size w17 (w17.alloc (.cells #[.int .i64 0, .int .i64 1] 3)) := ha0
      refine (ints_any _ _ _ _ _ _ _ _ _ [0, 1] [0, 1] (hl12.below hA0 (Nat.le_refl _)) nn0).mono ?_
      rintro e w18 ⟨rfl, q, hq⟩
      have hb : Below (w17.alloc (.cells #[.int .i64 0, .int .i64 1] 3)).heap.size (w17.alloc (.cells #[.int .i64 0, .int .i64 1] 3)) w18 := by rw [hq]; exact ⟨rfl, rfl, rfl, Nat.le_refl _, fun _ _ => rfl⟩
      clear hq
      rw [show (decide (([0, 1] : List Int) = [0, 1])) = true from by decide]
      have hb := hA0.trans (hb.mono hA0.size)
      have S18 := S17.below hb
      have hl3 := ints_up hl3 hb
      have hl12 := ints_up hl12 hb
      have hl16 := ints_up hl16 hb
      have hl20 := ints_up hl20 hb
      obtain ⟨c1, c3⟩ : _ ∧ _ := ⟨S18.h1.cell, S18.h3.cell⟩
      go_wp2_with (fail)
      clear c1 c3
      have nn0 := ints_new2 w18 (w18.heap.size) [0] (by decide) rfl
      have ha0 : Below w18.heap.size w18 (w18.alloc (.cells #[.int .i64 0] 3)) := (Below.refl _ _).alloc (Nat.le_refl _) _
      have hA0 : Below w18.heap.size w18 (w18.alloc (.cells #[.int .i64 0] 3)) := ha0
      refine (ints_any _ _ _ _ _ _ _ _ _ [0] [0] (hl16.below hA0 (Nat.le_refl _)) nn0).mono ?_
      rintro e w19 ⟨rfl, q, hq⟩
      have hb : Below (w18.alloc (.cells #[.int .i64 0] 3)).heap.size (w18.alloc (.cells #[.int .i64 0] 3)) w19 := by rw [hq]; exact ⟨rfl, rfl, rfl, Nat.le_refl _, fun _ _ => rfl⟩
      clear hq
      rw [show (decide (([0] : List Int) = [0])) = true from by decide]
      have hb := hA0.trans (hb.mono hA0.size)
      have S19 := S18.below hb
      have hl3 := ints_up hl3 hb
      have hl12 := ints_up hl12 hb
      have hl16 := ints_up hl16 hb
      have hl20 := ints_up hl20 hb
      obtain ⟨c1, c3⟩ : _ ∧ _ := ⟨S19.h1.cell, S19.h3.cell⟩
      go_wp2_with (fail)
      clear c1 c3
      have nn0 := ints_new2 w19 (w19.heap.size) [0] (by decide) rfl
      have ha0 : Below w19.heap.size w19 (w19.alloc (.cells #[.int .i64 0] 3)) := (Below.refl _ _).alloc (Nat.le_refl _) _
      have hA0 : Below w19.heap.size w19 (w19.alloc (.cells #[.int .i64 0] 3)) := ha0
      refine (ints_any _ _ _ _ _ _ _ _ _ [0] [0] (hl20.below hA0 (Nat.le_refl _)) nn0).mono ?_
      rintro e w20 ⟨rfl, q, hq⟩
      have hb : Below (w19.alloc (.cells #[.int .i64 0] 3)).heap.size (w19.alloc (.cells #[.int .i64 0] 3)) w20 := by rw [hq]; exact ⟨rfl, rfl, rfl, Nat.le_refl _, fun _ _ => rfl⟩
      clear hq
      rw [show (decide (([0] : List Int) = [0])) = true from by decide]
      have hb := hA0.trans (hb.mono hA0.size)
      have S20 := S19.below hb
      have hl3 := ints_up hl3 hb
      have hl12 := ints_up hl12 hb
      have hl16 := ints_up hl16 hb
      have hl20 := ints_up hl20 hb
      go_wp2_with (fail)
      refine (Works_any _).mono ?_
      rintro e w21 ⟨rfl, hb⟩
      have hbe := S20.bel.trans (hb.mono S20.bel.size)
      go_wp2_with (fail)
      go_ret
      exact ⟨rfl, hbe⟩
end Go.Proofs.YtiffpknghkfgbaaGreat

/- TurnKnown answers true, as a closed statement: the chapter's examples of package turn hold, and those of Works with them. No condition. -/
namespace Go.Proofs.YtiffpknghkfgbaaGreat.turnKnown
open Go.ChangeShapes Go.WideShapes Go.ChangeAt Go.RowKit
set_option linter.unusedVariables false      -- a walk need not use every 'w<i>' (that an integer argument fits its kind)

theorem own : ownKnob Tryz.prog.godebug = none := by kernel_rfl

/-! ### STEP 1: THE WALK: the Go text returns true. Part the cases AHEAD of 'go_enter' where a test parts the walk; take each callee by a contract of your own. -/
theorem walk  (w : World) :
    Calls Tryz.prog 5 #[] w fun e w' => e = .returned (.bool true) ∧ Below w.heap.size w w' := by
  exact TurnKnown_any w

/-! ### THE ROW's STEP: WRITTEN OUT: LEAVE IT -/
set_option maxRecDepth 100000 in
theorem lifted (os : Os) (started : os.Started) (H : Type) (enc : TypeId × Value → H) :
    ReturnsInHanded {} Tryz.checked os 5 .any (Rows.turnKnownSpec.pre6 enc Tryz.prog Tryz.f5 Rows.turnKnownRow.domain false) (Rows.turnKnownSpec.post enc Tryz.prog Tryz.f5 false true false false) := by
  refine returnsInHanded_of_change (C := Tryz.checked) own started (by kernel_rfl) Tryz.func5
    (ChangeSpec.witness6 (enc := enc) (C := Tryz.checked) false ⟨#[], #[], []⟩ 8 (by kernel_rfl) (by kernel_rfl) (by kernel_rfl) (by kernel_rfl)) ?_
  intro W base args ds gs before hval0 hW hcnd _
  have hval : ∀ (j : Nat) t v, Tryz.f5.params[j]? = some t → args[j]? = some v → Value.okWide Tryz.prog W .any base t v := hval0
  have hW' := hW
  obtain ⟨p, q, hA0, hV, rfl, hfz, hnd⟩ := hW
  have hA : DataW.TrodAll enc Tryz.prog W 0 (fun _ => true) true Tryz.f5.params.toList args.toList ds p := hA0
  rw [Tryz.params5] at hA hval
  obtain ⟨rfl, rfl, rfl⟩ := trodAll_none hA
  obtain ⟨rfl, rfl⟩ := trodVars_none hV
  clear hA0 hval0
  simp only [List.append_nil] at hW'
  refine (walk  W).mono fun e W' ⟨he, hg⟩ => ?_
  subst he
  exact ⟨_, rfl, _, _, _, [], [], [], hW', trodAll_cons_mk (shut_bool Tryz.underlying4 _) trodAll_mk0, rfl, rfl, hg.frame _, fun h => by cases h⟩

theorem over : Rows.turnKnownRow.holds Tryz.pinned (OpenSpec.ofChange Rows.turnKnownSpec) :=
  OpenClaim.holds_of_wide 5 Tryz.f5 rfl rfl rfl rfl rfl rfl rfl ⟨rfl, rfl, rfl, rfl, rfl⟩ rfl rfl rfl rfl rfl (by kernel_rfl) Tryz.func5 (by kernel_rfl)
    (of_decide_eq_true (by kernel_rfl)) (by unfold Func.isWrapper; first | (rw [if_pos (by decide +kernel)]; kernel_rfl) | (rw [if_neg (by decide +kernel)]; exact ⟨rfl, rfl⟩))
    (fun os started H enc _ => lifted os started H enc)

/-- ████ THE STATEMENT ████ -/
theorem proved : Rows.TurnKnownSaid :=
  over
#print axioms proved
end Go.Proofs.YtiffpknghkfgbaaGreat.turnKnown
