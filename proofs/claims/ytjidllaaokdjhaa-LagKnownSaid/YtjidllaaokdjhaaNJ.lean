/- lag: LagKnown. -/
import Derived.Test.YtjidllaaokdjhaaNI
namespace Go.Proofs.Ytjidllaaokdjhaa
open Go.RowKit Go.Shelf

attribute [local go_sem] Oper.semAt_some

theorem knMost : mostR [3, 4, 4] 4 = (7, 0) := by kernel_rfl
theorem knLeast1 : leastR [[0, 2, 4]] 4 = (4, 0) := by kernel_rfl
theorem knLeast2 : leastR [[0, 2, 4], [0, 2, 4]] 3 = (2, 0) := by kernel_rfl
theorem knRate : rateR [0, 2, 4] false = ((4, 3), 0) := by kernel_rfl
theorem knBreak : breakR [3, 4, 4] [0, 0, 4] = (2, 1, 0) := by kernel_rfl
theorem knChecked1 : checkAddedR [0, 2, 4] [3, 1, 0, 3, 1, 0] [3, 1, 0, 3, 1, 0] = 0 := by kernel_rfl
theorem knChecked2 : checkAddedR [0, 2, 4] [3, 1, 0, 3, 1, 0] [4, 0, 0, 3, 1, 0] = 14 := by kernel_rfl
theorem knSeen : seenR [3, 1, 0, 3, 1, 0] [0, 2, 2, 0, 2, 1] = (0, 0, 18) := by kernel_rfl
theorem knWait : waitV [3, 4, 4] [[0, 2, 4]] = (3, 0) := by kernel_rfl
theorem knLate : lateV [3, 4, 4] [[0, 2, 4], [0, 2, 4]] = (3, 0) := by kernel_rfl
theorem knCurve : curveF [3, 2] = 16 := by kernel_rfl
set_option maxRecDepth 100000 in
set_option maxHeartbeats 16000000 in
theorem LagKnown_any (w : World) : Calls Try.prog 16 #[] w fun e w' => e = .returned (.bool true) ∧ Below w.heap.size w w' := by
  go_enter Try.func16, Try.ntmps16
  go_wp2_with (fail)
  refine (Curves_any w).mono ?_
  rintro e w1 ⟨b1, b2, b3, rfl, ia, ib, ir, hb⟩
  have S2 := curves_ex ia ib ir hb
  clear ia ib ir hb
  obtain ⟨w2, hw2⟩ : ∃ W, W = ((w1.alloc (.cells #[.slice (some ⟨b2, 0, none⟩) 3 3] 22)).alloc (.cells #[.slice (some ⟨b2, 0, none⟩) 3 3, .slice (some ⟨b2, 0, none⟩) 3 3] 22)) := ⟨_, rfl⟩
  rw [← hw2] at S2
  go_wp2_with (go_at_call 61; refine (of_any _ _ _ _).mono ?_; rintro e w' ⟨rfl, rfl⟩)
  rw [← hw2]
  clear hw2
  refine (Most_any _ _ _ 3 3 [3, 4, 4] 4 S2.ia (Nat.le_refl _)).mono ?_
  rintro e w3 ⟨rfl, hb⟩
  rw [knMost]
  have S3 := S2.up hb
  clear hb S2
  go_wp2_with (go_at_call 61; refine (of_any _ _ _ _).mono ?_; rintro e w' ⟨rfl, rfl⟩)
  refine (Least_any _ _ _ 1 1 [[0, 2, 4]] 4 S3.one (Nat.le_refl _)).mono ?_
  rintro e w4 ⟨rfl, hb⟩
  rw [knLeast1]
  have S4 := S3.up hb
  clear hb S3
  go_wp2_with (go_at_call 61; refine (of_any _ _ _ _).mono ?_; rintro e w' ⟨rfl, rfl⟩)
  refine (Least_any _ _ _ 2 2 [[0, 2, 4], [0, 2, 4]] 3 S4.two (Nat.le_refl _)).mono ?_
  rintro e w5 ⟨rfl, hb⟩
  rw [knLeast2]
  have S5 := S4.up hb
  clear hb S4
  go_wp2_with (go_at_call 61; refine (of_any _ _ _ _).mono ?_; rintro e w' ⟨rfl, rfl⟩)
  refine (Rate_any _ _ _ 3 3 [0, 2, 4] false S5.ib (Nat.le_refl _)).mono ?_
  rintro e w6 ⟨rfl, hb⟩
  rw [knRate]
  have S6 := S5.up hb
  clear hb S5
  unfold encR
  have q0 := RatAt.new w6 (4, 3)
  have hq0 : Below w6.heap.size w6 (w6.alloc (.cells #[.int .i64 4, .int .i64 3] 32)) := (Below.refl _ _).alloc (Nat.le_refl _) _
  have S7 := S6.up hq0
  obtain ⟨w7, hw7⟩ : ∃ W, W = w6.alloc (.cells #[.int .i64 4, .int .i64 3] 32) := ⟨_, rfl⟩
  rw [← hw7] at q0 S7
  go_wp2_with (go_at_call 61; refine (of_any _ _ _ _).mono ?_; rintro e w' ⟨rfl, rfl⟩)
  rw [← hw7]
  have hz7 : w6.heap.size + 1 = w7.heap.size := by rw [hw7]; simp
  rw [hz7]
  clear hw7 hq0 S6 hz7
  obtain ⟨bq, hbq⟩ : ∃ b, b = w6.heap.size := ⟨_, rfl⟩
  rw [← hbq] at q0 ⊢
  clear hbq
  have nn0 : IntsAt (w7.alloc (.cells #[.int .i64 0, .int .i64 0, .int .i64 4] 2)) (w7.alloc (.cells #[.int .i64 0, .int .i64 0, .int .i64 4] 2)).heap.size (some ⟨w7.heap.size, 0, none⟩) 3 [0, 0, 4] := ints_new w7 [0, 0, 4] (by decide)
  have ha0 : Below w7.heap.size w7 (w7.alloc (.cells #[.int .i64 0, .int .i64 0, .int .i64 4] 2)) := (Below.refl _ _).alloc (Nat.le_refl _) _
  have T7 := S7.up ha0
  refine (Break_any _ _ _ _ _ 3 3 3 3 [3, 4, 4] [0, 0, 4] T7.ia (Nat.le_refl _) nn0 (Nat.le_refl _) (by omega)).mono ?_
  rintro e w8 ⟨rfl, hb⟩
  rw [knBreak]
  have hb := ha0.trans (hb.mono ha0.size)
  have S8 := S7.up hb
  have q0 := rat_up q0 hb
  clear hb nn0 ha0 T7 S7
  go_wp2_with (go_at_call 61; refine (of_any _ _ _ _).mono ?_; rintro e w' ⟨rfl, rfl⟩)
  refine (CheckAdded_any _ _ _ _ _ _ _ 3 3 6 6 6 6 [0, 2, 4] [3, 1, 0, 3, 1, 0] [3, 1, 0, 3, 1, 0] S8.ib (Nat.le_refl _) S8.ir (Nat.le_refl _) S8.ir (Nat.le_refl _)).mono ?_
  rintro e w9 ⟨rfl, hb⟩
  rw [knChecked1]
  have S9 := S8.up hb
  have q0 := rat_up q0 hb
  clear hb S8
  go_wp2_with (go_at_call 61; refine (of_any _ _ _ _).mono ?_; rintro e w' ⟨rfl, rfl⟩)
  have nn0 : IntsAt (w9.alloc (.cells #[.int .i64 4, .int .i64 0, .int .i64 0, .int .i64 3, .int .i64 1, .int .i64 0] 2)) (w9.alloc (.cells #[.int .i64 4, .int .i64 0, .int .i64 0, .int .i64 3, .int .i64 1, .int .i64 0] 2)).heap.size (some ⟨w9.heap.size, 0, none⟩) 6 [4, 0, 0, 3, 1, 0] := ints_new w9 [4, 0, 0, 3, 1, 0] (by decide)
  have ha0 : Below w9.heap.size w9 (w9.alloc (.cells #[.int .i64 4, .int .i64 0, .int .i64 0, .int .i64 3, .int .i64 1, .int .i64 0] 2)) := (Below.refl _ _).alloc (Nat.le_refl _) _
  have T9 := S9.up ha0
  refine (CheckAdded_any _ _ _ _ _ _ _ 3 3 6 6 6 6 [0, 2, 4] [3, 1, 0, 3, 1, 0] [4, 0, 0, 3, 1, 0] T9.ib (Nat.le_refl _) T9.ir (Nat.le_refl _) nn0 (Nat.le_refl _)).mono ?_
  rintro e w10 ⟨rfl, hb⟩
  rw [knChecked2]
  have hb := ha0.trans (hb.mono ha0.size)
  have S10 := S9.up hb
  have q0 := rat_up q0 hb
  clear hb nn0 ha0 T9 S9
  go_wp2_with (go_at_call 61; refine (of_any _ _ _ _).mono ?_; rintro e w' ⟨rfl, rfl⟩)
  have nn0 : IntsAt (w10.alloc (.cells #[.int .i64 0, .int .i64 2, .int .i64 2, .int .i64 0, .int .i64 2, .int .i64 1] 2)) (w10.alloc (.cells #[.int .i64 0, .int .i64 2, .int .i64 2, .int .i64 0, .int .i64 2, .int .i64 1] 2)).heap.size (some ⟨w10.heap.size, 0, none⟩) 6 [0, 2, 2, 0, 2, 1] := ints_new w10 [0, 2, 2, 0, 2, 1] (by decide)
  have ha0 : Below w10.heap.size w10 (w10.alloc (.cells #[.int .i64 0, .int .i64 2, .int .i64 2, .int .i64 0, .int .i64 2, .int .i64 1] 2)) := (Below.refl _ _).alloc (Nat.le_refl _) _
  have T10 := S10.up ha0
  refine (Seen_any _ _ _ _ _ 6 6 6 6 [3, 1, 0, 3, 1, 0] [0, 2, 2, 0, 2, 1] T10.ir (Nat.le_refl _) nn0 (Nat.le_refl _)).mono ?_
  rintro e w11 ⟨rfl, hb⟩
  rw [knSeen]
  have hb := ha0.trans (hb.mono ha0.size)
  have S11 := S10.up hb
  have q0 := rat_up q0 hb
  clear hb nn0 ha0 T10 S10
  go_wp2_with (go_at_call 61; refine (of_any _ _ _ _).mono ?_; rintro e w' ⟨rfl, rfl⟩)
  refine (Wait_any _ _ _ _ _ 3 3 1 1 [3, 4, 4] [[0, 2, 4]] S11.ia (Nat.le_refl _) S11.one (Nat.le_refl _)).mono ?_
  rintro e w12 ⟨rfl, hb⟩
  rw [knWait]
  have S12 := S11.up hb
  have q0 := rat_up q0 hb
  clear hb S11
  go_wp2_with (go_at_call 61; refine (of_any _ _ _ _).mono ?_; rintro e w' ⟨rfl, rfl⟩)
  refine (Late_any _ _ _ _ _ 3 3 2 2 [3, 4, 4] [[0, 2, 4], [0, 2, 4]] S12.ia (Nat.le_refl _) S12.two (Nat.le_refl _)).mono ?_
  rintro e w13 ⟨rfl, hb⟩
  rw [knLate]
  have S13 := S12.up hb
  have q0 := rat_up q0 hb
  clear hb S12
  go_wp2_with (go_at_call 61; refine (of_any _ _ _ _).mono ?_; rintro e w' ⟨rfl, rfl⟩)
  have nn0 : IntsAt (w13.alloc (.cells #[.int .i64 3, .int .i64 2] 2)) (w13.alloc (.cells #[.int .i64 3, .int .i64 2] 2)).heap.size (some ⟨w13.heap.size, 0, none⟩) 2 [3, 2] := ints_new w13 [3, 2] (by decide)
  have ha0 : Below w13.heap.size w13 (w13.alloc (.cells #[.int .i64 3, .int .i64 2] 2)) := (Below.refl _ _).alloc (Nat.le_refl _) _
  have T13 := S13.up ha0
  refine (checkCurve_any _ _ _ 2 2 [3, 2] nn0 (Nat.le_refl _)).mono ?_
  rintro e w14 ⟨rfl, hb⟩
  rw [knCurve]
  have hb := ha0.trans (hb.mono ha0.size)
  have S14 := S13.up hb
  have q0 := rat_up q0 hb
  clear hb nn0 ha0 T13 S13
  obtain ⟨q1, q2⟩ := q0.cells
  go_wp2_with (go_at_call 61; refine (of_any _ _ _ _).mono ?_; rintro e w' ⟨rfl, rfl⟩)
  refine (Works_any _).mono ?_
  rintro e wl ⟨rfl, hb⟩
  have SL := S14.up hb
  clear hb S14 q0 q1 q2
  go_wp2_with (go_at_call 61; refine (of_any _ _ _ _).mono ?_; rintro e w' ⟨rfl, rfl⟩)
  exact bodyPost_ret (results_tmp rfl _ _ _) rfl ⟨rfl, SL.bel⟩
end Go.Proofs.Ytjidllaaokdjhaa
