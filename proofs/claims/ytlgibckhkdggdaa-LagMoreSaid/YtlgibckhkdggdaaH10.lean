/- Parts of a proof: NH NG NI. -/
import Derived.Test.YtlgibckhkdggdaaH9

/- lag: closed evaluations of the bounds of the law's examples. -/
namespace Go.Proofs.Ytlgibckhkdggdaa
open Go.RowKit Go.Shelf

theorem wkBoard : boardE [3, 4, 5] [[0, 2, 4]] = 18 := by kernel_rfl
theorem wkBoard2 : boardE [3, 4, 4] [[0, 2, 4]] = 0 := by kernel_rfl
theorem wkBoard3 : boardE [3, 4, 4] [[0, 2, 4], [0, 2, 4]] = 0 := by kernel_rfl
theorem wkWait : waitV [3, 4, 4] [[0, 2, 4], [0, 2, 4]] = (4, 0) := by kernel_rfl
theorem wkLate : lateV [3, 4, 4] [[0, 2, 4]] = (2, 0) := by kernel_rfl
theorem wkWait2 : waitV [3, 4, 5] [[0, 2, 4]] = (0, 18) := by kernel_rfl
theorem wkBehind : behR 3 [3, 4, 4] [[0, 2, 4]] 3 = [4, 5, 7] := by kernel_rfl
end Go.Proofs.Ytlgibckhkdggdaa

/- lag: closed evaluations for the law's examples. -/
namespace Go.Proofs.Ytlgibckhkdggdaa
open Go.RowKit Go.Shelf

theorem wkMost : mostR [3, 4, 4] 7 = (11, 0) := by kernel_rfl
theorem wkLeast : leastR [[0, 2, 4], [0, 2, 4]] 5 = (4, 0) := by kernel_rfl
theorem wkRate : rateR [3, 4, 4] true = ((4, 3), 0) := by kernel_rfl
theorem wkBreak1 : breakR [3, 4, 4] [3, 1, 0, 3, 1, 0] = (0, 0, 5) := by kernel_rfl
theorem wkBreak2 : breakR [3, 4, 4] [3, 1, 1, 0] = (0, 3, 0) := by kernel_rfl
theorem wkCurveA : curveF [3, 4, 4] = 0 := by kernel_rfl
theorem wkCurveB : curveF [0, 2, 4] = 0 := by kernel_rfl
theorem wkRowR : rowF [3, 1, 0, 3, 1, 0] = 0 := by kernel_rfl
theorem wkCame : difL (mostL [3, 4, 4] 6) 6 = [3, 1, 0, 3, 1, 0] := by kernel_rfl
theorem wkAdded : difL (addL (totF [3, 1, 0, 3, 1, 0]) [0, 2, 4]) 6 = [0, 2, 2, 0, 2, 2] := by kernel_rfl
theorem wkCheckAdded : checkAddedR [0, 2, 4] [3, 1, 0, 3, 1, 0] [0, 1, 3, 0, 2, 2] = 18 := by kernel_rfl
theorem wkSeen : seenR [3, 1, 0, 3, 1, 0] [0, 2, 2, 0, 2, 2] = (3, 2, 0) := by kernel_rfl
end Go.Proofs.Ytlgibckhkdggdaa

/- lag: Works. -/
namespace Go.Proofs.Ytlgibckhkdggdaa
open Go.RowKit Go.Shelf

attribute [local go_sem] Oper.semAt_some

theorem ints_new (W : World) (xs : List Int) (hn : xs.length ≤ 1000) : IntsAt (W.alloc (.cells (xs.map (Value.int .i64)).toArray 2)) (W.alloc (.cells (xs.map (Value.int .i64)).toArray 2)).heap.size (some ⟨W.heap.size, 0, none⟩) xs.length xs :=
  RowZ.ints (row := xs) (World.alloc_heap_new W _) rfl (by omega)
theorem ints_up {W W' : World} {A : Option Addr} {n : Nat} {xs : List Int} (h : IntsAt W W.heap.size A n xs) (hb : Below W.heap.size W W') : IntsAt W' W'.heap.size A n xs := (h.below hb (Nat.le_refl _)).more hb.size
theorem rows_up {W W' : World} {A : Option Addr} {n : Nat} {css : List (List Int)} (h : RowsAt W W.heap.size A n css) (hb : Below W.heap.size W W') : RowsAt W' W'.heap.size A n css := (h.below hb (Nat.le_refl _)).more hb.size
theorem rowz_up {W W' : World} {g : Nat} {row : List Int} (h : RowZ W g row) (hb : Below W.heap.size W W') : RowZ W' g row := h.below hb h.lt
theorem rat_up {W W' : World} {b : Nat} {x : Int × Int} (h : RatAt W b x) (hb : Below W.heap.size W W') : RatAt W' b x := h.below hb h.lt
theorem cell_new (W : World) (cs : Array Value) (T : TypeId) (j : Nat) : (W.alloc (.cells cs T)).cell? ⟨W.heap.size, j, none⟩ = cs[j]? := by
  unfold World.cell?
  rw [World.alloc_heap_new]
  simp
theorem rows_new1 {W : World} {A : Option Addr} {m c : Nat} {cs : List Int} (h : IntsAt W W.heap.size A m cs) :
    RowsAt (W.alloc (.cells #[.slice A m c] 22)) (W.alloc (.cells #[.slice A m c] 22)).heap.size (some ⟨W.heap.size, 0, none⟩) 1 [cs] := by
  refine ⟨rfl, by omega, fun _ => ⟨W.heap.size, 0, rfl, by simp, fun j cs' hj => ?_⟩⟩
  match j, hj with
  | 0, hj =>
    obtain rfl : cs = cs' := by simpa using hj
    exact ⟨A, m, c, cell_new W _ _ 0, (h.alloc (Nat.le_refl _) _).more (by simp)⟩
  | j + 1, hj => simp at hj
theorem rows_new2 {W : World} {A A' : Option Addr} {m c m' c' : Nat} {cs ds : List Int} (h : IntsAt W W.heap.size A m cs) (h' : IntsAt W W.heap.size A' m' ds) :
    RowsAt (W.alloc (.cells #[.slice A m c, .slice A' m' c'] 22)) (W.alloc (.cells #[.slice A m c, .slice A' m' c'] 22)).heap.size (some ⟨W.heap.size, 0, none⟩) 2 [cs, ds] := by
  refine ⟨rfl, by omega, fun _ => ⟨W.heap.size, 0, rfl, by simp, fun j cs' hj => ?_⟩⟩
  match j, hj with
  | 0, hj =>
    obtain rfl : cs = cs' := by simpa using hj
    exact ⟨A, m, c, cell_new W _ _ 0, (h.alloc (Nat.le_refl _) _).more (by simp)⟩
  | 1, hj =>
    obtain rfl : ds = cs' := by simpa using hj
    exact ⟨A', m', c', cell_new W _ _ 1, (h'.alloc (Nat.le_refl _) _).more (by simp)⟩
  | j + 2, hj => simp at hj
structure ExAt (w W : World) (b1 b2 b3 c1 c2 : Nat) : Prop where
  bel : Below w.heap.size w W
  ia : IntsAt W W.heap.size (some ⟨b1, 0, none⟩) 3 [3, 4, 4]
  ib : IntsAt W W.heap.size (some ⟨b2, 0, none⟩) 3 [0, 2, 4]
  ir : IntsAt W W.heap.size (some ⟨b3, 0, none⟩) 6 [3, 1, 0, 3, 1, 0]
  one : RowsAt W W.heap.size (some ⟨c1, 0, none⟩) 1 [[0, 2, 4]]
  two : RowsAt W W.heap.size (some ⟨c2, 0, none⟩) 2 [[0, 2, 4], [0, 2, 4]]
theorem ExAt.up {w W W' : World} {b1 b2 b3 c1 c2 : Nat} (h : ExAt w W b1 b2 b3 c1 c2) (hb : Below W.heap.size W W') : ExAt w W' b1 b2 b3 c1 c2 :=
  ⟨h.bel.trans (hb.mono h.bel.size), ints_up h.ia hb, ints_up h.ib hb, ints_up h.ir hb, rows_up h.one hb, rows_up h.two hb⟩
theorem curves_ex {w W : World} {b1 b2 b3 : Nat} (ia : IntsAt W W.heap.size (some ⟨b1, 0, none⟩) 3 [3, 4, 4]) (ib : IntsAt W W.heap.size (some ⟨b2, 0, none⟩) 3 [0, 2, 4]) (ir : IntsAt W W.heap.size (some ⟨b3, 0, none⟩) 6 [3, 1, 0, 3, 1, 0]) (hb : Below w.heap.size w W) :
    ExAt w ((W.alloc (.cells #[.slice (some ⟨b2, 0, none⟩) 3 3] 22)).alloc (.cells #[.slice (some ⟨b2, 0, none⟩) 3 3, .slice (some ⟨b2, 0, none⟩) 3 3] 22)) b1 b2 b3 W.heap.size (W.heap.size + 1) := by
  have h1 : Below W.heap.size W (W.alloc (.cells #[.slice (some ⟨b2, 0, none⟩) 3 3] 22)) := (Below.refl _ _).alloc (Nat.le_refl _) _
  have h2 : Below (W.alloc (.cells #[.slice (some ⟨b2, 0, none⟩) 3 3] 22)).heap.size (W.alloc (.cells #[.slice (some ⟨b2, 0, none⟩) 3 3] 22)) ((W.alloc (.cells #[.slice (some ⟨b2, 0, none⟩) 3 3] 22)).alloc (.cells #[.slice (some ⟨b2, 0, none⟩) 3 3, .slice (some ⟨b2, 0, none⟩) 3 3] 22)) := (Below.refl _ _).alloc (Nat.le_refl _) _
  have h3 := h1.trans (h2.mono h1.size)
  have t := rows_new2 (c := 3) (c' := 3) (ints_up ib h1) (ints_up ib h1)
  rw [World.size_alloc (w := W)] at t
  exact ⟨hb.trans (h3.mono hb.size), ints_up ia h3, ints_up ib h3, ints_up ir h3, rows_up (rows_new1 (c := 3) ib) h2, t⟩

theorem came_is {n0 : Nat} {w' : World} {e : Ending} (h : CameP [3, 4, 4] 6 n0 w' e) : ∃ g : Nat, e = .returned (.tuple #[.slice (some ⟨g, 0, none⟩) 6 6, .int .i64 0]) ∧ RowZ w' g [3, 1, 0, 3, 1, 0] := by
  rcases h with ⟨h, -⟩ | ⟨-, h, -⟩ | ⟨-, k, g, hk, -, -, rfl, hr⟩
  · exact absurd wkCurveA h
  · exact absurd (by omega) h
  · obtain rfl : k = 6 := by omega
    rw [wkCame] at hr
    exact ⟨g, rfl, hr⟩
theorem added_is {n0 : Nat} {w' : World} {e : Ending} (h : AddedP [0, 2, 4] [3, 1, 0, 3, 1, 0] n0 w' e) : ∃ g : Nat, e = .returned (.tuple #[.slice (some ⟨g, 0, none⟩) 6 6, .int .i64 0]) ∧ RowZ w' g [0, 2, 2, 0, 2, 2] := by
  rcases h with ⟨h, -⟩ | ⟨-, h, -⟩ | ⟨-, -, g, -, rfl, hr⟩
  · exact absurd wkCurveB h
  · exact absurd wkRowR h
  · rw [show ([3, 1, 0, 3, 1, 0] : List Int).length = 6 from rfl, wkAdded] at hr
    exact ⟨g, rfl, hr⟩
theorem behind_is {n0 : Nat} {w' : World} {e : Ending} (h : BehindP [3, 4, 4] [[0, 2, 4]] n0 w' e) : ∃ g : Nat, e = .returned (.tuple #[.slice (some ⟨g, 0, none⟩) 3 3, .int .i64 0]) ∧ RowZ w' g [4, 5, 7] := by
  rcases h with ⟨h, -⟩ | ⟨-, g, -, rfl, hr⟩
  · exact absurd wkBoard2 h
  · rw [show ([3, 4, 4] : List Int).length = 3 from rfl, wkBehind] at hr
    exact ⟨g, rfl, hr⟩

set_option maxRecDepth 100000 in
set_option maxHeartbeats 16000000 in
theorem Works_any (w : World) : Calls Try.prog 19 #[] w fun e w' => e = .returned (.bool true) ∧ Below w.heap.size w w' := by
  go_enter Try.func19, Try.ntmps19
  go_wp2_with (fail)
  refine (Curves_any w).mono ?_
  rintro e w1 ⟨b1, b2, b3, rfl, ia, ib, ir, hb⟩
  have S2 := curves_ex ia ib ir hb
  clear ia ib ir hb
  obtain ⟨w2, hw2⟩ : ∃ W, W = ((w1.alloc (.cells #[.slice (some ⟨b2, 0, none⟩) 3 3] 22)).alloc (.cells #[.slice (some ⟨b2, 0, none⟩) 3 3, .slice (some ⟨b2, 0, none⟩) 3 3] 22)) := ⟨_, rfl⟩
  rw [← hw2] at S2
  go_wp2_with (go_at_call 61; refine (of_any _ _ _ _).mono ?_; rintro e w' ⟨rfl, rfl⟩)
  rw [← hw2]
  clear hw2
  refine (Most_any _ _ _ 3 3 [3, 4, 4] 7 S2.ia (Nat.le_refl _)).mono ?_
  rintro e w3 ⟨rfl, hb⟩
  rw [wkMost]
  have S3 := S2.up hb
  clear hb S2
  go_wp2_with (go_at_call 61; refine (of_any _ _ _ _).mono ?_; rintro e w' ⟨rfl, rfl⟩)
  refine (Least_any _ _ _ 2 2 [[0, 2, 4], [0, 2, 4]] 5 S3.two (Nat.le_refl _)).mono ?_
  rintro e w4 ⟨rfl, hb⟩
  rw [wkLeast]
  have S4 := S3.up hb
  clear hb S3
  go_wp2_with (go_at_call 61; refine (of_any _ _ _ _).mono ?_; rintro e w' ⟨rfl, rfl⟩)
  refine (Rate_any _ _ _ 3 3 [3, 4, 4] true S4.ia (Nat.le_refl _)).mono ?_
  rintro e w5 ⟨rfl, hb⟩
  rw [wkRate]
  have S5 := S4.up hb
  clear hb S4
  unfold encR
  have q0 := RatAt.new w5 (4, 3)
  have hq0 : Below w5.heap.size w5 (w5.alloc (.cells #[.int .i64 4, .int .i64 3] 32)) := (Below.refl _ _).alloc (Nat.le_refl _) _
  have S6 := S5.up hq0
  obtain ⟨w6, hw6⟩ : ∃ W, W = w5.alloc (.cells #[.int .i64 4, .int .i64 3] 32) := ⟨_, rfl⟩
  rw [← hw6] at q0 S6
  go_wp2_with (go_at_call 61; refine (of_any _ _ _ _).mono ?_; rintro e w' ⟨rfl, rfl⟩)
  rw [← hw6]
  clear hw6 hq0 S5
  obtain ⟨bq, hbq⟩ : ∃ b, b = w5.heap.size := ⟨_, rfl⟩
  rw [← hbq] at q0 ⊢
  clear hbq
  refine (Break_any _ _ _ _ _ 3 3 6 6 [3, 4, 4] [3, 1, 0, 3, 1, 0] S6.ia (Nat.le_refl _) S6.ir (Nat.le_refl _) (by omega)).mono ?_
  rintro e w7 ⟨rfl, hb⟩
  rw [wkBreak1]
  have S7 := S6.up hb
  have q0 := rat_up q0 hb
  clear hb S6
  go_wp2_with (go_at_call 61; refine (of_any _ _ _ _).mono ?_; rintro e w' ⟨rfl, rfl⟩)
  have nn0 : IntsAt (w7.alloc (.cells #[.int .i64 3, .int .i64 1, .int .i64 1, .int .i64 0] 2)) (w7.alloc (.cells #[.int .i64 3, .int .i64 1, .int .i64 1, .int .i64 0] 2)).heap.size (some ⟨w7.heap.size, 0, none⟩) 4 [3, 1, 1, 0] := ints_new w7 [3, 1, 1, 0] (by decide)
  have ha0 : Below w7.heap.size w7 (w7.alloc (.cells #[.int .i64 3, .int .i64 1, .int .i64 1, .int .i64 0] 2)) := (Below.refl _ _).alloc (Nat.le_refl _) _
  have T7 := S7.up ha0
  refine (Break_any _ _ _ _ _ 3 3 4 4 [3, 4, 4] [3, 1, 1, 0] T7.ia (Nat.le_refl _) nn0 (Nat.le_refl _) (by omega)).mono ?_
  rintro e w8 ⟨rfl, hb⟩
  rw [wkBreak2]
  have hb := ha0.trans (hb.mono ha0.size)
  have S8 := S7.up hb
  have q0 := rat_up q0 hb
  clear hb nn0 ha0 T7 S7
  go_wp2_with (go_at_call 61; refine (of_any _ _ _ _).mono ?_; rintro e w' ⟨rfl, rfl⟩)
  refine (Came_any _ _ _ 3 3 [3, 4, 4] 6 S8.ia (Nat.le_refl _)).mono ?_
  rintro e w9 ⟨hP, hb⟩
  obtain ⟨gc, rfl, c0⟩ := came_is hP
  have S9 := S8.up hb
  have q0 := rat_up q0 hb
  clear hb S8
  go_wp2_with (go_at_call 61; refine (of_any _ _ _ _).mono ?_; rintro e w' ⟨rfl, rfl⟩)
  refine (Added_any _ _ _ _ _ 3 3 6 6 [0, 2, 4] [3, 1, 0, 3, 1, 0] S9.ib (Nat.le_refl _) S9.ir (Nat.le_refl _)).mono ?_
  rintro e w10 ⟨hP, hb⟩
  obtain ⟨gd, rfl, d0⟩ := added_is hP
  have S10 := S9.up hb
  have q0 := rat_up q0 hb
  have c0 := rowz_up c0 hb
  clear hb S9
  go_wp2_with (go_at_call 61; refine (of_any _ _ _ _).mono ?_; rintro e w' ⟨rfl, rfl⟩)
  have nn0 : IntsAt (w10.alloc (.cells #[.int .i64 0, .int .i64 1, .int .i64 3, .int .i64 0, .int .i64 2, .int .i64 2] 2)) (w10.alloc (.cells #[.int .i64 0, .int .i64 1, .int .i64 3, .int .i64 0, .int .i64 2, .int .i64 2] 2)).heap.size (some ⟨w10.heap.size, 0, none⟩) 6 [0, 1, 3, 0, 2, 2] := ints_new w10 [0, 1, 3, 0, 2, 2] (by decide)
  have ha0 : Below w10.heap.size w10 (w10.alloc (.cells #[.int .i64 0, .int .i64 1, .int .i64 3, .int .i64 0, .int .i64 2, .int .i64 2] 2)) := (Below.refl _ _).alloc (Nat.le_refl _) _
  have T10 := S10.up ha0
  refine (CheckAdded_any _ _ _ _ _ _ _ 3 3 6 6 6 6 [0, 2, 4] [3, 1, 0, 3, 1, 0] [0, 1, 3, 0, 2, 2] T10.ib (Nat.le_refl _) T10.ir (Nat.le_refl _) nn0 (Nat.le_refl _)).mono ?_
  rintro e w11 ⟨rfl, hb⟩
  rw [wkCheckAdded]
  have hb := ha0.trans (hb.mono ha0.size)
  have S11 := S10.up hb
  have q0 := rat_up q0 hb
  have c0 := rowz_up c0 hb
  have d0 := rowz_up d0 hb
  clear hb nn0 ha0 T10 S10
  go_wp2_with (go_at_call 61; refine (of_any _ _ _ _).mono ?_; rintro e w' ⟨rfl, rfl⟩)
  have nn0 : IntsAt (w11.alloc (.cells #[.int .i64 0, .int .i64 2, .int .i64 2, .int .i64 0, .int .i64 2, .int .i64 2] 2)) (w11.alloc (.cells #[.int .i64 0, .int .i64 2, .int .i64 2, .int .i64 0, .int .i64 2, .int .i64 2] 2)).heap.size (some ⟨w11.heap.size, 0, none⟩) 6 [0, 2, 2, 0, 2, 2] := ints_new w11 [0, 2, 2, 0, 2, 2] (by decide)
  have ha0 : Below w11.heap.size w11 (w11.alloc (.cells #[.int .i64 0, .int .i64 2, .int .i64 2, .int .i64 0, .int .i64 2, .int .i64 2] 2)) := (Below.refl _ _).alloc (Nat.le_refl _) _
  have T11 := S11.up ha0
  refine (Seen_any _ _ _ _ _ 6 6 6 6 [3, 1, 0, 3, 1, 0] [0, 2, 2, 0, 2, 2] T11.ir (Nat.le_refl _) nn0 (Nat.le_refl _)).mono ?_
  rintro e w12 ⟨rfl, hb⟩
  rw [wkSeen]
  have hb := ha0.trans (hb.mono ha0.size)
  have S12 := S11.up hb
  have q0 := rat_up q0 hb
  have c0 := rowz_up c0 hb
  have d0 := rowz_up d0 hb
  clear hb nn0 ha0 T11 S11
  go_wp2_with (go_at_call 61; refine (of_any _ _ _ _).mono ?_; rintro e w' ⟨rfl, rfl⟩)
  refine (Wait_any _ _ _ _ _ 3 3 2 2 [3, 4, 4] [[0, 2, 4], [0, 2, 4]] S12.ia (Nat.le_refl _) S12.two (Nat.le_refl _)).mono ?_
  rintro e w13 ⟨rfl, hb⟩
  rw [wkWait]
  have S13 := S12.up hb
  have q0 := rat_up q0 hb
  have c0 := rowz_up c0 hb
  have d0 := rowz_up d0 hb
  clear hb S12
  go_wp2_with (go_at_call 61; refine (of_any _ _ _ _).mono ?_; rintro e w' ⟨rfl, rfl⟩)
  refine (Late_any _ _ _ _ _ 3 3 1 1 [3, 4, 4] [[0, 2, 4]] S13.ia (Nat.le_refl _) S13.one (Nat.le_refl _)).mono ?_
  rintro e w14 ⟨rfl, hb⟩
  rw [wkLate]
  have S14 := S13.up hb
  have q0 := rat_up q0 hb
  have c0 := rowz_up c0 hb
  have d0 := rowz_up d0 hb
  clear hb S13
  go_wp2_with (go_at_call 61; refine (of_any _ _ _ _).mono ?_; rintro e w' ⟨rfl, rfl⟩)
  have nn0 : IntsAt (w14.alloc (.cells #[.int .i64 3, .int .i64 4, .int .i64 5] 2)) (w14.alloc (.cells #[.int .i64 3, .int .i64 4, .int .i64 5] 2)).heap.size (some ⟨w14.heap.size, 0, none⟩) 3 [3, 4, 5] := ints_new w14 [3, 4, 5] (by decide)
  have ha0 : Below w14.heap.size w14 (w14.alloc (.cells #[.int .i64 3, .int .i64 4, .int .i64 5] 2)) := (Below.refl _ _).alloc (Nat.le_refl _) _
  have T14 := S14.up ha0
  refine (Wait_any _ _ _ _ _ 3 3 1 1 [3, 4, 5] [[0, 2, 4]] nn0 (Nat.le_refl _) T14.one (Nat.le_refl _)).mono ?_
  rintro e w15 ⟨rfl, hb⟩
  rw [wkWait2]
  have hb := ha0.trans (hb.mono ha0.size)
  have S15 := S14.up hb
  have q0 := rat_up q0 hb
  have c0 := rowz_up c0 hb
  have d0 := rowz_up d0 hb
  clear hb nn0 ha0 T14 S14
  go_wp2_with (go_at_call 61; refine (of_any _ _ _ _).mono ?_; rintro e w' ⟨rfl, rfl⟩)
  refine (Behind_any _ _ _ _ _ 3 3 1 1 [3, 4, 4] [[0, 2, 4]] S15.ia (Nat.le_refl _) S15.one (Nat.le_refl _)).mono ?_
  rintro e w16 ⟨hP, hb⟩
  obtain ⟨gz, rfl, z0⟩ := behind_is hP
  have S16 := S15.up hb
  have q0 := rat_up q0 hb
  have c0 := rowz_up c0 hb
  have d0 := rowz_up d0 hb
  clear hb S15
  obtain ⟨q1, q2⟩ := q0.cells
  have ic := c0.ints (n := 6) rfl (by omega)
  have id := d0.ints (n := 6) rfl (by omega)
  have iz := z0.ints (n := 3) rfl (by omega)
  go_wp2_with (go_at_call 61; refine (of_any _ _ _ _).mono ?_; rintro e w' ⟨rfl, rfl⟩)
  refine (longs_any _ _ _ _ _ 6 6 6 6 [3, 1, 0, 3, 1, 0] [3, 1, 0, 3, 1, 0] ic S16.ir).mono ?_
  rintro e w17 ⟨rfl, q, hq⟩
  have hb : Below w16.heap.size w16 w17 := by rw [hq]; exact below_drewN _ _
  rw [show decide (([3, 1, 0, 3, 1, 0] : List Int) = [3, 1, 0, 3, 1, 0]) = true from rfl]
  have S17 := S16.up hb
  have id := ints_up id hb
  have iz := ints_up iz hb
  clear hq hb S16 ic c0 d0 z0 q0 q1 q2
  go_wp2_with (go_at_call 61; refine (of_any _ _ _ _).mono ?_; rintro e w' ⟨rfl, rfl⟩)
  have nn0 : IntsAt (w17.alloc (.cells #[.int .i64 0, .int .i64 2, .int .i64 2, .int .i64 0, .int .i64 2, .int .i64 2] 2)) (w17.alloc (.cells #[.int .i64 0, .int .i64 2, .int .i64 2, .int .i64 0, .int .i64 2, .int .i64 2] 2)).heap.size (some ⟨w17.heap.size, 0, none⟩) 6 [0, 2, 2, 0, 2, 2] := ints_new w17 [0, 2, 2, 0, 2, 2] (by decide)
  have ha0 : Below w17.heap.size w17 (w17.alloc (.cells #[.int .i64 0, .int .i64 2, .int .i64 2, .int .i64 0, .int .i64 2, .int .i64 2] 2)) := (Below.refl _ _).alloc (Nat.le_refl _) _
  refine (longs_any _ _ _ _ _ 6 6 6 6 [0, 2, 2, 0, 2, 2] [0, 2, 2, 0, 2, 2] (ints_up id ha0) nn0).mono ?_
  rintro e w18 ⟨rfl, q, hq⟩
  have hb : Below w17.heap.size w17 w18 := by rw [hq]; exact ha0.trans ((below_drewN _ _).mono ha0.size)
  rw [show decide (([0, 2, 2, 0, 2, 2] : List Int) = [0, 2, 2, 0, 2, 2]) = true from rfl]
  have S18 := S17.up hb
  have iz := ints_up iz hb
  clear hq hb S17 id nn0 ha0
  go_wp2_with (go_at_call 61; refine (of_any _ _ _ _).mono ?_; rintro e w' ⟨rfl, rfl⟩)
  have nn0 : IntsAt (w18.alloc (.cells #[.int .i64 4, .int .i64 5, .int .i64 7] 2)) (w18.alloc (.cells #[.int .i64 4, .int .i64 5, .int .i64 7] 2)).heap.size (some ⟨w18.heap.size, 0, none⟩) 3 [4, 5, 7] := ints_new w18 [4, 5, 7] (by decide)
  have ha0 : Below w18.heap.size w18 (w18.alloc (.cells #[.int .i64 4, .int .i64 5, .int .i64 7] 2)) := (Below.refl _ _).alloc (Nat.le_refl _) _
  refine (longs_any _ _ _ _ _ 3 3 3 3 [4, 5, 7] [4, 5, 7] (ints_up iz ha0) nn0).mono ?_
  rintro e w19 ⟨rfl, q, hq⟩
  have hb : Below w18.heap.size w18 w19 := by rw [hq]; exact ha0.trans ((below_drewN _ _).mono ha0.size)
  rw [show decide (([4, 5, 7] : List Int) = [4, 5, 7]) = true from rfl]
  have S19 := S18.up hb
  clear hq hb S18 iz nn0 ha0
  go_wp2_with (go_at_call 61; refine (of_any _ _ _ _).mono ?_; rintro e w' ⟨rfl, rfl⟩)
  exact bodyPost_ret (results_tmp rfl _ _ _) rfl ⟨rfl, S19.bel⟩
end Go.Proofs.Ytlgibckhkdggdaa
