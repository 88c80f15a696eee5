/- LagReached answers true whatever the curve, the chain and the numbers of the rows; the arguments read behind the call as they did. No condition. -/
import Derived.Test.YtlgibckhkdggdaaC25
import Derived.Test.YtlgibckhkdggdaaRows
import Derived.WalkKit
import Derived.ProofKit
import Derived.OpenShut
import Derived.Carry
import Derived.Deep.Slices
import Derived.ChangeSame

/- lag: LagReached. -/
namespace Go.Proofs.Ytlgibckhkdggdaa
open Go.RowKit Go.Shelf

attribute [local go_sem] Oper.semAt_some

set_option maxRecDepth 100000 in
set_option maxHeartbeats 32000000 in
theorem LagReached_any (w : World) (A A2 A3 A4 : Option Addr) (n c K c2 m c3 l c4 : Nat) (xs : List Int) (css : List (List Int)) (bs ms : List Int) (hx : IntsAt w w.heap.size A n xs) (hy : RowsAt w w.heap.size A2 K css) (hz : U8At w w.heap.size A3 m bs) (hq : U8At w w.heap.size A4 l ms) :
    Calls Try.prog 8 #[.slice A n c, .slice A2 K c2, .slice A3 m c3, .slice A4 l c4] w fun e w' => e = .returned (.bool true) ∧ Below w.heap.size w w' := by
  have hm1 := hx.small
  have hm2 := hy.2.1
  have hm3 := hz.small
  have hm4 := hq.small
  have Hlx := Lib.hid hx.len
  have Hlk := Lib.hid hy.1
  go_enter Try.func8, Try.ntmps8
  go_wp2_with (fail)
  refine (strong_any w A A2 n c K c2 xs css hx hy).mono ?_
  rintro e w1 ⟨b, rfl, hA, Bw1⟩
  cases b with
  | false =>
    clear hA
    go_wp2_with (fail)
    refine (Works_any w1).mono ?_
    rintro e wl ⟨rfl, hb2⟩
    go_wp2_with (fail)
    exact bodyPost_ret (results_tmp rfl _ _ _) rfl ⟨rfl, Bw1.trans (hb2.mono Bw1.size)⟩
  | true =>
    have HA := Lib.hid (hA rfl)
    clear hA
    by_cases h20 : 20 < (m : Int)
    · go_wp2_with (fail)
      refine (Works_any w1).mono ?_
      rintro e wl ⟨rfl, hb2⟩
      go_wp2_with (fail)
      exact bodyPost_ret (results_tmp rfl _ _ _) rfl ⟨rfl, Bw1.trans (hb2.mono Bw1.size)⟩
    by_cases h21 : 20 < (l : Int)
    · go_wp2_with (fail)
      refine (Works_any w1).mono ?_
      rintro e wl ⟨rfl, hb2⟩
      go_wp2_with (fail)
      exact bodyPost_ret (results_tmp rfl _ _ _) rfl ⟨rfl, Bw1.trans (hb2.mono Bw1.size)⟩
    have hm20 : m ≤ 20 := by omega
    have HC := Lib.hid (show curveF xs = 0 ∧ chainF css = 0 from ⟨(asked_fair HA.out).1, (asked_fair HA.out).2.1⟩)
    have hn6 : 1 ≤ n ∧ n ≤ 6 := by have := curve_nums HC.out.1; rw [Hlx.out] at this; exact ⟨this.1, this.2.1⟩
    have hK3 : 1 ≤ K ∧ K ≤ 3 := by have := chain_pos HC.out.2; rw [Hlk.out] at this; exact this
    obtain ⟨wv, hwv, hw1, hw2⟩ := wait_fits HA.out
    obtain ⟨L, hL, hL20⟩ := late_fits HA.out
    have Hwv := Lib.hid hwv
    have HL := Lib.hid hL
    have v1 : ¬ wv < 0 := by omega
    have v2 : ¬ (L : Int) < 0 := by omega
    have v3 : ¬ 40 < (L : Int) := by omega
    clear hwv hL
    go_wp2_with (fail)
    refine (Wait_any w1 _ _ A A2 n c K c2 xs css (hx.below Bw1 (Nat.le_refl _)) Bw1.size (hy.below Bw1 (Nat.le_refl _)) Bw1.size).mono ?_
    rintro e w2 ⟨rfl, hb⟩
    rw [Hwv.out]
    have Bw2 := Bw1.trans (hb.mono Bw1.size)
    clear hb Bw1
    go_wp2_with (fail)
    refine (Late_any w2 _ _ A A2 n c K c2 xs css (hx.below Bw2 (Nat.le_refl _)) Bw2.size (hy.below Bw2 (Nat.le_refl _)) Bw2.size).mono ?_
    rintro e w3 ⟨rfl, hb⟩
    rw [HL.out]
    have Bw3 := Bw2.trans (hb.mono Bw2.size)
    clear hb Bw2
    have HR := Lib.hid (reach_most (bs := bs) ms hm20 hz.bound HA.out (show (L : Int) = (lateV xs css).1 by rw [HL.out]) (by omega))
    have Hkl := Lib.hid (show (quiL (kepL xs bs m) L).length = m + L by rw [quiL_len, kepL_len])
    go_wp2_with (fail)
    refine (Keeping_any w3 _ _ A A3 n c m c3 xs bs (hx.below Bw3 (Nat.le_refl _)) Bw3.size (hz.below Bw3 (Nat.le_refl _)) Bw3.size (nums_of HC.out.1) (ups_of HC.out.1) (by omega)).mono ?_
    rintro e w4 ⟨v4, rfl, hk, hb⟩
    obtain ⟨A12, c12, rfl, -, hA12, i12⟩ := own_form0 hk (by omega)
    have Bw4 := Bw3.trans (hb.mono Bw3.size)
    have I12 := Lib.hid i12
    clear hb Bw3 hk i12
    go_wp2_with (fail)
    refine (quiet_any w4 A12 m c12 L (kepL xs bs m) I12.out hA12 (by omega) (by omega)).mono ?_
    rintro e w5 ⟨v5, rfl, hown, hb⟩
    obtain ⟨A13, c13, rfl, hc13, i13⟩ := own_form hown (by omega)
    have Bw5 := Bw4.trans (hb.mono Bw4.size)
    have I13 := Lib.hid i13
    clear hb Bw4 hown i13 hA12
    obtain ⟨M, hM⟩ : ∃ M, M = m + L := ⟨_, rfl⟩
    obtain ⟨R, hR⟩ : ∃ R, R = quiL (kepL xs bs m) L := ⟨_, rfl⟩
    rw [← hM] at hc13 I13 Hkl HR ⊢
    rw [← hR] at I13 Hkl HR
    have hM40 : M ≤ 40 := by omega
    have HG := Lib.hid (fun i (hi : i ≤ K) => goB_ok (css := css) ms Hkl.out HR.out.2.1 HC.out.2 i (by rw [Hlk.out]; exact hi))
    have HQ := Lib.hid (fun i (hi : i < K) => goB_chk (css := css) ms Hkl.out HR.out.2.1 HC.out.2 (i := i) (by rw [Hlk.out]; exact hi))
    have HZ := Lib.hid (fun i => goB_len (css := css) (ms := ms) Hkl.out i)
    clear hM hR
    go_wp2_with (fail)
    refine (Break_any w5 _ _ A A13 n c M c13 xs R (hx.below Bw5 (Nat.le_refl _)) Bw5.size I13.out (Nat.le_refl _) hc13).mono ?_
    rintro e w6 ⟨rfl, hb⟩
    rw [HR.out.1]
    have Bw6 := Bw5.trans (hb.mono Bw5.size)
    have I13 := Lib.hid (ints_up I13.out hb)
    have hB6z := Bw6.size
    clear hb Bw5
    go_wp2_with (fail)
    go_loopg [17, 18] K (fun g' v17 v18 wr => ∃ (i : Nat) (A5 : Option Addr) (c5 : Nat), (i ≤ K ∧ g' = K - i ∧ v18 = .int .i64 (i : Int) ∧ v17 = .slice A5 M c5 ∧ M ≤ c5) ∧ Hid (IntsAt wr wr.heap.size A5 M (goB css R ms M i)) ∧ Below w6.heap.size w6 wr)
    case atStart => exact ⟨0, A13, c13, ⟨by omega, rfl, rfl, rfl, hc13⟩, I13, Below.refl _ _⟩
    case round =>
      obtain ⟨i, A5, c5, ⟨hi, rfl, rfl, rfl, hc5⟩, I5, hb⟩ := hrel
      have hbw := Bw6.trans (hb.mono hB6z)
      have hsz := hbw.size
      by_cases hlt : i < K
      case pos =>
        obtain ⟨b2, o2, cs, A6, m6, c6, rfl, hb2, hcs, hcell, hci⟩ := (hy.below hbw (Nat.le_refl _)).at hlt
        have hb2w : b2 < wr.heap.size := by omega
        have hwi : IntKind.i64.wrap ((i : Int) + 1) = (i : Int) + 1 := by rw [IntKind.wrap_i64]; omega
        have Hci := Lib.hid hci
        have Hcs := Lib.hid (show css[i]?.getD [] = cs by rw [hcs]; rfl)
        have Hcell := Lib.hid hcell
        clear hci hcs
        go_wp2_with (fail)
        refine (Adding_any wr _ _ _ A6 A5 A4 m6 c6 M c5 l c4 cs (goB css R ms M i) ms Hci.out hsz I5.out (Nat.le_refl _) (hq.below hbw (Nat.le_refl _)) hsz (by have := chain_curves HC.out.2 (j := i) (by rw [Hlk.out]; exact hlt); rw [Hcs.out] at this; exact this) (row_of (HG.out i hi).row)).mono ?_
        rintro e w7 ⟨v7, rfl, hk, hb4⟩
        obtain ⟨A7, c7, rfl, hc7, i7⟩ := own_form hk (by omega)
        rw [show addgL cs (goB css R ms M i) ms M = goB css R ms M (i + 1) by rw [goB, Hcs.out]] at i7
        have I7 := Lib.hid i7
        have hbn : Below w6.heap.size w6 w7 := hb.trans (hb4.mono hb.size)
        have hbw7 := Bw6.trans (hbn.mono hB6z)
        have hsz7 := hbw7.size
        have I5 := Lib.hid (ints_up I5.out hb4)
        have hcell7 := (hb4.cell (p := ⟨b2, o2 + i, none⟩) hb2w).trans Hcell.out
        have hb2w7 : b2 < w7.heap.size := by omega
        have Hci := Lib.hid (Hci.out.below hb4 (by omega))
        clear hk hb4 i7 hb hbw hcell hb2w hsz
        go_wp2_with (fail)
        refine (CheckAdded_any w7 _ _ _ A6 A5 A7 m6 c6 M c5 M c7 cs (goB css R ms M i) (goB css R ms M (i + 1)) Hci.out hsz7 I5.out (Nat.le_refl _) I7.out (Nat.le_refl _)).mono ?_
        rintro e w8 ⟨rfl, hb4⟩
        have hchk := HQ.out i hlt
        rw [Hcs.out] at hchk
        rw [hchk]
        have I7 := Lib.hid (ints_up I7.out hb4)
        have hbn8 : Below w6.heap.size w6 w8 := hbn.trans (hb4.mono hbn.size)
        clear hb4 hbn hbw7 hcell7 hsz7 hchk
        go_wp2_with (fail)
        go_roundg (K - (i + 1))
        case measure => omega
        case rel => exact ⟨i + 1, A7, c7, ⟨by omega, rfl, by simp, rfl, hc7⟩, I7, hbn8⟩
      case neg =>
        obtain rfl : i = K := by omega
        have I13 := Lib.hid (ints_up I13.out hb)
        obtain ⟨sx, sn, hse, hsw, hsl⟩ := HR.out.2.2
        rw [Hlk.out] at hse
        rw [Hwv.out] at hsw
        have Hse := Lib.hid hse
        have v4 : ¬ wv < sx := by simp only [] at hsw; omega
        have v5 : ¬ (L : Int) < sn := by omega
        have Bwr := hbw
        clear hb hbw hsz hse hsw hsl Bw6 hB6z hlt
        go_wp2_with (fail)
        refine (Seen_any wr _ _ A13 A5 M c13 M c5 R (goB css R ms M i) I13.out (Nat.le_refl _) I5.out (Nat.le_refl _)).mono ?_
        rintro e w8 ⟨rfl, hb⟩
        rw [Hse.out]
        have Bw8 := Bwr.trans (hb.mono Bwr.size)
        clear hb Bwr
        go_wp2_with (fail)
        refine (reached_any w8 _ _ A A2 n c i c2 L wv xs css (hx.below Bw8 (Nat.le_refl _)) Bw8.size (hy.below Bw8 (Nat.le_refl _)) Bw8.size HA.out Hwv.out HL.out hL20).mono ?_
        rintro e w9 ⟨rfl, hb⟩
        have Bw9 := Bw8.trans (hb.mono Bw8.size)
        clear hb Bw8
        go_wp2_with (fail)
        refine (Works_any w9).mono ?_
        rintro e wl ⟨rfl, hb2⟩
        go_wp2_with (fail)
        exact bodyPost_ret (results_tmp rfl _ _ _) rfl ⟨rfl, Bw9.trans (hb2.mono Bw9.size)⟩
end Go.Proofs.Ytlgibckhkdggdaa

/- Whatever comes, by a row that keeps a curve, and whatever shafts of a chain add, no more waits than the wait, and nothing is later than the lateness; what Came and Added say reaches both. -/
namespace Go.Proofs.Ytlgibckhkdggdaa.lagReached
open Go.ChangeShapes Go.WideShapes Go.ChangeAt Go.RowKit

theorem own : ownKnob Try.prog.godebug = none := by kernel_rfl
theorem laidOut : laidOutB Try.prog = true := by kernel_rfl
theorem cellsI64 : Try.prog.cellsOf 2 = 1 := by kernel_rfl
/-- A slice of numbers among the arguments. -/
theorem longs_arg {H : Type} {enc : TypeId × Value → H} {W : World} {fuel : Nat} {v : Value} {x : DataW H × List MemPlace} (h : DataW.trod enc Try.prog W 0 (fun _ => true) true fuel 22 [v] = some x) :
    ∃ A n c xs, v = .slice A n c ∧ n ≤ c ∧ IntsAt W W.heap.size A n xs := by
  rcases open_ints Try.underlying22 Try.underlying2 cellsI64 h with ⟨hcs, -⟩ | ⟨a, n, c, zs, hcs, -, hl, hm, hz, -, hcell, -⟩
  · obtain rfl : v = .slice none 0 0 := by simpa using hcs
    exact ⟨none, 0, 0, [], rfl, Nat.le_refl _, IntsAt.nil⟩
  · obtain rfl : v = .slice (some a) n c := by simpa using hcs
    have hz : zs.length = c := by simpa using hz
    refine ⟨some a, n, c, zs.take n, rfl, hl, by rw [List.length_take]; omega, by simp only [maxLen] at hm; omega, fun h0 => ?_⟩
    obtain ⟨b, off, rfl, hc⟩ := Go.ints_at hcell (by omega)
    refine ⟨b, off, rfl, ?_, fun j hj => ?_⟩
    · rcases Nat.lt_or_ge b W.heap.size with hb | hb
      · exact hb
      · have := hc 0 (by omega)
        simp [World.cell?, Array.getElem?_eq_none hb] at this
    · rw [hc j (by omega), List.getElem?_take, if_pos hj, List.getD_eq_getElem?_getD]
theorem cellsRow : Try.prog.cellsOf 22 = 1 := by kernel_rfl
theorem cells_one {W : World} {a : Addr} {cs : List Value} (h : W.cells? 0 a 1 = some cs) : ∃ c0, cs = [c0] ∧ W.cell? a = some c0 := by
  have r1 : List.range 1 = [0] := rfl
  have a0 : a.add 0 = a := by simp [Addr.add]
  unfold World.cells? at h
  rw [if_pos (Nat.zero_le _), r1] at h
  cases h0 : W.cell? a with
  | none => simp [a0, h0] at h
  | some c0 =>
    simp [a0, h0] at h
    exact ⟨c0, h.symm, rfl⟩
/-- A slice of lists among the arguments. -/
theorem longrows_arg {H : Type} {enc : TypeId × Value → H} {W : World} {fuel : Nat} {v : Value} {x : DataW H × List MemPlace} (h : DataW.trod enc Try.prog W 0 (fun _ => true) true fuel 23 [v] = some x) :
    ∃ A n c css, v = .slice A n c ∧ n ≤ c ∧ RowsAt W W.heap.size A n css := by
  rcases Go.Deep.open_slice Try.underlying23 h with ⟨hcs, -⟩ | ⟨a, len, cap, m, n', D, Pl, hcs, -, hl, hm, hmm, -, hel⟩
  · obtain rfl : v = .slice none 0 0 := by simpa using hcs
    exact ⟨none, 0, 0, [], rfl, Nat.le_refl _, rfl, by omega, fun h => absurd h (by omega)⟩
  · obtain rfl : v = .slice (some a) len cap := by simpa using hcs
    have hmc : m = cap := by simpa using hmm
    have each : ∀ i, i < len → ∃ s : List Int, ∃ A' m' c', W.cell? (a.add i) = some (.slice A' m' c') ∧ IntsAt W W.heap.size A' m' s := by
      intro i hi
      obtain ⟨cs', h1, h2⟩ := hel i (by omega)
      rw [cellsRow, Nat.mul_one] at h1
      obtain ⟨c0, rfl, e0⟩ := cells_one h1
      obtain ⟨A', m', c', xs, rfl, -, hi'⟩ := longs_arg (v := c0) h2
      exact ⟨xs, A', m', c', e0, hi'⟩
    obtain ⟨fx, hfx⟩ := Go.Deep.choose_lt each
    refine ⟨some a, len, cap, (List.range len).map fx, rfl, hl, by simp, by simp only [maxLen] at hm; omega, fun h0 => ?_⟩
    obtain ⟨b, off, spot⟩ := a
    obtain ⟨A0, m0, c0, hc0, -⟩ := hfx 0 h0
    have hspot : spot = none := by simpa [Addr.add] using World.cell?_spot hc0
    subst hspot
    refine ⟨b, off, rfl, ?_, fun j s hs => ?_⟩
    · rcases Nat.lt_or_ge b W.heap.size with hb | hb
      · exact hb
      · simp [World.cell?, Addr.add, Array.getElem?_eq_none hb] at hc0
    · rw [List.getElem?_map] at hs
      rcases Nat.lt_or_ge j len with hj | hj
      · rw [List.getElem?_range hj] at hs
        obtain rfl : fx j = s := by simpa using hs
        obtain ⟨A', m', c', e0, hi'⟩ := hfx j hj
        rw [Go.WideShapes.add_plain] at e0
        exact ⟨A', m', c', e0, hi'⟩
      · rw [List.getElem?_eq_none (by simpa using hj)] at hs
        cases hs
theorem cellsByte : Try.prog.cellsOf 5 = 1 := by kernel_rfl
/-- A slice of bytes among the arguments. -/
theorem bytes_arg {H : Type} {enc : TypeId × Value → H} {W : World} {fuel : Nat} {v : Value} {x : DataW H × List MemPlace} (h : DataW.trod enc Try.prog W 0 (fun _ => true) true fuel 51 [v] = some x) :
    ∃ A n c xs, v = .slice A n c ∧ n ≤ c ∧ U8At W W.heap.size A n xs := by
  rcases open_ints Try.underlying51 Try.underlying5 cellsByte h with ⟨hcs, -⟩ | ⟨a, n, c, zs, hcs, -, hl, hm, hz, -, hcell, hwf⟩
  · obtain rfl : v = .slice none 0 0 := by simpa using hcs
    exact ⟨none, 0, 0, [], rfl, Nat.le_refl _, rfl, by omega, fun h => absurd h (by omega)⟩
  · obtain rfl : v = .slice (some a) n c := by simpa using hcs
    have hz : zs.length = c := by simpa using hz
    refine ⟨some a, n, c, zs.take n, rfl, hl, by rw [List.length_take]; omega, by simp only [maxLen] at hm; omega, fun h0 => ?_⟩
    obtain ⟨b, off, rfl, hc⟩ := Go.ints_at hcell (by omega)
    refine ⟨b, off, rfl, ?_, fun j hj => ⟨?_, ?_⟩⟩
    · rcases Nat.lt_or_ge b W.heap.size with hb | hb
      · exact hb
      · have := hc 0 (by omega)
        simp [World.cell?, Array.getElem?_eq_none hb] at this
    · rw [hc j (by omega), List.getElem?_take, if_pos hj, List.getD_eq_getElem?_getD]
    · rw [List.getElem?_take, if_pos hj]
      exact range_u8 hwf j

/-! ### THE ROW's STEP -/
set_option maxRecDepth 100000 in
theorem lifted (os : Os) (started : os.Started) (H : Type) (enc : TypeId × Value → H) :
    ReturnsInHanded {} Try.checked os 8 .any (Rows.lagReachedSpec.pre6 enc Try.prog Try.f8 Rows.lagReachedRow.domain false) (Rows.lagReachedSpec.post enc Try.prog Try.f8 false true false false) := by
  refine returnsInHanded_of_change (C := Try.checked) own started (by kernel_rfl) Try.func8
    (ChangeSpec.witness6 (enc := enc) (C := Try.checked) false ⟨#[], #[.slice none 0 0, .slice none 0 0, .slice none 0 0, .slice none 0 0], []⟩ 8 (by kernel_rfl) (by kernel_rfl) (by kernel_rfl) (by kernel_rfl)) ?_
  intro W base args ds gs before hval0 hW hcnd _
  have hval : ∀ (j : Nat) t v, Try.f8.params[j]? = some t → args[j]? = some v → Value.okWide Try.prog W .any base t v := hval0
  have hW' := hW
  obtain ⟨p, q, hA0, hV, rfl, hfz, hnd⟩ := hW
  have hA : DataW.TrodAll enc Try.prog W 0 (fun _ => true) true Try.f8.params.toList args.toList ds p := hA0
  rw [Try.params8] at hA hval
  obtain ⟨v0, v1, v2, v3, d0, d1, d2, d3, p0, p1, p2, p3, rfl, rfl, rfl, h0, h1, h2, h3⟩ := trodAll_four hA
  obtain ⟨rfl, rfl⟩ := trodVars_none hV
  obtain ⟨A0, n0, c0, rfl⟩ := okWide_slice Try.underlying22 (hval 0 22 v0 rfl rfl)
  obtain ⟨A1, n1, c1, rfl⟩ := okWide_slice Try.underlying23 (hval 1 23 v1 rfl rfl)
  obtain ⟨A2, n2, c2, rfl⟩ := okWide_slice Try.underlying51 (hval 2 51 v2 rfl rfl)
  obtain ⟨A3, n3, c3, rfl⟩ := okWide_slice Try.underlying51 (hval 3 51 v3 rfl rfl)
  have h0k := h0
  have h1k := h1
  have h2k := h2
  have h3k := h3
  obtain ⟨f0, hf0⟩ := h0
  obtain ⟨f1, hf1⟩ := h1
  obtain ⟨f2, hf2⟩ := h2
  obtain ⟨f3, hf3⟩ := h3
  obtain ⟨A0', n0', c0', x0, e0, l0, i0⟩ := longs_arg hf0
  cases e0
  obtain ⟨A1', n1', c1', x1, e1, l1, i1⟩ := longrows_arg hf1
  cases e1
  obtain ⟨A2', n2', c2', x2, e2, l2, i2⟩ := bytes_arg hf2
  cases e2
  obtain ⟨A3', n3', c3', x3, e3, l3, i3⟩ := bytes_arg hf3
  cases e3
  clear hA0 hval0
  simp only [List.append_nil] at hW'
  have hlt0 : ∀ x ∈ p0, x.block < W.heap.size := fun x hx => by simpa using hW'.lt x (by simp [hx])
  have hlt1 : ∀ x ∈ p1, x.block < W.heap.size := fun x hx => by simpa using hW'.lt x (by simp [hx])
  have hlt2 : ∀ x ∈ p2, x.block < W.heap.size := fun x hx => by simpa using hW'.lt x (by simp [hx])
  have hlt3 : ∀ x ∈ p3, x.block < W.heap.size := fun x hx => by simpa using hW'.lt x (by simp [hx])
  refine (LagReached_any W A0 A1 A2 A3 n0 c0 n1 c1 n2 c2 n3 c3 x0 x1 x2 x3 i0 i1 i2 i3).mono fun e W' ⟨he, hg⟩ => ?_
  subst he
  exact ⟨_, rfl, _, _, _, [], p0 ++ (p1 ++ (p2 ++ p3)), [], hW', trodAll_cons_mk (shut_bool Try.underlying4 _) trodAll_mk0,
    trodAll_mk4 (Below.trod laidOut (by kernel_rfl) (of_decide_eq_true (by kernel_rfl)) h0k hg hlt0) (Below.trod laidOut (by kernel_rfl) (of_decide_eq_true (by kernel_rfl)) h1k hg hlt1) (Below.trod laidOut (by kernel_rfl) (of_decide_eq_true (by kernel_rfl)) h2k hg hlt2) (Below.trod laidOut (by kernel_rfl) (of_decide_eq_true (by kernel_rfl)) h3k hg hlt3),
    rfl, hg.frame _, fun h => by cases h⟩

theorem over : Rows.lagReachedRow.holds Try.pinned (OpenSpec.ofChange Rows.lagReachedSpec) :=
  OpenClaim.holds_of_wide 8 Try.f8 rfl rfl rfl rfl rfl rfl rfl ⟨rfl, rfl, rfl, rfl, rfl⟩ rfl rfl rfl rfl rfl (by kernel_rfl) Try.func8 (by kernel_rfl)
    (of_decide_eq_true (by kernel_rfl)) (by unfold Func.isWrapper; first | (rw [if_pos (by decide +kernel)]; kernel_rfl) | (rw [if_neg (by decide +kernel)]; exact ⟨rfl, rfl⟩))
    (fun os started H enc _ => lifted os started H enc)

/-- The statement. -/
theorem proved : Rows.LagReachedSaid :=
  over
#print axioms proved
end Go.Proofs.Ytlgibckhkdggdaa.lagReached
