/- If all numbers of the curve and of all shafts are as many times as great, the wait is, and the lateness stays; so are the most, the least, and the numbers of Behind. (For every curve and every chain among the arguments, and every two numbers.) -/
import Derived.Test.YtlgibckhkdggdaaH24
import Derived.Test.YtlgibckhkdggdaaRows
import Derived.WalkKit
import Derived.ProofKit
import Derived.OpenShut
import Derived.Carry
import Derived.Deep.Slices
import Derived.ChangeSame

/- lag: LagTimes. -/
namespace Go.Proofs.Ytlgibckhkdggdaa
open Go.RowKit Go.Shelf

attribute [local go_sem] Oper.semAt_some

set_option maxRecDepth 100000 in
set_option maxHeartbeats 32000000 in
theorem LagTimes_any (w : World) (A A2 : Option Addr) (n c K c2 : Nat) (xs : List Int) (css : List (List Int)) (tm tu : Int) (hx : IntsAt w w.heap.size A n xs) (hy : RowsAt w w.heap.size A2 K css) (h1 : 0 ≤ tm ∧ tm ≤ 255) (h2 : 0 ≤ tu ∧ tu ≤ 255) :
    Calls Try.prog 15 #[.slice A n c, .slice A2 K c2, .int .u8 tm, .int .u8 tu] w fun e w' => e = .returned (.bool true) ∧ Below w.heap.size w w' := by
  obtain ⟨i0, hi, hz0, hz1, hz2⟩ := info_parts infoI64
  obtain ⟨i1, hj, hy0, hy1, hy2⟩ := info_parts infoRow
  have hm1 := hx.small
  have hm2 := hy.2.1
  have Hlx := Lib.hid hx.len
  have Hlk := Lib.hid hy.1
  obtain ⟨o1, rfl⟩ : ∃ o1 : Nat, tm = (o1 : Int) := ⟨tm.toNat, by omega⟩
  obtain ⟨o2, rfl⟩ : ∃ o2 : Nat, tu = (o2 : Int) := ⟨tu.toNat, by omega⟩
  have t1 : (o1 : Int).tmod 5 = ((o1 % 5 : Nat) : Int) := (Int.ofNat_tmod o1 5).symm
  have t2 : (o2 : Int).tmod 201 = ((o2 % 201 : Nat) : Int) := (Int.ofNat_tmod o2 201).symm
  obtain ⟨p, hp⟩ : ∃ p, p = o1 % 5 := ⟨_, rfl⟩
  obtain ⟨k, hk⟩ : ∃ k, k = o2 % 201 := ⟨_, rfl⟩
  have hp4 : p ≤ 4 := by omega
  have hk200 : k ≤ 200 := by omega
  rw [← hp] at t1
  rw [← hk] at t2
  have u1 : IntKind.i64.wrap (o1 : Int) = (o1 : Int) := by rw [IntKind.wrap_i64]; omega
  have u2 : IntKind.i64.wrap (o2 : Int) = (o2 : Int) := by rw [IntKind.wrap_i64]; omega
  have u3 : IntKind.i64.wrap (p : Int) = (p : Int) := by rw [IntKind.wrap_i64]; omega
  have u4 : IntKind.i64.wrap (k : Int) = (k : Int) := by rw [IntKind.wrap_i64]; omega
  obtain ⟨t, ht⟩ : ∃ t : Int, t = 1 + (p : Int) := ⟨_, rfl⟩
  have u5 : IntKind.i64.wrap (1 + (p : Int)) = t := by rw [IntKind.wrap_i64]; omega
  have ht1 : 1 ≤ t ∧ t ≤ 5 := by omega
  clear hp hk ht
  go_enter Try.func15, Try.ntmps15
  go_wp2_with (fail)
  refine (fine_any w _ A n c xs hx).mono ?_
  rintro e w1 ⟨rfl, B1⟩
  obtain ⟨bf, hbf⟩ : ∃ b, b = fineF xs := ⟨_, rfl⟩
  rw [← hbf]
  cases bf with
  | false =>
    clear hbf
    go_wp2_with (fail)
    refine (Works_any w1).mono ?_
    rintro e wl ⟨rfl, hb2⟩
    go_wp2_with (fail)
    exact bodyPost_ret (results_tmp rfl _ _ _) rfl ⟨rfl, B1.trans (hb2.mono B1.size)⟩
  | true =>
    have Hc := Lib.hid (show curveF xs = 0 by unfold fineF at hbf; exact of_decide_eq_true hbf.symm)
    clear hbf
    obtain ⟨bw, hbw⟩ := wide_any w1 w.heap.size A2 K c2 css (hy.below B1 (Nat.le_refl _))
    cases bw with
    | true =>
      go_wp2_with (fail)
      refine hbw.mono ?_
      rintro e w2 ⟨rfl, hw⟩
      subst hw
      clear hbw
      go_wp2_with (fail)
      refine (Works_any w2).mono ?_
      rintro e wl ⟨rfl, hb2⟩
      go_wp2_with (fail)
      exact bodyPost_ret (results_tmp rfl _ _ _) rfl ⟨rfl, B1.trans (hb2.mono B1.size)⟩
    | false =>
      go_wp2_with (fail)
      refine hbw.mono ?_
      rintro e w2 ⟨rfl, hw⟩
      subst hw
      clear hbw
      go_wp2_with (fail)
      refine (rCheckChain_any w2 _ A2 K c2 css (hy.below B1 (Nat.le_refl _))).mono ?_
      rintro e w3 ⟨rfl, q, hq⟩
      have B3 : Below w.heap.size w w3 := by rw [hq]; exact B1.trans (below_drewN _ _)
      clear hq B1
      obtain ⟨r, hr⟩ : ∃ r, r = chainF css := ⟨_, rfl⟩
      rw [← hr]
      by_cases h0 : r = 0
      case neg =>
        have hne : (r != 0) = true := by rw [bne_iff_ne]; exact h0
        clear hr h0
        go_wp2_with (fail)
        refine (Works_any w3).mono ?_
        rintro e wl ⟨rfl, hb2⟩
        go_wp2_with (fail)
        exact bodyPost_ret (results_tmp rfl _ _ _) rfl ⟨rfl, B3.trans (hb2.mono B3.size)⟩
      case pos =>
        subst h0
        have Hch := Lib.hid hr.symm
        clear hr
        have hn6 : 1 ≤ n ∧ n ≤ 6 := by have := curve_nums Hc.out; rw [Hlx.out] at this; exact ⟨this.1, this.2.1⟩
        have hK3 : 1 ≤ K ∧ K ≤ 3 := by have := chain_pos Hch.out; rw [Hlk.out] at this; exact this
        have hB3z := B3.size
        go_wp2_with (fail)
        go_loopg [11, 13] n (fun g' v11 v13 wr => ∃ j : Nat, (j ≤ n ∧ g' = n - j ∧ v13 = .int .i64 (j : Int)) ∧ wr.ownsRow w3.heap.size 2 1 v11 j ((mapL (fun i => t * xs[i]?.getD 0) j).map (.int .i64)) ∧ Below w3.heap.size w3 wr)
        case atStart => exact ⟨0, ⟨by omega, rfl, rfl⟩, World.ownsRow_nil _ _ _ _, Below.refl _ _⟩
        case round =>
          obtain ⟨j, ⟨hjn, rfl, rfl⟩, hrow, hb⟩ := hrel
          have hsz := hb.size
          have hbw := B3.trans (hb.mono hB3z)
          by_cases hlt : j < n
          case pos =>
            have hwt : IntKind.i64.wrap ((j : Int) + 1) = (j : Int) + 1 := by rw [IntKind.wrap_i64]; omega
            obtain ⟨b1, o1', rfl, hb1l, cx⟩ := (hx.below hbw (Nat.le_refl _)).cell hlt
            have hxb := (curve_nums Hc.out).2.2.1 j (by rw [Hlx.out]; exact hlt)
            obtain ⟨x, hxe⟩ : ∃ x, x = xs[j]?.getD 0 := ⟨_, rfl⟩
            rw [← hxe] at cx hxb
            have hmul : 0 ≤ t * x ∧ t * x ≤ 500 := ⟨Int.mul_nonneg (by omega) (by omega), Int.le_trans (Int.mul_le_mul ht1.2 hxb.2 hxb.1 (by omega)) (by omega)⟩
            have Hxe := Lib.hid (show mapL (fun i => t * xs[i]?.getD 0) (j + 1) = mapL (fun i => t * xs[i]?.getD 0) j ++ [t * x] by rw [mapL_succ, hxe])
            obtain ⟨y, hye⟩ : ∃ y, y = t * x := ⟨_, rfl⟩
            have wy : IntKind.i64.wrap (t * x) = y := by rw [IntKind.wrap_i64]; omega
            have Hy := Lib.hid hye
            clear hxe hye hmul
            go_wp2_with (at_builtin; refine wpList_append_own_at _ rfl _ _ 22 rfl w3.heap.size 2 i0 (.int .i64 0) 1 8 Try.underlying22 hi hz0 hz1 hz2 rfl (by decide) _ _ _ rfl (hrow.alloc _) ⟨wr.heap.size, 0, none⟩ 1 1 [.int .i64 y] rfl rfl (cell_one_new _ _ _) (by simp [Value.oneCell']) (by simp only [maxLen]; omega) (by omega) (by simp; omega) ?_; intro v' wA hown hgrow _ hat)
            go_roundg (n - (j + 1))
            case measure => omega
            case rel =>
              refine ⟨j + 1, ⟨by omega, rfl, by simp⟩, ?_, (hb.alloc hsz _).trans ((Below.refl _ _).grown hgrow (by simp; omega) (fun r e => (hrow.lt r e).1))⟩
              rw [Hxe.out, ← Hy.out, List.map_append]
              exact hown
          case neg =>
            obtain rfl : j = n := by omega
            clear hlt hjn
            obtain ⟨A5, c5, rfl, hc5, i5⟩ := own_form hrow (by omega)
            obtain ⟨w4, rfl⟩ : ∃ w4, w4 = wr := ⟨_, rfl⟩
            rw [show mapL (fun i => t * xs[i]?.getD 0) j = timL t xs by unfold timL; rw [Hlx.out]] at i5
            have B4 := hbw
            have B4z := hbw.size
            have I5 := Lib.hid i5
            clear hrow hb hsz hbw i5 B3 hB3z
            go_wp2_with (fail)
            go_loopg [12, 14] K (fun g' v12 v14 wr => ∃ (i : Nat) (vs : List Value), (i ≤ K ∧ g' = K - i ∧ v14 = .int .i64 (i : Int)) ∧ (wr.ownsRow w4.heap.size 22 1 v12 i vs ∧ RowsIn wr v12.ownBlock vs (mapR (fun j => timL t (css[j]?.getD [])) i)) ∧ Below w4.heap.size w4 wr)
            case atStart => exact ⟨0, [], ⟨by omega, rfl, rfl⟩, ⟨World.ownsRow_nil _ _ _ _, RowsIn.nil⟩, Below.refl _ _⟩
            case round =>
              obtain ⟨i, vs, ⟨hi', rfl, rfl⟩, ⟨hown, hrows⟩, hb⟩ := hrel
              obtain ⟨wo, rfl⟩ : ∃ wo, wo = wr := ⟨_, rfl⟩
              have hbw := B4.trans (hb.mono B4z)
              have hsz := hbw.size
              have hbz := hb.size
              have hwi : IntKind.i64.wrap ((i : Int) + 1) = (i : Int) + 1 := by rw [IntKind.wrap_i64]; omega
              by_cases hlt : i < K
              case pos =>
                obtain ⟨b2, o2', cs, A6, m6, c6, rfl, hb2, hcs, hcell, hci⟩ := (hy.below hbw (Nat.le_refl _)).at hlt
                have hcc : curveF cs = 0 := by have := chain_curves Hch.out (j := i) (by rw [Hlk.out]; exact hlt); rw [hcs] at this; exact this
                have hm6 : 1 ≤ m6 ∧ m6 ≤ 6 := by have := curve_nums hcc; rw [hci.1] at this; exact ⟨this.1, this.2.1⟩
                have Hcc := Lib.hid hcc
                have Hcs := Lib.hid (show css[i]?.getD [] = cs by rw [hcs]; rfl)
                have Hci := Lib.hid hci
                have hlen := Lib.hid hci.1
                clear hcs hci hcc
                go_wp2_with (fail)
                go_loopg [15, 16] m6 (fun g' v15 v16 wr => ∃ (j : Nat), (j ≤ m6 ∧ g' = m6 - j ∧ v16 = .int .i64 (j : Int)) ∧ wr.ownsRow wo.heap.size 2 1 v15 j ((mapL (fun p => t * cs[p]?.getD 0) j).map (.int .i64)) ∧ Below wo.heap.size wo wr)
                case atStart => exact ⟨0, ⟨by omega, rfl, rfl⟩, World.ownsRow_nil _ _ _ _, Below.refl _ _⟩
                case round =>
                  obtain ⟨j', ⟨hjm, rfl, rfl⟩, hrow, hbi⟩ := hrel
                  have hzi := hbi.size
                  have hcell' := (hbi.cell (p := ⟨b2, o2' + i, none⟩) (show b2 < wo.heap.size by omega)).trans hcell
                  have hwj : IntKind.i64.wrap ((j' : Int) + 1) = (j' : Int) + 1 := by rw [IntKind.wrap_i64]; omega
                  have hb2r : b2 < wr.heap.size := by omega
                  by_cases hlj : j' < m6
                  case pos =>
                    obtain ⟨b1, o1', rfl, hb1l, cx⟩ := (Hci.out.below (hbi.mono hsz) (Nat.le_refl _)).cell hlj
                    have hxb := (curve_nums Hcc.out).2.2.1 j' (by rw [hlen.out]; exact hlj)
                    obtain ⟨x, hxe⟩ : ∃ x, x = cs[j']?.getD 0 := ⟨_, rfl⟩
                    rw [← hxe] at cx hxb
                    have hmul : 0 ≤ t * x ∧ t * x ≤ 500 := ⟨Int.mul_nonneg (by omega) (by omega), Int.le_trans (Int.mul_le_mul ht1.2 hxb.2 hxb.1 (by omega)) (by omega)⟩
                    have Hxe := Lib.hid (show mapL (fun i => t * cs[i]?.getD 0) (j' + 1) = mapL (fun i => t * cs[i]?.getD 0) j' ++ [t * x] by rw [mapL_succ, hxe])
                    obtain ⟨y, hye⟩ : ∃ y, y = t * x := ⟨_, rfl⟩
                    have wy : IntKind.i64.wrap (t * x) = y := by rw [IntKind.wrap_i64]; omega
                    have Hy := Lib.hid hye
                    clear hxe hye hmul hcell
                    go_wp2_with (at_builtin; refine wpList_append_own_at _ rfl _ _ 22 rfl wo.heap.size 2 i0 (.int .i64 0) 1 8 Try.underlying22 hi hz0 hz1 hz2 rfl (by decide) _ _ _ rfl (hrow.alloc _) ⟨wr.heap.size, 0, none⟩ 1 1 [.int .i64 y] rfl rfl (cell_one_new _ _ _) (by simp [Value.oneCell']) (by simp only [maxLen]; omega) (by omega) (by simp; omega) ?_; intro v' wA hownA hgrow _ hat)
                    go_roundg (m6 - (j' + 1))
                    case measure => omega
                    case rel =>
                      refine ⟨j' + 1, ⟨by omega, rfl, by simp⟩, ?_, (hbi.alloc hzi _).trans ((Below.refl _ _).grown hgrow (by simp; omega) (fun r e => (hrow.lt r e).1))⟩
                      rw [Hxe.out, ← Hy.out, List.map_append]
                      exact hownA
                  case neg =>
                    obtain rfl : j' = m6 := by omega
                    have hrin := row_in hrow (by omega) (fun g e => (hown.lt g e).2)
                    obtain ⟨A7, c7, rfl, hc7, -⟩ := own_form hrow (by omega)
                    have hown' := own_belowT hown hbi (Nat.le_refl _)
                    have hrows' := hrows.below hbi
                    have hbn : Below w4.heap.size w4 wr := hb.trans (hbi.mono hbz)
                    have hbnz := hbn.size
                    have Hnx := Lib.hid (show mapR (fun j => timL t (css[j]?.getD [])) (i + 1) = mapR (fun j => timL t (css[j]?.getD [])) i ++ [mapL (fun p => t * cs[p]?.getD 0) j'] by rw [mapR_succ, Hcs.out]; unfold timL; rw [hlen.out])
                    clear hrow hown hrows hbi hcell hlj
                    go_wp2_with (at_builtin; refine wpList_append_own_at _ rfl _ _ 23 rfl w4.heap.size 22 i1 (.slice none 0 0) 1 24 Try.underlying23 hj hy0 hy1 hy2 rfl (by decide) _ _ _ rfl (hown'.alloc _) ⟨wr.heap.size, 0, none⟩ 1 1 [.slice A7 j' c7] rfl rfl (cell_one_new _ _ _) (by simp [Value.oneCell']) (by simp only [maxLen]; omega) (by omega) (by simp; omega) ?_; intro v' wA hownA hgrow _ hat)
                    go_roundg (K - (i + 1))
                    case measure => omega
                    case rel =>
                      refine ⟨i + 1, _, ⟨by omega, rfl, by simp⟩, ⟨hownA, ?_⟩, (hbn.alloc hbnz _).trans ((Below.refl _ _).grown hgrow (by simp; omega) (fun r e => (hown'.lt r e).1))⟩
                      rw [Hnx.out]
                      exact (hrows'.alloc _).push (hrin.alloc _) hgrow hat
              case neg =>
                obtain rfl : i = K := by omega
                obtain ⟨A8, c8, rfl, hc8, r8⟩ := rows_own hown hrows (by omega)
                rw [show mapR (fun j => timL t (css[j]?.getD [])) i = timR t css by rw [← Hlk.out]; exact mapR_all css] at r8
                have I5 := Lib.hid (ints_up I5.out hb)
                have R8 := Lib.hid r8
                clear hown hrows hb hbz hi' hlt r8 B4 B4z hwi
                go_wp2_with (fail)
                refine (rCheckCurve_any wo _ A5 j c5 (timL t xs) I5.out).mono ?_
                rintro e w5 ⟨rfl, q, hq⟩
                have hb5 : Below wo.heap.size wo w5 := by rw [hq]; exact below_drewN _ _
                have B5 := hbw.trans (hb5.mono hsz)
                have I5 := Lib.hid (ints_up I5.out hb5)
                have R8 := Lib.hid (rows_up R8.out hb5)
                clear hq hb5 hbw hsz
                obtain ⟨r, hr⟩ : ∃ r, r = curveF (timL t xs) := ⟨_, rfl⟩
                rw [← hr]
                by_cases h0 : r = 0
                case neg =>
                  have hne : (r != 0) = true := by rw [bne_iff_ne]; exact h0
                  clear hr h0
                  go_wp2_with (fail)
                  refine (Works_any w5).mono ?_
                  rintro e wl ⟨rfl, hb2⟩
                  go_wp2_with (fail)
                  exact bodyPost_ret (results_tmp rfl _ _ _) rfl ⟨rfl, B5.trans (hb2.mono B5.size)⟩
                case pos =>
                  subst h0
                  have Hcu := Lib.hid hr.symm
                  clear hr
                  go_wp2_with (fail)
                  refine (rCheckChain_any w5 _ A8 i c8 (timR t css) R8.out).mono ?_
                  rintro e w6 ⟨rfl, q, hq⟩
                  have hb6 : Below w5.heap.size w5 w6 := by rw [hq]; exact below_drewN _ _
                  have B6 := B5.trans (hb6.mono B5.size)
                  have I5 := Lib.hid (ints_up I5.out hb6)
                  have R8 := Lib.hid (rows_up R8.out hb6)
                  clear hq hb6 B5
                  obtain ⟨r, hr⟩ : ∃ r, r = chainF (timR t css) := ⟨_, rfl⟩
                  rw [← hr]
                  by_cases h0 : r = 0
                  case neg =>
                    have hne : (r != 0) = true := by rw [bne_iff_ne]; exact h0
                    clear hr h0
                    go_wp2_with (fail)
                    refine (Works_any w6).mono ?_
                    rintro e wl ⟨rfl, hb2⟩
                    go_wp2_with (fail)
                    exact bodyPost_ret (results_tmp rfl _ _ _) rfl ⟨rfl, B6.trans (hb2.mono B6.size)⟩
                  case pos =>
                    subst h0
                    have Hcc := Lib.hid hr.symm
                    clear hr
                    have Bw6 := B6
                    clear B6
                    go_wp2_with (fail)
                    refine (Most_any w6 _ A _ c xs ((k : Nat) : Int) (hx.below Bw6 (Nat.le_refl _)) Bw6.size).mono ?_
                    rintro e w7 ⟨rfl, hb⟩
                    rw [mostR_at Hc.out hk200]
                    have Bw7 := Bw6.trans (hb.mono Bw6.size)
                    have I5 := Lib.hid (ints_up I5.out hb)
                    have R8 := Lib.hid (rows_up R8.out hb)
                    clear hb Bw6
                    have hbd := mst_fits Hc.out hk200
                    obtain ⟨a, ha⟩ : ∃ a, a = mst xs k := ⟨_, rfl⟩
                    rw [← ha] at hbd ⊢
                    have Ha := Lib.hid ha
                    have hmul : 0 ≤ t * a ∧ t * a ≤ 100000 := ⟨Int.mul_nonneg (by omega) (by omega), Int.le_trans (Int.mul_le_mul ht1.2 hbd.2 hbd.1 (by omega)) (by omega)⟩
                    obtain ⟨b, hbe⟩ : ∃ b, b = t * a := ⟨_, rfl⟩
                    have wb : IntKind.i64.wrap (t * a) = b := by rw [IntKind.wrap_i64]; omega
                    have Hb := Lib.hid hbe
                    clear ha hbe hmul hbd
                    go_wp2_with (fail)
                    refine (Most_any w7 _ A5 _ c5 (timL t xs) ((k : Nat) : Int) I5.out (Nat.le_refl _)).mono ?_
                    rintro e w8 ⟨rfl, hb⟩
                    rw [mostR_at Hcu.out hk200, mst_times (nums_of Hc.out).1 (by omega), ← Ha.out, ← Hb.out]
                    have Bw8 := Bw7.trans (hb.mono Bw7.size)
                    have I5 := Lib.hid (ints_up I5.out hb)
                    have R8 := Lib.hid (rows_up R8.out hb)
                    clear hb Bw7
                    go_wp2_with (fail)
                    refine (Least_any w8 _ A2 _ c2 css ((k : Nat) : Int) (hy.below Bw8 (Nat.le_refl _)) Bw8.size).mono ?_
                    rintro e w9 ⟨rfl, hb⟩
                    rw [least_at Hch.out hk200]
                    have Bw9 := Bw8.trans (hb.mono Bw8.size)
                    have I5 := Lib.hid (ints_up I5.out hb)
                    have R8 := Lib.hid (rows_up R8.out hb)
                    clear hb Bw8
                    have hbd := lvl_fits Hch.out hk200
                    obtain ⟨d, hd⟩ : ∃ a, a = lvl css (css.length - 1) k := ⟨_, rfl⟩
                    rw [← hd] at hbd ⊢
                    have Hd := Lib.hid hd
                    have hmul : 0 ≤ t * d ∧ t * d ≤ 100000000 := ⟨Int.mul_nonneg (by omega) (by omega), Int.le_trans (Int.mul_le_mul ht1.2 hbd.2 hbd.1 (by omega)) (by omega)⟩
                    obtain ⟨f, hf⟩ : ∃ b, b = t * d := ⟨_, rfl⟩
                    have wf : IntKind.i64.wrap (t * d) = f := by rw [IntKind.wrap_i64]; omega
                    have Hf := Lib.hid hf
                    clear hd hf hmul hbd
                    go_wp2_with (fail)
                    refine (Least_any w9 _ A8 _ c8 (timR t css) ((k : Nat) : Int) R8.out (Nat.le_refl _)).mono ?_
                    rintro e w10 ⟨rfl, hb⟩
                    rw [least_at Hcc.out hk200, timR_len, lvl_times (by omega), ← Hd.out, ← Hf.out]
                    have Bw10 := Bw9.trans (hb.mono Bw9.size)
                    have I5 := Lib.hid (ints_up I5.out hb)
                    have R8 := Lib.hid (rows_up R8.out hb)
                    clear hb Bw9
                    have Has := Lib.hid (asked_times ht1.1 Hc.out Hch.out Hcu.out Hcc.out)
                    have Hwt := Lib.hid (wait_times ht1.1 Hc.out Hch.out Hcu.out Hcc.out)
                    have Hlt := Lib.hid (late_times ht1.1 Hc.out Hch.out Hcu.out Hcc.out)
                    obtain ⟨bq, hbq⟩ := best_exists (nums_of Hc.out).1
                    have hase := (asked_zero Hc.out Hch.out hbq).1
                    clear hbq
                    rcases hase with h0 | h18
                    · have Ha0 := Lib.hid h0
                      obtain ⟨wv, hwv, hw1, hw2⟩ := wait_fits h0
                      obtain ⟨L, hL, hL20⟩ := late_fits h0
                      have Hwv := Lib.hid hwv
                      have HL := Lib.hid hL
                      have hmul : 0 ≤ t * wv ∧ t * wv ≤ 100000 := ⟨Int.mul_nonneg (by omega) (by omega), Int.le_trans (Int.mul_le_mul ht1.2 hw2 hw1 (by omega)) (by omega)⟩
                      obtain ⟨v, hv⟩ : ∃ b, b = t * wv := ⟨_, rfl⟩
                      have wv' : IntKind.i64.wrap (t * wv) = v := by rw [IntKind.wrap_i64]; omega
                      have Hv := Lib.hid hv
                      clear h0 hwv hL hmul hw1 hw2 hv
                      go_wp2_with (fail)
                      refine (Wait_any w10 _ _ A A2 _ c _ c2 xs css (hx.below Bw10 (Nat.le_refl _)) Bw10.size (hy.below Bw10 (Nat.le_refl _)) Bw10.size).mono ?_
                      rintro e w11 ⟨rfl, hb⟩
                      rw [Hwv.out]
                      have Bw11 := Bw10.trans (hb.mono Bw10.size)
                      have I5 := Lib.hid (ints_up I5.out hb)
                      have R8 := Lib.hid (rows_up R8.out hb)
                      clear hb Bw10
                      obtain ⟨b2, o3, cs, A9, m9, c9, rfl, -, hcs9, hcell9, i9⟩ := R8.out.at (j := 0) (by omega)
                      have hm9 : 1 ≤ m9 ∧ m9 ≤ 6 := by have := curve_nums (chain_curves Hcc.out (j := 0) (by rw [timR_len, Hlk.out]; omega)); rw [hcs9] at this; have e := i9.1; simp only [Option.getD_some] at this; rw [e] at this; exact ⟨this.1, this.2.1⟩
                      obtain ⟨b9, o9, rfl, hb9, -⟩ := i9.cell (k := 0) (by omega)
                      rw [Nat.add_zero] at hcell9
                      clear hcs9 i9
                      go_wp2_with (fail)
                      refine (Wait_any w11 0 0 _ _ 0 c9 0 0 [] [] (ints_none _ _ _) (Nat.zero_le _) (rows_none _ _) (Nat.zero_le _)).mono ?_
                      rintro e w12 ⟨rfl, hb⟩
                      rw [wait_none]
                      clear hcell9
                      have Bw12 := Bw11.trans (hb.mono Bw11.size)
                      have I5 := Lib.hid (ints_up I5.out hb)
                      have R8 := Lib.hid (rows_up R8.out hb)
                      clear hb Bw11
                      go_wp2_with (fail)
                      refine (Wait_any w12 _ _ A5 _ _ c5 _ c8 (timL t xs) (timR t css) I5.out (Nat.le_refl _) R8.out (Nat.le_refl _)).mono ?_
                      rintro e w13 ⟨rfl, hb⟩
                      rw [Hwt.out, Hwv.out]
                      simp only []
                      rw [← Hv.out]
                      have Bw13 := Bw12.trans (hb.mono Bw12.size)
                      have I5 := Lib.hid (ints_up I5.out hb)
                      have R8 := Lib.hid (rows_up R8.out hb)
                      clear hb Bw12
                      go_wp2_with (fail)
                      refine (Late_any w13 _ _ A A2 _ c _ c2 xs css (hx.below Bw13 (Nat.le_refl _)) Bw13.size (hy.below Bw13 (Nat.le_refl _)) Bw13.size).mono ?_
                      rintro e w14 ⟨rfl, hb⟩
                      rw [HL.out]
                      have Bw14 := Bw13.trans (hb.mono Bw13.size)
                      have I5 := Lib.hid (ints_up I5.out hb)
                      have R8 := Lib.hid (rows_up R8.out hb)
                      clear hb Bw13
                      go_wp2_with (fail)
                      refine (Late_any w14 _ _ A5 _ _ c5 _ c8 (timL t xs) (timR t css) I5.out (Nat.le_refl _) R8.out (Nat.le_refl _)).mono ?_
                      rintro e w15 ⟨rfl, hb⟩
                      rw [Hlt.out, HL.out]
                      have Bw15 := Bw14.trans (hb.mono Bw14.size)
                      have I5 := Lib.hid (ints_up I5.out hb)
                      have R8 := Lib.hid (rows_up R8.out hb)
                      clear hb Bw14
                      go_wp2_with (fail)
                      refine (Behind_any w15 _ _ A A2 _ c _ c2 xs css (hx.below Bw15 (Nat.le_refl _)) Bw15.size (hy.below Bw15 (Nat.le_refl _)) Bw15.size).mono ?_
                      rintro e w16 ⟨hP, hb⟩
                      obtain ⟨g1, -, rfl, z1⟩ := beh_on hP Ha0.out
                      have Bw16 := Bw15.trans (hb.mono Bw15.size)
                      have I5 := Lib.hid (ints_up I5.out hb)
                      have R8 := Lib.hid (rows_up R8.out hb)
                      rw [Hlx.out]
                      have Z1 := Lib.hid (z1.ints (show (behR xs.length xs css xs.length).length = j by rw [behR_len]; exact Hlx.out) (by omega))
                      clear hb hP Bw15 z1
                      go_wp2_with (fail)
                      refine (Behind_any w16 _ _ A5 _ _ c5 _ c8 (timL t xs) (timR t css) I5.out (Nat.le_refl _) R8.out (Nat.le_refl _)).mono ?_
                      rintro e w17 ⟨hP, hb⟩
                      obtain ⟨g2, -, rfl, z2⟩ := beh_on hP (Has.out.trans Ha0.out)
                      have Bw17 := Bw16.trans (hb.mono Bw16.size)
                      have Bz := Bw17.size
                      rw [timL_len, Hlx.out] 
                      have Z1 := Lib.hid (ints_up Z1.out hb)
                      have Z2 := Lib.hid (z2.ints (show (behR (timL t xs).length (timL t xs) (timR t css) (timL t xs).length).length = j by rw [behR_len, timL_len]; exact Hlx.out) (by omega))
                      clear hb hP Bw16 z2
                      go_wp2_with (fail)
                      go_loopg [33] j (fun g' v33 wr => ∃ s q : Nat, (s ≤ j ∧ g' = j - s ∧ v33 = .int .i64 (s : Int)) ∧ Hid (wr = w17.drewN q))
                      case atStart => exact ⟨0, 0, ⟨by omega, by omega, rfl⟩, Lib.hid rfl⟩
                      case round =>
                        obtain ⟨s, q, ⟨hs, rfl, rfl⟩, hq⟩ := hrel
                        have hbr : Below w17.heap.size w17 wr := by rw [hq.out]; exact below_drewN _ _
                        have BR := Bw17.trans (hbr.mono Bz)
                        have hws : IntKind.i64.wrap ((s : Int) + 1) = (s : Int) + 1 := by rw [IntKind.wrap_i64]; omega
                        by_cases hls : s < j
                        case neg =>
                          have hls' : ¬ (s : Int) < (j : Int) := by omega
                          clear hls hbr
                          go_wp2_with (fail)
                          refine (Works_any wr).mono ?_
                          rintro e wl ⟨rfl, hb2⟩
                          go_wp2_with (fail)
                          exact bodyPost_ret (results_tmp rfl _ _ _) rfl ⟨rfl, BR.trans (hb2.mono BR.size)⟩
                        case pos =>
                          obtain ⟨b11, o11, e11, -, d1⟩ := (Z1.out.drewN q).cell (k := s) hls
                          cases e11
                          obtain ⟨b12, o12, e12, -, d2⟩ := (Z2.out.drewN q).cell (k := s) hls
                          cases e12
                          rw [← hq.out, Nat.zero_add] at d1 d2
                          rw [behR_get (by rw [Hlx.out]; exact hls)] at d1
                          rw [behR_get (by rw [timL_len, Hlx.out]; exact hls), behF_times ht1.1 Hc.out Hch.out Hcu.out Hcc.out Ha0.out (by omega)] at d2
                          have hbb := beh_bound Ha0.out (k := s + 1) (by omega)
                          obtain ⟨x, hxe⟩ : ∃ x, x = behF xs css (s + 1) := ⟨_, rfl⟩
                          rw [← hxe] at d1 d2 hbb
                          have hmul : 0 ≤ t * x ∧ t * x ≤ 10000000 := ⟨Int.mul_nonneg (by omega) (by omega), Int.le_trans (Int.mul_le_mul ht1.2 hbb.2 hbb.1 (by omega)) (by omega)⟩
                          obtain ⟨y, hy'⟩ : ∃ b, b = t * x := ⟨_, rfl⟩
                          have wy : IntKind.i64.wrap (t * x) = y := by rw [IntKind.wrap_i64]; omega
                          rw [← hy'] at d2
                          clear hxe hy' hmul hbr BR hbb
                          go_wp2
                          go_quiet (fail)
                          go_wp2
                          go_roundg (j - (s + 1))
                          case measure => omega
                          case rel => exact ⟨s + 1, _, ⟨by omega, rfl, by simp⟩, Lib.hid (by rw [hq.out]; simp only [World.drewN_drewN]; rfl)⟩
                    · have H18 := Lib.hid h18
                      have Hoff := Lib.hid (wait_off h18)
                      have wv' : IntKind.i64.wrap (t * 0) = 0 := by rw [IntKind.wrap_i64]; omega
                      have wv2 : IntKind.i64.wrap 0 = 0 := by rw [IntKind.wrap_i64]; rfl
                      clear h18
                      go_wp2_with (fail)
                      refine (Wait_any w10 _ _ A A2 _ c _ c2 xs css (hx.below Bw10 (Nat.le_refl _)) Bw10.size (hy.below Bw10 (Nat.le_refl _)) Bw10.size).mono ?_
                      rintro e w11 ⟨rfl, hb⟩
                      rw [Hoff.out.1]
                      have Bw11 := Bw10.trans (hb.mono Bw10.size)
                      have I5 := Lib.hid (ints_up I5.out hb)
                      have R8 := Lib.hid (rows_up R8.out hb)
                      clear hb Bw10
                      obtain ⟨b2, o3, cs, A9, m9, c9, rfl, -, hcs9, hcell9, i9⟩ := R8.out.at (j := 0) (by omega)
                      have hm9 : 1 ≤ m9 ∧ m9 ≤ 6 := by have := curve_nums (chain_curves Hcc.out (j := 0) (by rw [timR_len, Hlk.out]; omega)); rw [hcs9] at this; have e := i9.1; simp only [Option.getD_some] at this; rw [e] at this; exact ⟨this.1, this.2.1⟩
                      obtain ⟨b9, o9, rfl, hb9, -⟩ := i9.cell (k := 0) (by omega)
                      rw [Nat.add_zero] at hcell9
                      clear hcs9 i9
                      go_wp2_with (fail)
                      refine (Wait_any w11 0 0 _ _ 0 c9 0 0 [] [] (ints_none _ _ _) (Nat.zero_le _) (rows_none _ _) (Nat.zero_le _)).mono ?_
                      rintro e w12 ⟨rfl, hb⟩
                      rw [wait_none]
                      clear hcell9
                      have Bw12 := Bw11.trans (hb.mono Bw11.size)
                      have I5 := Lib.hid (ints_up I5.out hb)
                      have R8 := Lib.hid (rows_up R8.out hb)
                      clear hb Bw11
                      go_wp2_with (fail)
                      refine (Wait_any w12 _ _ A5 _ _ c5 _ c8 (timL t xs) (timR t css) I5.out (Nat.le_refl _) R8.out (Nat.le_refl _)).mono ?_
                      rintro e w13 ⟨rfl, hb⟩
                      rw [Hwt.out, Hoff.out.1]
                      simp only [Int.mul_zero]
                      have Bw13 := Bw12.trans (hb.mono Bw12.size)
                      have I5 := Lib.hid (ints_up I5.out hb)
                      have R8 := Lib.hid (rows_up R8.out hb)
                      clear hb Bw12
                      go_wp2_with (fail)
                      refine (Late_any w13 _ _ A A2 _ c _ c2 xs css (hx.below Bw13 (Nat.le_refl _)) Bw13.size (hy.below Bw13 (Nat.le_refl _)) Bw13.size).mono ?_
                      rintro e w14 ⟨rfl, hb⟩
                      rw [Hoff.out.2]
                      have Bw14 := Bw13.trans (hb.mono Bw13.size)
                      have I5 := Lib.hid (ints_up I5.out hb)
                      have R8 := Lib.hid (rows_up R8.out hb)
                      clear hb Bw13
                      go_wp2_with (fail)
                      refine (Late_any w14 _ _ A5 _ _ c5 _ c8 (timL t xs) (timR t css) I5.out (Nat.le_refl _) R8.out (Nat.le_refl _)).mono ?_
                      rintro e w15 ⟨rfl, hb⟩
                      rw [Hlt.out, Hoff.out.2]
                      have Bw15 := Bw14.trans (hb.mono Bw14.size)
                      have I5 := Lib.hid (ints_up I5.out hb)
                      have R8 := Lib.hid (rows_up R8.out hb)
                      clear hb Bw14
                      go_wp2_with (fail)
                      refine (Behind_any w15 _ _ A A2 _ c _ c2 xs css (hx.below Bw15 (Nat.le_refl _)) Bw15.size (hy.below Bw15 (Nat.le_refl _)) Bw15.size).mono ?_
                      rintro e w16 ⟨hP, hb⟩
                      obtain rfl := beh_off hP H18.out
                      have Bw16 := Bw15.trans (hb.mono Bw15.size)
                      have I5 := Lib.hid (ints_up I5.out hb)
                      have R8 := Lib.hid (rows_up R8.out hb)
                      clear hb hP Bw15
                      go_wp2_with (fail)
                      refine (Behind_any w16 _ _ A5 _ _ c5 _ c8 (timL t xs) (timR t css) I5.out (Nat.le_refl _) R8.out (Nat.le_refl _)).mono ?_
                      rintro e w17 ⟨hP, hb⟩
                      obtain rfl := beh_off hP (Has.out.trans H18.out)
                      have Bw17 := Bw16.trans (hb.mono Bw16.size)
                      clear hb hP Bw16
                      go_wp2_with (fail)
                      go_loopg [33] 0 (fun g' v33 wr => v33 = .int .i64 0 ∧ wr = w17)
                      case atStart => exact ⟨rfl, rfl⟩
                      case round =>
                        obtain ⟨rfl, rfl⟩ := hrel
                        go_wp2_with (fail)
                        refine (Works_any wr).mono ?_
                        rintro e wl ⟨rfl, hb2⟩
                        go_wp2_with (fail)
                        exact bodyPost_ret (results_tmp rfl _ _ _) rfl ⟨rfl, Bw17.trans (hb2.mono Bw17.size)⟩
end Go.Proofs.Ytlgibckhkdggdaa

/- If all numbers of the curve and of all shafts are as many times as great, the wait is, and the lateness stays; so are the most, the least, and the numbers of Behind. -/
namespace Go.Proofs.Ytlgibckhkdggdaa.lagTimes
open Go.ChangeShapes Go.WideShapes Go.ChangeAt Go.RowKit

theorem own : ownKnob Try.prog.godebug = none := by kernel_rfl
theorem laidOut : laidOutB Try.prog = true := by kernel_rfl
theorem cellsI64 : Try.prog.cellsOf 2 = 1 := by kernel_rfl
/-- A slice of numbers among the arguments. -/
theorem longs_arg {H : Type} {enc : TypeId × Value → H} {W : World} {fuel : Nat} {v : Value} {x : DataW H × List MemPlace} (h : DataW.trod enc Try.prog W 0 (fun _ => true) true fuel 22 [v] = some x) :
    ∃ A n c xs, v = .slice A n c ∧ n ≤ c ∧ IntsAt W W.heap.size A n xs := by
  rcases open_ints Try.underlying22 Try.underlying2 cellsI64 h with ⟨hcs, -⟩ | ⟨a, n, c, zs, hcs, -, hl, hm, hz, -, hcell, -⟩
  · obtain rfl : v = .slice none 0 0 := by simpa using hcs
    exact ⟨none, 0, 0, [], rfl, Nat.le_refl _, IntsAt.nil⟩
  · obtain rfl : v = .slice (some a) n c := by simpa using hcs
    have hz : zs.length = c := by simpa using hz
    refine ⟨some a, n, c, zs.take n, rfl, hl, by rw [List.length_take]; omega, by simp only [maxLen] at hm; omega, fun h0 => ?_⟩
    obtain ⟨b, off, rfl, hc⟩ := Go.ints_at hcell (by omega)
    refine ⟨b, off, rfl, ?_, fun j hj => ?_⟩
    · rcases Nat.lt_or_ge b W.heap.size with hb | hb
      · exact hb
      · have := hc 0 (by omega)
        simp [World.cell?, Array.getElem?_eq_none hb] at this
    · rw [hc j (by omega), List.getElem?_take, if_pos hj, List.getD_eq_getElem?_getD]
theorem cellsRow : Try.prog.cellsOf 22 = 1 := by kernel_rfl
theorem cells_one {W : World} {a : Addr} {cs : List Value} (h : W.cells? 0 a 1 = some cs) : ∃ c0, cs = [c0] ∧ W.cell? a = some c0 := by
  have r1 : List.range 1 = [0] := rfl
  have a0 : a.add 0 = a := by simp [Addr.add]
  unfold World.cells? at h
  rw [if_pos (Nat.zero_le _), r1] at h
  cases h0 : W.cell? a with
  | none => simp [a0, h0] at h
  | some c0 =>
    simp [a0, h0] at h
    exact ⟨c0, h.symm, rfl⟩
/-- A slice of lists among the arguments. -/
theorem longrows_arg {H : Type} {enc : TypeId × Value → H} {W : World} {fuel : Nat} {v : Value} {x : DataW H × List MemPlace} (h : DataW.trod enc Try.prog W 0 (fun _ => true) true fuel 23 [v] = some x) :
    ∃ A n c css, v = .slice A n c ∧ n ≤ c ∧ RowsAt W W.heap.size A n css := by
  rcases Go.Deep.open_slice Try.underlying23 h with ⟨hcs, -⟩ | ⟨a, len, cap, m, n', D, Pl, hcs, -, hl, hm, hmm, -, hel⟩
  · obtain rfl : v = .slice none 0 0 := by simpa using hcs
    exact ⟨none, 0, 0, [], rfl, Nat.le_refl _, rfl, by omega, fun h => absurd h (by omega)⟩
  · obtain rfl : v = .slice (some a) len cap := by simpa using hcs
    have hmc : m = cap := by simpa using hmm
    have each : ∀ i, i < len → ∃ s : List Int, ∃ A' m' c', W.cell? (a.add i) = some (.slice A' m' c') ∧ IntsAt W W.heap.size A' m' s := by
      intro i hi
      obtain ⟨cs', h1, h2⟩ := hel i (by omega)
      rw [cellsRow, Nat.mul_one] at h1
      obtain ⟨c0, rfl, e0⟩ := cells_one h1
      obtain ⟨A', m', c', xs, rfl, -, hi'⟩ := longs_arg (v := c0) h2
      exact ⟨xs, A', m', c', e0, hi'⟩
    obtain ⟨fx, hfx⟩ := Go.Deep.choose_lt each
    refine ⟨some a, len, cap, (List.range len).map fx, rfl, hl, by simp, by simp only [maxLen] at hm; omega, fun h0 => ?_⟩
    obtain ⟨b, off, spot⟩ := a
    obtain ⟨A0, m0, c0, hc0, -⟩ := hfx 0 h0
    have hspot : spot = none := by simpa [Addr.add] using World.cell?_spot hc0
    subst hspot
    refine ⟨b, off, rfl, ?_, fun j s hs => ?_⟩
    · rcases Nat.lt_or_ge b W.heap.size with hb | hb
      · exact hb
      · simp [World.cell?, Addr.add, Array.getElem?_eq_none hb] at hc0
    · rw [List.getElem?_map] at hs
      rcases Nat.lt_or_ge j len with hj | hj
      · rw [List.getElem?_range hj] at hs
        obtain rfl : fx j = s := by simpa using hs
        obtain ⟨A', m', c', e0, hi'⟩ := hfx j hj
        rw [Go.WideShapes.add_plain] at e0
        exact ⟨A', m', c', e0, hi'⟩
      · rw [List.getElem?_eq_none (by simpa using hj)] at hs
        cases hs

/-! ### THE ROW's STEP -/
set_option maxRecDepth 100000 in
theorem lifted (os : Os) (started : os.Started) (H : Type) (enc : TypeId × Value → H) :
    ReturnsInHanded {} Try.checked os 15 .any (Rows.lagTimesSpec.pre6 enc Try.prog Try.f15 Rows.lagTimesRow.domain false) (Rows.lagTimesSpec.post enc Try.prog Try.f15 false true false false) := by
  refine returnsInHanded_of_change (C := Try.checked) own started (by kernel_rfl) Try.func15
    (ChangeSpec.witness6 (enc := enc) (C := Try.checked) false ⟨#[], #[.slice none 0 0, .slice none 0 0, .int .u8 0, .int .u8 0], []⟩ 8 (by kernel_rfl) (by kernel_rfl) (by kernel_rfl) (by kernel_rfl)) ?_
  intro W base args ds gs before hval0 hW hcnd _
  have hval : ∀ (j : Nat) t v, Try.f15.params[j]? = some t → args[j]? = some v → Value.okWide Try.prog W .any base t v := hval0
  have hW' := hW
  obtain ⟨p, q, hA0, hV, rfl, hfz, hnd⟩ := hW
  have hA : DataW.TrodAll enc Try.prog W 0 (fun _ => true) true Try.f15.params.toList args.toList ds p := hA0
  rw [Try.params15] at hA hval
  obtain ⟨v0, v1, v2, v3, d0, d1, d2, d3, p0, p1, p2, p3, rfl, rfl, rfl, h0, h1, h2, h3⟩ := trodAll_four hA
  obtain ⟨rfl, rfl⟩ := trodVars_none hV
  obtain ⟨A0, n0, c0, rfl⟩ := okWide_slice Try.underlying22 (hval 0 22 v0 rfl rfl)
  obtain ⟨A1, n1, c1, rfl⟩ := okWide_slice Try.underlying23 (hval 1 23 v1 rfl rfl)
  obtain ⟨x2, rfl, rfl, rfl, wx2⟩ := open_int Try.underlying5 (hval 2 5 v2 rfl rfl) h2
  obtain ⟨x3, rfl, rfl, rfl, wx3⟩ := open_int Try.underlying5 (hval 3 5 v3 rfl rfl) h3
  have h0k := h0
  have h1k := h1
  obtain ⟨f0, hf0⟩ := h0
  obtain ⟨f1, hf1⟩ := h1
  obtain ⟨A0', n0', c0', x0, e0, l0, i0⟩ := longs_arg hf0
  cases e0
  obtain ⟨A1', n1', c1', x1, e1, l1, i1⟩ := longrows_arg hf1
  cases e1
  clear hA0 hval0
  simp only [List.append_nil] at hW'
  have hlt0 : ∀ x ∈ p0, x.block < W.heap.size := fun x hx => by simpa using hW'.lt x (by simp [hx])
  have hlt1 : ∀ x ∈ p1, x.block < W.heap.size := fun x hx => by simpa using hW'.lt x (by simp [hx])
  have bd2 : 0 ≤ x2 ∧ x2 ≤ 255 := by have := bounds_u8 wx2; omega
  have bd3 : 0 ≤ x3 ∧ x3 ≤ 255 := by have := bounds_u8 wx3; omega
  refine (LagTimes_any W A0 A1 n0 c0 n1 c1 x0 x1 x2 x3 i0 i1 bd2 bd3).mono fun e W' ⟨he, hg⟩ => ?_
  subst he
  exact ⟨_, rfl, _, _, _, [], p0 ++ (p1 ++ ([] ++ [])), [], hW', trodAll_cons_mk (shut_bool Try.underlying4 _) trodAll_mk0,
    trodAll_mk4 (Below.trod laidOut (by kernel_rfl) (of_decide_eq_true (by kernel_rfl)) h0k hg hlt0) (Below.trod laidOut (by kernel_rfl) (of_decide_eq_true (by kernel_rfl)) h1k hg hlt1) (shut_int Try.underlying5 wx2) (shut_int Try.underlying5 wx3),
    rfl, hg.frame _, fun h => by cases h⟩

theorem over : Rows.lagTimesRow.holds Try.pinned (OpenSpec.ofChange Rows.lagTimesSpec) :=
  OpenClaim.holds_of_wide 15 Try.f15 rfl rfl rfl rfl rfl rfl rfl ⟨rfl, rfl, rfl, rfl, rfl⟩ rfl rfl rfl rfl rfl (by kernel_rfl) Try.func15 (by kernel_rfl)
    (of_decide_eq_true (by kernel_rfl)) (by unfold Func.isWrapper; first | (rw [if_pos (by decide +kernel)]; kernel_rfl) | (rw [if_neg (by decide +kernel)]; exact ⟨rfl, rfl⟩))
    (fun os started H enc _ => lifted os started H enc)

/-- The statement. -/
theorem proved : Rows.LagTimesSaid :=
  over
#print axioms proved
end Go.Proofs.Ytlgibckhkdggdaa.lagTimes
