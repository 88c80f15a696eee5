/- LagChained answers true whatever the curve, the chain, the numbers of what comes and the number of turns; the arguments read behind the call as they did. No condition. -/
import Derived.Test.YtlgibckhkdggdaaH24
import Derived.Test.YtlgibckhkdggdaaRows
import Derived.WalkKit
import Derived.ProofKit
import Derived.OpenShut
import Derived.Carry
import Derived.Deep.Slices
import Derived.ChangeSame

/- lag: LagChained. -/
namespace Go.Proofs.Ytlgibckhkdggdaa
open Go.RowKit Go.Shelf

attribute [local go_sem] Oper.semAt_some

theorem mapR_rev (css : List (List Int)) : mapR (fun j => css[css.length - 1 - j]?.getD []) css.length = css.reverse := by
  unfold mapR
  apply List.ext_getElem (by simp)
  intro j h1 h2
  simp at h1
  rw [List.getElem_map, List.getElem_range, List.getElem_reverse, List.getElem?_eq_getElem (by omega)]
  rfl
theorem small_lvls {css : List (List Int)} (h : chainF css = 0) {n : Nat} (hn : n ≤ 1000) : Small (lvlR n css (css.length - 1) n) := by
  refine small_of fun j hj => ?_
  rw [lvlR_len] at hj
  rw [lvlR_get hj hj]
  have hk := chain_nums h
  have := lvl_bound hk.2.2 (css.length - 1) j (by omega)
  omega
theorem thr_laz {css : List (List Int)} {ys : List Int} (hch : chainF css = 0) (hf : Fit ys) : lazL (preL ys ys.length) (lvlR (ys.length + 1) css (css.length - 1) (ys.length + 1)) (ys.length + 1) = preL (thrL css ys css.length) ys.length := by
  have hn := chain_pos hch
  refine ints_ext (by rw [lazL_len, preL_len]) fun t ht => ?_
  rw [lazL_len] at ht
  rw [lazL_get ht, preL_get (by omega), lazF_min (by rw [lvlR_get (by omega) (by omega), lvl_zero])]
  have := thr_is (fun j hj => chain_curves hch hj) hf (css.length - 1) (by omega) t (by omega)
  rw [show css.length - 1 + 1 = css.length by omega] at this
  rw [this]
  refine minP_congr (Nat.zero_le _) fun p _ hp => ?_
  rw [preL_get (by omega), lvlR_get (by omega) (by omega)]
set_option maxRecDepth 100000 in
set_option maxHeartbeats 32000000 in
theorem LagChained_any (w : World) (A A2 A3 : Option Addr) (n c K c2 m c3 : Nat) (xs : List Int) (css : List (List Int)) (bs : List Int) (tu : Int) (hx : IntsAt w w.heap.size A n xs) (hy : RowsAt w w.heap.size A2 K css) (hz : U8At w w.heap.size A3 m bs) (hKc : K ≤ c2) (h2 : 0 ≤ tu ∧ tu ≤ 255) :
    Calls Try.prog 12 #[.slice A n c, .slice A2 K c2, .slice A3 m c3, .int .u8 tu] w fun e w' => e = .returned (.bool true) ∧ Below w.heap.size w w' := by
  obtain ⟨i0, hi, hz0, hz1, hz2⟩ := info_parts infoI64
  obtain ⟨i1, hj, hy0, hy1, hy2⟩ := info_parts infoRow
  have hm1 := hx.small
  have hm2 := hy.2.1
  have hm3 := hz.small
  have Hlx := Lib.hid hx.len
  have Hlk := Lib.hid hy.1
  have Hlz := Lib.hid hz.len
  obtain ⟨o2, rfl⟩ : ∃ o2 : Nat, tu = (o2 : Int) := ⟨tu.toNat, by omega⟩
  have t2 : (o2 : Int).tmod 201 = ((o2 % 201 : Nat) : Int) := (Int.ofNat_tmod o2 201).symm
  obtain ⟨k, hk⟩ : ∃ k, k = o2 % 201 := ⟨_, rfl⟩
  have hk200 : k ≤ 200 := by omega
  rw [← hk] at t2
  have u2 : IntKind.i64.wrap (o2 : Int) = (o2 : Int) := by rw [IntKind.wrap_i64]; omega
  have u4 : IntKind.i64.wrap (k : Int) = (k : Int) := by rw [IntKind.wrap_i64]; omega
  clear hk
  go_enter Try.func12, Try.ntmps12
  go_wp2_with (fail)
  refine (fine_any w _ A n c xs hx).mono ?_
  rintro e w1 ⟨rfl, B1⟩
  obtain ⟨bf, hbf⟩ : ∃ b, b = fineF xs := ⟨_, rfl⟩
  rw [← hbf]
  cases bf with
  | false =>
    clear hbf
    go_wp2_with (fail)
    refine (Works_any w1).mono ?_
    rintro e wl ⟨rfl, hb2⟩
    go_wp2_with (fail)
    exact bodyPost_ret (results_tmp rfl _ _ _) rfl ⟨rfl, B1.trans (hb2.mono B1.size)⟩
  | true =>
    have Hc := Lib.hid (show curveF xs = 0 by unfold fineF at hbf; exact of_decide_eq_true hbf.symm)
    clear hbf
    obtain ⟨bw, hbw⟩ := wide_any w1 w.heap.size A2 K c2 css (hy.below B1 (Nat.le_refl _))
    cases bw with
    | true =>
      go_wp2_with (fail)
      refine hbw.mono ?_
      rintro e w2 ⟨rfl, hw⟩
      subst hw
      clear hbw
      go_wp2_with (fail)
      refine (Works_any w2).mono ?_
      rintro e wl ⟨rfl, hb2⟩
      go_wp2_with (fail)
      exact bodyPost_ret (results_tmp rfl _ _ _) rfl ⟨rfl, B1.trans (hb2.mono B1.size)⟩
    | false =>
      go_wp2_with (fail)
      refine hbw.mono ?_
      rintro e w2 ⟨rfl, hw⟩
      subst hw
      clear hbw
      go_wp2_with (fail)
      refine (rCheckChain_any w2 _ A2 K c2 css (hy.below B1 (Nat.le_refl _))).mono ?_
      rintro e w3 ⟨rfl, q, hq⟩
      have B3 : Below w.heap.size w w3 := by rw [hq]; exact B1.trans (below_drewN _ _)
      clear hq B1
      obtain ⟨r, hr⟩ : ∃ r, r = chainF css := ⟨_, rfl⟩
      rw [← hr]
      by_cases h0 : r = 0
      case neg =>
        have hne : (r != 0) = true := by rw [bne_iff_ne]; exact h0
        clear hr h0
        go_wp2_with (fail)
        refine (Works_any w3).mono ?_
        rintro e wl ⟨rfl, hb2⟩
        go_wp2_with (fail)
        exact bodyPost_ret (results_tmp rfl _ _ _) rfl ⟨rfl, B3.trans (hb2.mono B3.size)⟩
      case pos =>
        subst h0
        have Hch := Lib.hid hr.symm
        clear hr
        by_cases h20 : 20 < (m : Int)
        · go_wp2_with (fail)
          refine (Works_any w3).mono ?_
          rintro e wl ⟨rfl, hb2⟩
          go_wp2_with (fail)
          exact bodyPost_ret (results_tmp rfl _ _ _) rfl ⟨rfl, B3.trans (hb2.mono B3.size)⟩
        have hm20 : m ≤ 20 := by omega
        have hn6 : 1 ≤ n ∧ n ≤ 6 := by have := curve_nums Hc.out; rw [Hlx.out] at this; exact ⟨this.1, this.2.1⟩
        have hK3 : 1 ≤ K ∧ K ≤ 3 := by have := chain_pos Hch.out; rw [Hlk.out] at this; exact this
        have hB3z := B3.size
        go_wp2_with (fail)
        go_loopg [9, 10] m (fun g' v9 v10 wr => ∃ t : Nat, (t ≤ m ∧ g' = m - t ∧ v10 = .int .i64 (t : Int)) ∧ wr.ownsRow w3.heap.size 2 1 v9 t ((mapL (fun i => bs[i]?.getD 0) t).map (.int .i64)) ∧ Below w3.heap.size w3 wr)
        case atStart => exact ⟨0, ⟨by omega, rfl, rfl⟩, World.ownsRow_nil _ _ _ _, Below.refl _ _⟩
        case round =>
          obtain ⟨t, ⟨ht, rfl, rfl⟩, hrow, hb⟩ := hrel
          have hsz := hb.size
          have hbw := B3.trans (hb.mono hB3z)
          by_cases hlt : t < m
          case pos =>
            obtain ⟨b2, o2', rfl, hb2l, c2', l0, l1⟩ := (hz.below hbw (Nat.le_refl _)).cell hlt
            obtain ⟨x, hx0⟩ : ∃ x, x = bs[t]?.getD 0 := ⟨_, rfl⟩
            rw [← hx0] at c2' l0 l1
            have u1 : IntKind.i64.wrap x = x := by rw [IntKind.wrap_i64]; omega
            have u2 : IntKind.i64.wrap ((t : Int) + 1) = (t : Int) + 1 := by rw [IntKind.wrap_i64]; omega
            have Hx := Lib.hid hx0
            have hb2w : b2 < wr.heap.size := by omega
            clear hx0 l0 l1
            go_wp2_with (at_builtin; refine wpList_append_own_at _ rfl _ _ 22 rfl w3.heap.size 2 i0 (.int .i64 0) 1 8 Try.underlying22 hi hz0 hz1 hz2 rfl (by decide) _ _ _ rfl (hrow.alloc _) ⟨wr.heap.size, 0, none⟩ 1 1 [.int .i64 x] rfl rfl (cell_one_new _ _ _) (by simp [Value.oneCell']) (by simp only [maxLen]; omega) (by omega) (by simp; omega) ?_; intro v9' wA hown9 hgrow9 _ hat9)
            go_roundg (m - (t + 1))
            case measure => omega
            case rel =>
              refine ⟨t + 1, ⟨by omega, rfl, by simp⟩, ?_, (hb.alloc hsz _).trans ((Below.refl _ _).grown hgrow9 (by simp; omega) (fun r e => (hrow.lt r e).1))⟩
              rw [mapL_succ, ← Hx.out, List.map_append]
              exact hown9
          case neg =>
            obtain rfl : t = m := by omega
            have hyb := hz.bound
            obtain ⟨A9, c9, rfl, hc9, i9⟩ := own_form hrow (by omega)
            rw [show mapL (fun i => bs[i]?.getD 0) t = bs by rw [← Hlz.out]; exact list_of bs] at i9
            have I9 := Lib.hid i9
            have hbz := hbw.size
            have hbr := bytes_row hyb (by rw [Hlz.out]; exact hm20)
            have Hfit := Lib.hid (show Fit bs from ⟨hbr, fun j hj => by have := preS_255 hyb j; rw [Hlz.out] at hj; omega⟩)
            have Hlaz := Lib.hid (thr_laz Hch.out Hfit.out)
            have Bwr := hbw
            clear hrow hb hsz i9 hyb hbr hlt ht hbw
            go_wp2_with (fail)
            refine (through_any wr _ A2 A9 K c2 t c9 css bs (hy.below Bwr (Nat.le_refl _)) hbz I9.out hc9 (fun j hj => chain_curves Hch.out hj) Hfit.out).mono ?_
            rintro e x1 ⟨⟨A11, c11, rfl, hc11, i11⟩, hb⟩
            have Bx1 := Bwr.trans (hb.mono hbz)
            have I9 := Lib.hid (ints_up I9.out hb)
            have I11 := Lib.hid i11
            have Hth := Lib.hid (thrL_fit (fun j hj => chain_curves Hch.out hj) Hfit.out K (by rw [Hlk.out]; exact Nat.le_refl _))
            have Htl := Lib.hid ((thrL_len css bs K).trans Hlz.out)
            clear hb Bwr hbz i11
            go_wp2_with (fail)
            refine (rSums_any x1 _ A9 t c9 bs I9.out (Nat.le_refl _) (by omega) (fun j hj => by have := preS_bound (row_of Hfit.out.1) j (by rw [Hlz.out]; exact hj); omega)).mono ?_
            rintro e x2 ⟨v13, rfl, hs, hb⟩
            obtain ⟨A13, c13, rfl, -, i13⟩ := OwnZ.row hs (by rw [preL_len]; omega)
            rw [preL_len] at i13 ⊢
            have Bx2 := Bx1.trans (hb.mono Bx1.size)
            have I9 := Lib.hid (ints_up I9.out hb)
            have I11 := Lib.hid (ints_up I11.out hb)
            have I13 := Lib.hid i13
            clear hs hb Bx1 i13
            obtain ⟨M, hM⟩ : ∃ M, M = t + 1 := ⟨_, rfl⟩
            rw [← hM] at I13 ⊢
            have HM := Lib.hid hM
            have hM21 : M ≤ 21 := by omega
            clear hM
            go_wp2_with (fail)
            refine (rLeasts_any x2 _ A2 K c2 t css (hy.below Bx2 (Nat.le_refl _)) Bx2.size (chain_nums Hch.out).2.2 hK3.1 (by omega) (by omega)).mono ?_
            rintro e x3 ⟨g5, hg5, rfl, z5, hb⟩
            have i14 := z5.ints (n := t + 1) (lvlR_len _ _ _ _) (by omega)
            rw [← HM.out] at i14 ⊢
            have Bx3 := Bx2.trans (hb.mono Bx2.size)
            have I11 := Lib.hid (ints_up I11.out hb)
            have I13 := Lib.hid (ints_up I13.out hb)
            have I14 := Lib.hid i14
            clear hb hg5 z5 Bx2 i14
            go_wp2_with (fail)
            refine (rLazy_any x3 _ _ A13 (some ⟨g5, 0, none⟩) M c13 M M (preL bs t) (lvlR M css (K - 1) M) I13.out (Nat.le_refl _) I14.out (Nat.le_refl _) (Nat.le_refl _) (by omega) (by have := small_pre (row_of Hfit.out.1); rw [Hlz.out] at this; exact this) (by have := small_lvls Hch.out (n := M) (by omega); rw [Hlk.out] at this; exact this)).mono ?_
            rintro e x4 ⟨v15, rfl, hs, hb⟩
            have hlz : lazL (preL bs t) (lvlR M css (K - 1) M) M = preL (thrL css bs K) t := by
              have := Hlaz.out
              rw [Hlz.out, Hlk.out, ← HM.out] at this
              exact this
            rw [hlz] at hs
            obtain ⟨A13', c13', rfl, -, i13⟩ := own_form hs (by omega)
            have Bx4 := Bx3.trans (hb.mono Bx3.size)
            have I11 := Lib.hid (ints_up I11.out hb)
            have I13 := Lib.hid i13
            clear hs hb Bx3 i13 hlz
            go_wp2_with (fail)
            refine (rSums_any x4 _ A11 t c11 (thrL css bs K) I11.out (Nat.le_refl _) (by omega) (fun j hj => by have := preS_bound (row_of Hth.out.1) j (by rw [Htl.out]; exact hj); omega)).mono ?_
            rintro e x5 ⟨v14, rfl, hs, hb⟩
            obtain ⟨A14, c14, rfl, -, i14⟩ := OwnZ.row hs (by rw [preL_len]; omega)
            rw [preL_len, ← HM.out] at i14 ⊢
            have Bx5 := Bx4.trans (hb.mono Bx4.size)
            have I13 := Lib.hid (ints_up I13.out hb)
            have I14 := Lib.hid i14
            clear hs hb Bx4 i14
            go_wp2_with (fail)
            refine (longs_any x5 _ _ A13' A14 M M c13' c14 _ _ I13.out I14.out).mono ?_
            rintro e x6 ⟨rfl, q, hq⟩
            have hb : Below x5.heap.size x5 x6 := by rw [hq]; exact below_drewN _ _
            have Bx6 := Bx5.trans (hb.mono Bx5.size)
            have Bx6z := Bx6.size
            rw [decide_eq_true rfl]
            clear hq hb Bx5
            have wK1 : IntKind.i64.wrap ((K : Int) - 1) = (K : Int) - 1 := by rw [IntKind.wrap_i64]; omega
            go_wp2_with (fail)
            go_loopg [15, 16] K (fun g' v15 v16 wr => ∃ (i : Nat) (vs : List Value) (x : Int), (i ≤ K ∧ g' = K - i ∧ v16 = .int .i64 x ∧ x = (K : Int) - 1 - (i : Int)) ∧ (wr.ownsRow x6.heap.size 22 1 v15 i vs ∧ RowsIn wr v15.ownBlock vs (mapR (fun j => css[K - 1 - j]?.getD []) i)) ∧ Below x6.heap.size x6 wr)
            case atStart => exact ⟨0, [], (K : Int) - 1, ⟨by omega, rfl, rfl, by omega⟩, ⟨World.ownsRow_nil _ _ _ _, RowsIn.nil⟩, Below.refl _ _⟩
            case round =>
              obtain ⟨i, vs, x, ⟨hi', rfl, rfl, hxe⟩, ⟨hown, hrows⟩, hb⟩ := hrel
              obtain ⟨wo, rfl⟩ : ∃ wo, wo = wr := ⟨_, rfl⟩
              have Bwo := Bx6.trans (hb.mono Bx6z)
              have hbz := hb.size
              have hwz := Bwo.size
              by_cases hlt : i < K
              case pos =>
                obtain ⟨d, rfl⟩ : ∃ d : Nat, x = (d : Int) := ⟨x.toNat, by omega⟩
                have hdK : d < K := by omega
                have hd : d = K - 1 - i := by omega
                have wd : IntKind.i64.wrap ((d : Int) - 1) = (d : Int) - 1 := by rw [IntKind.wrap_i64]; omega
                obtain ⟨b2, o2', cs, A6, m6, c6, rfl, hb2, hcs, hcell, hci⟩ := (hy.below Bwo (Nat.le_refl _)).at hdK
                have hrin := ints_in (c := c6) hci hwz (fun g e => by have := (hown.lt g e).1; omega)
                have Hnx := Lib.hid (show mapR (fun j => css[K - 1 - j]?.getD []) (i + 1) = mapR (fun j => css[K - 1 - j]?.getD []) i ++ [cs] by rw [mapR_succ, ← hd, hcs]; rfl)
                have Hd := Lib.hid (And.intro hd hxe)
                clear hci hcs hd hxe
                go_wp2_with (at_builtin; refine wpList_append_own_at _ rfl _ _ 23 rfl x6.heap.size 22 i1 (.slice none 0 0) 1 24 Try.underlying23 hj hy0 hy1 hy2 rfl (by decide) _ _ _ rfl (hown.alloc _) ⟨wo.heap.size, 0, none⟩ 1 1 [.slice A6 m6 c6] rfl rfl (cell_one_new _ _ _) (by simp [Value.oneCell']) (by simp only [maxLen]; omega) (by omega) (by simp; omega) ?_; intro v' wA hownA hgrow _ hat)
                go_roundg (K - (i + 1))
                case measure => omega
                case rel =>
                  refine ⟨i + 1, _, (d : Int) - 1, ⟨by omega, rfl, rfl, by have := Hd.out.2; omega⟩, ⟨hownA, ?_⟩, (hb.alloc hbz _).trans ((Below.refl _ _).grown hgrow (by simp; omega) (fun r e => (hown.lt r e).1))⟩
                  rw [Hnx.out]
                  exact (hrows.alloc _).push (hrin.alloc _) hgrow hat
              case neg =>
                obtain rfl : i = K := by omega
                obtain rfl : x = -1 := by omega
                obtain ⟨A8, c8, rfl, hc8, r8⟩ := rows_own hown hrows (by omega)
                rw [show mapR (fun j => css[i - 1 - j]?.getD []) i = css.reverse by rw [← Hlk.out]; exact mapR_rev css] at r8
                have R8 := Lib.hid r8
                obtain ⟨K, rfl⟩ : ∃ K, K = i := ⟨_, rfl⟩
                clear hown hrows hb hbz hi' hlt r8 hxe hwz
                go_wp2_with (fail)
                refine (Least_any wo _ A2 _ c2 css ((k : Nat) : Int) (hy.below Bwo (Nat.le_refl _)) Bwo.size).mono ?_
                rintro e v1 ⟨rfl, hb⟩
                rw [least_at Hch.out hk200]
                have Bv1 := Bwo.trans (hb.mono Bwo.size)
                have R8 := Lib.hid (rows_up R8.out hb)
                clear hb Bwo
                have hbd := lvl_fits Hch.out hk200
                obtain ⟨a, ha⟩ : ∃ a, a = lvl css (css.length - 1) k := ⟨_, rfl⟩
                rw [← ha] at hbd ⊢
                have Ha := Lib.hid ha
                clear ha hbd
                go_wp2_with (fail)
                refine (Least_any v1 _ A8 _ c8 css.reverse ((k : Nat) : Int) R8.out (Nat.le_refl _)).mono ?_
                rintro e v2 ⟨rfl, hb⟩
                rw [least_rev Hch.out, least_at Hch.out hk200, ← Ha.out]
                have Bv2 := Bv1.trans (hb.mono Bv1.size)
                have R8 := Lib.hid (rows_up R8.out hb)
                clear hb Bv1
                have Hwr := Lib.hid (wait_rev Hc.out Hch.out)
                obtain ⟨bq, hbq⟩ := best_exists (nums_of Hc.out).1
                have hase := (asked_zero Hc.out Hch.out hbq).1
                clear hbq
                rcases hase with h0 | h18
                · have Ha0 := Lib.hid h0
                  obtain ⟨wv, hwv, hw1, hw2⟩ := wait_fits h0
                  obtain ⟨L, hL, hL20⟩ := late_fits h0
                  have Hwv := Lib.hid hwv
                  have HL := Lib.hid hL
                  clear h0 hwv hL
                  go_wp2_with (fail)
                  refine (Wait_any v2 _ _ A A2 _ c _ c2 xs css (hx.below Bv2 (Nat.le_refl _)) Bv2.size (hy.below Bv2 (Nat.le_refl _)) Bv2.size).mono ?_
                  rintro e v3 ⟨rfl, hb⟩
                  rw [Hwv.out]
                  have Bv3 := Bv2.trans (hb.mono Bv2.size)
                  have R8 := Lib.hid (rows_up R8.out hb)
                  clear hb Bv2
                  go_wp2_with (fail)
                  refine (Wait_any v3 _ _ A A8 _ c _ c8 xs css.reverse (hx.below Bv3 (Nat.le_refl _)) Bv3.size R8.out (Nat.le_refl _)).mono ?_
                  rintro e v4 ⟨rfl, hb⟩
                  rw [Hwr.out.1, Hwv.out]
                  have Bv4 := Bv3.trans (hb.mono Bv3.size)
                  have R8 := Lib.hid (rows_up R8.out hb)
                  clear hb Bv3
                  go_wp2_with (fail)
                  refine (Late_any v4 _ _ A A2 _ c _ c2 xs css (hx.below Bv4 (Nat.le_refl _)) Bv4.size (hy.below Bv4 (Nat.le_refl _)) Bv4.size).mono ?_
                  rintro e v5 ⟨rfl, hb⟩
                  rw [HL.out]
                  have Bv5 := Bv4.trans (hb.mono Bv4.size)
                  have R8 := Lib.hid (rows_up R8.out hb)
                  clear hb Bv4
                  go_wp2_with (fail)
                  refine (Late_any v5 _ _ A A8 _ c _ c8 xs css.reverse (hx.below Bv5 (Nat.le_refl _)) Bv5.size R8.out (Nat.le_refl _)).mono ?_
                  rintro e v6 ⟨rfl, hb⟩
                  rw [Hwr.out.2, HL.out]
                  have Bv6 := Bv5.trans (hb.mono Bv5.size)
                  clear hb Bv5
                  by_cases hk2 : (K : Int) < 2
                  case pos =>
                    go_wp2_with (fail)
                    refine (Works_any v6).mono ?_
                    rintro e wl ⟨rfl, hb2⟩
                    go_wp2_with (fail)
                    exact bodyPost_ret (results_tmp rfl _ _ _) rfl ⟨rfl, Bv6.trans (hb2.mono Bv6.size)⟩
                  case neg =>
                    have hK2 : 2 ≤ K := by omega
                    have Hf0 := Lib.hid (asked_first Ha0.out)
                    obtain ⟨L1, hL1, hL120⟩ := late_fits Hf0.out
                    have HL1 := Lib.hid hL1
                    obtain ⟨b2, o2, cs2, A6, m6, c6, rfl, hb2, hcs2, hcell2, hci2⟩ := hy.at (j := 0) (by omega)
                    have Ht1 := Lib.hid (show css.take 1 = [css[0]?.getD []] by
                      rw [hcs2]
                      match css, hcs2 with
                      | d :: l, h => simp at h; subst h; rfl)
                    have hy1 : RowsAt w w.heap.size (some ⟨b2, o2, none⟩) 1 [css[0]?.getD []] := by have := hy.take (k := 1) (by omega); rw [Ht1.out] at this; exact this
                    have hyd : RowsAt w w.heap.size (some ⟨b2, o2 + 1, none⟩) (K - 1) (css.drop 1) := hy.drop 1
                    have HY1 := Lib.hid hy1
                    have HYD := Lib.hid hyd
                    have hc21 : 1 ≤ c2 := by omega
                    have hKc : K ≤ c2 := by omega
                    have hKI : (1 : Int) ≤ (K : Int) := by omega
                    have hKN : 1 ≤ K := by omega
                    clear hL1 hcs2 hcell2 hci2 hy1 hyd
                    go_wp2_with (fail)
                    refine (Late_any v6 _ _ A (some ⟨b2, o2, none⟩) _ c 1 c2 xs [css[0]?.getD []] (hx.below Bv6 (Nat.le_refl _)) Bv6.size (HY1.out.below Bv6 (Nat.le_refl _)) Bv6.size).mono ?_
                    rintro e v7 ⟨rfl, hb⟩
                    rw [HL1.out]
                    have Bv7 := Bv6.trans (hb.mono Bv6.size)
                    clear hb Bv6
                    go_wp2_with (fail)
                    refine (Behind_any v7 _ _ A (some ⟨b2, o2, none⟩) _ c 1 c2 xs [css[0]?.getD []] (hx.below Bv7 (Nat.le_refl _)) Bv7.size (HY1.out.below Bv7 (Nat.le_refl _)) Bv7.size).mono ?_
                    rintro e v8 ⟨hP, hb⟩
                    obtain ⟨g1, -, rfl, z1⟩ := beh_on hP Hf0.out
                    have Bv8 := Bv7.trans (hb.mono Bv7.size)
                    obtain ⟨next, hnx⟩ : ∃ l, l = behR xs.length xs [css[0]?.getD []] xs.length := ⟨_, rfl⟩
                    have hnl : next.length = n := by rw [hnx, behR_len]; exact Hlx.out
                    have hng : ∀ j, j < xs.length → next[j]?.getD 0 = behF xs [css[0]?.getD []] (j + 1) := fun j hj => by rw [hnx]; exact behR_get hj
                    rw [← hnx] at z1
                    rw [Hlx.out]
                    have I31 := Lib.hid (z1.ints hnl (by omega))
                    have Hng := Lib.hid hng
                    have Hnl := Lib.hid hnl
                    clear hb hP Bv7 z1 hnx hng hnl
                    go_wp2_with (fail)
                    refine (rCheckCurve_any v8 _ (some ⟨g1, 0, none⟩) n n next I31.out).mono ?_
                    rintro e v9 ⟨rfl, q, hq⟩
                    have hb : Below v8.heap.size v8 v9 := by rw [hq]; exact below_drewN _ _
                    have Bv9 := Bv8.trans (hb.mono Bv8.size)
                    have I31 := Lib.hid (ints_up I31.out hb)
                    clear hq hb Bv8
                    obtain ⟨r, hr⟩ : ∃ r, r = curveF next := ⟨_, rfl⟩
                    rw [← hr]
                    by_cases h0 : r = 0
                    case neg =>
                      have hne : (r != 0) = true := by rw [bne_iff_ne]; exact h0
                      clear hr h0
                      go_wp2_with (fail)
                      refine (Works_any v9).mono ?_
                      rintro e wl ⟨rfl, hb2⟩
                      go_wp2_with (fail)
                      exact bodyPost_ret (results_tmp rfl _ _ _) rfl ⟨rfl, Bv9.trans (hb2.mono Bv9.size)⟩
                    case pos =>
                      subst h0
                      clear hr
                      go_wp2_with (fail)
                      refine (rAsked_any v9 _ _ (some ⟨g1, 0, none⟩) (some ⟨b2, o2 + 1, none⟩) n n (K - 1) (c2 - 1) next (css.drop 1) I31.out (Nat.le_refl _) (HYD.out.below Bv9 (Nat.le_refl _)) Bv9.size).mono ?_
                      rintro e v10 ⟨rfl, hb⟩
                      have Bv10 := Bv9.trans (hb.mono Bv9.size)
                      have I31 := Lib.hid (ints_up I31.out hb)
                      clear hb Bv9
                      obtain ⟨r, hr⟩ : ∃ r, r = askedR next (css.drop 1) := ⟨_, rfl⟩
                      rw [← hr]
                      by_cases h0 : r = 0
                      case neg =>
                        have hne : (r != 0) = true := by rw [bne_iff_ne]; exact h0
                        clear hr h0
                        go_wp2_with (fail)
                        refine (Works_any v10).mono ?_
                        rintro e wl ⟨rfl, hb2⟩
                        go_wp2_with (fail)
                        exact bodyPost_ret (results_tmp rfl _ _ _) rfl ⟨rfl, Bv10.trans (hb2.mono Bv10.size)⟩
                      case pos =>
                        subst h0
                        obtain ⟨L2, hL2, hL220⟩ := late_fits hr.symm
                        have hadd := late_add (by rw [Hlk.out]; exact hK2) Ha0.out (Hnl.out.trans Hlx.out.symm) Hng.out hr.symm Hf0.out
                        rw [HL.out, HL1.out, hL2] at hadd
                        have HL2 := Lib.hid hL2
                        have hle : (L : Int) ≤ (L1 : Int) + (L2 : Int) := hadd
                        have wll : IntKind.i64.wrap ((L1 : Int) + (L2 : Int)) = (L1 : Int) + (L2 : Int) := by rw [IntKind.wrap_i64]; omega
                        clear hL2 hadd hr
                        go_wp2_with (fail)
                        refine (Late_any v10 _ _ (some ⟨g1, 0, none⟩) (some ⟨b2, o2 + 1, none⟩) n n (K - 1) (c2 - 1) next (css.drop 1) I31.out (Nat.le_refl _) (HYD.out.below Bv10 (Nat.le_refl _)) Bv10.size).mono ?_
                        rintro e v11 ⟨rfl, hb⟩
                        rw [HL2.out]
                        have Bv11 := Bv10.trans (hb.mono Bv10.size)
                        clear hb Bv10
                        go_wp2_with (fail)
                        refine (Works_any v11).mono ?_
                        rintro e wl ⟨rfl, hb2⟩
                        go_wp2_with (fail)
                        exact bodyPost_ret (results_tmp rfl _ _ _) rfl ⟨rfl, Bv11.trans (hb2.mono Bv11.size)⟩
                · have Hoff := Lib.hid (wait_off h18)
                  clear h18
                  go_wp2_with (fail)
                  refine (Wait_any v2 _ _ A A2 _ c _ c2 xs css (hx.below Bv2 (Nat.le_refl _)) Bv2.size (hy.below Bv2 (Nat.le_refl _)) Bv2.size).mono ?_
                  rintro e v3 ⟨rfl, hb⟩
                  rw [Hoff.out.1]
                  have Bv3 := Bv2.trans (hb.mono Bv2.size)
                  have R8 := Lib.hid (rows_up R8.out hb)
                  clear hb Bv2
                  go_wp2_with (fail)
                  refine (Wait_any v3 _ _ A A8 _ c _ c8 xs css.reverse (hx.below Bv3 (Nat.le_refl _)) Bv3.size R8.out (Nat.le_refl _)).mono ?_
                  rintro e v4 ⟨rfl, hb⟩
                  rw [Hwr.out.1, Hoff.out.1]
                  have Bv4 := Bv3.trans (hb.mono Bv3.size)
                  have R8 := Lib.hid (rows_up R8.out hb)
                  clear hb Bv3
                  go_wp2_with (fail)
                  refine (Late_any v4 _ _ A A2 _ c _ c2 xs css (hx.below Bv4 (Nat.le_refl _)) Bv4.size (hy.below Bv4 (Nat.le_refl _)) Bv4.size).mono ?_
                  rintro e v5 ⟨rfl, hb⟩
                  rw [Hoff.out.2]
                  have Bv5 := Bv4.trans (hb.mono Bv4.size)
                  have R8 := Lib.hid (rows_up R8.out hb)
                  clear hb Bv4
                  go_wp2_with (fail)
                  refine (Late_any v5 _ _ A A8 _ c _ c8 xs css.reverse (hx.below Bv5 (Nat.le_refl _)) Bv5.size R8.out (Nat.le_refl _)).mono ?_
                  rintro e v6 ⟨rfl, hb⟩
                  rw [Hwr.out.2, Hoff.out.2]
                  have Bv6 := Bv5.trans (hb.mono Bv5.size)
                  clear hb Bv5
                  go_wp2_with (fail)
                  refine (Works_any v6).mono ?_
                  rintro e wl ⟨rfl, hb2⟩
                  go_wp2_with (fail)
                  exact bodyPost_ret (results_tmp rfl _ _ _) rfl ⟨rfl, Bv6.trans (hb2.mono Bv6.size)⟩
end Go.Proofs.Ytlgibckhkdggdaa

/- What a shaft adds of what another one adds least, added least, is up to each turn the least of what came and of the chain; the order of shafts changes nothing; the lateness of a chain is at most that of its first shaft and that of the others behind it. -/
namespace Go.Proofs.Ytlgibckhkdggdaa.lagChained
open Go.ChangeShapes Go.WideShapes Go.ChangeAt Go.RowKit

theorem own : ownKnob Try.prog.godebug = none := by kernel_rfl
theorem laidOut : laidOutB Try.prog = true := by kernel_rfl
theorem cellsI64 : Try.prog.cellsOf 2 = 1 := by kernel_rfl
/-- A slice of numbers among the arguments. -/
theorem longs_arg {H : Type} {enc : TypeId × Value → H} {W : World} {fuel : Nat} {v : Value} {x : DataW H × List MemPlace} (h : DataW.trod enc Try.prog W 0 (fun _ => true) true fuel 22 [v] = some x) :
    ∃ A n c xs, v = .slice A n c ∧ n ≤ c ∧ IntsAt W W.heap.size A n xs := by
  rcases open_ints Try.underlying22 Try.underlying2 cellsI64 h with ⟨hcs, -⟩ | ⟨a, n, c, zs, hcs, -, hl, hm, hz, -, hcell, -⟩
  · obtain rfl : v = .slice none 0 0 := by simpa using hcs
    exact ⟨none, 0, 0, [], rfl, Nat.le_refl _, IntsAt.nil⟩
  · obtain rfl : v = .slice (some a) n c := by simpa using hcs
    have hz : zs.length = c := by simpa using hz
    refine ⟨some a, n, c, zs.take n, rfl, hl, by rw [List.length_take]; omega, by simp only [maxLen] at hm; omega, fun h0 => ?_⟩
    obtain ⟨b, off, rfl, hc⟩ := Go.ints_at hcell (by omega)
    refine ⟨b, off, rfl, ?_, fun j hj => ?_⟩
    · rcases Nat.lt_or_ge b W.heap.size with hb | hb
      · exact hb
      · have := hc 0 (by omega)
        simp [World.cell?, Array.getElem?_eq_none hb] at this
    · rw [hc j (by omega), List.getElem?_take, if_pos hj, List.getD_eq_getElem?_getD]
theorem cellsRow : Try.prog.cellsOf 22 = 1 := by kernel_rfl
theorem cells_one {W : World} {a : Addr} {cs : List Value} (h : W.cells? 0 a 1 = some cs) : ∃ c0, cs = [c0] ∧ W.cell? a = some c0 := by
  have r1 : List.range 1 = [0] := rfl
  have a0 : a.add 0 = a := by simp [Addr.add]
  unfold World.cells? at h
  rw [if_pos (Nat.zero_le _), r1] at h
  cases h0 : W.cell? a with
  | none => simp [a0, h0] at h
  | some c0 =>
    simp [a0, h0] at h
    exact ⟨c0, h.symm, rfl⟩
/-- A slice of lists among the arguments. -/
theorem longrows_arg {H : Type} {enc : TypeId × Value → H} {W : World} {fuel : Nat} {v : Value} {x : DataW H × List MemPlace} (h : DataW.trod enc Try.prog W 0 (fun _ => true) true fuel 23 [v] = some x) :
    ∃ A n c css, v = .slice A n c ∧ n ≤ c ∧ RowsAt W W.heap.size A n css := by
  rcases Go.Deep.open_slice Try.underlying23 h with ⟨hcs, -⟩ | ⟨a, len, cap, m, n', D, Pl, hcs, -, hl, hm, hmm, -, hel⟩
  · obtain rfl : v = .slice none 0 0 := by simpa using hcs
    exact ⟨none, 0, 0, [], rfl, Nat.le_refl _, rfl, by omega, fun h => absurd h (by omega)⟩
  · obtain rfl : v = .slice (some a) len cap := by simpa using hcs
    have hmc : m = cap := by simpa using hmm
    have each : ∀ i, i < len → ∃ s : List Int, ∃ A' m' c', W.cell? (a.add i) = some (.slice A' m' c') ∧ IntsAt W W.heap.size A' m' s := by
      intro i hi
      obtain ⟨cs', h1, h2⟩ := hel i (by omega)
      rw [cellsRow, Nat.mul_one] at h1
      obtain ⟨c0, rfl, e0⟩ := cells_one h1
      obtain ⟨A', m', c', xs, rfl, -, hi'⟩ := longs_arg (v := c0) h2
      exact ⟨xs, A', m', c', e0, hi'⟩
    obtain ⟨fx, hfx⟩ := Go.Deep.choose_lt each
    refine ⟨some a, len, cap, (List.range len).map fx, rfl, hl, by simp, by simp only [maxLen] at hm; omega, fun h0 => ?_⟩
    obtain ⟨b, off, spot⟩ := a
    obtain ⟨A0, m0, c0, hc0, -⟩ := hfx 0 h0
    have hspot : spot = none := by simpa [Addr.add] using World.cell?_spot hc0
    subst hspot
    refine ⟨b, off, rfl, ?_, fun j s hs => ?_⟩
    · rcases Nat.lt_or_ge b W.heap.size with hb | hb
      · exact hb
      · simp [World.cell?, Addr.add, Array.getElem?_eq_none hb] at hc0
    · rw [List.getElem?_map] at hs
      rcases Nat.lt_or_ge j len with hj | hj
      · rw [List.getElem?_range hj] at hs
        obtain rfl : fx j = s := by simpa using hs
        obtain ⟨A', m', c', e0, hi'⟩ := hfx j hj
        rw [Go.WideShapes.add_plain] at e0
        exact ⟨A', m', c', e0, hi'⟩
      · rw [List.getElem?_eq_none (by simpa using hj)] at hs
        cases hs
theorem cellsByte : Try.prog.cellsOf 5 = 1 := by kernel_rfl
/-- A slice of bytes among the arguments. -/
theorem bytes_arg {H : Type} {enc : TypeId × Value → H} {W : World} {fuel : Nat} {v : Value} {x : DataW H × List MemPlace} (h : DataW.trod enc Try.prog W 0 (fun _ => true) true fuel 51 [v] = some x) :
    ∃ A n c xs, v = .slice A n c ∧ n ≤ c ∧ U8At W W.heap.size A n xs := by
  rcases open_ints Try.underlying51 Try.underlying5 cellsByte h with ⟨hcs, -⟩ | ⟨a, n, c, zs, hcs, -, hl, hm, hz, -, hcell, hwf⟩
  · obtain rfl : v = .slice none 0 0 := by simpa using hcs
    exact ⟨none, 0, 0, [], rfl, Nat.le_refl _, rfl, by omega, fun h => absurd h (by omega)⟩
  · obtain rfl : v = .slice (some a) n c := by simpa using hcs
    have hz : zs.length = c := by simpa using hz
    refine ⟨some a, n, c, zs.take n, rfl, hl, by rw [List.length_take]; omega, by simp only [maxLen] at hm; omega, fun h0 => ?_⟩
    obtain ⟨b, off, rfl, hc⟩ := Go.ints_at hcell (by omega)
    refine ⟨b, off, rfl, ?_, fun j hj => ⟨?_, ?_⟩⟩
    · rcases Nat.lt_or_ge b W.heap.size with hb | hb
      · exact hb
      · have := hc 0 (by omega)
        simp [World.cell?, Array.getElem?_eq_none hb] at this
    · rw [hc j (by omega), List.getElem?_take, if_pos hj, List.getD_eq_getElem?_getD]
    · rw [List.getElem?_take, if_pos hj]
      exact range_u8 hwf j

/-! ### THE ROW's STEP -/
set_option maxRecDepth 100000 in
theorem lifted (os : Os) (started : os.Started) (H : Type) (enc : TypeId × Value → H) :
    ReturnsInHanded {} Try.checked os 12 .any (Rows.lagChainedSpec.pre6 enc Try.prog Try.f12 Rows.lagChainedRow.domain false) (Rows.lagChainedSpec.post enc Try.prog Try.f12 false true false false) := by
  refine returnsInHanded_of_change (C := Try.checked) own started (by kernel_rfl) Try.func12
    (ChangeSpec.witness6 (enc := enc) (C := Try.checked) false ⟨#[], #[.slice none 0 0, .slice none 0 0, .slice none 0 0, .int .u8 0], []⟩ 8 (by kernel_rfl) (by kernel_rfl) (by kernel_rfl) (by kernel_rfl)) ?_
  intro W base args ds gs before hval0 hW hcnd _
  have hval : ∀ (j : Nat) t v, Try.f12.params[j]? = some t → args[j]? = some v → Value.okWide Try.prog W .any base t v := hval0
  have hW' := hW
  obtain ⟨p, q, hA0, hV, rfl, hfz, hnd⟩ := hW
  have hA : DataW.TrodAll enc Try.prog W 0 (fun _ => true) true Try.f12.params.toList args.toList ds p := hA0
  rw [Try.params12] at hA hval
  obtain ⟨v0, v1, v2, v3, d0, d1, d2, d3, p0, p1, p2, p3, rfl, rfl, rfl, h0, h1, h2, h3⟩ := trodAll_four hA
  obtain ⟨rfl, rfl⟩ := trodVars_none hV
  obtain ⟨A0, n0, c0, rfl⟩ := okWide_slice Try.underlying22 (hval 0 22 v0 rfl rfl)
  obtain ⟨A1, n1, c1, rfl⟩ := okWide_slice Try.underlying23 (hval 1 23 v1 rfl rfl)
  obtain ⟨A2, n2, c2, rfl⟩ := okWide_slice Try.underlying51 (hval 2 51 v2 rfl rfl)
  obtain ⟨x3, rfl, rfl, rfl, wx3⟩ := open_int Try.underlying5 (hval 3 5 v3 rfl rfl) h3
  have h0k := h0
  have h1k := h1
  have h2k := h2
  obtain ⟨f0, hf0⟩ := h0
  obtain ⟨f1, hf1⟩ := h1
  obtain ⟨f2, hf2⟩ := h2
  obtain ⟨A0', n0', c0', x0, e0, l0, i0⟩ := longs_arg hf0
  cases e0
  obtain ⟨A1', n1', c1', x1, e1, l1, i1⟩ := longrows_arg hf1
  cases e1
  obtain ⟨A2', n2', c2', x2, e2, l2, i2⟩ := bytes_arg hf2
  cases e2
  clear hA0 hval0
  simp only [List.append_nil] at hW'
  have hlt0 : ∀ x ∈ p0, x.block < W.heap.size := fun x hx => by simpa using hW'.lt x (by simp [hx])
  have hlt1 : ∀ x ∈ p1, x.block < W.heap.size := fun x hx => by simpa using hW'.lt x (by simp [hx])
  have hlt2 : ∀ x ∈ p2, x.block < W.heap.size := fun x hx => by simpa using hW'.lt x (by simp [hx])
  have bd3 : 0 ≤ x3 ∧ x3 ≤ 255 := by have := bounds_u8 wx3; omega
  refine (LagChained_any W A0 A1 A2 n0 c0 n1 c1 n2 c2 x0 x1 x2 x3 i0 i1 i2 l1 bd3).mono fun e W' ⟨he, hg⟩ => ?_
  subst he
  exact ⟨_, rfl, _, _, _, [], p0 ++ (p1 ++ (p2 ++ [])), [], hW', trodAll_cons_mk (shut_bool Try.underlying4 _) trodAll_mk0,
    trodAll_mk4 (Below.trod laidOut (by kernel_rfl) (of_decide_eq_true (by kernel_rfl)) h0k hg hlt0) (Below.trod laidOut (by kernel_rfl) (of_decide_eq_true (by kernel_rfl)) h1k hg hlt1) (Below.trod laidOut (by kernel_rfl) (of_decide_eq_true (by kernel_rfl)) h2k hg hlt2) (shut_int Try.underlying5 wx3),
    rfl, hg.frame _, fun h => by cases h⟩

theorem over : Rows.lagChainedRow.holds Try.pinned (OpenSpec.ofChange Rows.lagChainedSpec) :=
  OpenClaim.holds_of_wide 12 Try.f12 rfl rfl rfl rfl rfl rfl rfl ⟨rfl, rfl, rfl, rfl, rfl⟩ rfl rfl rfl rfl rfl (by kernel_rfl) Try.func12 (by kernel_rfl)
    (of_decide_eq_true (by kernel_rfl)) (by unfold Func.isWrapper; first | (rw [if_pos (by decide +kernel)]; kernel_rfl) | (rw [if_neg (by decide +kernel)]; exact ⟨rfl, rfl⟩))
    (fun os started H enc _ => lifted os started H enc)

/-- The statement. -/
theorem proved : Rows.LagChainedSaid :=
  over
#print axioms proved
end Go.Proofs.Ytlgibckhkdggdaa.lagChained
