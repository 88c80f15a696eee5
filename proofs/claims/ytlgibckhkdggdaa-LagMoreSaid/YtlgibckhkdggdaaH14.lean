/- Parts of a proof: RH RJ. -/
import Derived.Test.YtlgibckhkdggdaaH13

/- lag: the law's guards; LagCurves. -/
namespace Go.Proofs.Ytlgibckhkdggdaa
open Go.RowKit Go.Shelf

attribute [local go_sem] Oper.semAt_some

theorem great_any (w : World) (A : Option Addr) (n c : Nat) : Calls Try.prog 17 #[.slice A n c] w fun e w' => e = .returned (.bool (decide (12 < (n : Int)))) ∧ w' = w := by
  go_enter Try.func17, Try.ntmps17
  go_wp2
  go_ret
  exact ⟨by simp, rfl⟩
theorem far_any (w : World) (A : Option Addr) (n c : Nat) : Calls Try.prog 28 #[.slice A n c] w fun e w' => e = .returned (.bool (decide (70 < (n : Int)))) ∧ w' = w := by
  go_enter Try.func28, Try.ntmps28
  go_wp2
  go_ret
  exact ⟨by simp, rfl⟩
set_option maxHeartbeats 1000000 in
theorem wide_any (w : World) (B : Nat) (A : Option Addr) (n c : Nat) (css : List (List Int)) (hx : RowsAt w B A n css) : ∃ b, Calls Try.prog 18 #[.slice A n c] w fun e w' => e = .returned (.bool b) ∧ w' = w := by
  have hm := hx.2.1
  by_cases h6 : 6 < (n : Int)
  · refine ⟨true, ?_⟩
    go_enter Try.func18, Try.ntmps18
    go_wp2
    go_ret
    exact ⟨rfl, rfl⟩
  · by_cases hg : ∃ j, ∃ b off A' m c', j < n ∧ A = some ⟨b, off, none⟩ ∧ w.cell? ⟨b, off + j, none⟩ = some (.slice A' m c') ∧ 12 < (m : Int)
    · refine ⟨true, ?_⟩
      go_enter Try.func18, Try.ntmps18
      go_wp2
      go_loopg [3] n (fun g v3 wr => ∃ k : Nat, (k ≤ n ∧ g = n - k ∧ v3 = .int .i64 (k : Int)) ∧ Hid (wr = w) ∧ Hid (∀ j, j < k → ¬ ∃ b off A' m c', A = some ⟨b, off, none⟩ ∧ w.cell? ⟨b, off + j, none⟩ = some (.slice A' m c') ∧ 12 < (m : Int)))
      case atStart => exact ⟨0, ⟨by omega, rfl, rfl⟩, Lib.hid rfl, Lib.hid fun j h => by omega⟩
      case round =>
        obtain ⟨k, ⟨hk, rfl, rfl⟩, hw, hn⟩ := hrel
        have hww := hw.out
        subst hww
        have Hg := Lib.hid hg
        clear hg hw
        by_cases hlt : k < n
        · obtain ⟨b, off, cs, A', m, c', rfl, -, -, hcell, -⟩ := hx.at hlt
          have hwk : IntKind.i64.wrap ((k : Int) + 1) = (k : Int) + 1 := by rw [IntKind.wrap_i64]; omega
          by_cases h12 : 12 < (m : Int)
          · go_wp2_with (go_at_call 17; refine (great_any _ _ _ _).mono ?_; rintro e w' ⟨rfl, rfl⟩)
            go_ret
            exact ⟨rfl, rfl⟩
          · go_wp2_with (go_at_call 17; refine (great_any _ _ _ _).mono ?_; rintro e w' ⟨rfl, rfl⟩)
            go_roundg (n - (k + 1))
            case measure => omega
            case rel =>
              refine ⟨k + 1, ⟨by omega, rfl, by simp⟩, Lib.hid rfl, Lib.hid fun j hj => ?_⟩
              rcases Nat.lt_succ_iff_lt_or_eq.1 hj with h | rfl
              · exact hn.out j h
              · rintro ⟨b', off', A2, m2, c2, e, hc, h⟩
                cases e
                rw [hcell] at hc
                cases hc
                omega
        · exfalso
          obtain ⟨j, b, off, A', m, c', hj, h⟩ := Hg.out
          exact hn.out j (by omega) ⟨b, off, A', m, c', h⟩
    · refine ⟨false, ?_⟩
      go_enter Try.func18, Try.ntmps18
      go_wp2
      go_loopg [3] n (fun g v3 wr => ∃ k : Nat, (k ≤ n ∧ g = n - k ∧ v3 = .int .i64 (k : Int)) ∧ Hid (wr = w))
      case atStart => exact ⟨0, ⟨by omega, rfl, rfl⟩, Lib.hid rfl⟩
      case round =>
        obtain ⟨k, ⟨hk, rfl, rfl⟩, hw⟩ := hrel
        have hww := hw.out
        subst hww
        have Hg := Lib.hid hg
        clear hg hw
        by_cases hlt : k < n
        · obtain ⟨b, off, cs, A', m, c', rfl, -, -, hcell, -⟩ := hx.at hlt
          have hwk : IntKind.i64.wrap ((k : Int) + 1) = (k : Int) + 1 := by rw [IntKind.wrap_i64]; omega
          have h12 : ¬ 12 < (m : Int) := fun h => Hg.out ⟨k, b, off, A', m, c', hlt, rfl, hcell, h⟩
          go_wp2_with (go_at_call 17; refine (great_any _ _ _ _).mono ?_; rintro e w' ⟨rfl, rfl⟩)
          go_roundg (n - (k + 1))
          case measure => omega
          case rel => exact ⟨k + 1, ⟨by omega, rfl, by simp⟩, Lib.hid rfl⟩
        · go_wp2_with (fail)
          go_ret
          exact ⟨rfl, rfl⟩

set_option maxRecDepth 100000 in
set_option maxHeartbeats 16000000 in
theorem LagCurves_any (w : World) (A A2 : Option Addr) (n c n2 c2 : Nat) (xs : List Int) (css : List (List Int)) (t : Int) (comes : Bool) (hx : IntsAt w w.heap.size A n xs) (hy : RowsAt w w.heap.size A2 n2 css) :
    Calls Try.prog 3 #[.slice A n c, .slice A2 n2 c2, .int .i64 t, .bool comes] w fun e w' => e = .returned (.bool true) ∧ Below w.heap.size w w' := by
  have hm := hx.small
  have works : Calls Try.prog 19 #[] w fun e w' => e = .returned (.bool true) ∧ Below w.heap.size w w' := Works_any w
  by_cases hg : 12 < (n : Int)
  · go_enter Try.func3, Try.ntmps3
    go_wp2_with (go_at_call 17; refine (great_any _ _ _ _).mono ?_; rintro e w' ⟨rfl, rfl⟩)
    refine works.mono ?_
    rintro e w1 ⟨rfl, hb⟩
    go_wp2_with (fail)
    exact bodyPost_ret (results_tmp rfl _ _ _) rfl ⟨rfl, hb⟩
  obtain ⟨bw, hbw⟩ := wide_any w w.heap.size A2 n2 c2 css hy
  cases bw with
  | true =>
    go_enter Try.func3, Try.ntmps3
    go_wp2_with (go_at_call 17; refine (great_any _ _ _ _).mono ?_; rintro e w' ⟨rfl, rfl⟩)
    refine hbw.mono ?_
    rintro e w1 ⟨rfl, hw1⟩
    subst hw1
    go_wp2_with (fail)
    refine works.mono ?_
    rintro e w1 ⟨rfl, hb⟩
    go_wp2_with (fail)
    exact bodyPost_ret (results_tmp rfl _ _ _) rfl ⟨rfl, hb⟩
  | false =>
    have Hb := Lib.hid hbw
    clear works hbw
    go_enter Try.func3, Try.ntmps3
    go_wp2_with (go_at_call 17; refine (great_any _ _ _ _).mono ?_; rintro e w' ⟨rfl, rfl⟩)
    refine Hb.out.mono ?_
    rintro e w1 ⟨rfl, hw1⟩
    subst hw1
    go_wp2_with (fail)
    refine (Most_any w1 _ A n c xs t hx (Nat.le_refl _)).mono ?_
    rintro e w2 ⟨rfl, hb2⟩
    have B2 := hb2
    obtain ⟨m1, hm1⟩ : ∃ m, m = (mostR xs t).1 := ⟨_, rfl⟩
    obtain ⟨m2, hm2⟩ : ∃ m, m = (mostR xs t).2 := ⟨_, rfl⟩
    rw [← hm1, ← hm2]
    have Hm := Lib.hid (And.intro hm1 hm2)
    clear hm1 hm2 hb2
    go_wp2_with (fail)
    refine (rMost_any w2 _ A n c xs t (hx.below B2 (Nat.le_refl _)) B2.size).mono ?_
    rintro e w3 ⟨rfl, hb3⟩
    have B3 := B2.trans (hb3.mono B2.size)
    rw [← Hm.out.1, ← Hm.out.2]
    clear hb3 B2
    go_wp2_with (fail)
    refine (Least_any w3 _ A2 n2 c2 css t (hy.below B3 (Nat.le_refl _)) B3.size).mono ?_
    rintro e w4 ⟨rfl, hb4⟩
    have B4 := B3.trans (hb4.mono B3.size)
    obtain ⟨l1, hl1⟩ : ∃ m, m = (leastR css t).1 := ⟨_, rfl⟩
    obtain ⟨l2, hl2⟩ : ∃ m, m = (leastR css t).2 := ⟨_, rfl⟩
    rw [← hl1, ← hl2]
    have Hl := Lib.hid (And.intro hl1 hl2)
    clear hl1 hl2 hb4 B3
    go_wp2_with (fail)
    refine (rLeast_any w4 _ A2 n2 c2 css t (hy.below B4 (Nat.le_refl _)) B4.size).mono ?_
    rintro e w5 ⟨rfl, hb5⟩
    have B5 := B4.trans (hb5.mono B4.size)
    rw [← Hl.out.1, ← Hl.out.2]
    clear hb5 B4
    go_wp2_with (fail)
    refine (Rate_any w5 _ A n c xs comes (hx.below B5 (Nat.le_refl _)) B5.size).mono ?_
    rintro e w6 ⟨rfl, hb6⟩
    have B6 := B5.trans (hb6.mono B5.size)
    obtain ⟨⟨⟨r1, r2⟩, r3⟩, hr⟩ : ∃ r, r = rateR xs comes := ⟨_, rfl⟩
    have Hr := Lib.hid (hr.trans (rate_same xs comes))
    rw [← hr]
    unfold encR
    have q1 := RatAt.new w6 (r1, r2)
    have B7 := B6.alloc B6.size (.cells #[.int .i64 r1, .int .i64 r2] 32)
    obtain ⟨w7, hw7⟩ : ∃ W, W = w6.alloc (.cells #[.int .i64 r1, .int .i64 r2] 32) := ⟨_, rfl⟩
    rw [← hw7] at q1 B7
    clear hr hb6 B5 B6
    go_wp2_with (fail)
    rw [← hw7]
    clear hw7
    obtain ⟨b6, hb6⟩ : ∃ b, b = w6.heap.size := ⟨_, rfl⟩
    rw [← hb6] at q1 ⊢
    clear hb6
    refine (rRate_any w7 _ A n c xs comes (hx.below B7 (Nat.le_refl _)) B7.size).mono ?_
    rintro e w8 ⟨rfl, hb8⟩
    have B8 := B7.trans (hb8.mono B7.size)
    rw [← Hr.out]
    unfold encR
    have q2 := q1.below hb8 q1.lt
    have q3 := q2.alloc (.cells #[.int .i64 r1, .int .i64 r2] 32)
    have q4 := RatAt.new w8 (r1, r2)
    have B9 := B8.alloc B8.size (.cells #[.int .i64 r1, .int .i64 r2] 32)
    obtain ⟨w9, hw9⟩ : ∃ W, W = w8.alloc (.cells #[.int .i64 r1, .int .i64 r2] 32) := ⟨_, rfl⟩
    rw [← hw9] at q3 q4 B9
    clear q1 q2 hb8 B7 B8
    go_wp2_with (fail)
    rw [← hw9]
    clear hw9
    refine (checkCurve_any w9 _ A n c xs (hx.below B9 (Nat.le_refl _)) B9.size).mono ?_
    rintro e w10 ⟨rfl, hb10⟩
    have B10 := B9.trans (hb10.mono B9.size)
    have p3 := q3.below hb10 q3.lt
    have p4 := q4.below hb10 q4.lt
    obtain ⟨cf, hcf⟩ : ∃ m, m = curveF xs := ⟨_, rfl⟩
    rw [← hcf]
    clear q3 q4 hb10 B9
    go_wp2_with (fail)
    refine (rCheckCurve_any w10 _ A n c xs (hx.below B10 (Nat.le_refl _))).mono ?_
    rintro e w11 ⟨rfl, q, hq⟩
    have B11 : Below w1.heap.size w1 w11 := by rw [hq]; exact B10.trans (below_drewN _ _)
    have p3 : RatAt w11 b6 (r1, r2) := by rw [hq]; exact p3
    have p4 : RatAt w11 w8.heap.size (r1, r2) := by rw [hq]; exact p4
    rw [← hcf]
    clear hcf hq B10
    obtain ⟨k0, k1⟩ := p3.cells
    obtain ⟨k2, k3⟩ := p4.cells
    go_wp2_with (fail)
    refine (Works_any w11).mono ?_
    rintro e w12 ⟨rfl, hb12⟩
    have B12 := B11.trans (hb12.mono B11.size)
    clear k0 k1 k2 k3 p3 p4 hb12 B11
    go_wp2_with (fail)
    exact bodyPost_ret (results_tmp rfl _ _ _) rfl ⟨rfl, B12⟩
end Go.Proofs.Ytlgibckhkdggdaa

/- lag's reference: Came, Break. -/
namespace Go.Proofs.Ytlgibckhkdggdaa
open Go.RowKit Go.Shelf

attribute [local go_sem] Oper.semAt_some

def difP (ts : List Int) (j : Nat) : List Int := (List.range j).map (difF ts)
theorem difP_len (ts : List Int) (j : Nat) : (difP ts j).length = j := by simp [difP]
theorem difP_succ (ts : List Int) (j : Nat) : difP ts (j + 1) = difP ts j ++ [difF ts j] := by
  unfold difP
  rw [List.range_succ, List.map_append]
  rfl
theorem difL_dif (ts : List Int) (n : Nat) : difL ts n = difP ts n := by
  refine List.ext_getElem (by simp [difL, difR, difP]) fun i h1 h2 => ?_
  simp [difL, difR, difP]
  intro h
  simp [difP] at h2
  omega
theorem difP_congr {ts us : List Int} {n : Nat} (h : ∀ j, j ≤ n → ts[j]?.getD 0 = us[j]?.getD 0) : difP ts n = difP us n := by
  unfold difP
  refine List.map_congr_left fun j hj => ?_
  have := List.mem_range.1 hj
  unfold difF
  rw [h j (by omega), h (j + 1) (by omega)]
theorem own_lower {W : World} {B B' : Nat} {v : Value} {n : Nat} {xs : List Value} (h : W.ownsRow B 2 1 v n xs) (hb : B' ≤ B) : W.ownsRow B' 2 1 v n xs := by
  rcases h.2 with h2 | ⟨g, cap, cur, e, h1, hr⟩
  · exact ⟨h.1, .inl h2⟩
  · exact ⟨h.1, .inr ⟨g, cap, cur, e, by omega, hr⟩⟩
def RefCame (xs : List Int) (t : Int) (n0 : Nat) (w' : World) (e : Ending) : Prop :=
  (curveF xs ≠ 0 ∧ e = .returned (.tuple #[.slice none 0 0, .int .i64 (curveF xs)])) ∨ (curveF xs = 0 ∧ ¬ (0 ≤ t ∧ t ≤ 60) ∧ e = .returned (.tuple #[.slice none 0 0, .int .i64 3])) ∨
  (curveF xs = 0 ∧ ∃ (k : Nat) (v : Value), t = (k : Int) ∧ k ≤ 60 ∧ e = .returned (.tuple #[v, .int .i64 0]) ∧ w'.ownsRow n0 2 1 v k ((difL (mostL xs k) k).map (.int .i64)))
set_option maxRecDepth 100000 in
set_option maxHeartbeats 8000000 in
theorem rCame_any (w : World) (B : Nat) (A : Option Addr) (n c : Nat) (xs : List Int) (t : Int) (hx : IntsAt w B A n xs) (hB : B ≤ w.heap.size) :
    Calls Try.prog 32 #[.slice A n c, .int .i64 t] w fun e w' => RefCame xs t w.heap.size w' e ∧ Below w.heap.size w w' := by
  obtain ⟨i0, hi, hz0, hz1, hz2⟩ := info_parts infoI64
  have hm := hx.small
  go_enter Try.func32, Try.ntmps32
  go_wp2_with (fail)
  refine (rCheckCurve_any w B A n c xs (hx.below (Below.refl _ w) hB)).mono ?_
  rintro e w1 ⟨rfl, q, hq⟩
  have hb1 : Below w.heap.size w w1 := by rw [hq]; exact (Below.refl _ w).trans (below_drewN _ _)
  clear hq
  obtain ⟨r, hr⟩ : ∃ r, r = curveF xs := ⟨_, rfl⟩
  rw [← hr]
  by_cases h0 : r = 0
  case neg =>
    have hne : (r != 0) = true := by rw [bne_iff_ne]; exact h0
    have Hr := Lib.hid (And.intro hr h0)
    clear hr h0
    go_wp2_with (fail)
    refine (rCheckCurve_any w1 B A n c xs (hx.below (hb1) hB)).mono ?_
    rintro e wl ⟨rfl, q, hq⟩
    have hbl : Below w.heap.size w wl := by rw [hq]; exact hb1.trans (below_drewN _ _)
    clear hq
    rw [← Hr.out.1]
    go_wp2_with (fail)
    refine bodyPost_ret (results_two rfl _ _ (.slice none 0 0) (.int .i64 r) (by simp) (by simp)) rfl ⟨.inl ⟨?_, ?_⟩, hbl⟩
    · rw [← Hr.out.1]
      exact Hr.out.2
    · rw [← Hr.out.1]
  case pos =>
    subst h0
    have Hc := Lib.hid hr.symm
    clear hr
    by_cases ht1 : t < 0
    · have Ht := Lib.hid (show ¬ (0 ≤ t ∧ t ≤ 60) by omega)
      go_wp2_with (fail)
      exact bodyPost_ret (results_two rfl _ _ (.slice none 0 0) (.int .i64 3) (by simp) (by simp)) rfl ⟨.inr (.inl ⟨Hc.out, Ht.out, rfl⟩), hb1⟩
    by_cases ht2 : 60 < t
    · have Ht := Lib.hid (show ¬ (0 ≤ t ∧ t ≤ 60) by omega)
      go_wp2_with (fail)
      exact bodyPost_ret (results_two rfl _ _ (.slice none 0 0) (.int .i64 3) (by simp) (by simp)) rfl ⟨.inr (.inl ⟨Hc.out, Ht.out, rfl⟩), hb1⟩
    obtain ⟨k, rfl⟩ : ∃ k : Nat, t = (k : Int) := ⟨t.toNat, by omega⟩
    have hk : k ≤ 60 := by omega
    have hz1' := hb1.size
    have hvn := Lib.hid (nums_of Hc.out)
    go_wp2_with (fail)
    refine (rMosts_any w1 B A n c k xs (hx.below hb1 hB) (by omega) hvn.out (by omega)).mono ?_
    rintro e w2 ⟨v, rfl, hmost, hb2⟩
    obtain ⟨g, cap, rfl⟩ := ownsRow_succ hmost
    have hb3 := hb1.trans (hb2.mono hz1')
    have im := OwnZ.ints hmost (by omega)
    clear hb2 hb1 hz1' hmost
    have hz3 := hb3.size
    obtain ⟨K, hK⟩ : ∃ K, K = k + 1 := ⟨_, rfl⟩
    rw [← hK] at im ⊢
    have HK := Lib.hid hK
    clear hK
    go_wp2_with (fail)
    go_loopg [7, 8] k (fun g7 v7 v8 wr => ∃ j : Nat, (j ≤ k ∧ g7 = k - j ∧ v8 = .int .i64 ((j + 1 : Nat) : Int)) ∧ wr.ownsRow w2.heap.size 2 1 v7 j ((difP (sumsT xs k) j).map (.int .i64)) ∧ Below w2.heap.size w2 wr)
    case atStart => exact ⟨0, ⟨by omega, rfl, rfl⟩, World.ownsRow_nil _ _ _ _, Below.refl _ _⟩
    case round =>
      obtain ⟨j, ⟨hj, rfl, rfl⟩, hrow, hb⟩ := hrel
      have hsz := hb.size
      obtain ⟨J, hJ⟩ : ∃ J, J = j + 1 := ⟨_, rfl⟩
      rw [← hJ]
      by_cases hlt : j < k
      case neg =>
        obtain rfl : j = k := by omega
        have hJk : ¬ (J : Int) ≤ (j : Int) := by omega
        clear hJ
        go_wp2_with (fail)
        refine bodyPost_ret (results_two rfl _ _ _ (.int .i64 0) rfl (by simp)) rfl ⟨.inr (.inr ⟨Hc.out, j, _, rfl, hk, rfl, ?_⟩), hb3.trans (hb.mono hz3)⟩
        rw [difL_dif, show difP (mostL xs j) j = difP (sumsT xs j) j from difP_congr fun i hi => by
          unfold mostL
          rw [sumsT_get _ hi, sumsT_get _ hi, mst_few (curve_nums Hc.out).1 (curve_nums Hc.out).2.1]]
        exact own_lower hrow hz3
      case pos =>
        have hJk : (J : Int) ≤ (k : Int) := by omega
        have im' := im.below hb (Nat.le_refl _)
        obtain ⟨b1, o1, e1, -, c1⟩ := im'.cell (k := J) (by have := HK.out; omega)
        cases e1
        obtain ⟨b2, o2, e2, -, c2⟩ := im'.cell (k := j) (by have := HK.out; omega)
        cases e2
        rw [Nat.zero_add] at c1 c2
        have d1 := dif_bound hvn.out (show k ≤ 1000 by omega) j hlt
        have hdf : difF (sumsT xs k) j = (sumsT xs k)[J]?.getD 0 - (sumsT xs k)[j]?.getD 0 := by rw [hJ]; rfl
        obtain ⟨x1, hx1⟩ : ∃ x, x = (sumsT xs k)[J]?.getD 0 := ⟨_, rfl⟩
        obtain ⟨x2, hx2⟩ : ∃ x, x = (sumsT xs k)[j]?.getD 0 := ⟨_, rfl⟩
        obtain ⟨y, hy⟩ : ∃ y, y = difF (sumsT xs k) j := ⟨_, rfl⟩
        rw [← hx1] at c1 hdf
        rw [← hx2] at c2 hdf
        rw [← hy] at d1 hdf
        have w1 : IntKind.i64.wrap (x1 - x2) = y := by rw [← hdf, IntKind.wrap_i64]; omega
        have w2' : IntKind.i64.wrap ((J : Int) - 1) = (j : Int) := by rw [IntKind.wrap_i64]; omega
        have w3 : IntKind.i64.wrap ((J : Int) + 1) = ((J + 1 : Nat) : Int) := by rw [IntKind.wrap_i64]; omega
        have l1 : J < K := by have := HK.out; omega
        have l2 : j < K := by omega
        have Hy := Lib.hid (And.intro hy hJ)
        clear hx1 hx2 hy hdf d1 im' hJ
        go_wp2
        refine region_held_wp 1 (fun W' => W' = wr.drew) (fun i => [4, 9].contains i) (by kernel_rfl) ?_
        intro KR hKR
        have hS : wr.drew = wr.drew := rfl
        refine wpAnyHI_takeW (i := 0) (v := ?v0) (some 28) rfl rfl (by kernel_rfl) (by kernel_rfl) (by kernel_rfl) (by kernel_rfl) (fun _ _ _ h => h) (.inl ⟨by kernel_rfl, fun W' hS' => ?y0⟩) ?z0
        case y0 => go_simp; try exact rfl
        refine wpAnyHI_takeW (i := 1) (v := ?v1) (some 29) rfl rfl (by kernel_rfl) (by kernel_rfl) (by kernel_rfl) (by kernel_rfl) (fun _ _ _ h => h) (.inl ⟨by kernel_rfl, fun W' hS' => ?y1⟩) ?z1
        case y1 => go_simp; try exact rfl
        refine wpAnyHI_takeW (i := 2) (v := ?v2) (some 30) rfl rfl (by kernel_rfl) (by kernel_rfl) (by kernel_rfl) (by kernel_rfl) (fun _ _ _ h => h) (.inl ⟨by kernel_rfl, fun W' hS' => ?y2⟩) ?z2
        case y2 => go_simp; try exact rfl
        refine wpAnyHI_takeW (i := 3) (v := ?v3) (some 31) rfl rfl (by kernel_rfl) (by kernel_rfl) (by kernel_rfl) (by kernel_rfl) (fun _ _ _ h => h) (.inl ⟨by kernel_rfl, fun W' hS' => ?y3⟩) ?z3
        case y3 => go_simp; try exact rfl
        refine wpAnyHI_takeW (i := 5) (v := ?v5) (some 33) rfl rfl (by kernel_rfl) (by kernel_rfl) (by kernel_rfl) (by kernel_rfl) (fun _ _ _ h => h) (.inl ⟨by kernel_rfl, fun W' hS' => ?y5⟩) ?z5
        case y5 => go_simp; try exact rfl
        refine wpAnyHI_takeW (i := 6) (v := ?v6) (some 34) rfl rfl (by kernel_rfl) (by kernel_rfl) (by kernel_rfl) (by kernel_rfl) (fun _ _ _ h => h) (.inl ⟨by kernel_rfl, fun W' hS' => ?y6⟩) ?z6
        case y6 => go_simp; try exact rfl
        refine wpAnyHI_takeW (i := 7) (v := ?v7) (some 35) rfl rfl (by kernel_rfl) (by kernel_rfl) (by kernel_rfl) (by kernel_rfl) (fun _ _ _ h => h) (.inl ⟨by kernel_rfl, fun W' hS' => ?y7⟩) ?z7
        case y7 => go_simp; try exact rfl
        refine wpAnyHI_takeW (i := 8) (v := ?v8) (some 36) rfl rfl (by kernel_rfl) (by kernel_rfl) (by kernel_rfl) (by kernel_rfl) (fun _ _ _ h => h) (.inl ⟨by kernel_rfl, fun W' hS' => ?y8⟩) ?z8
        case y8 => go_simp; try exact rfl
        refine wpAnyHI_takeE (i := 4) (v := ?v4) (some 32) rfl rfl (by kernel_rfl) (by kernel_rfl) (by kernel_rfl) (by kernel_rfl) (by kernel_rfl) (fun _ _ _ h => h) hS (.inl ⟨by kernel_rfl, fun W' hS' => ?y4⟩) ?z4
        case y4 => subst hS'; go_simp; try exact rfl
        refine wpAnyHI_takeE (i := 9) (v := ?v9) (some 37) rfl rfl (by kernel_rfl) (by kernel_rfl) (by kernel_rfl) (by kernel_rfl) (by kernel_rfl) (fun _ _ _ h => h) hS (.inl ⟨by kernel_rfl, fun W' hS' => ?y9⟩) ?z9
        case y9 => subst hS'; go_simp; try exact rfl
        refine wpAnyHI_takeW (i := 10) (v := ?v10) (some 38) rfl rfl (by kernel_rfl) (by kernel_rfl) (by kernel_rfl) (by kernel_rfl) (fun _ _ _ h => h) (.inl ⟨by kernel_rfl, fun W' hS' => ?y10⟩) ?z10
        case y10 => go_simp; try exact rfl
        refine wpAnyHI_tail (k := 11) rfl rfl (by kernel_rfl) (by kernel_rfl) ?_
        simp only [List.drop_succ_cons, List.drop_zero]
        have hb' : Below w2.heap.size w2 wr.drew := hb.trans (below_drew _)
        have hrow' := World.ownsRow.drew hrow
        have hsz' : w2.heap.size ≤ wr.drew.heap.size := hsz
        clear hS c1 c2
        generalize wr.drew = W2 at hb' hrow' hsz' ⊢
        gi_wp2_with (gi_at_builtin; refine wpListIn_append_own_at (F := Fence.wide) (nF := 1) _ rfl _ _ 22 rfl w2.heap.size 2 i0 (.int .i64 0) 1 8 Try.underlying22 hi hz0 hz1 hz2 rfl (by decide) _ _ _ rfl (hrow'.alloc _) ⟨W2.heap.size, 0, none⟩ 1 1 [.int .i64 y] rfl rfl (cell_one_new _ _ _) (by simp [Value.oneCell']) (by simp only [maxLen]; omega) (by omega) (by simp; omega) ?_; intro v' w9 hown' hgrow _ hat)
        go_wp2
        go_roundg (k - (j + 1))
        case measure => omega
        case rel =>
          obtain ⟨hy, hJ⟩ := Hy.out
          refine ⟨j + 1, ⟨by omega, rfl, by rw [← hJ]; simp⟩, ?_, (hb'.alloc hsz' _).trans ((Below.refl _ _).grown hgrow (by simp; omega) (fun r e => (hrow'.lt r e).1))⟩
          rw [difP_succ, ← hy]
          simpa using hown'

/-! ### Break -/
theorem preS_drop (xs : List Int) (k : Nat) : ∀ l, preS (xs.drop k) l = preS xs (k + l) - preS xs k
  | 0 => by simp [preS]
  | l + 1 => by
    rw [preS, preS_drop xs k l, ← Nat.add_assoc, preS, List.getElem?_drop]
    omega
theorem brkAt_get {xs : List Int} {k l : Nat} (hl : l < xs.length + 1) : (fillR (xs.length + 1) (xs.drop k) (xs.length - k))[l]?.getD 0 = if l ≤ xs.length - k then preS xs (k + l) - preS xs k else 0 := by
  rw [fillR_get hl, preS_drop]
theorem brkAt_some {xs most : List Int} {k l : Nat} (hk : k < xs.length) (hl : l ≤ xs.length - k) (h : most[l]?.getD 0 < preS xs (k + l) - preS xs k) (h0 : (0 : Int) ≤ most[0]?.getD 0) (hall : ∀ j, 1 ≤ j → j < l → ¬ most[j]?.getD 0 < preS xs (k + j) - preS xs k) : brkAt xs most k = some l := by
  unfold brkAt
  refine overAt_some (by omega) (by rw [brkAt_get (by omega), if_pos hl]; exact h) fun j hj => ?_
  rw [brkAt_get (by omega), if_pos (by omega)]
  by_cases hj0 : j = 0
  · subst hj0
    simp
    omega
  · exact hall j (by omega) hj
theorem brkAt_none {xs most : List Int} {k : Nat} (h0 : ∀ j : Nat, (0 : Int) ≤ most[j]?.getD 0) (hall : ∀ j, 1 ≤ j → j ≤ xs.length - k → ¬ most[j]?.getD 0 < preS xs (k + j) - preS xs k) : brkAt xs most k = none := by
  unfold brkAt
  refine overAt_none fun j hj => ?_
  rw [brkAt_get hj]
  have := h0 j
  split
  · rename_i h
    by_cases hj0 : j = 0
    · subst hj0
      simp
      omega
    · exact hall j (by omega) h
  · omega
theorem brkN_some {xs most : List Int} : ∀ {m k f l : Nat}, k ≤ f → f < k + m → (∀ i, k ≤ i → i < f → brkAt xs most i = none) → brkAt xs most f = some l → brkN xs most k m = some (f, l)
  | 0, k, f, l, h1, h2, _, _ => by omega
  | m + 1, k, f, l, h1, h2, hn, hs => by
    by_cases hkf : k = f
    · subst hkf
      simp [brkN, hs]
    · simp [brkN, hn k (Nat.le_refl _) (by omega)]
      exact brkN_some (m := m) (by omega) (by omega) (fun i a b => hn i (by omega) b) hs
theorem brkN_none {xs most : List Int} : ∀ {m k : Nat}, (∀ i, k ≤ i → i < k + m → brkAt xs most i = none) → brkN xs most k m = none
  | 0, k, _ => rfl
  | m + 1, k, hn => by
    simp [brkN, hn k (Nat.le_refl _) (by omega)]
    exact brkN_none (m := m) fun i a b => hn i (by omega) (by omega)
theorem results_three {P : Program} {f : Func} (hr : f.results = #[.tmp 4, .tmp 5, .tmp 6]) (W : World) (tmps : Array Value) (a b c : Value) (h4 : tmps.getD 4 undef = a) (h5 : tmps.getD 5 undef = b) (h6 : tmps.getD 6 undef = c) :
    (results f tmps).run P W = .ok (.tuple #[a, b, c]) W := by
  simp only [Array.getD_eq_getD_getElem?] at h4 h5 h6
  simp [results, hr, go_sem, h4, h5, h6]
theorem mostL_get {xs : List Int} (h : curveF xs = 0) {k j : Nat} (hj : j ≤ k) : (mostL xs k)[j]?.getD 0 = mst xs j := by
  unfold mostL
  rw [sumsT_get _ hj, mst_few (curve_nums h).1 (curve_nums h).2.1]
theorem mostL_nonneg {xs : List Int} (h : curveF xs = 0) (k j : Nat) : 0 ≤ (mostL xs k)[j]?.getD 0 := by
  by_cases hj : j ≤ k
  · rw [mostL_get h hj]
    exact (mst_nonneg (nums_of h) j).1
  · rw [List.getElem?_eq_none (by unfold mostL; rw [sumsT_len]; omega)]
    simp
set_option maxRecDepth 100000 in
set_option maxHeartbeats 8000000 in
theorem rBreak_any (w : World) (B B2 : Nat) (A A2 : Option Addr) (n c m c2 : Nat) (xs ys : List Int) (hx : IntsAt w B A n xs) (hB : B ≤ w.heap.size) (hy : IntsAt w B2 A2 m ys) (hB2 : B2 ≤ w.heap.size) :
    Calls Try.prog 30 #[.slice A n c, .slice A2 m c2] w fun e w' => e = .returned (.tuple #[.int .i64 (breakR xs ys).1, .int .i64 (breakR xs ys).2.1, .int .i64 (breakR xs ys).2.2]) ∧ Below w.heap.size w w' := by
  have hm := hx.small
  have hm2 := hy.small
  have Hl := Lib.hid hy.len
  go_enter Try.func30, Try.ntmps30
  go_wp2_with (fail)
  refine (rCheckCurve_any w B A n c xs (hx.below (Below.refl _ w) hB)).mono ?_
  rintro e w1 ⟨rfl, q, hq⟩
  have hb1 : Below w.heap.size w w1 := by rw [hq]; exact (Below.refl _ w).trans (below_drewN _ _)
  clear hq
  obtain ⟨r, hr⟩ : ∃ r, r = curveF xs := ⟨_, rfl⟩
  rw [← hr]
  by_cases h0 : r = 0
  case neg =>
    have hne : (r != 0) = true := by rw [bne_iff_ne]; exact h0
    have Hr := Lib.hid (And.intro hr h0)
    clear hr h0
    go_wp2_with (fail)
    refine (rCheckCurve_any w1 B A n c xs (hx.below (hb1) hB)).mono ?_
    rintro e wl ⟨rfl, q, hq⟩
    have hbl : Below w.heap.size w wl := by rw [hq]; exact hb1.trans (below_drewN _ _)
    clear hq
    rw [← Hr.out.1]
    go_wp2_with (fail)
    refine bodyPost_ret (results_three rfl _ _ (.int .i64 0) (.int .i64 0) (.int .i64 r) (by simp) (by simp) (by simp)) rfl ⟨?_, hbl⟩
    have e : breakR xs ys = (0, 0, r) := by unfold breakR; rw [if_pos (by rw [← Hr.out.1]; exact Hr.out.2), Hr.out.1]
    rw [e]
  case pos =>
    subst h0
    have Hc := Lib.hid hr.symm
    clear hr
    go_wp2_with (fail)
    refine (rCheckRow_any w1 B2 A2 m c2 ys (hy.below (hb1) hB2)).mono ?_
    rintro e w2 ⟨rfl, q, hq⟩
    have hb2 : Below w.heap.size w w2 := by rw [hq]; exact (hb1).trans (below_drewN _ _)
    clear hq
    obtain ⟨r, hr⟩ : ∃ r, r = rowF ys := ⟨_, rfl⟩
    rw [← hr]
    by_cases h0 : r = 0
    case neg =>
      have hne : (r != 0) = true := by rw [bne_iff_ne]; exact h0
      have Hr := Lib.hid (And.intro hr h0)
      clear hr h0
      go_wp2_with (fail)
      refine (rCheckRow_any w2 B2 A2 m c2 ys (hy.below (hb2) hB2)).mono ?_
      rintro e wl ⟨rfl, q, hq⟩
      have hbl : Below w.heap.size w wl := by rw [hq]; exact hb2.trans (below_drewN _ _)
      clear hq
      rw [← Hr.out.1]
      go_wp2_with (fail)
      refine bodyPost_ret (results_three rfl _ _ (.int .i64 0) (.int .i64 0) (.int .i64 r) (by simp) (by simp) (by simp)) rfl ⟨?_, hbl⟩
      have e : breakR xs ys = (0, 0, r) := by unfold breakR; rw [if_neg (by rw [Hc.out]; simp), if_pos (by rw [← Hr.out.1]; exact Hr.out.2), Hr.out.1]
      rw [e]
    case pos =>
      subst h0
      have Ho := Lib.hid hr.symm
      clear hr
      have hz2' := hb2.size
      have hro := Lib.hid (row_of Ho.out)
      have hm60 : m ≤ 60 := by have := hro.out.1; have := Hl.out; omega
      go_wp2_with (fail)
      refine (rMosts_any w2 B A n c m xs (hx.below hb2 hB) (by omega) (nums_of Hc.out) (by omega)).mono ?_
      rintro e w3 ⟨v, rfl, hmost, hb3⟩
      obtain ⟨g, cap, rfl⟩ := ownsRow_succ hmost
      have im := OwnZ.ints hmost (by omega)
      have hb4 := hb2.trans (hb3.mono hz2')
      clear hb1 hb3 hmost
      have hz4 := hb4.size
      obtain ⟨K, hK⟩ : ∃ K, K = m + 1 := ⟨_, rfl⟩
      rw [← hK] at im ⊢
      have HK := Lib.hid hK
      clear hK
      go_wp2_with (fail)
      refine (rSums_any w3 B2 A2 m c2 ys (hy.below hb4 hB2) (by omega) (by omega) (fun j hj => by have := preS_bound hro.out j (by rw [Hl.out]; exact hj); omega)).mono ?_
      rintro e w4 ⟨v2, rfl, hsum, hb5⟩
      obtain ⟨A5, c5, rfl, -, is⟩ := OwnZ.row hsum (by rw [preL_len]; omega)
      rw [preL_len, ← HK.out] at is
      rw [preL_len, ← HK.out]
      have im := im.below hb5 (Nat.le_refl _)
      have hb6 := hb4.trans (hb5.mono hz4)
      obtain ⟨b5, o5, rfl, -, -⟩ := is.cell (k := 0) (by have := HK.out; omega)
      clear hb5 hb4 hsum
      have h0m := Lib.hid (fun j => mostL_nonneg Hc.out m j)
      go_wp2_with (fail)
      go_loopg [9] m (fun g9 v9 wr => ∃ k q : Nat, (k ≤ m ∧ g9 = m - k ∧ v9 = .int .i64 (k : Int)) ∧ Hid (wr = w4.drewN q) ∧ Hid (∀ i, i < k → brkAt ys (mostL xs m) i = none))
      case atStart => exact ⟨0, 0, ⟨by omega, rfl, rfl⟩, Lib.hid rfl, Lib.hid fun i h => by omega⟩
      case round =>
        obtain ⟨k, q, ⟨hk, rfl, rfl⟩, hq, hn⟩ := hrel
        obtain ⟨wo, hwo⟩ : ∃ wo, wo = wr := ⟨_, rfl⟩
        clear hwo
        by_cases hlt : k < m
        case neg =>
          obtain rfl : k = m := by omega
          have Hr := Lib.hid (show breakR xs ys = (0, 0, 5) by
            have : brkF ys (mostL xs ys.length) = none := by
              rw [Hl.out]
              unfold brkF
              exact brkN_none fun i _ h => hn.out i (by rw [Hl.out] at h; omega)
            unfold breakR
            rw [if_neg (by rw [Hc.out]; simp), if_neg (by rw [Ho.out]; simp), this])
          go_wp2_with (fail)
          refine bodyPost_ret (results_three rfl _ _ (.int .i64 0) (.int .i64 0) (.int .i64 5) (by simp) (by simp) (by simp)) rfl ⟨?_, by rw [hq.out]; exact hb6.trans (below_drewN _ _)⟩
          rw [Hr.out]
        case pos =>
          have hwk : IntKind.i64.wrap ((k : Int) + 1) = (k : Int) + 1 := by rw [IntKind.wrap_i64]; omega
          go_wp2_with (fail)
          go_loopg [10] (m - k) (fun g10 v10 wr => ∃ l q : Nat, (1 ≤ l ∧ k + l ≤ m + 1 ∧ g10 = m + 1 - k - l ∧ v10 = .int .i64 (l : Int)) ∧ Hid (wr = w4.drewN q) ∧ Hid (∀ j, 1 ≤ j → j < l → ¬ (mostL xs m)[j]?.getD 0 < preS ys (k + j) - preS ys k))
          case atStart => exact ⟨1, q, ⟨by omega, by omega, by omega, rfl⟩, hq, Lib.hid fun j a b => by omega⟩
          case round =>
            clear hq
            obtain ⟨l, q, ⟨hl1, hl2, rfl, rfl⟩, hq, hnl⟩ := hrel
            have hwl : IntKind.i64.wrap ((l : Int) + 1) = (l : Int) + 1 := by rw [IntKind.wrap_i64]; omega
            have hwkl : IntKind.i64.wrap ((k : Int) + (l : Int)) = ((k + l : Nat) : Int) := by rw [IntKind.wrap_i64]; omega
            by_cases hkl : ((k + l : Nat) : Int) ≤ (m : Int)
            case neg =>
              go_wp2_with (fail)
              go_roundg (m - (k + 1))
              case measure => omega
              case rel =>
                refine ⟨k + 1, q, ⟨by omega, rfl, by simp⟩, hq, Lib.hid fun i hi' => ?_⟩
                rcases Nat.lt_succ_iff_lt_or_eq.1 hi' with h | rfl
                · exact hn.out i h
                · exact brkAt_none h0m.out fun j a b => by have := hnl.out j a (by rw [Hl.out] at b; omega); omega
            case pos =>
              have im' : IntsAt wr w3.heap.size (some ⟨g, 0, none⟩) K (sumsT xs m) := by rw [hq.out]; exact im.drewN _
              have is' : IntsAt wr w4.heap.size (some ⟨b5, o5, none⟩) K (preL ys m) := by rw [hq.out]; exact is.drewN _
              obtain ⟨b1, o1, e1, -, c1⟩ := im'.cell (k := l) (by have := HK.out; omega)
              cases e1
              obtain ⟨b2, o2, e2, -, c2⟩ := is'.cell (k := k + l) (by have := HK.out; omega)
              cases e2
              obtain ⟨b3, o3, e3, -, c3⟩ := is'.cell (k := k) (by have := HK.out; omega)
              cases e3
              rw [sumsT_get xs (by omega), ← mostL_get Hc.out (show l ≤ m by omega), Nat.zero_add] at c1
              rw [preL_get (by omega)] at c2 c3
              have p1 := preS_bound hro.out (k + l) (by rw [Hl.out]; omega)
              have p2 := preS_bound hro.out k (by rw [Hl.out]; omega)
              have l1 : l < K := by have := HK.out; omega
              have l2 : k + l < K := by have := HK.out; omega
              have l3 : k < K := by have := HK.out; omega
              obtain ⟨kl, hkle⟩ : ∃ kl, kl = k + l := ⟨_, rfl⟩
              obtain ⟨x1, hx1⟩ : ∃ x, x = (mostL xs m)[l]?.getD 0 := ⟨_, rfl⟩
              obtain ⟨x2, hx2⟩ : ∃ x, x = preS ys (k + l) := ⟨_, rfl⟩
              obtain ⟨x3, hx3⟩ : ∃ x, x = preS ys k := ⟨_, rfl⟩
              rw [← hx1] at c1
              rw [← hx2] at c2 p1
              rw [← hx3] at c3 p2
              rw [← hkle] at c2 hwkl l2 hkl
              have w1 : IntKind.i64.wrap (x2 - x3) = x2 - x3 := by rw [IntKind.wrap_i64]; omega
              have Hx := Lib.hid (And.intro hx1 (And.intro hx2 (And.intro hx3 hkle)))
              clear hx1 hx2 hx3 hkle p1 p2 im' is'
              by_cases hov : x1 < x2 - x3
              · have Hov := Lib.hid hov
                have Hr := Lib.hid (show breakR xs ys = ((k : Int), (l : Int), 0) by
                  obtain ⟨e1, e2, e3, e4⟩ := Hx.out
                  have e5 : brkF ys (mostL xs ys.length) = some (k, l) := by
                    rw [Hl.out]
                    unfold brkF
                    refine brkN_some (Nat.zero_le _) (by rw [Hl.out]; omega) (fun i _ h => hn.out i h) ?_
                    exact brkAt_some (by rw [Hl.out]; exact hlt) (by rw [Hl.out]; omega) (by rw [← e1, ← e2, ← e3]; exact Hov.out) (h0m.out 0) fun j a b => by have := hnl.out j a b; omega
                  unfold breakR
                  rw [if_neg (by rw [Hc.out]; simp), if_neg (by rw [Ho.out]; simp), e5])
                go_wp2
                go_quiet (fail)
                go_wp2
                refine bodyPost_ret (results_three rfl _ _ (.int .i64 (k : Int)) (.int .i64 (l : Int)) (.int .i64 0) (by simp) (by simp) (by simp)) rfl ⟨?_, by rw [hq.out]; exact (hb6.trans (below_drewN _ _)).trans (below_drewN _ _)⟩
                rw [Hr.out]
              · have Hov := Lib.hid hov
                go_wp2
                go_quiet (fail)
                go_wp2
                go_roundg (m + 1 - k - (l + 1))
                case measure => have := Hx.out.2.2.2; omega
                case rel =>
                  refine ⟨l + 1, _, ⟨by omega, by have := Hx.out; omega, rfl, by simp⟩, Lib.hid (by rw [hq.out]; simp only [World.drewN_drewN]; rfl), Lib.hid fun j a b => ?_⟩
                  rcases Nat.lt_succ_iff_lt_or_eq.1 b with h | rfl
                  · have := hnl.out j a h
                    omega
                  · obtain ⟨e1, e2, e3, e4⟩ := Hx.out
                    rw [← e1, ← e2, ← e3]
                    exact Hov.out
end Go.Proofs.Ytlgibckhkdggdaa
