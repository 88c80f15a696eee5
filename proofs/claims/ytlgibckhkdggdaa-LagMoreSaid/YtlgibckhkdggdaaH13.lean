/- Parts of a proof: RE RF RG. -/
import Derived.Test.YtlgibckhkdggdaaH12

/- lag's reference: Most, Least. -/
namespace Go.Proofs.Ytlgibckhkdggdaa
open Go.RowKit Go.Shelf

attribute [local go_sem] Oper.semAt_some

theorem ups_of {xs : List Int} (h : curveF xs = 0) : Ups xs := fun _ hi => sorted_at (curve_nums h).2.2.2 hi
theorem mostL_at {xs : List Int} (h : curveF xs = 0) (t : Nat) : (mostL xs t)[t]?.getD 0 = mst xs t := by
  obtain ⟨h1, h2, -, -⟩ := curve_nums h
  exact mst_few h1 h2 t
theorem results_two {P : Program} {f : Func} (hr : f.results = #[.tmp 4, .tmp 5]) (W : World) (tmps : Array Value) (a b : Value) (h4 : tmps.getD 4 undef = a) (h5 : tmps.getD 5 undef = b) :
    (results f tmps).run P W = .ok (.tuple #[a, b]) W := by
  simp only [Array.getD_eq_getD_getElem?] at h4 h5
  simp [results, hr, go_sem, h4, h5]

set_option maxRecDepth 100000 in
set_option maxHeartbeats 4000000 in
theorem rMost_any (w : World) (B : Nat) (A : Option Addr) (n c : Nat) (xs : List Int) (t : Int) (hx : IntsAt w B A n xs) (hB : B ≤ w.heap.size) :
    Calls Try.prog 21 #[.slice A n c, .int .i64 t] w fun e w' => e = .returned (.tuple #[.int .i64 (mostR xs t).1, .int .i64 (mostR xs t).2]) ∧ Below w.heap.size w w' := by
  have hm := hx.small
  have Hl := Lib.hid hx.len
  go_enter Try.func21, Try.ntmps21
  go_wp2_with (fail)
  refine (rCheckCurve_any w B A n c xs (hx.below (Below.refl _ w) hB)).mono ?_
  rintro e w1 ⟨rfl, q, hq⟩
  have hb1 : Below w.heap.size w w1 := by rw [hq]; exact (Below.refl _ w).trans (below_drewN _ _)
  clear hq
  obtain ⟨r, hr⟩ : ∃ r, r = curveF xs := ⟨_, rfl⟩
  rw [← hr]
  by_cases h0 : r = 0
  case neg =>
    have hne : (r != 0) = true := by rw [bne_iff_ne]; exact h0
    have Hr := Lib.hid (And.intro hr h0)
    clear hr h0
    go_wp2_with (fail)
    refine (rCheckCurve_any w1 B A n c xs (hx.below (hb1) hB)).mono ?_
    rintro e wl ⟨rfl, q, hq⟩
    have hbl : Below w.heap.size w wl := by rw [hq]; exact hb1.trans (below_drewN _ _)
    clear hq
    rw [← Hr.out.1]
    go_wp2_with (fail)
    refine bodyPost_ret (results_two rfl _ _ (.int .i64 0) (.int .i64 r) (by simp) (by simp)) rfl ⟨?_, hbl⟩
    have e : mostR xs t = (0, r) := by unfold mostR; rw [if_pos (by rw [← Hr.out.1]; exact Hr.out.2), Hr.out.1]
    rw [e]
  case pos =>
    subst h0
    have Hc := Lib.hid hr.symm
    clear hr
    by_cases ht1 : t < 0
    · have Hr := Lib.hid (show mostR xs t = (0, 3) by unfold mostR; rw [if_neg (by rw [Hc.out]; simp), if_pos (by omega)])
      go_wp2_with (fail)
      refine bodyPost_ret (results_two rfl _ _ (.int .i64 0) (.int .i64 3) (by simp) (by simp)) rfl ⟨?_, hb1⟩
      rw [Hr.out]
    by_cases ht2 : 200 < t
    · have Hr := Lib.hid (show mostR xs t = (0, 3) by unfold mostR; rw [if_neg (by rw [Hc.out]; simp), if_pos (by omega)])
      go_wp2_with (fail)
      refine bodyPost_ret (results_two rfl _ _ (.int .i64 0) (.int .i64 3) (by simp) (by simp)) rfl ⟨?_, hb1⟩
      rw [Hr.out]
    obtain ⟨k, rfl⟩ : ∃ k : Nat, t = (k : Int) := ⟨t.toNat, by omega⟩
    have hk : k ≤ 200 := by omega
    have hz1 := hb1.size
    have Hr := Lib.hid (show mostR xs (k : Int) = (mst xs k, 0) by unfold mostR; rw [if_neg (by rw [Hc.out]; simp), if_neg (by omega), Int.toNat_natCast, mostL_at Hc.out])
    go_wp2_with (fail)
    refine (rMosts_any w1 B A n c k xs (hx.below hb1 hB) (by omega) (nums_of Hc.out) (by omega)).mono ?_
    rintro e w2 ⟨v, rfl, hrow, hb2⟩
    obtain ⟨g, cap, rfl⟩ := ownsRow_succ hrow
    have hb3 := hb1.trans (hb2.mono hz1)
    obtain ⟨b', o', e, -, c0⟩ := (OwnZ.ints hrow (by omega)).cell (k := k) (by omega)
    cases e
    rw [sumsT_get xs (Nat.le_refl k), Nat.zero_add] at c0
    obtain ⟨y, hy⟩ : ∃ y, y = mst xs k := ⟨_, rfl⟩
    rw [← hy] at c0
    have Hy := Lib.hid hy
    obtain ⟨m, hm1⟩ : ∃ m, m = k + 1 := ⟨_, rfl⟩
    rw [← hm1]
    have hkm : k < m := by omega
    clear hy hrow hm1
    go_wp2_with (fail)
    refine bodyPost_ret (results_two rfl _ _ (.int .i64 y) (.int .i64 0) (by simp) (by simp)) rfl ⟨?_, hb3⟩
    rw [Hr.out, Hy.out]

set_option maxRecDepth 100000 in
set_option maxHeartbeats 4000000 in
theorem rLeast_any (w : World) (B : Nat) (A : Option Addr) (n c : Nat) (css : List (List Int)) (t : Int) (hx : RowsAt w B A n css) (hB : B ≤ w.heap.size) :
    Calls Try.prog 23 #[.slice A n c, .int .i64 t] w fun e w' => e = .returned (.tuple #[.int .i64 (leastR css t).1, .int .i64 (leastR css t).2]) ∧ Below w.heap.size w w' := by
  have hm := hx.2.1
  have Hl := Lib.hid hx.1
  go_enter Try.func23, Try.ntmps23
  go_wp2_with (fail)
  refine (rCheckChain_any w B A n c css (hx.below (Below.refl _ w) hB)).mono ?_
  rintro e w1 ⟨rfl, q, hq⟩
  have hb1 : Below w.heap.size w w1 := by rw [hq]; exact (Below.refl _ w).trans (below_drewN _ _)
  clear hq
  obtain ⟨r, hr⟩ : ∃ r, r = chainF css := ⟨_, rfl⟩
  rw [← hr]
  by_cases h0 : r = 0
  case neg =>
    have hne : (r != 0) = true := by rw [bne_iff_ne]; exact h0
    have Hr := Lib.hid (And.intro hr h0)
    clear hr h0
    go_wp2_with (fail)
    refine (rCheckChain_any w1 B A n c css (hx.below (hb1) hB)).mono ?_
    rintro e wl ⟨rfl, q, hq⟩
    have hbl : Below w.heap.size w wl := by rw [hq]; exact hb1.trans (below_drewN _ _)
    clear hq
    rw [← Hr.out.1]
    go_wp2_with (fail)
    refine bodyPost_ret (results_two rfl _ _ (.int .i64 0) (.int .i64 r) (by simp) (by simp)) rfl ⟨?_, hbl⟩
    have e : leastR css t = (0, r) := by unfold leastR; rw [if_pos (by rw [← Hr.out.1]; exact Hr.out.2), Hr.out.1]
    rw [e]
  case pos =>
    subst h0
    have Hc := Lib.hid hr.symm
    clear hr
    by_cases ht1 : t < 0
    · have Hr := Lib.hid (show leastR css t = (0, 3) by unfold leastR; rw [if_neg (by rw [Hc.out]; simp), if_pos (by omega)])
      go_wp2_with (fail)
      refine bodyPost_ret (results_two rfl _ _ (.int .i64 0) (.int .i64 3) (by simp) (by simp)) rfl ⟨?_, hb1⟩
      rw [Hr.out]
    by_cases ht2 : 200 < t
    · have Hr := Lib.hid (show leastR css t = (0, 3) by unfold leastR; rw [if_neg (by rw [Hc.out]; simp), if_pos (by omega)])
      go_wp2_with (fail)
      refine bodyPost_ret (results_two rfl _ _ (.int .i64 0) (.int .i64 3) (by simp) (by simp)) rfl ⟨?_, hb1⟩
      rw [Hr.out]
    obtain ⟨k, rfl⟩ : ∃ k : Nat, t = (k : Int) := ⟨t.toNat, by omega⟩
    have hk : k ≤ 200 := by omega
    have hz1 := hb1.size
    have Hr := Lib.hid (show leastR css (k : Int) = (lvl css (css.length - 1) k, 0) by unfold leastR; rw [if_neg (by rw [Hc.out]; simp), if_neg (by omega), Int.toNat_natCast])
    obtain ⟨hc1, hc3, hcn⟩ := chain_nums Hc.out
    have Hn := Lib.hid hcn
    rw [Hl.out] at hc1 hc3
    clear hcn
    go_wp2_with (fail)
    refine (rLeasts_any w1 B A n c k css (hx.below hb1 hB) (by omega) Hn.out hc1 (by omega) (by omega)).mono ?_
    rintro e w2 ⟨g, hg, rfl, hrow, hb2⟩
    have hb3 := hb1.trans (hb2.mono hz1)
    have c0 := hrow.cell (j := k) (by rw [lvlR_len]; omega)
    rw [lvlR_get (by omega) (by omega)] at c0
    obtain ⟨y, hy⟩ : ∃ y, y = lvl css (n - 1) k := ⟨_, rfl⟩
    rw [← hy] at c0
    have Hy := Lib.hid hy
    obtain ⟨m, hm1⟩ : ∃ m, m = k + 1 := ⟨_, rfl⟩
    rw [← hm1]
    have hkm : k < m := by omega
    clear hy hrow hm1
    go_wp2_with (fail)
    refine bodyPost_ret (results_two rfl _ _ (.int .i64 y) (.int .i64 0) (by simp) (by simp)) rfl ⟨?_, hb3⟩
    rw [Hr.out, Hy.out, Hl.out]
end Go.Proofs.Ytlgibckhkdggdaa

/- lag's reference: Fraction, Less, RateOf, Rate. -/
namespace Go.Proofs.Ytlgibckhkdggdaa
open Go.RowKit Go.Shelf

attribute [local go_sem] Oper.semAt_some

theorem rFraction_results (W : World) (tmps : Array Value) (b : Nat) (x : Int × Int) (h : RatAt W b x) (t : tmps.getD 4 undef = .pointer (some ⟨b, 0, none⟩)) :
    (results Try.f102 tmps).run Try.prog W = .ok (encR x) W := by
  obtain ⟨c0, c1⟩ := h.cells
  simp only [Array.getD_eq_getD_getElem?] at t
  unfold encR
  simp [results, Try.results102, go_sem, t, c0, c1]
set_option maxRecDepth 100000 in
set_option maxHeartbeats 4000000 in
theorem rFraction_any (w : World) (N D : Nat) (hN : N ≤ 1000000) (hD1 : 1 ≤ D) (hD : D ≤ 1000000) :
    Calls Try.prog 102 #[.int .i64 (N : Int), .int .i64 (D : Int)] w fun e w' => e = .returned (encR (ratR N D)) ∧ Below w.heap.size w w' := by
  obtain ⟨V, hV⟩ : ∃ V, V = w.alloc (.cells #[.int .i64 0, .int .i64 0] 32) := ⟨_, rfl⟩
  have hb0 : Below w.heap.size w V := by rw [hV]; exact (Below.refl _ w).alloc (Nat.le_refl _) _
  have x4 : RatAt V w.heap.size (0, 0) := by rw [hV]; exact RatAt.new w (0, 0)
  go_enter Try.func102, Try.ntmps102
  go_wp2_with (fail)
  rw [← hV]
  clear hV
  go_loopw [5, 6] (fun v5 v6 wr => ∃ a b q : Nat, (a ≤ 1000000 ∧ b ≤ 1000000) ∧ v5 = .int .i64 (a : Int) ∧ v6 = .int .i64 (b : Int) ∧ wr = V.drewN q ∧ Hid (Nat.gcd a b = Nat.gcd D N)) (fun _ v6 _ => (intOf v6).toNat)
  case atStart => exact ⟨N, D, 0, ⟨hN, hD⟩, rfl, rfl, rfl, Lib.hid (Nat.gcd_comm _ _)⟩
  case round =>
    obtain ⟨a, b, q, ⟨ha2, hb2⟩, rfl, rfl, rfl, hg⟩ := hrel
    have hbq : Below w.heap.size w (V.drewN q) := hb0.trans (below_drewN _ _)
    have y4 : RatAt (V.drewN q) w.heap.size (0, 0) := x4
    clear hb0 x4
    by_cases hb : b = 0
    · have hga : Nat.gcd D N = a := by rw [← hg.out, hb, Nat.gcd_zero_right]
      have ha1 : 1 ≤ a := by rw [← hga]; exact Nat.gcd_pos_of_pos_left _ hD1
      have hb' : ¬ (0 : Int) < (b : Int) := by omega
      have q1 : (N : Int).tdiv (a : Int) = ((N / a : Nat) : Int) := (Int.ofNat_tdiv N a).symm
      have q2 : (D : Int).tdiv (a : Int) = ((D / a : Nat) : Int) := (Int.ofNat_tdiv D a).symm
      have n1 := Nat.div_le_self N a
      have n2 := Nat.div_le_self D a
      obtain ⟨N', hN'⟩ : ∃ N', N' = N / a := ⟨_, rfl⟩
      obtain ⟨D', hD'⟩ : ∃ D', D' = D / a := ⟨_, rfl⟩
      rw [← hN'] at q1 n1
      rw [← hD'] at q2 n2
      have hr : ratR N D = ((N' : Int), (D' : Int)) := by unfold ratR; rw [hga, ← hN', ← hD']
      have Hr := Lib.hid hr
      clear hr hga hb hN' hD' hg
      have w1 : IntKind.i64.wrap (N' : Int) = (N' : Int) := by rw [IntKind.wrap_i64]; omega
      have w2 : IntKind.i64.wrap (D' : Int) = (D' : Int) := by rw [IntKind.wrap_i64]; omega
      have ha0 : ¬ a = 0 := by omega
      obtain ⟨W, hW⟩ : ∃ W, W = V.drewN q := ⟨_, rfl⟩
      rw [← hW] at y4 hbq ⊢
      clear hW
      go_wp2
      refine region_held_wp 1 (fun W' => W' = W.drew) (fun i => [].contains i) (by kernel_rfl) ?_
      intro KR hKR
      have hS : W.drew = W.drew := rfl
      refine wpAnyHI_takeW (i := 0) (v := ?v0) (some 15) rfl rfl (by kernel_rfl) (by kernel_rfl) (by kernel_rfl) (by kernel_rfl) (fun _ _ _ h => h) (.inl ⟨by kernel_rfl, fun W' hS' => ?y0⟩) ?z0
      case y0 => go_simp; try exact rfl
      refine wpAnyHI_takeW (i := 1) (v := ?v1) (some 16) rfl rfl (by kernel_rfl) (by kernel_rfl) (by kernel_rfl) (by kernel_rfl) (fun _ _ _ h => h) (.inl ⟨by kernel_rfl, fun W' hS' => ?y1⟩) ?z1
      case y1 => go_simp; try exact rfl
      refine wpAnyHI_takeW (i := 2) (v := ?v2) (some 17) rfl rfl (by kernel_rfl) (by kernel_rfl) (by kernel_rfl) (by kernel_rfl) (fun _ _ _ h => h) (.inl ⟨by kernel_rfl, fun W' hS' => ?y2⟩) ?z2
      case y2 => go_simp; try exact rfl
      refine wpAnyHI_takeW (i := 3) (v := ?v3) (some 18) rfl rfl (by kernel_rfl) (by kernel_rfl) (by kernel_rfl) (by kernel_rfl) (fun _ _ _ h => h) (.inl ⟨by kernel_rfl, fun W' hS' => ?y3⟩) ?z3
      case y3 => go_simp; try exact rfl
      refine wpAnyHI_takeW (i := 4) (v := ?v4) (some 19) rfl rfl (by kernel_rfl) (by kernel_rfl) (by kernel_rfl) (by kernel_rfl) (fun _ _ _ h => h) (.inl ⟨by kernel_rfl, fun W' hS' => ?y4⟩) ?z4
      case y4 => go_simp; try exact rfl
      refine wpAnyHI_takeW (i := 5) (v := ?v5) (some 20) rfl rfl (by kernel_rfl) (by kernel_rfl) (by kernel_rfl) (by kernel_rfl) (fun _ _ _ h => h) (.inl ⟨by kernel_rfl, fun W' hS' => ?y5⟩) ?z5
      case y5 => go_simp; try exact rfl
      have y4' : RatAt W.drew w.heap.size (0, 0) := y4
      have hbd : Below w.heap.size w W.drew := hbq.trans (below_drew W)
      obtain ⟨k0, k1⟩ := y4'.cells
      have f0 := y4'.frozen 0
      have f1 := y4'.frozen 1
      have fin := y4'.set ((N' : Int), (D' : Int))
      have hBf := (hbd.setCell (p := ⟨w.heap.size, 0, none⟩) (Nat.le_refl _) (.int .i64 (N' : Int))).setCell (p := ⟨w.heap.size, 1, none⟩) (Nat.le_refl _) (.int .i64 (D' : Int))
      clear y4 hbq y4' hbd hS
      generalize W.drew = W2 at k0 k1 f0 f1 fin hBf ⊢
      refine wpAnyHI_tail (k := 6) rfl rfl (by kernel_rfl) (by kernel_rfl) ?_
      simp only [List.drop_succ_cons, List.drop_zero]
      gi_wp2_with (fail)
      go_wp2_with (fail)
      exact bodyPost_ret (v := encR ((N' : Int), (D' : Int))) (rFraction_results _ _ w.heap.size _ fin (by simp)) rfl ⟨by rw [Hr.out], hBf⟩
    · have hb' : (0 : Int) < (b : Int) := by omega
      have hm : (a : Int).tmod (b : Int) = ((a % b : Nat) : Int) := (Int.ofNat_tmod a b).symm
      have hlt := Nat.mod_lt a (show 0 < b by omega)
      have hgg : Nat.gcd b (a % b) = Nat.gcd D N := by rw [← hg.out, Nat.gcd_comm, ← Nat.gcd_rec, Nat.gcd_comm]
      obtain ⟨r, hr⟩ : ∃ r, r = a % b := ⟨_, rfl⟩
      rw [← hr] at hm hlt hgg
      have Hg := Lib.hid hgg
      clear hr hgg hg
      have hb0 : ¬ (b : Int) = 0 := by omega
      go_wp2
      go_quiet (fail)
      go_wp2
      go_roundw
      case rel => exact ⟨b, r, _, ⟨by omega, by omega⟩, rfl, rfl, World.drewN_drewN _ _ _, Hg⟩
      case measure => simp [intOf]; omega
set_option maxHeartbeats 1000000 in
theorem rLess_any (W : World) (a b : Int × Int) : Calls Try.prog 89 #[encR a, encR b] W fun e W' => e = .returned (.bool (slowF a b)) ∧ Below W.heap.size W W' := by
  obtain ⟨a1, a2⟩ := a
  obtain ⟨b1, b2⟩ := b
  unfold encR
  have Hs := Lib.hid (show slowF (a1, a2) (b1, b2) = decide (IntKind.i64.wrap (a1 * b2) < IntKind.i64.wrap (b1 * a2)) from rfl)
  go_enter Try.func89, Try.ntmps89
  go_wp2
  go_ret
  exact ⟨ret_bool (by rw [Hs.out]; simp only [wrap64, IntKind.wrap_i64]), ((Below.refl _ W).alloc (Nat.le_refl _) _).alloc (by simp) _⟩
/-- The rate of the first numbers, with the last one. -/
def rateN (xs : List Int) : Nat → Int × Int
  | 0 => shaftRate xs
  | k + 1 => if slowF (ratR (xs[k]?.getD 0).toNat (k + 1)) (rateN xs k) then ratR (xs[k]?.getD 0).toNat (k + 1) else rateN xs k
theorem rRateOf_results (W : World) (tmps : Array Value) (b : Nat) (x : Int × Int) (h : RatAt W b x) (t : tmps.getD 4 undef = .pointer (some ⟨b, 0, none⟩)) :
    (results Try.f69 tmps).run Try.prog W = .ok (encR x) W := by
  obtain ⟨c0, c1⟩ := h.cells
  simp only [Array.getD_eq_getD_getElem?] at t
  unfold encR
  simp [results, Try.results69, go_sem, t, c0, c1]
/-- The rate, as the reference reckons it. -/
def rateOfR (xs : List Int) (comes : Bool) : Int × Int := if comes then rateN xs xs.length else shaftRate xs
set_option maxRecDepth 100000 in
set_option maxHeartbeats 8000000 in
theorem rRateOf_any (w : World) (B : Nat) (A : Option Addr) (n c : Nat) (xs : List Int) (comes : Bool) (hx : IntsAt w B A n xs) (hB : B ≤ w.heap.size) (hv : Nums xs) :
    Calls Try.prog 69 #[.slice A n c, .bool comes] w fun e w' => e = .returned (encR (rateOfR xs comes)) ∧ Below w.heap.size w w' := by
  have hl := hx.len
  have hn1 := hv.1
  have hn2 := hv.2.1
  have hla := hv.2.2 (n - 1) (by omega)
  rw [hl] at hn1 hn2
  have Hv := Lib.hid (And.intro hl hv)
  clear hv hl
  obtain ⟨V, hV⟩ : ∃ V, V = w.alloc (.cells #[.int .i64 0, .int .i64 0] 32) := ⟨_, rfl⟩
  have hb0 : Below w.heap.size w V := by rw [hV]; exact (Below.refl _ w).alloc (Nat.le_refl _) _
  have x4 : RatAt V w.heap.size (0, 0) := by rw [hV]; exact RatAt.new w (0, 0)
  obtain ⟨b, o, rfl, -, c1⟩ := (hx.below hb0 hB).cell (k := n - 1) (by omega)
  obtain ⟨n', hn'⟩ : ∃ n', n' = n - 1 := ⟨_, rfl⟩
  rw [← hn'] at c1 hla
  have hwn : IntKind.i64.wrap ((n : Int) - 1) = (n' : Int) := by rw [IntKind.wrap_i64]; omega
  have hlt : n' < n := by omega
  have Hn' := Lib.hid hn'
  clear hn'
  obtain ⟨L, hL⟩ : ∃ L : Nat, xs[n']?.getD 0 = (L : Int) := ⟨(xs[n']?.getD 0).toNat, by omega⟩
  rw [hL] at c1 hla
  have hsr : shaftRate xs = ratR L n := by
    unfold shaftRate
    rw [Hv.out.1, ← Hn'.out, hL, Int.toNat_natCast]
  have hbz := hb0.size
  rw [hV] at c1
  go_enter Try.func69, Try.ntmps69
  go_wp2_with (fail)
  rw [← hV]
  refine (rFraction_any V L n (by omega) hn1 (by omega)).mono ?_
  rintro e w1 ⟨rfl, hb1⟩
  rw [← hsr]
  have y4 := x4.below hb1 x4.lt
  have hb2 := hb0.trans (hb1.mono hb0.size)
  obtain ⟨⟨r1, r2⟩, hr⟩ : ∃ r, r = shaftRate xs := ⟨_, rfl⟩
  rw [← hr]
  have Hr := Lib.hid hr
  unfold encR
  have y5 := RatAt.new w1 (r1, r2)
  have z4 := y4.alloc (.cells #[.int .i64 r1, .int .i64 r2] 32)
  have hb3 := hb2.alloc hb2.size (.cells #[.int .i64 r1, .int .i64 r2] 32)
  obtain ⟨W, hW⟩ : ∃ W, W = w1.alloc (.cells #[.int .i64 r1, .int .i64 r2] 32) := ⟨_, rfl⟩
  rw [← hW] at y5 z4 hb3
  obtain ⟨b5, hb5⟩ : ∃ b5, b5 = w1.heap.size := ⟨_, rfl⟩
  have hb5w : w.heap.size < b5 := by rw [hb5]; exact y4.lt
  rw [← hb5] at y5
  clear hr hsr hV hb0 x4 hb1 y4 hb2 c1 hL hla hwn hlt
  go_wp2_with (fail)
  rw [← hW, ← hb5]
  clear hW hb5 hbz
  cases comes with
  | false =>
    have Hf := Lib.hid (show rateOfR xs false = (r1, r2) from Hr.out.symm)
    go_loopg [6] 0 (fun g v6 wr => (g = 0 ∧ v6 = .int .i64 0) ∧ RatAt wr b5 (r1, r2) ∧ RatAt wr w.heap.size (0, 0) ∧ Below w.heap.size w wr)
    case atStart => exact ⟨⟨rfl, rfl⟩, y5, z4, hb3⟩
    case round =>
      clear y5 z4 hb3
      obtain ⟨⟨rfl, rfl⟩, y5, z4, hb⟩ := hrel
      obtain ⟨k0, k1⟩ := y5.cells
      obtain ⟨m0, m1⟩ := z4.cells
      have f0 := z4.frozen 0
      have f1 := z4.frozen 1
      have fin := z4.set (r1, r2)
      have hBf := (hb.setCell (p := ⟨w.heap.size, 0, none⟩) (Nat.le_refl _) (.int .i64 r1)).setCell (p := ⟨w.heap.size, 1, none⟩) (Nat.le_refl _) (.int .i64 r2)
      have hn0 : (0 : Int) < (n : Int) := by omega
      clear y5 z4 hb
      go_wp2_with (fail)
      exact bodyPost_ret (v := encR (r1, r2)) (rRateOf_results _ _ w.heap.size _ fin (by simp)) rfl ⟨by rw [Hf.out], hBf⟩
  | true =>
    go_loopg [6] n (fun g v6 wr => ∃ k : Nat, (k ≤ n ∧ g = n - k ∧ v6 = .int .i64 (k : Int)) ∧ (∃ r1 r2 : Int, (r1, r2) = rateN xs k ∧ RatAt wr b5 (r1, r2)) ∧ RatAt wr w.heap.size (0, 0) ∧ Below w.heap.size w wr)
    case atStart => exact ⟨0, ⟨by omega, rfl, rfl⟩, ⟨r1, r2, Hr.out, y5⟩, z4, hb3⟩
    case round =>
      clear y5 z4 hb3
      obtain ⟨k, ⟨hk, rfl, rfl⟩, ⟨s1, s2, hs, y5⟩, z4, hb⟩ := hrel
      obtain ⟨k0, k1⟩ := y5.cells
      have hsz := hb.size
      by_cases hlt : k < n
      case neg =>
        obtain rfl : k = n := by omega
        have Hf := Lib.hid (show rateOfR xs true = (s1, s2) by rw [hs]; unfold rateOfR; rw [if_pos rfl, Hv.out.1])
        obtain ⟨m0, m1⟩ := z4.cells
        have f0 := z4.frozen 0
        have f1 := z4.frozen 1
        have fin := z4.set (s1, s2)
        have hBf := (hb.setCell (p := ⟨w.heap.size, 0, none⟩) (Nat.le_refl _) (.int .i64 s1)).setCell (p := ⟨w.heap.size, 1, none⟩) (Nat.le_refl _) (.int .i64 s2)
        clear y5 z4 hb hs
        go_wp2_with (fail)
        exact bodyPost_ret (v := encR (s1, s2)) (rRateOf_results _ _ w.heap.size _ fin (by simp)) rfl ⟨by rw [Hf.out], hBf⟩
      case pos =>
        obtain ⟨b', o', e, -, c1⟩ := (hx.below hb hB).cell hlt
        cases e
        have hbk := Hv.out.2.2.2 k (by rw [Hv.out.1]; exact hlt)
        obtain ⟨x, hxe⟩ : ∃ x : Nat, xs[k]?.getD 0 = (x : Int) := ⟨(xs[k]?.getD 0).toNat, by omega⟩
        rw [hxe] at c1 hbk
        have hwk : IntKind.i64.wrap ((k : Int) + 1) = ((k + 1 : Nat) : Int) := by rw [IntKind.wrap_i64]; omega
        have hrn : rateN xs (k + 1) = if slowF (ratR x (k + 1)) (s1, s2) then ratR x (k + 1) else (s1, s2) := by rw [rateN, hxe, Int.toNat_natCast, ← hs]
        have Hrn := Lib.hid hrn
        clear hrn hxe k0 k1 hs
        go_wp2_with (fail)
        clear c1
        refine (rFraction_any wr x (k + 1) (by omega) (by omega) (by omega)).mono ?_
        rintro e w2 ⟨rfl, hb2⟩
        obtain ⟨⟨q1, q2⟩, hq⟩ : ∃ r, r = ratR x (k + 1) := ⟨_, rfl⟩
        rw [← hq]
        have hrn := Hrn.out
        rw [← hq] at hrn
        unfold encR
        have y52 := y5.below hb2 y5.lt
        have z42 := z4.below hb2 z4.lt
        have hb3 := hb.trans (hb2.mono hsz)
        have y7 := RatAt.new w2 (q1, q2)
        have y53 := y52.alloc (.cells #[.int .i64 q1, .int .i64 q2] 32)
        have z43 := z42.alloc (.cells #[.int .i64 q1, .int .i64 q2] 32)
        have hb4 := hb3.alloc hb3.size (.cells #[.int .i64 q1, .int .i64 q2] 32)
        have h75 : b5 < w2.heap.size := y52.lt
        obtain ⟨k0, k1⟩ := y53.cells
        obtain ⟨m0, m1⟩ := y7.cells
        have Hrn2 := Lib.hid hrn
        clear hrn hq y5 y52 z4 z42 hb hb2 hb3
        go_wp2_with (fail)
        obtain ⟨W, hW⟩ : ∃ W, W = w2.alloc (.cells #[.int .i64 q1, .int .i64 q2] 32) := ⟨_, rfl⟩
        rw [← hW] at y7 y53 z43 hb4 ⊢
        clear hW k0 k1 m0 m1
        refine (rLess_any W (q1, q2) (s1, s2)).mono ?_
        rintro e w3 ⟨rfl, hb5⟩
        have y7 := y7.below hb5 y7.lt
        have y5 := y53.below hb5 y53.lt
        have z4 := z43.below hb5 z43.lt
        have hb := hb4.trans (hb5.mono hb4.size)
        obtain ⟨m0, m1⟩ := y7.cells
        obtain ⟨k0, k1⟩ := y5.cells
        have f0 := y5.frozen 0
        have f1 := y5.frozen 1
        clear hb5 hb4 y53 z43
        cases hsl : slowF (q1, q2) (s1, s2) with
        | true =>
          have hrn := Hrn2.out
          rw [hsl, if_pos rfl] at hrn
          have Hr3 := Lib.hid hrn
          have u5 := y5.set (q1, q2)
          have u4 := (z4.other (b := b5) (by omega) 0 (.int .i64 q1)).other (b := b5) (by omega) 1 (.int .i64 q2)
          have ub := (hb.setCell (p := ⟨b5, 0, none⟩) (show w.heap.size ≤ b5 by omega) (.int .i64 q1)).setCell (p := ⟨b5, 1, none⟩) (show w.heap.size ≤ b5 by omega) (.int .i64 q2)
          clear hsl hrn y5 z4 hb y7
          go_wp2_with (fail)
          go_roundg (n - (k + 1))
          case measure => omega
          case rel => exact ⟨k + 1, ⟨by omega, rfl, by simp⟩, ⟨q1, q2, Hr3.out.symm, u5⟩, u4, ub⟩
        | false =>
          have hrn := Hrn2.out
          rw [hsl, if_neg (by simp)] at hrn
          have Hr3 := Lib.hid hrn
          clear hsl hrn y7
          go_wp2_with (fail)
          go_roundg (n - (k + 1))
          case measure => omega
          case rel => exact ⟨k + 1, ⟨by omega, rfl, by simp⟩, ⟨s1, s2, Hr3.out.symm, y5⟩, z4, hb⟩
end Go.Proofs.Ytlgibckhkdggdaa

/- lag's reference: Rate; both reckon the same rates. -/
namespace Go.Proofs.Ytlgibckhkdggdaa
open Go.RowKit Go.Shelf

attribute [local go_sem] Oper.semAt_some

theorem rRate_results (W : World) (tmps : Array Value) (b : Nat) (x : Int × Int) (a : Value) (h : RatAt W b x) (t : tmps.getD 4 undef = .pointer (some ⟨b, 0, none⟩)) (h5 : tmps.getD 5 undef = a) :
    (results Try.f25 tmps).run Try.prog W = .ok (.tuple #[encR x, a]) W := by
  obtain ⟨c0, c1⟩ := h.cells
  simp only [Array.getD_eq_getD_getElem?] at t h5
  unfold encR
  simp [results, Try.results25, go_sem, t, h5, c0, c1]
def refRate (xs : List Int) (comes : Bool) : (Int × Int) × Int := if curveF xs ≠ 0 then ((0, 0), curveF xs) else (rateOfR xs comes, 0)
set_option maxRecDepth 100000 in
set_option maxHeartbeats 4000000 in
theorem rRate_any (w : World) (B : Nat) (A : Option Addr) (n c : Nat) (xs : List Int) (comes : Bool) (hx : IntsAt w B A n xs) (hB : B ≤ w.heap.size) :
    Calls Try.prog 25 #[.slice A n c, .bool comes] w fun e w' => e = .returned (.tuple #[encR (refRate xs comes).1, .int .i64 (refRate xs comes).2]) ∧ Below w.heap.size w w' := by
  obtain ⟨V, hV⟩ : ∃ V, V = w.alloc (.cells #[.int .i64 0, .int .i64 0] 32) := ⟨_, rfl⟩
  have hb0 : Below w.heap.size w V := by rw [hV]; exact (Below.refl _ w).alloc (Nat.le_refl _) _
  have x4 : RatAt V w.heap.size (0, 0) := by rw [hV]; exact RatAt.new w (0, 0)
  go_enter Try.func25, Try.ntmps25
  go_wp2_with (fail)
  rw [← hV]
  clear hV
  refine (rCheckCurve_any V B A n c xs (hx.below (hb0) hB)).mono ?_
  rintro e w1 ⟨rfl, q, hq⟩
  have hb1 : Below w.heap.size w w1 := by rw [hq]; exact (hb0).trans (below_drewN _ _)
  have z4 : RatAt w1 w.heap.size (0, 0) := by rw [hq]; exact x4
  clear hq
  obtain ⟨r, hr⟩ : ∃ r, r = curveF xs := ⟨_, rfl⟩
  rw [← hr]
  by_cases h0 : r = 0
  case neg =>
    have hne : (r != 0) = true := by rw [bne_iff_ne]; exact h0
    have Hr := Lib.hid (And.intro hr h0)
    clear hr h0
    go_wp2_with (fail)
    refine (rCheckCurve_any w1 B A n c xs (hx.below (hb1) hB)).mono ?_
    rintro e wl ⟨rfl, q, hq'⟩
    have hbl : Below w.heap.size w wl := by rw [hq']; exact hb1.trans (below_drewN _ _)
    rw [← Hr.out.1]
    have y4 : RatAt wl w.heap.size (0, 0) := by rw [hq']; exact z4
    obtain ⟨k0, k1⟩ := y4.cells
    have f0 := y4.frozen 0
    have f1 := y4.frozen 1
    have fin := y4.set (0, 0)
    have hBf := (hbl.setCell (p := ⟨w.heap.size, 0, none⟩) (Nat.le_refl _) (.int .i64 0)).setCell (p := ⟨w.heap.size, 1, none⟩) (Nat.le_refl _) (.int .i64 0)
    have Hq := Lib.hid hq'
    clear y4 hbl hq' z4
    go_wp2_with (fail)
    refine bodyPost_ret (v := .tuple #[encR (0, 0), .int .i64 r]) (rRate_results _ _ w.heap.size (0, 0) _ fin (by simp) (by simp)) rfl ⟨?_, hBf⟩
    have e : refRate xs comes = ((0, 0), r) := by unfold refRate; rw [if_pos (by rw [← Hr.out.1]; exact Hr.out.2), Hr.out.1]
    rw [e]
  case pos =>
    subst h0
    have Hc := Lib.hid hr.symm
    clear hr
    have hz1 := hb1.size
    go_wp2_with (fail)
    refine (rRateOf_any w1 B A n c xs comes (hx.below hb1 hB) (by omega) (nums_of Hc.out)).mono ?_
    rintro e w2 ⟨rfl, hb2⟩
    have y4 := z4.below hb2 z4.lt
    have hb3 := hb1.trans (hb2.mono hz1)
    obtain ⟨⟨r1, r2⟩, hr⟩ : ∃ r, r = rateOfR xs comes := ⟨_, rfl⟩
    rw [← hr]
    have Hr := Lib.hid hr
    obtain ⟨k0, k1⟩ := y4.cells
    have f0 := y4.frozen 0
    have f1 := y4.frozen 1
    have fin := y4.set (r1, r2)
    have hBf := (hb3.setCell (p := ⟨w.heap.size, 0, none⟩) (Nat.le_refl _) (.int .i64 r1)).setCell (p := ⟨w.heap.size, 1, none⟩) (Nat.le_refl _) (.int .i64 r2)
    unfold encR
    clear hr y4 z4 hb3 hb2 hb1 x4 hb0
    go_wp2_with (fail)
    refine bodyPost_ret (v := .tuple #[encR (r1, r2), .int .i64 0]) (rRate_results _ _ w.heap.size (r1, r2) _ fin (by simp) (by simp)) rfl ⟨?_, hBf⟩
    have e : refRate xs comes = ((r1, r2), 0) := by unfold refRate; rw [if_neg (by rw [Hc.out]; simp), ← Hr.out]
    rw [e]

/-! ### both reckon the same -/
/-- A fraction by sixtieths. -/
def keyR (x : Int × Int) : Int := x.1 * (60 / x.2)
theorem ratR_den {N D : Nat} (h1 : 1 ≤ D) (h6 : D ≤ 6) : (ratR N D).2 ∣ 60 ∧ 1 ≤ (ratR N D).2 ∧ (ratR N D).2 ≤ 6 ∧ keyR (ratR N D) * (D : Int) = 60 * (N : Int) ∧ 0 ≤ (ratR N D).1 ∧ (ratR N D).1 ≤ N := by
  obtain ⟨g, hg⟩ : ∃ g, g = Nat.gcd D N := ⟨_, rfl⟩
  have hg1 : 1 ≤ g := by rw [hg]; exact Nat.gcd_pos_of_pos_left _ h1
  obtain ⟨d, hd⟩ : g ∣ D := by rw [hg]; exact Nat.gcd_dvd_left _ _
  obtain ⟨m, hm⟩ : g ∣ N := by rw [hg]; exact Nat.gcd_dvd_right _ _
  have e1 : ratR N D = ((m : Int), (d : Int)) := by
    unfold ratR
    rw [← hg, hd, hm, Nat.mul_div_cancel_left _ (by omega), Nat.mul_div_cancel_left _ (by omega)]
  have hd1 : 1 ≤ d := by
    rcases Nat.eq_zero_or_pos d with h | h
    · rw [h, Nat.mul_zero] at hd
      omega
    · exact h
  have hd6 : d ≤ 6 := Nat.le_trans (Nat.le_mul_of_pos_left d hg1) (by omega)
  have hmN : m ≤ N := by rw [hm]; exact Nat.le_mul_of_pos_left m hg1
  rw [e1]
  have h60 : ((60 : Int) / (d : Int)) * (d : Int) = 60 := by
    rcases (by omega : d = 1 ∨ d = 2 ∨ d = 3 ∨ d = 4 ∨ d = 5 ∨ d = 6) with rfl | rfl | rfl | rfl | rfl | rfl <;> rfl
  refine ⟨⟨60 / (d : Int), by rw [Int.mul_comm]; exact h60.symm⟩, by show (1 : Int) ≤ (d : Int); omega, by show (d : Int) ≤ 6; omega, ?_, by show (0 : Int) ≤ (m : Int); omega, by show (m : Int) ≤ (N : Int); omega⟩
  show (m : Int) * (60 / (d : Int)) * (D : Int) = 60 * (N : Int)
  rw [hd, hm, Int.natCast_mul, Int.natCast_mul]
  have : (m : Int) * (60 / (d : Int)) * ((g : Int) * (d : Int)) = ((60 / (d : Int)) * (d : Int)) * ((g : Int) * (m : Int)) := by
    simp only [Int.mul_comm, Int.mul_assoc, Int.mul_left_comm]
  rw [this, h60]
theorem slow_key {a b : Int × Int} (ha1 : 1 ≤ a.2) (ha6 : a.2 ≤ 6) (hb1 : 1 ≤ b.2) (hb6 : b.2 ≤ 6) (ha : 0 ≤ a.1 ∧ a.1 ≤ 1000000) (hb : 0 ≤ b.1 ∧ b.1 ≤ 1000000) : slowF a b = decide (keyR a < keyR b) := by
  obtain ⟨m, d⟩ := a
  obtain ⟨n, e⟩ := b
  simp only at ha1 ha6 hb1 hb6 ha hb
  unfold slowF keyR
  simp only
  have hm : 0 ≤ m * e ∧ m * e ≤ 6000000 := ⟨Int.mul_nonneg ha.1 (by omega), Int.le_trans (Int.mul_le_mul ha.2 hb6 (by omega) (by omega)) (by omega)⟩
  have hn : 0 ≤ n * d ∧ n * d ≤ 6000000 := ⟨Int.mul_nonneg hb.1 (by omega), Int.le_trans (Int.mul_le_mul hb.2 ha6 (by omega) (by omega)) (by omega)⟩
  have w1 : IntKind.i64.wrap (m * e) = m * e := by rw [IntKind.wrap_i64]; omega
  have w2 : IntKind.i64.wrap (n * d) = n * d := by rw [IntKind.wrap_i64]; omega
  rw [w1, w2]
  congr 1
  rcases (by omega : d = 1 ∨ d = 2 ∨ d = 3 ∨ d = 4 ∨ d = 5 ∨ d = 6) with rfl | rfl | rfl | rfl | rfl | rfl <;>
    rcases (by omega : e = 1 ∨ e = 2 ∨ e = 3 ∨ e = 4 ∨ e = 5 ∨ e = 6) with rfl | rfl | rfl | rfl | rfl | rfl <;> (apply propext; omega)
/-- Fractions in least terms of the same size are the same. -/
theorem ratR_same {N D M E : Nat} (hD1 : 1 ≤ D) (hE1 : 1 ≤ E) (h : N * E = M * D) : ratR N D = ratR M E := by
  have key : ∀ {N D : Nat}, 1 ≤ D → ∀ {k : Nat}, 1 ≤ k → ratR (k * N) (k * D) = ratR N D := by
    intro N D h k hk
    unfold ratR
    rw [Nat.gcd_mul_left, Nat.mul_div_mul_left _ _ (by omega), Nat.mul_div_mul_left _ _ (by omega)]
  have a1 := key (N := N) (D := D) hD1 hE1
  have a2 := key (N := M) (D := E) hE1 hD1
  rw [← a1, ← a2, Nat.mul_comm E N, h, Nat.mul_comm M D, Nat.mul_comm E D]
theorem ratR_key {N D M E : Nat} (hD1 : 1 ≤ D) (hD6 : D ≤ 6) (hE1 : 1 ≤ E) (hE6 : E ≤ 6) (h : keyR (ratR N D) = keyR (ratR M E)) : ratR N D = ratR M E := by
  have a1 := (ratR_den (N := N) hD1 hD6).2.2.2.1
  have a2 := (ratR_den (N := M) hE1 hE6).2.2.2.1
  apply ratR_same hD1 hE1
  rw [h] at a1
  have b1 : keyR (ratR M E) * (D : Int) * (E : Int) = 60 * (N : Int) * (E : Int) := by rw [a1]
  have b2 : keyR (ratR M E) * (E : Int) * (D : Int) = 60 * (M : Int) * (D : Int) := by rw [a2]
  have b3 : keyR (ratR M E) * (D : Int) * (E : Int) = keyR (ratR M E) * (E : Int) * (D : Int) := by rw [Int.mul_assoc, Int.mul_comm (D : Int), ← Int.mul_assoc]
  have b4 : 60 * (N : Int) * (E : Int) = 60 * (M : Int) * (D : Int) := by rw [← b1, ← b2, b3]
  rw [Int.mul_assoc, Int.mul_assoc] at b4
  have b5 : (N : Int) * (E : Int) = (M : Int) * (D : Int) := by omega
  exact_mod_cast b5
theorem ratR_lt {N D M E : Nat} (hD1 : 1 ≤ D) (hD6 : D ≤ 6) (hE1 : 1 ≤ E) (hE6 : E ≤ 6) : keyR (ratR N D) ≤ keyR (ratR M E) ↔ N * E ≤ M * D := by
  have a1 := (ratR_den (N := N) hD1 hD6).2.2.2.1
  have a2 := (ratR_den (N := M) hE1 hE6).2.2.2.1
  obtain ⟨k1, hk1⟩ : ∃ k, k = keyR (ratR N D) := ⟨_, rfl⟩
  obtain ⟨k2, hk2⟩ : ∃ k, k = keyR (ratR M E) := ⟨_, rfl⟩
  rw [← hk1] at a1 ⊢
  rw [← hk2] at a2 ⊢
  have b1 : k1 * (D : Int) * (E : Int) = 60 * ((N : Int) * (E : Int)) := by rw [a1, Int.mul_assoc]
  have b2 : k2 * (E : Int) * (D : Int) = 60 * ((M : Int) * (D : Int)) := by rw [a2, Int.mul_assoc]
  have b3 : k2 * (E : Int) * (D : Int) = k2 * (D : Int) * (E : Int) := by rw [Int.mul_assoc, Int.mul_comm (E : Int), ← Int.mul_assoc]
  have hc : (N * E ≤ M * D) ↔ (N : Int) * (E : Int) ≤ (M : Int) * (D : Int) := by
    rw [← Int.natCast_mul, ← Int.natCast_mul]
    omega
  rw [hc]
  constructor
  · intro h
    have := Int.mul_le_mul_of_nonneg_right (Int.mul_le_mul_of_nonneg_right h (show (0 : Int) ≤ (D : Int) by omega)) (show (0 : Int) ≤ (E : Int) by omega)
    omega
  · intro h
    have : k1 * (D : Int) * (E : Int) ≤ k2 * (D : Int) * (E : Int) := by omega
    exact Int.le_of_mul_le_mul_right (Int.le_of_mul_le_mul_right this (by omega)) (by omega)
/-- The best fraction of a row of fractions has the least key. -/
theorem foldR_le {α : Type} (f : α → Int × Int) (hf : ∀ x, 1 ≤ (f x).2 ∧ (f x).2 ≤ 6 ∧ 0 ≤ (f x).1 ∧ (f x).1 ≤ 1000000) : ∀ (l : List α) (o : Option (Int × Int)) (v : Int × Int), (∀ b, o = some b → 1 ≤ b.2 ∧ b.2 ≤ 6 ∧ 0 ≤ b.1 ∧ b.1 ≤ 1000000) → l.foldl (bestStep f slowF) o = some v → (∀ x ∈ l, keyR v ≤ keyR (f x)) ∧ ∀ b, o = some b → keyR v ≤ keyR b
  | [], o, v, _, h => ⟨by simp, fun b hb => by subst hb; cases h; exact Int.le_refl _⟩
  | x :: l, o, v, ho, h => by
    rw [List.foldl_cons] at h
    have hx := hf x
    cases o with
    | none =>
      obtain ⟨h1, h2⟩ := foldR_le f hf l (some (f x)) v (fun b hb => by cases hb; exact hx) h
      refine ⟨fun y hy => ?_, fun b hb => by cases hb⟩
      rcases List.mem_cons.1 hy with rfl | hy
      · exact h2 _ rfl
      · exact h1 y hy
    | some b =>
      have hb := ho b rfl
      have hs := slow_key hx.1 hx.2.1 hb.1 hb.2.1 hx.2.2 hb.2.2
      by_cases hc : keyR (f x) < keyR b
      · have e : bestStep f slowF (some b) x = some (f x) := by simp [bestStep, hs, hc]
        rw [e] at h
        obtain ⟨h1, h2⟩ := foldR_le f hf l (some (f x)) v (fun b hb => by cases hb; exact hx) h
        have h3 := h2 _ rfl
        refine ⟨fun y hy => ?_, fun b' hb' => by cases hb'; omega⟩
        rcases List.mem_cons.1 hy with rfl | hy
        · exact h3
        · exact h1 y hy
      · have e : bestStep f slowF (some b) x = some b := by simp [bestStep, hs, hc]
        rw [e] at h
        obtain ⟨h1, h2⟩ := foldR_le f hf l (some b) v (fun b' hb' => by cases hb'; exact hb) h
        have h3 := h2 _ rfl
        refine ⟨fun y hy => ?_, fun b' hb' => by cases hb'; exact h3⟩
        rcases List.mem_cons.1 hy with rfl | hy
        · omega
        · exact h1 y hy
theorem foldR_mem {α : Type} (f : α → Int × Int) {l : List α} {v : Int × Int} (h : bestO f slowF l = some v) : ∃ x ∈ l, v = f x := by
  rcases bestO_mem _ _ _ _ _ h with h | ⟨p, hp, e⟩
  · cases h
  · exact ⟨p, hp, e⟩
/-- A number by its turns, in sixtieths: of curves. -/
theorem rate_ok {xs : List Int} (hv : Nums xs) {p : Nat} (h1 : 1 ≤ p) (h6 : p ≤ 6) (hp : p ≤ xs.length) : 1 ≤ (ratR (xs[p - 1]?.getD 0).toNat p).2 ∧ (ratR (xs[p - 1]?.getD 0).toNat p).2 ≤ 6 ∧ 0 ≤ (ratR (xs[p - 1]?.getD 0).toNat p).1 ∧ (ratR (xs[p - 1]?.getD 0).toNat p).1 ≤ 1000000 := by
  obtain ⟨-, a, b, -, c, d⟩ := ratR_den (N := (xs[p - 1]?.getD 0).toNat) h1 h6
  have := hv.2.2 (p - 1) (by omega)
  exact ⟨a, b, c, by omega⟩
/-- The reference's rate is the best part's. -/
theorem rateN_best {xs : List Int} (hv : Nums xs) (h6 : xs.length ≤ 6) : ∀ k, k ≤ xs.length → ∃ q, 1 ≤ q ∧ q ≤ xs.length ∧ rateN xs k = ratR (xs[q - 1]?.getD 0).toNat q ∧ keyR (rateN xs k) ≤ keyR (shaftRate xs) ∧ ∀ p, 1 ≤ p → p ≤ k → keyR (rateN xs k) ≤ keyR (ratR (xs[p - 1]?.getD 0).toNat p)
  | 0, _ => ⟨xs.length, hv.1, Nat.le_refl _, rfl, Int.le_refl _, fun p h1 h2 => by omega⟩
  | k + 1, hk => by
    obtain ⟨q, h1, h2, h3, h4, h5⟩ := rateN_best hv h6 k (by omega)
    have hs := slow_key (rate_ok hv (p := k + 1) (by omega) (by omega) hk).1 (rate_ok hv (p := k + 1) (by omega) (by omega) hk).2.1 (rate_ok hv h1 (by omega) h2).1 (rate_ok hv h1 (by omega) h2).2.1 (rate_ok hv (p := k + 1) (by omega) (by omega) hk).2.2 (rate_ok hv h1 (by omega) h2).2.2
    rw [Nat.add_sub_cancel, ← h3] at hs
    rw [rateN, hs]
    by_cases hc : keyR (ratR (xs[k]?.getD 0).toNat (k + 1)) < keyR (rateN xs k)
    · rw [if_pos (by simpa using hc)]
      refine ⟨k + 1, by omega, hk, by rw [Nat.add_sub_cancel], by omega, fun p a b => ?_⟩
      by_cases hp : p ≤ k
      · have := h5 p a hp
        omega
      · obtain rfl : p = k + 1 := by omega
        rw [Nat.add_sub_cancel]
        exact Int.le_refl _
    · rw [if_neg (by simpa using hc)]
      refine ⟨q, h1, h2, h3, h4, fun p a b => ?_⟩
      by_cases hp : p ≤ k
      · exact h5 p a hp
      · obtain rfl : p = k + 1 := by omega
        rw [Nat.add_sub_cancel]
        omega
/-- The best part, by keys. -/
theorem rateN_is {xs : List Int} (hv : Nums xs) (h6 : xs.length ≤ 6) {q : Nat} (hq : Best xs q) : rateN xs xs.length = ratR (xs[q - 1]?.getD 0).toNat q := by
  obtain ⟨p, h1, h2, h3, -, h5⟩ := rateN_best hv h6 xs.length (Nat.le_refl _)
  have a := h5 q hq.1 hq.2.1
  have b : keyR (ratR (xs[q - 1]?.getD 0).toNat q) ≤ keyR (ratR (xs[p - 1]?.getD 0).toNat p) := by
    rw [ratR_lt hq.1 (by have := hq.2.1; omega) h1 (by omega)]
    have := hq.2.2 p h1 h2
    have c1 := hv.2.2 (q - 1) (by have := hq.1; have := hq.2.1; omega)
    have c2 := hv.2.2 (p - 1) (by omega)
    have e1 : ((xs[q - 1]?.getD 0).toNat : Int) = xs[q - 1]?.getD 0 := Int.toNat_of_nonneg c1.1
    have e2 : ((xs[p - 1]?.getD 0).toNat : Int) = xs[p - 1]?.getD 0 := Int.toNat_of_nonneg c2.1
    rw [← e1, ← e2] at this
    exact_mod_cast this
  rw [h3] at a ⊢
  exact ratR_key h1 (by omega) hq.1 (by have := hq.2.1; omega) (by omega)
theorem fewQ_at {xs : List Int} {p : Nat} (h : p ≤ 6) : fewQ xs p = mst xs p := sumsT_get xs h
/-- The most of p turns is no less than the best part's rate. -/
theorem mst_rate {xs : List Int} (hv : Nums xs) {q : Nat} (hq : Best xs q) (k : Nat) : xs[q - 1]?.getD 0 * (k : Int) ≤ mst xs k * (q : Int) := by
  induction k using Nat.strongRecOn with
  | _ k ih =>
    by_cases hk : k = 0
    · subst hk
      rw [mst_zero]
      omega
    · obtain ⟨p, h1, h2, h3, e⟩ := mst_get hv.1 (k := k) (by omega)
      have a := ih (k - p) (by omega)
      have b := hq.2.2 p h1 h2
      rw [e, Int.add_mul]
      have c : xs[q - 1]?.getD 0 * (k : Int) = xs[q - 1]?.getD 0 * (p : Int) + xs[q - 1]?.getD 0 * ((k - p : Nat) : Int) := by
        rw [← Int.mul_add]
        congr 1
        omega
      omega
theorem sourceRate_is {xs : List Int} (hv : Nums xs) (h6 : xs.length ≤ 6) {q : Nat} (hq : Best xs q) : sourceRate (fewQ xs) = ratR (xs[q - 1]?.getD 0).toNat q := by
  obtain ⟨v, hval⟩ := bestO_some (fun p : Part 1 6 => ratR (fewQ xs p.1).toNat p.1) slowF (partsS 1 6) none (.inl (parts_ne (by omega)))
  have e : sourceRate (fewQ xs) = v := by unfold sourceRate bestO; rw [hval]; rfl
  have hq6 : q ≤ 6 := by have := hq.2.1; omega
  have ok : ∀ p : Part 1 6, 1 ≤ (ratR (fewQ xs p.1).toNat p.1).2 ∧ (ratR (fewQ xs p.1).toNat p.1).2 ≤ 6 ∧ 0 ≤ (ratR (fewQ xs p.1).toNat p.1).1 ∧ (ratR (fewQ xs p.1).toNat p.1).1 ≤ 1000000 := fun p => by
    have hp := parts_mem.1 p.2
    obtain ⟨-, a, b, -, c, d⟩ := ratR_den (N := (fewQ xs p.1).toNat) hp.1 hp.2
    have := mst_nonneg hv p.1
    rw [fewQ_at hp.2] at a b c d ⊢
    exact ⟨a, b, c, by omega⟩
  obtain ⟨p, -, hp⟩ := foldR_mem _ hval
  have hpm := parts_mem.1 p.2
  have a := (foldR_le _ ok _ _ _ (fun b hb => by cases hb) hval).1 ⟨q, parts_mem.2 ⟨hq.1, hq6⟩⟩ (List.mem_attach _ _)
  rw [e]
  rw [hp] at a ⊢
  simp only at a
  rw [fewQ_at hpm.2, fewQ_at hq6] at a
  rw [fewQ_at hpm.2]
  have hm1 := mst_nonneg hv p.1
  have hmq := mst_nonneg hv q
  have c1 := hv.2.2 (q - 1) (by have := hq.1; have := hq.2.1; omega)
  have e1 : ((xs[q - 1]?.getD 0).toNat : Int) = xs[q - 1]?.getD 0 := Int.toNat_of_nonneg c1.1
  have e2 : ((mst xs p.1).toNat : Int) = mst xs p.1 := Int.toNat_of_nonneg hm1.1
  have e3 : ((mst xs q).toNat : Int) = mst xs q := Int.toNat_of_nonneg hmq.1
  have b1 : keyR (ratR (xs[q - 1]?.getD 0).toNat q) ≤ keyR (ratR (mst xs p.1).toNat p.1) := by
    rw [ratR_lt hq.1 hq6 hpm.1 hpm.2]
    have := mst_rate hv hq p.1
    rw [← e1, ← e2] at this
    exact_mod_cast this
  have b2 : keyR (ratR (mst xs q).toNat q) ≤ keyR (ratR (xs[q - 1]?.getD 0).toNat q) := by
    rw [ratR_lt hq.1 hq6 hq.1 hq6]
    have := mst_part hq.1 hq.2.1 (xs := xs)
    exact Nat.mul_le_mul_right _ (by omega)
  exact ratR_key hpm.1 hpm.2 hq.1 hq6 (by omega)
theorem rate_same (xs : List Int) (comes : Bool) : rateR xs comes = refRate xs comes := by
  by_cases h : curveF xs = 0
  · have hv := nums_of h
    have h6 := (curve_nums h).2.1
    have e1 : refRate xs comes = (rateOfR xs comes, 0) := by unfold refRate; rw [if_neg (by rw [h]; simp)]
    rw [e1]
    cases comes with
    | false =>
      unfold rateR
      rw [if_neg (by rw [h]; simp), if_neg (by simp)]
      rfl
    | true =>
      obtain ⟨q, hq⟩ := best_exists hv.1
      unfold rateR rateOfR
      rw [if_neg (by rw [h]; simp), if_pos rfl, if_pos rfl, sourceRate_is hv h6 hq, rateN_is hv h6 hq]
  · unfold rateR refRate
    rw [if_pos h, if_pos h]
end Go.Proofs.Ytlgibckhkdggdaa
