/- lag: Rate, Added, tallies. -/
import Derived.Test.YtjidllaaokdjhaaLS
namespace Go.Proofs.Ytjidllaaokdjhaa
open Go.RowKit Go.Shelf

attribute [local go_sem] Oper.semAt_some

theorem Rate_results (W : World) (tmps : Array Value) (b : Nat) (x : Int × Int) (e : Value) (h : RatAt W b x) (t : tmps.getD 4 undef = .pointer (some ⟨b, 0, none⟩)) (t5 : tmps.getD 5 undef = e) :
    (results Try.f24 tmps).run Try.prog W = .ok (.tuple #[encR x, e]) W := by
  obtain ⟨c0, c1⟩ := h.cells
  simp only [Array.getD_eq_getD_getElem?] at t t5
  unfold encR
  simp [results, Try.results24, go_sem, t, t5, c0, c1]
def rateR (xs : List Int) (comes : Bool) : (Int × Int) × Int := if curveF xs ≠ 0 then ((0, 0), curveF xs) else if comes then (sourceRate (fewQ xs), 0) else (shaftRate xs, 0)
theorem few_small {xs : List Int} (h : curveF xs = 0) : ∀ i, 1 ≤ i → i < 7 → 0 ≤ fewQ xs i ∧ fewQ xs i ≤ 1000000 := by
  intro i h1 h2
  have := sumsT_100 h 6 i (by omega)
  unfold fewQ
  omega
set_option maxRecDepth 100000 in
set_option maxHeartbeats 4000000 in
theorem Rate_any (w : World) (B : Nat) (A : Option Addr) (n c : Nat) (xs : List Int) (comes : Bool) (hx : IntsAt w B A n xs) (hB : B ≤ w.heap.size) :
    Calls Try.prog 24 #[.slice A n c, .bool comes] w fun e w' => e = .returned (.tuple #[encR (rateR xs comes).1, .int .i64 (rateR xs comes).2]) ∧ Below w.heap.size w w' := by
  have hm := hx.small
  obtain ⟨V, hV⟩ : ∃ V, V = w.alloc (.cells #[.int .i64 0, .int .i64 0] 32) := ⟨_, rfl⟩
  have hb0 : Below w.heap.size w V := by rw [hV]; exact (Below.refl _ w).alloc (Nat.le_refl _) _
  have x4 : RatAt V w.heap.size (0, 0) := by rw [hV]; exact RatAt.new w (0, 0)
  go_enter Try.func24, Try.ntmps24
  go_wp2_with (fail)
  rw [← hV]
  clear hV
  refine (checkCurve_any V B A n c xs (hx.below hb0 hB) (by have := hb0.size; omega)).mono ?_
  rintro e w1 ⟨rfl, hb1⟩
  have y4 := x4.below hb1 x4.lt
  have hB1 := hb0.trans (hb1.mono hb0.size)
  clear x4 hb0 hb1
  obtain ⟨k0, k1⟩ := y4.cells
  have f0 := y4.frozen 0
  have f1 := y4.frozen 1
  obtain ⟨r, hr⟩ : ∃ r, r = curveF xs := ⟨_, rfl⟩
  rw [← hr]
  by_cases h0 : r = 0
  case neg =>
    have hne : (r != 0) = true := by rw [bne_iff_ne]; exact h0
    have hrr : rateR xs comes = ((0, 0), r) := by unfold rateR; rw [if_pos (by rw [← hr]; exact h0), hr]
    have Hr := Lib.hid hrr
    clear hr h0 hrr
    have fin := y4.set (0, 0)
    have hBf := (hB1.setCell (p := ⟨w.heap.size, 0, none⟩) (Nat.le_refl _) (.int .i64 0)).setCell (p := ⟨w.heap.size, 1, none⟩) (Nat.le_refl _) (.int .i64 0)
    clear y4 hB1
    go_wp2_with (fail)
    refine bodyPost_ret (v := .tuple #[encR (0, 0), .int .i64 r]) (Rate_results _ _ w.heap.size (0, 0) _ fin (by simp) (by simp)) rfl ⟨?_, hBf⟩
    rw [Hr.out]
  case pos =>
    subst h0
    have Hc := Lib.hid hr.symm
    clear hr
    cases comes with
    | true =>
      go_wp2_with (fail)
      clear k0 k1 f0 f1
      refine (sourceOf_any w1 B A n c xs (hx.below hB1 hB) (by have := hB1.size; omega) (nums_of Hc.out)).mono ?_
      rintro e w2 ⟨rfl, hb2⟩
      have z4 := y4.below hb2 y4.lt
      have hB2 := hB1.trans (hb2.mono hB1.size)
      obtain ⟨q, hq⟩ : ∃ q, q = fewQ xs := ⟨_, rfl⟩
      rw [← hq]
      have hfs := few_small Hc.out
      have hrr : rateR xs true = (sourceRate q, 0) := by unfold rateR; rw [if_neg (by rw [Hc.out]; simp), ← hq]; rfl
      rw [← hq] at hfs
      have Hm := Lib.hid (And.intro hfs hrr)
      clear hq hfs hrr y4 hb2 hB1
      go_wp2_with (fail)
      refine (sourceRate_any w2 A n c q Hm.out.1).mono ?_
      rintro e w3 ⟨rfl, hb3⟩
      have v4 := z4.below hb3 z4.lt
      have hB3 := hB2.trans (hb3.mono hB2.size)
      obtain ⟨k0, k1⟩ := v4.cells
      have f0 := v4.frozen 0
      have f1 := v4.frozen 1
      obtain ⟨⟨r1, r2⟩, hr⟩ : ∃ r, r = sourceRate q := ⟨_, rfl⟩
      rw [← hr]
      have Hr := Lib.hid hr
      have fin := v4.set (r1, r2)
      have hBf := (hB3.setCell (p := ⟨w.heap.size, 0, none⟩) (Nat.le_refl _) (.int .i64 r1)).setCell (p := ⟨w.heap.size, 1, none⟩) (Nat.le_refl _) (.int .i64 r2)
      clear hr hb3 hB2 hB3 z4 v4
      unfold encR
      go_wp2_with (fail)
      refine bodyPost_ret (v := .tuple #[encR (r1, r2), .int .i64 0]) (Rate_results _ _ w.heap.size (r1, r2) _ fin (by simp) (by simp)) rfl ⟨?_, hBf⟩
      rw [Hm.out.2, ← Hr.out]
    | false =>
      go_wp2_with (fail)
      clear k0 k1 f0 f1
      refine (shaftRate_any w1 B A n c xs (hx.below hB1 hB) (by have := hB1.size; omega) (nums_of Hc.out)).mono ?_
      rintro e w3 ⟨rfl, hb3⟩
      have v4 := y4.below hb3 y4.lt
      have hB3 := hB1.trans (hb3.mono hB1.size)
      have hrr : rateR xs false = (shaftRate xs, 0) := by unfold rateR; rw [if_neg (by rw [Hc.out]; simp)]; rfl
      obtain ⟨k0, k1⟩ := v4.cells
      have f0 := v4.frozen 0
      have f1 := v4.frozen 1
      obtain ⟨⟨r1, r2⟩, hr⟩ : ∃ r, r = shaftRate xs := ⟨_, rfl⟩
      rw [← hr] at hrr ⊢
      have Hr := Lib.hid hrr
      have fin := v4.set (r1, r2)
      have hBf := (hB3.setCell (p := ⟨w.heap.size, 0, none⟩) (Nat.le_refl _) (.int .i64 r1)).setCell (p := ⟨w.heap.size, 1, none⟩) (Nat.le_refl _) (.int .i64 r2)
      clear hr hrr hb3 hB1 hB3 y4 v4
      unfold encR
      go_wp2_with (fail)
      refine bodyPost_ret (v := .tuple #[encR (r1, r2), .int .i64 0]) (Rate_results _ _ w.heap.size (r1, r2) _ fin (by simp) (by simp)) rfl ⟨?_, hBf⟩
      rw [Hr.out]
theorem Added_results (W : World) (tmps : Array Value) (a b : Value) (h4 : tmps.getD 4 undef = a) (h5 : tmps.getD 5 undef = b) :
    (results Try.f34 tmps).run Try.prog W = .ok (.tuple #[a, b]) W := by
  simp only [Array.getD_eq_getD_getElem?] at h4 h5
  simp [results, Try.results34, go_sem, h4, h5]
theorem addF_mem (came xs : List Int) (t : Nat) : ∃ p, p ≤ t ∧ addF came xs t = came[t - p]?.getD 0 + leastF xs p := by
  have hne : partsS 0 t ≠ [] := by
    intro e
    have h0 := partsS_len 0 t
    rw [e, List.length_nil] at h0
    omega
  obtain ⟨v, hv⟩ := bestO_some (fun p : Part 0 t => came[t - p.1]?.getD 0 + leastF xs p.1) ltI _ none (.inl hne)
  rcases bestO_mem _ _ _ _ _ hv with h | ⟨p, -, hp⟩
  · cases h
  · exact ⟨p.1, (parts_mem.1 p.2).2, by unfold addF bestO; rw [hv]; exact hp⟩
theorem tot_bound {xs : List Int} (h : Row60 xs) : ∀ j, j < xs.length + 1 → 0 ≤ (totF xs)[j]?.getD 0 ∧ (totF xs)[j]?.getD 0 ≤ 1000000000 := by
  intro j hj
  rw [totF_get (by omega)]
  have := preS_bound h j (by omega)
  have := h.1
  omega
theorem addL_bound {xs cs : List Int} (h : Row60 xs) (hv : Nums cs) : ∀ j, j < xs.length + 1 → 0 ≤ (addL (totF xs) cs)[j]?.getD 0 ∧ (addL (totF xs) cs)[j]?.getD 0 ≤ 100000000 := by
  intro j hj
  rw [addL_get (by rw [totF_len]; exact hj)]
  obtain ⟨p, hp, e⟩ := addF_mem (totF xs) cs j
  rw [e, totF_get (by omega)]
  have a := preS_bound h (j - p) (by omega)
  have b := leastF_bound hv p
  have := h.1
  omega
def AddedP (cs xs : List Int) (n0 : Nat) (w' : World) (e : Ending) : Prop :=
  (curveF cs ≠ 0 ∧ e = .returned (.tuple #[.slice none 0 0, .int .i64 (curveF cs)])) ∨ (curveF cs = 0 ∧ rowF xs ≠ 0 ∧ e = .returned (.tuple #[.slice none 0 0, .int .i64 (rowF xs)])) ∨
  (curveF cs = 0 ∧ rowF xs = 0 ∧ ∃ g : Nat, n0 ≤ g ∧ e = .returned (.tuple #[.slice (some ⟨g, 0, none⟩) xs.length xs.length, .int .i64 0]) ∧ RowZ w' g (difL (addL (totF xs) cs) xs.length))
set_option maxRecDepth 100000 in
set_option maxHeartbeats 4000000 in
theorem Added_any (w : World) (B B2 : Nat) (A A2 : Option Addr) (n c m c2 : Nat) (xs ys : List Int) (hx : IntsAt w B A n xs) (hB : B ≤ w.heap.size) (hy : IntsAt w B2 A2 m ys) (hB2 : B2 ≤ w.heap.size) :
    Calls Try.prog 34 #[.slice A n c, .slice A2 m c2] w fun e w' => AddedP xs ys w.heap.size w' e ∧ Below w.heap.size w w' := by
  have hm := hx.small
  go_enter Try.func34, Try.ntmps34
  go_wp2_with (fail)
  refine (checkCurve_any w B A n c xs hx hB).mono ?_
  rintro e w1 ⟨rfl, hb1⟩
  obtain ⟨r, hr⟩ : ∃ r, r = curveF xs := ⟨_, rfl⟩
  rw [← hr]
  by_cases h0 : r = 0
  case neg =>
    have hne : (r != 0) = true := by rw [bne_iff_ne]; exact h0
    have Hr := Lib.hid (And.intro hr h0)
    clear hr h0
    go_wp2_with (fail)
    refine bodyPost_ret (v := .tuple #[.slice none 0 0, .int .i64 r]) (Added_results _ _ _ _ (by simp) (by simp)) rfl ?_
    refine ⟨.inl ⟨by rw [← Hr.out.1]; exact Hr.out.2, by rw [← Hr.out.1]⟩, hb1⟩
  case pos =>
    subst h0
    have Hc := Lib.hid hr.symm
    clear hr
    have hz1 := hb1.size
    have ho := one_row w1 B2 A2 m c2 ys (hy.below hb1 hB2) (by omega)
    have hb2 : Below w.heap.size w (w1.alloc (.cells #[.slice A2 m c2] 22)) := hb1.alloc hz1 _
    go_wp2_with (fail)
    refine (checkRows_any (w1.alloc (.cells #[.slice A2 m c2] 22)) (w1.heap.size + 1) (some ⟨w1.heap.size, 0, none⟩) 1 1 [ys] ho (by simp)).mono ?_
    rintro e w2 ⟨rfl, hb3⟩
    have hb4 := hb2.trans (hb3.mono hb2.size)
    clear hb2 hb3 ho hb1
    rw [first_one]
    obtain ⟨s, hs⟩ : ∃ s, s = rowF ys := ⟨_, rfl⟩
    rw [← hs]
    by_cases h1 : s = 0
    case neg =>
      have hne : (s != 0) = true := by rw [bne_iff_ne]; exact h1
      have Hs := Lib.hid (And.intro hs h1)
      clear hs h1
      go_wp2_with (fail)
      refine bodyPost_ret (v := .tuple #[.slice none 0 0, .int .i64 s]) (Added_results _ _ _ _ (by simp) (by simp)) rfl ?_
      exact ⟨.inr (.inl ⟨Hc.out, by rw [← Hs.out.1]; exact Hs.out.2, by rw [← Hs.out.1]⟩), hb4⟩
    case pos =>
      subst h1
      have Hs := Lib.hid hs.symm
      clear hs
      have Hy := Lib.hid hy.len
      go_wp2_with (fail)
      refine (totalsOf_any w2 B2 A2 m c2 ys (hy.below hb4 hB2) (by have := hb4.size; omega) (row_of Hs.out)).mono ?_
      rintro e w3 ⟨g, hg, rfl, hrow, hb5⟩
      have hz4 := hb4.size
      have hb6 := hb4.trans (hb5.mono hz4)
      have hz6 := hb6.size
      have hm60 : m ≤ 60 := by have := (row_of Hs.out).1; have := Hy.out; omega
      have hi := hrow.ints (n := m + 1) (by rw [totF_len, Hy.out]) (by omega)
      clear hb4 hb5 hrow
      go_wp2_with (fail)
      refine (added_any w3 w3.heap.size B (some ⟨g, 0, none⟩) A (m + 1) (m + 1) n c (totF ys) xs hi (hx.below hb6 hB) (Nat.le_refl _) (by omega) (nums_of Hc.out) (by omega) (fun j hj => tot_bound (row_of Hs.out) j (by rw [Hy.out]; exact hj))).mono ?_
      rintro e w4 ⟨g2, hg2, rfl, hrow2, hb7⟩
      have hb8 := hb6.trans (hb7.mono hz6)
      have hz8 := hb8.size
      have hi2 := hrow2.ints (n := m + 1) (by rw [addL_len, totF_len, Hy.out]) (by omega)
      clear hb6 hb7 hrow2 hi
      go_wp2_with (fail)
      refine (row_any w4 w4.heap.size (some ⟨g2, 0, none⟩) (m + 1) m (m + 1) (addL (totF ys) xs) hi2 (Nat.le_refl _) (Nat.le_refl _) (Nat.le_refl _) hm60 (fun j hj => by
        have a := addL_bound (row_of Hs.out) (nums_of Hc.out) j (by rw [Hy.out]; omega)
        have b := addL_bound (row_of Hs.out) (nums_of Hc.out) (j + 1) (by rw [Hy.out]; omega)
        unfold difF
        omega)).mono ?_
      rintro e w5 ⟨g3, hg3, rfl, hrow3, hb9⟩
      have hb10 := hb8.trans (hb9.mono hz8)
      have Hrow := Lib.hid hrow3
      clear hb8 hb9 hrow3 hi2
      go_wp2_with (fail)
      refine bodyPost_ret (v := .tuple #[.slice (some ⟨g3, 0, none⟩) m m, .int .i64 0]) (Added_results _ _ _ _ (by simp) (by simp)) rfl ?_
      exact ⟨.inr (.inr ⟨Hc.out, Hs.out, g3, by omega, by rw [Hy.out], by rw [Hy.out]; exact Hrow.out⟩), hb10⟩
end Go.Proofs.Ytjidllaaokdjhaa
