/- lag: the board of a curve and a chain. -/
import Derived.Test.YtjidllaaokdjhaaNA
namespace Go.Proofs.Ytjidllaaokdjhaa
open Go.RowKit Go.Shelf

attribute [local go_sem] Oper.semAt_some

@[reducible] def st10 (W : World) (b : Nat) (x0 x1 x2 x3 x4 x5 x6 x7 x8 x9 : Value) : World := ((((((((((W).setCell ⟨b, 0, none⟩ x0).setCell ⟨b, 1, none⟩ x1).setCell ⟨b, 2, none⟩ x2).setCell ⟨b, 3, none⟩ x3).setCell ⟨b, 4, none⟩ x4).setCell ⟨b, 5, none⟩ x5).setCell ⟨b, 6, none⟩ x6).setCell ⟨b, 7, none⟩ x7).setCell ⟨b, 8, none⟩ x8).setCell ⟨b, 9, none⟩ x9
theorem st10_below {w0 W : World} {b D : Nat} {x0 x1 x2 x3 x4 x5 x6 x7 x8 x9 : Value} (hb : Below D w0 W) (hD : D ≤ b) : Below D w0 (st10 W b x0 x1 x2 x3 x4 x5 x6 x7 x8 x9) :=
  (((((((((hb.setCell hD _).setCell hD _).setCell hD _).setCell hD _).setCell hD _).setCell hD _).setCell hD _).setCell hD _).setCell hD _).setCell hD _
theorem BrdAt.frozens {W : World} {b : Nat} {A : Option Addr} {n c : Nat} {q : Nat → Int} {A1 A2 : Option Addr} {n1 n2 c1 c2 : Nat} (h : BrdAt W b A n c q A1 A2 n1 n2 c1 c2) : W.frozen? ⟨b, 0, none⟩ = false ∧ W.frozen? ⟨b, 1, none⟩ = false ∧ W.frozen? ⟨b, 2, none⟩ = false ∧ W.frozen? ⟨b, 3, none⟩ = false ∧ W.frozen? ⟨b, 4, none⟩ = false ∧ W.frozen? ⟨b, 5, none⟩ = false ∧ W.frozen? ⟨b, 6, none⟩ = false ∧ W.frozen? ⟨b, 7, none⟩ = false ∧ W.frozen? ⟨b, 8, none⟩ = false ∧ W.frozen? ⟨b, 9, none⟩ = false := by simp [World.frozen?, h]
theorem BrdAt.alloc {W : World} {b : Nat} {A : Option Addr} {n c : Nat} {q : Nat → Int} {A1 A2 : Option Addr} {n1 n2 c1 c2 : Nat} (h : BrdAt W b A n c q A1 A2 n1 n2 c1 c2) (o : Obj) : BrdAt (W.alloc o) b A n c q A1 A2 n1 n2 c1 c2 := (Below.heap_alloc _ _ _ h.lt).trans h
theorem BrdAt.st10 {W : World} {b : Nat} {A' : Option Addr} {n' c' : Nat} {q' : Nat → Int} {A1' A2' : Option Addr} {n1' n2' c1' c2' : Nat} {A : Option Addr} {n c : Nat} {q : Nat → Int} {A1 A2 : Option Addr} {n1 n2 c1 c2 : Nat} (h : BrdAt W b A' n' c' q' A1' A2' n1' n2' c1' c2') : BrdAt (st10 W b (.slice A n c) (.int .i64 (q 0)) (.int .i64 (q 1)) (.int .i64 (q 2)) (.int .i64 (q 3)) (.int .i64 (q 4)) (.int .i64 (q 5)) (.int .i64 (q 6)) (.slice A1 n1 c1) (.slice A2 n2 c2)) b A n c q A1 A2 n1 n2 c1 c2 := by
  show (World.heap _)[b]? = _
  simp [World.setCell, Array.getElem?_modify, h]
theorem RowZ.st10 {W : World} {b g : Nat} {row : List Int} {x0 x1 x2 x3 x4 x5 x6 x7 x8 x9 : Value} (h : RowZ W g row) (hne : g ≠ b) : RowZ (st10 W b x0 x1 x2 x3 x4 x5 x6 x7 x8 x9) g row :=
  (((((((((h.other hne _ _).other hne _ _).other hne _ _).other hne _ _).other hne _ _).other hne _ _).other hne _ _).other hne _ _).other hne _ _).other hne _ _
theorem boardOf_results (W : World) (tmps : Array Value) (b : Nat) (A : Option Addr) (n c : Nat) (q : Nat → Int) (A1 A2 : Option Addr) (n1 n2 c1 c2 : Nat) (e : Value) (h : BrdAt W b A n c q A1 A2 n1 n2 c1 c2) (t : tmps.getD 4 undef = .pointer (some ⟨b, 0, none⟩)) (t5 : tmps.getD 5 undef = e) :
    (results Try.f85 tmps).run Try.prog W = .ok (.tuple #[brdV A n c q A1 A2 n1 n2 c1 c2, e]) W := by
  obtain ⟨c0, c1, c2, c3, c4, c5, c6, c7, c8, c9⟩ := h.cells
  simp only [Array.getD_eq_getD_getElem?] at t t5
  simp [results, Try.results85, go_sem, t, t5, c0, c1, c2, c3, c4, c5, c6, c7, c8, c9]
/-- The error of a curve and a chain. -/
def boardE (cs : List Int) (css : List (List Int)) : Int := if curveF cs ≠ 0 then curveF cs else if chainF css ≠ 0 then chainF css else if slowF (chainRate css) (sourceRate (fewQ cs)) = true then 18 else 0
def BoardP (cs : List Int) (css : List (List Int)) (A : Option Addr) (n c n0 : Nat) (w' : World) (e : Ending) : Prop :=
  (boardE cs css ≠ 0 ∧ e = .returned (.tuple #[brdV none 0 0 (fun _ => 0) none none 0 0 0 0, .int .i64 (boardE cs css)])) ∨
  (boardE cs css = 0 ∧ ∃ g1 g2 : Nat, n0 ≤ g1 ∧ n0 ≤ g2 ∧ e = .returned (.tuple #[brdV A n c (fewQ cs) (some ⟨g1, 0, none⟩) (some ⟨g2, 0, none⟩) 121 121 121 121, .int .i64 0]) ∧ RowZ w' g1 (mostL cs 120) ∧ RowZ w' g2 (lvlR 121 css (css.length - 1) 121))
set_option maxRecDepth 100000 in
set_option maxHeartbeats 8000000 in
theorem boardOf_any (w : World) (B B2 : Nat) (A A2 : Option Addr) (n c K c2 : Nat) (xs : List Int) (css : List (List Int)) (hx : IntsAt w B A n xs) (hB : B ≤ w.heap.size) (hy : RowsAt w B2 A2 K css) (hB2 : B2 ≤ w.heap.size) :
    Calls Try.prog 85 #[.slice A n c, .slice A2 K c2] w fun e w' => BoardP xs css A n c w.heap.size w' e ∧ Below w.heap.size w w' := by
  have hm := hx.small
  have hm2 := hy.2.1
  have hyl := hy.1
  obtain ⟨V, hV⟩ : ∃ V, V = w.alloc (.cells (brdC none 0 0 (fun _ => 0) none none 0 0 0 0) 108) := ⟨_, rfl⟩
  have hb0 : Below w.heap.size w V := by rw [hV]; exact (Below.refl _ w).alloc (Nat.le_refl _) _
  have x4 : BrdAt V w.heap.size none 0 0 (fun _ => 0) none none 0 0 0 0 := by rw [hV]; exact BrdAt.new w
  have Hy := Lib.hid hyl
  clear hyl
  go_enter Try.func85, Try.ntmps85
  go_wp2_with (fail)
  rw [← hV]
  clear hV
  refine (checkCurve_any V B A n c xs (hx.below hb0 hB) (by have := hb0.size; omega)).mono ?_
  rintro e w1 ⟨rfl, hb1⟩
  have y4 := x4.below hb1 x4.lt
  have hB1 := hb0.trans (hb1.mono hb0.size)
  clear x4 hb0 hb1
  obtain ⟨r, hr⟩ : ∃ r, r = curveF xs := ⟨_, rfl⟩
  rw [← hr]
  by_cases h0 : r = 0
  case neg =>
    have hne : (r != 0) = true := by rw [bne_iff_ne]; exact h0
    have hbe : boardE xs css = r := by unfold boardE; rw [if_pos (by rw [← hr]; exact h0), hr]
    have Hr := Lib.hid (And.intro hbe h0)
    clear hr h0 hbe
    obtain ⟨k0, k1, k2, k3, k4, k5, k6, k7, k8, k9⟩ := y4.cells
    obtain ⟨f0, f1, f2, f3, f4, f5, f6, f7, f8, f9⟩ := y4.frozens
    have fin := y4.st10 (A := none) (n := 0) (c := 0) (q := fun _ => 0) (A1 := none) (A2 := none) (n1 := 0) (n2 := 0) (c1 := 0) (c2 := 0)
    have hBf := st10_below (b := w.heap.size) (x0 := (.slice none 0 0)) (x1 := (.int .i64 0)) (x2 := (.int .i64 0)) (x3 := (.int .i64 0)) (x4 := (.int .i64 0)) (x5 := (.int .i64 0)) (x6 := (.int .i64 0)) (x7 := (.int .i64 0)) (x8 := (.slice none 0 0)) (x9 := (.slice none 0 0)) hB1 (Nat.le_refl _)
    clear y4 hB1
    go_wp2_with (fail)
    refine bodyPost_ret (v := .tuple #[brdV none 0 0 (fun _ => 0) none none 0 0 0 0, .int .i64 r]) (boardOf_results _ _ w.heap.size none 0 0 (fun _ => 0) none none 0 0 0 0 _ fin (by simp) (by simp)) rfl ⟨.inl ?_, hBf⟩
    exact ⟨by rw [Hr.out.1]; exact Hr.out.2, by rw [Hr.out.1]⟩
  case pos =>
    subst h0
    have Hc := Lib.hid hr.symm
    clear hr
    go_wp2_with (fail)
    refine (checkChain_any w1 B2 A2 K c2 css (hy.below hB1 hB2) (by have := hB1.size; omega)).mono ?_
    rintro e w2 ⟨rfl, hb2⟩
    have z4 := y4.below hb2 y4.lt
    have hB2' := hB1.trans (hb2.mono hB1.size)
    clear y4 hB1 hb2
    obtain ⟨r, hr⟩ : ∃ r, r = chainF css := ⟨_, rfl⟩
    rw [← hr]
    by_cases h0 : r = 0
    case neg =>
      have hne : (r != 0) = true := by rw [bne_iff_ne]; exact h0
      have hbe : boardE xs css = r := by unfold boardE; rw [if_neg (by rw [Hc.out]; simp), if_pos (by rw [← hr]; exact h0), hr]
      have Hr := Lib.hid (And.intro hbe h0)
      clear hr h0 hbe
      obtain ⟨k0, k1, k2, k3, k4, k5, k6, k7, k8, k9⟩ := z4.cells
      obtain ⟨f0, f1, f2, f3, f4, f5, f6, f7, f8, f9⟩ := z4.frozens
      have fin := z4.st10 (A := none) (n := 0) (c := 0) (q := fun _ => 0) (A1 := none) (A2 := none) (n1 := 0) (n2 := 0) (c1 := 0) (c2 := 0)
      have hBf := st10_below (b := w.heap.size) (x0 := (.slice none 0 0)) (x1 := (.int .i64 0)) (x2 := (.int .i64 0)) (x3 := (.int .i64 0)) (x4 := (.int .i64 0)) (x5 := (.int .i64 0)) (x6 := (.int .i64 0)) (x7 := (.int .i64 0)) (x8 := (.slice none 0 0)) (x9 := (.slice none 0 0)) hB2' (Nat.le_refl _)
      clear z4 hB2'
      go_wp2_with (fail)
      refine bodyPost_ret (v := .tuple #[brdV none 0 0 (fun _ => 0) none none 0 0 0 0, .int .i64 r]) (boardOf_results _ _ w.heap.size none 0 0 (fun _ => 0) none none 0 0 0 0 _ fin (by simp) (by simp)) rfl ⟨.inl ?_, hBf⟩
      exact ⟨by rw [Hr.out.1]; exact Hr.out.2, by rw [Hr.out.1]⟩
    case pos =>
      subst h0
      have Hch := Lib.hid hr.symm
      clear hr
      have hz2 := hB2'.size
      go_wp2_with (fail)
      refine (sourceOf_any w2 B A n c xs (hx.below hB2' hB) (by omega) (nums_of Hc.out)).mono ?_
      rintro e w3 ⟨rfl, hb3⟩
      have v4 := z4.below hb3 z4.lt
      have hB3 := hB2'.trans (hb3.mono hz2)
      have hz3 := hB3.size
      obtain ⟨q, hq⟩ : ∃ q, q = fewQ xs := ⟨_, rfl⟩
      rw [← hq]
      have hfs := few_small Hc.out
      have hfn := few_nums Hc.out
      have hbe : boardE xs css = if slowF (chainRate css) (sourceRate q) = true then 18 else 0 := by unfold boardE; rw [if_neg (by rw [Hc.out]; simp), if_neg (by rw [Hch.out]; simp), ← hq]
      rw [← hq] at hfs hfn
      have Hq := Lib.hid (And.intro hq (And.intro hfs (And.intro hfn hbe)))
      obtain ⟨n1, n2, n3⟩ := chain_nums Hch.out
      rw [Hy.out] at n1 n2
      have hall : ∀ cs ∈ css, Nums cs := fun cs h => by
        obtain ⟨j, hj, rfl⟩ := List.getElem_of_mem h
        have := n3 j hj
        rwa [List.getElem?_eq_getElem hj] at this
      have Hn := Lib.hid (And.intro n3 hall)
      obtain ⟨V8, hV8⟩ : ∃ V8, V8 = w3.alloc (.cells (brdC A n c q none none 0 0 0 0) 108) := ⟨_, rfl⟩
      have hB4 : Below w.heap.size w V8 := by rw [hV8]; exact hB3.alloc hz3 _
      have u4 : BrdAt V8 w.heap.size none 0 0 (fun _ => 0) none none 0 0 0 0 := by rw [hV8]; exact v4.alloc _
      have u8 : BrdAt V8 w3.heap.size A n c q none none 0 0 0 0 := by rw [hV8]; exact BrdAt.new w3
      have hne8 : w.heap.size < w3.heap.size := v4.lt
      clear hq hfs hfn hbe n3 hall z4 v4 hB2' hb3 hB3
      go_wp2_with (fail)
      rw [← hV8]
      clear hV8
      have l8 := u8.lt
      have dd : ∀ W, Below V8.heap.size V8.drew W → BrdAt W w3.heap.size A n c q none none 0 0 0 0 := fun W h => BrdAt.below (W := V8.drew) u8 h l8
      refine region_held_wp 1 (fun W' => Below V8.heap.size V8.drew W') (fun j => decide (j = 1)) (by kernel_rfl) ?_
      intro KR hKR
      have hS : Below V8.heap.size V8.drew V8.drew := Below.refl _ _
      refine wpAnyHI_takeW (i := 0) (v := .slice A2 K c2) (some 24) rfl rfl (by kernel_rfl) (by kernel_rfl) (by kernel_rfl) (by kernel_rfl) (fun _ _ _ h => h) (.inl ⟨by kernel_rfl, fun W' hS' => ?_⟩) ?_
      · go_simp
      refine wpAnyHI_takeW (i := 2) (v := .pointer (some ⟨w3.heap.size, 0, none⟩)) (some 26) rfl rfl (by kernel_rfl) (by kernel_rfl) (by kernel_rfl) (by kernel_rfl) (fun _ _ _ h => h) (.inl ⟨by kernel_rfl, fun W' hS' => ?_⟩) ?_
      · go_simp
      refine wpAnyHI_takeE (i := 3) (v := srcV A n c q) (some 27) rfl rfl (by kernel_rfl) (by kernel_rfl) (by kernel_rfl) (by kernel_rfl) (by kernel_rfl) (fun _ _ _ h => h) hS (.inl ⟨by kernel_rfl, fun W' hS' => ?_⟩) ?_
      · obtain ⟨q0, q1, q2, q3, q4, q5, q6, q7, -, -⟩ := (dd W' hS').cells; go_simp
      refine wpAnyHI_one (i := 1) rfl (by kernel_rfl) ?_
      intro K1 hK1
      go_simp
      have hbd : Below w.heap.size w V8.drew := hB4.trans (below_drew V8)
      have hzd : w.heap.size ≤ V8.drew.heap.size := hbd.size
      refine ⟨trivial, (callsIn_wide.2 (shaftsRate_any V8.drew B2 A2 K c2 css (hy.below hbd hB2) (by omega) (by omega) Hn.out.2)).mono ?_⟩
      rintro e w5 ⟨rfl, hb5⟩
      refine hK1 _ _ ⟨fun _ => hb5, ?_⟩
      clear hK1 K1
      have hB5 := hbd.trans (hb5.mono hzd)
      refine wpAnyHI_one (i := 4) rfl (by kernel_rfl) ?_
      intro K1 hK1
      go_simp
      refine ⟨trivial, (callsIn_wide.2 (sourceRate_any w5 A n c q Hq.out.2.1)).mono ?_⟩
      rintro e w6 ⟨rfl, hb6⟩
      refine hK1 _ _ ⟨fun h => absurd h (by simp), ?_⟩
      clear hK1 K1
      have hB6 := hB5.trans (hb6.mono hB5.size)
      refine wpAnyHI_one (i := 5) rfl (by kernel_rfl) ?_
      intro K1 hK1
      go_simp
      refine ⟨trivial, (callsIn_wide.2 (slower_any w6 (chainRate css) (sourceRate q))).mono ?_⟩
      rintro e w7 ⟨rfl, hb7⟩
      refine hK1 _ _ ⟨fun h => absurd h (by simp), ?_⟩
      clear hK1 K1
      have hB7 := hB6.trans (hb7.mono hB6.size)
      have hb67 := hb5.trans ((hb6.mono hb5.size).trans (hb7.mono (Nat.le_trans hb5.size hb6.size)))
      have t8 := dd w7 hb67
      have t4 : BrdAt w7 w.heap.size none 0 0 (fun _ => 0) none none 0 0 0 0 := BrdAt.below (W := V8.drew) u4 hb67 u4.lt
      have hz67 := hb67.size
      have l87 := t8.lt
      clear dd u4 u8 hS hb5 hb6 hb7 hB5 hB6 hbd hB4 hb67
      refine wpAnyHI_end (by kernel_rfl) ?_
      show KR _ _
      go_simp
      refine hKR _ _ ?_
      obtain ⟨sl, hsl⟩ : ∃ sl, sl = slowF (chainRate css) (sourceRate q) := ⟨_, rfl⟩
      rw [← hsl]
      have hbe := Hq.out.2.2.2
      rw [← hsl] at hbe
      have Hbe := Lib.hid hbe
      clear hsl hbe
      have hz7 := hB7.size
      cases sl with
      | true =>
        obtain ⟨k0, k1, k2, k3, k4, k5, k6, k7, k8, k9⟩ := t4.cells
        obtain ⟨f0, f1, f2, f3, f4, f5, f6, f7, f8, f9⟩ := t4.frozens
        have fin := t4.st10 (A := none) (n := 0) (c := 0) (q := fun _ => 0) (A1 := none) (A2 := none) (n1 := 0) (n2 := 0) (c1 := 0) (c2 := 0)
        have hBf := st10_below (b := w.heap.size) (x0 := (.slice none 0 0)) (x1 := (.int .i64 0)) (x2 := (.int .i64 0)) (x3 := (.int .i64 0)) (x4 := (.int .i64 0)) (x5 := (.int .i64 0)) (x6 := (.int .i64 0)) (x7 := (.int .i64 0)) (x8 := (.slice none 0 0)) (x9 := (.slice none 0 0)) hB7 (Nat.le_refl _)
        clear t4 hB7 t8
        go_wp2_with (fail)
        refine bodyPost_ret (v := .tuple #[brdV none 0 0 (fun _ => 0) none none 0 0 0 0, .int .i64 18]) (boardOf_results _ _ w.heap.size none 0 0 (fun _ => 0) none none 0 0 0 0 _ fin (by simp) (by simp)) rfl ⟨.inl ?_, hBf⟩
        exact ⟨by rw [Hbe.out]; simp, by rw [Hbe.out]; rfl⟩
      | false =>
        obtain ⟨k0, k1, k2, k3, k4, k5, k6, k7, -, -⟩ := t8.cells
        go_wp2_with (fail)
        clear k0 k1 k2 k3 k4 k5 k6 k7
        have key : Calls Try.prog 64 #[srcV A n c q, .int .i64 120] w7 fun e w' => ∃ g, w7.heap.size ≤ g ∧ e = .returned (.slice (some ⟨g, 0, none⟩) 121 121) ∧ RowZ w' g (sumsT (fewL q) 120) ∧ Below w7.heap.size w7 w' := most_any w7 A n c 120 q Hq.out.2.2.1 (by omega)
        refine key.mono ?_
        rintro e w8 ⟨g1, hg1, rfl, hr1, hb8⟩
        have s8 := t8.below hb8 t8.lt
        have s4 := t4.below hb8 t4.lt
        have hB8 := hB7.trans (hb8.mono hz7)
        have hz8 := hb8.size
        clear t8 t4 hB7 key hb8
        go_wp2_with (fail)
        have key : Calls Try.prog 66 #[.slice A2 K c2, .int .i64 120] w8 fun e w' => ∃ g, w8.heap.size ≤ g ∧ e = .returned (.slice (some ⟨g, 0, none⟩) 121 121) ∧ RowZ w' g (lvlR 121 css (K - 1) 121) ∧ Below w8.heap.size w8 w' := chainLeast_any w8 B2 A2 K c2 120 css (hy.below hB8 hB2) (by omega) Hn.out.1 n1 (by omega) (by omega)
        refine key.mono ?_
        rintro e w9 ⟨g2, hg2, rfl, hr2, hb9⟩
        have r8 := s8.below hb9 s8.lt
        have r4 := s4.below hb9 s4.lt
        have hr1' := hr1.below hb9 hr1.lt
        have hB9 := hB8.trans (hb9.mono hB8.size)
        clear s8 s4 hB8 key hb9 hr1
        obtain ⟨k0, k1, k2, k3, k4, k5, k6, k7, k8, k9⟩ := r8.cells
        obtain ⟨-, -, -, -, -, -, -, -, f8, f9⟩ := r8.frozens
        obtain ⟨j0, j1, j2, j3, j4, j5, j6, j7, j8, j9⟩ := r4.cells
        obtain ⟨i0, i1, i2, i3, i4, i5, i6, i7, i8, i9⟩ := r4.frozens
        have r4' : BrdAt ((w9.setCell ⟨w3.heap.size, 8, none⟩ (.slice (some ⟨g1, 0, none⟩) 121 121)).setCell ⟨w3.heap.size, 9, none⟩ (.slice (some ⟨g2, 0, none⟩) 121 121)) w.heap.size none 0 0 (fun _ => 0) none none 0 0 0 0 := (Below.heap_setCell _ ⟨w3.heap.size, 9, none⟩ _ _ (show w.heap.size ≠ w3.heap.size by omega)).trans ((Below.heap_setCell _ ⟨w3.heap.size, 8, none⟩ _ _ (show w.heap.size ≠ w3.heap.size by omega)).trans r4)
        have hB10 : Below w.heap.size w ((w9.setCell ⟨w3.heap.size, 8, none⟩ (.slice (some ⟨g1, 0, none⟩) 121 121)).setCell ⟨w3.heap.size, 9, none⟩ (.slice (some ⟨g2, 0, none⟩) 121 121)) := (hB9.setCell (p := ⟨w3.heap.size, 8, none⟩) hz3 _).setCell (p := ⟨w3.heap.size, 9, none⟩) hz3 _
        have q1 : RowZ ((w9.setCell ⟨w3.heap.size, 8, none⟩ (.slice (some ⟨g1, 0, none⟩) 121 121)).setCell ⟨w3.heap.size, 9, none⟩ (.slice (some ⟨g2, 0, none⟩) 121 121)) g1 (sumsT (fewL q) 120) := (hr1'.other (by omega) _ _).other (by omega) _ _
        have q2 : RowZ ((w9.setCell ⟨w3.heap.size, 8, none⟩ (.slice (some ⟨g1, 0, none⟩) 121 121)).setCell ⟨w3.heap.size, 9, none⟩ (.slice (some ⟨g2, 0, none⟩) 121 121)) g2 (lvlR 121 css (K - 1) 121) := (hr2.other (by omega) _ _).other (by omega) _ _
        have fin := r4'.st10 (A := A) (n := n) (c := c) (q := q) (A1 := some ⟨g1, 0, none⟩) (A2 := some ⟨g2, 0, none⟩) (n1 := 121) (n2 := 121) (c1 := 121) (c2 := 121)
        have hBf := st10_below (b := w.heap.size) (x0 := (.slice A n c)) (x1 := (.int .i64 (q 0))) (x2 := (.int .i64 (q 1))) (x3 := (.int .i64 (q 2))) (x4 := (.int .i64 (q 3))) (x5 := (.int .i64 (q 4))) (x6 := (.int .i64 (q 5))) (x7 := (.int .i64 (q 6))) (x8 := (.slice (some ⟨g1, 0, none⟩) 121 121)) (x9 := (.slice (some ⟨g2, 0, none⟩) 121 121)) hB10 (Nat.le_refl _)
        have Q1 := Lib.hid (q1.st10 (b := w.heap.size) (x0 := (.slice A n c)) (x1 := (.int .i64 (q 0))) (x2 := (.int .i64 (q 1))) (x3 := (.int .i64 (q 2))) (x4 := (.int .i64 (q 3))) (x5 := (.int .i64 (q 4))) (x6 := (.int .i64 (q 5))) (x7 := (.int .i64 (q 6))) (x8 := (.slice (some ⟨g1, 0, none⟩) 121 121)) (x9 := (.slice (some ⟨g2, 0, none⟩) 121 121)) (by omega))
        have Q2 := Lib.hid (q2.st10 (b := w.heap.size) (x0 := (.slice A n c)) (x1 := (.int .i64 (q 0))) (x2 := (.int .i64 (q 1))) (x3 := (.int .i64 (q 2))) (x4 := (.int .i64 (q 3))) (x5 := (.int .i64 (q 4))) (x6 := (.int .i64 (q 5))) (x7 := (.int .i64 (q 6))) (x8 := (.slice (some ⟨g1, 0, none⟩) 121 121)) (x9 := (.slice (some ⟨g2, 0, none⟩) 121 121)) (by omega))
        clear r4' hB10 q1 q2 r8 r4 hr1' hr2 hB9
        go_wp2_with (fail)
        refine bodyPost_ret (v := .tuple #[brdV A n c q (some ⟨g1, 0, none⟩) (some ⟨g2, 0, none⟩) 121 121 121 121, .int .i64 0]) (boardOf_results _ _ w.heap.size _ _ _ _ _ _ _ _ _ _ _ fin (by simp) (by simp)) rfl ⟨.inr ⟨by rw [Hbe.out]; rfl, g1, g2, by omega, by omega, ?_, ?_, ?_⟩, hBf⟩
        · rw [← Hq.out.1]
        · unfold mostL
          rw [← Hq.out.1]
          exact Q1.out
        · rw [Hy.out]
          exact Q2.out
end Go.Proofs.Ytjidllaaokdjhaa
