/- Parts of a proof: NA NB NC ND NE NF. -/
import Derived.Test.YtlgibckhkdggdaaH8

/- lag: Least. -/
namespace Go.Proofs.Ytlgibckhkdggdaa
open Go.RowKit Go.Shelf

attribute [local go_sem] Oper.semAt_some

theorem first_zero {f : List Int → Int} : ∀ {css : List (List Int)}, firstE f css = 0 → ∀ cs ∈ css, f cs = 0
  | [], _, _, h => by cases h
  | c :: l, h0, cs, h => by
    rw [firstE] at h0
    split at h0
    · rename_i hc
      exact absurd h0 hc
    · rename_i hc
      rcases List.mem_cons.1 h with rfl | h
      · exact Classical.not_not.1 hc
      · exact first_zero h0 cs h
theorem chain_nums {css : List (List Int)} (h : chainF css = 0) : 1 ≤ css.length ∧ css.length ≤ 3 ∧ ∀ j, j < css.length → Nums (css[j]?.getD []) := by
  unfold chainF at h
  split at h
  · cases h
  · rename_i h1
    refine ⟨by omega, by omega, fun j hj => ?_⟩
    rw [List.getElem?_eq_getElem hj]
    exact nums_of (first_zero h _ (List.getElem_mem _))
theorem Least_results (W : World) (tmps : Array Value) (a b : Value) (h4 : tmps.getD 4 undef = a) (h5 : tmps.getD 5 undef = b) :
    (results Try.f22 tmps).run Try.prog W = .ok (.tuple #[a, b]) W := by
  simp only [Array.getD_eq_getD_getElem?] at h4 h5
  simp [results, Try.results22, go_sem, h4, h5]
def leastR (css : List (List Int)) (t : Int) : Int × Int := if chainF css ≠ 0 then (0, chainF css) else if ¬ (0 ≤ t ∧ t ≤ 200) then (0, 3) else (lvl css (css.length - 1) t.toNat, 0)
set_option maxRecDepth 100000 in
set_option maxHeartbeats 4000000 in
theorem Least_any (w : World) (B : Nat) (A : Option Addr) (K c : Nat) (css : List (List Int)) (t : Int) (hx : RowsAt w B A K css) (hB : B ≤ w.heap.size) :
    Calls Try.prog 22 #[.slice A K c, .int .i64 t] w fun e w' => e = .returned (.tuple #[.int .i64 (leastR css t).1, .int .i64 (leastR css t).2]) ∧ Below w.heap.size w w' := by
  have hm := hx.2.1
  go_enter Try.func22, Try.ntmps22
  go_wp2_with (fail)
  refine (checkChain_any w B A K c css hx hB).mono ?_
  rintro e w1 ⟨rfl, hb1⟩
  obtain ⟨r, hr⟩ : ∃ r, r = chainF css := ⟨_, rfl⟩
  rw [← hr]
  by_cases h0 : r = 0
  case neg =>
    have hne : (r != 0) = true := by rw [bne_iff_ne]; exact h0
    have Hr := Lib.hid (And.intro hr h0)
    clear hr h0
    go_wp2_with (fail)
    refine bodyPost_ret (v := .tuple #[.int .i64 0, .int .i64 r]) (Least_results _ _ _ _ (by simp) (by simp)) rfl ?_
    refine ⟨?_, hb1⟩
    have e : leastR css t = (0, r) := by unfold leastR; rw [if_pos (by rw [← Hr.out.1]; exact Hr.out.2), Hr.out.1]
    rw [e]
  case pos =>
    subst h0
    have Hc := Lib.hid hr.symm
    clear hr
    have hz1 := hb1.size
    have ho := one_int (w1.alloc (.cells #[.int .i64 t] 2)) (w1.heap.size + 1) w1.heap.size t (by omega) (by simp)
    have hb2 : Below w.heap.size w (w1.alloc (.cells #[.int .i64 t] 2)) := hb1.alloc hz1 _
    go_wp2_with (fail)
    refine (within64_any 0 200 (w1.alloc (.cells #[.int .i64 t] 2)) (w1.heap.size + 1) (some ⟨w1.heap.size, 0, none⟩) 1 1 [t] ho (by simp)).mono ?_
    rintro e w2 ⟨rfl, hb3⟩
    have hb4 := hb2.trans (hb3.mono hb2.size)
    clear hb2 hb3 ho hb1
    rw [within_one]
    by_cases ht : 0 ≤ t ∧ t ≤ 200
    case neg =>
      have hd : (decide (0 ≤ t) && decide (t ≤ 200)) = false := by
        rw [← Bool.not_eq_true, Bool.and_eq_true, decide_eq_true_eq, decide_eq_true_eq]
        exact ht
      rw [hd]
      have Ht := Lib.hid ht
      clear ht hd
      go_wp2_with (fail)
      refine bodyPost_ret (v := .tuple #[.int .i64 0, .int .i64 3]) (Least_results _ _ _ _ (by simp) (by simp)) rfl ?_
      refine ⟨?_, hb4⟩
      have e : leastR css t = (0, 3) := by unfold leastR; rw [if_neg (by rw [Hc.out]; simp), if_pos Ht.out]
      rw [e]
    case pos =>
      have hd : (decide (0 ≤ t) && decide (t ≤ 200)) = true := by simp [ht]
      rw [hd]
      obtain ⟨k, hk⟩ : ∃ k : Nat, t = (k : Int) := ⟨t.toNat, by omega⟩
      subst hk
      have hk2 : k ≤ 200 := by omega
      have hcl := hx.1
      have hlr : leastR css (k : Int) = (lvl css (K - 1) k, 0) := by unfold leastR; rw [if_neg (by rw [Hc.out]; simp), if_neg (by omega), hcl]; rfl
      obtain ⟨n1, n2, n3⟩ := chain_nums Hc.out
      rw [hcl] at n1 n2
      have Hm := Lib.hid (And.intro n3 hlr)
      clear ht hd hcl hlr n3
      go_wp2_with (fail)
      refine (chainLeast_any w2 B A K c k css (hx.below hb4 hB) (by have := hb4.size; omega) Hm.out.1 n1 (by omega) (by omega)).mono ?_
      rintro e w4 ⟨g, hg, rfl, hrow, hb7⟩
      have hb8 := hb4.trans (hb7.mono hb4.size)
      have e1 := hrow.cell (j := k) (by rw [lvlR_len]; omega)
      have hkl : (k : Int) < (k : Int) + 1 := by omega
      have hy : (lvlR (k + 1) css (K - 1) (k + 1))[k]?.getD 0 = lvl css (K - 1) k := by simp [lvlR]
      rw [hy] at e1
      obtain ⟨y, hye⟩ : ∃ y, y = lvl css (K - 1) k := ⟨_, rfl⟩
      rw [← hye] at e1
      have Hy := Lib.hid hye
      clear hy hye hb4 hb7 hrow
      go_wp2_with (fail)
      refine bodyPost_ret (v := .tuple #[.int .i64 y, .int .i64 0]) (Least_results _ _ _ _ (by simp) (by simp)) rfl ?_
      refine ⟨?_, hb8⟩
      rw [Hm.out.2, Hy.out]
end Go.Proofs.Ytlgibckhkdggdaa

/- lag: the board of a curve and a chain. -/
namespace Go.Proofs.Ytlgibckhkdggdaa
open Go.RowKit Go.Shelf

attribute [local go_sem] Oper.semAt_some

@[reducible] def st10 (W : World) (b : Nat) (x0 x1 x2 x3 x4 x5 x6 x7 x8 x9 : Value) : World := ((((((((((W).setCell ⟨b, 0, none⟩ x0).setCell ⟨b, 1, none⟩ x1).setCell ⟨b, 2, none⟩ x2).setCell ⟨b, 3, none⟩ x3).setCell ⟨b, 4, none⟩ x4).setCell ⟨b, 5, none⟩ x5).setCell ⟨b, 6, none⟩ x6).setCell ⟨b, 7, none⟩ x7).setCell ⟨b, 8, none⟩ x8).setCell ⟨b, 9, none⟩ x9
theorem st10_below {w0 W : World} {b D : Nat} {x0 x1 x2 x3 x4 x5 x6 x7 x8 x9 : Value} (hb : Below D w0 W) (hD : D ≤ b) : Below D w0 (st10 W b x0 x1 x2 x3 x4 x5 x6 x7 x8 x9) :=
  (((((((((hb.setCell hD _).setCell hD _).setCell hD _).setCell hD _).setCell hD _).setCell hD _).setCell hD _).setCell hD _).setCell hD _).setCell hD _
theorem BrdAt.frozens {W : World} {b : Nat} {A : Option Addr} {n c : Nat} {q : Nat → Int} {A1 A2 : Option Addr} {n1 n2 c1 c2 : Nat} (h : BrdAt W b A n c q A1 A2 n1 n2 c1 c2) : W.frozen? ⟨b, 0, none⟩ = false ∧ W.frozen? ⟨b, 1, none⟩ = false ∧ W.frozen? ⟨b, 2, none⟩ = false ∧ W.frozen? ⟨b, 3, none⟩ = false ∧ W.frozen? ⟨b, 4, none⟩ = false ∧ W.frozen? ⟨b, 5, none⟩ = false ∧ W.frozen? ⟨b, 6, none⟩ = false ∧ W.frozen? ⟨b, 7, none⟩ = false ∧ W.frozen? ⟨b, 8, none⟩ = false ∧ W.frozen? ⟨b, 9, none⟩ = false := by simp [World.frozen?, h]
theorem BrdAt.alloc {W : World} {b : Nat} {A : Option Addr} {n c : Nat} {q : Nat → Int} {A1 A2 : Option Addr} {n1 n2 c1 c2 : Nat} (h : BrdAt W b A n c q A1 A2 n1 n2 c1 c2) (o : Obj) : BrdAt (W.alloc o) b A n c q A1 A2 n1 n2 c1 c2 := (Below.heap_alloc _ _ _ h.lt).trans h
theorem BrdAt.st10 {W : World} {b : Nat} {A' : Option Addr} {n' c' : Nat} {q' : Nat → Int} {A1' A2' : Option Addr} {n1' n2' c1' c2' : Nat} {A : Option Addr} {n c : Nat} {q : Nat → Int} {A1 A2 : Option Addr} {n1 n2 c1 c2 : Nat} (h : BrdAt W b A' n' c' q' A1' A2' n1' n2' c1' c2') : BrdAt (st10 W b (.slice A n c) (.int .i64 (q 0)) (.int .i64 (q 1)) (.int .i64 (q 2)) (.int .i64 (q 3)) (.int .i64 (q 4)) (.int .i64 (q 5)) (.int .i64 (q 6)) (.slice A1 n1 c1) (.slice A2 n2 c2)) b A n c q A1 A2 n1 n2 c1 c2 := by
  show (World.heap _)[b]? = _
  simp [World.setCell, Array.getElem?_modify, h]
theorem RowZ.st10 {W : World} {b g : Nat} {row : List Int} {x0 x1 x2 x3 x4 x5 x6 x7 x8 x9 : Value} (h : RowZ W g row) (hne : g ≠ b) : RowZ (st10 W b x0 x1 x2 x3 x4 x5 x6 x7 x8 x9) g row :=
  (((((((((h.other hne _ _).other hne _ _).other hne _ _).other hne _ _).other hne _ _).other hne _ _).other hne _ _).other hne _ _).other hne _ _).other hne _ _
theorem boardOf_results (W : World) (tmps : Array Value) (b : Nat) (A : Option Addr) (n c : Nat) (q : Nat → Int) (A1 A2 : Option Addr) (n1 n2 c1 c2 : Nat) (e : Value) (h : BrdAt W b A n c q A1 A2 n1 n2 c1 c2) (t : tmps.getD 4 undef = .pointer (some ⟨b, 0, none⟩)) (t5 : tmps.getD 5 undef = e) :
    (results Try.f85 tmps).run Try.prog W = .ok (.tuple #[brdV A n c q A1 A2 n1 n2 c1 c2, e]) W := by
  obtain ⟨c0, c1, c2, c3, c4, c5, c6, c7, c8, c9⟩ := h.cells
  simp only [Array.getD_eq_getD_getElem?] at t t5
  simp [results, Try.results85, go_sem, t, t5, c0, c1, c2, c3, c4, c5, c6, c7, c8, c9]
/-- The error of a curve and a chain. -/
def boardE (cs : List Int) (css : List (List Int)) : Int := if curveF cs ≠ 0 then curveF cs else if chainF css ≠ 0 then chainF css else if slowF (chainRate css) (sourceRate (fewQ cs)) = true then 18 else 0
def BoardP (cs : List Int) (css : List (List Int)) (A : Option Addr) (n c n0 : Nat) (w' : World) (e : Ending) : Prop :=
  (boardE cs css ≠ 0 ∧ e = .returned (.tuple #[brdV none 0 0 (fun _ => 0) none none 0 0 0 0, .int .i64 (boardE cs css)])) ∨
  (boardE cs css = 0 ∧ ∃ g1 g2 : Nat, n0 ≤ g1 ∧ n0 ≤ g2 ∧ e = .returned (.tuple #[brdV A n c (fewQ cs) (some ⟨g1, 0, none⟩) (some ⟨g2, 0, none⟩) 121 121 121 121, .int .i64 0]) ∧ RowZ w' g1 (mostL cs 120) ∧ RowZ w' g2 (lvlR 121 css (css.length - 1) 121))
set_option maxRecDepth 100000 in
set_option maxHeartbeats 8000000 in
theorem boardOf_any (w : World) (B B2 : Nat) (A A2 : Option Addr) (n c K c2 : Nat) (xs : List Int) (css : List (List Int)) (hx : IntsAt w B A n xs) (hB : B ≤ w.heap.size) (hy : RowsAt w B2 A2 K css) (hB2 : B2 ≤ w.heap.size) :
    Calls Try.prog 85 #[.slice A n c, .slice A2 K c2] w fun e w' => BoardP xs css A n c w.heap.size w' e ∧ Below w.heap.size w w' := by
  have hm := hx.small
  have hm2 := hy.2.1
  have hyl := hy.1
  obtain ⟨V, hV⟩ : ∃ V, V = w.alloc (.cells (brdC none 0 0 (fun _ => 0) none none 0 0 0 0) 108) := ⟨_, rfl⟩
  have hb0 : Below w.heap.size w V := by rw [hV]; exact (Below.refl _ w).alloc (Nat.le_refl _) _
  have x4 : BrdAt V w.heap.size none 0 0 (fun _ => 0) none none 0 0 0 0 := by rw [hV]; exact BrdAt.new w
  have Hy := Lib.hid hyl
  clear hyl
  go_enter Try.func85, Try.ntmps85
  go_wp2_with (fail)
  rw [← hV]
  clear hV
  refine (checkCurve_any V B A n c xs (hx.below hb0 hB) (by have := hb0.size; omega)).mono ?_
  rintro e w1 ⟨rfl, hb1⟩
  have y4 := x4.below hb1 x4.lt
  have hB1 := hb0.trans (hb1.mono hb0.size)
  clear x4 hb0 hb1
  obtain ⟨r, hr⟩ : ∃ r, r = curveF xs := ⟨_, rfl⟩
  rw [← hr]
  by_cases h0 : r = 0
  case neg =>
    have hne : (r != 0) = true := by rw [bne_iff_ne]; exact h0
    have hbe : boardE xs css = r := by unfold boardE; rw [if_pos (by rw [← hr]; exact h0), hr]
    have Hr := Lib.hid (And.intro hbe h0)
    clear hr h0 hbe
    obtain ⟨k0, k1, k2, k3, k4, k5, k6, k7, k8, k9⟩ := y4.cells
    obtain ⟨f0, f1, f2, f3, f4, f5, f6, f7, f8, f9⟩ := y4.frozens
    have fin := y4.st10 (A := none) (n := 0) (c := 0) (q := fun _ => 0) (A1 := none) (A2 := none) (n1 := 0) (n2 := 0) (c1 := 0) (c2 := 0)
    have hBf := st10_below (b := w.heap.size) (x0 := (.slice none 0 0)) (x1 := (.int .i64 0)) (x2 := (.int .i64 0)) (x3 := (.int .i64 0)) (x4 := (.int .i64 0)) (x5 := (.int .i64 0)) (x6 := (.int .i64 0)) (x7 := (.int .i64 0)) (x8 := (.slice none 0 0)) (x9 := (.slice none 0 0)) hB1 (Nat.le_refl _)
    clear y4 hB1
    go_wp2_with (fail)
    refine bodyPost_ret (v := .tuple #[brdV none 0 0 (fun _ => 0) none none 0 0 0 0, .int .i64 r]) (boardOf_results _ _ w.heap.size none 0 0 (fun _ => 0) none none 0 0 0 0 _ fin (by simp) (by simp)) rfl ⟨.inl ?_, hBf⟩
    exact ⟨by rw [Hr.out.1]; exact Hr.out.2, by rw [Hr.out.1]⟩
  case pos =>
    subst h0
    have Hc := Lib.hid hr.symm
    clear hr
    go_wp2_with (fail)
    refine (checkChain_any w1 B2 A2 K c2 css (hy.below hB1 hB2) (by have := hB1.size; omega)).mono ?_
    rintro e w2 ⟨rfl, hb2⟩
    have z4 := y4.below hb2 y4.lt
    have hB2' := hB1.trans (hb2.mono hB1.size)
    clear y4 hB1 hb2
    obtain ⟨r, hr⟩ : ∃ r, r = chainF css := ⟨_, rfl⟩
    rw [← hr]
    by_cases h0 : r = 0
    case neg =>
      have hne : (r != 0) = true := by rw [bne_iff_ne]; exact h0
      have hbe : boardE xs css = r := by unfold boardE; rw [if_neg (by rw [Hc.out]; simp), if_pos (by rw [← hr]; exact h0), hr]
      have Hr := Lib.hid (And.intro hbe h0)
      clear hr h0 hbe
      obtain ⟨k0, k1, k2, k3, k4, k5, k6, k7, k8, k9⟩ := z4.cells
      obtain ⟨f0, f1, f2, f3, f4, f5, f6, f7, f8, f9⟩ := z4.frozens
      have fin := z4.st10 (A := none) (n := 0) (c := 0) (q := fun _ => 0) (A1 := none) (A2 := none) (n1 := 0) (n2 := 0) (c1 := 0) (c2 := 0)
      have hBf := st10_below (b := w.heap.size) (x0 := (.slice none 0 0)) (x1 := (.int .i64 0)) (x2 := (.int .i64 0)) (x3 := (.int .i64 0)) (x4 := (.int .i64 0)) (x5 := (.int .i64 0)) (x6 := (.int .i64 0)) (x7 := (.int .i64 0)) (x8 := (.slice none 0 0)) (x9 := (.slice none 0 0)) hB2' (Nat.le_refl _)
      clear z4 hB2'
      go_wp2_with (fail)
      refine bodyPost_ret (v := .tuple #[brdV none 0 0 (fun _ => 0) none none 0 0 0 0, .int .i64 r]) (boardOf_results _ _ w.heap.size none 0 0 (fun _ => 0) none none 0 0 0 0 _ fin (by simp) (by simp)) rfl ⟨.inl ?_, hBf⟩
      exact ⟨by rw [Hr.out.1]; exact Hr.out.2, by rw [Hr.out.1]⟩
    case pos =>
      subst h0
      have Hch := Lib.hid hr.symm
      clear hr
      have hz2 := hB2'.size
      go_wp2_with (fail)
      refine (sourceOf_any w2 B A n c xs (hx.below hB2' hB) (by omega) (nums_of Hc.out)).mono ?_
      rintro e w3 ⟨rfl, hb3⟩
      have v4 := z4.below hb3 z4.lt
      have hB3 := hB2'.trans (hb3.mono hz2)
      have hz3 := hB3.size
      obtain ⟨q, hq⟩ : ∃ q, q = fewQ xs := ⟨_, rfl⟩
      rw [← hq]
      have hfs := few_small Hc.out
      have hfn := few_nums Hc.out
      have hbe : boardE xs css = if slowF (chainRate css) (sourceRate q) = true then 18 else 0 := by unfold boardE; rw [if_neg (by rw [Hc.out]; simp), if_neg (by rw [Hch.out]; simp), ← hq]
      rw [← hq] at hfs hfn
      have Hq := Lib.hid (And.intro hq (And.intro hfs (And.intro hfn hbe)))
      obtain ⟨n1, n2, n3⟩ := chain_nums Hch.out
      rw [Hy.out] at n1 n2
      have hall : ∀ cs ∈ css, Nums cs := fun cs h => by
        obtain ⟨j, hj, rfl⟩ := List.getElem_of_mem h
        have := n3 j hj
        rwa [List.getElem?_eq_getElem hj] at this
      have Hn := Lib.hid (And.intro n3 hall)
      obtain ⟨V8, hV8⟩ : ∃ V8, V8 = w3.alloc (.cells (brdC A n c q none none 0 0 0 0) 108) := ⟨_, rfl⟩
      have hB4 : Below w.heap.size w V8 := by rw [hV8]; exact hB3.alloc hz3 _
      have u4 : BrdAt V8 w.heap.size none 0 0 (fun _ => 0) none none 0 0 0 0 := by rw [hV8]; exact v4.alloc _
      have u8 : BrdAt V8 w3.heap.size A n c q none none 0 0 0 0 := by rw [hV8]; exact BrdAt.new w3
      have hne8 : w.heap.size < w3.heap.size := v4.lt
      clear hq hfs hfn hbe n3 hall z4 v4 hB2' hb3 hB3
      go_wp2_with (fail)
      rw [← hV8]
      clear hV8
      have l8 := u8.lt
      have dd : ∀ W, Below V8.heap.size V8.drew W → BrdAt W w3.heap.size A n c q none none 0 0 0 0 := fun W h => BrdAt.below (W := V8.drew) u8 h l8
      refine region_held_wp 1 (fun W' => Below V8.heap.size V8.drew W') (fun j => decide (j = 1)) (by kernel_rfl) ?_
      intro KR hKR
      have hS : Below V8.heap.size V8.drew V8.drew := Below.refl _ _
      refine wpAnyHI_takeW (i := 0) (v := .slice A2 K c2) (some 24) rfl rfl (by kernel_rfl) (by kernel_rfl) (by kernel_rfl) (by kernel_rfl) (fun _ _ _ h => h) (.inl ⟨by kernel_rfl, fun W' hS' => ?_⟩) ?_
      · go_simp
      refine wpAnyHI_takeW (i := 2) (v := .pointer (some ⟨w3.heap.size, 0, none⟩)) (some 26) rfl rfl (by kernel_rfl) (by kernel_rfl) (by kernel_rfl) (by kernel_rfl) (fun _ _ _ h => h) (.inl ⟨by kernel_rfl, fun W' hS' => ?_⟩) ?_
      · go_simp
      refine wpAnyHI_takeE (i := 3) (v := srcV A n c q) (some 27) rfl rfl (by kernel_rfl) (by kernel_rfl) (by kernel_rfl) (by kernel_rfl) (by kernel_rfl) (fun _ _ _ h => h) hS (.inl ⟨by kernel_rfl, fun W' hS' => ?_⟩) ?_
      · obtain ⟨q0, q1, q2, q3, q4, q5, q6, q7, -, -⟩ := (dd W' hS').cells; go_simp
      refine wpAnyHI_one (i := 1) rfl (by kernel_rfl) ?_
      intro K1 hK1
      go_simp
      have hbd : Below w.heap.size w V8.drew := hB4.trans (below_drew V8)
      have hzd : w.heap.size ≤ V8.drew.heap.size := hbd.size
      refine ⟨trivial, (callsIn_wide.2 (shaftsRate_any V8.drew B2 A2 K c2 css (hy.below hbd hB2) (by omega) (by omega) Hn.out.2)).mono ?_⟩
      rintro e w5 ⟨rfl, hb5⟩
      refine hK1 _ _ ⟨fun _ => hb5, ?_⟩
      clear hK1 K1
      have hB5 := hbd.trans (hb5.mono hzd)
      refine wpAnyHI_one (i := 4) rfl (by kernel_rfl) ?_
      intro K1 hK1
      go_simp
      refine ⟨trivial, (callsIn_wide.2 (sourceRate_any w5 A n c q Hq.out.2.1)).mono ?_⟩
      rintro e w6 ⟨rfl, hb6⟩
      refine hK1 _ _ ⟨fun h => absurd h (by simp), ?_⟩
      clear hK1 K1
      have hB6 := hB5.trans (hb6.mono hB5.size)
      refine wpAnyHI_one (i := 5) rfl (by kernel_rfl) ?_
      intro K1 hK1
      go_simp
      refine ⟨trivial, (callsIn_wide.2 (slower_any w6 (chainRate css) (sourceRate q))).mono ?_⟩
      rintro e w7 ⟨rfl, hb7⟩
      refine hK1 _ _ ⟨fun h => absurd h (by simp), ?_⟩
      clear hK1 K1
      have hB7 := hB6.trans (hb7.mono hB6.size)
      have hb67 := hb5.trans ((hb6.mono hb5.size).trans (hb7.mono (Nat.le_trans hb5.size hb6.size)))
      have t8 := dd w7 hb67
      have t4 : BrdAt w7 w.heap.size none 0 0 (fun _ => 0) none none 0 0 0 0 := BrdAt.below (W := V8.drew) u4 hb67 u4.lt
      have hz67 := hb67.size
      have l87 := t8.lt
      clear dd u4 u8 hS hb5 hb6 hb7 hB5 hB6 hbd hB4 hb67
      refine wpAnyHI_end (by kernel_rfl) ?_
      show KR _ _
      go_simp
      refine hKR _ _ ?_
      obtain ⟨sl, hsl⟩ : ∃ sl, sl = slowF (chainRate css) (sourceRate q) := ⟨_, rfl⟩
      rw [← hsl]
      have hbe := Hq.out.2.2.2
      rw [← hsl] at hbe
      have Hbe := Lib.hid hbe
      clear hsl hbe
      have hz7 := hB7.size
      cases sl with
      | true =>
        obtain ⟨k0, k1, k2, k3, k4, k5, k6, k7, k8, k9⟩ := t4.cells
        obtain ⟨f0, f1, f2, f3, f4, f5, f6, f7, f8, f9⟩ := t4.frozens
        have fin := t4.st10 (A := none) (n := 0) (c := 0) (q := fun _ => 0) (A1 := none) (A2 := none) (n1 := 0) (n2 := 0) (c1 := 0) (c2 := 0)
        have hBf := st10_below (b := w.heap.size) (x0 := (.slice none 0 0)) (x1 := (.int .i64 0)) (x2 := (.int .i64 0)) (x3 := (.int .i64 0)) (x4 := (.int .i64 0)) (x5 := (.int .i64 0)) (x6 := (.int .i64 0)) (x7 := (.int .i64 0)) (x8 := (.slice none 0 0)) (x9 := (.slice none 0 0)) hB7 (Nat.le_refl _)
        clear t4 hB7 t8
        go_wp2_with (fail)
        refine bodyPost_ret (v := .tuple #[brdV none 0 0 (fun _ => 0) none none 0 0 0 0, .int .i64 18]) (boardOf_results _ _ w.heap.size none 0 0 (fun _ => 0) none none 0 0 0 0 _ fin (by simp) (by simp)) rfl ⟨.inl ?_, hBf⟩
        exact ⟨by rw [Hbe.out]; simp, by rw [Hbe.out]; rfl⟩
      | false =>
        obtain ⟨k0, k1, k2, k3, k4, k5, k6, k7, -, -⟩ := t8.cells
        go_wp2_with (fail)
        clear k0 k1 k2 k3 k4 k5 k6 k7
        have key : Calls Try.prog 64 #[srcV A n c q, .int .i64 120] w7 fun e w' => ∃ g, w7.heap.size ≤ g ∧ e = .returned (.slice (some ⟨g, 0, none⟩) 121 121) ∧ RowZ w' g (sumsT (fewL q) 120) ∧ Below w7.heap.size w7 w' := most_any w7 A n c 120 q Hq.out.2.2.1 (by omega)
        refine key.mono ?_
        rintro e w8 ⟨g1, hg1, rfl, hr1, hb8⟩
        have s8 := t8.below hb8 t8.lt
        have s4 := t4.below hb8 t4.lt
        have hB8 := hB7.trans (hb8.mono hz7)
        have hz8 := hb8.size
        clear t8 t4 hB7 key hb8
        go_wp2_with (fail)
        have key : Calls Try.prog 66 #[.slice A2 K c2, .int .i64 120] w8 fun e w' => ∃ g, w8.heap.size ≤ g ∧ e = .returned (.slice (some ⟨g, 0, none⟩) 121 121) ∧ RowZ w' g (lvlR 121 css (K - 1) 121) ∧ Below w8.heap.size w8 w' := chainLeast_any w8 B2 A2 K c2 120 css (hy.below hB8 hB2) (by omega) Hn.out.1 n1 (by omega) (by omega)
        refine key.mono ?_
        rintro e w9 ⟨g2, hg2, rfl, hr2, hb9⟩
        have r8 := s8.below hb9 s8.lt
        have r4 := s4.below hb9 s4.lt
        have hr1' := hr1.below hb9 hr1.lt
        have hB9 := hB8.trans (hb9.mono hB8.size)
        clear s8 s4 hB8 key hb9 hr1
        obtain ⟨k0, k1, k2, k3, k4, k5, k6, k7, k8, k9⟩ := r8.cells
        obtain ⟨-, -, -, -, -, -, -, -, f8, f9⟩ := r8.frozens
        obtain ⟨j0, j1, j2, j3, j4, j5, j6, j7, j8, j9⟩ := r4.cells
        obtain ⟨i0, i1, i2, i3, i4, i5, i6, i7, i8, i9⟩ := r4.frozens
        have r4' : BrdAt ((w9.setCell ⟨w3.heap.size, 8, none⟩ (.slice (some ⟨g1, 0, none⟩) 121 121)).setCell ⟨w3.heap.size, 9, none⟩ (.slice (some ⟨g2, 0, none⟩) 121 121)) w.heap.size none 0 0 (fun _ => 0) none none 0 0 0 0 := (Below.heap_setCell _ ⟨w3.heap.size, 9, none⟩ _ _ (show w.heap.size ≠ w3.heap.size by omega)).trans ((Below.heap_setCell _ ⟨w3.heap.size, 8, none⟩ _ _ (show w.heap.size ≠ w3.heap.size by omega)).trans r4)
        have hB10 : Below w.heap.size w ((w9.setCell ⟨w3.heap.size, 8, none⟩ (.slice (some ⟨g1, 0, none⟩) 121 121)).setCell ⟨w3.heap.size, 9, none⟩ (.slice (some ⟨g2, 0, none⟩) 121 121)) := (hB9.setCell (p := ⟨w3.heap.size, 8, none⟩) hz3 _).setCell (p := ⟨w3.heap.size, 9, none⟩) hz3 _
        have q1 : RowZ ((w9.setCell ⟨w3.heap.size, 8, none⟩ (.slice (some ⟨g1, 0, none⟩) 121 121)).setCell ⟨w3.heap.size, 9, none⟩ (.slice (some ⟨g2, 0, none⟩) 121 121)) g1 (sumsT (fewL q) 120) := (hr1'.other (by omega) _ _).other (by omega) _ _
        have q2 : RowZ ((w9.setCell ⟨w3.heap.size, 8, none⟩ (.slice (some ⟨g1, 0, none⟩) 121 121)).setCell ⟨w3.heap.size, 9, none⟩ (.slice (some ⟨g2, 0, none⟩) 121 121)) g2 (lvlR 121 css (K - 1) 121) := (hr2.other (by omega) _ _).other (by omega) _ _
        have fin := r4'.st10 (A := A) (n := n) (c := c) (q := q) (A1 := some ⟨g1, 0, none⟩) (A2 := some ⟨g2, 0, none⟩) (n1 := 121) (n2 := 121) (c1 := 121) (c2 := 121)
        have hBf := st10_below (b := w.heap.size) (x0 := (.slice A n c)) (x1 := (.int .i64 (q 0))) (x2 := (.int .i64 (q 1))) (x3 := (.int .i64 (q 2))) (x4 := (.int .i64 (q 3))) (x5 := (.int .i64 (q 4))) (x6 := (.int .i64 (q 5))) (x7 := (.int .i64 (q 6))) (x8 := (.slice (some ⟨g1, 0, none⟩) 121 121)) (x9 := (.slice (some ⟨g2, 0, none⟩) 121 121)) hB10 (Nat.le_refl _)
        have Q1 := Lib.hid (q1.st10 (b := w.heap.size) (x0 := (.slice A n c)) (x1 := (.int .i64 (q 0))) (x2 := (.int .i64 (q 1))) (x3 := (.int .i64 (q 2))) (x4 := (.int .i64 (q 3))) (x5 := (.int .i64 (q 4))) (x6 := (.int .i64 (q 5))) (x7 := (.int .i64 (q 6))) (x8 := (.slice (some ⟨g1, 0, none⟩) 121 121)) (x9 := (.slice (some ⟨g2, 0, none⟩) 121 121)) (by omega))
        have Q2 := Lib.hid (q2.st10 (b := w.heap.size) (x0 := (.slice A n c)) (x1 := (.int .i64 (q 0))) (x2 := (.int .i64 (q 1))) (x3 := (.int .i64 (q 2))) (x4 := (.int .i64 (q 3))) (x5 := (.int .i64 (q 4))) (x6 := (.int .i64 (q 5))) (x7 := (.int .i64 (q 6))) (x8 := (.slice (some ⟨g1, 0, none⟩) 121 121)) (x9 := (.slice (some ⟨g2, 0, none⟩) 121 121)) (by omega))
        clear r4' hB10 q1 q2 r8 r4 hr1' hr2 hB9
        go_wp2_with (fail)
        refine bodyPost_ret (v := .tuple #[brdV A n c q (some ⟨g1, 0, none⟩) (some ⟨g2, 0, none⟩) 121 121 121 121, .int .i64 0]) (boardOf_results _ _ w.heap.size _ _ _ _ _ _ _ _ _ _ _ fin (by simp) (by simp)) rfl ⟨.inr ⟨by rw [Hbe.out]; rfl, g1, g2, by omega, by omega, ?_, ?_, ?_⟩, hBf⟩
        · rw [← Hq.out.1]
        · unfold mostL
          rw [← Hq.out.1]
          exact Q1.out
        · rw [Hy.out]
          exact Q2.out
end Go.Proofs.Ytlgibckhkdggdaa

/- lag: Wait, Late. -/
namespace Go.Proofs.Ytlgibckhkdggdaa
open Go.RowKit Go.Shelf

attribute [local go_sem] Oper.semAt_some

def cameL (cs : List Int) : List Int := mostL cs 120
def goneL (css : List (List Int)) : List Int := lvlR 121 css (css.length - 1) 121
theorem board_zero {cs : List Int} {css : List (List Int)} (h : boardE cs css = 0) : curveF cs = 0 ∧ chainF css = 0 := by
  unfold boardE at h
  split at h
  · rename_i hc
    exact absurd h hc
  · rename_i hc
    split at h
    · rename_i hd
      exact absurd h hd
    · rename_i hd
      exact ⟨Classical.not_not.1 hc, Classical.not_not.1 hd⟩
theorem came_len (cs : List Int) : (cameL cs).length = 121 := sumsT_len _ _
theorem gone_len (css : List (List Int)) : (goneL css).length = 121 := lvlR_len _ _ _ _
theorem came_bound {cs : List Int} (h : curveF cs = 0) (j : Nat) (hj : j < 121) : 0 ≤ (cameL cs)[j]?.getD 0 ∧ (cameL cs)[j]?.getD 0 ≤ 2000000 := by
  have := sumsT_bound (few_nums h) 120 j (by omega)
  unfold cameL mostL
  omega
theorem gone_bound {css : List (List Int)} (h : chainF css = 0) (j : Nat) (hj : j < 121) : 0 ≤ (goneL css)[j]?.getD 0 ∧ (goneL css)[j]?.getD 0 ≤ 2000000 := by
  obtain ⟨h1, h2, h3⟩ := chain_nums h
  have := lvl_bound h3 (css.length - 1) j (by omega)
  have e : (goneL css)[j]?.getD 0 = lvl css (css.length - 1) j := by simp [goneL, lvlR, hj]
  rw [e]
  omega
theorem Late_results (W : World) (tmps : Array Value) (a b : Value) (h4 : tmps.getD 4 undef = a) (h5 : tmps.getD 5 undef = b) :
    (results Try.f42 tmps).run Try.prog W = .ok (.tuple #[a, b]) W := by
  simp only [Array.getD_eq_getD_getElem?] at h4 h5
  simp [results, Try.results42, go_sem, h4, h5]
def lateV (cs : List Int) (css : List (List Int)) : Int × Int := if boardE cs css ≠ 0 then (0, boardE cs css) else (worstF (fewQ cs) (fun k => lateF (cameL cs) (goneL css) k), 0)
set_option maxRecDepth 100000 in
set_option maxHeartbeats 8000000 in
theorem Late_any (w : World) (B B2 : Nat) (A A2 : Option Addr) (n c K c2 : Nat) (xs : List Int) (css : List (List Int)) (hx : IntsAt w B A n xs) (hB : B ≤ w.heap.size) (hy : RowsAt w B2 A2 K css) (hB2 : B2 ≤ w.heap.size) :
    Calls Try.prog 42 #[.slice A n c, .slice A2 K c2] w fun e w' => e = .returned (.tuple #[.int .i64 (lateV xs css).1, .int .i64 (lateV xs css).2]) ∧ Below w.heap.size w w' := by
  go_enter Try.func42, Try.ntmps42
  go_wp2_with (fail)
  refine (boardOf_any w B B2 A A2 n c K c2 xs css hx hB hy hB2).mono ?_
  rintro e w1 ⟨hP, hb1⟩
  have hz1 := hb1.size
  obtain ⟨be, hbe⟩ : ∃ be, be = boardE xs css := ⟨_, rfl⟩
  rcases hP with ⟨h1, rfl⟩ | ⟨h1, g1, g2, hg1, hg2, rfl, q1, q2⟩
  · rw [← hbe] at h1 ⊢
    have hne : (be != 0) = true := by rw [bne_iff_ne]; exact h1
    have hvv : lateV xs css = (0, be) := by unfold lateV; rw [if_pos (by rw [← hbe]; exact h1), hbe]
    have Hv := Lib.hid hvv
    have hb2 : Below w.heap.size w (w1.alloc (.cells (brdC none 0 0 (fun _ => 0) none none 0 0 0 0) 108)) := hb1.alloc hz1 _
    clear hbe h1 hvv hb1
    go_wp2_with (fail)
    refine bodyPost_ret (v := .tuple #[.int .i64 0, .int .i64 be]) (Late_results _ _ _ _ (by simp) (by simp)) rfl ?_
    exact ⟨by rw [Hv.out], hb2⟩
  · obtain ⟨e1, e2⟩ := board_zero h1
    have hvv : lateV xs css = (worstF (fewQ xs) (fun k => lateF (cameL xs) (goneL css) k), 0) := by unfold lateV; rw [if_neg (by rw [h1]; simp)]
    obtain ⟨q, hq⟩ : ∃ q, q = fewQ xs := ⟨_, rfl⟩
    rw [← hq] at hvv ⊢
    have Hv := Lib.hid (And.intro hvv (And.intro e1 e2))
    obtain ⟨V, hV⟩ : ∃ V, V = w1.alloc (.cells (brdC A n c q (some ⟨g1, 0, none⟩) (some ⟨g2, 0, none⟩) 121 121 121 121) 108) := ⟨_, rfl⟩
    have hb2 : Below w.heap.size w V := by rw [hV]; exact hb1.alloc hz1 _
    have t6 : BrdAt V w1.heap.size A n c q (some ⟨g1, 0, none⟩) (some ⟨g2, 0, none⟩) 121 121 121 121 := by rw [hV]; exact BrdAt.new w1
    have p1 : RowZ V g1 (cameL xs) := by rw [hV]; exact q1.alloc _
    have p2 : RowZ V g2 (goneL css) := by rw [hV]; exact q2.alloc _
    have i1 := p1.ints (n := 121) (came_len _) (by omega)
    have i2 := p2.ints (n := 121) (gone_len _) (by omega)
    obtain ⟨k0, k1, k2, k3, k4, k5, k6, k7, k8, k9⟩ := t6.cells
    have hval : ∀ W, Below V.heap.size V W → ValFn W 82 #[talV (some ⟨g1, 0, none⟩) (some ⟨g2, 0, none⟩) 121 121 121 121] #[] (fun x : Part 0 99 => encI (x.1 : Int)) encI (fun p => lateF (cameL xs) (goneL css) p.1) := fun W hW => by
      refine ⟨enters_of Try.func82 (by kernel_rfl) rfl, fun W' x hW' => ?_⟩
      have hmx := parts_mem.1 x.2
      have hs1 := hW.size
      have hs2 := hW'.size
      exact late_any W' V.heap.size V.heap.size (some ⟨g1, 0, none⟩) (some ⟨g2, 0, none⟩) 121 121 121 121 x.1 (cameL xs) (goneL css) ((i1.below hW (Nat.le_refl _)).below hW' (by omega)) ((i2.below hW (Nat.le_refl _)).below hW' (by omega)) (by omega) (by omega) (by omega) (by omega) (by omega) (by omega) (Nat.le_refl _) (by omega)
    have Hval := Lib.hid hval
    clear hbe h1 hq hvv e1 e2 q1 q2 hb1 p1 p2 i1 i2 t6 hval
    go_wp2_with (fail)
    rw [← hV]
    clear hV
    go_wp2_with (fail)
    refine (worst_any V A n c q (some ⟨g1, 0, none⟩) (some ⟨g2, 0, none⟩) 121 121 121 121 82 _ _ (fun k => lateF (cameL xs) (goneL css) k) (fun W hW => Hval.out W hW)).mono ?_
    rintro e w3 ⟨rfl, hb3⟩
    have hb4 := hb2.trans (hb3.mono hb2.size)
    obtain ⟨y, hy⟩ : ∃ y, y = worstF q (fun k => lateF (cameL xs) (goneL css) k) := ⟨_, rfl⟩
    have hvv := Hv.out.1
    rw [← hy] at hvv ⊢
    have Hy := Lib.hid hvv
    unfold encI
    clear hy hvv hb2 hb3 k0 k1 k2 k3 k4 k5 k6 k7 k8 k9
    go_wp2_with (fail)
    refine bodyPost_ret (v := .tuple #[.int .i64 y, .int .i64 0]) (Late_results _ _ _ _ (by simp) (by simp)) rfl ?_
    exact ⟨by rw [Hy.out], hb4⟩
theorem Wait_results (W : World) (tmps : Array Value) (a b : Value) (h4 : tmps.getD 4 undef = a) (h5 : tmps.getD 5 undef = b) :
    (results Try.f40 tmps).run Try.prog W = .ok (.tuple #[a, b]) W := by
  simp only [Array.getD_eq_getD_getElem?] at h4 h5
  simp [results, Try.results40, go_sem, h4, h5]
def waitV (cs : List Int) (css : List (List Int)) : Int × Int := if boardE cs css ≠ 0 then (0, boardE cs css) else (worstF (fewQ cs) (fun k => waitF (cameL cs) (goneL css) k), 0)
set_option maxRecDepth 100000 in
set_option maxHeartbeats 8000000 in
theorem Wait_any (w : World) (B B2 : Nat) (A A2 : Option Addr) (n c K c2 : Nat) (xs : List Int) (css : List (List Int)) (hx : IntsAt w B A n xs) (hB : B ≤ w.heap.size) (hy : RowsAt w B2 A2 K css) (hB2 : B2 ≤ w.heap.size) :
    Calls Try.prog 40 #[.slice A n c, .slice A2 K c2] w fun e w' => e = .returned (.tuple #[.int .i64 (waitV xs css).1, .int .i64 (waitV xs css).2]) ∧ Below w.heap.size w w' := by
  go_enter Try.func40, Try.ntmps40
  go_wp2_with (fail)
  refine (boardOf_any w B B2 A A2 n c K c2 xs css hx hB hy hB2).mono ?_
  rintro e w1 ⟨hP, hb1⟩
  have hz1 := hb1.size
  obtain ⟨be, hbe⟩ : ∃ be, be = boardE xs css := ⟨_, rfl⟩
  rcases hP with ⟨h1, rfl⟩ | ⟨h1, g1, g2, hg1, hg2, rfl, q1, q2⟩
  · rw [← hbe] at h1 ⊢
    have hne : (be != 0) = true := by rw [bne_iff_ne]; exact h1
    have hvv : waitV xs css = (0, be) := by unfold waitV; rw [if_pos (by rw [← hbe]; exact h1), hbe]
    have Hv := Lib.hid hvv
    have hb2 : Below w.heap.size w (w1.alloc (.cells (brdC none 0 0 (fun _ => 0) none none 0 0 0 0) 108)) := hb1.alloc hz1 _
    clear hbe h1 hvv hb1
    go_wp2_with (fail)
    refine bodyPost_ret (v := .tuple #[.int .i64 0, .int .i64 be]) (Wait_results _ _ _ _ (by simp) (by simp)) rfl ?_
    exact ⟨by rw [Hv.out], hb2⟩
  · obtain ⟨e1, e2⟩ := board_zero h1
    have hvv : waitV xs css = (worstF (fewQ xs) (fun k => waitF (cameL xs) (goneL css) k), 0) := by unfold waitV; rw [if_neg (by rw [h1]; simp)]
    obtain ⟨q, hq⟩ : ∃ q, q = fewQ xs := ⟨_, rfl⟩
    rw [← hq] at hvv ⊢
    have Hv := Lib.hid (And.intro hvv (And.intro e1 e2))
    obtain ⟨V, hV⟩ : ∃ V, V = w1.alloc (.cells (brdC A n c q (some ⟨g1, 0, none⟩) (some ⟨g2, 0, none⟩) 121 121 121 121) 108) := ⟨_, rfl⟩
    have hb2 : Below w.heap.size w V := by rw [hV]; exact hb1.alloc hz1 _
    have t6 : BrdAt V w1.heap.size A n c q (some ⟨g1, 0, none⟩) (some ⟨g2, 0, none⟩) 121 121 121 121 := by rw [hV]; exact BrdAt.new w1
    have p1 : RowZ V g1 (cameL xs) := by rw [hV]; exact q1.alloc _
    have p2 : RowZ V g2 (goneL css) := by rw [hV]; exact q2.alloc _
    have i1 := p1.ints (n := 121) (came_len _) (by omega)
    have i2 := p2.ints (n := 121) (gone_len _) (by omega)
    obtain ⟨k0, k1, k2, k3, k4, k5, k6, k7, k8, k9⟩ := t6.cells
    have hval : ∀ W, Below V.heap.size V W → ValFn W 78 #[talV (some ⟨g1, 0, none⟩) (some ⟨g2, 0, none⟩) 121 121 121 121] #[] (fun x : Part 0 99 => encI (x.1 : Int)) encI (fun p => waitF (cameL xs) (goneL css) p.1) := fun W hW => by
      refine ⟨enters_of Try.func78 (by kernel_rfl) rfl, fun W' x hW' => ?_⟩
      have hmx := parts_mem.1 x.2
      have hs1 := hW.size
      have hs2 := hW'.size
      exact waiting_any W' V.heap.size V.heap.size (some ⟨g1, 0, none⟩) (some ⟨g2, 0, none⟩) 121 121 121 121 x.1 (cameL xs) (goneL css) ((i1.below hW (Nat.le_refl _)).below hW' (by omega)) ((i2.below hW (Nat.le_refl _)).below hW' (by omega)) (by omega) (by omega) (by omega) (by omega) (by omega) (by omega) (by
        have a := came_bound e1 x.1 (by omega)
        have b := gone_bound e2 x.1 (by omega)
        omega)
    have Hval := Lib.hid hval
    clear hbe h1 hq hvv e1 e2 q1 q2 hb1 p1 p2 i1 i2 t6 hval
    go_wp2_with (fail)
    rw [← hV]
    clear hV
    go_wp2_with (fail)
    refine (worst_any V A n c q (some ⟨g1, 0, none⟩) (some ⟨g2, 0, none⟩) 121 121 121 121 78 _ _ (fun k => waitF (cameL xs) (goneL css) k) (fun W hW => Hval.out W hW)).mono ?_
    rintro e w3 ⟨rfl, hb3⟩
    have hb4 := hb2.trans (hb3.mono hb2.size)
    obtain ⟨y, hy⟩ : ∃ y, y = worstF q (fun k => waitF (cameL xs) (goneL css) k) := ⟨_, rfl⟩
    have hvv := Hv.out.1
    rw [← hy] at hvv ⊢
    have Hy := Lib.hid hvv
    unfold encI
    clear hy hvv hb2 hb3 k0 k1 k2 k3 k4 k5 k6 k7 k8 k9
    go_wp2_with (fail)
    refine bodyPost_ret (v := .tuple #[.int .i64 y, .int .i64 0]) (Wait_results _ _ _ _ (by simp) (by simp)) rfl ?_
    exact ⟨by rw [Hy.out], hb4⟩
end Go.Proofs.Ytlgibckhkdggdaa

/- lag: what goes on behind a board. -/
namespace Go.Proofs.Ytlgibckhkdggdaa
open Go.RowKit Go.Shelf

attribute [local go_sem] Oper.semAt_some

set_option maxRecDepth 100000 in
set_option maxHeartbeats 4000000 in
theorem behind_any (w : World) (A : Option Addr) (n c : Nat) (q : Nat → Int) (B1 B2 : Nat) (A1 A2 : Option Addr) (ts os : List Int) (t : Nat) (i1 : IntsAt w B1 A1 121 ts) (i2 : IntsAt w B2 A2 121 os) (hB1 : B1 ≤ w.heap.size) (hB2 : B2 ≤ w.heap.size) (ht : t ≤ 6)
    (h1 : ∀ j, j < 121 → 0 ≤ ts[j]?.getD 0 ∧ ts[j]?.getD 0 ≤ 2000000) (h2 : ∀ j, j < 121 → 0 ≤ os[j]?.getD 0 ∧ os[j]?.getD 0 ≤ 2000000) :
    Calls Try.prog 87 #[brdV A n c q A1 A2 121 121 121 121, .int .i64 (t : Int)] w fun e w' => e = .returned (encI (worstF q (fun k => ts[k + t]?.getD 0 - os[k]?.getD 0))) ∧ Below w.heap.size w w' := by
  obtain ⟨V, hV⟩ : ∃ V, V = (w.alloc (.cells (brdC A n c q A1 A2 121 121 121 121) 108)).alloc (.cells #[.int .i64 (t : Int)] 3) := ⟨_, rfl⟩
  have hb0 : Below w.heap.size w V := by rw [hV]; exact ((Below.refl _ w).alloc (Nat.le_refl _) _).alloc (by simp) _
  have x2 : BrdAt V w.heap.size A n c q A1 A2 121 121 121 121 := by rw [hV]; exact (BrdAt.new w).alloc _
  have x3 : Boxed V (w.heap.size + 1) 3 (.int .i64 (t : Int)) := by
    rw [hV]
    have := Boxed.new (w.alloc (.cells (brdC A n c q A1 A2 121 121 121 121) 108)) 3 (.int .i64 (t : Int))
    simpa using this
  have j1 := i1.below hb0 hB1
  have j2 := i2.below hb0 hB2
  have hz := hb0.size
  obtain ⟨k0, k1, k2, k3, k4, k5, k6, k7, k8, k9⟩ := x2.cells
  have hval : ∀ W, Below V.heap.size V W → ValFn W 110 #[] #[.pointer (some ⟨w.heap.size, 0, none⟩), .pointer (some ⟨w.heap.size + 1, 0, none⟩)] (fun x : Part 0 99 => encI (x.1 : Int)) encI (fun p => ts[p.1 + t]?.getD 0 - os[p.1]?.getD 0) := fun W hW => by
    refine ⟨enters_of Try.func110 (by kernel_rfl) rfl, fun W' x hW' => ?_⟩
    have hmx := parts_mem.1 x.2
    have hs1 := hW.size
    have a := h1 (x.1 + t) (by omega)
    have b := h2 x.1 (by omega)
    exact behind1_any W' w.heap.size (w.heap.size + 1) B1 B2 A n c q A1 A2 121 121 121 121 x.1 t ts os ((x2.below hW x2.lt).below hW' (Nat.lt_of_lt_of_le x2.lt hs1)) (bxBelow (bxBelow x3 hW x3.lt) hW' (Nat.lt_of_lt_of_le x3.lt hs1)).cell ((j1.below hW (by omega)).below hW' (by omega)) ((j2.below hW (by omega)).below hW' (by omega)) (by omega) (by omega) (by omega) (by omega)
  have Hval := Lib.hid hval
  clear hval i1 i2 j1 j2 h1 h2 x2 x3
  go_enter Try.func87, Try.ntmps87
  go_wp2_with (fail)
  rw [← hV]
  clear hV
  refine (worst_any V A n c q A1 A2 121 121 121 121 110 _ _ (fun k => ts[k + t]?.getD 0 - os[k]?.getD 0) (fun W hW => Hval.out W hW)).mono ?_
  rintro e w3 ⟨rfl, hb3⟩
  have hb4 := hb0.trans (hb3.mono hz)
  obtain ⟨y, hy⟩ : ∃ y, y = worstF q (fun k => ts[k + t]?.getD 0 - os[k]?.getD 0) := ⟨_, rfl⟩
  rw [← hy]
  have Hy := Lib.hid hy
  unfold encI
  clear hy hb0 hb3 k0 k1 k2 k3 k4 k5 k6 k7 k8 k9
  go_wp2_with (fail)
  refine bodyPost_ret (results_tmp rfl _ _ _) rfl ?_
  exact ⟨by rw [← Hy.out]; rfl, hb4⟩
end Go.Proofs.Ytlgibckhkdggdaa

/- lag: Behind. -/
namespace Go.Proofs.Ytlgibckhkdggdaa
open Go.RowKit Go.Shelf

attribute [local go_sem] Oper.semAt_some

/-- What goes on behind a chain in t turns. -/
def behF (cs : List Int) (css : List (List Int)) (t : Nat) : Int := worstF (fewQ cs) (fun k => (cameL cs)[k + t]?.getD 0 - (goneL css)[k]?.getD 0)
def behR (L : Nat) (cs : List Int) (css : List (List Int)) (k : Nat) : List Int := (List.range L).map fun j => if j < k then behF cs css (j + 1) else 0
theorem behR_len (L : Nat) (cs : List Int) (css : List (List Int)) (k : Nat) : (behR L cs css k).length = L := by simp [behR]
theorem behR_zero (L : Nat) (cs : List Int) (css : List (List Int)) : behR L cs css 0 = List.replicate L 0 := by
  refine List.ext_getElem (by simp [behR]) fun i h1 h2 => ?_
  simp [behR]
theorem behR_set {L : Nat} {cs : List Int} {css : List (List Int)} {k : Nat} : (behR L cs css k).set k (behF cs css (k + 1)) = behR L cs css (k + 1) := by
  refine List.ext_getElem (by simp [behR]) fun i h1 h2 => ?_
  simp only [behR, List.getElem_set, List.getElem_map, List.getElem_range]
  by_cases h : k = i
  · subst h
    rw [if_pos rfl, if_pos (by omega)]
  · rw [if_neg h]
    by_cases h' : i < k
    · rw [if_pos h', if_pos (by omega)]
    · rw [if_neg h', if_neg (by omega)]
def BehindP (cs : List Int) (css : List (List Int)) (n0 : Nat) (w' : World) (e : Ending) : Prop :=
  (boardE cs css ≠ 0 ∧ e = .returned (.tuple #[.slice none 0 0, .int .i64 (boardE cs css)])) ∨
  (boardE cs css = 0 ∧ ∃ g : Nat, n0 ≤ g ∧ e = .returned (.tuple #[.slice (some ⟨g, 0, none⟩) cs.length cs.length, .int .i64 0]) ∧ RowZ w' g (behR cs.length cs css cs.length))
theorem Behind_results (W : World) (tmps : Array Value) (a b : Value) (h4 : tmps.getD 4 undef = a) (h5 : tmps.getD 5 undef = b) :
    (results Try.f44 tmps).run Try.prog W = .ok (.tuple #[a, b]) W := by
  simp only [Array.getD_eq_getD_getElem?] at h4 h5
  simp [results, Try.results44, go_sem, h4, h5]
set_option maxRecDepth 100000 in
set_option maxHeartbeats 8000000 in
theorem Behind_any (w : World) (B B2 : Nat) (A A2 : Option Addr) (n c K c2 : Nat) (xs : List Int) (css : List (List Int)) (hx : IntsAt w B A n xs) (hB : B ≤ w.heap.size) (hy : RowsAt w B2 A2 K css) (hB2 : B2 ≤ w.heap.size) :
    Calls Try.prog 44 #[.slice A n c, .slice A2 K c2] w fun e w' => BehindP xs css w.heap.size w' e ∧ Below w.heap.size w w' := by
  have hxl := hx.len
  go_enter Try.func44, Try.ntmps44
  go_wp2_with (fail)
  refine (boardOf_any w B B2 A A2 n c K c2 xs css hx hB hy hB2).mono ?_
  rintro e w1 ⟨hP, hb1⟩
  have hz1 := hb1.size
  obtain ⟨be, hbe⟩ : ∃ be, be = boardE xs css := ⟨_, rfl⟩
  rcases hP with ⟨h1, rfl⟩ | ⟨h1, g1, g2, hg1, hg2, rfl, q1, q2⟩
  · rw [← hbe] at h1 ⊢
    have hne : (be != 0) = true := by rw [bne_iff_ne]; exact h1
    have Hv := Lib.hid (And.intro hbe h1)
    have hb2 : Below w.heap.size w (w1.alloc (.cells (brdC none 0 0 (fun _ => 0) none none 0 0 0 0) 108)) := hb1.alloc hz1 _
    clear hbe h1 hb1 hxl
    go_wp2_with (fail)
    refine bodyPost_ret (v := .tuple #[.slice none 0 0, .int .i64 be]) (Behind_results _ _ _ _ (by simp) (by simp)) rfl ?_
    exact ⟨.inl ⟨by rw [← Hv.out.1]; exact Hv.out.2, by rw [← Hv.out.1]⟩, hb2⟩
  · obtain ⟨e1, e2⟩ := board_zero h1
    have hn6 : n ≤ 6 := by have := (curve_nums e1).2.1; omega
    obtain ⟨q, hq⟩ : ∃ q, q = fewQ xs := ⟨_, rfl⟩
    rw [← hq]
    have Hv := Lib.hid (And.intro hq (And.intro e1 (And.intro e2 (And.intro hxl h1))))
    obtain ⟨V, hV⟩ : ∃ V, V = w1.alloc (.cells (brdC A n c q (some ⟨g1, 0, none⟩) (some ⟨g2, 0, none⟩) 121 121 121 121) 108) := ⟨_, rfl⟩
    have hb2 : Below w.heap.size w V := by rw [hV]; exact hb1.alloc hz1 _
    have t6 : BrdAt V w1.heap.size A n c q (some ⟨g1, 0, none⟩) (some ⟨g2, 0, none⟩) 121 121 121 121 := by rw [hV]; exact BrdAt.new w1
    have p1 : RowZ V g1 (cameL xs) := by rw [hV]; exact q1.alloc _
    have p2 : RowZ V g2 (goneL css) := by rw [hV]; exact q2.alloc _
    have hmks := fun W : World => made_rowS (W := W) (N := n) (by omega)
    obtain ⟨mc, hmc⟩ : ∃ mc, mc = ((List.replicate n (0 : Int)).map (Value.int .i64)).toArray := ⟨_, rfl⟩
    rw [← hmc] at hmks
    obtain ⟨k0, -⟩ := t6.cells
    obtain ⟨V2, hV2⟩ : ∃ V2, V2 = V.alloc (.cells mc 2) := ⟨_, rfl⟩
    have hb3 : Below w.heap.size w V2 := by rw [hV2]; exact hb2.alloc hb2.size _
    have s6 : BrdAt V2 w1.heap.size A n c q (some ⟨g1, 0, none⟩) (some ⟨g2, 0, none⟩) 121 121 121 121 := by rw [hV2]; exact t6.alloc _
    have s1 : RowZ V2 g1 (cameL xs) := by rw [hV2]; exact p1.alloc _
    have s2 : RowZ V2 g2 (goneL css) := by rw [hV2]; exact p2.alloc _
    obtain ⟨gl, hgl⟩ : ∃ gl, gl = V.heap.size := ⟨_, rfl⟩
    have Hgl := Lib.hid (show gl = w1.heap.size + 1 by rw [hgl, hV]; simp)
    have sr : RowZ V2 gl (behR n xs css 0) := by rw [hV2, hgl, behR_zero, RowZ, World.alloc_heap_new, hmc]
    have hg6 : w1.heap.size < gl := by rw [hgl]; exact t6.lt
    have hgg1 : g1 < gl := by rw [hgl]; exact p1.lt
    have hgg2 : g2 < gl := by rw [hgl]; exact p2.lt
    clear hbe h1 hq e1 e2 q1 q2 hb1 p1 p2 t6 hmc hxl hgl
    go_wp2_with (fail)
    rw [← hV]
    clear hV
    go_wp2_with (fail)
    rw [← hV2, ← Hgl.out]
    clear hV2 k0 hmks hb2
    go_loopw [26] (fun i wr => ∃ k : Nat, (k ≤ n ∧ i = .int .i64 (k : Int)) ∧ BrdAt wr w1.heap.size A n c q (some ⟨g1, 0, none⟩) (some ⟨g2, 0, none⟩) 121 121 121 121 ∧ RowZ wr g1 (cameL xs) ∧ RowZ wr g2 (goneL css) ∧ RowZ wr gl (behR n xs css k) ∧ Below w.heap.size w wr) (fun i _ => n - (intOf i).toNat)
    case atStart => exact ⟨0, ⟨by omega, rfl⟩, s6, s1, s2, sr, hb3⟩
    case round =>
      clear s6 s1 s2 sr hb3
      obtain ⟨k, ⟨hk, rfl⟩, s6, s1, s2, sr, sb⟩ := hrel
      by_cases hlt : k < n
      case neg =>
        have hkn : k = n := by omega
        subst hkn
        go_wp2_with (fail)
        refine bodyPost_ret (v := .tuple #[.slice (some ⟨gl, 0, none⟩) k k, .int .i64 0]) (Behind_results _ _ _ _ (by simp) (by simp)) rfl ?_
        exact ⟨.inr ⟨Hv.out.2.2.2.2, gl, by omega, by rw [Hv.out.2.2.2.1], by rw [Hv.out.2.2.2.1]; exact sr⟩, sb⟩
      case pos =>
        obtain ⟨k0, k1, k2, k3, k4, k5, k6, k7, k8, k9⟩ := s6.cells
        have i1 := s1.ints (n := 121) (came_len _) (by omega)
        have i2 := s2.ints (n := 121) (gone_len _) (by omega)
        have hwk : IntKind.i64.wrap ((k : Int) + 1) = ((k + 1 : Nat) : Int) := by rw [IntKind.wrap_i64]; omega
        go_wp2_with (fail)
        clear k0 k1 k2 k3 k4 k5 k6 k7 k8 k9
        refine (behind_any wr A n c q wr.heap.size wr.heap.size (some ⟨g1, 0, none⟩) (some ⟨g2, 0, none⟩) (cameL xs) (goneL css) (k + 1) i1 i2 (Nat.le_refl _) (Nat.le_refl _) (by omega) (fun j hj => came_bound Hv.out.2.1 j hj) (fun j hj => gone_bound Hv.out.2.2.1 j hj)).mono ?_
        rintro e w3 ⟨rfl, hb5⟩
        have hsz := sb.size
        have r6 := s6.below hb5 s6.lt
        have r1 := s1.below hb5 s1.lt
        have r2 := s2.below hb5 s2.lt
        have rr := sr.below hb5 sr.lt
        have rb := sb.trans (hb5.mono hsz)
        have hbf : worstF q (fun j => (cameL xs)[j + (k + 1)]?.getD 0 - (goneL css)[j]?.getD 0) = behF xs css (k + 1) := by unfold behF; rw [← Hv.out.1]
        rw [hbf]
        have k1 := rr.cell (j := k) (by rw [behR_len]; exact hlt)
        have k2 := rr.frozen (j := k)
        have ur := rr.set k (behF xs css (k + 1))
        rw [behR_set] at ur
        obtain ⟨y, hy⟩ : ∃ y, y = behF xs css (k + 1) := ⟨_, rfl⟩
        rw [← hy] at ur ⊢
        have u6 : BrdAt (w3.setCell ⟨gl, k, none⟩ (.int .i64 y)) w1.heap.size A n c q (some ⟨g1, 0, none⟩) (some ⟨g2, 0, none⟩) 121 121 121 121 := (Below.heap_setCell _ ⟨gl, k, none⟩ _ _ (show w1.heap.size ≠ gl by omega)).trans r6
        have u1 := r1.other (b := gl) (by omega) k (.int .i64 y)
        have u2 := r2.other (b := gl) (by omega) k (.int .i64 y)
        have ub : Below w.heap.size w (w3.setCell ⟨gl, k, none⟩ (.int .i64 y)) := rb.setCell (p := ⟨gl, k, none⟩) (show w.heap.size ≤ gl by omega) _
        unfold encI
        clear hbf hy i1 i2 s6 s1 s2 sr sb hb5 r6 r1 r2 rr rb
        go_wp2_with (fail)
        go_roundw
        case rel => exact ⟨k + 1, ⟨by omega, by go_num⟩, u6, u1, u2, ur, ub⟩
        case measure => simp [intOf]; omega
end Go.Proofs.Ytlgibckhkdggdaa

/- lag: the law's curves. -/
namespace Go.Proofs.Ytlgibckhkdggdaa
open Go.RowKit Go.Shelf

attribute [local go_sem] Oper.semAt_some

theorem of_any (w : World) (v : Option Addr) (n c : Nat) : Calls Try.prog 61 #[.slice v n c] w fun e w' => e = .returned (.slice v n c) ∧ w' = w := by
  go_enter Try.func61, Try.ntmps61
  go_wp2
  go_ret
  exact ⟨by simp, rfl⟩
theorem laid_ints {W : World} {b n : Nat} (xs : List Int) (h : W.heap[b]? = some (.cells (xs.map (Value.int .i64)).toArray 2 (0, 0))) (hn : xs.length = n) (hm : n ≤ 1000) : IntsAt W W.heap.size (some ⟨b, 0, none⟩) n xs :=
  RowZ.ints (row := xs) h hn (by omega)
theorem Curves_results (W : World) (tmps : Array Value) (a b c : Value) (h0 : tmps.getD 0 undef = a) (h1 : tmps.getD 1 undef = b) (h2 : tmps.getD 2 undef = c) :
    (results Try.f60 tmps).run Try.prog W = .ok (.tuple #[a, b, c]) W := by
  simp only [Array.getD_eq_getD_getElem?] at h0 h1 h2
  simp [results, Try.results60, go_sem, h0, h1, h2]
set_option maxHeartbeats 1000000 in
theorem Curves_any (w : World) : Calls Try.prog 60 #[] w fun e w' => ∃ b1 b2 b3 : Nat, e = .returned (.tuple #[.slice (some ⟨b1, 0, none⟩) 3 3, .slice (some ⟨b2, 0, none⟩) 3 3, .slice (some ⟨b3, 0, none⟩) 6 6]) ∧
    IntsAt w' w'.heap.size (some ⟨b1, 0, none⟩) 3 [3, 4, 4] ∧ IntsAt w' w'.heap.size (some ⟨b2, 0, none⟩) 3 [0, 2, 4] ∧ IntsAt w' w'.heap.size (some ⟨b3, 0, none⟩) 6 [3, 1, 0, 3, 1, 0] ∧ Below w.heap.size w w' := by
  obtain ⟨W1, hW1⟩ : ∃ W, W = w.alloc (.cells #[.int .i64 3, .int .i64 4, .int .i64 4] 2) := ⟨_, rfl⟩
  obtain ⟨W2, hW2⟩ : ∃ W, W = W1.alloc (.cells #[.int .i64 0, .int .i64 2, .int .i64 4] 2) := ⟨_, rfl⟩
  obtain ⟨W3, hW3⟩ : ∃ W, W = W2.alloc (.cells #[.int .i64 3, .int .i64 1, .int .i64 0, .int .i64 3, .int .i64 1, .int .i64 0] 2) := ⟨_, rfl⟩
  have z1 : W1.heap.size = w.heap.size + 1 := by rw [hW1]; simp
  have z2 : W2.heap.size = w.heap.size + 1 + 1 := by rw [hW2, World.size_alloc, z1]
  have r1 : RowZ W1 w.heap.size [3, 4, 4] := by rw [hW1]; exact World.alloc_heap_new w _
  have r2 : RowZ W2 (w.heap.size + 1) [0, 2, 4] := by rw [hW2, ← z1]; exact World.alloc_heap_new W1 _
  have r3 : RowZ W3 (w.heap.size + 1 + 1) [3, 1, 0, 3, 1, 0] := by rw [hW3, ← z2]; exact World.alloc_heap_new W2 _
  have s1 : RowZ W3 w.heap.size [3, 4, 4] := by rw [hW3]; exact RowZ.alloc (by rw [hW2]; exact r1.alloc _) _
  have s2 : RowZ W3 (w.heap.size + 1) [0, 2, 4] := by rw [hW3]; exact r2.alloc _
  have hb : Below w.heap.size w W3 := by rw [hW3, hW2, hW1]; exact (((Below.refl _ w).alloc (Nat.le_refl _) _).alloc (by simp) _).alloc (by simp; omega) _
  have H := Lib.hid (And.intro (s1.ints (n := 3) rfl (by omega)) (And.intro (s2.ints (n := 3) rfl (by omega)) (And.intro (r3.ints (n := 6) rfl (by omega)) hb)))
  rw [hW3, hW2, hW1] at H
  clear hW1 hW2 hW3 z1 z2 r1 r2 r3 s1 s2 hb
  go_enter Try.func60, Try.ntmps60
  go_wp2_with (go_at_call 61; refine (of_any _ _ _ _).mono ?_; rintro e w' ⟨rfl, rfl⟩)
  refine bodyPost_ret (v := .tuple #[.slice (some ⟨w.heap.size, 0, none⟩) 3 3, .slice (some ⟨w.heap.size + 1, 0, none⟩) 3 3, .slice (some ⟨w.heap.size + 1 + 1, 0, none⟩) 6 6]) (Curves_results _ _ _ _ _ (by simp) (by simp) (by simp)) rfl ?_
  exact ⟨_, _, _, rfl, H.out⟩
end Go.Proofs.Ytlgibckhkdggdaa
