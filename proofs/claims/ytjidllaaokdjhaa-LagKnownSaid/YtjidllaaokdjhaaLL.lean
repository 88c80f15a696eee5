/- lag: the rates. -/
import Derived.Test.YtjidllaaokdjhaaLK
namespace Go.Proofs.Ytjidllaaokdjhaa
open Go.RowKit Go.Shelf

attribute [local go_sem] Oper.semAt_some

def shaftRate (xs : List Int) : Int × Int := ratR (xs[xs.length - 1]?.getD 0).toNat xs.length
theorem shaftRate_results (W : World) (tmps : Array Value) (b : Nat) (x : Int × Int) (h : RatAt W b x) (t : tmps.getD 2 undef = .pointer (some ⟨b, 0, none⟩)) :
    (results Try.f68 tmps).run Try.prog W = .ok (encR x) W := by
  obtain ⟨c0, c1⟩ := h.cells
  simp only [Array.getD_eq_getD_getElem?] at t
  unfold encR
  simp [results, Try.results68, go_sem, t, c0, c1]
set_option maxRecDepth 100000 in
set_option maxHeartbeats 4000000 in
theorem shaftRate_any (w : World) (B : Nat) (A : Option Addr) (n c : Nat) (xs : List Int) (hx : IntsAt w B A n xs) (hB : B ≤ w.heap.size) (hv : Nums xs) :
    Calls Try.prog 68 #[.slice A n c] w fun e w' => e = .returned (encR (shaftRate xs)) ∧ Below w.heap.size w w' := by
  obtain ⟨V, hV⟩ : ∃ V, V = w.alloc (.cells #[.int .i64 0, .int .i64 0] 32) := ⟨_, rfl⟩
  have hb0 : Below w.heap.size w V := by rw [hV]; exact (Below.refl _ w).alloc (Nat.le_refl _) _
  have x4 : RatAt V w.heap.size (0, 0) := by rw [hV]; exact RatAt.new w (0, 0)
  have hn := hx.len
  obtain ⟨h1, h2, h3⟩ := hv
  have hk := h3 (n - 1) (by omega)
  obtain ⟨b, off, rfl, lb, e1⟩ := hx.cell (k := n - 1) (by omega)
  have lb' : b < w.heap.size := by omega
  have hn1 : n ≤ 1000 := by omega
  have hm : IntKind.i64.wrap ((n : Int) - 1) = ((n - 1 : Nat) : Int) := by rw [IntKind.wrap_i64]; omega
  obtain ⟨x, hxe⟩ : ∃ x : Nat, (x : Int) = xs[n - 1]?.getD 0 := ⟨(xs[n - 1]?.getD 0).toNat, by omega⟩
  have hsr : shaftRate xs = ratR x n := by unfold shaftRate; rw [hn, ← hxe, Int.toNat_natCast]
  rw [hsr]
  rw [← hxe] at e1 hk
  clear hxe hsr h3
  have hlt : n - 1 < n := by omega
  obtain ⟨k, hke⟩ : ∃ k, k = n - 1 := ⟨_, rfl⟩
  rw [← hke] at e1 hm hlt
  clear hke hn hx
  go_enter Try.func68, Try.ntmps68
  go_wp2_with (fail)
  rw [← hV]
  clear hV
  refine (ratio_any V x n (by omega) (by omega) (by omega)).mono ?_
  rintro e W1 ⟨rfl, hb1⟩
  have zr := x4.below hb1 x4.lt
  have hB9 := hb0.trans (hb1.mono hb0.size)
  obtain ⟨k0, k1⟩ := zr.cells
  have f0 := zr.frozen 0
  have f1 := zr.frozen 1
  obtain ⟨⟨r1, r2⟩, hr⟩ : ∃ r, r = ratR x n := ⟨_, rfl⟩
  rw [← hr]
  have Hr := Lib.hid hr
  have fin := zr.set (r1, r2)
  have hBf := (hB9.setCell (p := ⟨w.heap.size, 0, none⟩) (by show w.heap.size ≤ w.heap.size; omega) (.int .i64 r1)).setCell (p := ⟨w.heap.size, 1, none⟩) (by show w.heap.size ≤ w.heap.size; omega) (.int .i64 r2)
  clear hr hb1 hb0 hB9 zr x4
  unfold encR
  go_wp2_with (fail)
  exact bodyPost_ret (v := encR (r1, r2)) (shaftRate_results _ _ (w.heap.size) _ fin (by simp)) rfl ⟨by rw [← Hr.out], hBf⟩
theorem sourceRate1_results (W : World) (tmps : Array Value) (b : Nat) (x : Int × Int) (h : RatAt W b x) (t : tmps.getD 3 undef = .pointer (some ⟨b, 0, none⟩)) :
    (results Try.f99 tmps).run Try.prog W = .ok (encR x) W := by
  obtain ⟨c0, c1⟩ := h.cells
  simp only [Array.getD_eq_getD_getElem?] at t
  unfold encR
  simp [results, Try.results99, go_sem, t, c0, c1]
set_option maxRecDepth 100000 in
set_option maxHeartbeats 4000000 in
theorem sourceRate1_any (w : World) (b : Nat) (A : Option Addr) (n c : Nat) (q : Nat → Int) (k : Nat) (hs : SrcAt w b A n c q) (hk1 : 1 ≤ k) (hk : k < 7) (hq : 0 ≤ q k ∧ q k ≤ 1000000) :
    Calls Try.prog 99 #[.int .i64 (k : Int), .pointer (some ⟨b, 0, none⟩)] w fun e w' => e = .returned (encR (ratR (q k).toNat k)) ∧ Below w.heap.size w w' := by
  obtain ⟨V, hV⟩ : ∃ V, V = w.alloc (.cells #[.int .i64 0, .int .i64 0] 32) := ⟨_, rfl⟩
  have hb0 : Below w.heap.size w V := by rw [hV]; exact (Below.refl _ w).alloc (Nat.le_refl _) _
  have x4 : RatAt V w.heap.size (0, 0) := by rw [hV]; exact RatAt.new w (0, 0)
  have e1 := hs.get hk
  have lb := hs.lt
  obtain ⟨x, hxe⟩ : ∃ x : Nat, (x : Int) = q k := ⟨(q k).toNat, by omega⟩
  rw [← hxe] at e1 hq ⊢
  rw [Int.toNat_natCast]
  clear hxe hs
  go_enter Try.func99, Try.ntmps99
  go_wp2_with (fail)
  rw [← hV]
  clear hV
  refine (ratio_any V x k (by omega) (by omega) (by omega)).mono ?_
  rintro e W1 ⟨rfl, hb1⟩
  have zr := x4.below hb1 x4.lt
  have hB9 := hb0.trans (hb1.mono hb0.size)
  obtain ⟨k0, k1⟩ := zr.cells
  have f0 := zr.frozen 0
  have f1 := zr.frozen 1
  obtain ⟨⟨r1, r2⟩, hr⟩ : ∃ r, r = ratR x k := ⟨_, rfl⟩
  rw [← hr]
  have Hr := Lib.hid hr
  have fin := zr.set (r1, r2)
  have hBf := (hB9.setCell (p := ⟨w.heap.size, 0, none⟩) (by show w.heap.size ≤ w.heap.size; omega) (.int .i64 r1)).setCell (p := ⟨w.heap.size, 1, none⟩) (by show w.heap.size ≤ w.heap.size; omega) (.int .i64 r2)
  clear hr hb1 hb0 hB9 zr x4
  unfold encR
  go_wp2_with (fail)
  exact bodyPost_ret (v := encR (r1, r2)) (sourceRate1_results _ _ (w.heap.size) _ fin (by simp)) rfl ⟨by rw [← Hr.out], hBf⟩
/-- The rate of what comes. -/
def sourceRate (q : Nat → Int) : Int × Int := bestQ (bestO (fun p : Part 1 6 => ratR (q p.1).toNat p.1) slowF (partsS 1 6))
theorem sourceRate_results (W : World) (tmps : Array Value) (b : Nat) (x : Int × Int) (h : RatAt W b x) (t : tmps.getD 2 undef = .pointer (some ⟨b, 0, none⟩)) :
    (results Try.f67 tmps).run Try.prog W = .ok (encR x) W := by
  obtain ⟨c0, c1⟩ := h.cells
  simp only [Array.getD_eq_getD_getElem?] at t
  unfold encR
  simp [results, Try.results67, go_sem, t, c0, c1]
set_option maxRecDepth 100000 in
set_option maxHeartbeats 4000000 in
theorem sourceRate_any (w : World) (A : Option Addr) (n c : Nat) (q : Nat → Int) (hq : ∀ i, 1 ≤ i → i < 7 → 0 ≤ q i ∧ q i ≤ 1000000) :
    Calls Try.prog 67 #[srcV A n c q] w fun e w' => e = .returned (encR (sourceRate q)) ∧ Below w.heap.size w w' := by
  obtain ⟨V, hV⟩ : ∃ V, V = (w.alloc (.cells (srcC A n c q) 81)).alloc (.cells #[.int .i64 0, .int .i64 0] 32) := ⟨_, rfl⟩
  have hb0 : Below w.heap.size w V := by rw [hV]; exact ((Below.refl _ w).alloc (Nat.le_refl _) _).alloc (by simp) _
  have x1 : SrcAt V w.heap.size A n c q := by rw [hV]; exact (SrcAt.new w A n c q).alloc _
  have x4 : RatAt V (w.heap.size + 1) (0, 0) := by
    rw [hV]
    have := RatAt.new (w.alloc (.cells (srcC A n c q) 81)) (0, 0)
    simpa using this
  have Hq := Lib.hid hq
  clear hq
  go_enter Try.func67, Try.ntmps67
  go_wp2_with (fail)
  rw [← hV]
  clear hV
  refine (between_box 1 6 V).mono ?_
  rintro e W1 ⟨bl, bh, rfl, hbl, hbh, hb1⟩
  have z1 := x1.below hb1 x1.lt
  have z4 := x4.below hb1 x4.lt
  have hB1 := hb0.trans (hb1.mono hb0.size)
  clear x1 x4 hb0 hb1
  have hit := between1_any W1 bl bh W1.heap.size 1 6 hbl hbh (Nat.le_refl _) (by omega) (by omega)
  have hval : ValFn W1 99 #[] #[.pointer (some ⟨w.heap.size, 0, none⟩)] (fun p : Part 1 6 => .int .i64 (p.1 : Int)) encR (fun p => ratR (q p.1).toNat p.1) := by
    refine ⟨enters_of Try.func99 (by kernel_rfl) rfl, fun W x hW => ?_⟩
    have hm := parts_mem.1 x.2
    exact sourceRate1_any W w.heap.size A n c q x.1 (z1.below hW z1.lt) hm.1 (by omega) (Hq.out x.1 hm.1 (by omega))
  go_wp2_with (fail)
  refine (bestRI_any W1 106 _ (fun p : Part 1 6 => .int .i64 (p.1 : Int)) _ _ _ _ _ _ _ _ _ slowF (enters_of Try.func106 (by kernel_rfl) rfl) hit (by
    rintro k (rfl | rfl)
    · exact hbl.lt
    · exact hbh.lt) hval slower_fn).mono ?_
  rintro e W2 ⟨rfl, hb2⟩
  clear hit hval hbl hbh z1
  have zr := z4.below hb2 z4.lt
  have hB9 := hB1.trans (hb2.mono hB1.size)
  obtain ⟨k0, k1⟩ := zr.cells
  have f0 := zr.frozen 0
  have f1 := zr.frozen 1
  obtain ⟨⟨r1, r2⟩, hr⟩ : ∃ r, r = sourceRate q := ⟨_, rfl⟩
  rw [show bestQ (bestO (fun p : Part 1 6 => ratR (q p.1).toNat p.1) slowF (partsS 1 6)) = sourceRate q from rfl, ← hr]
  have Hr := Lib.hid hr
  have fin := zr.set (r1, r2)
  have hBf := (hB9.setCell (p := ⟨w.heap.size + 1, 0, none⟩) (by show w.heap.size ≤ w.heap.size + 1; omega) (.int .i64 r1)).setCell (p := ⟨w.heap.size + 1, 1, none⟩) (by show w.heap.size ≤ w.heap.size + 1; omega) (.int .i64 r2)
  clear hr hb2 hB1 hB9 zr z4
  unfold encR
  go_wp2_with (fail)
  exact bodyPost_ret (v := encR (r1, r2)) (sourceRate_results _ _ (w.heap.size + 1) _ fin (by simp)) rfl ⟨by rw [← Hr.out], hBf⟩
theorem shaftsRate1_results (W : World) (tmps : Array Value) (b : Nat) (x : Int × Int) (h : RatAt W b x) (t : tmps.getD 2 undef = .pointer (some ⟨b, 0, none⟩)) :
    (results Try.f117 tmps).run Try.prog W = .ok (encR x) W := by
  obtain ⟨c0, c1⟩ := h.cells
  simp only [Array.getD_eq_getD_getElem?] at t
  unfold encR
  simp [results, Try.results117, go_sem, t, c0, c1]
set_option maxRecDepth 100000 in
set_option maxHeartbeats 4000000 in
theorem shaftsRate1_any (w : World) (B : Nat) (A : Option Addr) (n c : Nat) (xs : List Int) (hx : IntsAt w B A n xs) (hB : B ≤ w.heap.size) (hv : Nums xs) :
    Calls Try.prog 117 #[.slice A n c] w fun e w' => e = .returned (encR (shaftRate xs)) ∧ Below w.heap.size w w' := by
  obtain ⟨V, hV⟩ : ∃ V, V = w.alloc (.cells #[.int .i64 0, .int .i64 0] 32) := ⟨_, rfl⟩
  have hb0 : Below w.heap.size w V := by rw [hV]; exact (Below.refl _ w).alloc (Nat.le_refl _) _
  have x4 : RatAt V w.heap.size (0, 0) := by rw [hV]; exact RatAt.new w (0, 0)
  have Hv := Lib.hid hv
  clear hv
  go_enter Try.func117, Try.ntmps117
  go_wp2_with (fail)
  rw [← hV]
  clear hV
  refine (shaftRate_any V B A n c xs (hx.below hb0 hB) (by have := hb0.size; omega) Hv.out).mono ?_
  rintro e W1 ⟨rfl, hb1⟩
  have zr := x4.below hb1 x4.lt
  have hB9 := hb0.trans (hb1.mono hb0.size)
  obtain ⟨k0, k1⟩ := zr.cells
  have f0 := zr.frozen 0
  have f1 := zr.frozen 1
  obtain ⟨⟨r1, r2⟩, hr⟩ : ∃ r, r = shaftRate xs := ⟨_, rfl⟩
  rw [← hr]
  have Hr := Lib.hid hr
  have fin := zr.set (r1, r2)
  have hBf := (hB9.setCell (p := ⟨w.heap.size, 0, none⟩) (by show w.heap.size ≤ w.heap.size; omega) (.int .i64 r1)).setCell (p := ⟨w.heap.size, 1, none⟩) (by show w.heap.size ≤ w.heap.size; omega) (.int .i64 r2)
  clear hr hb1 hb0 hB9 zr x4
  unfold encR
  go_wp2_with (fail)
  exact bodyPost_ret (v := encR (r1, r2)) (shaftsRate1_results _ _ (w.heap.size) _ fin (by simp)) rfl ⟨by rw [← Hr.out], hBf⟩
/-- The rate of a chain. -/
def chainRate (css : List (List Int)) : Int × Int := bestQ (bestO (fun i : Fin css.length => shaftRate (css[i.1]'i.2)) slowF (List.finRange css.length))
theorem RowsAt.vals {w : World} {B : Nat} {A : Option Addr} {k : Nat} {css : List (List Int)} (h : RowsAt w B A k css) :
    ∃ vals : Nat → Value, ∀ j cs, css[j]? = some cs → ∃ b off A' m c, A = some ⟨b, off, none⟩ ∧ b < B ∧ w.cell? ⟨b, off + j, none⟩ = some (vals j) ∧ vals j = .slice A' m c ∧ IntsAt w B A' m cs := by
  refine Classical.axiomOfChoice (r := fun j v => ∀ cs, css[j]? = some cs → ∃ b off A' m c, A = some ⟨b, off, none⟩ ∧ b < B ∧ w.cell? ⟨b, off + j, none⟩ = some v ∧ v = .slice A' m c ∧ IntsAt w B A' m cs) fun j => ?_
  by_cases hj : j < k
  · obtain ⟨b, off, cs, A', m, c, e, hb, hcs, hc, hi⟩ := h.at hj
    refine ⟨.slice A' m c, fun cs' hcs' => ?_⟩
    rw [hcs] at hcs'
    cases hcs'
    exact ⟨b, off, A', m, c, e, hb, hc, rfl, hi⟩
  · refine ⟨undef, fun cs hcs => ?_⟩
    have := (List.getElem?_eq_some_iff.1 hcs).1
    have := h.1
    omega
theorem shaftsRate_results (W : World) (tmps : Array Value) (b : Nat) (x : Int × Int) (h : RatAt W b x) (t : tmps.getD 2 undef = .pointer (some ⟨b, 0, none⟩)) :
    (results Try.f109 tmps).run Try.prog W = .ok (encR x) W := by
  obtain ⟨c0, c1⟩ := h.cells
  simp only [Array.getD_eq_getD_getElem?] at t
  unfold encR
  simp [results, Try.results109, go_sem, t, c0, c1]
set_option maxRecDepth 100000 in
set_option maxHeartbeats 4000000 in
theorem shaftsRate_any (w : World) (B : Nat) (A : Option Addr) (k c : Nat) (css : List (List Int)) (hx : RowsAt w B A k css) (hB : B ≤ w.heap.size) (hk : k ≤ 1000) (hv : ∀ cs ∈ css, Nums cs) :
    Calls Try.prog 109 #[.slice A k c] w fun e w' => e = .returned (encR (chainRate css)) ∧ Below w.heap.size w w' := by
  obtain ⟨V, hV⟩ : ∃ V, V = w.alloc (.cells #[.int .i64 0, .int .i64 0] 32) := ⟨_, rfl⟩
  have hb0 : Below w.heap.size w V := by rw [hV]; exact (Below.refl _ w).alloc (Nat.le_refl _) _
  have x4 : RatAt V w.heap.size (0, 0) := by rw [hV]; exact RatAt.new w (0, 0)
  have hkl := hx.1
  subst hkl
  have Hv := Lib.hid hv
  clear hv
  go_enter Try.func109, Try.ntmps109
  go_wp2_with (fail)
  rw [← hV]
  clear hV
  refine (values_box A css.length c V).mono ?_
  rintro e W1 ⟨bs, rfl, hbs, hb1⟩
  have z4 := x4.below hb1 x4.lt
  have hB1 := hb0.trans (hb1.mono hb0.size)
  have hx1 := hx.below hB1 hB
  have hBW : B ≤ W1.heap.size := by have := hB1.size; omega
  clear x4 hb0 hb1
  obtain ⟨vals, hvals⟩ := hx1.vals
  have Hvals := Lib.hid hvals
  clear hvals
  have hit := values1_any W1 bs W1.heap.size A css.length c vals hbs (Nat.le_refl _) (by omega) (fun j hj => by
    obtain ⟨b, off, A', m, c', e, hb, hc, -, -⟩ := Hvals.out j _ (List.getElem?_eq_getElem hj)
    exact ⟨b, off, e, by omega, hc⟩)
  have hval : ValFn W1 117 #[] #[] (fun i : Fin css.length => vals i.1) encR (fun i => shaftRate (css[i.1]'i.2)) := by
    refine ⟨enters_of Try.func117 (by kernel_rfl) rfl, fun W x hW => ?_⟩
    obtain ⟨b, off, A', m, c', e, hb, hc, hv, hi⟩ := Hvals.out x.1 _ (List.getElem?_eq_getElem x.2)
    simp only [hv]
    exact shaftsRate1_any W B A' m c' _ (hi.below hW hBW) (by have := hW.size; omega) (Hv.out _ (List.getElem_mem _))
  go_wp2_with (fail)
  refine (bestRS_any W1 118 _ (fun i : Fin css.length => vals i.1) _ _ _ _ _ _ _ _ _ slowF (enters_of Try.func118 (by kernel_rfl) rfl) hit (by
    rintro k rfl
    exact hbs.lt) hval slower_fn).mono ?_
  rintro e W2 ⟨rfl, hb2⟩
  clear hit hval hbs hx1
  have zr := z4.below hb2 z4.lt
  have hB9 := hB1.trans (hb2.mono hB1.size)
  obtain ⟨k0, k1⟩ := zr.cells
  have f0 := zr.frozen 0
  have f1 := zr.frozen 1
  obtain ⟨⟨r1, r2⟩, hr⟩ : ∃ r, r = chainRate css := ⟨_, rfl⟩
  rw [show bestQ (bestO (fun i : Fin css.length => shaftRate (css[i.1]'i.2)) slowF (List.finRange css.length)) = chainRate css from rfl, ← hr]
  have Hr := Lib.hid hr
  have fin := zr.set (r1, r2)
  have hBf := (hB9.setCell (p := ⟨w.heap.size, 0, none⟩) (by show w.heap.size ≤ w.heap.size; omega) (.int .i64 r1)).setCell (p := ⟨w.heap.size, 1, none⟩) (by show w.heap.size ≤ w.heap.size; omega) (.int .i64 r2)
  clear hr hb2 hB1 hB9 zr z4
  unfold encR
  go_wp2_with (fail)
  exact bodyPost_ret (v := encR (r1, r2)) (shaftsRate_results _ _ (w.heap.size) _ fin (by simp)) rfl ⟨by rw [← Hr.out], hBf⟩
end Go.Proofs.Ytjidllaaokdjhaa
