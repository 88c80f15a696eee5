/- lag: Wait, Late. -/
import Derived.Test.YtjidllaaokdjhaaNB
namespace Go.Proofs.Ytjidllaaokdjhaa
open Go.RowKit Go.Shelf

attribute [local go_sem] Oper.semAt_some

def cameL (cs : List Int) : List Int := mostL cs 120
def goneL (css : List (List Int)) : List Int := lvlR 121 css (css.length - 1) 121
theorem board_zero {cs : List Int} {css : List (List Int)} (h : boardE cs css = 0) : curveF cs = 0 ∧ chainF css = 0 := by
  unfold boardE at h
  split at h
  · rename_i hc
    exact absurd h hc
  · rename_i hc
    split at h
    · rename_i hd
      exact absurd h hd
    · rename_i hd
      exact ⟨Classical.not_not.1 hc, Classical.not_not.1 hd⟩
theorem came_len (cs : List Int) : (cameL cs).length = 121 := sumsT_len _ _
theorem gone_len (css : List (List Int)) : (goneL css).length = 121 := lvlR_len _ _ _ _
theorem came_bound {cs : List Int} (h : curveF cs = 0) (j : Nat) (hj : j < 121) : 0 ≤ (cameL cs)[j]?.getD 0 ∧ (cameL cs)[j]?.getD 0 ≤ 2000000 := by
  have := sumsT_bound (few_nums h) 120 j (by omega)
  unfold cameL mostL
  omega
theorem gone_bound {css : List (List Int)} (h : chainF css = 0) (j : Nat) (hj : j < 121) : 0 ≤ (goneL css)[j]?.getD 0 ∧ (goneL css)[j]?.getD 0 ≤ 2000000 := by
  obtain ⟨h1, h2, h3⟩ := chain_nums h
  have := lvl_bound h3 (css.length - 1) j (by omega)
  have e : (goneL css)[j]?.getD 0 = lvl css (css.length - 1) j := by simp [goneL, lvlR, hj]
  rw [e]
  omega
theorem Late_results (W : World) (tmps : Array Value) (a b : Value) (h4 : tmps.getD 4 undef = a) (h5 : tmps.getD 5 undef = b) :
    (results Try.f42 tmps).run Try.prog W = .ok (.tuple #[a, b]) W := by
  simp only [Array.getD_eq_getD_getElem?] at h4 h5
  simp [results, Try.results42, go_sem, h4, h5]
def lateV (cs : List Int) (css : List (List Int)) : Int × Int := if boardE cs css ≠ 0 then (0, boardE cs css) else (worstF (fewQ cs) (fun k => lateF (cameL cs) (goneL css) k), 0)
set_option maxRecDepth 100000 in
set_option maxHeartbeats 8000000 in
theorem Late_any (w : World) (B B2 : Nat) (A A2 : Option Addr) (n c K c2 : Nat) (xs : List Int) (css : List (List Int)) (hx : IntsAt w B A n xs) (hB : B ≤ w.heap.size) (hy : RowsAt w B2 A2 K css) (hB2 : B2 ≤ w.heap.size) :
    Calls Try.prog 42 #[.slice A n c, .slice A2 K c2] w fun e w' => e = .returned (.tuple #[.int .i64 (lateV xs css).1, .int .i64 (lateV xs css).2]) ∧ Below w.heap.size w w' := by
  go_enter Try.func42, Try.ntmps42
  go_wp2_with (fail)
  refine (boardOf_any w B B2 A A2 n c K c2 xs css hx hB hy hB2).mono ?_
  rintro e w1 ⟨hP, hb1⟩
  have hz1 := hb1.size
  obtain ⟨be, hbe⟩ : ∃ be, be = boardE xs css := ⟨_, rfl⟩
  rcases hP with ⟨h1, rfl⟩ | ⟨h1, g1, g2, hg1, hg2, rfl, q1, q2⟩
  · rw [← hbe] at h1 ⊢
    have hne : (be != 0) = true := by rw [bne_iff_ne]; exact h1
    have hvv : lateV xs css = (0, be) := by unfold lateV; rw [if_pos (by rw [← hbe]; exact h1), hbe]
    have Hv := Lib.hid hvv
    have hb2 : Below w.heap.size w (w1.alloc (.cells (brdC none 0 0 (fun _ => 0) none none 0 0 0 0) 108)) := hb1.alloc hz1 _
    clear hbe h1 hvv hb1
    go_wp2_with (fail)
    refine bodyPost_ret (v := .tuple #[.int .i64 0, .int .i64 be]) (Late_results _ _ _ _ (by simp) (by simp)) rfl ?_
    exact ⟨by rw [Hv.out], hb2⟩
  · obtain ⟨e1, e2⟩ := board_zero h1
    have hvv : lateV xs css = (worstF (fewQ xs) (fun k => lateF (cameL xs) (goneL css) k), 0) := by unfold lateV; rw [if_neg (by rw [h1]; simp)]
    obtain ⟨q, hq⟩ : ∃ q, q = fewQ xs := ⟨_, rfl⟩
    rw [← hq] at hvv ⊢
    have Hv := Lib.hid (And.intro hvv (And.intro e1 e2))
    obtain ⟨V, hV⟩ : ∃ V, V = w1.alloc (.cells (brdC A n c q (some ⟨g1, 0, none⟩) (some ⟨g2, 0, none⟩) 121 121 121 121) 108) := ⟨_, rfl⟩
    have hb2 : Below w.heap.size w V := by rw [hV]; exact hb1.alloc hz1 _
    have t6 : BrdAt V w1.heap.size A n c q (some ⟨g1, 0, none⟩) (some ⟨g2, 0, none⟩) 121 121 121 121 := by rw [hV]; exact BrdAt.new w1
    have p1 : RowZ V g1 (cameL xs) := by rw [hV]; exact q1.alloc _
    have p2 : RowZ V g2 (goneL css) := by rw [hV]; exact q2.alloc _
    have i1 := p1.ints (n := 121) (came_len _) (by omega)
    have i2 := p2.ints (n := 121) (gone_len _) (by omega)
    obtain ⟨k0, k1, k2, k3, k4, k5, k6, k7, k8, k9⟩ := t6.cells
    have hval : ∀ W, Below V.heap.size V W → ValFn W 82 #[talV (some ⟨g1, 0, none⟩) (some ⟨g2, 0, none⟩) 121 121 121 121] #[] (fun x : Part 0 99 => encI (x.1 : Int)) encI (fun p => lateF (cameL xs) (goneL css) p.1) := fun W hW => by
      refine ⟨enters_of Try.func82 (by kernel_rfl) rfl, fun W' x hW' => ?_⟩
      have hmx := parts_mem.1 x.2
      have hs1 := hW.size
      have hs2 := hW'.size
      exact late_any W' V.heap.size V.heap.size (some ⟨g1, 0, none⟩) (some ⟨g2, 0, none⟩) 121 121 121 121 x.1 (cameL xs) (goneL css) ((i1.below hW (Nat.le_refl _)).below hW' (by omega)) ((i2.below hW (Nat.le_refl _)).below hW' (by omega)) (by omega) (by omega) (by omega) (by omega) (by omega) (by omega) (Nat.le_refl _) (by omega)
    have Hval := Lib.hid hval
    clear hbe h1 hq hvv e1 e2 q1 q2 hb1 p1 p2 i1 i2 t6 hval
    go_wp2_with (fail)
    rw [← hV]
    clear hV
    go_wp2_with (fail)
    refine (worst_any V A n c q (some ⟨g1, 0, none⟩) (some ⟨g2, 0, none⟩) 121 121 121 121 82 _ _ (fun k => lateF (cameL xs) (goneL css) k) (fun W hW => Hval.out W hW)).mono ?_
    rintro e w3 ⟨rfl, hb3⟩
    have hb4 := hb2.trans (hb3.mono hb2.size)
    obtain ⟨y, hy⟩ : ∃ y, y = worstF q (fun k => lateF (cameL xs) (goneL css) k) := ⟨_, rfl⟩
    have hvv := Hv.out.1
    rw [← hy] at hvv ⊢
    have Hy := Lib.hid hvv
    unfold encI
    clear hy hvv hb2 hb3 k0 k1 k2 k3 k4 k5 k6 k7 k8 k9
    go_wp2_with (fail)
    refine bodyPost_ret (v := .tuple #[.int .i64 y, .int .i64 0]) (Late_results _ _ _ _ (by simp) (by simp)) rfl ?_
    exact ⟨by rw [Hy.out], hb4⟩
theorem Wait_results (W : World) (tmps : Array Value) (a b : Value) (h4 : tmps.getD 4 undef = a) (h5 : tmps.getD 5 undef = b) :
    (results Try.f40 tmps).run Try.prog W = .ok (.tuple #[a, b]) W := by
  simp only [Array.getD_eq_getD_getElem?] at h4 h5
  simp [results, Try.results40, go_sem, h4, h5]
def waitV (cs : List Int) (css : List (List Int)) : Int × Int := if boardE cs css ≠ 0 then (0, boardE cs css) else (worstF (fewQ cs) (fun k => waitF (cameL cs) (goneL css) k), 0)
set_option maxRecDepth 100000 in
set_option maxHeartbeats 8000000 in
theorem Wait_any (w : World) (B B2 : Nat) (A A2 : Option Addr) (n c K c2 : Nat) (xs : List Int) (css : List (List Int)) (hx : IntsAt w B A n xs) (hB : B ≤ w.heap.size) (hy : RowsAt w B2 A2 K css) (hB2 : B2 ≤ w.heap.size) :
    Calls Try.prog 40 #[.slice A n c, .slice A2 K c2] w fun e w' => e = .returned (.tuple #[.int .i64 (waitV xs css).1, .int .i64 (waitV xs css).2]) ∧ Below w.heap.size w w' := by
  go_enter Try.func40, Try.ntmps40
  go_wp2_with (fail)
  refine (boardOf_any w B B2 A A2 n c K c2 xs css hx hB hy hB2).mono ?_
  rintro e w1 ⟨hP, hb1⟩
  have hz1 := hb1.size
  obtain ⟨be, hbe⟩ : ∃ be, be = boardE xs css := ⟨_, rfl⟩
  rcases hP with ⟨h1, rfl⟩ | ⟨h1, g1, g2, hg1, hg2, rfl, q1, q2⟩
  · rw [← hbe] at h1 ⊢
    have hne : (be != 0) = true := by rw [bne_iff_ne]; exact h1
    have hvv : waitV xs css = (0, be) := by unfold waitV; rw [if_pos (by rw [← hbe]; exact h1), hbe]
    have Hv := Lib.hid hvv
    have hb2 : Below w.heap.size w (w1.alloc (.cells (brdC none 0 0 (fun _ => 0) none none 0 0 0 0) 108)) := hb1.alloc hz1 _
    clear hbe h1 hvv hb1
    go_wp2_with (fail)
    refine bodyPost_ret (v := .tuple #[.int .i64 0, .int .i64 be]) (Wait_results _ _ _ _ (by simp) (by simp)) rfl ?_
    exact ⟨by rw [Hv.out], hb2⟩
  · obtain ⟨e1, e2⟩ := board_zero h1
    have hvv : waitV xs css = (worstF (fewQ xs) (fun k => waitF (cameL xs) (goneL css) k), 0) := by unfold waitV; rw [if_neg (by rw [h1]; simp)]
    obtain ⟨q, hq⟩ : ∃ q, q = fewQ xs := ⟨_, rfl⟩
    rw [← hq] at hvv ⊢
    have Hv := Lib.hid (And.intro hvv (And.intro e1 e2))
    obtain ⟨V, hV⟩ : ∃ V, V = w1.alloc (.cells (brdC A n c q (some ⟨g1, 0, none⟩) (some ⟨g2, 0, none⟩) 121 121 121 121) 108) := ⟨_, rfl⟩
    have hb2 : Below w.heap.size w V := by rw [hV]; exact hb1.alloc hz1 _
    have t6 : BrdAt V w1.heap.size A n c q (some ⟨g1, 0, none⟩) (some ⟨g2, 0, none⟩) 121 121 121 121 := by rw [hV]; exact BrdAt.new w1
    have p1 : RowZ V g1 (cameL xs) := by rw [hV]; exact q1.alloc _
    have p2 : RowZ V g2 (goneL css) := by rw [hV]; exact q2.alloc _
    have i1 := p1.ints (n := 121) (came_len _) (by omega)
    have i2 := p2.ints (n := 121) (gone_len _) (by omega)
    obtain ⟨k0, k1, k2, k3, k4, k5, k6, k7, k8, k9⟩ := t6.cells
    have hval : ∀ W, Below V.heap.size V W → ValFn W 78 #[talV (some ⟨g1, 0, none⟩) (some ⟨g2, 0, none⟩) 121 121 121 121] #[] (fun x : Part 0 99 => encI (x.1 : Int)) encI (fun p => waitF (cameL xs) (goneL css) p.1) := fun W hW => by
      refine ⟨enters_of Try.func78 (by kernel_rfl) rfl, fun W' x hW' => ?_⟩
      have hmx := parts_mem.1 x.2
      have hs1 := hW.size
      have hs2 := hW'.size
      exact waiting_any W' V.heap.size V.heap.size (some ⟨g1, 0, none⟩) (some ⟨g2, 0, none⟩) 121 121 121 121 x.1 (cameL xs) (goneL css) ((i1.below hW (Nat.le_refl _)).below hW' (by omega)) ((i2.below hW (Nat.le_refl _)).below hW' (by omega)) (by omega) (by omega) (by omega) (by omega) (by omega) (by omega) (by
        have a := came_bound e1 x.1 (by omega)
        have b := gone_bound e2 x.1 (by omega)
        omega)
    have Hval := Lib.hid hval
    clear hbe h1 hq hvv e1 e2 q1 q2 hb1 p1 p2 i1 i2 t6 hval
    go_wp2_with (fail)
    rw [← hV]
    clear hV
    go_wp2_with (fail)
    refine (worst_any V A n c q (some ⟨g1, 0, none⟩) (some ⟨g2, 0, none⟩) 121 121 121 121 78 _ _ (fun k => waitF (cameL xs) (goneL css) k) (fun W hW => Hval.out W hW)).mono ?_
    rintro e w3 ⟨rfl, hb3⟩
    have hb4 := hb2.trans (hb3.mono hb2.size)
    obtain ⟨y, hy⟩ : ∃ y, y = worstF q (fun k => waitF (cameL xs) (goneL css) k) := ⟨_, rfl⟩
    have hvv := Hv.out.1
    rw [← hy] at hvv ⊢
    have Hy := Lib.hid hvv
    unfold encI
    clear hy hvv hb2 hb3 k0 k1 k2 k3 k4 k5 k6 k7 k8 k9
    go_wp2_with (fail)
    refine bodyPost_ret (v := .tuple #[.int .i64 y, .int .i64 0]) (Wait_results _ _ _ _ (by simp) (by simp)) rfl ?_
    exact ⟨by rw [Hy.out], hb4⟩
end Go.Proofs.Ytjidllaaokdjhaa
