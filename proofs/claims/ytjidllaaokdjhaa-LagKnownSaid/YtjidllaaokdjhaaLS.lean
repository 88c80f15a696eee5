/- lag: Most, Came, Break, Added. -/
import Derived.Test.YtjidllaaokdjhaaLR
namespace Go.Proofs.Ytjidllaaokdjhaa
open Go.RowKit Go.Shelf

attribute [local go_sem] Oper.semAt_some

theorem curve_nums {xs : List Int} (h : curveF xs = 0) : 1 ≤ xs.length ∧ xs.length ≤ 6 ∧ (∀ j, j < xs.length → 0 ≤ xs[j]?.getD 0 ∧ xs[j]?.getD 0 ≤ 100) ∧ sortedF xs = true := by
  unfold curveF at h
  split at h
  · cases h
  · rename_i h1
    split at h
    · cases h
    · rename_i h2
      split at h
      · cases h
      · rename_i h3
        refine ⟨by omega, by omega, all_within (by simpa using h2), by simpa using h3⟩
theorem nums_of {xs : List Int} (h : curveF xs = 0) : Nums xs := by
  obtain ⟨h1, h2, h3, -⟩ := curve_nums h
  exact ⟨h1, by omega, fun j hj => by have := h3 j hj; omega⟩
theorem sumsT_100 {xs : List Int} (h : curveF xs = 0) : ∀ (k j : Nat), j ≤ k → 0 ≤ (sumsT xs k)[j]?.getD 0 ∧ (sumsT xs k)[j]?.getD 0 ≤ 100 * j
  | 0, j, hj => by
    have : j = 0 := by omega
    subst this
    simp [sumsT]
  | k + 1, j, hj => by
    rw [sumsT]
    by_cases hjk : j ≤ k
    · rw [List.getElem?_append_left (by rw [sumsT_len]; omega)]
      exact sumsT_100 h k j hjk
    · have : j = k + 1 := by omega
      subst this
      rw [List.getElem?_append_right (by rw [sumsT_len]; omega), sumsT_len]
      simp only [Nat.sub_self, List.getElem?_cons_zero, Option.getD_some]
      obtain ⟨p, h1, h2, e⟩ := nextSum_mem (nums_of h) (sumsT xs k) (t := k + 1) (by omega)
      rw [e]
      have a := (curve_nums h).2.2.1 (p - 1) (by omega)
      have b := sumsT_100 h k (k + 1 - p) (by omega)
      unfold sumAt
      omega
theorem few_nums {xs : List Int} (h : curveF xs = 0) : Nums (fewL (fewQ xs)) := by
  refine ⟨by simp [fewL], by simp [fewL], fun j hj => ?_⟩
  have hj6 : j < 6 := by simpa [fewL] using hj
  have key : (fewL (fewQ xs))[j]?.getD 0 = fewQ xs (j + 1) := by
    have : j = 0 ∨ j = 1 ∨ j = 2 ∨ j = 3 ∨ j = 4 ∨ j = 5 := by omega
    rcases this with rfl | rfl | rfl | rfl | rfl | rfl <;> rfl
  rw [key]
  have := sumsT_100 h 6 (j + 1) (by omega)
  unfold fewQ
  omega
theorem row_of {xs : List Int} (h : rowF xs = 0) : Row60 xs := by
  unfold rowF at h
  split at h
  · cases h
  · split at h
    · cases h
    · rename_i h1 h2
      exact ⟨by omega, all_within (by simpa using h2)⟩
/-- The most of a curve for each number of turns up to t. -/
def mostL (xs : List Int) (t : Nat) : List Int := sumsT (fewL (fewQ xs)) t
theorem Most_results (W : World) (tmps : Array Value) (a b : Value) (h4 : tmps.getD 4 undef = a) (h5 : tmps.getD 5 undef = b) :
    (results Try.f20 tmps).run Try.prog W = .ok (.tuple #[a, b]) W := by
  simp only [Array.getD_eq_getD_getElem?] at h4 h5
  simp [results, Try.results20, go_sem, h4, h5]
def mostR (xs : List Int) (t : Int) : Int × Int := if curveF xs ≠ 0 then (0, curveF xs) else if ¬ (0 ≤ t ∧ t ≤ 200) then (0, 3) else ((mostL xs t.toNat)[t.toNat]?.getD 0, 0)
set_option maxRecDepth 100000 in
set_option maxHeartbeats 4000000 in
theorem Most_any (w : World) (B : Nat) (A : Option Addr) (n c : Nat) (xs : List Int) (t : Int) (hx : IntsAt w B A n xs) (hB : B ≤ w.heap.size) :
    Calls Try.prog 20 #[.slice A n c, .int .i64 t] w fun e w' => e = .returned (.tuple #[.int .i64 (mostR xs t).1, .int .i64 (mostR xs t).2]) ∧ Below w.heap.size w w' := by
  have hm := hx.small
  go_enter Try.func20, Try.ntmps20
  go_wp2_with (fail)
  refine (checkCurve_any w B A n c xs hx hB).mono ?_
  rintro e w1 ⟨rfl, hb1⟩
  obtain ⟨r, hr⟩ : ∃ r, r = curveF xs := ⟨_, rfl⟩
  rw [← hr]
  by_cases h0 : r = 0
  case neg =>
    have hne : (r != 0) = true := by rw [bne_iff_ne]; exact h0
    have Hr := Lib.hid (And.intro hr h0)
    clear hr h0
    go_wp2_with (fail)
    refine bodyPost_ret (v := .tuple #[.int .i64 0, .int .i64 r]) (Most_results _ _ _ _ (by simp) (by simp)) rfl ?_
    refine ⟨?_, hb1⟩
    have e : mostR xs t = (0, r) := by unfold mostR; rw [if_pos (by rw [← Hr.out.1]; exact Hr.out.2), Hr.out.1]
    rw [e]
  case pos =>
    subst h0
    have Hc := Lib.hid hr.symm
    clear hr
    have hz1 := hb1.size
    have ho := one_int (w1.alloc (.cells #[.int .i64 t] 2)) (w1.heap.size + 1) w1.heap.size t (by omega) (by simp)
    have hb2 : Below w.heap.size w (w1.alloc (.cells #[.int .i64 t] 2)) := hb1.alloc hz1 _
    go_wp2_with (fail)
    refine (within64_any 0 200 (w1.alloc (.cells #[.int .i64 t] 2)) (w1.heap.size + 1) (some ⟨w1.heap.size, 0, none⟩) 1 1 [t] ho (by simp)).mono ?_
    rintro e w2 ⟨rfl, hb3⟩
    have hb4 := hb2.trans (hb3.mono hb2.size)
    clear hb2 hb3 ho hb1
    rw [within_one]
    by_cases ht : 0 ≤ t ∧ t ≤ 200
    case neg =>
      have hd : (decide (0 ≤ t) && decide (t ≤ 200)) = false := by
        rw [← Bool.not_eq_true, Bool.and_eq_true, decide_eq_true_eq, decide_eq_true_eq]
        exact ht
      rw [hd]
      have Ht := Lib.hid ht
      clear ht hd
      go_wp2_with (fail)
      refine bodyPost_ret (v := .tuple #[.int .i64 0, .int .i64 3]) (Most_results _ _ _ _ (by simp) (by simp)) rfl ?_
      refine ⟨?_, hb4⟩
      have e : mostR xs t = (0, 3) := by unfold mostR; rw [if_neg (by rw [Hc.out]; simp), if_pos Ht.out]
      rw [e]
    case pos =>
      have hd : (decide (0 ≤ t) && decide (t ≤ 200)) = true := by simp [ht]
      rw [hd]
      obtain ⟨k, hk⟩ : ∃ k : Nat, t = (k : Int) := ⟨t.toNat, by omega⟩
      subst hk
      have hk2 : k ≤ 200 := by omega
      clear ht hd
      go_wp2_with (fail)
      refine (sourceOf_any w2 B A n c xs (hx.below hb4 hB) (by have := hb4.size; omega) (nums_of Hc.out)).mono ?_
      rintro e w3 ⟨rfl, hb5⟩
      have hb6 := hb4.trans (hb5.mono hb4.size)
      clear hb4 hb5
      obtain ⟨q, hq⟩ : ∃ q, q = fewQ xs := ⟨_, rfl⟩
      rw [← hq]
      have hfn := few_nums Hc.out
      have hml : mostR xs (k : Int) = ((sumsT (fewL q) k)[k]?.getD 0, 0) := by unfold mostR mostL; rw [if_neg (by rw [Hc.out]; simp), if_neg (by omega), ← hq]; rfl
      rw [← hq] at hfn
      have Hm := Lib.hid (And.intro hfn hml)
      clear hq hfn hml
      go_wp2_with (fail)
      refine (most_any w3 A n c k q Hm.out.1 (by omega)).mono ?_
      rintro e w4 ⟨g, hg, rfl, hrow, hb7⟩
      have hb8 := hb6.trans (hb7.mono hb6.size)
      have e1 := hrow.cell (j := k) (by rw [sumsT_len]; omega)
      have hkl : (k : Int) < (k : Int) + 1 := by omega
      obtain ⟨y, hy⟩ : ∃ y, y = (sumsT (fewL q) k)[k]?.getD 0 := ⟨_, rfl⟩
      rw [← hy] at e1
      have Hy := Lib.hid hy
      clear hy hb6 hb7 hrow
      go_wp2_with (fail)
      refine bodyPost_ret (v := .tuple #[.int .i64 y, .int .i64 0]) (Most_results _ _ _ _ (by simp) (by simp)) rfl ?_
      refine ⟨?_, hb8⟩
      rw [Hm.out.2, Hy.out]
theorem Came_results (W : World) (tmps : Array Value) (a b : Value) (h4 : tmps.getD 4 undef = a) (h5 : tmps.getD 5 undef = b) :
    (results Try.f31 tmps).run Try.prog W = .ok (.tuple #[a, b]) W := by
  simp only [Array.getD_eq_getD_getElem?] at h4 h5
  simp [results, Try.results31, go_sem, h4, h5]
def CameP (xs : List Int) (t : Int) (n0 : Nat) (w' : World) (e : Ending) : Prop :=
  (curveF xs ≠ 0 ∧ e = .returned (.tuple #[.slice none 0 0, .int .i64 (curveF xs)])) ∨ (curveF xs = 0 ∧ ¬ (0 ≤ t ∧ t ≤ 60) ∧ e = .returned (.tuple #[.slice none 0 0, .int .i64 3])) ∨
  (curveF xs = 0 ∧ ∃ k g : Nat, t = (k : Int) ∧ k ≤ 60 ∧ n0 ≤ g ∧ e = .returned (.tuple #[.slice (some ⟨g, 0, none⟩) k k, .int .i64 0]) ∧ RowZ w' g (difL (mostL xs k) k))
theorem dif_bound {xs : List Int} (hv : Nums xs) {k : Nat} (hk : k ≤ 1000) : ∀ j, j < k → -1000000000 ≤ difF (sumsT xs k) j ∧ difF (sumsT xs k) j ≤ 1000000000 := by
  intro j hj
  have a := sumsT_bound hv k j (by omega)
  have b := sumsT_bound hv k (j + 1) (by omega)
  unfold difF
  omega
set_option maxRecDepth 100000 in
set_option maxHeartbeats 4000000 in
theorem Came_any (w : World) (B : Nat) (A : Option Addr) (n c : Nat) (xs : List Int) (t : Int) (hx : IntsAt w B A n xs) (hB : B ≤ w.heap.size) :
    Calls Try.prog 31 #[.slice A n c, .int .i64 t] w fun e w' => CameP xs t w.heap.size w' e ∧ Below w.heap.size w w' := by
  have hm := hx.small
  go_enter Try.func31, Try.ntmps31
  go_wp2_with (fail)
  refine (checkCurve_any w B A n c xs hx hB).mono ?_
  rintro e w1 ⟨rfl, hb1⟩
  obtain ⟨r, hr⟩ : ∃ r, r = curveF xs := ⟨_, rfl⟩
  rw [← hr]
  by_cases h0 : r = 0
  case neg =>
    have hne : (r != 0) = true := by rw [bne_iff_ne]; exact h0
    have Hr := Lib.hid (And.intro hr h0)
    clear hr h0
    go_wp2_with (fail)
    refine bodyPost_ret (v := .tuple #[.slice none 0 0, .int .i64 r]) (Came_results _ _ _ _ (by simp) (by simp)) rfl ?_
    refine ⟨.inl ⟨by rw [← Hr.out.1]; exact Hr.out.2, by rw [← Hr.out.1]⟩, hb1⟩
  case pos =>
    subst h0
    have Hc := Lib.hid hr.symm
    clear hr
    have hz1 := hb1.size
    have ho := one_int (w1.alloc (.cells #[.int .i64 t] 2)) (w1.heap.size + 1) w1.heap.size t (by omega) (by simp)
    have hb2 : Below w.heap.size w (w1.alloc (.cells #[.int .i64 t] 2)) := hb1.alloc hz1 _
    go_wp2_with (fail)
    refine (within64_any 0 60 (w1.alloc (.cells #[.int .i64 t] 2)) (w1.heap.size + 1) (some ⟨w1.heap.size, 0, none⟩) 1 1 [t] ho (by simp)).mono ?_
    rintro e w2 ⟨rfl, hb3⟩
    have hb4 := hb2.trans (hb3.mono hb2.size)
    clear hb2 hb3 ho hb1
    rw [within_one]
    by_cases ht : 0 ≤ t ∧ t ≤ 60
    case neg =>
      have hd : (decide (0 ≤ t) && decide (t ≤ 60)) = false := by
        rw [← Bool.not_eq_true, Bool.and_eq_true, decide_eq_true_eq, decide_eq_true_eq]
        exact ht
      rw [hd]
      have Ht := Lib.hid ht
      clear ht hd
      go_wp2_with (fail)
      refine bodyPost_ret (v := .tuple #[.slice none 0 0, .int .i64 3]) (Came_results _ _ _ _ (by simp) (by simp)) rfl ?_
      exact ⟨.inr (.inl ⟨Hc.out, Ht.out, rfl⟩), hb4⟩
    case pos =>
      have hd : (decide (0 ≤ t) && decide (t ≤ 60)) = true := by simp [ht]
      rw [hd]
      obtain ⟨k, hk⟩ : ∃ k : Nat, t = (k : Int) := ⟨t.toNat, by omega⟩
      subst hk
      have hk2 : k ≤ 60 := by omega
      clear ht hd
      go_wp2_with (fail)
      refine (sourceOf_any w2 B A n c xs (hx.below hb4 hB) (by have := hb4.size; omega) (nums_of Hc.out)).mono ?_
      rintro e w3 ⟨rfl, hb5⟩
      have hb6 := hb4.trans (hb5.mono hb4.size)
      clear hb4 hb5
      obtain ⟨q, hq⟩ : ∃ q, q = fewQ xs := ⟨_, rfl⟩
      rw [← hq]
      have hfn := few_nums Hc.out
      have hml : mostL xs k = sumsT (fewL q) k := by unfold mostL; rw [← hq]
      rw [← hq] at hfn
      have Hm := Lib.hid (And.intro hfn hml)
      clear hq hfn hml
      go_wp2_with (fail)
      refine (most_any w3 A n c k q Hm.out.1 (by omega)).mono ?_
      rintro e w4 ⟨g, hg, rfl, hrow, hb7⟩
      have hb8 := hb6.trans (hb7.mono hb6.size)
      have hz8 := hb8.size
      have hi := hrow.ints (n := k + 1) (sumsT_len _ _) (by omega)
      clear hb6 hb7 hrow
      go_wp2_with (fail)
      refine (row_any w4 w4.heap.size (some ⟨g, 0, none⟩) (k + 1) k (k + 1) (sumsT (fewL q) k) hi (Nat.le_refl _) (Nat.le_refl _) (Nat.le_refl _) hk2 (dif_bound Hm.out.1 (by omega))).mono ?_
      rintro e w5 ⟨g2, hg2, rfl, hrow, hb9⟩
      have hb10 := hb8.trans (hb9.mono hz8)
      have Hrow := Lib.hid hrow
      clear hb8 hb9 hrow hi
      go_wp2_with (fail)
      refine bodyPost_ret (v := .tuple #[.slice (some ⟨g2, 0, none⟩) k k, .int .i64 0]) (Came_results _ _ _ _ (by simp) (by simp)) rfl ?_
      exact ⟨.inr (.inr ⟨Hc.out, k, g2, rfl, hk2, by omega, rfl, by rw [Hm.out.2]; exact Hrow.out⟩), hb10⟩
theorem Break_results (W : World) (tmps : Array Value) (a b c : Value) (h4 : tmps.getD 4 undef = a) (h5 : tmps.getD 5 undef = b) (h6 : tmps.getD 6 undef = c) :
    (results Try.f29 tmps).run Try.prog W = .ok (.tuple #[a, b, c]) W := by
  simp only [Array.getD_eq_getD_getElem?] at h4 h5 h6
  simp [results, Try.results29, go_sem, h4, h5, h6]
theorem one_row (w : World) (B : Nat) (A : Option Addr) (n c : Nat) (xs : List Int) (hx : IntsAt w B A n xs) (hB : B ≤ w.heap.size) :
    RowsAt (w.alloc (.cells #[.slice A n c] 22)) (w.heap.size + 1) (some ⟨w.heap.size, 0, none⟩) 1 [xs] := by
  refine ⟨rfl, by omega, fun _ => ⟨w.heap.size, 0, rfl, by omega, fun j cs hj => ?_⟩⟩
  have h1 : j < 1 := (List.getElem?_eq_some_iff.1 hj).1
  have h0 : j = 0 := by omega
  subst h0
  cases hj
  exact ⟨A, n, c, (Boxed.new w 22 (.slice A n c)).cell, (hx.alloc hB _).more (by omega)⟩
theorem first_one (f : List Int → Int) (xs : List Int) : firstE f [xs] = f xs := by
  by_cases h : f xs = 0
  · rw [h]
    exact firstE_all (f := f) (css := [xs]) (fun i x hi hx => by
      have h0 : i = 0 := by simpa using hi
      subst h0
      cases hx
      exact h)
  · exact firstE_at (f := f) (css := [xs]) (j := 0) (fun i x hi => by omega) rfl h
def breakR (cs xs : List Int) : Int × Int × Int := if curveF cs ≠ 0 then (0, 0, curveF cs) else if rowF xs ≠ 0 then (0, 0, rowF xs) else match brkF xs (mostL cs xs.length) with
  | none => (0, 0, 5)
  | some (k, l) => ((k : Int), (l : Int), 0)
set_option maxRecDepth 100000 in
set_option maxHeartbeats 4000000 in
theorem Break_any (w : World) (B B2 : Nat) (A A2 : Option Addr) (n c m c2 : Nat) (xs ys : List Int) (hx : IntsAt w B A n xs) (hB : B ≤ w.heap.size) (hy : IntsAt w B2 A2 m ys) (hB2 : B2 ≤ w.heap.size) (hc2 : m ≤ c2) :
    Calls Try.prog 29 #[.slice A n c, .slice A2 m c2] w fun e w' => e = .returned (.tuple #[.int .i64 (breakR xs ys).1, .int .i64 (breakR xs ys).2.1, .int .i64 (breakR xs ys).2.2]) ∧ Below w.heap.size w w' := by
  have hm := hx.small
  go_enter Try.func29, Try.ntmps29
  go_wp2_with (fail)
  refine (checkCurve_any w B A n c xs hx hB).mono ?_
  rintro e w1 ⟨rfl, hb1⟩
  obtain ⟨r, hr⟩ : ∃ r, r = curveF xs := ⟨_, rfl⟩
  rw [← hr]
  by_cases h0 : r = 0
  case neg =>
    have hne : (r != 0) = true := by rw [bne_iff_ne]; exact h0
    have Hr := Lib.hid (And.intro hr h0)
    clear hr h0
    go_wp2_with (fail)
    refine bodyPost_ret (v := .tuple #[.int .i64 0, .int .i64 0, .int .i64 r]) (Break_results _ _ _ _ _ (by simp) (by simp) (by simp)) rfl ?_
    refine ⟨?_, hb1⟩
    have e : breakR xs ys = (0, 0, r) := by unfold breakR; rw [if_pos (by rw [← Hr.out.1]; exact Hr.out.2), Hr.out.1]
    rw [e]
  case pos =>
    subst h0
    have Hc := Lib.hid hr.symm
    clear hr
    have hz1 := hb1.size
    have ho := one_row w1 B2 A2 m c2 ys (hy.below hb1 hB2) (by omega)
    have hb2 : Below w.heap.size w (w1.alloc (.cells #[.slice A2 m c2] 22)) := hb1.alloc hz1 _
    go_wp2_with (fail)
    refine (checkRows_any (w1.alloc (.cells #[.slice A2 m c2] 22)) (w1.heap.size + 1) (some ⟨w1.heap.size, 0, none⟩) 1 1 [ys] ho (by simp)).mono ?_
    rintro e w2 ⟨rfl, hb3⟩
    have hb4 := hb2.trans (hb3.mono hb2.size)
    clear hb2 hb3 ho hb1
    rw [first_one]
    obtain ⟨s, hs⟩ : ∃ s, s = rowF ys := ⟨_, rfl⟩
    rw [← hs]
    by_cases h1 : s = 0
    case neg =>
      have hne : (s != 0) = true := by rw [bne_iff_ne]; exact h1
      have Hs := Lib.hid (And.intro hs h1)
      clear hs h1
      go_wp2_with (fail)
      refine bodyPost_ret (v := .tuple #[.int .i64 0, .int .i64 0, .int .i64 s]) (Break_results _ _ _ _ _ (by simp) (by simp) (by simp)) rfl ?_
      refine ⟨?_, hb4⟩
      have e : breakR xs ys = (0, 0, s) := by unfold breakR; rw [if_neg (by rw [Hc.out]; simp), if_pos (by rw [← Hs.out.1]; exact Hs.out.2), Hs.out.1]
      rw [e]
    case pos =>
      subst h1
      have Hs := Lib.hid hs.symm
      clear hs
      go_wp2_with (fail)
      refine (sourceOf_any w2 B A n c xs (hx.below hb4 hB) (by have := hb4.size; omega) (nums_of Hc.out)).mono ?_
      rintro e w3 ⟨rfl, hb5⟩
      have hb6 := hb4.trans (hb5.mono hb4.size)
      clear hb4 hb5
      obtain ⟨q, hq⟩ : ∃ q, q = fewQ xs := ⟨_, rfl⟩
      rw [← hq]
      have hfn := few_nums Hc.out
      have hyl := hy.len
      have hbk : breakR xs ys = match brkF ys (sumsT (fewL q) m) with
          | none => (0, 0, 5)
          | some (k, l) => ((k : Int), (l : Int), 0) := by unfold breakR mostL; rw [if_neg (by rw [Hc.out]; simp), if_neg (by rw [Hs.out]; simp), ← hq, hyl]
      rw [← hq] at hfn
      have Hm := Lib.hid (And.intro hfn hbk)
      clear hq hfn hbk hyl
      go_wp2_with (fail)
      refine (breaks_any w3 A n c q Hm.out.1 B2 A2 m c2 ys (hy.below hb6 hB2) (by have := hb6.size; omega) (row_of Hs.out) hc2).mono ?_
      rintro e w4 ⟨rfl, hb7⟩
      have hb8 := hb6.trans (hb7.mono hb6.size)
      clear hb6 hb7
      obtain ⟨z, hz⟩ : ∃ z, z = brkF ys (sumsT (fewL q) m) := ⟨_, rfl⟩
      have hbk := Hm.out.2
      rw [← hz] at hbk ⊢
      have Hb := Lib.hid hbk
      clear hz hbk Hm
      cases z with
      | none =>
        unfold brkV
        go_wp2_with (fail)
        refine bodyPost_ret (v := .tuple #[.int .i64 0, .int .i64 0, .int .i64 5]) (Break_results _ _ _ _ _ (by simp) (by simp) (by simp)) rfl ?_
        exact ⟨by rw [Hb.out], hb8⟩
      | some z =>
        obtain ⟨k, l⟩ := z
        unfold brkV
        go_wp2_with (fail)
        refine bodyPost_ret (v := .tuple #[.int .i64 (k : Int), .int .i64 (l : Int), .int .i64 0]) (Break_results _ _ _ _ _ (by simp) (by simp) (by simp)) rfl ?_
        exact ⟨by rw [Hb.out], hb8⟩
end Go.Proofs.Ytjidllaaokdjhaa
