/- Parts of a proof: LS LT LU LV. -/
import Derived.Test.YtlgibckhkdggdaaH5

/- lag: Most, Came, Break, Added. -/
namespace Go.Proofs.Ytlgibckhkdggdaa
open Go.RowKit Go.Shelf

attribute [local go_sem] Oper.semAt_some

theorem curve_nums {xs : List Int} (h : curveF xs = 0) : 1 ≤ xs.length ∧ xs.length ≤ 6 ∧ (∀ j, j < xs.length → 0 ≤ xs[j]?.getD 0 ∧ xs[j]?.getD 0 ≤ 100) ∧ sortedF xs = true := by
  unfold curveF at h
  split at h
  · cases h
  · rename_i h1
    split at h
    · cases h
    · rename_i h2
      split at h
      · cases h
      · rename_i h3
        refine ⟨by omega, by omega, all_within (by simpa using h2), by simpa using h3⟩
theorem nums_of {xs : List Int} (h : curveF xs = 0) : Nums xs := by
  obtain ⟨h1, h2, h3, -⟩ := curve_nums h
  exact ⟨h1, by omega, fun j hj => by have := h3 j hj; omega⟩
theorem sumsT_100 {xs : List Int} (h : curveF xs = 0) : ∀ (k j : Nat), j ≤ k → 0 ≤ (sumsT xs k)[j]?.getD 0 ∧ (sumsT xs k)[j]?.getD 0 ≤ 100 * j
  | 0, j, hj => by
    have : j = 0 := by omega
    subst this
    simp [sumsT]
  | k + 1, j, hj => by
    rw [sumsT]
    by_cases hjk : j ≤ k
    · rw [List.getElem?_append_left (by rw [sumsT_len]; omega)]
      exact sumsT_100 h k j hjk
    · have : j = k + 1 := by omega
      subst this
      rw [List.getElem?_append_right (by rw [sumsT_len]; omega), sumsT_len]
      simp only [Nat.sub_self, List.getElem?_cons_zero, Option.getD_some]
      obtain ⟨p, h1, h2, e⟩ := nextSum_mem (nums_of h) (sumsT xs k) (t := k + 1) (by omega)
      rw [e]
      have a := (curve_nums h).2.2.1 (p - 1) (by omega)
      have b := sumsT_100 h k (k + 1 - p) (by omega)
      unfold sumAt
      omega
theorem few_nums {xs : List Int} (h : curveF xs = 0) : Nums (fewL (fewQ xs)) := by
  refine ⟨by simp [fewL], by simp [fewL], fun j hj => ?_⟩
  have hj6 : j < 6 := by simpa [fewL] using hj
  have key : (fewL (fewQ xs))[j]?.getD 0 = fewQ xs (j + 1) := by
    have : j = 0 ∨ j = 1 ∨ j = 2 ∨ j = 3 ∨ j = 4 ∨ j = 5 := by omega
    rcases this with rfl | rfl | rfl | rfl | rfl | rfl <;> rfl
  rw [key]
  have := sumsT_100 h 6 (j + 1) (by omega)
  unfold fewQ
  omega
theorem row_of {xs : List Int} (h : rowF xs = 0) : Row60 xs := by
  unfold rowF at h
  split at h
  · cases h
  · split at h
    · cases h
    · rename_i h1 h2
      exact ⟨by omega, all_within (by simpa using h2)⟩
/-- The most of a curve for each number of turns up to t. -/
def mostL (xs : List Int) (t : Nat) : List Int := sumsT (fewL (fewQ xs)) t
theorem Most_results (W : World) (tmps : Array Value) (a b : Value) (h4 : tmps.getD 4 undef = a) (h5 : tmps.getD 5 undef = b) :
    (results Try.f20 tmps).run Try.prog W = .ok (.tuple #[a, b]) W := by
  simp only [Array.getD_eq_getD_getElem?] at h4 h5
  simp [results, Try.results20, go_sem, h4, h5]
def mostR (xs : List Int) (t : Int) : Int × Int := if curveF xs ≠ 0 then (0, curveF xs) else if ¬ (0 ≤ t ∧ t ≤ 200) then (0, 3) else ((mostL xs t.toNat)[t.toNat]?.getD 0, 0)
set_option maxRecDepth 100000 in
set_option maxHeartbeats 4000000 in
theorem Most_any (w : World) (B : Nat) (A : Option Addr) (n c : Nat) (xs : List Int) (t : Int) (hx : IntsAt w B A n xs) (hB : B ≤ w.heap.size) :
    Calls Try.prog 20 #[.slice A n c, .int .i64 t] w fun e w' => e = .returned (.tuple #[.int .i64 (mostR xs t).1, .int .i64 (mostR xs t).2]) ∧ Below w.heap.size w w' := by
  have hm := hx.small
  go_enter Try.func20, Try.ntmps20
  go_wp2_with (fail)
  refine (checkCurve_any w B A n c xs hx hB).mono ?_
  rintro e w1 ⟨rfl, hb1⟩
  obtain ⟨r, hr⟩ : ∃ r, r = curveF xs := ⟨_, rfl⟩
  rw [← hr]
  by_cases h0 : r = 0
  case neg =>
    have hne : (r != 0) = true := by rw [bne_iff_ne]; exact h0
    have Hr := Lib.hid (And.intro hr h0)
    clear hr h0
    go_wp2_with (fail)
    refine bodyPost_ret (v := .tuple #[.int .i64 0, .int .i64 r]) (Most_results _ _ _ _ (by simp) (by simp)) rfl ?_
    refine ⟨?_, hb1⟩
    have e : mostR xs t = (0, r) := by unfold mostR; rw [if_pos (by rw [← Hr.out.1]; exact Hr.out.2), Hr.out.1]
    rw [e]
  case pos =>
    subst h0
    have Hc := Lib.hid hr.symm
    clear hr
    have hz1 := hb1.size
    have ho := one_int (w1.alloc (.cells #[.int .i64 t] 2)) (w1.heap.size + 1) w1.heap.size t (by omega) (by simp)
    have hb2 : Below w.heap.size w (w1.alloc (.cells #[.int .i64 t] 2)) := hb1.alloc hz1 _
    go_wp2_with (fail)
    refine (within64_any 0 200 (w1.alloc (.cells #[.int .i64 t] 2)) (w1.heap.size + 1) (some ⟨w1.heap.size, 0, none⟩) 1 1 [t] ho (by simp)).mono ?_
    rintro e w2 ⟨rfl, hb3⟩
    have hb4 := hb2.trans (hb3.mono hb2.size)
    clear hb2 hb3 ho hb1
    rw [within_one]
    by_cases ht : 0 ≤ t ∧ t ≤ 200
    case neg =>
      have hd : (decide (0 ≤ t) && decide (t ≤ 200)) = false := by
        rw [← Bool.not_eq_true, Bool.and_eq_true, decide_eq_true_eq, decide_eq_true_eq]
        exact ht
      rw [hd]
      have Ht := Lib.hid ht
      clear ht hd
      go_wp2_with (fail)
      refine bodyPost_ret (v := .tuple #[.int .i64 0, .int .i64 3]) (Most_results _ _ _ _ (by simp) (by simp)) rfl ?_
      refine ⟨?_, hb4⟩
      have e : mostR xs t = (0, 3) := by unfold mostR; rw [if_neg (by rw [Hc.out]; simp), if_pos Ht.out]
      rw [e]
    case pos =>
      have hd : (decide (0 ≤ t) && decide (t ≤ 200)) = true := by simp [ht]
      rw [hd]
      obtain ⟨k, hk⟩ : ∃ k : Nat, t = (k : Int) := ⟨t.toNat, by omega⟩
      subst hk
      have hk2 : k ≤ 200 := by omega
      clear ht hd
      go_wp2_with (fail)
      refine (sourceOf_any w2 B A n c xs (hx.below hb4 hB) (by have := hb4.size; omega) (nums_of Hc.out)).mono ?_
      rintro e w3 ⟨rfl, hb5⟩
      have hb6 := hb4.trans (hb5.mono hb4.size)
      clear hb4 hb5
      obtain ⟨q, hq⟩ : ∃ q, q = fewQ xs := ⟨_, rfl⟩
      rw [← hq]
      have hfn := few_nums Hc.out
      have hml : mostR xs (k : Int) = ((sumsT (fewL q) k)[k]?.getD 0, 0) := by unfold mostR mostL; rw [if_neg (by rw [Hc.out]; simp), if_neg (by omega), ← hq]; rfl
      rw [← hq] at hfn
      have Hm := Lib.hid (And.intro hfn hml)
      clear hq hfn hml
      go_wp2_with (fail)
      refine (most_any w3 A n c k q Hm.out.1 (by omega)).mono ?_
      rintro e w4 ⟨g, hg, rfl, hrow, hb7⟩
      have hb8 := hb6.trans (hb7.mono hb6.size)
      have e1 := hrow.cell (j := k) (by rw [sumsT_len]; omega)
      have hkl : (k : Int) < (k : Int) + 1 := by omega
      obtain ⟨y, hy⟩ : ∃ y, y = (sumsT (fewL q) k)[k]?.getD 0 := ⟨_, rfl⟩
      rw [← hy] at e1
      have Hy := Lib.hid hy
      clear hy hb6 hb7 hrow
      go_wp2_with (fail)
      refine bodyPost_ret (v := .tuple #[.int .i64 y, .int .i64 0]) (Most_results _ _ _ _ (by simp) (by simp)) rfl ?_
      refine ⟨?_, hb8⟩
      rw [Hm.out.2, Hy.out]
theorem Came_results (W : World) (tmps : Array Value) (a b : Value) (h4 : tmps.getD 4 undef = a) (h5 : tmps.getD 5 undef = b) :
    (results Try.f31 tmps).run Try.prog W = .ok (.tuple #[a, b]) W := by
  simp only [Array.getD_eq_getD_getElem?] at h4 h5
  simp [results, Try.results31, go_sem, h4, h5]
def CameP (xs : List Int) (t : Int) (n0 : Nat) (w' : World) (e : Ending) : Prop :=
  (curveF xs ≠ 0 ∧ e = .returned (.tuple #[.slice none 0 0, .int .i64 (curveF xs)])) ∨ (curveF xs = 0 ∧ ¬ (0 ≤ t ∧ t ≤ 60) ∧ e = .returned (.tuple #[.slice none 0 0, .int .i64 3])) ∨
  (curveF xs = 0 ∧ ∃ k g : Nat, t = (k : Int) ∧ k ≤ 60 ∧ n0 ≤ g ∧ e = .returned (.tuple #[.slice (some ⟨g, 0, none⟩) k k, .int .i64 0]) ∧ RowZ w' g (difL (mostL xs k) k))
theorem dif_bound {xs : List Int} (hv : Nums xs) {k : Nat} (hk : k ≤ 1000) : ∀ j, j < k → -1000000000 ≤ difF (sumsT xs k) j ∧ difF (sumsT xs k) j ≤ 1000000000 := by
  intro j hj
  have a := sumsT_bound hv k j (by omega)
  have b := sumsT_bound hv k (j + 1) (by omega)
  unfold difF
  omega
set_option maxRecDepth 100000 in
set_option maxHeartbeats 4000000 in
theorem Came_any (w : World) (B : Nat) (A : Option Addr) (n c : Nat) (xs : List Int) (t : Int) (hx : IntsAt w B A n xs) (hB : B ≤ w.heap.size) :
    Calls Try.prog 31 #[.slice A n c, .int .i64 t] w fun e w' => CameP xs t w.heap.size w' e ∧ Below w.heap.size w w' := by
  have hm := hx.small
  go_enter Try.func31, Try.ntmps31
  go_wp2_with (fail)
  refine (checkCurve_any w B A n c xs hx hB).mono ?_
  rintro e w1 ⟨rfl, hb1⟩
  obtain ⟨r, hr⟩ : ∃ r, r = curveF xs := ⟨_, rfl⟩
  rw [← hr]
  by_cases h0 : r = 0
  case neg =>
    have hne : (r != 0) = true := by rw [bne_iff_ne]; exact h0
    have Hr := Lib.hid (And.intro hr h0)
    clear hr h0
    go_wp2_with (fail)
    refine bodyPost_ret (v := .tuple #[.slice none 0 0, .int .i64 r]) (Came_results _ _ _ _ (by simp) (by simp)) rfl ?_
    refine ⟨.inl ⟨by rw [← Hr.out.1]; exact Hr.out.2, by rw [← Hr.out.1]⟩, hb1⟩
  case pos =>
    subst h0
    have Hc := Lib.hid hr.symm
    clear hr
    have hz1 := hb1.size
    have ho := one_int (w1.alloc (.cells #[.int .i64 t] 2)) (w1.heap.size + 1) w1.heap.size t (by omega) (by simp)
    have hb2 : Below w.heap.size w (w1.alloc (.cells #[.int .i64 t] 2)) := hb1.alloc hz1 _
    go_wp2_with (fail)
    refine (within64_any 0 60 (w1.alloc (.cells #[.int .i64 t] 2)) (w1.heap.size + 1) (some ⟨w1.heap.size, 0, none⟩) 1 1 [t] ho (by simp)).mono ?_
    rintro e w2 ⟨rfl, hb3⟩
    have hb4 := hb2.trans (hb3.mono hb2.size)
    clear hb2 hb3 ho hb1
    rw [within_one]
    by_cases ht : 0 ≤ t ∧ t ≤ 60
    case neg =>
      have hd : (decide (0 ≤ t) && decide (t ≤ 60)) = false := by
        rw [← Bool.not_eq_true, Bool.and_eq_true, decide_eq_true_eq, decide_eq_true_eq]
        exact ht
      rw [hd]
      have Ht := Lib.hid ht
      clear ht hd
      go_wp2_with (fail)
      refine bodyPost_ret (v := .tuple #[.slice none 0 0, .int .i64 3]) (Came_results _ _ _ _ (by simp) (by simp)) rfl ?_
      exact ⟨.inr (.inl ⟨Hc.out, Ht.out, rfl⟩), hb4⟩
    case pos =>
      have hd : (decide (0 ≤ t) && decide (t ≤ 60)) = true := by simp [ht]
      rw [hd]
      obtain ⟨k, hk⟩ : ∃ k : Nat, t = (k : Int) := ⟨t.toNat, by omega⟩
      subst hk
      have hk2 : k ≤ 60 := by omega
      clear ht hd
      go_wp2_with (fail)
      refine (sourceOf_any w2 B A n c xs (hx.below hb4 hB) (by have := hb4.size; omega) (nums_of Hc.out)).mono ?_
      rintro e w3 ⟨rfl, hb5⟩
      have hb6 := hb4.trans (hb5.mono hb4.size)
      clear hb4 hb5
      obtain ⟨q, hq⟩ : ∃ q, q = fewQ xs := ⟨_, rfl⟩
      rw [← hq]
      have hfn := few_nums Hc.out
      have hml : mostL xs k = sumsT (fewL q) k := by unfold mostL; rw [← hq]
      rw [← hq] at hfn
      have Hm := Lib.hid (And.intro hfn hml)
      clear hq hfn hml
      go_wp2_with (fail)
      refine (most_any w3 A n c k q Hm.out.1 (by omega)).mono ?_
      rintro e w4 ⟨g, hg, rfl, hrow, hb7⟩
      have hb8 := hb6.trans (hb7.mono hb6.size)
      have hz8 := hb8.size
      have hi := hrow.ints (n := k + 1) (sumsT_len _ _) (by omega)
      clear hb6 hb7 hrow
      go_wp2_with (fail)
      refine (row_any w4 w4.heap.size (some ⟨g, 0, none⟩) (k + 1) k (k + 1) (sumsT (fewL q) k) hi (Nat.le_refl _) (Nat.le_refl _) (Nat.le_refl _) hk2 (dif_bound Hm.out.1 (by omega))).mono ?_
      rintro e w5 ⟨g2, hg2, rfl, hrow, hb9⟩
      have hb10 := hb8.trans (hb9.mono hz8)
      have Hrow := Lib.hid hrow
      clear hb8 hb9 hrow hi
      go_wp2_with (fail)
      refine bodyPost_ret (v := .tuple #[.slice (some ⟨g2, 0, none⟩) k k, .int .i64 0]) (Came_results _ _ _ _ (by simp) (by simp)) rfl ?_
      exact ⟨.inr (.inr ⟨Hc.out, k, g2, rfl, hk2, by omega, rfl, by rw [Hm.out.2]; exact Hrow.out⟩), hb10⟩
theorem Break_results (W : World) (tmps : Array Value) (a b c : Value) (h4 : tmps.getD 4 undef = a) (h5 : tmps.getD 5 undef = b) (h6 : tmps.getD 6 undef = c) :
    (results Try.f29 tmps).run Try.prog W = .ok (.tuple #[a, b, c]) W := by
  simp only [Array.getD_eq_getD_getElem?] at h4 h5 h6
  simp [results, Try.results29, go_sem, h4, h5, h6]
theorem one_row (w : World) (B : Nat) (A : Option Addr) (n c : Nat) (xs : List Int) (hx : IntsAt w B A n xs) (hB : B ≤ w.heap.size) :
    RowsAt (w.alloc (.cells #[.slice A n c] 22)) (w.heap.size + 1) (some ⟨w.heap.size, 0, none⟩) 1 [xs] := by
  refine ⟨rfl, by omega, fun _ => ⟨w.heap.size, 0, rfl, by omega, fun j cs hj => ?_⟩⟩
  have h1 : j < 1 := (List.getElem?_eq_some_iff.1 hj).1
  have h0 : j = 0 := by omega
  subst h0
  cases hj
  exact ⟨A, n, c, (Boxed.new w 22 (.slice A n c)).cell, (hx.alloc hB _).more (by omega)⟩
theorem first_one (f : List Int → Int) (xs : List Int) : firstE f [xs] = f xs := by
  by_cases h : f xs = 0
  · rw [h]
    exact firstE_all (f := f) (css := [xs]) (fun i x hi hx => by
      have h0 : i = 0 := by simpa using hi
      subst h0
      cases hx
      exact h)
  · exact firstE_at (f := f) (css := [xs]) (j := 0) (fun i x hi => by omega) rfl h
def breakR (cs xs : List Int) : Int × Int × Int := if curveF cs ≠ 0 then (0, 0, curveF cs) else if rowF xs ≠ 0 then (0, 0, rowF xs) else match brkF xs (mostL cs xs.length) with
  | none => (0, 0, 5)
  | some (k, l) => ((k : Int), (l : Int), 0)
set_option maxRecDepth 100000 in
set_option maxHeartbeats 4000000 in
theorem Break_any (w : World) (B B2 : Nat) (A A2 : Option Addr) (n c m c2 : Nat) (xs ys : List Int) (hx : IntsAt w B A n xs) (hB : B ≤ w.heap.size) (hy : IntsAt w B2 A2 m ys) (hB2 : B2 ≤ w.heap.size) (hc2 : m ≤ c2) :
    Calls Try.prog 29 #[.slice A n c, .slice A2 m c2] w fun e w' => e = .returned (.tuple #[.int .i64 (breakR xs ys).1, .int .i64 (breakR xs ys).2.1, .int .i64 (breakR xs ys).2.2]) ∧ Below w.heap.size w w' := by
  have hm := hx.small
  go_enter Try.func29, Try.ntmps29
  go_wp2_with (fail)
  refine (checkCurve_any w B A n c xs hx hB).mono ?_
  rintro e w1 ⟨rfl, hb1⟩
  obtain ⟨r, hr⟩ : ∃ r, r = curveF xs := ⟨_, rfl⟩
  rw [← hr]
  by_cases h0 : r = 0
  case neg =>
    have hne : (r != 0) = true := by rw [bne_iff_ne]; exact h0
    have Hr := Lib.hid (And.intro hr h0)
    clear hr h0
    go_wp2_with (fail)
    refine bodyPost_ret (v := .tuple #[.int .i64 0, .int .i64 0, .int .i64 r]) (Break_results _ _ _ _ _ (by simp) (by simp) (by simp)) rfl ?_
    refine ⟨?_, hb1⟩
    have e : breakR xs ys = (0, 0, r) := by unfold breakR; rw [if_pos (by rw [← Hr.out.1]; exact Hr.out.2), Hr.out.1]
    rw [e]
  case pos =>
    subst h0
    have Hc := Lib.hid hr.symm
    clear hr
    have hz1 := hb1.size
    have ho := one_row w1 B2 A2 m c2 ys (hy.below hb1 hB2) (by omega)
    have hb2 : Below w.heap.size w (w1.alloc (.cells #[.slice A2 m c2] 22)) := hb1.alloc hz1 _
    go_wp2_with (fail)
    refine (checkRows_any (w1.alloc (.cells #[.slice A2 m c2] 22)) (w1.heap.size + 1) (some ⟨w1.heap.size, 0, none⟩) 1 1 [ys] ho (by simp)).mono ?_
    rintro e w2 ⟨rfl, hb3⟩
    have hb4 := hb2.trans (hb3.mono hb2.size)
    clear hb2 hb3 ho hb1
    rw [first_one]
    obtain ⟨s, hs⟩ : ∃ s, s = rowF ys := ⟨_, rfl⟩
    rw [← hs]
    by_cases h1 : s = 0
    case neg =>
      have hne : (s != 0) = true := by rw [bne_iff_ne]; exact h1
      have Hs := Lib.hid (And.intro hs h1)
      clear hs h1
      go_wp2_with (fail)
      refine bodyPost_ret (v := .tuple #[.int .i64 0, .int .i64 0, .int .i64 s]) (Break_results _ _ _ _ _ (by simp) (by simp) (by simp)) rfl ?_
      refine ⟨?_, hb4⟩
      have e : breakR xs ys = (0, 0, s) := by unfold breakR; rw [if_neg (by rw [Hc.out]; simp), if_pos (by rw [← Hs.out.1]; exact Hs.out.2), Hs.out.1]
      rw [e]
    case pos =>
      subst h1
      have Hs := Lib.hid hs.symm
      clear hs
      go_wp2_with (fail)
      refine (sourceOf_any w2 B A n c xs (hx.below hb4 hB) (by have := hb4.size; omega) (nums_of Hc.out)).mono ?_
      rintro e w3 ⟨rfl, hb5⟩
      have hb6 := hb4.trans (hb5.mono hb4.size)
      clear hb4 hb5
      obtain ⟨q, hq⟩ : ∃ q, q = fewQ xs := ⟨_, rfl⟩
      rw [← hq]
      have hfn := few_nums Hc.out
      have hyl := hy.len
      have hbk : breakR xs ys = match brkF ys (sumsT (fewL q) m) with
          | none => (0, 0, 5)
          | some (k, l) => ((k : Int), (l : Int), 0) := by unfold breakR mostL; rw [if_neg (by rw [Hc.out]; simp), if_neg (by rw [Hs.out]; simp), ← hq, hyl]
      rw [← hq] at hfn
      have Hm := Lib.hid (And.intro hfn hbk)
      clear hq hfn hbk hyl
      go_wp2_with (fail)
      refine (breaks_any w3 A n c q Hm.out.1 B2 A2 m c2 ys (hy.below hb6 hB2) (by have := hb6.size; omega) (row_of Hs.out) hc2).mono ?_
      rintro e w4 ⟨rfl, hb7⟩
      have hb8 := hb6.trans (hb7.mono hb6.size)
      clear hb6 hb7
      obtain ⟨z, hz⟩ : ∃ z, z = brkF ys (sumsT (fewL q) m) := ⟨_, rfl⟩
      have hbk := Hm.out.2
      rw [← hz] at hbk ⊢
      have Hb := Lib.hid hbk
      clear hz hbk Hm
      cases z with
      | none =>
        unfold brkV
        go_wp2_with (fail)
        refine bodyPost_ret (v := .tuple #[.int .i64 0, .int .i64 0, .int .i64 5]) (Break_results _ _ _ _ _ (by simp) (by simp) (by simp)) rfl ?_
        exact ⟨by rw [Hb.out], hb8⟩
      | some z =>
        obtain ⟨k, l⟩ := z
        unfold brkV
        go_wp2_with (fail)
        refine bodyPost_ret (v := .tuple #[.int .i64 (k : Int), .int .i64 (l : Int), .int .i64 0]) (Break_results _ _ _ _ _ (by simp) (by simp) (by simp)) rfl ?_
        exact ⟨by rw [Hb.out], hb8⟩
end Go.Proofs.Ytlgibckhkdggdaa

/- lag: Rate, Added, tallies. -/
namespace Go.Proofs.Ytlgibckhkdggdaa
open Go.RowKit Go.Shelf

attribute [local go_sem] Oper.semAt_some

theorem Rate_results (W : World) (tmps : Array Value) (b : Nat) (x : Int × Int) (e : Value) (h : RatAt W b x) (t : tmps.getD 4 undef = .pointer (some ⟨b, 0, none⟩)) (t5 : tmps.getD 5 undef = e) :
    (results Try.f24 tmps).run Try.prog W = .ok (.tuple #[encR x, e]) W := by
  obtain ⟨c0, c1⟩ := h.cells
  simp only [Array.getD_eq_getD_getElem?] at t t5
  unfold encR
  simp [results, Try.results24, go_sem, t, t5, c0, c1]
def rateR (xs : List Int) (comes : Bool) : (Int × Int) × Int := if curveF xs ≠ 0 then ((0, 0), curveF xs) else if comes then (sourceRate (fewQ xs), 0) else (shaftRate xs, 0)
theorem few_small {xs : List Int} (h : curveF xs = 0) : ∀ i, 1 ≤ i → i < 7 → 0 ≤ fewQ xs i ∧ fewQ xs i ≤ 1000000 := by
  intro i h1 h2
  have := sumsT_100 h 6 i (by omega)
  unfold fewQ
  omega
set_option maxRecDepth 100000 in
set_option maxHeartbeats 4000000 in
theorem Rate_any (w : World) (B : Nat) (A : Option Addr) (n c : Nat) (xs : List Int) (comes : Bool) (hx : IntsAt w B A n xs) (hB : B ≤ w.heap.size) :
    Calls Try.prog 24 #[.slice A n c, .bool comes] w fun e w' => e = .returned (.tuple #[encR (rateR xs comes).1, .int .i64 (rateR xs comes).2]) ∧ Below w.heap.size w w' := by
  have hm := hx.small
  obtain ⟨V, hV⟩ : ∃ V, V = w.alloc (.cells #[.int .i64 0, .int .i64 0] 32) := ⟨_, rfl⟩
  have hb0 : Below w.heap.size w V := by rw [hV]; exact (Below.refl _ w).alloc (Nat.le_refl _) _
  have x4 : RatAt V w.heap.size (0, 0) := by rw [hV]; exact RatAt.new w (0, 0)
  go_enter Try.func24, Try.ntmps24
  go_wp2_with (fail)
  rw [← hV]
  clear hV
  refine (checkCurve_any V B A n c xs (hx.below hb0 hB) (by have := hb0.size; omega)).mono ?_
  rintro e w1 ⟨rfl, hb1⟩
  have y4 := x4.below hb1 x4.lt
  have hB1 := hb0.trans (hb1.mono hb0.size)
  clear x4 hb0 hb1
  obtain ⟨k0, k1⟩ := y4.cells
  have f0 := y4.frozen 0
  have f1 := y4.frozen 1
  obtain ⟨r, hr⟩ : ∃ r, r = curveF xs := ⟨_, rfl⟩
  rw [← hr]
  by_cases h0 : r = 0
  case neg =>
    have hne : (r != 0) = true := by rw [bne_iff_ne]; exact h0
    have hrr : rateR xs comes = ((0, 0), r) := by unfold rateR; rw [if_pos (by rw [← hr]; exact h0), hr]
    have Hr := Lib.hid hrr
    clear hr h0 hrr
    have fin := y4.set (0, 0)
    have hBf := (hB1.setCell (p := ⟨w.heap.size, 0, none⟩) (Nat.le_refl _) (.int .i64 0)).setCell (p := ⟨w.heap.size, 1, none⟩) (Nat.le_refl _) (.int .i64 0)
    clear y4 hB1
    go_wp2_with (fail)
    refine bodyPost_ret (v := .tuple #[encR (0, 0), .int .i64 r]) (Rate_results _ _ w.heap.size (0, 0) _ fin (by simp) (by simp)) rfl ⟨?_, hBf⟩
    rw [Hr.out]
  case pos =>
    subst h0
    have Hc := Lib.hid hr.symm
    clear hr
    cases comes with
    | true =>
      go_wp2_with (fail)
      clear k0 k1 f0 f1
      refine (sourceOf_any w1 B A n c xs (hx.below hB1 hB) (by have := hB1.size; omega) (nums_of Hc.out)).mono ?_
      rintro e w2 ⟨rfl, hb2⟩
      have z4 := y4.below hb2 y4.lt
      have hB2 := hB1.trans (hb2.mono hB1.size)
      obtain ⟨q, hq⟩ : ∃ q, q = fewQ xs := ⟨_, rfl⟩
      rw [← hq]
      have hfs := few_small Hc.out
      have hrr : rateR xs true = (sourceRate q, 0) := by unfold rateR; rw [if_neg (by rw [Hc.out]; simp), ← hq]; rfl
      rw [← hq] at hfs
      have Hm := Lib.hid (And.intro hfs hrr)
      clear hq hfs hrr y4 hb2 hB1
      go_wp2_with (fail)
      refine (sourceRate_any w2 A n c q Hm.out.1).mono ?_
      rintro e w3 ⟨rfl, hb3⟩
      have v4 := z4.below hb3 z4.lt
      have hB3 := hB2.trans (hb3.mono hB2.size)
      obtain ⟨k0, k1⟩ := v4.cells
      have f0 := v4.frozen 0
      have f1 := v4.frozen 1
      obtain ⟨⟨r1, r2⟩, hr⟩ : ∃ r, r = sourceRate q := ⟨_, rfl⟩
      rw [← hr]
      have Hr := Lib.hid hr
      have fin := v4.set (r1, r2)
      have hBf := (hB3.setCell (p := ⟨w.heap.size, 0, none⟩) (Nat.le_refl _) (.int .i64 r1)).setCell (p := ⟨w.heap.size, 1, none⟩) (Nat.le_refl _) (.int .i64 r2)
      clear hr hb3 hB2 hB3 z4 v4
      unfold encR
      go_wp2_with (fail)
      refine bodyPost_ret (v := .tuple #[encR (r1, r2), .int .i64 0]) (Rate_results _ _ w.heap.size (r1, r2) _ fin (by simp) (by simp)) rfl ⟨?_, hBf⟩
      rw [Hm.out.2, ← Hr.out]
    | false =>
      go_wp2_with (fail)
      clear k0 k1 f0 f1
      refine (shaftRate_any w1 B A n c xs (hx.below hB1 hB) (by have := hB1.size; omega) (nums_of Hc.out)).mono ?_
      rintro e w3 ⟨rfl, hb3⟩
      have v4 := y4.below hb3 y4.lt
      have hB3 := hB1.trans (hb3.mono hB1.size)
      have hrr : rateR xs false = (shaftRate xs, 0) := by unfold rateR; rw [if_neg (by rw [Hc.out]; simp)]; rfl
      obtain ⟨k0, k1⟩ := v4.cells
      have f0 := v4.frozen 0
      have f1 := v4.frozen 1
      obtain ⟨⟨r1, r2⟩, hr⟩ : ∃ r, r = shaftRate xs := ⟨_, rfl⟩
      rw [← hr] at hrr ⊢
      have Hr := Lib.hid hrr
      have fin := v4.set (r1, r2)
      have hBf := (hB3.setCell (p := ⟨w.heap.size, 0, none⟩) (Nat.le_refl _) (.int .i64 r1)).setCell (p := ⟨w.heap.size, 1, none⟩) (Nat.le_refl _) (.int .i64 r2)
      clear hr hrr hb3 hB1 hB3 y4 v4
      unfold encR
      go_wp2_with (fail)
      refine bodyPost_ret (v := .tuple #[encR (r1, r2), .int .i64 0]) (Rate_results _ _ w.heap.size (r1, r2) _ fin (by simp) (by simp)) rfl ⟨?_, hBf⟩
      rw [Hr.out]
theorem Added_results (W : World) (tmps : Array Value) (a b : Value) (h4 : tmps.getD 4 undef = a) (h5 : tmps.getD 5 undef = b) :
    (results Try.f34 tmps).run Try.prog W = .ok (.tuple #[a, b]) W := by
  simp only [Array.getD_eq_getD_getElem?] at h4 h5
  simp [results, Try.results34, go_sem, h4, h5]
theorem addF_mem (came xs : List Int) (t : Nat) : ∃ p, p ≤ t ∧ addF came xs t = came[t - p]?.getD 0 + leastF xs p := by
  have hne : partsS 0 t ≠ [] := by
    intro e
    have h0 := partsS_len 0 t
    rw [e, List.length_nil] at h0
    omega
  obtain ⟨v, hv⟩ := bestO_some (fun p : Part 0 t => came[t - p.1]?.getD 0 + leastF xs p.1) ltI _ none (.inl hne)
  rcases bestO_mem _ _ _ _ _ hv with h | ⟨p, -, hp⟩
  · cases h
  · exact ⟨p.1, (parts_mem.1 p.2).2, by unfold addF bestO; rw [hv]; exact hp⟩
theorem tot_bound {xs : List Int} (h : Row60 xs) : ∀ j, j < xs.length + 1 → 0 ≤ (totF xs)[j]?.getD 0 ∧ (totF xs)[j]?.getD 0 ≤ 1000000000 := by
  intro j hj
  rw [totF_get (by omega)]
  have := preS_bound h j (by omega)
  have := h.1
  omega
theorem addL_bound {xs cs : List Int} (h : Row60 xs) (hv : Nums cs) : ∀ j, j < xs.length + 1 → 0 ≤ (addL (totF xs) cs)[j]?.getD 0 ∧ (addL (totF xs) cs)[j]?.getD 0 ≤ 100000000 := by
  intro j hj
  rw [addL_get (by rw [totF_len]; exact hj)]
  obtain ⟨p, hp, e⟩ := addF_mem (totF xs) cs j
  rw [e, totF_get (by omega)]
  have a := preS_bound h (j - p) (by omega)
  have b := leastF_bound hv p
  have := h.1
  omega
def AddedP (cs xs : List Int) (n0 : Nat) (w' : World) (e : Ending) : Prop :=
  (curveF cs ≠ 0 ∧ e = .returned (.tuple #[.slice none 0 0, .int .i64 (curveF cs)])) ∨ (curveF cs = 0 ∧ rowF xs ≠ 0 ∧ e = .returned (.tuple #[.slice none 0 0, .int .i64 (rowF xs)])) ∨
  (curveF cs = 0 ∧ rowF xs = 0 ∧ ∃ g : Nat, n0 ≤ g ∧ e = .returned (.tuple #[.slice (some ⟨g, 0, none⟩) xs.length xs.length, .int .i64 0]) ∧ RowZ w' g (difL (addL (totF xs) cs) xs.length))
set_option maxRecDepth 100000 in
set_option maxHeartbeats 4000000 in
theorem Added_any (w : World) (B B2 : Nat) (A A2 : Option Addr) (n c m c2 : Nat) (xs ys : List Int) (hx : IntsAt w B A n xs) (hB : B ≤ w.heap.size) (hy : IntsAt w B2 A2 m ys) (hB2 : B2 ≤ w.heap.size) :
    Calls Try.prog 34 #[.slice A n c, .slice A2 m c2] w fun e w' => AddedP xs ys w.heap.size w' e ∧ Below w.heap.size w w' := by
  have hm := hx.small
  go_enter Try.func34, Try.ntmps34
  go_wp2_with (fail)
  refine (checkCurve_any w B A n c xs hx hB).mono ?_
  rintro e w1 ⟨rfl, hb1⟩
  obtain ⟨r, hr⟩ : ∃ r, r = curveF xs := ⟨_, rfl⟩
  rw [← hr]
  by_cases h0 : r = 0
  case neg =>
    have hne : (r != 0) = true := by rw [bne_iff_ne]; exact h0
    have Hr := Lib.hid (And.intro hr h0)
    clear hr h0
    go_wp2_with (fail)
    refine bodyPost_ret (v := .tuple #[.slice none 0 0, .int .i64 r]) (Added_results _ _ _ _ (by simp) (by simp)) rfl ?_
    refine ⟨.inl ⟨by rw [← Hr.out.1]; exact Hr.out.2, by rw [← Hr.out.1]⟩, hb1⟩
  case pos =>
    subst h0
    have Hc := Lib.hid hr.symm
    clear hr
    have hz1 := hb1.size
    have ho := one_row w1 B2 A2 m c2 ys (hy.below hb1 hB2) (by omega)
    have hb2 : Below w.heap.size w (w1.alloc (.cells #[.slice A2 m c2] 22)) := hb1.alloc hz1 _
    go_wp2_with (fail)
    refine (checkRows_any (w1.alloc (.cells #[.slice A2 m c2] 22)) (w1.heap.size + 1) (some ⟨w1.heap.size, 0, none⟩) 1 1 [ys] ho (by simp)).mono ?_
    rintro e w2 ⟨rfl, hb3⟩
    have hb4 := hb2.trans (hb3.mono hb2.size)
    clear hb2 hb3 ho hb1
    rw [first_one]
    obtain ⟨s, hs⟩ : ∃ s, s = rowF ys := ⟨_, rfl⟩
    rw [← hs]
    by_cases h1 : s = 0
    case neg =>
      have hne : (s != 0) = true := by rw [bne_iff_ne]; exact h1
      have Hs := Lib.hid (And.intro hs h1)
      clear hs h1
      go_wp2_with (fail)
      refine bodyPost_ret (v := .tuple #[.slice none 0 0, .int .i64 s]) (Added_results _ _ _ _ (by simp) (by simp)) rfl ?_
      exact ⟨.inr (.inl ⟨Hc.out, by rw [← Hs.out.1]; exact Hs.out.2, by rw [← Hs.out.1]⟩), hb4⟩
    case pos =>
      subst h1
      have Hs := Lib.hid hs.symm
      clear hs
      have Hy := Lib.hid hy.len
      go_wp2_with (fail)
      refine (totalsOf_any w2 B2 A2 m c2 ys (hy.below hb4 hB2) (by have := hb4.size; omega) (row_of Hs.out)).mono ?_
      rintro e w3 ⟨g, hg, rfl, hrow, hb5⟩
      have hz4 := hb4.size
      have hb6 := hb4.trans (hb5.mono hz4)
      have hz6 := hb6.size
      have hm60 : m ≤ 60 := by have := (row_of Hs.out).1; have := Hy.out; omega
      have hi := hrow.ints (n := m + 1) (by rw [totF_len, Hy.out]) (by omega)
      clear hb4 hb5 hrow
      go_wp2_with (fail)
      refine (added_any w3 w3.heap.size B (some ⟨g, 0, none⟩) A (m + 1) (m + 1) n c (totF ys) xs hi (hx.below hb6 hB) (Nat.le_refl _) (by omega) (nums_of Hc.out) (by omega) (fun j hj => tot_bound (row_of Hs.out) j (by rw [Hy.out]; exact hj))).mono ?_
      rintro e w4 ⟨g2, hg2, rfl, hrow2, hb7⟩
      have hb8 := hb6.trans (hb7.mono hz6)
      have hz8 := hb8.size
      have hi2 := hrow2.ints (n := m + 1) (by rw [addL_len, totF_len, Hy.out]) (by omega)
      clear hb6 hb7 hrow2 hi
      go_wp2_with (fail)
      refine (row_any w4 w4.heap.size (some ⟨g2, 0, none⟩) (m + 1) m (m + 1) (addL (totF ys) xs) hi2 (Nat.le_refl _) (Nat.le_refl _) (Nat.le_refl _) hm60 (fun j hj => by
        have a := addL_bound (row_of Hs.out) (nums_of Hc.out) j (by rw [Hy.out]; omega)
        have b := addL_bound (row_of Hs.out) (nums_of Hc.out) (j + 1) (by rw [Hy.out]; omega)
        unfold difF
        omega)).mono ?_
      rintro e w5 ⟨g3, hg3, rfl, hrow3, hb9⟩
      have hb10 := hb8.trans (hb9.mono hz8)
      have Hrow := Lib.hid hrow3
      clear hb8 hb9 hrow3 hi2
      go_wp2_with (fail)
      refine bodyPost_ret (v := .tuple #[.slice (some ⟨g3, 0, none⟩) m m, .int .i64 0]) (Added_results _ _ _ _ (by simp) (by simp)) rfl ?_
      exact ⟨.inr (.inr ⟨Hc.out, Hs.out, g3, by omega, by rw [Hy.out], by rw [Hy.out]; exact Hrow.out⟩), hb10⟩
end Go.Proofs.Ytlgibckhkdggdaa

/- lag: tallies of two rows. -/
namespace Go.Proofs.Ytlgibckhkdggdaa
open Go.RowKit Go.Shelf

attribute [local go_sem] Oper.semAt_some

abbrev TalAt (W : World) (b : Nat) (A1 A2 : Option Addr) (n1 n2 c1 c2 : Nat) : Prop := W.heap[b]? = some (.cells #[.slice A1 n1 c1, .slice A2 n2 c2] 96 (0, 0))
section
variable {W W' : World} {b : Nat} {A1 A2 : Option Addr} {n1 n2 c1 c2 : Nat}
theorem TalAt.lt (h : TalAt W b A1 A2 n1 n2 c1 c2) : b < W.heap.size := (Array.getElem?_eq_some_iff.1 h).1
theorem TalAt.cells (h : TalAt W b A1 A2 n1 n2 c1 c2) : W.cell? ⟨b, 0, none⟩ = some (.slice A1 n1 c1) ∧ W.cell? ⟨b, 1, none⟩ = some (.slice A2 n2 c2) := by simp [World.cell?, h]
theorem TalAt.frozen (h : TalAt W b A1 A2 n1 n2 c1 c2) (i : Nat) : W.frozen? ⟨b, i, none⟩ = false := by simp [World.frozen?, h]
theorem TalAt.new (W : World) (A1 A2 : Option Addr) (n1 n2 c1 c2 : Nat) : TalAt (W.alloc (.cells #[.slice A1 n1 c1, .slice A2 n2 c2] 96)) W.heap.size A1 A2 n1 n2 c1 c2 := World.alloc_heap_new W _
theorem TalAt.alloc (h : TalAt W b A1 A2 n1 n2 c1 c2) (o : Obj) : TalAt (W.alloc o) b A1 A2 n1 n2 c1 c2 := (Below.heap_alloc _ _ _ h.lt).trans h
theorem TalAt.below {D : Nat} (h : TalAt W b A1 A2 n1 n2 c1 c2) (hb : Below D W W') (hD : b < D) : TalAt W' b A1 A2 n1 n2 c1 c2 := (hb.block b hD).trans h
theorem TalAt.set (h : TalAt W b A1 A2 n1 n2 c1 c2) (A3 A4 : Option Addr) (n3 n4 c3 c4 : Nat) : TalAt ((W.setCell ⟨b, 0, none⟩ (.slice A3 n3 c3)).setCell ⟨b, 1, none⟩ (.slice A4 n4 c4)) b A3 A4 n3 n4 c3 c4 := by
  show (World.heap _)[b]? = _
  simp [World.setCell, Array.getElem?_modify, h]
end
theorem tallyOf_results (W : World) (tmps : Array Value) (b : Nat) (A1 A2 : Option Addr) (n1 n2 c1 c2 : Nat) (e : Value) (h : TalAt W b A1 A2 n1 n2 c1 c2) (t : tmps.getD 4 undef = .pointer (some ⟨b, 0, none⟩)) (t5 : tmps.getD 5 undef = e) :
    (results Try.f77 tmps).run Try.prog W = .ok (.tuple #[talV A1 A2 n1 n2 c1 c2, e]) W := by
  obtain ⟨c0, c1⟩ := h.cells
  simp only [Array.getD_eq_getD_getElem?] at t t5
  simp [results, Try.results77, go_sem, t, t5, c0, c1]
theorem two_rows (w : World) (B B2 : Nat) (A A2 : Option Addr) (n c m c2 : Nat) (xs ys : List Int) (hx : IntsAt w B A n xs) (hB : B ≤ w.heap.size) (hy : IntsAt w B2 A2 m ys) (hB2 : B2 ≤ w.heap.size) :
    RowsAt (w.alloc (.cells #[.slice A n c, .slice A2 m c2] 22)) (w.heap.size + 1) (some ⟨w.heap.size, 0, none⟩) 2 [xs, ys] := by
  have hh := World.alloc_heap_new w (.cells #[.slice A n c, .slice A2 m c2] 22)
  have hx' := (hx.alloc hB (.cells #[.slice A n c, .slice A2 m c2] 22)).more (B' := w.heap.size + 1) (by omega)
  have hy' := (hy.alloc hB2 (.cells #[.slice A n c, .slice A2 m c2] 22)).more (B' := w.heap.size + 1) (by omega)
  obtain ⟨W, hW⟩ : ∃ W, W = w.alloc (.cells #[.slice A n c, .slice A2 m c2] 22) := ⟨_, rfl⟩
  rw [← hW] at hh hx' hy' ⊢
  clear hW
  refine ⟨rfl, by omega, fun _ => ⟨w.heap.size, 0, rfl, by omega, fun j cs hj => ?_⟩⟩
  have h1 : j < 2 := (List.getElem?_eq_some_iff.1 hj).1
  have h0 : j = 0 ∨ j = 1 := by omega
  rcases h0 with rfl | rfl
  · cases hj
    exact ⟨A, n, c, by simp [World.cell?, hh], hx'⟩
  · cases hj
    exact ⟨A2, m, c2, by simp [World.cell?, hh], hy'⟩
def rowsF (xs ys : List Int) : Int := firstE rowF [xs, ys]
theorem rows_zero {xs ys : List Int} (h : rowsF xs ys = 0) : rowF xs = 0 ∧ rowF ys = 0 := by
  unfold rowsF at h
  rw [firstE] at h
  split at h
  · rename_i hc
    exact absurd h hc
  · rename_i hc
    rw [firstE] at h
    split at h
    · rename_i hc2
      exact absurd h hc2
    · rename_i hc2
      exact ⟨Classical.not_not.1 hc, Classical.not_not.1 hc2⟩
/-- The error of two rows as a tally. -/
def tallyE (xs ys : List Int) : Int := if rowsF xs ys ≠ 0 then rowsF xs ys else if xs.length ≠ ys.length then 15 else if reachF (totF xs) (totF ys) = false then 14 else 0
def TallyP (xs ys : List Int) (n0 : Nat) (w' : World) (e : Ending) : Prop :=
  (tallyE xs ys ≠ 0 ∧ e = .returned (.tuple #[talV none none 0 0 0 0, .int .i64 (tallyE xs ys)])) ∨
  (tallyE xs ys = 0 ∧ ∃ g1 g2 : Nat, n0 ≤ g1 ∧ n0 ≤ g2 ∧ e = .returned (.tuple #[talV (some ⟨g1, 0, none⟩) (some ⟨g2, 0, none⟩) (xs.length + 1) (xs.length + 1) (xs.length + 1) (xs.length + 1), .int .i64 0]) ∧ RowZ w' g1 (totF xs) ∧ RowZ w' g2 (totF ys))
theorem tally_zero {xs ys : List Int} (h : tallyE xs ys = 0) : Row60 xs ∧ Row60 ys ∧ xs.length = ys.length ∧ reachF (totF xs) (totF ys) = true := by
  unfold tallyE at h
  split at h
  · rename_i hc
    exact absurd h hc
  · rename_i hc
    obtain ⟨h1, h2⟩ := rows_zero (Classical.not_not.1 hc)
    split at h
    · cases h
    · rename_i hl
      split at h
      · cases h
      · rename_i hr
        exact ⟨row_of h1, row_of h2, Classical.not_not.1 hl, by simpa using hr⟩
set_option maxRecDepth 100000 in
set_option maxHeartbeats 8000000 in
theorem tallyOf_any (w : World) (B B2 : Nat) (A A2 : Option Addr) (n c m c2 : Nat) (xs ys : List Int) (hx : IntsAt w B A n xs) (hB : B ≤ w.heap.size) (hy : IntsAt w B2 A2 m ys) (hB2 : B2 ≤ w.heap.size) :
    Calls Try.prog 77 #[.slice A n c, .slice A2 m c2] w fun e w' => TallyP xs ys w.heap.size w' e ∧ Below w.heap.size w w' := by
  have hm := hx.small
  have hm2 := hy.small
  obtain ⟨V, hV⟩ : ∃ V, V = w.alloc (.cells #[.slice none 0 0, .slice none 0 0] 96) := ⟨_, rfl⟩
  have hb0 : Below w.heap.size w V := by rw [hV]; exact (Below.refl _ w).alloc (Nat.le_refl _) _
  have x4 : TalAt V w.heap.size none none 0 0 0 0 := by rw [hV]; exact TalAt.new w none none 0 0 0 0
  have hzV := hb0.size
  obtain ⟨V2, hV2⟩ : ∃ V2, V2 = V.alloc (.cells #[.slice A n c, .slice A2 m c2] 22) := ⟨_, rfl⟩
  have hb1 : Below w.heap.size w V2 := by rw [hV2]; exact hb0.alloc hzV _
  have y4 : TalAt V2 w.heap.size none none 0 0 0 0 := by rw [hV2]; exact x4.alloc _
  have ho := two_rows V B B2 A A2 n c m c2 xs ys (hx.below hb0 hB) (by omega) (hy.below hb0 hB2) (by omega)
  rw [← hV2] at ho
  have hz2 : V.heap.size + 1 ≤ V2.heap.size := by rw [hV2]; simp
  have hVs : V.heap.size = w.heap.size + 1 := by rw [hV]; simp
  rw [hVs] at ho hz2
  have Hl := Lib.hid (And.intro hx.len hy.len)
  rw [hV] at hV2
  clear hV hb0 x4 hVs hzV
  go_enter Try.func77, Try.ntmps77
  go_wp2_with (fail)
  rw [← hV2]
  clear hV2
  refine (checkRows_any V2 (w.heap.size + 1 + 1) (some ⟨w.heap.size + 1, 0, none⟩) 2 2 [xs, ys] ho hz2).mono ?_
  rintro e w1 ⟨rfl, hb2⟩
  have z4 := y4.below hb2 y4.lt
  have hB1 := hb1.trans (hb2.mono hb1.size)
  clear y4 hb1 hb2 ho hz2
  obtain ⟨k0, k1⟩ := z4.cells
  have f0 := z4.frozen 0
  have f1 := z4.frozen 1
  obtain ⟨s, hs⟩ : ∃ s, s = firstE rowF [xs, ys] := ⟨_, rfl⟩
  rw [← hs]
  by_cases h1 : s = 0
  case neg =>
    have hne : (s != 0) = true := by rw [bne_iff_ne]; exact h1
    have hte : tallyE xs ys = s := by unfold tallyE rowsF; rw [if_pos (by rw [← hs]; exact h1), hs]
    have Hs := Lib.hid (And.intro hte h1)
    clear hs h1 hte
    have fin := z4.set none none 0 0 0 0
    have hBf := (hB1.setCell (p := ⟨w.heap.size, 0, none⟩) (Nat.le_refl _) (.slice none 0 0)).setCell (p := ⟨w.heap.size, 1, none⟩) (Nat.le_refl _) (.slice none 0 0)
    clear z4 hB1
    go_wp2_with (fail)
    refine bodyPost_ret (v := .tuple #[talV none none 0 0 0 0, .int .i64 s]) (tallyOf_results _ _ w.heap.size none none 0 0 0 0 _ fin (by simp) (by simp)) rfl ⟨.inl ?_, hBf⟩
    exact ⟨by rw [Hs.out.1]; exact Hs.out.2, by rw [Hs.out.1]⟩
  case pos =>
    subst h1
    have Hs := Lib.hid (show rowsF xs ys = 0 from hs.symm)
    clear hs
    by_cases hnm : n = m
    case neg =>
      have hnm' : ((n : Int) != (m : Int)) = true := by rw [bne_iff_ne]; omega
      have hte : tallyE xs ys = 15 := by unfold tallyE; rw [if_neg (by rw [Hs.out]; simp), if_pos (by rw [Hl.out.1, Hl.out.2]; exact hnm)]
      have Ht := Lib.hid hte
      clear hte hnm
      have fin := z4.set none none 0 0 0 0
      have hBf := (hB1.setCell (p := ⟨w.heap.size, 0, none⟩) (Nat.le_refl _) (.slice none 0 0)).setCell (p := ⟨w.heap.size, 1, none⟩) (Nat.le_refl _) (.slice none 0 0)
      clear z4 hB1
      go_wp2_with (fail)
      refine bodyPost_ret (v := .tuple #[talV none none 0 0 0 0, .int .i64 15]) (tallyOf_results _ _ w.heap.size none none 0 0 0 0 _ fin (by simp) (by simp)) rfl ⟨.inl ?_, hBf⟩
      exact ⟨by rw [Ht.out]; simp, by rw [Ht.out]⟩
    case pos =>
      subst hnm
      obtain ⟨r1, r2⟩ := rows_zero Hs.out
      have hn60 : n ≤ 60 := by have := (row_of r1).1; have := Hl.out.1; omega
      have Hr := Lib.hid (And.intro (row_of r1) (row_of r2))
      clear r1 r2 k0 k1 f0 f1
      go_wp2_with (fail)
      refine (totalsOf_any w1 B A n c xs (hx.below hB1 hB) (by have := hB1.size; omega) Hr.out.1).mono ?_
      rintro e w2 ⟨g1, hg1, rfl, hr1, hb3⟩
      have v4 := z4.below hb3 z4.lt
      have hB2' := hB1.trans (hb3.mono hB1.size)
      have hz1 := hB1.size
      have hwz := z4.lt
      have hz12 := hb3.size
      clear z4 hB1 hb3
      go_wp2_with (fail)
      refine (totalsOf_any w2 B2 A2 n c2 ys (hy.below hB2' hB2) (by have := hB2'.size; omega) Hr.out.2).mono ?_
      rintro e w3 ⟨g2, hg2, rfl, hr2, hb4⟩
      have u4 := v4.below hb4 v4.lt
      have hq1 := hr1.below hb4 hr1.lt
      have hz2 := hB2'.size
      have hB3 := hB2'.trans (hb4.mono hz2)
      clear v4 hB2' hb4 hr1
      have hz3 := hB3.size
      obtain ⟨W4, hW4⟩ : ∃ W4, W4 = w3.alloc (.cells #[.slice (some ⟨g1, 0, none⟩) (n + 1) (n + 1), .slice (some ⟨g2, 0, none⟩) (n + 1) (n + 1)] 96) := ⟨_, rfl⟩
      have hB4 : Below w.heap.size w W4 := by rw [hW4]; exact hB3.alloc hz3 _
      have t7 : TalAt W4 w3.heap.size (some ⟨g1, 0, none⟩) (some ⟨g2, 0, none⟩) (n + 1) (n + 1) (n + 1) (n + 1) := by rw [hW4]; exact TalAt.new w3 _ _ _ _ _ _
      have t4 : TalAt W4 w.heap.size none none 0 0 0 0 := by rw [hW4]; exact u4.alloc _
      have p1 : RowZ W4 g1 (totF xs) := by rw [hW4]; exact hq1.alloc _
      have p2 : RowZ W4 g2 (totF ys) := by rw [hW4]; exact hr2.alloc _
      have i1 := p1.ints (n := n + 1) (by rw [totF_len, Hl.out.1]) (by omega)
      have i2 := p2.ints (n := n + 1) (by rw [totF_len, Hl.out.2]) (by omega)
      obtain ⟨k0, k1⟩ := t4.cells
      have f0 := t4.frozen 0
      have f1 := t4.frozen 1
      obtain ⟨m0, m1⟩ := t7.cells
      clear hB3 hq1 hr2 u4
      go_wp2_with (fail)
      rw [← hW4]
      clear hW4
      refine (reach_any W4 W4.heap.size W4.heap.size (some ⟨g1, 0, none⟩) (some ⟨g2, 0, none⟩) (n + 1) (n + 1) (n + 1) (n + 1) (totF xs) (totF ys) i1 i2 (Nat.le_refl _)).mono ?_
      rintro e W5 ⟨rfl, rfl⟩
      obtain ⟨rb, hrb⟩ : ∃ rb, rb = reachF (totF xs) (totF ys) := ⟨_, rfl⟩
      rw [← hrb]
      cases rb with
      | false =>
        have hte : tallyE xs ys = 14 := by unfold tallyE; rw [if_neg (by rw [Hs.out]; simp), if_neg (by rw [Hl.out.1, Hl.out.2]; simp), if_pos hrb.symm]
        have Ht := Lib.hid hte
        clear hte hrb
        have fin := t4.set none none 0 0 0 0
        have hBf := (hB4.setCell (p := ⟨w.heap.size, 0, none⟩) (Nat.le_refl _) (.slice none 0 0)).setCell (p := ⟨w.heap.size, 1, none⟩) (Nat.le_refl _) (.slice none 0 0)
        clear t4 hB4
        go_wp2_with (fail)
        refine bodyPost_ret (v := .tuple #[talV none none 0 0 0 0, .int .i64 14]) (tallyOf_results _ _ w.heap.size none none 0 0 0 0 _ fin (by simp) (by simp)) rfl ⟨.inl ?_, hBf⟩
        exact ⟨by rw [Ht.out]; simp, by rw [Ht.out]⟩
      | true =>
        have hte : tallyE xs ys = 0 := by unfold tallyE; rw [if_neg (by rw [Hs.out]; simp), if_neg (by rw [Hl.out.1, Hl.out.2]; simp), if_neg (by rw [← hrb]; simp)]
        have Ht := Lib.hid hte
        clear hte hrb
        have fin := t4.set (some ⟨g1, 0, none⟩) (some ⟨g2, 0, none⟩) (n + 1) (n + 1) (n + 1) (n + 1)
        have hBf := (hB4.setCell (p := ⟨w.heap.size, 0, none⟩) (Nat.le_refl _) (.slice (some ⟨g1, 0, none⟩) (n + 1) (n + 1))).setCell (p := ⟨w.heap.size, 1, none⟩) (Nat.le_refl _) (.slice (some ⟨g2, 0, none⟩) (n + 1) (n + 1))
        have P1 := Lib.hid ((p1.other (b := w.heap.size) (by omega) 0 (.slice (some ⟨g1, 0, none⟩) (n + 1) (n + 1))).other (b := w.heap.size) (by omega) 1 (.slice (some ⟨g2, 0, none⟩) (n + 1) (n + 1)))
        have P2 := Lib.hid ((p2.other (b := w.heap.size) (by omega) 0 (.slice (some ⟨g1, 0, none⟩) (n + 1) (n + 1))).other (b := w.heap.size) (by omega) 1 (.slice (some ⟨g2, 0, none⟩) (n + 1) (n + 1)))
        clear p1 p2 t4 hB4 i1 i2
        go_wp2_with (fail)
        refine bodyPost_ret (v := .tuple #[talV (some ⟨g1, 0, none⟩) (some ⟨g2, 0, none⟩) (n + 1) (n + 1) (n + 1) (n + 1), .int .i64 0]) (tallyOf_results _ _ w.heap.size _ _ _ _ _ _ _ fin (by simp) (by simp)) rfl ⟨.inr ⟨Ht.out, g1, g2, by omega, by omega, ?_, P1.out, P2.out⟩, hBf⟩
        rw [Hl.out.1]
end Go.Proofs.Ytlgibckhkdggdaa

/- lag: CheckAdded, Seen. -/
namespace Go.Proofs.Ytlgibckhkdggdaa
open Go.RowKit Go.Shelf

attribute [local go_sem] Oper.semAt_some

def checkAddedR (cs xs ys : List Int) : Int := if curveF cs ≠ 0 then curveF cs else if tallyE xs ys ≠ 0 then tallyE xs ys else if reachF (totF ys) (addL (totF xs) cs) = false then 18 else 0
set_option maxRecDepth 100000 in
set_option maxHeartbeats 8000000 in
theorem CheckAdded_any (w : World) (B B2 B3 : Nat) (A A2 A3 : Option Addr) (n c m c2 l c3 : Nat) (xs ys zs : List Int) (hx : IntsAt w B A n xs) (hB : B ≤ w.heap.size) (hy : IntsAt w B2 A2 m ys) (hB2 : B2 ≤ w.heap.size) (hz : IntsAt w B3 A3 l zs) (hB3 : B3 ≤ w.heap.size) :
    Calls Try.prog 38 #[.slice A n c, .slice A2 m c2, .slice A3 l c3] w fun e w' => e = .returned (.int .i64 (checkAddedR xs ys zs)) ∧ Below w.heap.size w w' := by
  have hm := hx.small
  go_enter Try.func38, Try.ntmps38
  go_wp2_with (fail)
  refine (checkCurve_any w B A n c xs hx hB).mono ?_
  rintro e w1 ⟨rfl, hb1⟩
  obtain ⟨r, hr⟩ : ∃ r, r = curveF xs := ⟨_, rfl⟩
  rw [← hr]
  by_cases h0 : r = 0
  case neg =>
    have hne : (r != 0) = true := by rw [bne_iff_ne]; exact h0
    have Hr := Lib.hid (And.intro hr h0)
    clear hr h0
    go_wp2_with (fail)
    refine bodyPost_ret (results_tmp rfl _ _ _) rfl ?_
    exact ⟨ret_int (by unfold checkAddedR; rw [if_pos (by rw [← Hr.out.1]; exact Hr.out.2), Hr.out.1]), hb1⟩
  case pos =>
    subst h0
    have Hc := Lib.hid hr.symm
    clear hr
    have hz1 := hb1.size
    go_wp2_with (fail)
    refine (tallyOf_any w1 B2 B3 A2 A3 m c2 l c3 ys zs (hy.below hb1 hB2) (by omega) (hz.below hb1 hB3) (by omega)).mono ?_
    rintro e w2 ⟨hT, hb2⟩
    have hb3 := hb1.trans (hb2.mono hz1)
    have hz3 := hb3.size
    obtain ⟨te, hte⟩ : ∃ te, te = tallyE ys zs := ⟨_, rfl⟩
    rcases hT with ⟨h1, rfl⟩ | ⟨h1, g1, g2, hg1, hg2, rfl, q1, q2⟩
    · rw [← hte] at h1 ⊢
      have hne : (te != 0) = true := by rw [bne_iff_ne]; exact h1
      have Ht := Lib.hid (And.intro hte h1)
      have hb4 : Below w.heap.size w (w2.alloc (.cells #[.slice none 0 0, .slice none 0 0] 96)) := hb3.alloc hz3 _
      clear hte h1 hb1 hb2 hb3
      go_wp2_with (fail)
      refine bodyPost_ret (results_tmp rfl _ _ _) rfl ?_
      exact ⟨ret_int (by unfold checkAddedR; rw [if_neg (by rw [Hc.out]; simp), if_pos (by rw [← Ht.out.1]; exact Ht.out.2), Ht.out.1]), hb4⟩
    · obtain ⟨o1, o2, o3, -⟩ := tally_zero h1
      have Ho := Lib.hid (And.intro h1 (And.intro o1 (And.intro o2 o3)))
      have hl60 : ys.length ≤ 60 := o1.1
      obtain ⟨N, hN⟩ : ∃ N, N = ys.length + 1 := ⟨_, rfl⟩
      obtain ⟨V, hV⟩ : ∃ V, V = w2.alloc (.cells #[.slice (some ⟨g1, 0, none⟩) N N, .slice (some ⟨g2, 0, none⟩) N N] 96) := ⟨_, rfl⟩
      have hb4 : Below w.heap.size w V := by rw [hV]; exact hb3.alloc hz3 _
      have t7 : TalAt V w2.heap.size (some ⟨g1, 0, none⟩) (some ⟨g2, 0, none⟩) N N N N := by rw [hV]; exact TalAt.new w2 _ _ _ _ _ _
      have p1 : RowZ V g1 (totF ys) := by rw [hV]; exact q1.alloc _
      have p2 : RowZ V g2 (totF zs) := by rw [hV]; exact q2.alloc _
      have i1 := p1.ints (n := N) (by rw [totF_len, hN]) (by omega)
      have i2 := p2.ints (n := N) (by rw [totF_len, hN, o3]) (by omega)
      have HN := Lib.hid hN
      rw [← hN]
      have hN61 : N ≤ 61 := by omega
      clear h1 o1 o2 o3 q1 q2 hte hb1 hb2 hb3 hN hl60
      go_wp2_with (fail)
      rw [← hV]
      clear hV
      obtain ⟨m0, m1⟩ := t7.cells
      have l7 := t7.lt
      have d0 : ∀ W, Below V.heap.size V.drew W → W.cell? ⟨w2.heap.size, 0, none⟩ = some (.slice (some ⟨g1, 0, none⟩) N N) := fun W h => (h.cell (p := ⟨w2.heap.size, 0, none⟩) l7).trans m0
      have d1 : ∀ W, Below V.heap.size V.drew W → W.cell? ⟨w2.heap.size, 1, none⟩ = some (.slice (some ⟨g2, 0, none⟩) N N) := fun W h => (h.cell (p := ⟨w2.heap.size, 1, none⟩) l7).trans m1
      refine region_held_wp 1 (fun W' => Below V.heap.size V.drew W') (fun j => decide (j = 1) || decide (j = 5)) (by kernel_rfl) ?_
      intro KR hKR
      have hS : Below V.heap.size V.drew V.drew := Below.refl _ _
      refine wpAnyHI_takeW (i := 0) (v := .pointer (some ⟨w2.heap.size, 1, none⟩)) (some 24) rfl rfl (by kernel_rfl) (by kernel_rfl) (by kernel_rfl) (by kernel_rfl) (fun _ _ _ h => h) (.inl ⟨by kernel_rfl, fun W' hS' => ?_⟩) ?_
      · go_simp
      refine wpAnyHI_takeW (i := 2) (v := .slice A n c) (some 26) rfl rfl (by kernel_rfl) (by kernel_rfl) (by kernel_rfl) (by kernel_rfl) (fun _ _ _ h => h) (.inl ⟨by kernel_rfl, fun W' hS' => ?_⟩) ?_
      · go_simp
      refine wpAnyHI_takeW (i := 3) (v := .pointer (some ⟨w2.heap.size, 0, none⟩)) (some 27) rfl rfl (by kernel_rfl) (by kernel_rfl) (by kernel_rfl) (by kernel_rfl) (fun _ _ _ h => h) (.inl ⟨by kernel_rfl, fun W' hS' => ?_⟩) ?_
      · go_simp
      refine wpAnyHI_takeE (i := 4) (v := .slice (some ⟨g1, 0, none⟩) N N) (some 28) rfl rfl (by kernel_rfl) (by kernel_rfl) (by kernel_rfl) (by kernel_rfl) (by kernel_rfl) (fun _ _ _ h => h) hS (.inl ⟨by kernel_rfl, fun W' hS' => ?_⟩) ?_
      · have q := d0 W' hS'; go_simp
      refine wpAnyHI_takeE (i := 1) (v := .slice (some ⟨g2, 0, none⟩) N N) (some 25) rfl rfl (by kernel_rfl) (by kernel_rfl) (by kernel_rfl) (by kernel_rfl) (by kernel_rfl) (fun _ _ _ h => h) hS (.inl ⟨by kernel_rfl, fun W' hS' => ?_⟩) ?_
      · have q := d1 W' hS'; go_simp
      refine wpAnyHI_one (i := 5) rfl (by kernel_rfl) ?_
      intro K1 hK1
      go_simp
      have hbd : Below w.heap.size w V.drew := hb4.trans (below_drew V)
      have hzd : w.heap.size ≤ V.drew.heap.size := hbd.size
      refine ⟨trivial, (callsIn_wide.2 (added_any V.drew V.heap.size B (some ⟨g1, 0, none⟩) A N N n c (totF ys) xs i1 (hx.below hbd hB) (Nat.le_refl _) (by omega) (nums_of Hc.out) (by omega) (fun j hj => tot_bound Ho.out.2.1 j (by have := HN.out; omega)))).mono ?_⟩
      rintro e w3 ⟨g3, hg3, rfl, hr3, hb5⟩
      refine hK1 _ _ ⟨fun _ => hb5, ?_⟩
      clear hK1 K1
      have i2' : IntsAt w3 V.heap.size (some ⟨g2, 0, none⟩) N (totF zs) := IntsAt.below (w := V.drew) i2 hb5 (Nat.le_refl _)
      have i3 := hr3.ints (n := N) (by rw [addL_len, totF_len, HN.out]) (by omega)
      have hb6 := hbd.trans (hb5.mono hzd)
      clear hb5 hr3 hS d0 d1 m0 m1 hbd i1 i2 t7 p1 p2 hb4
      refine wpAnyHI_one (i := 6) rfl (by kernel_rfl) ?_
      intro K1 hK1
      go_simp
      refine ⟨trivial, (callsIn_wide.2 (reach_any w3 V.heap.size w3.heap.size (some ⟨g2, 0, none⟩) (some ⟨g3, 0, none⟩) N N N N (totF zs) (addL (totF ys) xs) i2' i3 (Nat.le_refl _))).mono ?_⟩
      rintro e w4 ⟨rfl, rfl⟩
      refine hK1 _ _ ⟨fun h => absurd h (by simp), ?_⟩
      clear hK1 K1
      obtain ⟨rb, hrb⟩ : ∃ rb, rb = reachF (totF zs) (addL (totF ys) xs) := ⟨_, rfl⟩
      rw [← hrb]
      have Hrb := Lib.hid hrb
      clear hrb i3 i2'
      refine wpAnyHI_one (i := 7) rfl (by kernel_rfl) ?_
      intro K1 hK1
      go_simp
      refine hK1 _ _ ⟨fun h => absurd h (by simp), ?_⟩
      clear hK1 K1
      refine wpAnyHI_end (by kernel_rfl) ?_
      show KR _ _
      go_simp
      refine hKR _ _ ?_
      have hce : checkAddedR xs ys zs = if rb = false then 18 else 0 := by unfold checkAddedR; rw [if_neg (by rw [Hc.out]; simp), if_neg (by rw [Ho.out.1]; simp), ← Hrb.out]
      have He := Lib.hid hce
      clear hce
      cases rb with
      | false =>
        go_wp2_with (fail)
        refine bodyPost_ret (results_tmp rfl _ _ _) rfl ?_
        exact ⟨ret_int (by rw [He.out]; rfl), hb6⟩
      | true =>
        go_wp2_with (fail)
        refine bodyPost_ret (results_tmp rfl _ _ _) rfl ?_
        exact ⟨ret_int (by rw [He.out]; rfl), hb6⟩
theorem Seen_results (W : World) (tmps : Array Value) (a b c : Value) (h4 : tmps.getD 4 undef = a) (h5 : tmps.getD 5 undef = b) (h6 : tmps.getD 6 undef = c) :
    (results Try.f36 tmps).run Try.prog W = .ok (.tuple #[a, b, c]) W := by
  simp only [Array.getD_eq_getD_getElem?] at h4 h5 h6
  simp [results, Try.results36, go_sem, h4, h5, h6]
def waitF (ts os : List Int) (k : Nat) : Int := ts[k]?.getD 0 - os[k]?.getD 0
def seenR (xs ys : List Int) : Int × Int × Int := if tallyE xs ys ≠ 0 then (0, 0, tallyE xs ys) else if 0 < waitF (totF xs) (totF ys) xs.length then (0, 0, 18) else
  ((bestO (fun p : Part 0 xs.length => waitF (totF xs) (totF ys) p.1) gtI (partsS 0 xs.length)).getD 0, (bestO (fun p : Part 0 xs.length => lateF (totF xs) (totF ys) p.1) gtI (partsS 0 xs.length)).getD 0, 0)
set_option maxRecDepth 100000 in
set_option maxHeartbeats 8000000 in
theorem Seen_any (w : World) (B2 B3 : Nat) (A2 A3 : Option Addr) (m c2 l c3 : Nat) (ys zs : List Int) (hy : IntsAt w B2 A2 m ys) (hB2 : B2 ≤ w.heap.size) (hz : IntsAt w B3 A3 l zs) (hB3 : B3 ≤ w.heap.size) :
    Calls Try.prog 36 #[.slice A2 m c2, .slice A3 l c3] w fun e w' => e = .returned (.tuple #[.int .i64 (seenR ys zs).1, .int .i64 (seenR ys zs).2.1, .int .i64 (seenR ys zs).2.2]) ∧ Below w.heap.size w w' := by
  have hm := hy.small
  go_enter Try.func36, Try.ntmps36
  go_wp2_with (fail)
  refine (tallyOf_any w B2 B3 A2 A3 m c2 l c3 ys zs hy hB2 hz hB3).mono ?_
  rintro e w2 ⟨hT, hb3⟩
  have hz3 := hb3.size
  obtain ⟨te, hte⟩ : ∃ te, te = tallyE ys zs := ⟨_, rfl⟩
  rcases hT with ⟨h1, rfl⟩ | ⟨h1, g1, g2, hg1, hg2, rfl, q1, q2⟩
  · rw [← hte] at h1 ⊢
    have hne : (te != 0) = true := by rw [bne_iff_ne]; exact h1
    have hsr : seenR ys zs = (0, 0, te) := by unfold seenR; rw [if_pos (by rw [← hte]; exact h1), hte]
    have Ht := Lib.hid hsr
    have hb4 : Below w.heap.size w (w2.alloc (.cells #[.slice none 0 0, .slice none 0 0] 96)) := hb3.alloc hz3 _
    clear hte h1 hb3 hsr
    go_wp2_with (fail)
    refine bodyPost_ret (v := .tuple #[.int .i64 0, .int .i64 0, .int .i64 te]) (Seen_results _ _ _ _ _ (by simp) (by simp) (by simp)) rfl ?_
    exact ⟨by rw [Ht.out], hb4⟩
  · obtain ⟨o1, o2, o3, -⟩ := tally_zero h1
    have Ho := Lib.hid (And.intro h1 (And.intro o1 (And.intro o2 o3)))
    have hl60 : ys.length ≤ 60 := o1.1
    obtain ⟨N, hN⟩ : ∃ N, N = ys.length + 1 := ⟨_, rfl⟩
    obtain ⟨V, hV⟩ : ∃ V, V = w2.alloc (.cells #[.slice (some ⟨g1, 0, none⟩) N N, .slice (some ⟨g2, 0, none⟩) N N] 96) := ⟨_, rfl⟩
    have hb4 : Below w.heap.size w V := by rw [hV]; exact hb3.alloc hz3 _
    have t7 : TalAt V w2.heap.size (some ⟨g1, 0, none⟩) (some ⟨g2, 0, none⟩) N N N N := by rw [hV]; exact TalAt.new w2 _ _ _ _ _ _
    have p1 : RowZ V g1 (totF ys) := by rw [hV]; exact q1.alloc _
    have p2 : RowZ V g2 (totF zs) := by rw [hV]; exact q2.alloc _
    have i1 := p1.ints (n := N) (by rw [totF_len, hN]) (by omega)
    have i2 := p2.ints (n := N) (by rw [totF_len, hN, o3]) (by omega)
    have hyl := hy.len
    have HN := Lib.hid (And.intro hN hyl)
    have hmN : m + 1 ≤ N ∧ N ≤ m + 1 := by omega
    rw [← hN]
    have hN61 : N ≤ 61 := by omega
    obtain ⟨m0, m1⟩ := t7.cells
    have l7 := t7.lt
    have hwb : ∀ k, k < N → -1000000000 ≤ (totF ys)[k]?.getD 0 - (totF zs)[k]?.getD 0 ∧ (totF ys)[k]?.getD 0 - (totF zs)[k]?.getD 0 ≤ 1000000000 := fun k hk => by
      have a := tot_bound o1 k (by omega)
      have b := tot_bound o2 k (by omega)
      omega
    have Hwb := Lib.hid hwb
    clear h1 o1 o2 o3 q1 q2 hte hb3 hN hl60 hyl hwb p1 p2 t7
    have hzV := hb4.size
    go_wp2_with (fail)
    rw [← hV]
    clear hV
    go_wp2_with (fail)
    refine (waiting_any V V.heap.size V.heap.size (some ⟨g1, 0, none⟩) (some ⟨g2, 0, none⟩) N N N N m (totF ys) (totF zs) i1 i2 (Nat.le_refl _) (Nat.le_refl _) (by omega) (by omega) (by omega) (by omega) (Hwb.out m (by omega))).mono ?_
    rintro e w3 ⟨rfl, hb5⟩
    have hb6 := hb4.trans (hb5.mono hzV)
    have j1 := i1.below hb5 (Nat.le_refl _)
    have j2 := i2.below hb5 (Nat.le_refl _)
    have n0 := (hb5.cell (p := ⟨w2.heap.size, 0, none⟩) l7).trans m0
    have n1 := (hb5.cell (p := ⟨w2.heap.size, 1, none⟩) l7).trans m1
    have hz5 := hb5.size
    have l7' : w2.heap.size < w3.heap.size := by omega
    obtain ⟨x, hxe⟩ : ∃ x, x = (totF ys)[m]?.getD 0 - (totF zs)[m]?.getD 0 := ⟨_, rfl⟩
    rw [← hxe]
    unfold encI
    clear i1 i2 m0 m1 hb5 hb4
    by_cases hx0 : 0 < x
    case pos =>
      have hsr : seenR ys zs = (0, 0, 18) := by unfold seenR waitF; rw [if_neg (by rw [Ho.out.1]; simp), if_pos (by rw [HN.out.2, ← hxe]; exact hx0)]
      have Hs := Lib.hid hsr
      clear hsr hxe
      go_wp2_with (fail)
      refine bodyPost_ret (v := .tuple #[.int .i64 0, .int .i64 0, .int .i64 18]) (Seen_results _ _ _ _ _ (by simp) (by simp) (by simp)) rfl ?_
      exact ⟨by rw [Hs.out], hb6⟩
    case neg =>
      have hsr : seenR ys zs = ((bestO (fun p : Part 0 m => waitF (totF ys) (totF zs) p.1) gtI (partsS 0 m)).getD 0, (bestO (fun p : Part 0 m => lateF (totF ys) (totF zs) p.1) gtI (partsS 0 m)).getD 0, 0) := by
        unfold seenR
        rw [if_neg (by rw [Ho.out.1]; simp), if_neg (by unfold waitF; rw [HN.out.2, ← hxe]; exact hx0)]
        rw [HN.out.2]
      have Hs := Lib.hid hsr
      clear hsr hxe
      go_wp2_with (fail)
      refine (between_box 0 (m : Int) w3).mono ?_
      rintro e w4 ⟨bl, bh, rfl, hbl, hbh, hb7⟩
      have hz6 := hb6.size
      have hb8 := hb6.trans (hb7.mono hz6)
      have k1 := j1.below hb7 (by omega)
      have k2 := j2.below hb7 (by omega)
      have r0 := (hb7.cell (p := ⟨w2.heap.size, 0, none⟩) l7').trans n0
      have r1 := (hb7.cell (p := ⟨w2.heap.size, 1, none⟩) l7').trans n1
      have hz7 := hb7.size
      have l8 : w2.heap.size < w4.heap.size := by omega
      clear j1 j2 n0 n1 hb7 hb6
      have d0 : ∀ W, Below w4.heap.size w4.drew W → W.cell? ⟨w2.heap.size, 0, none⟩ = some (.slice (some ⟨g1, 0, none⟩) N N) := fun W h => (h.cell (p := ⟨w2.heap.size, 0, none⟩) l8).trans r0
      have d1 : ∀ W, Below w4.heap.size w4.drew W → W.cell? ⟨w2.heap.size, 1, none⟩ = some (.slice (some ⟨g2, 0, none⟩) N N) := fun W h => (h.cell (p := ⟨w2.heap.size, 1, none⟩) l8).trans r1
      have hval : ∀ W, Below w4.heap.size w4.drew W → ValFn W 78 #[talV (some ⟨g1, 0, none⟩) (some ⟨g2, 0, none⟩) N N N N] #[] (fun x : Part 0 m => encI (x.1 : Int)) encI (fun p => waitF (totF ys) (totF zs) p.1) := fun W hW => by
        refine ⟨enters_of Try.func78 (by kernel_rfl) rfl, fun W' x hW' => ?_⟩
        have hmx := parts_mem.1 x.2
        have hs1 : w4.heap.size ≤ W.heap.size := hW.size
        have hs2 := hW'.size
        exact waiting_any W' V.heap.size V.heap.size (some ⟨g1, 0, none⟩) (some ⟨g2, 0, none⟩) N N N N x.1 (totF ys) (totF zs) (IntsAt.below (IntsAt.below (w := w4.drew) k1 hW (by omega)) hW' (by omega)) (IntsAt.below (IntsAt.below (w := w4.drew) k2 hW (by omega)) hW' (by omega)) (by omega) (by omega) (by omega) (by omega) (by omega) (by omega) (Hwb.out x.1 (by omega))
      have hval2 : ∀ W, Below w4.heap.size w4.drew W → ValFn W 82 #[talV (some ⟨g1, 0, none⟩) (some ⟨g2, 0, none⟩) N N N N] #[] (fun x : Part 0 m => encI (x.1 : Int)) encI (fun p => lateF (totF ys) (totF zs) p.1) := fun W hW => by
        refine ⟨enters_of Try.func82 (by kernel_rfl) rfl, fun W' x hW' => ?_⟩
        have hmx := parts_mem.1 x.2
        have hs1 : w4.heap.size ≤ W.heap.size := hW.size
        have hs2 := hW'.size
        exact late_any W' V.heap.size V.heap.size (some ⟨g1, 0, none⟩) (some ⟨g2, 0, none⟩) N N N N x.1 (totF ys) (totF zs) (IntsAt.below (IntsAt.below (w := w4.drew) k1 hW (by omega)) hW' (by omega)) (IntsAt.below (IntsAt.below (w := w4.drew) k2 hW (by omega)) hW' (by omega)) (by omega) (by omega) (by omega) (by omega) (by omega) (by omega) (Nat.le_refl _) (by omega)
      have Hval := Lib.hid (And.intro hval hval2)
      clear hval hval2 k1 k2
      go_wp2_with (fail)
      refine region_held_wp 1 (fun W' => Below w4.heap.size w4.drew W') (fun j => decide (j = 3) || decide (j = 5) || decide (j = 2) || decide (j = 6)) (by kernel_rfl) ?_
      intro KR hKR
      have hS : Below w4.heap.size w4.drew w4.drew := Below.refl _ _
      refine wpAnyHI_takeW (i := 0) (v := .func (.func 106) #[] #[.pointer (some ⟨bl, 0, none⟩), .pointer (some ⟨bh, 0, none⟩)]) (some 28) rfl rfl (by kernel_rfl) (by kernel_rfl) (by kernel_rfl) (by kernel_rfl) (fun _ _ _ h => h) (.inl ⟨by kernel_rfl, fun W' hS' => ?_⟩) ?_
      · go_simp
      refine wpAnyHI_takeW (i := 4) (v := .func (.func 106) #[] #[.pointer (some ⟨bl, 0, none⟩), .pointer (some ⟨bh, 0, none⟩)]) (some 32) rfl rfl (by kernel_rfl) (by kernel_rfl) (by kernel_rfl) (by kernel_rfl) (fun _ _ _ h => h) (.inl ⟨by kernel_rfl, fun W' hS' => ?_⟩) ?_
      · go_simp
      refine wpAnyHI_takeE (i := 1) (v := talV (some ⟨g1, 0, none⟩) (some ⟨g2, 0, none⟩) N N N N) (some 29) rfl rfl (by kernel_rfl) (by kernel_rfl) (by kernel_rfl) (by kernel_rfl) (by kernel_rfl) (fun _ _ _ h => h) hS (.inl ⟨by kernel_rfl, fun W' hS' => ?_⟩) ?_
      · have q0 := d0 W' hS'; have q1 := d1 W' hS'; go_simp
      refine wpAnyHI_takeE (i := 5) (v := talV (some ⟨g1, 0, none⟩) (some ⟨g2, 0, none⟩) N N N N) (some 33) rfl rfl (by kernel_rfl) (by kernel_rfl) (by kernel_rfl) (by kernel_rfl) (by kernel_rfl) (fun _ _ _ h => h) hS (.inl ⟨by kernel_rfl, fun W' hS' => ?_⟩) ?_
      · have q0 := d0 W' hS'; have q1 := d1 W' hS'; go_simp
      refine wpAnyHI_takeE (i := 2) (v := .func (.func 78) #[talV (some ⟨g1, 0, none⟩) (some ⟨g2, 0, none⟩) N N N N] #[]) (some 30) rfl rfl (by kernel_rfl) (by kernel_rfl) (by kernel_rfl) (by kernel_rfl) (by kernel_rfl) (fun _ _ _ h => h) hS (.inl ⟨by kernel_rfl, fun W' hS' => ?_⟩) ?_
      · go_simp
      refine wpAnyHI_takeE (i := 6) (v := .func (.func 82) #[talV (some ⟨g1, 0, none⟩) (some ⟨g2, 0, none⟩) N N N N] #[]) (some 34) rfl rfl (by kernel_rfl) (by kernel_rfl) (by kernel_rfl) (by kernel_rfl) (by kernel_rfl) (fun _ _ _ h => h) hS (.inl ⟨by kernel_rfl, fun W' hS' => ?_⟩) ?_
      · go_simp
      have hb9 : Below w.heap.size w w4.drew := hb8.trans (below_drew w4)
      have hz9 : w.heap.size ≤ w4.drew.heap.size := hb9.size
      have hbl' : Boxed w4.drew bl 3 (.int .i64 0) := hbl
      have hbh' : Boxed w4.drew bh 3 (.int .i64 (m : Int)) := hbh
      have hit := between1_any w4.drew bl bh w4.drew.heap.size 0 m hbl' hbh' (Nat.le_refl _) (by omega) (by omega)
      refine wpAnyHI_one (i := 3) rfl (by kernel_rfl) ?_
      intro K1 hK1
      go_simp
      refine ⟨trivial, (callsIn_wide.2 (bestInt_any w4.drew 106 _ (fun p : Part 0 m => (p.1 : Int)) _ _ _ _ _ _ _ _ _ gtI (enters_of Try.func106 (by kernel_rfl) rfl) hit (by
        rintro k (rfl | rfl)
        · exact hbl'.lt
        · exact hbh'.lt) (Hval.out.1 _ hS) greater_fn)).mono ?_⟩
      rintro e w5 ⟨rfl, hb10⟩
      refine hK1 _ _ ⟨fun _ => hb10, ?_⟩
      clear hK1 K1 hit
      have hb11 := hb9.trans (hb10.mono hz9)
      have hbl2 := bxBelow hbl' hb10 hbl'.lt
      have hbh2 := bxBelow hbh' hb10 hbh'.lt
      have hit := between1_any w5 bl bh w5.heap.size 0 m hbl2 hbh2 (Nat.le_refl _) (by omega) (by omega)
      refine wpAnyHI_one (i := 7) rfl (by kernel_rfl) ?_
      intro K1 hK1
      go_simp
      refine ⟨trivial, (callsIn_wide.2 (bestInt_any w5 106 _ (fun p : Part 0 m => (p.1 : Int)) _ _ _ _ _ _ _ _ _ gtI (enters_of Try.func106 (by kernel_rfl) rfl) hit (by
        rintro k (rfl | rfl)
        · exact hbl2.lt
        · exact hbh2.lt) (Hval.out.2 _ hb10) greater_fn)).mono ?_⟩
      rintro e w6 ⟨rfl, hb12⟩
      refine hK1 _ _ ⟨fun h => absurd h (by simp), ?_⟩
      clear hK1 K1 hit
      have hb13 := hb11.trans (hb12.mono hb11.size)
      obtain ⟨v1, hv1⟩ : ∃ v1, v1 = (bestO (fun p : Part 0 m => waitF (totF ys) (totF zs) p.1) gtI (partsS 0 m)).getD 0 := ⟨_, rfl⟩
      obtain ⟨v2, hv2⟩ : ∃ v2, v2 = (bestO (fun p : Part 0 m => lateF (totF ys) (totF zs) p.1) gtI (partsS 0 m)).getD 0 := ⟨_, rfl⟩
      have hsr := Hs.out
      unfold bestV
      rw [← hv1, ← hv2] at hsr ⊢
      have Hs2 := Lib.hid hsr
      clear hsr hv1 hv2 hb12 hb11 hb10 hb9 hb8 hbl2 hbh2 hbl' hbh' hbl hbh d0 d1 r0 r1 hS
      refine wpAnyHI_one (i := 8) rfl (by kernel_rfl) ?_
      intro K1 hK1
      go_simp
      refine hK1 _ _ ⟨fun h => absurd h (by simp), ?_⟩
      clear hK1 K1
      refine wpAnyHI_one (i := 9) rfl (by kernel_rfl) ?_
      intro K1 hK1
      go_simp
      refine hK1 _ _ ⟨fun h => absurd h (by simp), ?_⟩
      clear hK1 K1
      refine wpAnyHI_one (i := 10) rfl (by kernel_rfl) ?_
      intro K1 hK1
      go_simp
      refine hK1 _ _ ⟨fun h => absurd h (by simp), ?_⟩
      clear hK1 K1
      refine wpAnyHI_end (by kernel_rfl) ?_
      show KR _ _
      go_simp
      refine hKR _ _ ?_
      go_wp2_with (fail)
      refine bodyPost_ret (v := .tuple #[.int .i64 v1, .int .i64 v2, .int .i64 0]) (Seen_results _ _ _ _ _ (by simp) (by simp) (by simp)) rfl ?_
      exact ⟨by rw [Hs2.out], hb13⟩
end Go.Proofs.Ytlgibckhkdggdaa
