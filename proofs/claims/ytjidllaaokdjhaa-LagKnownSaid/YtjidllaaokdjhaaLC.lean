/- lag: CheckCurve, checkChain, checkRows; Longs. -/
import Derived.Test.YtjidllaaokdjhaaLB
namespace Go.Proofs.Ytjidllaaokdjhaa
open Go.RowKit

def curveF (xs : List Int) : Int := if xs.length < 1 ∨ 6 < xs.length then 6 else if withinF 0 100 xs = false then 3 else if sortedF xs = false then 16 else 0
theorem below_drewN {D : Nat} (w : World) (q : Nat) : Below D w (w.drewN q) := ⟨rfl, rfl, rfl, Nat.le_refl _, fun _ _ => rfl⟩
theorem below_drew {D : Nat} (w : World) : Below D w w.drew := ⟨rfl, rfl, rfl, Nat.le_refl _, fun _ _ => rfl⟩

set_option maxHeartbeats 1000000 in
theorem checkCurve_any (w : World) (B : Nat) (A : Option Addr) (n c : Nat) (xs : List Int) (hx : IntsAt w B A n xs) (hB : B ≤ w.heap.size) :
    Calls Try.prog 26 #[.slice A n c] w fun e w' => e = .returned (.int .i64 (curveF xs)) ∧ Below w.heap.size w w' := by
  have hm := hx.small
  have hb0 : Below w.heap.size w (w.alloc (.cells #[.int .i64 (n : Int)] 2)) := (Below.refl _ w).alloc (Nat.le_refl _) _
  have ho := one_int (w.alloc (.cells #[.int .i64 (n : Int)] 2)) (w.heap.size + 1) w.heap.size (n : Int) (by omega) (by simp)
  have hwn : IntKind.i64.wrap (n : Int) = (n : Int) := by rw [IntKind.wrap_i64]; omega
  have Hl := Lib.hid hx.len
  go_enter Try.func26, Try.ntmps26
  go_wp2_with (fail)
  refine (within64_any 1 6 _ (w.heap.size + 1) _ _ _ [(n : Int)] ho (by simp)).mono ?_
  rintro e w2 ⟨rfl, hb2⟩
  have hB2 := hb0.trans (hb2.mono hb0.size)
  have hx2 := hx.below hB2 hB
  have hz2 := hB2.size
  clear ho hb0 hb2
  by_cases hn : n < 1 ∨ 6 < n
  · have hw : withinF 1 6 [(n : Int)] = false := by rw [within_one]; simp; omega
    have Hr := Lib.hid (show curveF xs = 6 by unfold curveF; rw [if_pos (by rw [Hl.out]; exact hn)])
    clear hn
    go_wp2_with (fail)
    go_ret
    exact ⟨ret_int Hr.out.symm, hB2⟩
  have hw : withinF 1 6 [(n : Int)] = true := by rw [within_one]; simp; omega
  have Hn := Lib.hid (show ¬ (xs.length < 1 ∨ 6 < xs.length) by rw [Hl.out]; exact hn)
  clear hn
  go_wp2_with (fail)
  refine (within64_any 0 100 _ B _ _ _ xs hx2 (by omega)).mono ?_
  rintro e w3 ⟨rfl, hb3⟩
  have hB3 := hB2.trans (hb3.mono hz2)
  have hx3 := hx.below hB3 hB
  have hz3 := hB3.size
  clear hb3 hw
  cases hin : withinF 0 100 xs
  · have Hr := Lib.hid (show curveF xs = 3 by unfold curveF; rw [if_neg Hn.out, if_pos hin])
    clear hin
    go_wp2_with (fail)
    go_ret
    exact ⟨ret_int Hr.out.symm, hB3⟩
  have Hin := Lib.hid hin
  clear hin
  go_wp2_with (fail)
  refine (isSorted_any _ B _ _ _ xs hx3).mono ?_
  rintro e w4 ⟨rfl, q, rfl⟩
  have hB4 := hB3.trans (below_drewN w3 q)
  cases hs : sortedF xs
  · have Hr := Lib.hid (show curveF xs = 16 by unfold curveF; rw [if_neg Hn.out, if_neg (by rw [Hin.out]; simp), if_pos hs])
    clear hs
    go_wp2_with (fail)
    go_ret
    exact ⟨ret_int Hr.out.symm, hB4⟩
  · have Hr := Lib.hid (show curveF xs = 0 by unfold curveF; rw [if_neg Hn.out, if_neg (by rw [Hin.out]; simp), if_neg (by rw [hs]; simp)])
    clear hs
    go_wp2_with (fail)
    go_ret
    exact ⟨ret_int Hr.out.symm, hB4⟩

/-! ### several lists -/
def RowsAt (w : World) (B : Nat) (A : Option Addr) (k : Nat) (css : List (List Int)) : Prop :=
  css.length = k ∧ k ≤ 9223372036854775807 ∧ (0 < k → ∃ b off, A = some ⟨b, off, none⟩ ∧ b < B ∧ ∀ (j : Nat) (cs : List Int), css[j]? = some cs → ∃ A' m c, w.cell? ⟨b, off + j, none⟩ = some (.slice A' m c) ∧ IntsAt w B A' m cs)
theorem RowsAt.below {w w' : World} {B D : Nat} {A : Option Addr} {k : Nat} {css : List (List Int)} (h : RowsAt w B A k css) (hb : Below D w w') (hD : B ≤ D) : RowsAt w' B A k css := by
  refine ⟨h.1, h.2.1, fun h0 => ?_⟩
  obtain ⟨b, off, e, hB, hs⟩ := h.2.2 h0
  refine ⟨b, off, e, hB, fun j cs hj => ?_⟩
  obtain ⟨A', m, c, h1, h2⟩ := hs j cs hj
  exact ⟨A', m, c, (hb.cell (p := ⟨b, off + j, none⟩) (show b < D by omega)).trans h1, h2.below hb hD⟩
theorem RowsAt.more {w : World} {B B' : Nat} {A : Option Addr} {k : Nat} {css : List (List Int)} (h : RowsAt w B A k css) (hB : B ≤ B') : RowsAt w B' A k css := by
  refine ⟨h.1, h.2.1, fun h0 => ?_⟩
  obtain ⟨b, off, e, hb, hs⟩ := h.2.2 h0
  refine ⟨b, off, e, by omega, fun j cs hj => ?_⟩
  obtain ⟨A', m, c, h1, h2⟩ := hs j cs hj
  exact ⟨A', m, c, h1, h2.more hB⟩
theorem RowsAt.at {w : World} {B : Nat} {A : Option Addr} {k : Nat} {css : List (List Int)} (h : RowsAt w B A k css) {j : Nat} (hj : j < k) :
    ∃ b off cs A' m c, A = some ⟨b, off, none⟩ ∧ b < B ∧ css[j]? = some cs ∧ w.cell? ⟨b, off + j, none⟩ = some (.slice A' m c) ∧ IntsAt w B A' m cs := by
  obtain ⟨b, off, e, hb, hs⟩ := h.2.2 (by omega)
  obtain ⟨cs, hcs⟩ : ∃ cs, css[j]? = some cs := ⟨_, List.getElem?_eq_getElem (by rw [h.1]; exact hj)⟩
  obtain ⟨A', m, c, h1, h2⟩ := hs j cs hcs
  exact ⟨b, off, cs, A', m, c, e, hb, hcs, h1, h2⟩
/-- The error of the first one that has one. -/
def firstE (f : List Int → Int) : List (List Int) → Int
  | [] => 0
  | c :: cs => if f c ≠ 0 then f c else firstE f cs
theorem firstE_at {f : List Int → Int} : ∀ {css : List (List Int)} {j : Nat} {cs : List Int}, (∀ i x, i < j → css[i]? = some x → f x = 0) → css[j]? = some cs → f cs ≠ 0 → firstE f css = f cs
  | [], j, cs, _, h, _ => by simp at h
  | c :: l, 0, cs, _, h, hf => by
    obtain rfl : c = cs := by simpa using h
    rw [firstE, if_pos hf]
  | c :: l, j + 1, cs, h0, h, hf => by
    rw [firstE, if_neg (by rw [h0 0 c (by omega) (by simp)]; simp)]
    exact firstE_at (j := j) (fun i x hi hx => h0 (i + 1) x (by omega) (by simpa using hx)) (by simpa using h) hf
theorem firstE_all {f : List Int → Int} : ∀ {css : List (List Int)}, (∀ i x, i < css.length → css[i]? = some x → f x = 0) → firstE f css = 0
  | [], _ => rfl
  | c :: l, h0 => by
    rw [firstE, if_neg (by rw [h0 0 c (by simp) (by simp)]; simp)]
    exact firstE_all fun i x hi hx => h0 (i + 1) x (by simpa using hi) (by simpa using hx)
def chainF (css : List (List Int)) : Int := if css.length < 1 ∨ 3 < css.length then 6 else firstE curveF css
def rowF (xs : List Int) : Int := if 60 < xs.length then 6 else if withinF 0 10000 xs = false then 3 else 0

set_option maxHeartbeats 1000000 in
theorem checkChain_any (w : World) (B : Nat) (A : Option Addr) (k c : Nat) (css : List (List Int)) (hx : RowsAt w B A k css) (hB : B ≤ w.heap.size) :
    Calls Try.prog 65 #[.slice A k c] w fun e w' => e = .returned (.int .i64 (chainF css)) ∧ Below w.heap.size w w' := by
  have hm := hx.2.1
  have hb0 : Below w.heap.size w (w.alloc (.cells #[.int .i64 (k : Int)] 2)) := (Below.refl _ w).alloc (Nat.le_refl _) _
  have ho := one_int (w.alloc (.cells #[.int .i64 (k : Int)] 2)) (w.heap.size + 1) w.heap.size (k : Int) (by omega) (by simp)
  have hwn : IntKind.i64.wrap (k : Int) = (k : Int) := by rw [IntKind.wrap_i64]; omega
  have Hl := Lib.hid hx.1
  go_enter Try.func65, Try.ntmps65
  go_wp2_with (fail)
  refine (within64_any 1 3 _ (w.heap.size + 1) _ _ _ [(k : Int)] ho (by simp)).mono ?_
  rintro e w2 ⟨rfl, hb2⟩
  have hB2 := hb0.trans (hb2.mono hb0.size)
  clear ho hb0 hb2
  by_cases hn : k < 1 ∨ 3 < k
  · have hw : withinF 1 3 [(k : Int)] = false := by rw [within_one]; simp; omega
    have Hr := Lib.hid (show chainF css = 6 by unfold chainF; rw [if_pos (by rw [Hl.out]; exact hn)])
    clear hn
    go_wp2_with (fail)
    go_ret
    exact ⟨ret_int Hr.out.symm, hB2⟩
  have hw : withinF 1 3 [(k : Int)] = true := by rw [within_one]; simp; omega
  have Hn := Lib.hid (show chainF css = firstE curveF css by unfold chainF; rw [if_neg (by rw [Hl.out]; exact hn)])
  clear hn
  go_wp2_with (fail)
  go_loopg [13] k (fun g v13 wr => ∃ j : Nat, (j ≤ k ∧ g = k - j ∧ v13 = .int .i64 (j : Int)) ∧ (∀ i x, i < j → css[i]? = some x → curveF x = 0) ∧ Below w.heap.size w wr)
  case atStart => exact ⟨0, ⟨Nat.zero_le _, rfl, rfl⟩, fun i x h => by omega, hB2⟩
  case round =>
    obtain ⟨j, ⟨hjk, rfl, rfl⟩, hall, hBr⟩ := hrel
    have Hall := Lib.hid hall
    clear hall
    have hz := hBr.size
    by_cases hj : j < k
    · obtain ⟨b, off, cs, A', m, c', rfl, hb, hcs, hcell, hi⟩ := (hx.below hBr hB).at hj
      have Hcs := Lib.hid hcs
      clear hcs
      have hwj : IntKind.i64.wrap ((j : Int) + 1) = (j : Int) + 1 := by rw [IntKind.wrap_i64]; omega
      go_wp2_with (fail)
      refine (checkCurve_any wr B A' m c' cs hi (by omega)).mono ?_
      rintro e w3 ⟨rfl, hb3⟩
      have hB3 := hBr.trans (hb3.mono hz)
      obtain ⟨r, hr⟩ : ∃ r, r = curveF cs := ⟨_, rfl⟩
      rw [← hr]
      by_cases hr0 : r = 0
      · subst hr0
        have Hr := Lib.hid hr
        clear hr
        go_wp2_with (fail)
        go_roundg (k - (j + 1))
        case measure => omega
        case rel =>
          refine ⟨j + 1, ⟨hj, rfl, by simp⟩, fun i x hi' hx' => ?_, hB3⟩
          rcases Nat.lt_succ_iff_lt_or_eq.1 hi' with h | rfl
          · exact Hall.out i x h hx'
          · rw [Hcs.out] at hx'
            cases hx'
            exact Hr.out.symm
      · have hne : (r != 0) = true := by simp [hr0]
        have Hr := Lib.hid (show firstE curveF css = r by rw [hr]; exact firstE_at Hall.out Hcs.out (by rw [← hr]; exact hr0))
        clear hr hr0
        go_wp2_with (fail)
        go_ret
        exact ⟨ret_int (by rw [Hn.out, Hr.out]), hB3⟩
    · have Hr := Lib.hid (show firstE curveF css = 0 from firstE_all fun i x hi' hx' => Hall.out i x (by rw [Hl.out] at hi'; omega) hx')
      go_wp2_with (fail)
      go_ret
      exact ⟨ret_int (by rw [Hn.out, Hr.out]), hBr⟩

set_option maxHeartbeats 1000000 in
theorem checkRows_any (w : World) (B : Nat) (A : Option Addr) (k c : Nat) (css : List (List Int)) (hx : RowsAt w B A k css) (hB : B ≤ w.heap.size) :
    Calls Try.prog 71 #[.slice A k c] w fun e w' => e = .returned (.int .i64 (firstE rowF css)) ∧ Below w.heap.size w w' := by
  have hm := hx.2.1
  have Hl := Lib.hid hx.1
  have hb0 := Below.refl w.heap.size w
  go_enter Try.func71, Try.ntmps71
  go_wp2_with (fail)
  go_loopg [7] k (fun g v7 wr => ∃ j : Nat, (j ≤ k ∧ g = k - j ∧ v7 = .int .i64 (j : Int)) ∧ (∀ i x, i < j → css[i]? = some x → rowF x = 0) ∧ Below w.heap.size w wr)
  case atStart => exact ⟨0, ⟨Nat.zero_le _, rfl, rfl⟩, fun i x h => by omega, hb0⟩
  case round =>
    clear hb0
    obtain ⟨j, ⟨hjk, rfl, rfl⟩, hall, hBr⟩ := hrel
    have Hall := Lib.hid hall
    clear hall
    have hz := hBr.size
    by_cases hj : j < k
    · obtain ⟨b, off, cs, A', m, c', rfl, hb, hcs, hcell, hi⟩ := (hx.below hBr hB).at hj
      have hml := hi.len
      have Hcs := Lib.hid (And.intro hcs hml)
      clear hcs hml
      have hwj : IntKind.i64.wrap ((j : Int) + 1) = (j : Int) + 1 := by rw [IntKind.wrap_i64]; omega
      by_cases hlong : 60 < m
      · have Hr := Lib.hid (show firstE rowF css = 6 by
          have e : rowF cs = 6 := by unfold rowF; rw [if_pos (by rw [Hcs.out.2]; exact hlong)]
          rw [firstE_at Hall.out Hcs.out.1 (by rw [e]; decide), e])
        have hl60 : (60 : Int) < (m : Int) := by omega
        clear hlong
        go_wp2_with (fail)
        go_ret
        exact ⟨ret_int Hr.out.symm, hBr⟩
      have Hlong := Lib.hid (show ¬ 60 < cs.length by rw [Hcs.out.2]; exact hlong)
      have hl60 : ¬ (60 : Int) < (m : Int) := by omega
      go_wp2_with (fail)
      refine (within64_any 0 10000 wr B A' m c' cs hi (by omega)).mono ?_
      rintro e w3 ⟨rfl, hb3⟩
      have hB3 := hBr.trans (hb3.mono hz)
      obtain ⟨r, hr⟩ : ∃ r, r = withinF 0 10000 cs := ⟨_, rfl⟩
      rw [← hr]
      cases r with
      | true =>
        have Hr := Lib.hid (show rowF cs = 0 by unfold rowF; rw [if_neg Hlong.out, if_neg (by rw [← hr]; simp)])
        clear hr
        go_wp2_with (fail)
        go_roundg (k - (j + 1))
        case measure => omega
        case rel =>
          refine ⟨j + 1, ⟨hj, rfl, by simp⟩, fun i x hi' hx' => ?_, hB3⟩
          rcases Nat.lt_succ_iff_lt_or_eq.1 hi' with h | rfl
          · exact Hall.out i x h hx'
          · rw [Hcs.out.1] at hx'
            cases hx'
            exact Hr.out
      | false =>
        have Hr := Lib.hid (show firstE rowF css = 3 by
          have e : rowF cs = 3 := by unfold rowF; rw [if_neg Hlong.out, if_pos hr.symm]
          rw [firstE_at Hall.out Hcs.out.1 (by rw [e]; decide), e])
        clear hr
        go_wp2_with (fail)
        go_ret
        exact ⟨ret_int Hr.out.symm, hB3⟩
    · have Hr := Lib.hid (show firstE rowF css = 0 from firstE_all fun i x hi' hx' => Hall.out i x (by rw [Hl.out] at hi'; omega) hx')
      go_wp2_with (fail)
      go_ret
      exact ⟨ret_int Hr.out.symm, hBr⟩

set_option maxHeartbeats 400000 in
theorem longs_any (w : World) (B1 B2 : Nat) (A1 A2 : Option Addr) (n m c1 c2 : Nat) (xs ys : List Int) (h1 : IntsAt w B1 A1 n xs) (h2 : IntsAt w B2 A2 m ys) :
    Calls Try.prog 33 #[.slice A1 n c1, .slice A2 m c2] w fun e w' => e = .returned (.bool (decide (xs = ys))) ∧ ∃ q, w' = w.drewN q := by
  have hm := h1.small
  have hm2 := h2.small
  by_cases hnm : n = m
  · subst hnm
    go_enter Try.func33, Try.ntmps33
    go_wp2
    go_loopw [5] (fun i wr => ∃ k q : Nat, k ≤ n ∧ i = .int .i64 k ∧ wr = w.drewN q ∧ ∀ j, j < k → xs[j]?.getD 0 = ys[j]?.getD 0) (fun i _ => n - (intOf i).toNat)
    case atStart => exact ⟨0, 0, by omega, rfl, rfl, fun j hj => by omega⟩
    case round =>
      obtain ⟨k, q, hk, rfl, rfl, hall⟩ := hrel
      have Hall := Lib.hid hall
      clear hall
      by_cases hlt : k < n
      · obtain ⟨b1, o1, rfl, _, hc1⟩ := h1.cell hlt
        obtain ⟨b2, o2, rfl, _, hc2⟩ := h2.cell hlt
        by_cases hq : xs[k]?.getD 0 = ys[k]?.getD 0
        · have hb : (xs[k]?.getD 0 != ys[k]?.getD 0) = false := by simp [hq]
          have Hq := Lib.hid hq
          clear hq
          go_wp2
          go_quiet (fail)
          go_wp2
          go_roundw
          case rel => exact ⟨k + 1, _, by omega, by go_num, rfl, fun j hj => by rcases Nat.lt_succ_iff_lt_or_eq.1 hj with h | rfl; exact Hall.out j h; exact Hq.out⟩
          case measure => simp [intOf]; omega
        · have hb : (xs[k]?.getD 0 != ys[k]?.getD 0) = true := by simp [hq]
          go_wp2
          go_quiet (fail)
          go_wp2
          go_ret
          exact ⟨ret_bool (by symm; rw [decide_eq_false_iff_not]; rintro rfl; exact hq rfl), _, World.drewN_drewN _ _ _⟩
      · go_wp2
        go_ret
        exact ⟨ret_bool (by symm; rw [decide_eq_true_iff]; exact ints_ext (by rw [h1.len, h2.len]) fun j hj => Hall.out j (by rw [h1.len] at hj; omega)), _, rfl⟩
  · have hb : ((n : Int) != (m : Int)) = true := by rw [bne_iff_ne]; omega
    go_enter Try.func33, Try.ntmps33
    go_wp2
    go_ret
    exact ⟨ret_bool (by symm; rw [decide_eq_false_iff_not]; rintro rfl; exact hnm (by rw [← h1.len, h2.len])), 0, rfl⟩
end Go.Proofs.Ytjidllaaokdjhaa
