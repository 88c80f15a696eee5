/- Parts of a proof: A Y Z B C D E F. -/
import Derived.Test.YthjgecblkagelaaGreatRows
import Derived.WalkKit
import Derived.WalkSpells
import Derived.WalkLawsBesides
import Derived.Lib.Hide
import Derived.Deep.QuietTactic
import Derived.BigQuiet
import Derived.StillTailTactics

/- Plain readers: slices of ints that read as lists, and the smallest functions over them. -/
namespace Go.Proofs.YthjgecblkagelaaGreat
open Go.RowKit

/-- A slice of n elements at A reads as the ints xs; it lies below block B. -/
def IntsAt (w : World) (B : Nat) (A : Option Addr) (n : Nat) (xs : List Int) : Prop :=
  xs.length = n ∧ n ≤ 9223372036854775807 ∧ (0 < n → ∃ b off, A = some ⟨b, off, none⟩ ∧ b < B ∧ ∀ j, j < n → w.cell? ⟨b, off + j, none⟩ = some (.int .i64 (xs[j]?.getD 0)))

theorem IntsAt.len {w : World} {B : Nat} {A : Option Addr} {n : Nat} {xs : List Int} (h : IntsAt w B A n xs) : xs.length = n := h.1
theorem IntsAt.small {w : World} {B : Nat} {A : Option Addr} {n : Nat} {xs : List Int} (h : IntsAt w B A n xs) : n ≤ 9223372036854775807 := h.2.1
theorem IntsAt.cell {w : World} {B : Nat} {A : Option Addr} {n : Nat} {xs : List Int} (h : IntsAt w B A n xs) {k : Nat} (hk : k < n) :
    ∃ b off, A = some ⟨b, off, none⟩ ∧ b < B ∧ w.cell? ⟨b, off + k, none⟩ = some (.int .i64 (xs[k]?.getD 0)) := by
  obtain ⟨_, _, h⟩ := h
  obtain ⟨b, off, e, hb, hc⟩ := h (by omega)
  exact ⟨b, off, e, hb, hc k hk⟩
theorem IntsAt.keep {w w' : World} {B B' : Nat} {A : Option Addr} {n : Nat} {xs : List Int} (h : IntsAt w B A n xs) (hk : ∀ p : Addr, p.block < B → w'.cell? p = w.cell? p) (hB : B ≤ B') : IntsAt w' B' A n xs :=
  ⟨h.1, h.2.1, fun h0 => by
    obtain ⟨_, _, h⟩ := h
    obtain ⟨b, off, e, hlt, hc⟩ := h h0
    exact ⟨b, off, e, by omega, fun j hj => (hk ⟨b, off + j, none⟩ hlt).trans (hc j hj)⟩⟩
theorem IntsAt.below {w w' : World} {B D : Nat} {A : Option Addr} {n : Nat} {xs : List Int} (h : IntsAt w B A n xs) (hb : Below D w w') (hD : B ≤ D) : IntsAt w' B A n xs := h.keep (fun _ hp => hb.cell (Nat.lt_of_lt_of_le hp hD)) (Nat.le_refl _)
theorem IntsAt.more {w : World} {B B' : Nat} {A : Option Addr} {n : Nat} {xs : List Int} (h : IntsAt w B A n xs) (hB : B ≤ B') : IntsAt w B' A n xs := h.keep (fun _ _ => rfl) hB
theorem IntsAt.drewN {w : World} {B : Nat} {A : Option Addr} {n : Nat} {xs : List Int} (h : IntsAt w B A n xs) (k : Nat) : IntsAt (w.drewN k) B A n xs := h
theorem IntsAt.alloc {w : World} {B : Nat} {A : Option Addr} {n : Nat} {xs : List Int} (h : IntsAt w B A n xs) (hB : B ≤ w.heap.size) (o : Obj) : IntsAt (w.alloc o) B A n xs :=
  h.keep (fun p hp => World.cell?_alloc_lt w o p (by omega)) (Nat.le_refl _)
theorem IntsAt.nil {w : World} {B : Nat} : IntsAt w B none 0 [] := ⟨rfl, by omega, fun h => absurd h (by omega)⟩

/-- A state is at least as full as another one: quinellaref01.Least. -/
def leastF (xs ys : List Int) : Bool := (List.range xs.length).all fun i => !decide (xs[i]?.getD 0 < ys[i]?.getD 0)
theorem leastF_false {xs ys : List Int} {k : Nat} (hk : k < xs.length) (h : xs[k]?.getD 0 < ys[k]?.getD 0) : leastF xs ys = false := by
  unfold leastF
  rw [List.all_eq_false]
  exact ⟨k, List.mem_range.2 hk, by simp [h]⟩
theorem leastF_true {xs ys : List Int} (h : ∀ j, j < xs.length → ys[j]?.getD 0 ≤ xs[j]?.getD 0) : leastF xs ys = true := by
  unfold leastF
  rw [List.all_eq_true]
  intro i hi
  have := h i (List.mem_range.1 hi)
  simp; omega
theorem ret_bool {a b : Bool} (h : a = b) : Ending.returned (.bool a) = .returned (.bool b) := by rw [h]
theorem ret_int {k : IntKind} {a b : Int} (h : a = b) : Ending.returned (.int k a) = .returned (.int k b) := by rw [h]

set_option maxHeartbeats 400000 in
theorem least_any (w : World) (B : Nat) (A1 A2 : Option Addr) (n c1 c2 : Nat) (xs ys : List Int) (h1 : IntsAt w B A1 n xs) (h2 : IntsAt w B A2 n ys) :
    Calls Tryz.prog 88 #[.slice A1 n c1, .slice A2 n c2] w fun e w' => e = .returned (.bool (leastF xs ys)) ∧ ∃ q, w' = w.drewN q := by
  have hm := h1.small
  go_enter Tryz.func88, Tryz.ntmps88
  go_wp2
  go_loopw [5] (fun i wr => ∃ k q : Nat, k ≤ n ∧ i = .int .i64 k ∧ wr = w.drewN q ∧ ∀ j, j < k → ys[j]?.getD 0 ≤ xs[j]?.getD 0) (fun i _ => n - (intOf i).toNat)
  case atStart => exact ⟨0, 0, by omega, rfl, rfl, fun j hj => by omega⟩
  case round =>
    obtain ⟨k, q, hk, rfl, rfl, hall⟩ := hrel
    have Hall := Lib.hid hall
    clear hall
    by_cases hlt : k < n
    · obtain ⟨b1, o1, rfl, _, hc1⟩ := h1.cell hlt
      obtain ⟨b2, o2, rfl, _, hc2⟩ := h2.cell hlt
      go_wp2
      go_quiet (fail)
      go_wp2
      · have hx : xs[k]?.getD 0 < ys[k]?.getD 0 := by assumption
        go_ret
        exact ⟨ret_bool (leastF_false (by rw [h1.len]; exact hlt) hx).symm, _, World.drewN_drewN _ _ _⟩
      · have hx : ys[k]?.getD 0 ≤ xs[k]?.getD 0 := by assumption
        go_roundw
        case rel => exact ⟨k + 1, _, by omega, by go_num, rfl, fun j hj => by rcases Nat.lt_succ_iff_lt_or_eq.1 hj with h | rfl; exact Hall.out j h; exact hx⟩
        case measure => simp [intOf]; omega
    · go_wp2
      go_ret
      exact ⟨ret_bool (leastF_true fun j hj => Hall.out j (by rw [h1.len] at hj; omega)).symm, _, rfl⟩
end Go.Proofs.YthjgecblkagelaaGreat

/- cmp: Compare and Or at ints. -/
namespace Go.Proofs.YthjgecblkagelaaGreat
open Go.RowKit

theorem isNaN_any (w : World) (x : Int) : Calls Tryz.prog 107 #[.int .i64 x] w fun e w' => e = .returned (.bool false) ∧ w' = w := by
  go_enter Tryz.func107, Tryz.ntmps107
  go_wp2
  go_ret
  exact ⟨rfl, rfl⟩

def cmpF (x y : Int) : Int := if x < y then -1 else if x > y then 1 else 0
theorem cmp_any (w : World) (x y : Int) : Calls Tryz.prog 95 #[.int .i64 x, .int .i64 y] w fun e w' => e = .returned (.int .i64 (cmpF x y)) ∧ w' = w := by
  go_enter Tryz.func95, Tryz.ntmps95
  go_wp2_with (fail)
  refine (isNaN_any w x).mono ?_
  rintro e w2 ⟨rfl, rfl⟩
  go_wp2_with (fail)
  refine (isNaN_any _ y).mono ?_
  rintro e w2 ⟨rfl, rfl⟩
  by_cases h1 : x < y
  · go_wp2
    go_ret
    exact ⟨by simp [cmpF, h1], rfl⟩
  · by_cases h2 : y < x
    · go_wp2
      go_ret
      exact ⟨by simp [cmpF, h1, h2], rfl⟩
    · go_wp2
      go_ret
      exact ⟨by have a : ¬ x < y := by omega
                have b : ¬ y < x := by omega
                simp [cmpF, a, b], rfl⟩

/-- The first one that is not 0. -/
def orF : List Int → Int
  | [] => 0
  | x :: xs => if x ≠ 0 then x else orF xs
theorem orF_drop (xs : List Int) (k : Nat) (h : ∀ i, i < k → xs[i]?.getD 0 = 0) : orF xs = orF (xs.drop k) := by
  induction k generalizing xs with
  | zero => rfl
  | succ k ih =>
    cases xs with
    | nil => rfl
    | cons x xs =>
      have h0 := h 0 (by omega)
      simp at h0
      subst h0
      simp only [orF, List.drop_succ_cons]
      simp
      exact ih xs (fun i hi => by have := h (i + 1) (by omega); simpa using this)

set_option maxHeartbeats 1000000 in
theorem or_any (w : World) (B : Nat) (A : Option Addr) (n c : Nat) (xs : List Int) (hx : IntsAt w B A n xs) :
    Calls Tryz.prog 94 #[.slice A n c] w fun e w' => e = .returned (.int .i64 (orF xs)) ∧ w' = w := by
  have hm := hx.small
  go_enter Tryz.func94, Tryz.ntmps94
  go_wp2
  go_loop [8] (fun i => ∃ k : Nat, k ≤ n ∧ i = .int .i64 k ∧ ∀ j, j < k → xs[j]?.getD 0 = 0) (fun i => n - (intOf i).toNat)
  case atStart => exact ⟨0, Nat.zero_le _, rfl, fun _ h => by omega⟩
  case round =>
    obtain ⟨k, hk, rfl, hz⟩ := hrel
    have Hz := Lib.hid hz
    clear hz
    by_cases hlt : k < n
    · obtain ⟨b, o, rfl, hb, hc⟩ := hx.cell hlt
      by_cases h0 : xs[k]?.getD 0 = 0
      · have h0b : (xs[k]?.getD 0 != 0) = false := by simp [h0]
        have H0 := Lib.hid h0
        clear h0
        go_wp2
        go_round
        case rel =>
          refine ⟨k + 1, by omega, by go_num, fun j hj => ?_⟩
          by_cases hjk : j = k
          · subst hjk; exact H0.out
          · exact Hz.out j (by omega)
        case measure => simp [intOf]; omega
      · have h0b : (xs[k]?.getD 0 != 0) = true := by simp [h0]
        have H0 := Lib.hid h0
        clear h0
        go_wp2
        go_ret
        refine ⟨?_, rfl⟩
        rw [orF_drop xs k Hz.out]
        have hkl : k < xs.length := by rw [hx.len]; exact hlt
        rw [List.drop_eq_getElem_cons hkl]
        have hg : xs[k]?.getD 0 = xs[k] := by rw [List.getElem?_eq_getElem hkl]; rfl
        have := H0.out
        rw [hg] at this ⊢
        simp [orF, this]
    · obtain rfl : k = n := by omega
      go_wp2
      go_ret
      refine ⟨?_, rfl⟩
      rw [orF_drop xs k Hz.out, List.drop_eq_nil_of_le (by rw [hx.len]; exact Nat.le_refl _)]
      rfl

def scmpF : List Int → List Int → Int
  | [], [] => 0
  | [], _ :: _ => -1
  | _ :: _, [] => 1
  | x :: xs, y :: ys => if cmpF x y ≠ 0 then cmpF x y else scmpF xs ys
theorem scmpF_drop : ∀ (k : Nat) (xs ys : List Int), k ≤ xs.length → k ≤ ys.length → (∀ j, j < k → cmpF (xs[j]?.getD 0) (ys[j]?.getD 0) = 0) → scmpF xs ys = scmpF (xs.drop k) (ys.drop k)
  | 0, _, _, _, _, _ => rfl
  | k + 1, [], _, h, _, _ => by simp at h
  | k + 1, _ :: _, [], _, h, _ => by simp at h
  | k + 1, x :: xs, y :: ys, h1, h2, h => by
    have h0 := h 0 (by omega)
    simp at h0
    simp only [List.drop_succ_cons]
    rw [← scmpF_drop k xs ys (by simpa using h1) (by simpa using h2) (fun j hj => by have := h (j + 1) (by omega); simpa using this)]
    simp [scmpF, h0]

set_option maxHeartbeats 1000000 in
theorem scmp_any (w : World) (B B2 : Nat) (A A2 : Option Addr) (n c m d : Nat) (xs ys : List Int) (hx : IntsAt w B A n xs) (hy : IntsAt w B2 A2 m ys) :
    Calls Tryz.prog 96 #[.slice A n c, .slice A2 m d] w fun e w' => e = .returned (.int .i64 (scmpF xs ys)) ∧ w' = w := by
  have hm := hx.small
  have hm2 := hy.small
  go_enter Tryz.func96, Tryz.ntmps96
  go_wp2
  go_loopw [11] (fun i wr => ∃ k : Nat, k ≤ n ∧ k ≤ m ∧ i = .int .i64 k ∧ wr = w ∧ ∀ j, j < k → cmpF (xs[j]?.getD 0) (ys[j]?.getD 0) = 0) (fun i _ => n - (intOf i).toNat)
  case atStart => exact ⟨0, Nat.zero_le _, Nat.zero_le _, rfl, rfl, fun _ h => by omega⟩
  case round =>
    obtain ⟨k, hk, hk2, rfl, rfl, hz⟩ := hrel
    have Hz := Lib.hid hz
    clear hz
    by_cases hlt : k < n
    · obtain ⟨b, o, rfl, hb, hc⟩ := hx.cell hlt
      have hkl : k < xs.length := by rw [hx.len]; exact hlt
      by_cases hlt2 : k < m
      · obtain ⟨b2, o2, rfl, hb2, hc2⟩ := hy.cell hlt2
        have hkl2 : k < ys.length := by rw [hy.len]; exact hlt2
        obtain ⟨z, hzz⟩ : ∃ z, z = cmpF (xs[k]?.getD 0) (ys[k]?.getD 0) := ⟨_, rfl⟩
        have Hzz := Lib.hid hzz
        have Hk := Lib.hid (And.intro hkl hkl2)
        clear hkl hkl2
        go_wp2_with (fail)
        refine (cmp_any _ _ _).mono ?_
        rintro e w2 ⟨rfl, rfl⟩
        rw [← hzz]
        clear hzz
        by_cases h0 : z = 0
        · have h0b : (z != 0) = false := by simp [h0]
          have H0 := Lib.hid h0
          clear h0
          go_wp2
          go_roundw
          case rel =>
            refine ⟨k + 1, by omega, by omega, by go_num, trivial, fun j hj => ?_⟩
            by_cases hjk : j = k
            · subst hjk; rw [← Hzz.out]; exact H0.out
            · exact Hz.out j (by omega)
          case measure => simp [intOf]; omega
        · have h0b : (z != 0) = true := by simp [h0]
          have H0 := Lib.hid h0
          go_wp2
          go_ret
          refine ⟨?_, rfl⟩
          obtain ⟨hkl, hkl2⟩ := Hk.out
          rw [scmpF_drop k xs ys (by omega) (by omega) Hz.out, List.drop_eq_getElem_cons hkl, List.drop_eq_getElem_cons hkl2]
          have h1 := Hzz.out
          rw [List.getElem?_eq_getElem hkl, List.getElem?_eq_getElem hkl2] at h1
          simp only [Option.getD_some] at h1
          have h2 := H0.out
          simp only [scmpF, ← h1, ne_eq, h2, not_false_eq_true, if_true]
          rfl
      · obtain rfl : k = m := by omega
        have Hk := Lib.hid hkl
        clear hkl
        go_wp2
        go_ret
        refine ⟨?_, rfl⟩
        have e2 : ys.drop k = [] := List.drop_eq_nil_of_le (by rw [hy.len]; exact Nat.le_refl _)
        rw [scmpF_drop k xs ys (by have := Hk.out; omega) (by rw [hy.len]; exact Nat.le_refl _) Hz.out, List.drop_eq_getElem_cons Hk.out, e2]
        simp [scmpF]
    · obtain rfl : k = n := by omega
      by_cases hlt2 : k < m
      · go_wp2
        go_ret
        refine ⟨?_, rfl⟩
        have hkl2 : k < ys.length := by rw [hy.len]; exact hlt2
        rw [scmpF_drop k xs ys (by rw [hx.len]; exact Nat.le_refl _) (by omega) Hz.out, List.drop_eq_nil_of_le (by rw [hx.len]; exact Nat.le_refl _), List.drop_eq_getElem_cons hkl2]
        rfl
      · obtain rfl : k = m := by omega
        go_wp2
        go_ret
        refine ⟨?_, rfl⟩
        rw [scmpF_drop k xs ys (by rw [hx.len]; exact Nat.le_refl _) (by rw [hy.len]; exact Nat.le_refl _) Hz.out, List.drop_eq_nil_of_le (by rw [hx.len]; exact Nat.le_refl _), List.drop_eq_nil_of_le (by rw [hy.len]; exact Nat.le_refl _)]
        rfl
end Go.Proofs.YthjgecblkagelaaGreat

/- slices.Index and slices.Max over ints. -/
namespace Go.Proofs.YthjgecblkagelaaGreat
open Go.RowKit

set_option maxHeartbeats 1000000 in
theorem index_any (w : World) (B : Nat) (A : Option Addr) (n c : Nat) (xs : List Int) (x : Int) (hx : IntsAt w B A n xs) :
    Calls Tryz.prog 79 #[.slice A n c, .int .i64 x] w fun e w' => ∃ r : Int, e = .returned (.int .i64 r) ∧ w' = w ∧
      ((∃ k : Nat, k < n ∧ r = k ∧ xs[k]?.getD 0 = x ∧ ∀ j, j < k → xs[j]?.getD 0 ≠ x) ∨ (r = -1 ∧ ∀ j, j < n → xs[j]?.getD 0 ≠ x)) := by
  have hm := hx.small
  go_enter Tryz.func79, Tryz.ntmps79
  go_wp2
  go_loop [8] (fun i => ∃ k : Nat, k ≤ n ∧ i = .int .i64 k ∧ ∀ j, j < k → xs[j]?.getD 0 ≠ x) (fun i => n - (intOf i).toNat)
  case atStart => exact ⟨0, Nat.zero_le _, rfl, fun _ h => by omega⟩
  case round =>
    obtain ⟨k, hk, rfl, hz⟩ := hrel
    have Hz := Lib.hid hz
    clear hz
    by_cases hlt : k < n
    · obtain ⟨b, o, rfl, hb, hc⟩ := hx.cell hlt
      by_cases h0 : xs[k]?.getD 0 = x
      · have h0b : (x == xs[k]?.getD 0) = true := by simp [h0]
        have H0 := Lib.hid h0
        clear h0
        go_wp2
        go_ret
        exact ⟨k, rfl, rfl, .inl ⟨k, hlt, rfl, H0.out, Hz.out⟩⟩
      · have h0b : (x == xs[k]?.getD 0) = false := by simp; exact fun e => h0 e.symm
        have H0 := Lib.hid h0
        clear h0
        go_wp2
        go_round
        case rel =>
          refine ⟨k + 1, by omega, by go_num, fun j hj => ?_⟩
          by_cases hjk : j = k
          · subst hjk; exact H0.out
          · exact Hz.out j (by omega)
        case measure => simp [intOf]; omega
    · obtain rfl : k = n := by omega
      go_wp2
      go_ret
      exact ⟨-1, rfl, rfl, .inr ⟨rfl, Hz.out⟩⟩

set_option maxHeartbeats 1000000 in
theorem max_any (w : World) (B : Nat) (A : Option Addr) (n c : Nat) (xs : List Int) (hx : IntsAt w B A n xs) (h1 : 1 ≤ n) :
    Calls Tryz.prog 80 #[.slice A n c] w fun e w' => ∃ r : Int, e = .returned (.int .i64 r) ∧ w' = w ∧ (∃ k : Nat, k < n ∧ xs[k]?.getD 0 = r) ∧ ∀ j, j < n → xs[j]?.getD 0 ≤ r := by
  have hm := hx.small
  obtain ⟨b, o, rfl, hb, hc0⟩ := hx.cell (show 0 < n by omega)
  rw [Nat.add_zero] at hc0
  have h1i : ¬ ((n : Int) < 1) := by omega
  have h0n : (0 : Int) < (n : Int) := by omega
  go_enter Tryz.func80, Tryz.ntmps80
  go_wp2
  go_loop [3, 4] (fun v i => ∃ (k : Nat) (r : Int), 1 ≤ k ∧ k ≤ n ∧ i = .int .i64 k ∧ v = .int .i64 r ∧ (∃ k' : Nat, k' < n ∧ xs[k']?.getD 0 = r) ∧ ∀ j, j < k → xs[j]?.getD 0 ≤ r) (fun _ i => n - (intOf i).toNat)
  case atStart =>
    refine ⟨1, xs[0]?.getD 0, Nat.le_refl _, h1, rfl, rfl, ⟨0, by omega, rfl⟩, fun j hj => ?_⟩
    have hj0 : j = 0 := by omega
    subst hj0
    exact Int.le_refl _
  case round =>
    obtain ⟨k, r, hk1, hk, rfl, rfl, hr, hz⟩ := hrel
    have Hz := Lib.hid (And.intro hr hz)
    clear hz hr
    by_cases hlt : k < n
    · obtain ⟨b', o', hA, hb', hc⟩ := hx.cell hlt
      simp at hA
      obtain ⟨rfl, rfl⟩ := hA
      clear hc0
      go_wp2
      refine ⟨⟨k + 1, _, by omega, by omega, by go_num, rfl, ?_, fun j hj => ?_⟩, by simp [intOf]; omega⟩
      · by_cases hlr : r < xs[k]?.getD 0
        · rw [if_pos hlr]; exact ⟨k, hlt, rfl⟩
        · rw [if_neg hlr]; exact Hz.out.1
      · by_cases hlr : r < xs[k]?.getD 0
        · rw [if_pos hlr]
          by_cases hjk : j = k
          · subst hjk; exact Int.le_refl _
          · have := Hz.out.2 j (by omega); omega
        · rw [if_neg hlr]
          by_cases hjk : j = k
          · subst hjk; omega
          · exact Hz.out.2 j (by omega)
    · obtain rfl : k = n := by omega
      go_wp2
      go_ret
      exact ⟨r, rfl, rfl, Hz.out.1, Hz.out.2⟩
end Go.Proofs.YthjgecblkagelaaGreat

/- within[T]: whether all numbers lie from lo to hi; the two CheckHalls. -/
namespace Go.Proofs.YthjgecblkagelaaGreat
open Go.RowKit

def withinF (lo hi : Int) (xs : List Int) : Bool := xs.all fun x => decide (lo ≤ x) && decide (x ≤ hi)
theorem withinF_false {lo hi : Int} {xs : List Int} {k : Nat} (hk : k < xs.length) (h : xs[k]?.getD 0 < lo ∨ hi < xs[k]?.getD 0) : withinF lo hi xs = false := by
  unfold withinF
  rw [List.all_eq_false]
  refine ⟨xs[k], List.getElem_mem hk, ?_⟩
  rw [List.getElem?_eq_getElem hk] at h
  simp at h ⊢
  omega
theorem withinF_true {lo hi : Int} {xs : List Int} (h : ∀ j, j < xs.length → lo ≤ xs[j]?.getD 0 ∧ xs[j]?.getD 0 ≤ hi) : withinF lo hi xs = true := by
  unfold withinF
  rw [List.all_eq_true]
  intro x hx
  obtain ⟨i, hi, rfl⟩ := List.mem_iff_getElem.1 hx
  have := h i hi
  rw [List.getElem?_eq_getElem hi] at this
  simpa using this

set_option maxHeartbeats 400000 in
theorem wclo_any (b1 b2 : Nat) (lo hi x : Int) (w : World) (h1 : w.cell? ⟨b1, 0, none⟩ = some (.int .i64 lo)) (h2 : w.cell? ⟨b2, 0, none⟩ = some (.int .i64 hi)) :
    Calls Tryz.prog 84 #[.int .i64 x, .pointer (some ⟨b1, 0, none⟩), .pointer (some ⟨b2, 0, none⟩)] w fun e w' => e = .returned (.bool (decide (x < lo) || decide (hi < x))) ∧ w' = w := by
  go_enter Tryz.func84, Tryz.ntmps84
  by_cases hx : x < lo
  · go_wp2
    go_ret
    exact ⟨by simp [hx], rfl⟩
  · by_cases hy : hi < x
    · go_wp2
      go_ret
      exact ⟨by simp, rfl⟩
    · go_wp2
      go_ret
      exact ⟨by simp [hx]; omega, rfl⟩

set_option maxHeartbeats 400000 in
theorem windex_any (b1 b2 : Nat) (lo hi : Int) (w : World) (B : Nat) (A : Option Addr) (n c : Nat) (xs : List Int) (h1 : w.cell? ⟨b1, 0, none⟩ = some (.int .i64 lo)) (h2 : w.cell? ⟨b2, 0, none⟩ = some (.int .i64 hi)) (hx : IntsAt w B A n xs) :
    Calls Tryz.prog 103 #[.slice A n c, .func (.func 84) #[] #[.pointer (some ⟨b1, 0, none⟩), .pointer (some ⟨b2, 0, none⟩)]] w
      fun e w' => ∃ i : Int, e = .returned (.int .i64 i) ∧ w' = w ∧ decide (0 ≤ i) = !withinF lo hi xs := by
  have hm := hx.small
  go_enter Tryz.func103, Tryz.ntmps103
  go_wp2
  go_loop [5, 8] (fun _ i => ∃ k : Nat, k ≤ n ∧ i = .int .i64 k ∧ ∀ j, j < k → lo ≤ xs[j]?.getD 0 ∧ xs[j]?.getD 0 ≤ hi) (fun _ i => n - (intOf i).toNat)
  case atStart => exact ⟨0, by omega, rfl, fun j hj => by omega⟩
  case round =>
    obtain ⟨k, hk, rfl, hall⟩ := hrel
    have Hall := Lib.hid hall
    clear hall
    by_cases hlt : k < n
    · obtain ⟨b, o, rfl, _, hc⟩ := hx.cell hlt
      by_cases hbad : xs[k]?.getD 0 < lo ∨ hi < xs[k]?.getD 0
      · have hd : (decide (xs[k]?.getD 0 < lo) || decide (hi < xs[k]?.getD 0)) = true := by simpa using hbad
        go_wp2_with (go_at_call 84; refine (wclo_any b1 b2 lo hi _ _ h1 h2).mono ?_; rintro e w' ⟨rfl, rfl⟩)
        go_ret
        refine ⟨_, rfl, rfl, ?_⟩
        rw [withinF_false (by rw [hx.len]; exact hlt) hbad]
        simp
      · have hd : (decide (xs[k]?.getD 0 < lo) || decide (hi < xs[k]?.getD 0)) = false := by simpa using hbad
        go_wp2_with (go_at_call 84; refine (wclo_any b1 b2 lo hi _ _ h1 h2).mono ?_; rintro e w' ⟨rfl, rfl⟩)
        go_round
        case rel => exact ⟨k + 1, by omega, by go_num, fun j hj => by rcases Nat.lt_succ_iff_lt_or_eq.1 hj with h | rfl; exact Hall.out j h; omega⟩
        case measure => simp [intOf]; omega
    · go_wp2
      go_ret
      refine ⟨_, rfl, rfl, ?_⟩
      rw [withinF_true fun j hj => Hall.out j (by rw [hx.len] at hj; omega)]
      rfl

set_option maxHeartbeats 400000 in
theorem wcontains_any (b1 b2 : Nat) (lo hi : Int) (w : World) (B : Nat) (A : Option Addr) (n c : Nat) (xs : List Int) (h1 : w.cell? ⟨b1, 0, none⟩ = some (.int .i64 lo)) (h2 : w.cell? ⟨b2, 0, none⟩ = some (.int .i64 hi)) (hx : IntsAt w B A n xs) :
    Calls Tryz.prog 83 #[.slice A n c, .func (.func 84) #[] #[.pointer (some ⟨b1, 0, none⟩), .pointer (some ⟨b2, 0, none⟩)]] w
      fun e w' => e = .returned (.bool (!withinF lo hi xs)) ∧ w' = w := by
  go_enter Tryz.func83, Tryz.ntmps83
  go_wp2_with (go_at_call 103; refine (windex_any b1 b2 lo hi _ B _ _ _ xs h1 h2 hx).mono ?_; rintro e w' ⟨i, rfl, rfl, hi'⟩; have HI := Lib.hid hi'; clear hi')
  go_ret
  exact ⟨ret_bool HI.out, rfl⟩

set_option maxHeartbeats 400000 in
theorem within_any (lo hi : Int) (w : World) (B : Nat) (A : Option Addr) (n c : Nat) (xs : List Int) (hx : IntsAt w B A n xs) (hB : B ≤ w.heap.size) :
    Calls Tryz.prog 60 #[.int .i64 lo, .int .i64 hi, .slice A n c] w fun e w' => e = .returned (.bool (withinF lo hi xs)) ∧ Below w.heap.size w w' := by
  go_enter Tryz.func60, Tryz.ntmps60
  have hx2 := (hx.alloc hB (.cells #[.int .i64 lo] 3)).alloc (by simp; omega) (.cells #[.int .i64 hi] 3)
  go_wp2_with (go_at_call 83; refine (wcontains_any _ _ lo hi _ B _ _ _ xs (by simp) (by simp) hx2).mono ?_; rintro e w' ⟨rfl, rfl⟩)
  go_ret
  exact ⟨ret_bool (by simp), ((Below.refl _ _).alloc (Nat.le_refl _) _).alloc (by simp) _⟩

set_option maxHeartbeats 400000 in
theorem wclo64_any (b1 b2 : Nat) (lo hi x : Int) (w : World) (h1 : w.cell? ⟨b1, 0, none⟩ = some (.int .i64 lo)) (h2 : w.cell? ⟨b2, 0, none⟩ = some (.int .i64 hi)) :
    Calls Tryz.prog 86 #[.int .i64 x, .pointer (some ⟨b1, 0, none⟩), .pointer (some ⟨b2, 0, none⟩)] w fun e w' => e = .returned (.bool (decide (x < lo) || decide (hi < x))) ∧ w' = w := by
  go_enter Tryz.func86, Tryz.ntmps86
  by_cases hx : x < lo
  · go_wp2
    go_ret
    exact ⟨by simp [hx], rfl⟩
  · by_cases hy : hi < x
    · go_wp2
      go_ret
      exact ⟨by simp, rfl⟩
    · go_wp2
      go_ret
      exact ⟨by simp [hx]; omega, rfl⟩

set_option maxHeartbeats 400000 in
theorem windex64_any (b1 b2 : Nat) (lo hi : Int) (w : World) (B : Nat) (A : Option Addr) (n c : Nat) (xs : List Int) (h1 : w.cell? ⟨b1, 0, none⟩ = some (.int .i64 lo)) (h2 : w.cell? ⟨b2, 0, none⟩ = some (.int .i64 hi)) (hx : IntsAt w B A n xs) :
    Calls Tryz.prog 104 #[.slice A n c, .func (.func 86) #[] #[.pointer (some ⟨b1, 0, none⟩), .pointer (some ⟨b2, 0, none⟩)]] w
      fun e w' => ∃ i : Int, e = .returned (.int .i64 i) ∧ w' = w ∧ decide (0 ≤ i) = !withinF lo hi xs := by
  have hm := hx.small
  go_enter Tryz.func104, Tryz.ntmps104
  go_wp2
  go_loop [5, 8] (fun _ i => ∃ k : Nat, k ≤ n ∧ i = .int .i64 k ∧ ∀ j, j < k → lo ≤ xs[j]?.getD 0 ∧ xs[j]?.getD 0 ≤ hi) (fun _ i => n - (intOf i).toNat)
  case atStart => exact ⟨0, by omega, rfl, fun j hj => by omega⟩
  case round =>
    obtain ⟨k, hk, rfl, hall⟩ := hrel
    have Hall := Lib.hid hall
    clear hall
    by_cases hlt : k < n
    · obtain ⟨b, o, rfl, _, hc⟩ := hx.cell hlt
      by_cases hbad : xs[k]?.getD 0 < lo ∨ hi < xs[k]?.getD 0
      · have hd : (decide (xs[k]?.getD 0 < lo) || decide (hi < xs[k]?.getD 0)) = true := by simpa using hbad
        go_wp2_with (go_at_call 86; refine (wclo64_any b1 b2 lo hi _ _ h1 h2).mono ?_; rintro e w' ⟨rfl, rfl⟩)
        go_ret
        refine ⟨_, rfl, rfl, ?_⟩
        rw [withinF_false (by rw [hx.len]; exact hlt) hbad]
        simp
      · have hd : (decide (xs[k]?.getD 0 < lo) || decide (hi < xs[k]?.getD 0)) = false := by simpa using hbad
        go_wp2_with (go_at_call 86; refine (wclo64_any b1 b2 lo hi _ _ h1 h2).mono ?_; rintro e w' ⟨rfl, rfl⟩)
        go_round
        case rel => exact ⟨k + 1, by omega, by go_num, fun j hj => by rcases Nat.lt_succ_iff_lt_or_eq.1 hj with h | rfl; exact Hall.out j h; omega⟩
        case measure => simp [intOf]; omega
    · go_wp2
      go_ret
      refine ⟨_, rfl, rfl, ?_⟩
      rw [withinF_true fun j hj => Hall.out j (by rw [hx.len] at hj; omega)]
      rfl

set_option maxHeartbeats 400000 in
theorem wcontains64_any (b1 b2 : Nat) (lo hi : Int) (w : World) (B : Nat) (A : Option Addr) (n c : Nat) (xs : List Int) (h1 : w.cell? ⟨b1, 0, none⟩ = some (.int .i64 lo)) (h2 : w.cell? ⟨b2, 0, none⟩ = some (.int .i64 hi)) (hx : IntsAt w B A n xs) :
    Calls Tryz.prog 85 #[.slice A n c, .func (.func 86) #[] #[.pointer (some ⟨b1, 0, none⟩), .pointer (some ⟨b2, 0, none⟩)]] w
      fun e w' => e = .returned (.bool (!withinF lo hi xs)) ∧ w' = w := by
  go_enter Tryz.func85, Tryz.ntmps85
  go_wp2_with (go_at_call 104; refine (windex64_any b1 b2 lo hi _ B _ _ _ xs h1 h2 hx).mono ?_; rintro e w' ⟨i, rfl, rfl, hi'⟩; have HI := Lib.hid hi'; clear hi')
  go_ret
  exact ⟨ret_bool HI.out, rfl⟩

set_option maxHeartbeats 400000 in
theorem within64_any (lo hi : Int) (w : World) (B : Nat) (A : Option Addr) (n c : Nat) (xs : List Int) (hx : IntsAt w B A n xs) (hB : B ≤ w.heap.size) :
    Calls Tryz.prog 62 #[.int .i64 lo, .int .i64 hi, .slice A n c] w fun e w' => e = .returned (.bool (withinF lo hi xs)) ∧ Below w.heap.size w w' := by
  go_enter Tryz.func62, Tryz.ntmps62
  have hx2 := (hx.alloc hB (.cells #[.int .i64 lo] 2)).alloc (by simp; omega) (.cells #[.int .i64 hi] 2)
  go_wp2_with (go_at_call 85; refine (wcontains64_any _ _ lo hi _ B _ _ _ xs (by simp) (by simp) hx2).mono ?_; rintro e w' ⟨rfl, rfl⟩)
  go_ret
  exact ⟨ret_bool (by simp), ((Below.refl _ _).alloc (Nat.le_refl _) _).alloc (by simp) _⟩

end Go.Proofs.YthjgecblkagelaaGreat

/- The two CheckHalls; small functions over lists of ints. -/
namespace Go.Proofs.YthjgecblkagelaaGreat
open Go.RowKit

def prodF (ts : List Int) : Int := ts.foldl (fun a t => a * (t + 1)) 1
def checkHallF (ts : List Int) : Int :=
  if ts.length < 1 ∨ 5 < ts.length then 6 else if withinF 1 12 ts = false then 3 else if 1000 < prodF ts then 2 else 0

theorem foldl_snoc_prod (ts : List Int) (x a : Int) : (ts ++ [x]).foldl (fun a t => a * (t + 1)) a = ts.foldl (fun a t => a * (t + 1)) a * (x + 1) := by simp
theorem take_snoc_int (ts : List Int) (k : Nat) (hk : k < ts.length) : ts.take (k + 1) = ts.take k ++ [ts[k]?.getD 0] := by
  rw [List.take_succ_eq_append_getElem hk, List.getElem?_eq_getElem hk]; rfl
theorem prod_take (ts : List Int) (k : Nat) (hk : k < ts.length) : prodF (ts.take (k + 1)) = prodF (ts.take k) * (ts[k]?.getD 0 + 1) := by
  unfold prodF
  rw [take_snoc_int ts k hk, foldl_snoc_prod]
theorem prod_bd (ts : List Int) (h : ∀ j, j < ts.length → 1 ≤ ts[j]?.getD 0 ∧ ts[j]?.getD 0 ≤ 12) : ∀ k, k ≤ ts.length → 1 ≤ prodF (ts.take k) ∧ prodF (ts.take k) ≤ 13 ^ k := by
  intro k
  induction k with
  | zero => intro _; simp [prodF]
  | succ k ih =>
    intro hk
    have := ih (by omega)
    have hb := h k (by omega)
    rw [prod_take ts k (by omega)]
    generalize prodF (ts.take k) = p at *
    generalize ts[k]?.getD 0 = x at *
    have e : (13 : Int) ^ (k + 1) = 13 ^ k * 13 := by rw [Int.pow_succ]
    rw [e]
    constructor
    · have : 1 * 1 ≤ p * (x + 1) := Int.mul_le_mul (by omega) (by omega) (by omega) (by omega)
      omega
    · exact Int.mul_le_mul (by omega) (by omega) (by omega) (by omega)
theorem prod_bd5 (ts : List Int) (hl : ts.length ≤ 5) (h : ∀ j, j < ts.length → 1 ≤ ts[j]?.getD 0 ∧ ts[j]?.getD 0 ≤ 12) (k : Nat) (hk : k ≤ ts.length) : 1 ≤ prodF (ts.take k) ∧ prodF (ts.take k) ≤ 371293 := by
  have := prod_bd ts h k hk
  have e : (13 : Int) ^ k ≤ 13 ^ 5 := by
    have : k = 0 ∨ k = 1 ∨ k = 2 ∨ k = 3 ∨ k = 4 ∨ k = 5 := by omega
    rcases this with rfl | rfl | rfl | rfl | rfl | rfl <;> decide
  have e5 : (13 : Int) ^ 5 = 371293 := by decide
  omega
theorem all_within {lo hi : Int} {xs : List Int} (h : withinF lo hi xs = true) : ∀ j, j < xs.length → lo ≤ xs[j]?.getD 0 ∧ xs[j]?.getD 0 ≤ hi := by
  intro j hj
  unfold withinF at h
  rw [List.all_eq_true] at h
  have := h xs[j] (List.getElem_mem hj)
  rw [List.getElem?_eq_getElem hj]
  simpa using this

set_option maxHeartbeats 1000000 in
theorem rcheckHall_any (w : World) (B : Nat) (A : Option Addr) (n c : Nat) (ts : List Int) (hx : IntsAt w B A n ts) (hB : B ≤ w.heap.size) :
    Calls Tryz.prog 25 #[.agg #[.slice A n c]] w fun e w' => e = .returned (.int .i64 (checkHallF ts)) ∧ Below w.heap.size w w' := by
  have hm := hx.small
  have hx2 := hx.alloc hB (.cells #[.slice A n c] 24)
  by_cases hn : n < 1 ∨ 5 < n
  · have hr : checkHallF ts = 6 := by unfold checkHallF; rw [if_pos (by rw [hx.len]; exact hn)]
    have Hr := Lib.hid hr
    clear hr
    rcases hn with hn | hn
    all_goals
      go_enter Tryz.func25, Tryz.ntmps25
      go_wp2
      go_ret
      exact ⟨ret_int Hr.out.symm, (Below.refl _ _).alloc (Nat.le_refl _) _⟩
  · have h1 : 1 ≤ n := by omega
    have h5 : n ≤ 5 := by omega
    clear hn
    go_enter Tryz.func25, Tryz.ntmps25
    go_wp2
    go_loop [4] (fun i => ∃ k : Nat, k ≤ n ∧ i = .int .i64 k ∧ ∀ j, j < k → 1 ≤ ts[j]?.getD 0 ∧ ts[j]?.getD 0 ≤ 12) (fun i => n - (intOf i).toNat)
    case atStart => exact ⟨0, by omega, rfl, fun j hj => by omega⟩
    case round =>
      obtain ⟨k, hk, rfl, hall⟩ := hrel
      have Hall := Lib.hid hall
      clear hall
      by_cases hlt : k < n
      · obtain ⟨b, o, rfl, _, hc⟩ := hx2.cell hlt
        by_cases ha : ts[k]?.getD 0 < 1
        · go_wp2
          go_ret
          refine ⟨ret_int ?_, (Below.refl _ _).alloc (Nat.le_refl _) _⟩
          unfold checkHallF
          rw [if_neg (by rw [hx.len]; omega), if_pos (withinF_false (by rw [hx.len]; exact hlt) (.inl ha))]
        · by_cases hb : 12 < ts[k]?.getD 0
          · go_wp2
            go_ret
            refine ⟨ret_int ?_, (Below.refl _ _).alloc (Nat.le_refl _) _⟩
            unfold checkHallF
            rw [if_neg (by rw [hx.len]; omega), if_pos (withinF_false (by rw [hx.len]; exact hlt) (.inr hb))]
          · go_wp2
            go_round
            case rel => exact ⟨k + 1, by omega, by go_num, fun j hj => by rcases Nat.lt_succ_iff_lt_or_eq.1 hj with h | rfl; exact Hall.out j h; omega⟩
            case measure => simp [intOf]; omega
      · have hw : withinF 1 12 ts = true := withinF_true fun j hj => Hall.out j (by rw [hx.len] at hj; omega)
        have Hw := Lib.hid hw
        clear hw
        go_wp2
        go_loop [3, 5] (fun p i => ∃ k : Nat, k ≤ n ∧ i = .int .i64 k ∧ p = .int .i64 (prodF (ts.take k))) (fun _ i => n - (intOf i).toNat)
        case atStart => exact ⟨0, by omega, rfl, rfl⟩
        case round =>
          obtain ⟨k, hk, rfl, rfl⟩ := hrel
          have bd := prod_bd5 ts (by rw [hx.len]; exact h5) (all_within Hw.out) k (by rw [hx.len]; exact hk)
          by_cases hlt : k < n
          · obtain ⟨b, o, rfl, _, hc⟩ := hx2.cell hlt
            have xb := all_within Hw.out k (by rw [hx.len]; exact hlt)
            have bd2 := prod_bd5 ts (by rw [hx.len]; exact h5) (all_within Hw.out) (k + 1) (by rw [hx.len]; omega)
            rw [prod_take ts k (by rw [hx.len]; exact hlt)] at bd2
            have Hp := Lib.hid (prod_take ts k (by rw [hx.len]; exact hlt))
            go_wp2
            go_round
            case rel => exact ⟨k + 1, by omega, by go_num, by rw [Hp.out]; try go_num⟩
            case measure => simp [intOf]; omega
          · have hkn : k = n := by omega
            subst hkn
            have ht : ts.take k = ts := by rw [List.take_of_length_le (by rw [hx.len]; exact Nat.le_refl _)]
            rw [ht] at bd ⊢
            clear ht
            by_cases hp : 1000 < prodF ts
            all_goals
              go_wp2
              go_ret
              refine ⟨ret_int ?_, (Below.refl _ _).alloc (Nat.le_refl _) _⟩
              unfold checkHallF
              rw [if_neg (by rw [hx.len]; omega), if_neg (by rw [Hw.out]; simp)]
              simp [hp]
end Go.Proofs.YthjgecblkagelaaGreat

/- Functions that only read lists of ints: strictlyIncreasing, Ints, IsWindow, IsRow, Stated. -/
namespace Go.Proofs.YthjgecblkagelaaGreat
open Go.RowKit

theorem bcell {W w1 : World} (hb : Below W.heap.size W w1) : (∀ b o, b < W.heap.size → w1.cell? ⟨b, o, none⟩ = W.cell? ⟨b, o, none⟩) ∧ (∀ b o, b < W.heap.size → w1.frozen? ⟨b, o, none⟩ = W.frozen? ⟨b, o, none⟩) :=
  ⟨fun b o h => hb.cell (p := ⟨b, o, none⟩) h, fun b o h => hb.frozen (p := ⟨b, o, none⟩) h⟩

/-- Strictly increasing. -/
def incF (xs : List Int) : Bool := (List.range xs.length).all fun i => i == 0 || decide (xs[i - 1]?.getD 0 < xs[i]?.getD 0)
theorem incF_false {xs : List Int} {k : Nat} (h0 : 1 ≤ k) (hk : k < xs.length) (h : xs[k]?.getD 0 ≤ xs[k - 1]?.getD 0) : incF xs = false := by
  unfold incF
  rw [List.all_eq_false]
  refine ⟨k, List.mem_range.2 hk, ?_⟩
  simp
  omega
theorem incF_true {xs : List Int} (h : ∀ j, 1 ≤ j → j < xs.length → xs[j - 1]?.getD 0 < xs[j]?.getD 0) : incF xs = true := by
  unfold incF
  rw [List.all_eq_true]
  intro i hi
  have := h i
  have := List.mem_range.1 hi
  simp
  omega

set_option maxHeartbeats 400000 in
theorem inc_any (w : World) (B : Nat) (A : Option Addr) (n c : Nat) (xs : List Int) (hx : IntsAt w B A n xs) :
    Calls Tryz.prog 54 #[.slice A n c] w fun e w' => e = .returned (.bool (incF xs)) ∧ ∃ q, w' = w.drewN q := by
  have hm := hx.small
  go_enter Tryz.func54, Tryz.ntmps54
  go_wp2
  go_loopw [3] (fun i wr => ∃ k q : Nat, 1 ≤ k ∧ (k ≤ n ∨ k = 1) ∧ i = .int .i64 k ∧ wr = w.drewN q ∧ ∀ j, 1 ≤ j → j < k → xs[j - 1]?.getD 0 < xs[j]?.getD 0) (fun i _ => n - (intOf i).toNat)
  case atStart => exact ⟨1, 0, by omega, .inr rfl, rfl, rfl, fun j hj hk => by omega⟩
  case round =>
    obtain ⟨k, q, h1, hk, rfl, rfl, hall⟩ := hrel
    have Hall := Lib.hid hall
    clear hall
    by_cases hlt : k < n
    · obtain ⟨b1, o1, rfl, _, hc1⟩ := hx.cell hlt
      obtain ⟨b2, o2, hA, _, hc2⟩ := hx.cell (k := k - 1) (by omega)
      obtain ⟨rfl, rfl⟩ : b1 = b2 ∧ o1 = o2 := by simpa using hA
      have hi : ((k - 1 : Nat) : Int) = (k : Int) - 1 := by omega
      have hk1 : ((k : Int) - 1).toNat = k - 1 := by omega
      clear hi
      go_wp2
      go_quiet (fail)
      go_wp2
      · have hx' : xs[k]?.getD 0 ≤ xs[k - 1]?.getD 0 := by assumption
        go_ret
        exact ⟨ret_bool (incF_false h1 (by rw [hx.len]; exact hlt) hx').symm, _, World.drewN_drewN _ _ _⟩
      · have hx' : xs[k - 1]?.getD 0 < xs[k]?.getD 0 := by assumption
        go_roundw
        case rel => exact ⟨k + 1, _, by omega, .inl (by omega), by go_num, rfl, fun j hj hk => by rcases Nat.lt_succ_iff_lt_or_eq.1 hk with h | rfl; exact Hall.out j hj h; exact hx'⟩
        case measure => simp [intOf]; omega
    · go_wp2
      go_ret
      exact ⟨ret_bool (incF_true fun j h1 hj => Hall.out j h1 (by rw [hx.len] at hj; omega)).symm, _, rfl⟩

/-- Two lists are equal: Ints. -/
theorem ints_ext {xs ys : List Int} (hl : xs.length = ys.length) (h : ∀ j, j < xs.length → xs[j]?.getD 0 = ys[j]?.getD 0) : xs = ys := by
  apply List.ext_getElem hl
  intro i h1 h2
  have := h i h1
  rw [List.getElem?_eq_getElem h1, List.getElem?_eq_getElem h2] at this
  simpa using this

set_option maxHeartbeats 400000 in
theorem ints_any (w : World) (B1 B2 : Nat) (A1 A2 : Option Addr) (n m c1 c2 : Nat) (xs ys : List Int) (h1 : IntsAt w B1 A1 n xs) (h2 : IntsAt w B2 A2 m ys) :
    Calls Tryz.prog 13 #[.slice A1 n c1, .slice A2 m c2] w fun e w' => e = .returned (.bool (decide (xs = ys))) ∧ ∃ q, w' = w.drewN q := by
  have hm := h1.small
  have hm2 := h2.small
  by_cases hnm : n = m
  · subst hnm
    go_enter Tryz.func13, Tryz.ntmps13
    go_wp2
    go_loopw [5] (fun i wr => ∃ k q : Nat, k ≤ n ∧ i = .int .i64 k ∧ wr = w.drewN q ∧ ∀ j, j < k → xs[j]?.getD 0 = ys[j]?.getD 0) (fun i _ => n - (intOf i).toNat)
    case atStart => exact ⟨0, 0, by omega, rfl, rfl, fun j hj => by omega⟩
    case round =>
      obtain ⟨k, q, hk, rfl, rfl, hall⟩ := hrel
      have Hall := Lib.hid hall
      clear hall
      by_cases hlt : k < n
      · obtain ⟨b1, o1, rfl, _, hc1⟩ := h1.cell hlt
        obtain ⟨b2, o2, rfl, _, hc2⟩ := h2.cell hlt
        by_cases hq : xs[k]?.getD 0 = ys[k]?.getD 0
        · have hb : (xs[k]?.getD 0 != ys[k]?.getD 0) = false := by simp [hq]
          have Hq := Lib.hid hq
          clear hq
          go_wp2
          go_quiet (fail)
          go_wp2
          go_roundw
          case rel => exact ⟨k + 1, _, by omega, by go_num, rfl, fun j hj => by rcases Nat.lt_succ_iff_lt_or_eq.1 hj with h | rfl; exact Hall.out j h; exact Hq.out⟩
          case measure => simp [intOf]; omega
        · have hb : (xs[k]?.getD 0 != ys[k]?.getD 0) = true := by simp [hq]
          go_wp2
          go_quiet (fail)
          go_wp2
          go_ret
          exact ⟨ret_bool (by symm; rw [decide_eq_false_iff_not]; rintro rfl; exact hq rfl), _, World.drewN_drewN _ _ _⟩
      · go_wp2
        go_ret
        exact ⟨ret_bool (by symm; rw [decide_eq_true_iff]; exact ints_ext (by rw [h1.len, h2.len]) fun j hj => Hall.out j (by rw [h1.len] at hj; omega)), _, rfl⟩
  · have hb : ((n : Int) != (m : Int)) = true := by rw [bne_iff_ne]; omega
    go_enter Tryz.func13, Tryz.ntmps13
    go_wp2
    go_ret
    exact ⟨ret_bool (by symm; rw [decide_eq_false_iff_not]; rintro rfl; exact hnm (by rw [← h1.len, h2.len])), 0, rfl⟩

def isWinF (n : Nat) (x : Int) : Bool := decide (0 ≤ x) && decide (x < n)

set_option maxHeartbeats 400000 in
theorem isWindow_any (w : World) (A : Option Addr) (n c : Nat) (x : Int) :
    Calls Tryz.prog 22 #[.agg #[.slice A n c], .int .i64 x] w fun e w' => e = .returned (.bool (isWinF n x)) ∧ w' = w.alloc (.cells #[.slice A n c] 24) := by
  by_cases hx : 0 ≤ x
  · by_cases hy : x < n
    all_goals
      go_enter Tryz.func22, Tryz.ntmps22
      go_wp2
      go_ret
      exact ⟨ret_bool (by simp [isWinF]; omega), rfl⟩
  · go_enter Tryz.func22, Tryz.ntmps22
    go_wp2
    go_ret
    exact ⟨ret_bool (by simp [isWinF]; omega), rfl⟩
end Go.Proofs.YthjgecblkagelaaGreat

/- IsRow and Stated of the reference; which lists are states. -/
namespace Go.Proofs.YthjgecblkagelaaGreat
open Go.RowKit

def winsF (n : Nat) (xs : List Int) : Bool := xs.all (isWinF n)
theorem all_false_at {p : Int → Bool} {xs : List Int} {k : Nat} (hk : k < xs.length) (h : p (xs[k]?.getD 0) = false) : xs.all p = false := by
  rw [List.all_eq_false]
  refine ⟨xs[k], List.getElem_mem hk, ?_⟩
  rw [List.getElem?_eq_getElem hk] at h
  simpa using h
theorem all_true_at {p : Int → Bool} {xs : List Int} (h : ∀ j, j < xs.length → p (xs[j]?.getD 0) = true) : xs.all p = true := by
  rw [List.all_eq_true]
  intro x hx
  obtain ⟨i, hi, rfl⟩ := List.mem_iff_getElem.1 hx
  have := h i hi
  rw [List.getElem?_eq_getElem hi] at this
  simpa using this
theorem all_at {p : Int → Bool} {xs : List Int} (h : xs.all p = true) (j : Nat) (hj : j < xs.length) : p (xs[j]?.getD 0) = true := by
  rw [List.all_eq_true] at h
  rw [List.getElem?_eq_getElem hj]
  exact h _ (List.getElem_mem hj)

def isRowF (n : Nat) (xs : List Int) : Int := if 1000 < xs.length then 6 else if winsF n xs then 0 else 2

set_option maxHeartbeats 1000000 in
set_option maxRecDepth 100000 in
theorem isRow_any (w : World) (B : Nat) (A0 A : Option Addr) (n0 c0 n c : Nat) (xs : List Int) (hx : IntsAt w B A n xs) (hB : B ≤ w.heap.size) :
    Calls Tryz.prog 50 #[.agg #[.slice A0 n0 c0], .slice A n c] w fun e w' => e = .returned (.int .i64 (isRowF n0 xs)) ∧ Below w.heap.size w w' := by
  have hm := hx.small
  by_cases hn : 1000 < n
  · go_enter Tryz.func50, Tryz.ntmps50
    go_wp2
    go_ret
    exact ⟨ret_int (by unfold isRowF; rw [if_pos (by rw [hx.len]; exact hn)]), (Below.refl _ _).alloc (Nat.le_refl _) _⟩
  · go_enter Tryz.func50, Tryz.ntmps50
    go_wp2
    go_loopw [5] (fun i wr => ∃ k : Nat, k ≤ n ∧ i = .int .i64 k ∧ wr.cell? ⟨w.heap.size, 0, none⟩ = some (.slice A0 n0 c0) ∧ Below w.heap.size w wr ∧ w.heap.size < wr.heap.size ∧ ∀ j, j < k → isWinF n0 (xs[j]?.getD 0) = true) (fun i _ => n - (intOf i).toNat)
    case atStart => exact ⟨0, by omega, rfl, by simp, (Below.refl _ _).alloc (Nat.le_refl _) _, by simp, fun j hj => by omega⟩
    case round =>
      obtain ⟨k, hk, rfl, hc0, hb, hz, hall⟩ := hrel
      have Hall := Lib.hid hall
      clear hall
      by_cases hlt : k < n
      · obtain ⟨b1, o1, rfl, hbB, hc1⟩ := (hx.below hb hB).cell hlt
        have hz2 := hb.size
        cases hq : isWinF n0 (xs[k]?.getD 0)
        · have Hq := Lib.hid hq
          go_wp2
          go_still_tail 5, (by kernel_rfl)
          change wpList _ _ _ _ _ wr.drew
          go_wp2_with (go_at_call 22; refine (isWindow_any _ _ _ _ _).mono ?_; rintro e w' ⟨rfl, rfl⟩)
          go_ret
          refine ⟨ret_int ?_, ((hb.trans (Below.drew (Below.refl _ _))).alloc (by simp; omega) _)⟩
          unfold isRowF
          rw [if_neg (by rw [hx.len]; exact hn), if_neg (by unfold winsF; rw [all_false_at (by rw [hx.len]; exact hlt) Hq.out]; simp)]
        · have Hq := Lib.hid hq
          go_wp2
          go_still_tail 5, (by kernel_rfl)
          change wpList _ _ _ _ _ wr.drew
          go_wp2_with (go_at_call 22; refine (isWindow_any _ _ _ _ _).mono ?_; rintro e w' ⟨rfl, rfl⟩)
          go_roundw
          case rel =>
            exact ⟨k + 1, by omega, by go_num, by simp [World.cell?_alloc_lt, hz, hc0], ((hb.trans (Below.drew (Below.refl _ _))).alloc (by simp; omega) _), by simp; omega, fun j hj => by rcases Nat.lt_succ_iff_lt_or_eq.1 hj with h | rfl; exact Hall.out j h; exact Hq.out⟩
          case measure => simp [intOf]; omega
      · go_wp2
        go_ret
        exact ⟨ret_int (by unfold isRowF; rw [if_neg (by rw [hx.len]; exact hn), if_pos (by unfold winsF; exact all_true_at fun j hj => Hall.out j (by rw [hx.len] at hj; omega))]), hb⟩
end Go.Proofs.YthjgecblkagelaaGreat

/- turn.CheckHall and areWindows. -/
namespace Go.Proofs.YthjgecblkagelaaGreat
open Go.RowKit

theorem one_int (w : World) (B : Nat) (b : Nat) (x : Int) (hb : b < B) (h : w.cell? ⟨b, 0, none⟩ = some (.int .i64 x)) : IntsAt w B (some ⟨b, 0, none⟩) 1 [x] :=
  ⟨rfl, by omega, fun _ => ⟨b, 0, rfl, hb, fun j hj => by
    have h0 : j = 0 := by omega
    subst h0
    simpa using h⟩⟩
theorem within_one (lo hi x : Int) : withinF lo hi [x] = (decide (lo ≤ x) && decide (x ≤ hi)) := by simp [withinF]

set_option maxHeartbeats 1000000 in
theorem checkHall_any (w : World) (B : Nat) (A : Option Addr) (n c : Nat) (ts : List Int) (hx : IntsAt w B A n ts) (hB : B ≤ w.heap.size) :
    Calls Tryz.prog 46 #[.agg #[.slice A n c]] w fun e w' => e = .returned (.int .i64 (checkHallF ts)) ∧ Below w.heap.size w w' := by
  have hm := hx.small
  have hb0 : Below w.heap.size w ((w.alloc (.cells #[.slice A n c] 24)).alloc (.cells #[.int .i64 (n : Int)] 3)) := ((Below.refl _ w).alloc (Nat.le_refl _) _).alloc (by simp) _
  have ho := one_int ((w.alloc (.cells #[.slice A n c] 24)).alloc (.cells #[.int .i64 (n : Int)] 3)) (w.heap.size + 2) (w.heap.size + 1) (n : Int) (by omega) (by simp)
  go_enter Tryz.func46, Tryz.ntmps46
  by_cases hn : n < 1 ∨ 5 < n
  · have hr : checkHallF ts = 6 := by unfold checkHallF; rw [if_pos (by rw [hx.len]; exact hn)]
    have Hr := Lib.hid hr
    clear hr
    have hw : withinF 1 5 [(n : Int)] = false := by rw [within_one]; simp; omega
    have Hn := Lib.hid hn
    clear hn
    go_wp2_with (go_at_call 60; refine (within_any 1 5 _ (w.heap.size + 2) _ _ _ [(n : Int)] ho (by simp)).mono ?_; rintro e w2 ⟨rfl, hb2⟩)
    go_ret
    exact ⟨ret_int Hr.out.symm, hb0.trans (hb2.mono (by simp; omega))⟩
  · have hw : withinF 1 5 [(n : Int)] = true := by rw [within_one]; simp; omega
    have hlen : ¬ (ts.length < 1 ∨ 5 < ts.length) := by rw [hx.len]; exact hn
    have h5 : ts.length ≤ 5 := by omega
    have hn1 : 1 ≤ n := by omega
    have Hl := Lib.hid hlen
    have H5 := Lib.hid h5
    clear hlen h5 hn
    go_wp2_with (fail)
    refine (within_any 1 5 _ (w.heap.size + 2) _ _ _ [(n : Int)] ho (by simp)).mono ?_
    rintro e w2 ⟨rfl, hb2⟩
    have hb3 := hb0.trans (hb2.mono (by simp; omega))
    have hz : w.heap.size + 2 ≤ w2.heap.size := by have := hb2.size; simp at this; omega
    have hcell : w2.cell? ⟨w.heap.size, 0, none⟩ = some (.slice A n c) := (hb2.cell (p := ⟨w.heap.size, 0, none⟩) (by simp; omega)).trans (by simp [World.cell?_alloc_lt])
    have hx3 := hx.below hb3 hB
    clear hb2 ho hb0
    cases hin : withinF 1 12 ts
    · have Hin := Lib.hid hin
      go_wp2_with (fail)
      refine (within_any 1 12 _ B _ _ _ ts hx3 (by omega)).mono ?_
      rintro e w4 ⟨rfl, hb4⟩
      go_wp2
      go_ret
      refine ⟨ret_int ?_, hb3.trans (hb4.mono (by omega))⟩
      unfold checkHallF
      rw [if_neg Hl.out, if_pos Hin.out]
    · have Hin := Lib.hid hin
      go_wp2_with (fail)
      refine (within_any 1 12 _ B _ _ _ ts hx3 (by omega)).mono ?_
      rintro e w4 ⟨rfl, hb4⟩
      have hb5 := hb3.trans (hb4.mono (by omega))
      have hcell5 : w4.cell? ⟨w.heap.size, 0, none⟩ = some (.slice A n c) := (hb4.cell (p := ⟨w.heap.size, 0, none⟩) (by simp; omega)).trans hcell
      have hx5 := hx.below hb5 hB
      clear hb4 hcell hx3 hb3
      go_wp2
      go_loop [3, 5, 19] (fun p _ i => ∃ k : Nat, k ≤ n ∧ i = .int .i64 k ∧ p = .int .i64 (prodF (ts.take k))) (fun _ _ i => n - (intOf i).toNat)
      case atStart => exact ⟨0, by omega, rfl, rfl⟩
      case round =>
        obtain ⟨k, hk, rfl, rfl⟩ := hrel
        have bd := prod_bd5 ts H5.out (all_within Hin.out) k (by rw [hx.len]; exact hk)
        by_cases hlt : k < n
        · obtain ⟨b, o, rfl, _, hc⟩ := hx5.cell hlt
          have xb := all_within Hin.out k (by rw [hx.len]; exact hlt)
          have bd2 := prod_bd5 ts H5.out (all_within Hin.out) (k + 1) (by rw [hx.len]; omega)
          rw [prod_take ts k (by rw [hx.len]; exact hlt)] at bd2
          have Hp := Lib.hid (prod_take ts k (by rw [hx.len]; exact hlt))
          go_wp2
          go_round
          case rel => exact ⟨k + 1, by omega, by go_num, by rw [Hp.out]; try go_num⟩
          case measure => simp [intOf]; omega
        · have hkn : k = n := by omega
          subst hkn
          have ht : ts.take k = ts := by rw [List.take_of_length_le (by rw [hx.len]; exact Nat.le_refl _)]
          rw [ht] at bd ⊢
          clear ht
          by_cases hp : 1000 < prodF ts
          all_goals
            go_wp2
            go_ret
            refine ⟨ret_int ?_, hb5⟩
            unfold checkHallF
            rw [if_neg Hl.out, if_neg (by rw [Hin.out]; simp)]
            simp [hp]

set_option maxHeartbeats 400000 in
theorem areWindows_any (w : World) (B : Nat) (A1 A : Option Addr) (n c m d : Nat) (xs : List Int) (hn : n ≤ 9223372036854775807) (hx : IntsAt w B A m xs) (hB : B ≤ w.heap.size) :
    Calls Tryz.prog 53 #[.agg #[.slice A1 n c], .slice A m d] w fun e w' => e = .returned (.bool (withinF 0 ((n : Int) - 1) xs)) ∧ Below w.heap.size w w' := by
  have hx2 := hx.alloc hB (.cells #[.slice A1 n c] 57)
  go_enter Tryz.func53, Tryz.ntmps53
  go_wp2_with (fail)
  refine (within_any 0 _ _ B _ _ _ xs hx2 (by simp; omega)).mono ?_
  rintro e w2 ⟨rfl, hb2⟩
  go_wp2
  go_ret
  exact ⟨rfl, ((Below.refl _ w).alloc (Nat.le_refl _) _).trans (hb2.mono (by simp))⟩
end Go.Proofs.YthjgecblkagelaaGreat
