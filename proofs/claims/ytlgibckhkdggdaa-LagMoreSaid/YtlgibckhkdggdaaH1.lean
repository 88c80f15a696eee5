/- Parts of a proof: LA LB LC LD. -/
import Derived.Test.YtlgibckhkdggdaaRows
import Derived.WalkKit
import Derived.WalkSpells
import Derived.WalkLawsBesides
import Derived.Lib.Hide
import Derived.Deep.QuietTactic
import Derived.BigQuiet
import Derived.StillTailTactics
import Derived.Deep.LoopGhost
import Derived.RangeFuncNested
import Derived.RangeFuncBound
import Derived.RangeFuncCalls
import Derived.RangeFuncLeaves
import Derived.RangeFuncBox
import Derived.Shelf.Abstract
import Derived.Shelf.RegionOpen
import Derived.OwnWalkIn
import Derived.TacticsInMore
import Derived.LoopNIn
import Derived.LoopIn
import Derived.Sort.LoopGhostIn
import Derived.Carry

/- lag: slices of ints that read as lists; within; CheckCurve. -/
namespace Go.Proofs.Ytlgibckhkdggdaa
open Go.RowKit

/-- A slice of n elements at A reads as the ints xs; it lies below block B. -/
def IntsAt (w : World) (B : Nat) (A : Option Addr) (n : Nat) (xs : List Int) : Prop :=
  xs.length = n ∧ n ≤ 9223372036854775807 ∧ (0 < n → ∃ b off, A = some ⟨b, off, none⟩ ∧ b < B ∧ ∀ j, j < n → w.cell? ⟨b, off + j, none⟩ = some (.int .i64 (xs[j]?.getD 0)))

theorem IntsAt.len {w : World} {B : Nat} {A : Option Addr} {n : Nat} {xs : List Int} (h : IntsAt w B A n xs) : xs.length = n := h.1
theorem IntsAt.small {w : World} {B : Nat} {A : Option Addr} {n : Nat} {xs : List Int} (h : IntsAt w B A n xs) : n ≤ 9223372036854775807 := h.2.1
theorem IntsAt.cell {w : World} {B : Nat} {A : Option Addr} {n : Nat} {xs : List Int} (h : IntsAt w B A n xs) {k : Nat} (hk : k < n) :
    ∃ b off, A = some ⟨b, off, none⟩ ∧ b < B ∧ w.cell? ⟨b, off + k, none⟩ = some (.int .i64 (xs[k]?.getD 0)) := by
  obtain ⟨_, _, h⟩ := h
  obtain ⟨b, off, e, hb, hc⟩ := h (by omega)
  exact ⟨b, off, e, hb, hc k hk⟩
theorem IntsAt.keep {w w' : World} {B B' : Nat} {A : Option Addr} {n : Nat} {xs : List Int} (h : IntsAt w B A n xs) (hk : ∀ p : Addr, p.block < B → w'.cell? p = w.cell? p) (hB : B ≤ B') : IntsAt w' B' A n xs :=
  ⟨h.1, h.2.1, fun h0 => by
    obtain ⟨_, _, h⟩ := h
    obtain ⟨b, off, e, hlt, hc⟩ := h h0
    exact ⟨b, off, e, by omega, fun j hj => (hk ⟨b, off + j, none⟩ hlt).trans (hc j hj)⟩⟩
theorem IntsAt.below {w w' : World} {B D : Nat} {A : Option Addr} {n : Nat} {xs : List Int} (h : IntsAt w B A n xs) (hb : Below D w w') (hD : B ≤ D) : IntsAt w' B A n xs := h.keep (fun _ hp => hb.cell (Nat.lt_of_lt_of_le hp hD)) (Nat.le_refl _)
theorem IntsAt.more {w : World} {B B' : Nat} {A : Option Addr} {n : Nat} {xs : List Int} (h : IntsAt w B A n xs) (hB : B ≤ B') : IntsAt w B' A n xs := h.keep (fun _ _ => rfl) hB
theorem IntsAt.drewN {w : World} {B : Nat} {A : Option Addr} {n : Nat} {xs : List Int} (h : IntsAt w B A n xs) (k : Nat) : IntsAt (w.drewN k) B A n xs := h
theorem IntsAt.alloc {w : World} {B : Nat} {A : Option Addr} {n : Nat} {xs : List Int} (h : IntsAt w B A n xs) (hB : B ≤ w.heap.size) (o : Obj) : IntsAt (w.alloc o) B A n xs :=
  h.keep (fun p hp => World.cell?_alloc_lt w o p (by omega)) (Nat.le_refl _)
theorem IntsAt.nil {w : World} {B : Nat} : IntsAt w B none 0 [] := ⟨rfl, by omega, fun h => absurd h (by omega)⟩

theorem ret_bool {a b : Bool} (h : a = b) : Ending.returned (.bool a) = .returned (.bool b) := by rw [h]
theorem ret_int {k : IntKind} {a b : Int} (h : a = b) : Ending.returned (.int k a) = .returned (.int k b) := by rw [h]

def withinF (lo hi : Int) (xs : List Int) : Bool := xs.all fun x => decide (lo ≤ x) && decide (x ≤ hi)
theorem withinF_false {lo hi : Int} {xs : List Int} {k : Nat} (hk : k < xs.length) (h : xs[k]?.getD 0 < lo ∨ hi < xs[k]?.getD 0) : withinF lo hi xs = false := by
  unfold withinF
  rw [List.all_eq_false]
  refine ⟨xs[k], List.getElem_mem hk, ?_⟩
  rw [List.getElem?_eq_getElem hk] at h
  simp at h ⊢
  omega
theorem withinF_true {lo hi : Int} {xs : List Int} (h : ∀ j, j < xs.length → lo ≤ xs[j]?.getD 0 ∧ xs[j]?.getD 0 ≤ hi) : withinF lo hi xs = true := by
  unfold withinF
  rw [List.all_eq_true]
  intro x hx
  obtain ⟨i, hi, rfl⟩ := List.mem_iff_getElem.1 hx
  have := h i hi
  rw [List.getElem?_eq_getElem hi] at this
  simpa using this

set_option maxHeartbeats 400000 in
theorem wclo64_any (b1 b2 : Nat) (lo hi x : Int) (w : World) (h1 : w.cell? ⟨b1, 0, none⟩ = some (.int .i64 lo)) (h2 : w.cell? ⟨b2, 0, none⟩ = some (.int .i64 hi)) :
    Calls Try.prog 91 #[.int .i64 x, .pointer (some ⟨b1, 0, none⟩), .pointer (some ⟨b2, 0, none⟩)] w fun e w' => e = .returned (.bool (decide (x < lo) || decide (hi < x))) ∧ w' = w := by
  go_enter Try.func91, Try.ntmps91
  by_cases hx : x < lo
  · go_wp2
    go_ret
    exact ⟨by simp [hx], rfl⟩
  · by_cases hy : hi < x
    · go_wp2
      go_ret
      exact ⟨by simp, rfl⟩
    · go_wp2
      go_ret
      exact ⟨by simp [hx]; omega, rfl⟩

set_option maxHeartbeats 400000 in
theorem windex64_any (b1 b2 : Nat) (lo hi : Int) (w : World) (B : Nat) (A : Option Addr) (n c : Nat) (xs : List Int) (h1 : w.cell? ⟨b1, 0, none⟩ = some (.int .i64 lo)) (h2 : w.cell? ⟨b2, 0, none⟩ = some (.int .i64 hi)) (hx : IntsAt w B A n xs) :
    Calls Try.prog 111 #[.slice A n c, .func (.func 91) #[] #[.pointer (some ⟨b1, 0, none⟩), .pointer (some ⟨b2, 0, none⟩)]] w
      fun e w' => ∃ i : Int, e = .returned (.int .i64 i) ∧ w' = w ∧ decide (0 ≤ i) = !withinF lo hi xs := by
  have hm := hx.small
  go_enter Try.func111, Try.ntmps111
  go_wp2
  go_loop [5, 8] (fun _ i => ∃ k : Nat, k ≤ n ∧ i = .int .i64 k ∧ ∀ j, j < k → lo ≤ xs[j]?.getD 0 ∧ xs[j]?.getD 0 ≤ hi) (fun _ i => n - (intOf i).toNat)
  case atStart => exact ⟨0, by omega, rfl, fun j hj => by omega⟩
  case round =>
    obtain ⟨k, hk, rfl, hall⟩ := hrel
    have Hall := Lib.hid hall
    clear hall
    by_cases hlt : k < n
    · obtain ⟨b, o, rfl, _, hc⟩ := hx.cell hlt
      by_cases hbad : xs[k]?.getD 0 < lo ∨ hi < xs[k]?.getD 0
      · have hd : (decide (xs[k]?.getD 0 < lo) || decide (hi < xs[k]?.getD 0)) = true := by simpa using hbad
        go_wp2_with (go_at_call 91; refine (wclo64_any b1 b2 lo hi _ _ h1 h2).mono ?_; rintro e w' ⟨rfl, rfl⟩)
        go_ret
        refine ⟨_, rfl, rfl, ?_⟩
        rw [withinF_false (by rw [hx.len]; exact hlt) hbad]
        simp
      · have hd : (decide (xs[k]?.getD 0 < lo) || decide (hi < xs[k]?.getD 0)) = false := by simpa using hbad
        go_wp2_with (go_at_call 91; refine (wclo64_any b1 b2 lo hi _ _ h1 h2).mono ?_; rintro e w' ⟨rfl, rfl⟩)
        go_round
        case rel => exact ⟨k + 1, by omega, by go_num, fun j hj => by rcases Nat.lt_succ_iff_lt_or_eq.1 hj with h | rfl; exact Hall.out j h; omega⟩
        case measure => simp [intOf]; omega
    · go_wp2
      go_ret
      refine ⟨_, rfl, rfl, ?_⟩
      rw [withinF_true fun j hj => Hall.out j (by rw [hx.len] at hj; omega)]
      rfl

set_option maxHeartbeats 400000 in
theorem wcontains64_any (b1 b2 : Nat) (lo hi : Int) (w : World) (B : Nat) (A : Option Addr) (n c : Nat) (xs : List Int) (h1 : w.cell? ⟨b1, 0, none⟩ = some (.int .i64 lo)) (h2 : w.cell? ⟨b2, 0, none⟩ = some (.int .i64 hi)) (hx : IntsAt w B A n xs) :
    Calls Try.prog 90 #[.slice A n c, .func (.func 91) #[] #[.pointer (some ⟨b1, 0, none⟩), .pointer (some ⟨b2, 0, none⟩)]] w
      fun e w' => e = .returned (.bool (!withinF lo hi xs)) ∧ w' = w := by
  go_enter Try.func90, Try.ntmps90
  go_wp2_with (go_at_call 111; refine (windex64_any b1 b2 lo hi _ B _ _ _ xs h1 h2 hx).mono ?_; rintro e w' ⟨i, rfl, rfl, hi'⟩; have HI := Lib.hid hi'; clear hi')
  go_ret
  exact ⟨ret_bool HI.out, rfl⟩

set_option maxHeartbeats 400000 in
theorem within64_any (lo hi : Int) (w : World) (B : Nat) (A : Option Addr) (n c : Nat) (xs : List Int) (hx : IntsAt w B A n xs) (hB : B ≤ w.heap.size) :
    Calls Try.prog 62 #[.int .i64 lo, .int .i64 hi, .slice A n c] w fun e w' => e = .returned (.bool (withinF lo hi xs)) ∧ Below w.heap.size w w' := by
  go_enter Try.func62, Try.ntmps62
  have hx2 := (hx.alloc hB (.cells #[.int .i64 lo] 2)).alloc (by simp; omega) (.cells #[.int .i64 hi] 2)
  go_wp2_with (go_at_call 90; refine (wcontains64_any _ _ lo hi _ B _ _ _ xs (by simp) (by simp) hx2).mono ?_; rintro e w' ⟨rfl, rfl⟩)
  go_ret
  exact ⟨ret_bool (by simp), ((Below.refl _ _).alloc (Nat.le_refl _) _).alloc (by simp) _⟩


end Go.Proofs.Ytlgibckhkdggdaa

/- lag: IsSorted, CheckCurve, chains, rows' errors, Longs. -/
namespace Go.Proofs.Ytlgibckhkdggdaa
open Go.RowKit

theorem one_int (w : World) (B : Nat) (b : Nat) (x : Int) (hb : b < B) (h : w.cell? ⟨b, 0, none⟩ = some (.int .i64 x)) : IntsAt w B (some ⟨b, 0, none⟩) 1 [x] :=
  ⟨rfl, by omega, fun _ => ⟨b, 0, rfl, hb, fun j hj => by
    have h0 : j = 0 := by omega
    subst h0
    simpa using h⟩⟩
theorem within_one (lo hi x : Int) : withinF lo hi [x] = (decide (lo ≤ x) && decide (x ≤ hi)) := by simp [withinF]
theorem all_within {lo hi : Int} {xs : List Int} (h : withinF lo hi xs = true) : ∀ j, j < xs.length → lo ≤ xs[j]?.getD 0 ∧ xs[j]?.getD 0 ≤ hi := by
  intro j hj
  unfold withinF at h
  rw [List.all_eq_true] at h
  have := h xs[j] (List.getElem_mem hj)
  rw [List.getElem?_eq_getElem hj]
  simpa using this
theorem ints_ext {xs ys : List Int} (hl : xs.length = ys.length) (h : ∀ j, j < xs.length → xs[j]?.getD 0 = ys[j]?.getD 0) : xs = ys := by
  refine List.ext_getElem hl fun j h1 h2 => ?_
  have := h j h1
  rw [List.getElem?_eq_getElem h1, List.getElem?_eq_getElem h2] at this
  simpa using this

theorem isNaN_any (w : World) (x : Int) : Calls Try.prog 114 #[.int .i64 x] w fun e w' => e = .returned (.bool false) ∧ w' = w := by
  go_enter Try.func114, Try.ntmps114
  go_wp2
  go_ret
  exact ⟨rfl, rfl⟩
theorem cless_any (w : World) (x y : Int) : Calls Try.prog 103 #[.int .i64 x, .int .i64 y] w fun e w' => e = .returned (.bool (decide (x < y))) ∧ w' = w := by
  by_cases h : x < y
  · go_enter Try.func103, Try.ntmps103
    go_wp2_with (fail)
    refine (isNaN_any w x).mono ?_
    rintro e w2 ⟨rfl, rfl⟩
    go_wp2_with (fail)
    go_ret
    exact ⟨by simp [h], rfl⟩
  · go_enter Try.func103, Try.ntmps103
    go_wp2_with (fail)
    refine (isNaN_any w x).mono ?_
    rintro e w2 ⟨rfl, rfl⟩
    go_wp2_with (fail)
    go_ret
    exact ⟨by simp, rfl⟩

def sortedF (xs : List Int) : Bool := (List.range (xs.length - 1)).all fun i => decide (xs[i]?.getD 0 ≤ xs[i + 1]?.getD 0)
theorem sortedF_false {xs : List Int} {k : Nat} (hk : k + 1 < xs.length) (h : xs[k + 1]?.getD 0 < xs[k]?.getD 0) : sortedF xs = false := by
  unfold sortedF
  rw [List.all_eq_false]
  exact ⟨k, List.mem_range.2 (by omega), by simp; omega⟩
theorem sortedF_true {xs : List Int} (h : ∀ k, k + 1 < xs.length → xs[k]?.getD 0 ≤ xs[k + 1]?.getD 0) : sortedF xs = true := by
  unfold sortedF
  rw [List.all_eq_true]
  intro i hi
  have := h i (by have := List.mem_range.1 hi; omega)
  simpa using this
theorem sorted_at {xs : List Int} (h : sortedF xs = true) {k : Nat} (hk : k + 1 < xs.length) : xs[k]?.getD 0 ≤ xs[k + 1]?.getD 0 := by
  unfold sortedF at h
  have := (List.all_eq_true.1 h) k (List.mem_range.2 (by omega))
  simpa using this

set_option maxHeartbeats 1000000 in
theorem isSorted_any (w : World) (B : Nat) (A : Option Addr) (n c : Nat) (xs : List Int) (hx : IntsAt w B A n xs) :
    Calls Try.prog 70 #[.slice A n c] w fun e w' => e = .returned (.bool (sortedF xs)) ∧ ∃ q, w' = w.drewN q := by
  have hm := hx.small
  have hl := Lib.hid hx.len
  have hw0 : IntKind.i64.wrap ((n : Int) - 1) = (n : Int) - 1 := by rw [IntKind.wrap_i64]; omega
  go_enter Try.func70, Try.ntmps70
  go_wp2
  go_loopg [3] n (fun g v3 wr => ∃ (z : Int) (q : Nat), (-1 ≤ z ∧ z < n ∧ g = (z + 1).toNat ∧ v3 = .int .i64 z) ∧ Hid (wr = w.drewN q) ∧ IntsAt wr B A n xs ∧ ∀ j : Nat, z ≤ j → j + 1 < n → xs[j]?.getD 0 ≤ xs[j + 1]?.getD 0)
  case atStart => exact ⟨(n : Int) - 1, 0, ⟨by omega, by omega, by omega, rfl⟩, Lib.hid rfl, hx, fun j h1 h2 => by omega⟩
  case round =>
    obtain ⟨z, q, ⟨hz1, hz2, rfl, rfl⟩, hq, hr, hall⟩ := hrel
    have Hall := Lib.hid hall
    clear hall hx
    by_cases hz : 0 < z
    · obtain ⟨k, rfl⟩ : ∃ k : Nat, z = (k : Int) + 1 := ⟨(z - 1).toNat, by omega⟩
      obtain ⟨b, o, rfl, _, hc1⟩ := hr.cell (k := k + 1) (by omega)
      obtain ⟨b', o', e', _, hc2⟩ := hr.cell (k := k) (by omega)
      cases e'
      have hw1 : IntKind.i64.wrap ((k : Int) + 1 - 1) = (k : Int) := by rw [IntKind.wrap_i64]; omega
      have hk1 : ((k : Int) + 1).toNat = k + 1 := by omega
      have hk2 : ¬ (k : Int) + 1 < 0 := by omega
      have hk3 : ¬ (n : Int) ≤ (k : Int) + 1 := by omega
      have hk4 : ¬ (n : Int) ≤ (k : Int) := by omega
      have Hk := Lib.hid (show k + 1 < xs.length by rw [hl.out]; omega)
      go_wp2
      go_quiet ((go_at_call 103; exact Calls.quiet_of_same (cless_any _ _ _)))
      go_wp2
      · have hlt : xs[k + 1]?.getD 0 < xs[k]?.getD 0 := by assumption
        go_ret
        refine ⟨ret_bool (sortedF_false Hk.out hlt).symm, ?_⟩
        rw [hq.out]
        exact ⟨_, by simp only [World.drewN_drewN]; rfl⟩
      · have hle : xs[k]?.getD 0 ≤ xs[k + 1]?.getD 0 := by assumption
        have Hle := Lib.hid hle
        go_roundg (k + 1)
        case measure => omega
        case rel =>
          refine ⟨(k : Int), _, ⟨by omega, by omega, by omega, by simp⟩, Lib.hid (by rw [hq.out]; simp only [World.drewN_drewN]; rfl), hr.drewN _, fun j h1 h2 => ?_⟩
          by_cases hjk : j = k
          · subst hjk; exact Hle.out
          · exact Hall.out j (by omega) h2
    · have Hs := Lib.hid (sortedF_true (xs := xs) (fun k hk => Hall.out k (by omega) (by rw [hl.out] at hk; exact hk)))
      go_wp2
      go_ret
      exact ⟨ret_bool Hs.out.symm, _, hq.out⟩
end Go.Proofs.Ytlgibckhkdggdaa

/- lag: CheckCurve, checkChain, checkRows; Longs. -/
namespace Go.Proofs.Ytlgibckhkdggdaa
open Go.RowKit

def curveF (xs : List Int) : Int := if xs.length < 1 ∨ 6 < xs.length then 6 else if withinF 0 100 xs = false then 3 else if sortedF xs = false then 16 else 0
theorem below_drewN {D : Nat} (w : World) (q : Nat) : Below D w (w.drewN q) := ⟨rfl, rfl, rfl, Nat.le_refl _, fun _ _ => rfl⟩
theorem below_drew {D : Nat} (w : World) : Below D w w.drew := ⟨rfl, rfl, rfl, Nat.le_refl _, fun _ _ => rfl⟩

set_option maxHeartbeats 1000000 in
theorem checkCurve_any (w : World) (B : Nat) (A : Option Addr) (n c : Nat) (xs : List Int) (hx : IntsAt w B A n xs) (hB : B ≤ w.heap.size) :
    Calls Try.prog 26 #[.slice A n c] w fun e w' => e = .returned (.int .i64 (curveF xs)) ∧ Below w.heap.size w w' := by
  have hm := hx.small
  have hb0 : Below w.heap.size w (w.alloc (.cells #[.int .i64 (n : Int)] 2)) := (Below.refl _ w).alloc (Nat.le_refl _) _
  have ho := one_int (w.alloc (.cells #[.int .i64 (n : Int)] 2)) (w.heap.size + 1) w.heap.size (n : Int) (by omega) (by simp)
  have hwn : IntKind.i64.wrap (n : Int) = (n : Int) := by rw [IntKind.wrap_i64]; omega
  have Hl := Lib.hid hx.len
  go_enter Try.func26, Try.ntmps26
  go_wp2_with (fail)
  refine (within64_any 1 6 _ (w.heap.size + 1) _ _ _ [(n : Int)] ho (by simp)).mono ?_
  rintro e w2 ⟨rfl, hb2⟩
  have hB2 := hb0.trans (hb2.mono hb0.size)
  have hx2 := hx.below hB2 hB
  have hz2 := hB2.size
  clear ho hb0 hb2
  by_cases hn : n < 1 ∨ 6 < n
  · have hw : withinF 1 6 [(n : Int)] = false := by rw [within_one]; simp; omega
    have Hr := Lib.hid (show curveF xs = 6 by unfold curveF; rw [if_pos (by rw [Hl.out]; exact hn)])
    clear hn
    go_wp2_with (fail)
    go_ret
    exact ⟨ret_int Hr.out.symm, hB2⟩
  have hw : withinF 1 6 [(n : Int)] = true := by rw [within_one]; simp; omega
  have Hn := Lib.hid (show ¬ (xs.length < 1 ∨ 6 < xs.length) by rw [Hl.out]; exact hn)
  clear hn
  go_wp2_with (fail)
  refine (within64_any 0 100 _ B _ _ _ xs hx2 (by omega)).mono ?_
  rintro e w3 ⟨rfl, hb3⟩
  have hB3 := hB2.trans (hb3.mono hz2)
  have hx3 := hx.below hB3 hB
  have hz3 := hB3.size
  clear hb3 hw
  cases hin : withinF 0 100 xs
  · have Hr := Lib.hid (show curveF xs = 3 by unfold curveF; rw [if_neg Hn.out, if_pos hin])
    clear hin
    go_wp2_with (fail)
    go_ret
    exact ⟨ret_int Hr.out.symm, hB3⟩
  have Hin := Lib.hid hin
  clear hin
  go_wp2_with (fail)
  refine (isSorted_any _ B _ _ _ xs hx3).mono ?_
  rintro e w4 ⟨rfl, q, rfl⟩
  have hB4 := hB3.trans (below_drewN w3 q)
  cases hs : sortedF xs
  · have Hr := Lib.hid (show curveF xs = 16 by unfold curveF; rw [if_neg Hn.out, if_neg (by rw [Hin.out]; simp), if_pos hs])
    clear hs
    go_wp2_with (fail)
    go_ret
    exact ⟨ret_int Hr.out.symm, hB4⟩
  · have Hr := Lib.hid (show curveF xs = 0 by unfold curveF; rw [if_neg Hn.out, if_neg (by rw [Hin.out]; simp), if_neg (by rw [hs]; simp)])
    clear hs
    go_wp2_with (fail)
    go_ret
    exact ⟨ret_int Hr.out.symm, hB4⟩

/-! ### several lists -/
def RowsAt (w : World) (B : Nat) (A : Option Addr) (k : Nat) (css : List (List Int)) : Prop :=
  css.length = k ∧ k ≤ 9223372036854775807 ∧ (0 < k → ∃ b off, A = some ⟨b, off, none⟩ ∧ b < B ∧ ∀ (j : Nat) (cs : List Int), css[j]? = some cs → ∃ A' m c, w.cell? ⟨b, off + j, none⟩ = some (.slice A' m c) ∧ IntsAt w B A' m cs)
theorem RowsAt.below {w w' : World} {B D : Nat} {A : Option Addr} {k : Nat} {css : List (List Int)} (h : RowsAt w B A k css) (hb : Below D w w') (hD : B ≤ D) : RowsAt w' B A k css := by
  refine ⟨h.1, h.2.1, fun h0 => ?_⟩
  obtain ⟨b, off, e, hB, hs⟩ := h.2.2 h0
  refine ⟨b, off, e, hB, fun j cs hj => ?_⟩
  obtain ⟨A', m, c, h1, h2⟩ := hs j cs hj
  exact ⟨A', m, c, (hb.cell (p := ⟨b, off + j, none⟩) (show b < D by omega)).trans h1, h2.below hb hD⟩
theorem RowsAt.more {w : World} {B B' : Nat} {A : Option Addr} {k : Nat} {css : List (List Int)} (h : RowsAt w B A k css) (hB : B ≤ B') : RowsAt w B' A k css := by
  refine ⟨h.1, h.2.1, fun h0 => ?_⟩
  obtain ⟨b, off, e, hb, hs⟩ := h.2.2 h0
  refine ⟨b, off, e, by omega, fun j cs hj => ?_⟩
  obtain ⟨A', m, c, h1, h2⟩ := hs j cs hj
  exact ⟨A', m, c, h1, h2.more hB⟩
theorem RowsAt.at {w : World} {B : Nat} {A : Option Addr} {k : Nat} {css : List (List Int)} (h : RowsAt w B A k css) {j : Nat} (hj : j < k) :
    ∃ b off cs A' m c, A = some ⟨b, off, none⟩ ∧ b < B ∧ css[j]? = some cs ∧ w.cell? ⟨b, off + j, none⟩ = some (.slice A' m c) ∧ IntsAt w B A' m cs := by
  obtain ⟨b, off, e, hb, hs⟩ := h.2.2 (by omega)
  obtain ⟨cs, hcs⟩ : ∃ cs, css[j]? = some cs := ⟨_, List.getElem?_eq_getElem (by rw [h.1]; exact hj)⟩
  obtain ⟨A', m, c, h1, h2⟩ := hs j cs hcs
  exact ⟨b, off, cs, A', m, c, e, hb, hcs, h1, h2⟩
/-- The error of the first one that has one. -/
def firstE (f : List Int → Int) : List (List Int) → Int
  | [] => 0
  | c :: cs => if f c ≠ 0 then f c else firstE f cs
theorem firstE_at {f : List Int → Int} : ∀ {css : List (List Int)} {j : Nat} {cs : List Int}, (∀ i x, i < j → css[i]? = some x → f x = 0) → css[j]? = some cs → f cs ≠ 0 → firstE f css = f cs
  | [], j, cs, _, h, _ => by simp at h
  | c :: l, 0, cs, _, h, hf => by
    obtain rfl : c = cs := by simpa using h
    rw [firstE, if_pos hf]
  | c :: l, j + 1, cs, h0, h, hf => by
    rw [firstE, if_neg (by rw [h0 0 c (by omega) (by simp)]; simp)]
    exact firstE_at (j := j) (fun i x hi hx => h0 (i + 1) x (by omega) (by simpa using hx)) (by simpa using h) hf
theorem firstE_all {f : List Int → Int} : ∀ {css : List (List Int)}, (∀ i x, i < css.length → css[i]? = some x → f x = 0) → firstE f css = 0
  | [], _ => rfl
  | c :: l, h0 => by
    rw [firstE, if_neg (by rw [h0 0 c (by simp) (by simp)]; simp)]
    exact firstE_all fun i x hi hx => h0 (i + 1) x (by simpa using hi) (by simpa using hx)
def chainF (css : List (List Int)) : Int := if css.length < 1 ∨ 3 < css.length then 6 else firstE curveF css
def rowF (xs : List Int) : Int := if 60 < xs.length then 6 else if withinF 0 10000 xs = false then 3 else 0

set_option maxHeartbeats 1000000 in
theorem checkChain_any (w : World) (B : Nat) (A : Option Addr) (k c : Nat) (css : List (List Int)) (hx : RowsAt w B A k css) (hB : B ≤ w.heap.size) :
    Calls Try.prog 65 #[.slice A k c] w fun e w' => e = .returned (.int .i64 (chainF css)) ∧ Below w.heap.size w w' := by
  have hm := hx.2.1
  have hb0 : Below w.heap.size w (w.alloc (.cells #[.int .i64 (k : Int)] 2)) := (Below.refl _ w).alloc (Nat.le_refl _) _
  have ho := one_int (w.alloc (.cells #[.int .i64 (k : Int)] 2)) (w.heap.size + 1) w.heap.size (k : Int) (by omega) (by simp)
  have hwn : IntKind.i64.wrap (k : Int) = (k : Int) := by rw [IntKind.wrap_i64]; omega
  have Hl := Lib.hid hx.1
  go_enter Try.func65, Try.ntmps65
  go_wp2_with (fail)
  refine (within64_any 1 3 _ (w.heap.size + 1) _ _ _ [(k : Int)] ho (by simp)).mono ?_
  rintro e w2 ⟨rfl, hb2⟩
  have hB2 := hb0.trans (hb2.mono hb0.size)
  clear ho hb0 hb2
  by_cases hn : k < 1 ∨ 3 < k
  · have hw : withinF 1 3 [(k : Int)] = false := by rw [within_one]; simp; omega
    have Hr := Lib.hid (show chainF css = 6 by unfold chainF; rw [if_pos (by rw [Hl.out]; exact hn)])
    clear hn
    go_wp2_with (fail)
    go_ret
    exact ⟨ret_int Hr.out.symm, hB2⟩
  have hw : withinF 1 3 [(k : Int)] = true := by rw [within_one]; simp; omega
  have Hn := Lib.hid (show chainF css = firstE curveF css by unfold chainF; rw [if_neg (by rw [Hl.out]; exact hn)])
  clear hn
  go_wp2_with (fail)
  go_loopg [13] k (fun g v13 wr => ∃ j : Nat, (j ≤ k ∧ g = k - j ∧ v13 = .int .i64 (j : Int)) ∧ (∀ i x, i < j → css[i]? = some x → curveF x = 0) ∧ Below w.heap.size w wr)
  case atStart => exact ⟨0, ⟨Nat.zero_le _, rfl, rfl⟩, fun i x h => by omega, hB2⟩
  case round =>
    obtain ⟨j, ⟨hjk, rfl, rfl⟩, hall, hBr⟩ := hrel
    have Hall := Lib.hid hall
    clear hall
    have hz := hBr.size
    by_cases hj : j < k
    · obtain ⟨b, off, cs, A', m, c', rfl, hb, hcs, hcell, hi⟩ := (hx.below hBr hB).at hj
      have Hcs := Lib.hid hcs
      clear hcs
      have hwj : IntKind.i64.wrap ((j : Int) + 1) = (j : Int) + 1 := by rw [IntKind.wrap_i64]; omega
      go_wp2_with (fail)
      refine (checkCurve_any wr B A' m c' cs hi (by omega)).mono ?_
      rintro e w3 ⟨rfl, hb3⟩
      have hB3 := hBr.trans (hb3.mono hz)
      obtain ⟨r, hr⟩ : ∃ r, r = curveF cs := ⟨_, rfl⟩
      rw [← hr]
      by_cases hr0 : r = 0
      · subst hr0
        have Hr := Lib.hid hr
        clear hr
        go_wp2_with (fail)
        go_roundg (k - (j + 1))
        case measure => omega
        case rel =>
          refine ⟨j + 1, ⟨hj, rfl, by simp⟩, fun i x hi' hx' => ?_, hB3⟩
          rcases Nat.lt_succ_iff_lt_or_eq.1 hi' with h | rfl
          · exact Hall.out i x h hx'
          · rw [Hcs.out] at hx'
            cases hx'
            exact Hr.out.symm
      · have hne : (r != 0) = true := by simp [hr0]
        have Hr := Lib.hid (show firstE curveF css = r by rw [hr]; exact firstE_at Hall.out Hcs.out (by rw [← hr]; exact hr0))
        clear hr hr0
        go_wp2_with (fail)
        go_ret
        exact ⟨ret_int (by rw [Hn.out, Hr.out]), hB3⟩
    · have Hr := Lib.hid (show firstE curveF css = 0 from firstE_all fun i x hi' hx' => Hall.out i x (by rw [Hl.out] at hi'; omega) hx')
      go_wp2_with (fail)
      go_ret
      exact ⟨ret_int (by rw [Hn.out, Hr.out]), hBr⟩

set_option maxHeartbeats 1000000 in
theorem checkRows_any (w : World) (B : Nat) (A : Option Addr) (k c : Nat) (css : List (List Int)) (hx : RowsAt w B A k css) (hB : B ≤ w.heap.size) :
    Calls Try.prog 71 #[.slice A k c] w fun e w' => e = .returned (.int .i64 (firstE rowF css)) ∧ Below w.heap.size w w' := by
  have hm := hx.2.1
  have Hl := Lib.hid hx.1
  have hb0 := Below.refl w.heap.size w
  go_enter Try.func71, Try.ntmps71
  go_wp2_with (fail)
  go_loopg [7] k (fun g v7 wr => ∃ j : Nat, (j ≤ k ∧ g = k - j ∧ v7 = .int .i64 (j : Int)) ∧ (∀ i x, i < j → css[i]? = some x → rowF x = 0) ∧ Below w.heap.size w wr)
  case atStart => exact ⟨0, ⟨Nat.zero_le _, rfl, rfl⟩, fun i x h => by omega, hb0⟩
  case round =>
    clear hb0
    obtain ⟨j, ⟨hjk, rfl, rfl⟩, hall, hBr⟩ := hrel
    have Hall := Lib.hid hall
    clear hall
    have hz := hBr.size
    by_cases hj : j < k
    · obtain ⟨b, off, cs, A', m, c', rfl, hb, hcs, hcell, hi⟩ := (hx.below hBr hB).at hj
      have hml := hi.len
      have Hcs := Lib.hid (And.intro hcs hml)
      clear hcs hml
      have hwj : IntKind.i64.wrap ((j : Int) + 1) = (j : Int) + 1 := by rw [IntKind.wrap_i64]; omega
      by_cases hlong : 60 < m
      · have Hr := Lib.hid (show firstE rowF css = 6 by
          have e : rowF cs = 6 := by unfold rowF; rw [if_pos (by rw [Hcs.out.2]; exact hlong)]
          rw [firstE_at Hall.out Hcs.out.1 (by rw [e]; decide), e])
        have hl60 : (60 : Int) < (m : Int) := by omega
        clear hlong
        go_wp2_with (fail)
        go_ret
        exact ⟨ret_int Hr.out.symm, hBr⟩
      have Hlong := Lib.hid (show ¬ 60 < cs.length by rw [Hcs.out.2]; exact hlong)
      have hl60 : ¬ (60 : Int) < (m : Int) := by omega
      go_wp2_with (fail)
      refine (within64_any 0 10000 wr B A' m c' cs hi (by omega)).mono ?_
      rintro e w3 ⟨rfl, hb3⟩
      have hB3 := hBr.trans (hb3.mono hz)
      obtain ⟨r, hr⟩ : ∃ r, r = withinF 0 10000 cs := ⟨_, rfl⟩
      rw [← hr]
      cases r with
      | true =>
        have Hr := Lib.hid (show rowF cs = 0 by unfold rowF; rw [if_neg Hlong.out, if_neg (by rw [← hr]; simp)])
        clear hr
        go_wp2_with (fail)
        go_roundg (k - (j + 1))
        case measure => omega
        case rel =>
          refine ⟨j + 1, ⟨hj, rfl, by simp⟩, fun i x hi' hx' => ?_, hB3⟩
          rcases Nat.lt_succ_iff_lt_or_eq.1 hi' with h | rfl
          · exact Hall.out i x h hx'
          · rw [Hcs.out.1] at hx'
            cases hx'
            exact Hr.out
      | false =>
        have Hr := Lib.hid (show firstE rowF css = 3 by
          have e : rowF cs = 3 := by unfold rowF; rw [if_neg Hlong.out, if_pos hr.symm]
          rw [firstE_at Hall.out Hcs.out.1 (by rw [e]; decide), e])
        clear hr
        go_wp2_with (fail)
        go_ret
        exact ⟨ret_int Hr.out.symm, hB3⟩
    · have Hr := Lib.hid (show firstE rowF css = 0 from firstE_all fun i x hi' hx' => Hall.out i x (by rw [Hl.out] at hi'; omega) hx')
      go_wp2_with (fail)
      go_ret
      exact ⟨ret_int Hr.out.symm, hBr⟩

set_option maxHeartbeats 400000 in
theorem longs_any (w : World) (B1 B2 : Nat) (A1 A2 : Option Addr) (n m c1 c2 : Nat) (xs ys : List Int) (h1 : IntsAt w B1 A1 n xs) (h2 : IntsAt w B2 A2 m ys) :
    Calls Try.prog 33 #[.slice A1 n c1, .slice A2 m c2] w fun e w' => e = .returned (.bool (decide (xs = ys))) ∧ ∃ q, w' = w.drewN q := by
  have hm := h1.small
  have hm2 := h2.small
  by_cases hnm : n = m
  · subst hnm
    go_enter Try.func33, Try.ntmps33
    go_wp2
    go_loopw [5] (fun i wr => ∃ k q : Nat, k ≤ n ∧ i = .int .i64 k ∧ wr = w.drewN q ∧ ∀ j, j < k → xs[j]?.getD 0 = ys[j]?.getD 0) (fun i _ => n - (intOf i).toNat)
    case atStart => exact ⟨0, 0, by omega, rfl, rfl, fun j hj => by omega⟩
    case round =>
      obtain ⟨k, q, hk, rfl, rfl, hall⟩ := hrel
      have Hall := Lib.hid hall
      clear hall
      by_cases hlt : k < n
      · obtain ⟨b1, o1, rfl, _, hc1⟩ := h1.cell hlt
        obtain ⟨b2, o2, rfl, _, hc2⟩ := h2.cell hlt
        by_cases hq : xs[k]?.getD 0 = ys[k]?.getD 0
        · have hb : (xs[k]?.getD 0 != ys[k]?.getD 0) = false := by simp [hq]
          have Hq := Lib.hid hq
          clear hq
          go_wp2
          go_quiet (fail)
          go_wp2
          go_roundw
          case rel => exact ⟨k + 1, _, by omega, by go_num, rfl, fun j hj => by rcases Nat.lt_succ_iff_lt_or_eq.1 hj with h | rfl; exact Hall.out j h; exact Hq.out⟩
          case measure => simp [intOf]; omega
        · have hb : (xs[k]?.getD 0 != ys[k]?.getD 0) = true := by simp [hq]
          go_wp2
          go_quiet (fail)
          go_wp2
          go_ret
          exact ⟨ret_bool (by symm; rw [decide_eq_false_iff_not]; rintro rfl; exact hq rfl), _, World.drewN_drewN _ _ _⟩
      · go_wp2
        go_ret
        exact ⟨ret_bool (by symm; rw [decide_eq_true_iff]; exact ints_ext (by rw [h1.len, h2.len]) fun j hj => Hall.out j (by rw [h1.len] at hj; omega)), _, rfl⟩
  · have hb : ((n : Int) != (m : Int)) = true := by rw [bne_iff_ne]; omega
    go_enter Try.func33, Try.ntmps33
    go_wp2
    go_ret
    exact ⟨ret_bool (by symm; rw [decide_eq_false_iff_not]; rintro rfl; exact hnm (by rw [← h1.len, h2.len])), 0, rfl⟩
end Go.Proofs.Ytlgibckhkdggdaa

/- lag: iterators. Who may turn what while an iterator goes on; cuts, between, slices.Values. -/
namespace Go.Proofs.Ytlgibckhkdggdaa
open Go.RowKit Go.Shelf

attribute [local go_sem] Oper.semAt_some

theorem KeepsFrom.of_below {B : Nat} {W W' : World} (h : Below W.heap.size W W') : KeepsFrom B W W' :=
  ⟨h.size, fun k _ _ hk _ => (h.block k (Array.getElem?_eq_some_iff.1 hk).1).trans hk⟩

theorem bxBelow {W W' : World} {B D : Nat} {t : TypeId} {v : Value} (h : Boxed W B t v) (hb : Below D W W') (hD : B < D) : Boxed W' B t v := (hb.block B hD).trans h
theorem bxDrew {W : World} {B : Nat} {t : TypeId} {v : Value} (h : Boxed W B t v) : Boxed W.drew B t v := h
theorem bxOwn {W W' : World} {row : Option Nat} {B : Nat} {t : TypeId} {v : Value} (h : Boxed W B t v) (hg : W.grownBy W' row) (hr : ∀ r, row = some r → ∃ o : Obj, W.heap[r]? = some o ∧ o.isCells = false) : Boxed W' B t v :=
  h.kept hg (fun e => by
    obtain ⟨o, ho, hc⟩ := hr B e.symm
    have h' : W.heap[B]? = some (.cells #[v] t (0, 0)) := h
    rw [ho] at h'
    cases h'
    cases hc)
theorem bxPut {W : World} {D B : Nat} {t : TypeId} {v : Value} (h : Boxed W B t v) (hD : W.heap[D]? = some (.deferred (some []))) : Boxed (W.putObj D (.deferred none)) B t v :=
  bxOwn h (grownBy_putObj' _ D (.deferred none)) (fun r e => by cases e; exact ⟨_, hD, rfl⟩)

theorem below_put {w0 W : World} {D : Nat} (hb : Below w0.heap.size w0 W) (h : W.heap[D]? = some (.deferred (some []))) (hD : w0.heap.size ≤ D) : Below w0.heap.size w0 (W.putObj D (.deferred none)) :=
  hb.trans (belowK_b (w := w0) (Nat.le_refl _) W D _ _ hD h rfl rfl)

/-- From W to W' only blocks of X have been turned, or such as hold no cells and lie at or beyond B. -/
structure St (B : Nat) (X : Nat → Prop) (W W' : World) : Prop where
  base : Below 0 W W'
  same : ∀ k o, W.heap[k]? = some o → ¬ X k → (o.isCells = true ∨ k < B) → W'.heap[k]? = some o
def Grows (X X' : Nat → Prop) (W : World) : Prop := (∀ k, X k → X' k) ∧ ∀ k, X' k → X k ∨ W.heap.size ≤ k
def Stable {α : Type} (B : Nat) (J : List α → (Nat → Prop) → World → Prop) : Prop := ∀ pre X X' W W', J pre X W → St B X W W' → Grows X X' W → J pre X' W'
/-- A round leaves the iterator's blocks, and the protected ones, as they are. -/
structure Keep (n₀ : Nat) (C X : Nat → Prop) (W W' : World) : Prop where
  below : Below n₀ W W'
  same : ∀ k o, W.heap[k]? = some o → (X k ∨ C k) → W'.heap[k]? = some o
def noBlock : Nat → Prop := fun _ => False

section
variable {α : Type} {B n₀ : Nat} {C X X' : Nat → Prop} {W W' W'' : World}
theorem Grows.refl (X : Nat → Prop) (W : World) : Grows X X W := ⟨fun _ h => h, fun _ h => .inl h⟩
theorem Keep.refl (W : World) : Keep n₀ C X W W := ⟨Below.refl _ _, fun _ _ h _ => h⟩
theorem Keep.trans (h : Keep n₀ C X W W') (k : Keep n₀ C X W' W'') : Keep n₀ C X W W'' := ⟨h.below.trans k.below, fun i o hi hc => k.same i o (h.same i o hi hc) hc⟩
theorem Keep.of_below (h : Below W.heap.size W W') (hn : n₀ ≤ W.heap.size) : Keep n₀ C X W W' := ⟨h.mono hn, fun k _ hk _ => (h.block k (Array.getElem?_eq_some_iff.1 hk).1).trans hk⟩
theorem Keep.setCell {b : Nat} (hn : n₀ ≤ b) (hX : ¬ X b) (hC : ¬ C b) (o : Nat) (u : Value) : Keep n₀ C X W (W.setCell ⟨b, o, none⟩ u) :=
  ⟨(Below.refl _ _).setCell (p := ⟨b, o, none⟩) hn _, fun k v hk hc => (Below.heap_setCell W ⟨b, o, none⟩ u k (by rintro rfl; rcases hc with h | h; exact hX h; exact hC h)).trans hk⟩
theorem Keep.putObj {b : Nat} {o : Obj} (hn : n₀ ≤ b) (hX : ¬ X b) (hC : ¬ C b) (hb : b < W.heap.size) : Keep n₀ C X W (W.putObj b o) :=
  ⟨(Below.refl _ _).grown (grownBy_putObj' W b o) (by omega) (fun k e => by cases e; exact hn), fun k v hk hc => (World.putObj_heap_other (by rintro rfl; rcases hc with h | h; exact hX h; exact hC h)).trans hk⟩
theorem St.of_below (h : Below W.heap.size W W') : St B X W W' := ⟨h.mono (Nat.zero_le _), fun k _ hk _ _ => (h.block k (Array.getElem?_eq_some_iff.1 hk).1).trans hk⟩
theorem St.refl (W : World) : St B X W W := St.of_below (Below.refl _ _)
theorem St.alloc (W : World) (o : Obj) : St B X W (W.alloc o) := St.of_below ((Below.refl _ _).alloc (Nat.le_refl _) _)
theorem St.putObj {l : Nat} {o o' : Obj} (hl : W.heap[l]? = some o) (ho : o.isCells = false) (hB : B ≤ l) : St B X W (W.putObj l o') :=
  ⟨(Below.refl 0 W).grown (grownBy_putObj' W l o') (Nat.zero_le _) (fun _ _ => Nat.zero_le _), fun k v hk _ hc => by
    by_cases hkl : k = l
    · subst hkl
      rw [hl] at hk
      cases hk
      rcases hc with h | h
      · rw [ho] at h; cases h
      · omega
    · exact (World.putObj_heap_other hkl).trans hk⟩
theorem St.mono {B' : Nat} (h : St B X W W') (hB : B' ≤ B) : St B' X W W' := ⟨h.base, fun k o hk hX hc => h.same k o hk hX (hc.imp id (fun h => by omega))⟩
theorem Stable.put {J : List α → (Nat → Prop) → World → Prop} (h : Stable B J) {pre : List α} {l : Nat} {o : Obj} (o' : Obj) (hs : J pre X W) (hB : B ≤ l) (hl : W.heap[l]? = some o) (ho : o.isCells = false) : J pre X (W.putObj l o') :=
  h _ _ _ _ _ hs (St.putObj hl ho hB) (Grows.refl _ _)
end

def IterAt {α : Type} (P : Program) (g : Nat) (lb : Array Value) (encs : α → Array Value) (n₀ : Nat) (C : Nat → Prop) (S Sp : List α → Prop) (N : Nat) (w0 : World) : Prop :=
  ∀ (l : Nat) (J Jx : List α → (Nat → Prop) → World → Prop) (W : World), Below w0.heap.size w0 W → Stable W.heap.size J → Stable W.heap.size Jx →
    (∀ pre x X W1, J pre X W1 → W.heap.size ≤ W1.heap.size → (∀ k, X k → k < W1.heap.size) → pre.length < N → YieldAt Fence.wide 1 P l (encs x) W1 fun e W' =>
      ((e = .returned (.bool true) ∧ J (pre ++ [x]) X W') ∨ (e = .returned (.bool false) ∧ Jx (pre ++ [x]) X W')) ∧ Keep n₀ C X W1 W' ∧ KeepsFrom W.heap.size W1 W') →
    J [] noBlock W →
    Calls P g (#[.func (.yield l) #[] #[]] ++ lb) W fun e W' => (∃ v, e = .returned v) ∧ ∃ X, (∃ xs, S xs ∧ J xs X W') ∨ (∃ pre, Sp pre ∧ Jx pre X W')

def itPost {α : Type} (B n₀ : Nat) (C X : Nat → Prop) (I : List α → (Nat → Prop) → World → Prop) (Ix : Code → List α → (Nat → Prop) → World → Prop) (xs : List α) (W : World) : Exit → Act → World → Prop
  | .normal, _, W' => KeepsFrom B W W' ∧ Keep n₀ C X W W' ∧ I xs X W'
  | .ret, _, W' => KeepsFrom B W W' ∧ Keep n₀ C X W W' ∧ Ix .ret xs X W'
  | .exit id, _, W' => KeepsFrom B W W' ∧ Keep n₀ C X W W' ∧ Ix (.exit id) xs X W'
  | .goto t, _, W' => KeepsFrom B W W' ∧ Keep n₀ C X W W' ∧ Ix (.goto t) xs X W'
  | .panic _, _, _ => False
  | .outgrown, _, _ => False

theorem KeepsFrom.up {B B' : Nat} {W W' : World} (h : KeepsFrom B W W') (hB : B ≤ B') : KeepsFrom B' W W' := ⟨h.size, fun k o hk => h.same k o (by omega)⟩
theorem KeepsFrom.put {B : Nat} {W : World} {l : Nat} {o : Obj} (hl : l < B) : KeepsFrom B W (W.putObj l o) := ⟨by simp, fun k v hk h _ => (World.putObj_heap_other (by omega)).trans h⟩

set_option maxHeartbeats 1000000 in
theorem range_iter {α : Type} {P : Program} {g : Operand} {ps : Array Tmp} {assign body : Code} {Q : Exit → Act → World → Prop} {a : Act} {w : World} {gf : Nat} {lb : Array Value}
    (hg : a.eval g = .func (.func gf) #[] lb) (eg : ∀ args w, (callFunc gf args).run P w = .ok (.enter gf args) w)
    {encs : α → Array Value} {n₀ : Nat} {C : Nat → Prop} {S Sp : List α → Prop} {N : Nat} {w0 : World} (hseq : IterAt P gf lb encs n₀ C S Sp N w0)
    (hb0 : Below w0.heap.size w0 w) (hC : ∀ k, C k → k < w.heap.size) (hn₀ : n₀ ≤ w.heap.size) (hps : ∀ x, (encs x).size = ps.size)
    (I : List α → (Nat → Prop) → World → Prop) (Ix : Code → List α → (Nat → Prop) → World → Prop) (hI : Stable w.heap.size I) (hIx : ∀ c, Stable w.heap.size (Ix c)) (h0 : I [] noBlock w)
    (Ax : α → Act → World → Prop) (hAx : ∀ x a' W W', Ax x a' W → St w.heap.size noBlock W W' → Ax x a' W')
    (hassign : ∀ (l : Nat) (pre : List α) (x : α) (X : Nat → Prop) (W : World) (K : Act → World → Prop), I pre X W → w.heap.size ≤ W.heap.size → (∀ k, X k → w.heap.size ≤ k ∧ k < W.heap.size) → (∀ a' W', Keep n₀ C X W W' → KeepsFrom w.heap.size W W' → I pre X W' → Ax x a' W' → K a' W') →
      assign.wpIn (Fence.wide.inRound l) 1 P (Exit.then K (fun _ _ _ => False)) { tmps := (ps.zip (encs x)).foldl (fun t (p, v) => t.setIfInBounds p v) a.tmps, defers := [] } W)
    (hbody : ∀ (l : Nat) (pre : List α) (x : α) (X : Nat → Prop) (a' : Act) (W : World), I pre X W → Ax x a' W → w.heap.size ≤ W.heap.size → (∀ k, X k → w.heap.size ≤ k ∧ k < W.heap.size) → pre.length < N → body.wpIn (Fence.wide.inRound l) 1 P (itPost w.heap.size n₀ C X I Ix (pre ++ [x]) W) a' W)
    (hdone : ∀ (D : Nat) (xs : List α) (X : Nat → Prop) (W : World), w.heap.size ≤ D → S xs → I xs X W → W.heap[D]? = some (.deferred (some [])) → Q .normal { a with defers := { target := .collected D, args := #[] } :: a.defers } W)
    (hstop : ∀ (D : Nat) (c : Code) (pre : List α) (X : Nat → Prop) (W : World), w.heap.size ≤ D → Sp pre → Ix c pre X W → W.heap[D]? = some (.deferred (some [])) → c.wpIn Fence.wide 3 P Q { a with defers := { target := .collected D, args := #[] } :: a.defers } W) :
    (Code.rangeFunc g ps assign body).wpIn Fence.wide 3 P Q a w := by
  refine wpIn_rangeFunc ?_
  intro fn _
  obtain ⟨rec, hrec⟩ : ∃ rec : LoopState → Option Code → Loop, rec = fun st pe => { state := st, pending := pe, fn, tmps := a.tmps, params := ps, assign, body, defers := w.heap.size } := ⟨_, rfl⟩
  obtain ⟨W1, hW1⟩ : ∃ W1, (w.alloc (.deferred (some []))).alloc (.loop (rec .ready none)) = W1 := ⟨_, rfl⟩
  have hs1 : W1.heap.size = w.heap.size + 2 := by rw [← hW1]; simp
  have hL1 : W1.heap[w.heap.size + 1]? = some (.loop (rec .ready none)) := by
    rw [← hW1]; have := World.alloc_heap_new (w.alloc (.deferred (some []))) (.loop (rec .ready none)); rwa [World.size_alloc] at this
  have hK1 : W1.heap[w.heap.size]? = some (.deferred (some [])) := by
    rw [← hW1]; exact (Below.heap_alloc _ _ _ (by simp)).trans (World.alloc_heap_new w _)
  have hI1 : I [] noBlock W1 := by
    rw [← hW1]
    exact hI _ _ _ _ _ (hI _ _ _ _ _ h0 (St.alloc _ _) (Grows.refl _ _)) (St.alloc _ _) (Grows.refl _ _)
  have hb1 : Below w0.heap.size w0 W1 := by
    rw [← hW1]; exact hb0.trans ((((Below.refl _ w).alloc (Nat.le_refl _) _).alloc (by simp) _).mono hb0.size)
  refine ⟨w.heap.size + 1, [{ target := .collected w.heap.size, args := #[] }], W1, { target := .fn (.func gf) lb, args := #[.func (.yield (w.heap.size + 1)) #[] #[]] }, W1, gf,
    #[.func (.yield (w.heap.size + 1)) #[] #[]] ++ lb, W1, ?_, ?_, ?_, ?_, fun _ => by omega, ?_⟩
  · rw [← hW1, hrec]; exact run_enterLoop_outer _ _ _ _ _
  · simp only [resolve, hg]
    simp [go_sem]
  · intro f' _; trivial
  · simp [invoke, go_sem, eg]
  · refine callsIn_wide.2 ((hseq (w.heap.size + 1)
      (fun pre X W => W1.heap.size ≤ W.heap.size ∧ I pre X W ∧ (∀ k, X k → W1.heap.size ≤ k) ∧ W.heap[w.heap.size + 1]? = some (.loop (rec .ready none)) ∧ W.heap[w.heap.size]? = some (.deferred (some [])))
      (fun pre X W => ∃ c, W1.heap.size ≤ W.heap.size ∧ Ix c pre X W ∧ W.heap[w.heap.size + 1]? = some (.loop (rec .done (some c))) ∧ W.heap[w.heap.size]? = some (.deferred (some [])) ∧ (∀ k, X k → W1.heap.size ≤ k))
      W1 hb1 ?_ ?_ ?_ ⟨Nat.le_refl _, hI1, fun _ h => h.elim, hL1, hK1⟩).mono ?_)
    · rintro pre X X' A B ⟨hz, hi, hx, hl, hk⟩ hst hgr
      have hz' := hst.base.size
      refine ⟨by omega, hI _ _ _ _ _ hi (hst.mono (by omega)) hgr, ?_, hst.same _ _ hl (fun h => by have := hx _ h; omega) (.inr (by omega)), hst.same _ _ hk (fun h => by have := hx _ h; omega) (.inr (by omega))⟩
      intro k h
      rcases hgr.2 k h with h | h
      · exact hx k h
      · omega
    · rintro pre X X' A B ⟨c, hz, hi, hl, hk, hx⟩ hst hgr
      have hz' := hst.base.size
      refine ⟨c, by omega, hIx c _ _ _ _ _ hi (hst.mono (by omega)) hgr, hst.same _ _ hl (fun h => by have := hx _ h; omega) (.inr (by omega)), hst.same _ _ hk (fun h => by have := hx _ h; omega) (.inr (by omega)), ?_⟩
      intro k h
      rcases hgr.2 k h with h | h
      · exact hx k h
      · omega
    · rintro pre x X W ⟨hz, hi, hx, hl, hk⟩ hsz hup hlen
      have hy := run_yield (P := P) (args := encs x) hl (by rw [hrec]; exact hps x)
      rw [hrec] at hy
      have hxw : ∀ k, X k → w.heap.size ≤ k ∧ k < W.heap.size := fun k h => ⟨by have := hx k h; omega, hup k h⟩
      have hXl : ¬ X (w.heap.size + 1) := fun h => by have := hx _ h; omega
      have hCl : ¬ C (w.heap.size + 1) := fun h => by have := hC _ h; omega
      refine ⟨fn, _, assign, body, hy, roundIn_of_wpIn trivial (hassign _ pre x X W _ hi (by omega) hxw ?_)⟩
      clear hy
      intro a' Wa hka hfa hia hax
      have hla := hfa.same _ _ (by omega) hl rfl
      have hda := hfa.same _ _ (Nat.le_refl _) hk rfl
      have hlta : w.heap.size + 1 < Wa.heap.size := (Array.getElem?_eq_some_iff.1 hla).1
      refine ⟨_, run_beginRound hla (by rw [hrec]), ?_⟩
      obtain ⟨Wb, hWb⟩ : ∃ Wb, Wb = Wa.putObj (w.heap.size + 1) (.loop { rec .ready none with state := .busy }) := ⟨_, rfl⟩
      rw [← hWb]
      have hlb : Wb.heap[w.heap.size + 1]? = some (.loop { rec .ready none with state := .busy }) := by rw [hWb]; exact World.putObj_heap_same hlta
      have hdb : Wb.heap[w.heap.size]? = some (.deferred (some [])) := by rw [hWb]; exact (World.putObj_heap_other (by omega)).trans hda
      have hkb : Keep n₀ C X W Wb := by rw [hWb]; exact hka.trans (Keep.putObj (by omega) hXl hCl hlta)
      have hfb : KeepsFrom W1.heap.size W Wb := by rw [hWb]; exact (KeepsFrom.up hfa (by omega)).trans (KeepsFrom.put (by omega))
      have hszb : w.heap.size ≤ Wb.heap.size := by rw [hWb]; simp; omega
      have hib : I pre X Wb := by rw [hWb]; exact hI.put _ hia (by omega) hla rfl
      have haxb : Ax x a' Wb := by rw [hWb]; exact hAx _ _ _ _ hax (St.putObj hla rfl (by omega))
      refine wpIn_mono (hbody _ pre x X a' Wb hib haxb hszb (fun k h => ⟨(hxw k h).1, Nat.lt_of_lt_of_le (hxw k h).2 hkb.below.size⟩) hlen) ?_
      have fin : ∀ (jump : Option Code) (W3 : World), KeepsFrom w.heap.size Wb W3 → Keep n₀ C X Wb W3 →
          (Instr.endRound (w.heap.size + 1) jump).run P W3 = .ok (.bool jump.isNone) (W3.putObj (w.heap.size + 1) (.loop (rec (if jump.isNone then .ready else .done) jump))) ∧
          W3.heap[w.heap.size + 1]? = some (.loop { rec .ready none with state := .busy }) ∧
          (W3.putObj (w.heap.size + 1) (.loop (rec (if jump.isNone then .ready else .done) jump))).heap[w.heap.size + 1]? = some (.loop (rec (if jump.isNone then .ready else .done) jump)) ∧
          (W3.putObj (w.heap.size + 1) (.loop (rec (if jump.isNone then .ready else .done) jump))).heap[w.heap.size]? = some (.deferred (some [])) ∧
          Keep n₀ C X W (W3.putObj (w.heap.size + 1) (.loop (rec (if jump.isNone then .ready else .done) jump))) ∧
          KeepsFrom W1.heap.size W (W3.putObj (w.heap.size + 1) (.loop (rec (if jump.isNone then .ready else .done) jump))) := fun jump W3 hk3 hkk3 => by
        have hl3 := hk3.same _ _ (by omega) hlb rfl
        have hlt3 : w.heap.size + 1 < W3.heap.size := (Array.getElem?_eq_some_iff.1 hl3).1
        have he := run_endRound (P := P) jump hl3
        refine ⟨?_, hl3, World.putObj_heap_same hlt3, (World.putObj_heap_other (by omega)).trans (hk3.same _ _ (Nat.le_refl _) hdb rfl), (hkb.trans hkk3).trans (Keep.putObj (by omega) hXl hCl hlt3), (hfb.trans (KeepsFrom.up hk3 (by omega))).trans (KeepsFrom.put (by omega))⟩
        rw [hrec] at he ⊢
        exact he
      rintro e a3 W3 hp
      cases e with
      | normal =>
        obtain ⟨hk3, hkp3, hi3⟩ := hp
        have hz3 := hkp3.below.size
        have hz2 := hkb.below.size
        obtain ⟨hr, hl3, hl4, hk4, h5, h6⟩ := fin none W3 hk3 hkp3
        exact ⟨_, _, hr, .inl ⟨rfl, by simp; omega, hI.put _ hi3 (by omega) hl3 rfl, hx, hl4, hk4⟩, h5, h6⟩
      | ret =>
        obtain ⟨hk3, hkp3, hi3⟩ := hp
        have hz3 := hkp3.below.size
        have hz2 := hkb.below.size
        obtain ⟨hr, hl3, hl4, hk4, h5, h6⟩ := fin (some .ret) W3 hk3 hkp3
        exact ⟨_, _, hr, .inr ⟨rfl, .ret, by simp; omega, (hIx _).put _ hi3 (by omega) hl3 rfl, hl4, hk4, hx⟩, h5, h6⟩
      | exit id =>
        obtain ⟨hk3, hkp3, hi3⟩ := hp
        have hz3 := hkp3.below.size
        have hz2 := hkb.below.size
        obtain ⟨hr, hl3, hl4, hk4, h5, h6⟩ := fin (some (.exit id)) W3 hk3 hkp3
        exact ⟨_, _, hr, .inr ⟨rfl, .exit id, by simp; omega, (hIx _).put _ hi3 (by omega) hl3 rfl, hl4, hk4, hx⟩, h5, h6⟩
      | goto t =>
        obtain ⟨hk3, hkp3, hi3⟩ := hp
        have hz3 := hkp3.below.size
        have hz2 := hkb.below.size
        obtain ⟨hr, hl3, hl4, hk4, h5, h6⟩ := fin (some (.goto t)) W3 hk3 hkp3
        exact ⟨_, _, hr, .inr ⟨rfl, .goto t, by simp; omega, (hIx _).put _ hi3 (by omega) hl3 rfl, hl4, hk4, hx⟩, h5, h6⟩
      | panic ch => exact hp.elim
      | outgrown => exact hp.elim
    · rintro e W2 ⟨⟨v, rfl⟩, X, (⟨xs, hS, -, hi, hx, hl, hk⟩ | ⟨pre, hSp, c, -, hi, hl, hk, hx⟩)⟩
      · exact ⟨none, _, by have := run_endLoop (P := P) hl (by rw [hrec]; simp); rw [hrec] at this; exact this, hdone _ xs X _ (Nat.le_refl _) hS (hI.put _ hi (by omega) hl rfl) ((World.putObj_heap_other (by omega)).trans hk)⟩
      · exact ⟨some c, _, by have := run_endLoop (P := P) hl (by rw [hrec]; simp); rw [hrec] at this; exact this, hstop _ c pre X _ (Nat.le_refl _) hSp ((hIx c).put _ hi (by omega) hl rfl) ((World.putObj_heap_other (by omega)).trans hk)⟩

/-! ### the numbers from lo to M -/
def partsL (lo M : Nat) : List Nat := (List.range (M + 1 - lo)).map fun i => lo + i
theorem parts_len (lo M : Nat) : (partsL lo M).length = M + 1 - lo := by simp [partsL]
theorem parts_get {lo M k : Nat} (h : k < (partsL lo M).length) : (partsL lo M)[k] = lo + k := by simp [partsL]
theorem parts_mem {lo M p : Nat} : p ∈ partsL lo M ↔ lo ≤ p ∧ p ≤ M := by
  unfold partsL
  rw [List.mem_map]
  constructor
  · rintro ⟨i, hi, rfl⟩
    have := List.mem_range.1 hi
    omega
  · intro h
    exact ⟨p - lo, List.mem_range.2 (by omega), by omega⟩
abbrev Part (lo M : Nat) := { p : Nat // p ∈ partsL lo M }
def partsS (lo M : Nat) : List (Part lo M) := (partsL lo M).attach
theorem partsS_len (lo M : Nat) : (partsS lo M).length = M + 1 - lo := by unfold partsS; rw [List.length_attach, parts_len]
theorem partsS_val (lo M : Nat) : (partsS lo M).map (·.1) = partsL lo M := by unfold partsS; exact List.attach_map_subtype_val _
theorem partsS_take {lo M k : Nat} (h : lo + k ≤ M) : (partsS lo M).take (k + 1) = (partsS lo M).take k ++ [⟨lo + k, parts_mem.2 ⟨by omega, h⟩⟩] := by
  have hk : k < (partsS lo M).length := by rw [partsS_len]; omega
  rw [List.take_succ_eq_append_getElem hk]
  congr 2
  apply Subtype.ext
  have e := partsS_val lo M
  have e2 := congrArg (fun l => l[k]?) e
  simp only [List.getElem?_map] at e2
  rw [List.getElem?_eq_getElem hk, List.getElem?_eq_getElem (show k < (partsL lo M).length by rw [parts_len]; rw [partsS_len] at hk; exact hk), parts_get] at e2
  simpa using e2

set_option maxRecDepth 100000 in
set_option maxHeartbeats 4000000 in
theorem cuts1_any (w0 : World) (bl bh bt n₀ lo hi turns : Nat) (h1 : Boxed w0 bl 3 (.int .i64 (lo : Int))) (h2 : Boxed w0 bh 3 (.int .i64 (hi : Int))) (h3 : Boxed w0 bt 3 (.int .i64 (turns : Int))) (_hn₀ : n₀ ≤ w0.heap.size) (hs1 : hi ≤ 1000000) (hs2 : turns ≤ 1000000) (_hs3 : lo ≤ 1000000) (M : Nat) (hM : M = min hi turns) :
    IterAt Try.prog 113 #[.pointer (some ⟨bl, 0, none⟩), .pointer (some ⟨bh, 0, none⟩), .pointer (some ⟨bt, 0, none⟩)] (fun p : Part lo M => #[.agg #[.int .i64 (p.1 : Int), .int .i64 ((turns : Int) - (p.1 : Int))]]) n₀ (fun k => (k = bl ∨ k = bh) ∨ k = bt)
      (fun xs => xs = partsS lo M) (fun pre => ∃ rest, pre ++ rest = partsS lo M) (partsS lo M).length w0 := by
  intro l J Jx W hW hJs hJxs hY h0
  have y1 := bxBelow h1 hW h1.lt
  have y2 := bxBelow h2 hW h2.lt
  have y3 := bxBelow h3 hW h3.lt
  have c1 := y1.cell
  refine (callsIn_wide (n := 2)).1 ?_
  refine callsIn_of_wp Try.func113 rfl trivial ?_ rfl
  simp only [Try.ntmps113, List.size_toArray, List.length_cons, List.length_nil, Nat.reduceAdd, Nat.reduceSub, Array.replicate_succ, Array.replicate_zero, List.push_toArray, List.append_toArray, List.nil_append, List.cons_append]
  gi_wp2_with (fail)
  have hMi : min (hi : Int) (turns : Int) = (M : Int) := by rw [hM]; omega
  have hMs : M ≤ 1000000 := by omega
  have HM := Lib.hid hM
  clear hM c1
  gi_loopg [5] (M + 1 - lo) (fun g v5 wr => ∃ k p : Nat, (k ≤ M + 1 - lo ∧ g = M + 1 - lo - k ∧ v5 = .int .i64 (p : Int)) ∧ Hid (p = lo + k) ∧ J ((partsS lo M).take k) noBlock wr ∧ Boxed wr bl 3 (.int .i64 (lo : Int)) ∧ Boxed wr bh 3 (.int .i64 (hi : Int)) ∧ Boxed wr bt 3 (.int .i64 (turns : Int)) ∧ W.heap.size ≤ wr.heap.size)
  case atStart => exact ⟨0, lo, ⟨Nat.zero_le _, rfl, rfl⟩, Lib.hid rfl, by simpa using h0, y1, y2, y3, Nat.le_refl _⟩
  case round =>
    clear y1 y2 y3
    obtain ⟨k, p, ⟨hk, rfl, rfl⟩, Hp, hJ, y1, y2, y3, hz⟩ := hrel
    have c1 := y1.cell
    have c2 := y2.cell
    have c3 := y3.cell
    by_cases hlt : p ≤ M
    · have hpl : lo + k ≤ M := by rw [← Hp.out]; exact hlt
      have hle2 : (p : Int) ≤ (hi : Int) ∧ (p : Int) ≤ (turns : Int) := by have := HM.out; omega
      have hle3 := hle2.1
      have hle4 := hle2.2
      have hws : IntKind.i64.wrap ((turns : Int) - (p : Int)) = (turns : Int) - (p : Int) := by rw [IntKind.wrap_i64]; omega
      have hwp : IntKind.i64.wrap ((p : Int) + 1) = (p : Int) + 1 := by rw [IntKind.wrap_i64]; omega
      have hlen : ((partsS lo M).take k).length < (partsS lo M).length := by rw [List.length_take, partsS_len]; omega
      have htk : (partsS lo M).take (k + 1) = (partsS lo M).take k ++ [⟨p, parts_mem.2 ⟨by rw [Hp.out]; omega, hlt⟩⟩] := by rw [partsS_take hpl]; congr 2; exact Subtype.ext Hp.out.symm
      obtain ⟨fn, tmps, assign, body, hy, hR⟩ := hY _ ⟨p, parts_mem.2 ⟨by rw [Hp.out]; omega, hlt⟩⟩ noBlock wr hJ hz (fun _ h => h.elim) hlen
      dsimp only at hy
      have Hl := Lib.hid (And.intro hlen (And.intro htk hpl))
      clear hlen htk hpl hle2
      gi_wp2
      all_goals first | (exfalso; omega) | skip
      all_goals
        refine hR.mono ?_
        rintro e W3 ⟨hJ3, hkeep, hkf⟩
        rcases hJ3 with ⟨rfl, hJ3⟩ | ⟨rfl, hJx3⟩
        · gi_wp2
          gi_roundg (M + 1 - lo - (k + 1))
          case measure => have := Hl.out.2.2; omega
          case rel => exact ⟨k + 1, p + 1, ⟨by have := Hl.out.2.2; omega, rfl, by simp⟩, Lib.hid (by have := Hp.out; omega), by rw [Hl.out.2.1]; exact hJ3, hkeep.same _ _ y1 (.inr (.inl (.inl rfl))), hkeep.same _ _ y2 (.inr (.inl (.inr rfl))), hkeep.same _ _ y3 (.inr (.inr rfl)), Nat.le_trans hz hkeep.below.size⟩
        · gi_wp2
          refine bodyPost_ret (results_none rfl _ _ _) rfl ⟨⟨_, rfl⟩, noBlock, .inr ⟨_, ⟨(partsS lo M).drop (k + 1), ?_⟩, hJx3⟩⟩
          rw [← Hl.out.2.1, List.take_append_drop]
    · have hle2 : ¬ ((p : Int) ≤ (hi : Int) ∧ (p : Int) ≤ (turns : Int)) := by have := HM.out; omega
      rw [List.take_of_length_le (by rw [partsS_len]; have := Hp.out; omega)] at hJ
      gi_wp2
      all_goals first | (exfalso; omega) | skip
      all_goals
        refine bodyPost_end (v := .tuple #[]) (results_none rfl _ _ _) rfl ?_
        exact ⟨⟨_, rfl⟩, noBlock, .inl hJ⟩

set_option maxRecDepth 100000 in
set_option maxHeartbeats 4000000 in
theorem between1_any (w0 : World) (bl bh n₀ lo hi : Nat) (h1 : Boxed w0 bl 3 (.int .i64 (lo : Int))) (h2 : Boxed w0 bh 3 (.int .i64 (hi : Int))) (_hn₀ : n₀ ≤ w0.heap.size) (hs1 : hi ≤ 1000000) (_hs3 : lo ≤ 1000000) :
    IterAt Try.prog 106 #[.pointer (some ⟨bl, 0, none⟩), .pointer (some ⟨bh, 0, none⟩)] (fun p : Part lo hi => #[.int .i64 (p.1 : Int)]) n₀ (fun k => k = bl ∨ k = bh)
      (fun xs => xs = partsS lo hi) (fun pre => ∃ rest, pre ++ rest = partsS lo hi) (partsS lo hi).length w0 := by
  intro l J Jx W hW hJs hJxs hY h0
  have y1 := bxBelow h1 hW h1.lt
  have y2 := bxBelow h2 hW h2.lt
  have c1 := y1.cell
  refine (callsIn_wide (n := 2)).1 ?_
  refine callsIn_of_wp Try.func106 rfl trivial ?_ rfl
  simp only [Try.ntmps106, List.size_toArray, List.length_cons, List.length_nil, Nat.reduceAdd, Nat.reduceSub, Array.replicate_succ, Array.replicate_zero, List.push_toArray, List.append_toArray, List.nil_append, List.cons_append]
  gi_wp2_with (fail)
  clear c1
  gi_loopg [4] (hi + 1 - lo) (fun g v4 wr => ∃ k p : Nat, (k ≤ hi + 1 - lo ∧ g = hi + 1 - lo - k ∧ v4 = .int .i64 (p : Int)) ∧ Hid (p = lo + k) ∧ J ((partsS lo hi).take k) noBlock wr ∧ Boxed wr bl 3 (.int .i64 (lo : Int)) ∧ Boxed wr bh 3 (.int .i64 (hi : Int)) ∧ W.heap.size ≤ wr.heap.size)
  case atStart => exact ⟨0, lo, ⟨Nat.zero_le _, rfl, rfl⟩, Lib.hid rfl, by simpa using h0, y1, y2, Nat.le_refl _⟩
  case round =>
    clear y1 y2
    obtain ⟨k, p, ⟨hk, rfl, rfl⟩, Hp, hJ, y1, y2, hz⟩ := hrel
    have c1 := y1.cell
    have c2 := y2.cell
    by_cases hlt : p ≤ hi
    · have hpl : lo + k ≤ hi := by rw [← Hp.out]; exact hlt
      have hle3 : (p : Int) ≤ (hi : Int) := by omega
      have hwp : IntKind.i64.wrap ((p : Int) + 1) = (p : Int) + 1 := by rw [IntKind.wrap_i64]; omega
      have hlen : ((partsS lo hi).take k).length < (partsS lo hi).length := by rw [List.length_take, partsS_len]; omega
      have htk : (partsS lo hi).take (k + 1) = (partsS lo hi).take k ++ [⟨p, parts_mem.2 ⟨by rw [Hp.out]; omega, hlt⟩⟩] := by rw [partsS_take hpl]; congr 2; exact Subtype.ext Hp.out.symm
      obtain ⟨fn, tmps, assign, body, hy, hR⟩ := hY _ ⟨p, parts_mem.2 ⟨by rw [Hp.out]; omega, hlt⟩⟩ noBlock wr hJ hz (fun _ h => h.elim) hlen
      dsimp only at hy
      have Hl := Lib.hid (And.intro hlen (And.intro htk hpl))
      clear hlen htk hpl
      gi_wp2
      refine hR.mono ?_
      rintro e W3 ⟨hJ3, hkeep, hkf⟩
      rcases hJ3 with ⟨rfl, hJ3⟩ | ⟨rfl, hJx3⟩
      · gi_wp2
        gi_roundg (hi + 1 - lo - (k + 1))
        case measure => have := Hl.out.2.2; omega
        case rel => exact ⟨k + 1, p + 1, ⟨by have := Hl.out.2.2; omega, rfl, by simp⟩, Lib.hid (by have := Hp.out; omega), by rw [Hl.out.2.1]; exact hJ3, hkeep.same _ _ y1 (.inr (.inl rfl)), hkeep.same _ _ y2 (.inr (.inr rfl)), Nat.le_trans hz hkeep.below.size⟩
      · gi_wp2
        refine bodyPost_ret (results_none rfl _ _ _) rfl ⟨⟨_, rfl⟩, noBlock, .inr ⟨_, ⟨(partsS lo hi).drop (k + 1), ?_⟩, hJx3⟩⟩
        rw [← Hl.out.2.1, List.take_append_drop]
    · have hle2 : ¬ (p : Int) ≤ (hi : Int) := by omega
      rw [List.take_of_length_le (by rw [partsS_len]; have := Hp.out; omega)] at hJ
      gi_wp2
      refine bodyPost_end (v := .tuple #[]) (results_none rfl _ _ _) rfl ?_
      exact ⟨⟨_, rfl⟩, noBlock, .inl hJ⟩

/-- The first k of the n indices. -/
def idx (n k : Nat) : List (Fin n) := (List.finRange n).take k
theorem idx_succ {n k : Nat} (h : k < n) : idx n (k + 1) = idx n k ++ [⟨k, h⟩] := by
  unfold idx
  rw [List.take_succ_eq_append_getElem (by simpa using h)]
  simp
theorem idx_length {n k : Nat} (h : k ≤ n) : (idx n k).length = k := by unfold idx; simp [h]
theorem idx_all (n : Nat) : idx n n = List.finRange n := by unfold idx; rw [List.take_of_length_le (by simp)]

set_option maxRecDepth 100000 in
set_option maxHeartbeats 4000000 in
theorem values1_any (w0 : World) (bs n₀ : Nat) (A : Option Addr) (n c : Nat) (vals : Nat → Value) (h1 : Boxed w0 bs 85 (.slice A n c)) (hn₀ : n₀ ≤ w0.heap.size) (hn : n ≤ 1000000) (hv : ∀ j, j < n → ∃ b off, A = some ⟨b, off, none⟩ ∧ b < n₀ ∧ w0.cell? ⟨b, off + j, none⟩ = some (vals j)) :
    IterAt Try.prog 118 #[.pointer (some ⟨bs, 0, none⟩)] (fun i : Fin n => #[vals i.1]) n₀ (fun k => k = bs)
      (fun xs => xs = List.finRange n) (fun pre => ∃ rest, pre ++ rest = List.finRange n) n w0 := by
  intro l J Jx W hW hJs hJxs hY h0
  have y1 := bxBelow h1 hW h1.lt
  have c1 := y1.cell
  have hb0 : Below n₀ w0 W := hW.mono hn₀
  have Hv := Lib.hid hv
  clear hv
  refine (callsIn_wide (n := 2)).1 ?_
  refine callsIn_of_wp Try.func118 rfl trivial ?_ rfl
  simp only [Try.ntmps118, List.size_toArray, List.length_cons, List.length_nil, Nat.reduceAdd, Nat.reduceSub, Array.replicate_succ, Array.replicate_zero, List.push_toArray, List.append_toArray, List.nil_append, List.cons_append]
  gi_wp2_with (fail)
  clear c1
  gi_loopg [7] n (fun g v7 wr => ∃ k : Nat, (k ≤ n ∧ g = n - k ∧ v7 = .int .i64 (k : Int)) ∧ J (idx n k) noBlock wr ∧ Below n₀ w0 wr ∧ W.heap.size ≤ wr.heap.size)
  case atStart => exact ⟨0, ⟨Nat.zero_le _, rfl, rfl⟩, by simpa [idx] using h0, hb0, Nat.le_refl _⟩
  case round =>
    clear y1 hb0
    obtain ⟨k, ⟨hk, rfl, rfl⟩, hJ, hb, hz⟩ := hrel
    by_cases hlt : k < n
    · obtain ⟨b, off, hA, hbn, hc⟩ := Hv.out k hlt
      have hc' := (hb.cell (p := ⟨b, off + k, none⟩) hbn).trans hc
      subst hA
      have hwp : IntKind.i64.wrap ((k : Int) + 1) = (k : Int) + 1 := by rw [IntKind.wrap_i64]; omega
      have hlen : (idx n k).length < n := by rw [idx_length hk]; exact hlt
      obtain ⟨fn, tmps, assign, body, hy, hR⟩ := hY _ ⟨k, hlt⟩ noBlock wr hJ hz (fun _ h => h.elim) hlen
      dsimp only at hy
      have Hl := Lib.hid (And.intro hlen (idx_succ hlt))
      clear hlen
      gi_wp2
      refine hR.mono ?_
      rintro e W3 ⟨hJ3, hkeep, hkf⟩
      rcases hJ3 with ⟨rfl, hJ3⟩ | ⟨rfl, hJx3⟩
      · gi_wp2
        gi_roundg (n - (k + 1))
        case measure => omega
        case rel => exact ⟨k + 1, ⟨by omega, rfl, by simp⟩, by rw [Hl.out.2]; exact hJ3, hb.trans hkeep.below, Nat.le_trans hz hkeep.below.size⟩
      · gi_wp2
        refine bodyPost_ret (results_none rfl _ _ _) rfl ⟨⟨_, rfl⟩, noBlock, .inr ⟨_, ⟨(List.finRange n).drop (k + 1), ?_⟩, hJx3⟩⟩
        rw [← Hl.out.2]
        exact List.take_append_drop _ _
    · obtain rfl : n = k := by omega
      rw [idx_all] at hJ
      gi_wp2
      refine bodyPost_end (v := .tuple #[]) (results_none rfl _ _ _) rfl ?_
      exact ⟨⟨_, rfl⟩, noBlock, .inl ⟨_, rfl, hJ⟩⟩

/-! ### the functions that return them -/
theorem cuts_box (t lo hi : Int) (w : World) :
    Calls Try.prog 95 #[.int .i64 t, .int .i64 lo, .int .i64 hi] w fun e w' =>
      ∃ bl bh bt, e = .returned (.func (.func 113) #[] #[.pointer (some ⟨bl, 0, none⟩), .pointer (some ⟨bh, 0, none⟩), .pointer (some ⟨bt, 0, none⟩)]) ∧ Boxed w' bl 3 (.int .i64 lo) ∧ Boxed w' bh 3 (.int .i64 hi) ∧ Boxed w' bt 3 (.int .i64 t) ∧ Below w.heap.size w w' := by
  go_enter Try.func95, Try.ntmps95
  go_wp2
  go_ret
  refine ⟨w.heap.size + 1, w.heap.size + 1 + 1, w.heap.size, by simp, ?_, ?_, ?_, (((Below.refl _ _).alloc (Nat.le_refl _) _).alloc (by simp) _).alloc (by simp; omega) _⟩
  · have := (Boxed.new (w.alloc (.cells #[.int .i64 t] 3)) 3 (.int .i64 lo)).alloc (.cells #[.int .i64 hi] 3)
    simpa using this
  · have := Boxed.new ((w.alloc (.cells #[.int .i64 t] 3)).alloc (.cells #[.int .i64 lo] 3)) 3 (.int .i64 hi)
    simpa using this
  · exact ((Boxed.new w 3 (.int .i64 t)).alloc _).alloc _
theorem between_box (lo hi : Int) (w : World) :
    Calls Try.prog 79 #[.int .i64 lo, .int .i64 hi] w fun e w' =>
      ∃ bl bh, e = .returned (.func (.func 106) #[] #[.pointer (some ⟨bl, 0, none⟩), .pointer (some ⟨bh, 0, none⟩)]) ∧ Boxed w' bl 3 (.int .i64 lo) ∧ Boxed w' bh 3 (.int .i64 hi) ∧ Below w.heap.size w w' := by
  go_enter Try.func79, Try.ntmps79
  go_wp2
  go_ret
  refine ⟨w.heap.size, w.heap.size + 1, by simp, ?_, ?_, ((Below.refl _ _).alloc (Nat.le_refl _) _).alloc (by simp) _⟩
  · exact (Boxed.new w 3 (.int .i64 lo)).alloc _
  · have := Boxed.new (w.alloc (.cells #[.int .i64 lo] 3)) 3 (.int .i64 hi)
    simpa using this
theorem values_box (A : Option Addr) (n c : Nat) (w : World) :
    Calls Try.prog 116 #[.slice A n c] w fun e w' =>
      ∃ bs, e = .returned (.func (.func 118) #[] #[.pointer (some ⟨bs, 0, none⟩)]) ∧ Boxed w' bs 85 (.slice A n c) ∧ Below w.heap.size w w' := by
  go_enter Try.func116, Try.ntmps116
  go_wp2
  go_ret
  exact ⟨w.heap.size, by simp, Boxed.new w 85 (.slice A n c), (Below.refl _ _).alloc (Nat.le_refl _) _⟩
end Go.Proofs.Ytlgibckhkdggdaa
