/- Parts of a proof: PA PB PC PD PE PF PG PH PI PJ. -/
import Derived.Test.YtbahiemjaomdcaaGreatF4
import Derived.Test.YtbahiemjaomdcaaGreatRows
import Derived.WalkKit
import Derived.WalkSpells
import Derived.WalkLawsBesides
import Derived.Lib.Hide
import Derived.Deep.QuietTactic
import Derived.BigQuiet
import Derived.StillTailTactics
import Derived.Deep.LoopGhost
import Derived.RangeFuncNested
import Derived.RangeFuncBound
import Derived.RangeFuncCalls
import Derived.RangeFuncLeaves
import Derived.RangeFuncBox
import Derived.Shelf.Abstract
import Derived.Shelf.RegionOpen
import Derived.OwnWalkIn
import Derived.TacticsInMore
import Derived.LoopNIn
import Derived.LoopIn
import Derived.Sort.LoopGhostIn
import Derived.Carry

/- pool: slices of ints that read as lists; within. -/
namespace Go.Proofs.YtbahiemjaomdcaaGreat
open Go.RowKit

/-- A slice of n elements at A reads as the ints xs; it lies below block B. -/
def IntsAt (w : World) (B : Nat) (A : Option Addr) (n : Nat) (xs : List Int) : Prop :=
  xs.length = n ∧ n ≤ 9223372036854775807 ∧ (0 < n → ∃ b off, A = some ⟨b, off, none⟩ ∧ b < B ∧ ∀ j, j < n → w.cell? ⟨b, off + j, none⟩ = some (.int .i64 (xs[j]?.getD 0)))

theorem IntsAt.len {w : World} {B : Nat} {A : Option Addr} {n : Nat} {xs : List Int} (h : IntsAt w B A n xs) : xs.length = n := h.1
theorem IntsAt.small {w : World} {B : Nat} {A : Option Addr} {n : Nat} {xs : List Int} (h : IntsAt w B A n xs) : n ≤ 9223372036854775807 := h.2.1
theorem IntsAt.cell {w : World} {B : Nat} {A : Option Addr} {n : Nat} {xs : List Int} (h : IntsAt w B A n xs) {k : Nat} (hk : k < n) :
    ∃ b off, A = some ⟨b, off, none⟩ ∧ b < B ∧ w.cell? ⟨b, off + k, none⟩ = some (.int .i64 (xs[k]?.getD 0)) := by
  obtain ⟨_, _, h⟩ := h
  obtain ⟨b, off, e, hb, hc⟩ := h (by omega)
  exact ⟨b, off, e, hb, hc k hk⟩
theorem IntsAt.keep {w w' : World} {B B' : Nat} {A : Option Addr} {n : Nat} {xs : List Int} (h : IntsAt w B A n xs) (hk : ∀ p : Addr, p.block < B → w'.cell? p = w.cell? p) (hB : B ≤ B') : IntsAt w' B' A n xs :=
  ⟨h.1, h.2.1, fun h0 => by
    obtain ⟨_, _, h⟩ := h
    obtain ⟨b, off, e, hlt, hc⟩ := h h0
    exact ⟨b, off, e, by omega, fun j hj => (hk ⟨b, off + j, none⟩ hlt).trans (hc j hj)⟩⟩
theorem IntsAt.below {w w' : World} {B D : Nat} {A : Option Addr} {n : Nat} {xs : List Int} (h : IntsAt w B A n xs) (hb : Below D w w') (hD : B ≤ D) : IntsAt w' B A n xs := h.keep (fun _ hp => hb.cell (Nat.lt_of_lt_of_le hp hD)) (Nat.le_refl _)
theorem IntsAt.more {w : World} {B B' : Nat} {A : Option Addr} {n : Nat} {xs : List Int} (h : IntsAt w B A n xs) (hB : B ≤ B') : IntsAt w B' A n xs := h.keep (fun _ _ => rfl) hB
theorem IntsAt.drewN {w : World} {B : Nat} {A : Option Addr} {n : Nat} {xs : List Int} (h : IntsAt w B A n xs) (k : Nat) : IntsAt (w.drewN k) B A n xs := h
theorem IntsAt.alloc {w : World} {B : Nat} {A : Option Addr} {n : Nat} {xs : List Int} (h : IntsAt w B A n xs) (hB : B ≤ w.heap.size) (o : Obj) : IntsAt (w.alloc o) B A n xs :=
  h.keep (fun p hp => World.cell?_alloc_lt w o p (by omega)) (Nat.le_refl _)
theorem IntsAt.nil {w : World} {B : Nat} : IntsAt w B none 0 [] := ⟨rfl, by omega, fun h => absurd h (by omega)⟩

theorem ret_bool {a b : Bool} (h : a = b) : Ending.returned (.bool a) = .returned (.bool b) := by rw [h]
theorem ret_int {k : IntKind} {a b : Int} (h : a = b) : Ending.returned (.int k a) = .returned (.int k b) := by rw [h]

def withinF (lo hi : Int) (xs : List Int) : Bool := xs.all fun x => decide (lo ≤ x) && decide (x ≤ hi)
theorem withinF_false {lo hi : Int} {xs : List Int} {k : Nat} (hk : k < xs.length) (h : xs[k]?.getD 0 < lo ∨ hi < xs[k]?.getD 0) : withinF lo hi xs = false := by
  unfold withinF
  rw [List.all_eq_false]
  refine ⟨xs[k], List.getElem_mem hk, ?_⟩
  rw [List.getElem?_eq_getElem hk] at h
  simp at h ⊢
  omega
theorem withinF_true {lo hi : Int} {xs : List Int} (h : ∀ j, j < xs.length → lo ≤ xs[j]?.getD 0 ∧ xs[j]?.getD 0 ≤ hi) : withinF lo hi xs = true := by
  unfold withinF
  rw [List.all_eq_true]
  intro x hx
  obtain ⟨i, hi, rfl⟩ := List.mem_iff_getElem.1 hx
  have := h i hi
  rw [List.getElem?_eq_getElem hi] at this
  simpa using this

set_option maxHeartbeats 400000 in
theorem wclo_any (b1 b2 : Nat) (lo hi x : Int) (w : World) (h1 : w.cell? ⟨b1, 0, none⟩ = some (.int .i64 lo)) (h2 : w.cell? ⟨b2, 0, none⟩ = some (.int .i64 hi)) :
    Calls Tryz.prog 69 #[.int .i64 x, .pointer (some ⟨b1, 0, none⟩), .pointer (some ⟨b2, 0, none⟩)] w fun e w' => e = .returned (.bool (decide (x < lo) || decide (hi < x))) ∧ w' = w := by
  go_enter Tryz.func69, Tryz.ntmps69
  by_cases hx : x < lo
  · go_wp2
    go_ret
    exact ⟨by simp [hx], rfl⟩
  · by_cases hy : hi < x
    · go_wp2
      go_ret
      exact ⟨by simp, rfl⟩
    · go_wp2
      go_ret
      exact ⟨by simp [hx]; omega, rfl⟩

set_option maxHeartbeats 400000 in
theorem windex_any (b1 b2 : Nat) (lo hi : Int) (w : World) (B : Nat) (A : Option Addr) (n c : Nat) (xs : List Int) (h1 : w.cell? ⟨b1, 0, none⟩ = some (.int .i64 lo)) (h2 : w.cell? ⟨b2, 0, none⟩ = some (.int .i64 hi)) (hx : IntsAt w B A n xs) :
    Calls Tryz.prog 91 #[.slice A n c, .func (.func 69) #[] #[.pointer (some ⟨b1, 0, none⟩), .pointer (some ⟨b2, 0, none⟩)]] w
      fun e w' => ∃ i : Int, e = .returned (.int .i64 i) ∧ w' = w ∧ decide (0 ≤ i) = !withinF lo hi xs := by
  have hm := hx.small
  go_enter Tryz.func91, Tryz.ntmps91
  go_wp2
  go_loop [5, 8] (fun _ i => ∃ k : Nat, k ≤ n ∧ i = .int .i64 k ∧ ∀ j, j < k → lo ≤ xs[j]?.getD 0 ∧ xs[j]?.getD 0 ≤ hi) (fun _ i => n - (intOf i).toNat)
  case atStart => exact ⟨0, by omega, rfl, fun j hj => by omega⟩
  case round =>
    obtain ⟨k, hk, rfl, hall⟩ := hrel
    have Hall := Lib.hid hall
    clear hall
    by_cases hlt : k < n
    · obtain ⟨b, o, rfl, _, hc⟩ := hx.cell hlt
      by_cases hbad : xs[k]?.getD 0 < lo ∨ hi < xs[k]?.getD 0
      · have hd : (decide (xs[k]?.getD 0 < lo) || decide (hi < xs[k]?.getD 0)) = true := by simpa using hbad
        go_wp2_with (go_at_call 69; refine (wclo_any b1 b2 lo hi _ _ h1 h2).mono ?_; rintro e w' ⟨rfl, rfl⟩)
        go_ret
        refine ⟨_, rfl, rfl, ?_⟩
        rw [withinF_false (by rw [hx.len]; exact hlt) hbad]
        simp
      · have hd : (decide (xs[k]?.getD 0 < lo) || decide (hi < xs[k]?.getD 0)) = false := by simpa using hbad
        go_wp2_with (go_at_call 69; refine (wclo_any b1 b2 lo hi _ _ h1 h2).mono ?_; rintro e w' ⟨rfl, rfl⟩)
        go_round
        case rel => exact ⟨k + 1, by omega, by go_num, fun j hj => by rcases Nat.lt_succ_iff_lt_or_eq.1 hj with h | rfl; exact Hall.out j h; omega⟩
        case measure => simp [intOf]; omega
    · go_wp2
      go_ret
      refine ⟨_, rfl, rfl, ?_⟩
      rw [withinF_true fun j hj => Hall.out j (by rw [hx.len] at hj; omega)]
      rfl

set_option maxHeartbeats 400000 in
theorem wcontains_any (b1 b2 : Nat) (lo hi : Int) (w : World) (B : Nat) (A : Option Addr) (n c : Nat) (xs : List Int) (h1 : w.cell? ⟨b1, 0, none⟩ = some (.int .i64 lo)) (h2 : w.cell? ⟨b2, 0, none⟩ = some (.int .i64 hi)) (hx : IntsAt w B A n xs) :
    Calls Tryz.prog 68 #[.slice A n c, .func (.func 69) #[] #[.pointer (some ⟨b1, 0, none⟩), .pointer (some ⟨b2, 0, none⟩)]] w
      fun e w' => e = .returned (.bool (!withinF lo hi xs)) ∧ w' = w := by
  go_enter Tryz.func68, Tryz.ntmps68
  go_wp2_with (go_at_call 91; refine (windex_any b1 b2 lo hi _ B _ _ _ xs h1 h2 hx).mono ?_; rintro e w' ⟨i, rfl, rfl, hi'⟩; have HI := Lib.hid hi'; clear hi')
  go_ret
  exact ⟨ret_bool HI.out, rfl⟩

set_option maxHeartbeats 400000 in
theorem within_any (lo hi : Int) (w : World) (B : Nat) (A : Option Addr) (n c : Nat) (xs : List Int) (hx : IntsAt w B A n xs) (hB : B ≤ w.heap.size) :
    Calls Tryz.prog 42 #[.int .i64 lo, .int .i64 hi, .slice A n c] w fun e w' => e = .returned (.bool (withinF lo hi xs)) ∧ Below w.heap.size w w' := by
  go_enter Tryz.func42, Tryz.ntmps42
  have hx2 := (hx.alloc hB (.cells #[.int .i64 lo] 3)).alloc (by simp; omega) (.cells #[.int .i64 hi] 3)
  go_wp2_with (go_at_call 68; refine (wcontains_any _ _ lo hi _ B _ _ _ xs (by simp) (by simp) hx2).mono ?_; rintro e w' ⟨rfl, rfl⟩)
  go_ret
  exact ⟨ret_bool (by simp), ((Below.refl _ _).alloc (Nat.le_refl _) _).alloc (by simp) _⟩

set_option maxHeartbeats 400000 in
theorem wclo64_any (b1 b2 : Nat) (lo hi x : Int) (w : World) (h1 : w.cell? ⟨b1, 0, none⟩ = some (.int .i64 lo)) (h2 : w.cell? ⟨b2, 0, none⟩ = some (.int .i64 hi)) :
    Calls Tryz.prog 93 #[.int .i64 x, .pointer (some ⟨b1, 0, none⟩), .pointer (some ⟨b2, 0, none⟩)] w fun e w' => e = .returned (.bool (decide (x < lo) || decide (hi < x))) ∧ w' = w := by
  go_enter Tryz.func93, Tryz.ntmps93
  by_cases hx : x < lo
  · go_wp2
    go_ret
    exact ⟨by simp [hx], rfl⟩
  · by_cases hy : hi < x
    · go_wp2
      go_ret
      exact ⟨by simp, rfl⟩
    · go_wp2
      go_ret
      exact ⟨by simp [hx]; omega, rfl⟩

set_option maxHeartbeats 400000 in
theorem windex64_any (b1 b2 : Nat) (lo hi : Int) (w : World) (B : Nat) (A : Option Addr) (n c : Nat) (xs : List Int) (h1 : w.cell? ⟨b1, 0, none⟩ = some (.int .i64 lo)) (h2 : w.cell? ⟨b2, 0, none⟩ = some (.int .i64 hi)) (hx : IntsAt w B A n xs) :
    Calls Tryz.prog 99 #[.slice A n c, .func (.func 93) #[] #[.pointer (some ⟨b1, 0, none⟩), .pointer (some ⟨b2, 0, none⟩)]] w
      fun e w' => ∃ i : Int, e = .returned (.int .i64 i) ∧ w' = w ∧ decide (0 ≤ i) = !withinF lo hi xs := by
  have hm := hx.small
  go_enter Tryz.func99, Tryz.ntmps99
  go_wp2
  go_loop [5, 8] (fun _ i => ∃ k : Nat, k ≤ n ∧ i = .int .i64 k ∧ ∀ j, j < k → lo ≤ xs[j]?.getD 0 ∧ xs[j]?.getD 0 ≤ hi) (fun _ i => n - (intOf i).toNat)
  case atStart => exact ⟨0, by omega, rfl, fun j hj => by omega⟩
  case round =>
    obtain ⟨k, hk, rfl, hall⟩ := hrel
    have Hall := Lib.hid hall
    clear hall
    by_cases hlt : k < n
    · obtain ⟨b, o, rfl, _, hc⟩ := hx.cell hlt
      by_cases hbad : xs[k]?.getD 0 < lo ∨ hi < xs[k]?.getD 0
      · have hd : (decide (xs[k]?.getD 0 < lo) || decide (hi < xs[k]?.getD 0)) = true := by simpa using hbad
        go_wp2_with (go_at_call 93; refine (wclo64_any b1 b2 lo hi _ _ h1 h2).mono ?_; rintro e w' ⟨rfl, rfl⟩)
        go_ret
        refine ⟨_, rfl, rfl, ?_⟩
        rw [withinF_false (by rw [hx.len]; exact hlt) hbad]
        simp
      · have hd : (decide (xs[k]?.getD 0 < lo) || decide (hi < xs[k]?.getD 0)) = false := by simpa using hbad
        go_wp2_with (go_at_call 93; refine (wclo64_any b1 b2 lo hi _ _ h1 h2).mono ?_; rintro e w' ⟨rfl, rfl⟩)
        go_round
        case rel => exact ⟨k + 1, by omega, by go_num, fun j hj => by rcases Nat.lt_succ_iff_lt_or_eq.1 hj with h | rfl; exact Hall.out j h; omega⟩
        case measure => simp [intOf]; omega
    · go_wp2
      go_ret
      refine ⟨_, rfl, rfl, ?_⟩
      rw [withinF_true fun j hj => Hall.out j (by rw [hx.len] at hj; omega)]
      rfl

set_option maxHeartbeats 400000 in
theorem wcontains64_any (b1 b2 : Nat) (lo hi : Int) (w : World) (B : Nat) (A : Option Addr) (n c : Nat) (xs : List Int) (h1 : w.cell? ⟨b1, 0, none⟩ = some (.int .i64 lo)) (h2 : w.cell? ⟨b2, 0, none⟩ = some (.int .i64 hi)) (hx : IntsAt w B A n xs) :
    Calls Tryz.prog 92 #[.slice A n c, .func (.func 93) #[] #[.pointer (some ⟨b1, 0, none⟩), .pointer (some ⟨b2, 0, none⟩)]] w
      fun e w' => e = .returned (.bool (!withinF lo hi xs)) ∧ w' = w := by
  go_enter Tryz.func92, Tryz.ntmps92
  go_wp2_with (go_at_call 99; refine (windex64_any b1 b2 lo hi _ B _ _ _ xs h1 h2 hx).mono ?_; rintro e w' ⟨i, rfl, rfl, hi'⟩; have HI := Lib.hid hi'; clear hi')
  go_ret
  exact ⟨ret_bool HI.out, rfl⟩

set_option maxHeartbeats 400000 in
theorem within64_any (lo hi : Int) (w : World) (B : Nat) (A : Option Addr) (n c : Nat) (xs : List Int) (hx : IntsAt w B A n xs) (hB : B ≤ w.heap.size) :
    Calls Tryz.prog 77 #[.int .i64 lo, .int .i64 hi, .slice A n c] w fun e w' => e = .returned (.bool (withinF lo hi xs)) ∧ Below w.heap.size w w' := by
  go_enter Tryz.func77, Tryz.ntmps77
  have hx2 := (hx.alloc hB (.cells #[.int .i64 lo] 2)).alloc (by simp; omega) (.cells #[.int .i64 hi] 2)
  go_wp2_with (go_at_call 92; refine (wcontains64_any _ _ lo hi _ B _ _ _ xs (by simp) (by simp) hx2).mono ?_; rintro e w' ⟨rfl, rfl⟩)
  go_ret
  exact ⟨ret_bool (by simp), ((Below.refl _ _).alloc (Nat.le_refl _) _).alloc (by simp) _⟩


theorem one_int (w : World) (B : Nat) (b : Nat) (x : Int) (hb : b < B) (h : w.cell? ⟨b, 0, none⟩ = some (.int .i64 x)) : IntsAt w B (some ⟨b, 0, none⟩) 1 [x] :=
  ⟨rfl, by omega, fun _ => ⟨b, 0, rfl, hb, fun j hj => by
    have h0 : j = 0 := by omega
    subst h0
    simpa using h⟩⟩
theorem within_one (lo hi x : Int) : withinF lo hi [x] = (decide (lo ≤ x) && decide (x ≤ hi)) := by simp [withinF]
theorem all_within {lo hi : Int} {xs : List Int} (h : withinF lo hi xs = true) : ∀ j, j < xs.length → lo ≤ xs[j]?.getD 0 ∧ xs[j]?.getD 0 ≤ hi := by
  intro j hj
  unfold withinF at h
  rw [List.all_eq_true] at h
  have := h xs[j] (List.getElem_mem hj)
  rw [List.getElem?_eq_getElem hj]
  simpa using this
theorem ints_ext {xs ys : List Int} (hl : xs.length = ys.length) (h : ∀ j, j < xs.length → xs[j]?.getD 0 = ys[j]?.getD 0) : xs = ys := by
  refine List.ext_getElem hl fun j h1 h2 => ?_
  have := h j h1
  rw [List.getElem?_eq_getElem h1, List.getElem?_eq_getElem h2] at this
  simpa using this

theorem below_drewN {D : Nat} (w : World) (q : Nat) : Below D w (w.drewN q) := ⟨rfl, rfl, rfl, Nat.le_refl _, fun _ _ => rfl⟩
theorem below_drew {D : Nat} (w : World) : Below D w w.drew := ⟨rfl, rfl, rfl, Nat.le_refl _, fun _ _ => rfl⟩

theorem ints_up {W W' : World} {A : Option Addr} {n : Nat} {xs : List Int} (h : IntsAt W W.heap.size A n xs) (hb : Below W.heap.size W W') : IntsAt W' W'.heap.size A n xs := (h.below hb (Nat.le_refl _)).more hb.size
end Go.Proofs.YtbahiemjaomdcaaGreat

/- pool: what a book is, in the memory and in plain lists. -/
namespace Go.Proofs.YtbahiemjaomdcaaGreat
open Go.RowKit Go.Shelf

structure Bet where
  first : Int
  second : Int
  units : Int
deriving DecidableEq, Inhabited
structure Bk where
  kind : Int
  runners : Int
  bets : List Bet
  scr : List Int
  fav : Bool
  car : Int
  dut : Int
  stp : Int
@[reducible] def betV (x : Bet) : Value := .agg #[.int .i64 x.first, .int .i64 x.second, .int .i64 x.units]
def noBet : Bet := ⟨0, 0, 0⟩
/-- The memory holds these bets. -/
def BetsAt (w : World) (B : Nat) (A : Option Addr) (k : Nat) (bs : List Bet) : Prop :=
  bs.length = k ∧ k ≤ 9223372036854775807 ∧ (0 < k → ∃ b off, A = some ⟨b, off, none⟩ ∧ b < B ∧ ∀ j, j < k → w.cell? ⟨b, off + j * 3, none⟩ = some (.int .i64 (bs[j]?.getD noBet).first) ∧ w.cell? ⟨b, off + j * 3 + 1, none⟩ = some (.int .i64 (bs[j]?.getD noBet).second) ∧ w.cell? ⟨b, off + j * 3 + 2, none⟩ = some (.int .i64 (bs[j]?.getD noBet).units))
theorem BetsAt.at {w : World} {B : Nat} {A : Option Addr} {k : Nat} {bs : List Bet} (h : BetsAt w B A k bs) {j : Nat} (hj : j < k) :
    ∃ b off, A = some ⟨b, off, none⟩ ∧ b < B ∧ w.cell? ⟨b, off + j * 3, none⟩ = some (.int .i64 (bs[j]?.getD noBet).first) ∧ w.cell? ⟨b, off + j * 3 + 1, none⟩ = some (.int .i64 (bs[j]?.getD noBet).second) ∧ w.cell? ⟨b, off + j * 3 + 2, none⟩ = some (.int .i64 (bs[j]?.getD noBet).units) := by
  obtain ⟨b, off, e, hb, hc⟩ := h.2.2 (by omega)
  obtain ⟨h1, h2, h3⟩ := hc j hj
  exact ⟨b, off, e, hb, h1, h2, h3⟩
theorem BetsAt.below {w w' : World} {B D : Nat} {A : Option Addr} {k : Nat} {bs : List Bet} (h : BetsAt w B A k bs) (hb : Below D w w') (hD : B ≤ D) : BetsAt w' B A k bs := by
  refine ⟨h.1, h.2.1, fun h0 => ?_⟩
  obtain ⟨b, off, e, hlt, hc⟩ := h.2.2 h0
  refine ⟨b, off, e, hlt, fun j hj => ?_⟩
  obtain ⟨h1, h2, h3⟩ := hc j hj
  exact ⟨(hb.cell (p := ⟨b, off + j * 3, none⟩) (show b < D by omega)).trans h1, (hb.cell (p := ⟨b, off + j * 3 + 1, none⟩) (show b < D by omega)).trans h2, (hb.cell (p := ⟨b, off + j * 3 + 2, none⟩) (show b < D by omega)).trans h3⟩
theorem BetsAt.more {w : World} {B B' : Nat} {A : Option Addr} {k : Nat} {bs : List Bet} (h : BetsAt w B A k bs) (hB : B ≤ B') : BetsAt w B' A k bs := by
  refine ⟨h.1, h.2.1, fun h0 => ?_⟩
  obtain ⟨b, off, e, hlt, hc⟩ := h.2.2 h0
  exact ⟨b, off, e, by omega, hc⟩
theorem bets_up {W W' : World} {A : Option Addr} {n : Nat} {bs : List Bet} (h : BetsAt W W.heap.size A n bs) (hb : Below W.heap.size W W') : BetsAt W' W'.heap.size A n bs := (h.below hb (Nat.le_refl _)).more hb.size
/-- A book as a value: its bets and its scratched runners lie in the memory. -/
@[reducible] def bkV (b : Bk) (A : Option Addr) (n c : Nat) (A2 : Option Addr) (m c2 : Nat) : Value :=
  .agg #[.int .i64 b.kind, .int .i64 b.runners, .slice A n c, .slice A2 m c2, .bool b.fav, .int .i64 b.car, .int .i64 b.dut, .int .i64 b.stp]
structure BkAt (w : World) (B : Nat) (b : Bk) (A : Option Addr) (n c : Nat) (A2 : Option Addr) (m c2 : Nat) : Prop where
  bets : BetsAt w B A n b.bets
  scr : IntsAt w B A2 m b.scr
  hc : n ≤ c
  hc2 : m ≤ c2
theorem BkAt.below {w w' : World} {B D : Nat} {b : Bk} {A A2 : Option Addr} {n c m c2 : Nat} (h : BkAt w B b A n c A2 m c2) (hb : Below D w w') (hD : B ≤ D) : BkAt w' B b A n c A2 m c2 := ⟨h.bets.below hb hD, h.scr.below hb hD, h.hc, h.hc2⟩
theorem BkAt.more {w : World} {B B' : Nat} {b : Bk} {A A2 : Option Addr} {n c m c2 : Nat} (h : BkAt w B b A n c A2 m c2) (hB : B ≤ B') : BkAt w B' b A n c A2 m c2 := ⟨h.bets.more hB, h.scr.more hB, h.hc, h.hc2⟩
/-! ### what the functions answer -/
def incF (xs : List Int) : Bool := (List.range (xs.length - 1)).all fun i => decide (xs[i]?.getD 0 < xs[i + 1]?.getD 0)
def isR (b : Bk) (x : Int) : Bool := decide (0 ≤ x) && decide (x ≤ b.runners - 1)
def refusesF (b : Bk) (x : Bet) : Bool :=
  if ¬ (isR b x.first = true ∧ withinF 1 1000 [x.units] = true) then true
  else if b.kind = 2 then !isR b x.second || decide (x.second = x.first)
  else if b.kind = 3 then !isR b x.second || decide (x.second ≤ x.first)
  else !decide (x.second = -1)
def scratchable (b : Bk) (xs : List Int) : Bool := withinF 0 (b.runners - 1) xs && (incF xs && decide ((xs.length : Int) ≤ b.runners - 2))
def bookF (b : Bk) : Int :=
  if withinF 0 3 [b.kind] = false then 2
  else if ¬ (withinF 2 8 [b.runners] = true ∧ withinF 0 1000000 [b.car] = true ∧ withinF 0 500 [b.dut] = true ∧ withinF 1 100 [b.stp] = true) then 3
  else if 100 < b.bets.length then 6
  else if b.bets.any (refusesF b) then 16
  else if scratchable b b.scr = false then 15 else 0
end Go.Proofs.YtbahiemjaomdcaaGreat

/- pool: boxed books, areRunners, isScratched, strictlyIncreasing, canScratch, refuses. -/
namespace Go.Proofs.YtbahiemjaomdcaaGreat
open Go.RowKit Go.Shelf

attribute [local go_sem] Oper.semAt_some

theorem cell_new (W : World) (cs : Array Value) (T : TypeId) (j : Nat) : (W.alloc (.cells cs T)).cell? ⟨W.heap.size, j, none⟩ = cs[j]? := by
  unfold World.cell?
  rw [World.alloc_heap_new]
  rfl
/-- A boxed book. -/
structure Box8 (W : World) (k : Nat) (b : Bk) (A : Option Addr) (n c : Nat) (A2 : Option Addr) (m c2 : Nat) : Prop where
  k0 : W.cell? ⟨k, 0, none⟩ = some (.int .i64 b.kind)
  k1 : W.cell? ⟨k, 1, none⟩ = some (.int .i64 b.runners)
  k2 : W.cell? ⟨k, 2, none⟩ = some (.slice A n c)
  k3 : W.cell? ⟨k, 3, none⟩ = some (.slice A2 m c2)
  k4 : W.cell? ⟨k, 4, none⟩ = some (.bool b.fav)
  k5 : W.cell? ⟨k, 5, none⟩ = some (.int .i64 b.car)
  k6 : W.cell? ⟨k, 6, none⟩ = some (.int .i64 b.dut)
  k7 : W.cell? ⟨k, 7, none⟩ = some (.int .i64 b.stp)
  lt : k < W.heap.size
@[reducible] def bkC (b : Bk) (A : Option Addr) (n c : Nat) (A2 : Option Addr) (m c2 : Nat) : Array Value :=
  #[.int .i64 b.kind, .int .i64 b.runners, .slice A n c, .slice A2 m c2, .bool b.fav, .int .i64 b.car, .int .i64 b.dut, .int .i64 b.stp]
theorem Box8.new (w : World) (b : Bk) (A : Option Addr) (n c : Nat) (A2 : Option Addr) (m c2 : Nat) (T : TypeId) : Box8 (w.alloc (.cells (bkC b A n c A2 m c2) T)) w.heap.size b A n c A2 m c2 :=
  ⟨cell_new w _ _ 0, cell_new w _ _ 1, cell_new w _ _ 2, cell_new w _ _ 3, cell_new w _ _ 4, cell_new w _ _ 5, cell_new w _ _ 6, cell_new w _ _ 7, by simp⟩
theorem Box8.up {W W' : World} {k : Nat} {b : Bk} {A : Option Addr} {n c : Nat} {A2 : Option Addr} {m c2 D : Nat} (h : Box8 W k b A n c A2 m c2) (hb : Below D W W') (hD : k < D) : Box8 W' k b A n c A2 m c2 :=
  ⟨(hb.cell (p := ⟨k, 0, none⟩) hD).trans h.k0, (hb.cell (p := ⟨k, 1, none⟩) hD).trans h.k1, (hb.cell (p := ⟨k, 2, none⟩) hD).trans h.k2, (hb.cell (p := ⟨k, 3, none⟩) hD).trans h.k3, (hb.cell (p := ⟨k, 4, none⟩) hD).trans h.k4, (hb.cell (p := ⟨k, 5, none⟩) hD).trans h.k5, (hb.cell (p := ⟨k, 6, none⟩) hD).trans h.k6, (hb.cell (p := ⟨k, 7, none⟩) hD).trans h.k7, Nat.lt_of_lt_of_le h.lt hb.size⟩
theorem Box8.alloc {W : World} {k : Nat} {b : Bk} {A : Option Addr} {n c : Nat} {A2 : Option Addr} {m c2 : Nat} (h : Box8 W k b A n c A2 m c2) (o : Obj) : Box8 (W.alloc o) k b A n c A2 m c2 := h.up ((Below.refl _ W).alloc (Nat.le_refl _) o) h.lt
set_option maxHeartbeats 1000000 in
theorem areRunners_any (w : World) (B : Nat) (b : Bk) (A : Option Addr) (n c : Nat) (A2 : Option Addr) (m c2 : Nat) (A3 : Option Addr) (l c3 : Nat) (xs : List Int) (hx : IntsAt w B A3 l xs) (hB : B ≤ w.heap.size) (hr : -1000 ≤ b.runners ∧ b.runners ≤ 1000) :
    Calls Tryz.prog 54 #[bkV b A n c A2 m c2, .slice A3 l c3] w fun e w' => e = .returned (.bool (withinF 0 (b.runners - 1) xs)) ∧ Below w.heap.size w w' := by
  have hwr : IntKind.i64.wrap (b.runners - 1) = b.runners - 1 := by rw [IntKind.wrap_i64]; omega
  have hb1 : Below w.heap.size w (w.alloc (.cells (bkC b A n c A2 m c2) 72)) := (Below.refl _ w).alloc (Nat.le_refl _) _
  have hx1 := hx.below hb1 hB
  go_enter Tryz.func54, Tryz.ntmps54
  go_wp2_with (fail)
  refine (within_any 0 (b.runners - 1) _ B A3 l c3 xs hx1 (by simp; omega)).mono ?_
  rintro e w2 ⟨rfl, hb2⟩
  go_wp2_with (fail)
  exact bodyPost_ret (results_tmp rfl _ _ _) rfl ⟨rfl, hb1.trans (hb2.mono (by simp))⟩
theorem isR_with (b : Bk) (x : Int) : withinF 0 (b.runners - 1) [x] = isR b x := by simp [withinF, isR]
set_option maxHeartbeats 1000000 in
theorem index_any (w : World) (B : Nat) (A : Option Addr) (n c : Nat) (xs : List Int) (x : Int) (hx : IntsAt w B A n xs) :
    Calls Tryz.prog 86 #[.slice A n c, .int .i64 x] w fun e w' => ∃ r : Int, e = .returned (.int .i64 r) ∧ w' = w ∧
      ((∃ k : Nat, k < n ∧ r = k ∧ xs[k]?.getD 0 = x ∧ ∀ j, j < k → xs[j]?.getD 0 ≠ x) ∨ (r = -1 ∧ ∀ j, j < n → xs[j]?.getD 0 ≠ x)) := by
  have hm := hx.small
  go_enter Tryz.func86, Tryz.ntmps86
  go_wp2
  go_loop [8] (fun i => ∃ k : Nat, k ≤ n ∧ i = .int .i64 k ∧ ∀ j, j < k → xs[j]?.getD 0 ≠ x) (fun i => n - (intOf i).toNat)
  case atStart => exact ⟨0, Nat.zero_le _, rfl, fun _ h => by omega⟩
  case round =>
    obtain ⟨k, hk, rfl, hz⟩ := hrel
    have Hz := Lib.hid hz
    clear hz
    by_cases hlt : k < n
    · obtain ⟨b, o, rfl, hb, hc⟩ := hx.cell hlt
      by_cases h0 : xs[k]?.getD 0 = x
      · have h0b : (x == xs[k]?.getD 0) = true := by simp [h0]
        have H0 := Lib.hid h0
        clear h0
        go_wp2
        go_ret
        exact ⟨k, rfl, rfl, .inl ⟨k, hlt, rfl, H0.out, Hz.out⟩⟩
      · have h0b : (x == xs[k]?.getD 0) = false := by simp; exact fun e => h0 e.symm
        have H0 := Lib.hid h0
        clear h0
        go_wp2
        go_round
        case rel =>
          refine ⟨k + 1, by omega, by go_num, fun j hj => ?_⟩
          by_cases hjk : j = k
          · subst hjk; exact H0.out
          · exact Hz.out j (by omega)
        case measure => simp [intOf]; omega
    · obtain rfl : k = n := by omega
      go_wp2
      go_ret
      exact ⟨-1, rfl, rfl, .inr ⟨rfl, Hz.out⟩⟩
theorem mem_at {xs : List Int} {x : Int} : x ∈ xs ↔ ∃ k, k < xs.length ∧ xs[k]?.getD 0 = x := by
  constructor
  · intro h
    obtain ⟨k, hk, e⟩ := List.mem_iff_getElem.1 h
    exact ⟨k, hk, by rw [List.getElem?_eq_getElem hk]; exact e⟩
  · rintro ⟨k, hk, e⟩
    rw [List.getElem?_eq_getElem hk] at e
    exact List.mem_iff_getElem.2 ⟨k, hk, e⟩
set_option maxHeartbeats 1000000 in
theorem contains_any (w : World) (B : Nat) (A : Option Addr) (n c : Nat) (xs : List Int) (x : Int) (hx : IntsAt w B A n xs) :
    Calls Tryz.prog 65 #[.slice A n c, .int .i64 x] w fun e w' => e = .returned (.bool (decide (x ∈ xs))) ∧ w' = w := by
  have Hl := Lib.hid hx.len
  go_enter Tryz.func65, Tryz.ntmps65
  go_wp2_with (fail)
  refine (index_any w B A n c xs x hx).mono ?_
  rintro e w' ⟨r, rfl, rfl, h⟩
  have Hr := Lib.hid (show decide (0 ≤ r) = decide (x ∈ xs) by
    rcases h with ⟨k, hk, rfl, e, -⟩ | ⟨rfl, hn⟩
    · rw [decide_eq_true (by omega), decide_eq_true (mem_at.2 ⟨k, by rw [Hl.out]; exact hk, e⟩)]
    · rw [decide_eq_false (by omega), decide_eq_false]
      rintro h
      obtain ⟨k, hk, e⟩ := mem_at.1 h
      exact hn k (by rw [← Hl.out]; exact hk) e)
  clear h
  go_wp2_with (fail)
  go_ret
  exact ⟨ret_bool Hr.out, rfl⟩
set_option maxHeartbeats 1000000 in
theorem isScratched_any (w : World) (B : Nat) (b : Bk) (A : Option Addr) (n c : Nat) (A2 : Option Addr) (m c2 : Nat) (x : Int) (hx : IntsAt w B A2 m b.scr) (hB : B ≤ w.heap.size) :
    Calls Tryz.prog 55 #[bkV b A n c A2 m c2, .int .i64 x] w fun e w' => e = .returned (.bool (decide (x ∈ b.scr))) ∧ Below w.heap.size w w' := by
  have hb1 : Below w.heap.size w (w.alloc (.cells (bkC b A n c A2 m c2) 72)) := (Below.refl _ w).alloc (Nat.le_refl _) _
  have hx1 := hx.below hb1 hB
  go_enter Tryz.func55, Tryz.ntmps55
  go_wp2_with (fail)
  refine (contains_any _ B A2 m c2 b.scr x hx1).mono ?_
  rintro e w2 ⟨rfl, rfl⟩
  go_wp2_with (fail)
  exact bodyPost_ret (results_tmp rfl _ _ _) rfl ⟨rfl, hb1⟩
theorem incF_false {xs : List Int} {k : Nat} (hk : k + 1 < xs.length) (h : xs[k + 1]?.getD 0 ≤ xs[k]?.getD 0) : incF xs = false := by
  unfold incF
  rw [List.all_eq_false]
  exact ⟨k, List.mem_range.2 (by omega), by simp; omega⟩
theorem incF_true {xs : List Int} (h : ∀ k, k + 1 < xs.length → xs[k]?.getD 0 < xs[k + 1]?.getD 0) : incF xs = true := by
  unfold incF
  rw [List.all_eq_true]
  intro i hi
  have := h i (by have := List.mem_range.1 hi; omega)
  simpa using this
set_option maxHeartbeats 1000000 in
theorem increasing_any (w : World) (B : Nat) (A : Option Addr) (n c : Nat) (xs : List Int) (hx : IntsAt w B A n xs) :
    Calls Tryz.prog 85 #[.slice A n c] w fun e w' => e = .returned (.bool (incF xs)) ∧ ∃ q, w' = w.drewN q := by
  have hm := hx.small
  have Hl := Lib.hid hx.len
  go_enter Tryz.func85, Tryz.ntmps85
  go_wp2
  go_loopg [3] (n + 1) (fun g i wr => ∃ k q : Nat, (1 ≤ k ∧ (k ≤ n ∨ k = 1) ∧ g = n + 1 - k + 1 ∧ i = .int .i64 (k : Int)) ∧ Hid (wr = w.drewN q) ∧ Hid (∀ j, j + 1 < k → xs[j]?.getD 0 < xs[j + 1]?.getD 0))
  case atStart => exact ⟨1, 0, ⟨by omega, .inr rfl, by omega, rfl⟩, Lib.hid rfl, Lib.hid (fun j hj => by omega)⟩
  case round =>
    obtain ⟨k, q, ⟨hk1, hk, rfl, rfl⟩, hq, hall⟩ := hrel
    by_cases hlt : (k : Int) < (n : Int)
    case neg =>
      go_wp2
      go_ret
      exact ⟨ret_bool (incF_true fun j hj => hall.out j (by rw [Hl.out] at hj; omega)).symm, q, hq.out⟩
    case pos =>
      obtain ⟨p, rfl⟩ : ∃ p, k = p + 1 := ⟨k - 1, by omega⟩
      obtain ⟨b, o, rfl, -, c1⟩ := (hx.drewN q).cell (k := p) (by omega)
      obtain ⟨b', o', e', -, c2⟩ := (hx.drewN q).cell (k := p + 1) (by omega)
      cases e'
      rw [← hq.out] at c1 c2
      have hw1 : IntKind.i64.wrap (((p + 1 : Nat) : Int) - 1) = (p : Int) := by rw [IntKind.wrap_i64]; omega
      have hw2 : IntKind.i64.wrap (((p + 1 : Nat) : Int) + 1) = ((p + 1 + 1 : Nat) : Int) := by rw [IntKind.wrap_i64]; omega
      have hpn : p < n := by omega
      obtain ⟨K, hK⟩ : ∃ K, K = p + 1 := ⟨_, rfl⟩
      obtain ⟨K2, hK2⟩ : ∃ K2, K2 = K + 1 := ⟨_, rfl⟩
      rw [← hK] at c2 hlt hw1 hw2 ⊢
      rw [← hK2] at hw2
      have HK := Lib.hid (And.intro hK hK2)
      have hKn : K < n := by omega
      obtain ⟨x, hxe⟩ : ∃ x, x = xs[p]?.getD 0 := ⟨_, rfl⟩
      obtain ⟨y, hye⟩ : ∃ y, y = xs[K]?.getD 0 := ⟨_, rfl⟩
      rw [← hxe] at c1
      rw [← hye] at c2
      have Hxy := Lib.hid (And.intro hxe hye)
      clear hK hK2 hxe hye
      by_cases hbad : x < y
      case neg =>
        have hbad' : y ≤ x := by omega
        go_wp2
        go_quiet (fail)
        go_wp2
        go_ret
        refine ⟨ret_bool ?_, q + nq, by rw [hq.out, World.drewN_drewN]⟩
        obtain ⟨h1, h2⟩ := Hxy.out
        obtain ⟨h3, h4⟩ := HK.out
        rw [incF_false (k := p) (by rw [Hl.out]; omega) (by rw [← h3, ← h1, ← h2]; exact hbad')]
      case pos =>
        have hbad' : ¬ y ≤ x := by omega
        go_wp2
        go_quiet (fail)
        go_wp2
        go_roundg (n + 1 - K2 + 1)
        case measure => have := HK.out; omega
        case rel =>
          obtain ⟨h1, h2⟩ := Hxy.out
          obtain ⟨h3, h4⟩ := HK.out
          refine ⟨K2, _, ⟨by omega, by omega, rfl, rfl⟩, Lib.hid (by rw [hq.out]; simp only [World.drewN_drewN]; rfl), Lib.hid (fun j hj => ?_)⟩
          by_cases hjp : j = p
          · subst hjp
            rw [← h3, ← h1, ← h2]
            exact hbad
          · exact hall.out j (by omega)
end Go.Proofs.YtbahiemjaomdcaaGreat

/- pool: refuses, canScratch, CheckBook. -/
namespace Go.Proofs.YtbahiemjaomdcaaGreat
open Go.RowKit Go.Shelf

attribute [local go_sem] Oper.semAt_some

theorem inR_iff (lo hi x : Int) : withinF lo hi [x] = (decide (lo ≤ x) && decide (x ≤ hi)) := within_one lo hi x
theorem oneW_any (W : World) (lo hi x : Int) :
    Calls Tryz.prog 42 #[.int .i64 lo, .int .i64 hi, .slice (some ⟨W.heap.size, 0, none⟩) 1 1] (W.alloc (.cells #[.int .i64 x] 3)) fun e w' => e = .returned (.bool (withinF lo hi [x])) ∧ Below W.heap.size W w' := by
  have hb1 : Below W.heap.size W (W.alloc (.cells #[.int .i64 x] 3)) := (Below.refl _ W).alloc (Nat.le_refl _) _
  refine (within_any lo hi _ (W.heap.size + 1) _ 1 1 [x] (one_int _ _ _ _ (by omega) (cell_new W _ _ 0)) (by simp)).mono ?_
  rintro e w2 ⟨rfl, hb2⟩
  exact ⟨rfl, hb1.trans (hb2.mono (by simp))⟩
theorem oneW64_any (W : World) (lo hi x : Int) :
    Calls Tryz.prog 77 #[.int .i64 lo, .int .i64 hi, .slice (some ⟨W.heap.size, 0, none⟩) 1 1] (W.alloc (.cells #[.int .i64 x] 2)) fun e w' => e = .returned (.bool (withinF lo hi [x])) ∧ Below W.heap.size W w' := by
  have hb1 : Below W.heap.size W (W.alloc (.cells #[.int .i64 x] 2)) := (Below.refl _ W).alloc (Nat.le_refl _) _
  refine (within64_any lo hi _ (W.heap.size + 1) _ 1 1 [x] (one_int _ _ _ _ (by omega) (cell_new W _ _ 0)) (by simp)).mono ?_
  rintro e w2 ⟨rfl, hb2⟩
  exact ⟨rfl, hb1.trans (hb2.mono (by simp))⟩
theorem oneR_any (W : World) (b : Bk) (A : Option Addr) (n c : Nat) (A2 : Option Addr) (m c2 : Nat) (x : Int) (hr : -1000 ≤ b.runners ∧ b.runners ≤ 1000) :
    Calls Tryz.prog 54 #[bkV b A n c A2 m c2, .slice (some ⟨W.heap.size, 0, none⟩) 1 1] (W.alloc (.cells #[.int .i64 x] 3)) fun e w' => e = .returned (.bool (isR b x)) ∧ Below W.heap.size W w' := by
  have hb1 : Below W.heap.size W (W.alloc (.cells #[.int .i64 x] 3)) := (Below.refl _ W).alloc (Nat.le_refl _) _
  refine (areRunners_any _ (W.heap.size + 1) b A n c A2 m c2 _ 1 1 [x] (one_int _ _ _ _ (by omega) (cell_new W _ _ 0)) (by simp) hr).mono ?_
  rintro e w2 ⟨rfl, hb2⟩
  exact ⟨by rw [isR_with], hb1.trans (hb2.mono (by simp))⟩
/-- A boxed bet. -/
structure Bet3 (W : World) (k : Nat) (x : Bet) : Prop where
  k0 : W.cell? ⟨k, 0, none⟩ = some (.int .i64 x.first)
  k1 : W.cell? ⟨k, 1, none⟩ = some (.int .i64 x.second)
  k2 : W.cell? ⟨k, 2, none⟩ = some (.int .i64 x.units)
  lt : k < W.heap.size
@[reducible] def betC (x : Bet) : Array Value := #[.int .i64 x.first, .int .i64 x.second, .int .i64 x.units]
theorem Bet3.new (w : World) (x : Bet) (T : TypeId) : Bet3 (w.alloc (.cells (betC x) T)) w.heap.size x := ⟨cell_new w _ _ 0, cell_new w _ _ 1, cell_new w _ _ 2, by simp⟩
theorem Bet3.up {W W' : World} {k D : Nat} {x : Bet} (h : Bet3 W k x) (hb : Below D W W') (hD : k < D) : Bet3 W' k x :=
  ⟨(hb.cell (p := ⟨k, 0, none⟩) hD).trans h.k0, (hb.cell (p := ⟨k, 1, none⟩) hD).trans h.k1, (hb.cell (p := ⟨k, 2, none⟩) hD).trans h.k2, Nat.lt_of_lt_of_le h.lt hb.size⟩
set_option maxRecDepth 100000 in
set_option maxHeartbeats 4000000 in
theorem refuses_any (w : World) (b : Bk) (A : Option Addr) (n c : Nat) (A2 : Option Addr) (m c2 : Nat) (x : Bet) (hr : -1000 ≤ b.runners ∧ b.runners ≤ 1000) :
    Calls Tryz.prog 79 #[bkV b A n c A2 m c2, betV x] w fun e w' => e = .returned (.bool (refusesF b x)) ∧ Below w.heap.size w w' := by
  go_enter Tryz.func79, Tryz.ntmps79
  go_wp2_with (fail)
  obtain ⟨W, hW⟩ : ∃ W, W = (w.alloc (.cells (bkC b A n c A2 m c2) 72)).alloc (.cells (betC x) 93) := ⟨_, rfl⟩
  have hN : W.heap.size = w.heap.size + 2 := by rw [hW]; simp
  have B0 : Below w.heap.size w W := by rw [hW]; exact ((Below.refl _ w).alloc (Nat.le_refl _) _).alloc (by simp) _
  have X0 : Box8 W w.heap.size b A n c A2 m c2 := by rw [hW]; exact (Box8.new w b A n c A2 m c2 _).alloc _
  have Y0 : Bet3 W (w.heap.size + 1) x := by
    rw [hW]
    have := Bet3.new (w.alloc (.cells (bkC b A n c A2 m c2) 72)) x 93
    rw [World.size_alloc] at this
    exact this
  rw [show w.heap.size + 2 = W.heap.size from hN.symm, ← hW]
  refine (oneR_any W b A n c A2 m c2 x.first hr).mono ?_
  rintro e w2 ⟨rfl, hb⟩
  have B2 := B0.trans (hb.mono B0.size)
  have X2 := X0.up hb (by omega)
  have Y2 := Y0.up hb (by omega)
  obtain ⟨r1, hr1⟩ : ∃ r, r = isR b x.first := ⟨_, rfl⟩
  rw [← hr1]
  have hz2 : w.heap.size + 2 ≤ w2.heap.size := by have := hb.size; omega
  have Hr1 := Lib.hid hr1
  clear hr1 hb X0 Y0 hW B0 hN
  cases r1 with
  | false =>
    go_wp2_with (fail)
    go_ret
    exact ⟨ret_bool (by unfold refusesF; rw [if_pos (by rw [← Hr1.out]; simp)]), B2⟩
  | true =>
    obtain ⟨y0, y1, y2, -⟩ := Y2
    obtain ⟨x0, x1, x2, x3, x4, x5, x6, x7, -⟩ := X2
    have XY := Lib.hid (And.intro (show Box8 w2 w.heap.size b A n c A2 m c2 from ⟨x0, x1, x2, x3, x4, x5, x6, x7, by omega⟩) (show Bet3 w2 (w.heap.size + 1) x from ⟨y0, y1, y2, by omega⟩))
    go_wp2_with (fail)
    refine (oneW64_any w2 1 1000 x.units).mono ?_
    rintro e w3 ⟨rfl, hb⟩
    have B3 := B2.trans (hb.mono B2.size)
    obtain ⟨x0, x1, x2, x3, x4, x5, x6, x7, -⟩ := XY.out.1.up hb (by omega)
    obtain ⟨y0, y1, y2, -⟩ := XY.out.2.up hb (by omega)
    obtain ⟨u1, hu1⟩ : ∃ r, r = withinF 1 1000 [x.units] := ⟨_, rfl⟩
    rw [← hu1]
    have hz3 : w.heap.size + 2 ≤ w3.heap.size := by have := hb.size; omega
    have Hu1 := Lib.hid hu1
    clear hu1 hb XY B2 hz2
    cases u1 with
    | false =>
      go_wp2_with (fail)
      go_ret
      exact ⟨ret_bool (by unfold refusesF; rw [if_pos (by rw [← Hu1.out]; simp)]), B3⟩
    | true =>
      have Hf := Lib.hid (show refusesF b x = if b.kind = 2 then !isR b x.second || decide (x.second = x.first) else if b.kind = 3 then !isR b x.second || decide (x.second ≤ x.first) else !decide (x.second = -1) by
        unfold refusesF
        rw [if_neg (by rw [← Hr1.out, ← Hu1.out]; simp)])
      by_cases k2 : b.kind = 2
      · have XY := Lib.hid (And.intro (show Box8 w3 w.heap.size b A n c A2 m c2 from ⟨x0, x1, x2, x3, x4, x5, x6, x7, by omega⟩) (show Bet3 w3 (w.heap.size + 1) x from ⟨y0, y1, y2, by omega⟩))
        have Hk := Lib.hid k2
        have k2b : (b.kind == 2) = true := by simp [k2]
        clear k2
        go_wp2_with (fail)
        refine (oneR_any w3 b A n c A2 m c2 x.second hr).mono ?_
        rintro e w4 ⟨rfl, hb⟩
        have B4 := B3.trans (hb.mono B3.size)
        obtain ⟨y0, y1, y2, -⟩ := XY.out.2.up hb (by omega)
        obtain ⟨r2, hr2⟩ : ∃ r, r = isR b x.second := ⟨_, rfl⟩
        rw [← hr2]
        have Hr2 := Lib.hid hr2
        clear hr2 hb XY B3 hz3 x0 x1 x2 x3 x4 x5 x6 x7
        cases r2 with
        | false =>
          go_wp2_with (fail)
          go_ret
          exact ⟨ret_bool (by rw [Hf.out, if_pos Hk.out, ← Hr2.out]; rfl), B4⟩
        | true =>
          go_wp2_with (fail)
          go_ret
          exact ⟨ret_bool (by rw [Hf.out, if_pos Hk.out, ← Hr2.out]; rfl), B4⟩
      · by_cases k3 : b.kind = 3
        · have XY := Lib.hid (And.intro (show Box8 w3 w.heap.size b A n c A2 m c2 from ⟨x0, x1, x2, x3, x4, x5, x6, x7, by omega⟩) (show Bet3 w3 (w.heap.size + 1) x from ⟨y0, y1, y2, by omega⟩))
          have Hk := Lib.hid (And.intro k2 k3)
          have k2b : (b.kind == 2) = false := by simp [k2]
          have k3b : (b.kind == 3) = true := by simp [k3]
          clear k2 k3
          go_wp2_with (fail)
          refine (oneR_any w3 b A n c A2 m c2 x.second hr).mono ?_
          rintro e w4 ⟨rfl, hb⟩
          have B4 := B3.trans (hb.mono B3.size)
          obtain ⟨y0, y1, y2, -⟩ := XY.out.2.up hb (by omega)
          obtain ⟨r2, hr2⟩ : ∃ r, r = isR b x.second := ⟨_, rfl⟩
          rw [← hr2]
          have Hr2 := Lib.hid hr2
          clear hr2 hb XY B3 hz3 x0 x1 x2 x3 x4 x5 x6 x7
          cases r2 with
          | false =>
            go_wp2_with (fail)
            go_ret
            exact ⟨ret_bool (by rw [Hf.out, if_neg Hk.out.1, if_pos Hk.out.2, ← Hr2.out]; rfl), B4⟩
          | true =>
            go_wp2_with (fail)
            go_ret
            exact ⟨ret_bool (by rw [Hf.out, if_neg Hk.out.1, if_pos Hk.out.2, ← Hr2.out]; rfl), B4⟩
        · have Hk := Lib.hid (And.intro k2 k3)
          have k2b : (b.kind == 2) = false := by simp [k2]
          have k3b : (b.kind == 3) = false := by simp [k3]
          clear k2 k3
          go_wp2_with (fail)
          go_ret
          exact ⟨ret_bool (by rw [Hf.out, if_neg Hk.out.1, if_neg Hk.out.2]; rfl), B3⟩
end Go.Proofs.YtbahiemjaomdcaaGreat

/- pool: CheckBook. -/
namespace Go.Proofs.YtbahiemjaomdcaaGreat
open Go.RowKit Go.Shelf

attribute [local go_sem] Oper.semAt_some

@[reducible] def refV (v : Value) : Value := .func (.func 79) #[v] #[]
theorem any_false {α : Type} {f : α → Bool} {bs : List α} {d : α} (h : ∀ j, j < bs.length → f (bs[j]?.getD d) = false) : bs.any f = false := by
  rw [List.any_eq_false]
  intro x hx
  obtain ⟨i, hi, rfl⟩ := List.mem_iff_getElem.1 hx
  have := h i hi
  rw [List.getElem?_eq_getElem hi] at this
  simpa using this
theorem any_true {α : Type} {f : α → Bool} {bs : List α} {d : α} {j : Nat} (hj : j < bs.length) (h : f (bs[j]?.getD d) = true) : bs.any f = true := by
  rw [List.any_eq_true]
  rw [List.getElem?_eq_getElem hj] at h
  exact ⟨bs[j], List.getElem_mem hj, h⟩
set_option maxHeartbeats 2000000 in
theorem bindex_any (w : World) (B : Nat) (b : Bk) (A : Option Addr) (n c : Nat) (A2 : Option Addr) (m c2 : Nat) (A3 : Option Addr) (l c3 : Nat) (bs : List Bet) (hx : BetsAt w B A3 l bs) (hB : B ≤ w.heap.size) (hr : -1000 ≤ b.runners ∧ b.runners ≤ 1000) :
    Calls Tryz.prog 94 #[.slice A3 l c3, refV (bkV b A n c A2 m c2)] w fun e w' => (∃ i : Int, e = .returned (.int .i64 i) ∧ decide (0 ≤ i) = bs.any (refusesF b)) ∧ Below w.heap.size w w' := by
  have hm := hx.2.1
  have Hl := Lib.hid hx.1
  go_enter Tryz.func94, Tryz.ntmps94
  go_wp2_with (fail)
  go_loopg [5, 8] l (fun g' _ v8 wr => ∃ k : Nat, (k ≤ l ∧ g' = l - k ∧ v8 = .int .i64 (k : Int)) ∧ Below w.heap.size w wr ∧ Hid (∀ j, j < k → refusesF b (bs[j]?.getD noBet) = false))
  case atStart => exact ⟨0, ⟨by omega, rfl, rfl⟩, Below.refl _ _, Lib.hid (fun j hj => by omega)⟩
  case round =>
    obtain ⟨k, ⟨hk, rfl, rfl⟩, hb, hall⟩ := hrel
    by_cases hlt : k < l
    case neg =>
      obtain rfl : k = l := by omega
      go_wp2_with (fail)
      go_ret
      exact ⟨⟨-1, rfl, by rw [any_false (d := noBet) fun j hj => hall.out j (by rw [← Hl.out]; exact hj)]; rfl⟩, hb⟩
    case pos =>
      have hwk : IntKind.i64.wrap ((k : Int) + 1) = (k : Int) + 1 := by rw [IntKind.wrap_i64]; omega
      obtain ⟨b3, o3, rfl, hb3, k0, k1, k2⟩ := (hx.below hb hB).at hlt
      obtain ⟨x, hxe⟩ : ∃ x, x = bs[k]?.getD noBet := ⟨_, rfl⟩
      rw [← hxe] at k0 k1 k2
      have Hx := Lib.hid hxe
      clear hxe
      go_wp2_with (fail)
      refine (refuses_any wr b A n c A2 m c2 x hr).mono ?_
      rintro e w2 ⟨rfl, hb2⟩
      have hb' := hb.trans (hb2.mono hb.size)
      obtain ⟨r, hre⟩ : ∃ r, r = refusesF b x := ⟨_, rfl⟩
      rw [← hre]
      have Hr := Lib.hid hre
      clear hre hb2 hb k0 k1 k2
      cases r with
      | true =>
        go_wp2_with (fail)
        go_ret
        exact ⟨⟨k, rfl, by rw [any_true (d := noBet) (j := k) (by rw [Hl.out]; exact hlt) (by rw [← Hx.out, ← Hr.out])]; simp⟩, hb'⟩
      | false =>
        go_wp2_with (fail)
        go_roundg (l - (k + 1))
        case measure => omega
        case rel => exact ⟨k + 1, ⟨by omega, rfl, by simp⟩, hb', Lib.hid (fun j hj => by
          by_cases h : j = k
          · subst h
            rw [← Hx.out, ← Hr.out]
          · exact hall.out j (by omega))⟩
set_option maxHeartbeats 1000000 in
theorem bcontains_any (w : World) (B : Nat) (b : Bk) (A : Option Addr) (n c : Nat) (A2 : Option Addr) (m c2 : Nat) (A3 : Option Addr) (l c3 : Nat) (bs : List Bet) (hx : BetsAt w B A3 l bs) (hB : B ≤ w.heap.size) (hr : -1000 ≤ b.runners ∧ b.runners ≤ 1000) :
    Calls Tryz.prog 78 #[.slice A3 l c3, refV (bkV b A n c A2 m c2)] w fun e w' => e = .returned (.bool (bs.any (refusesF b))) ∧ Below w.heap.size w w' := by
  go_enter Tryz.func78, Tryz.ntmps78
  go_wp2_with (fail)
  refine (bindex_any w B b A n c A2 m c2 A3 l c3 bs hx hB hr).mono ?_
  rintro e w2 ⟨⟨i, rfl, h⟩, hb⟩
  have H := Lib.hid h
  clear h
  go_wp2_with (fail)
  go_ret
  exact ⟨ret_bool H.out, hb⟩
set_option maxRecDepth 100000 in
set_option maxHeartbeats 4000000 in
theorem canScratch_any (w : World) (B : Nat) (b : Bk) (A : Option Addr) (n c : Nat) (A2 : Option Addr) (m c2 : Nat) (A3 : Option Addr) (l c3 : Nat) (xs : List Int) (hx : IntsAt w B A3 l xs) (hB : B ≤ w.heap.size) (hr : -1000 ≤ b.runners ∧ b.runners ≤ 1000) :
    Calls Tryz.prog 80 #[bkV b A n c A2 m c2, .slice A3 l c3] w fun e w' => e = .returned (.bool (scratchable b xs)) ∧ Below w.heap.size w w' := by
  have hm := hx.small
  have Hl := Lib.hid hx.len
  have hw2 : IntKind.i64.wrap (b.runners - 2) = b.runners - 2 := by rw [IntKind.wrap_i64]; omega
  go_enter Tryz.func80, Tryz.ntmps80
  go_wp2_with (fail)
  obtain ⟨W, hW⟩ : ∃ W, W = w.alloc (.cells (bkC b A n c A2 m c2) 72) := ⟨_, rfl⟩
  have B0 : Below w.heap.size w W := by rw [hW]; exact (Below.refl _ w).alloc (Nat.le_refl _) _
  have X0 : Box8 W w.heap.size b A n c A2 m c2 := by rw [hW]; exact Box8.new w b A n c A2 m c2 _
  rw [← hW]
  clear hW
  refine (areRunners_any W B b A n c A2 m c2 A3 l c3 xs (hx.below B0 hB) (Nat.le_trans hB B0.size) hr).mono ?_
  rintro e w2 ⟨rfl, hb⟩
  have B2 := B0.trans (hb.mono B0.size)
  have X2 := X0.up hb X0.lt
  obtain ⟨r1, hr1⟩ : ∃ r, r = withinF 0 (b.runners - 1) xs := ⟨_, rfl⟩
  rw [← hr1]
  have Hr1 := Lib.hid hr1
  clear hr1 hb X0 B0
  cases r1 with
  | false =>
    clear X2
    go_wp2_with (fail)
    go_ret
    exact ⟨ret_bool (by unfold scratchable; rw [← Hr1.out]; rfl), B2⟩
  | true =>
    have X := Lib.hid X2
    clear X2
    go_wp2_with (fail)
    refine (increasing_any w2 B A3 l c3 xs (hx.below B2 hB)).mono ?_
    rintro e w3 ⟨rfl, q, hq⟩
    have hb : Below w2.heap.size w2 w3 := by rw [hq]; exact below_drewN _ _
    have B3 := B2.trans (hb.mono B2.size)
    obtain ⟨x0, x1, x2, x3, x4, x5, x6, x7, -⟩ := X.out.up hb X.out.lt
    obtain ⟨r2, hr2⟩ : ∃ r, r = incF xs := ⟨_, rfl⟩
    rw [← hr2]
    have Hr2 := Lib.hid hr2
    clear hr2 hb hq X B2
    cases r2 with
    | false =>
      go_wp2_with (fail)
      go_ret
      exact ⟨ret_bool (by unfold scratchable; rw [← Hr1.out, ← Hr2.out]; rfl), B3⟩
    | true =>
      go_wp2_with (fail)
      go_ret
      exact ⟨ret_bool (by unfold scratchable; rw [← Hr1.out, ← Hr2.out, Hl.out]; rfl), B3⟩
end Go.Proofs.YtbahiemjaomdcaaGreat

/- pool: CheckBook. -/
namespace Go.Proofs.YtbahiemjaomdcaaGreat
open Go.RowKit Go.Shelf

attribute [local go_sem] Oper.semAt_some

set_option maxRecDepth 100000 in
set_option maxHeartbeats 16000000 in
theorem checkBook_any (w : World) (B : Nat) (b : Bk) (A : Option Addr) (n c : Nat) (A2 : Option Addr) (m c2 : Nat) (h : BkAt w B b A n c A2 m c2) (hB : B ≤ w.heap.size) :
    Calls Tryz.prog 53 #[bkV b A n c A2 m c2] w fun e w' => e = .returned (.int .i64 (bookF b)) ∧ Below w.heap.size w w' := by
  have hm := h.bets.2.1
  go_enter Tryz.func53, Tryz.ntmps53
  go_wp2_with (fail)
  obtain ⟨w1, hW⟩ : ∃ W, W = (w.alloc (.cells (bkC b A n c A2 m c2) 25)).alloc (.cells (bkC b A n c A2 m c2) 72) := ⟨_, rfl⟩
  have hN : w1.heap.size = w.heap.size + 2 := by rw [hW]; simp
  have Bw1 : Below w.heap.size w w1 := by rw [hW]; exact ((Below.refl _ w).alloc (Nat.le_refl _) _).alloc (by simp) _
  have X : Box8 w1 w.heap.size b A n c A2 m c2 := by rw [hW]; exact (Box8.new w b A n c A2 m c2 _).alloc _
  have Y : Box8 w1 (w.heap.size + 1) b A n c A2 m c2 := by
    rw [hW]
    have := Box8.new (w.alloc (.cells (bkC b A n c A2 m c2) 25)) b A n c A2 m c2 72
    rw [World.size_alloc] at this
    exact this
  rw [show w.heap.size + 2 = w1.heap.size from hN.symm, ← hW]
  have X := Lib.hid X
  have Y := Lib.hid Y
  obtain ⟨x0, x1, x2, x3, x4, x5, x6, x7, hxl⟩ := X.out
  obtain ⟨y0, y1, y2, y3, y4, y5, y6, y7, hyl⟩ := Y.out
  clear hW hN
  refine (oneW_any w1 0 3 b.kind).mono ?_
  rintro e w2 ⟨rfl, hb⟩
  have Bw2 := Bw1.trans (hb.mono Bw1.size)
  have X := Lib.hid (X.out.up hb X.out.lt)
  have Y := Lib.hid (Y.out.up hb Y.out.lt)
  obtain ⟨r, hr⟩ : ∃ r, r = withinF 0 3 [b.kind] := ⟨_, rfl⟩
  rw [← hr]
  have H1 := Lib.hid hr
  clear hr hb Bw1 x0 x1 x2 x3 x4 x5 x6 x7 y0 y1 y2 y3 y4 y5 y6 y7
  obtain ⟨x0, x1, x2, x3, x4, x5, x6, x7, hxl⟩ := X.out
  obtain ⟨y0, y1, y2, y3, y4, y5, y6, y7, hyl⟩ := Y.out
  cases r with
  | false =>
    go_wp2_with (fail)
    go_ret
    exact ⟨ret_int (by unfold bookF; rw [if_pos H1.out.symm]), Bw2⟩
  | true =>
    go_wp2_with (fail)
    refine (oneW_any w2 2 8 b.runners).mono ?_
    rintro e w3 ⟨rfl, hb⟩
    have Bw3 := Bw2.trans (hb.mono Bw2.size)
    have X := Lib.hid (X.out.up hb X.out.lt)
    have Y := Lib.hid (Y.out.up hb Y.out.lt)
    obtain ⟨r, hr⟩ : ∃ r, r = withinF 2 8 [b.runners] := ⟨_, rfl⟩
    rw [← hr]
    have H2 := Lib.hid hr
    clear hr hb Bw2 x0 x1 x2 x3 x4 x5 x6 x7 y0 y1 y2 y3 y4 y5 y6 y7
    obtain ⟨x0, x1, x2, x3, x4, x5, x6, x7, hxl⟩ := X.out
    obtain ⟨y0, y1, y2, y3, y4, y5, y6, y7, hyl⟩ := Y.out
    cases r with
    | false =>
      go_wp2_with (fail)
      go_ret
      exact ⟨ret_int (by unfold bookF; rw [if_neg (by rw [← H1.out]; simp), if_pos (by rw [← H2.out]; simp)]), Bw3⟩
    | true =>
      go_wp2_with (fail)
      refine (oneW64_any w3 0 1000000 b.car).mono ?_
      rintro e w4 ⟨rfl, hb⟩
      have Bw4 := Bw3.trans (hb.mono Bw3.size)
      have X := Lib.hid (X.out.up hb X.out.lt)
      have Y := Lib.hid (Y.out.up hb Y.out.lt)
      obtain ⟨r, hr⟩ : ∃ r, r = withinF 0 1000000 [b.car] := ⟨_, rfl⟩
      rw [← hr]
      have H3 := Lib.hid hr
      clear hr hb Bw3 x0 x1 x2 x3 x4 x5 x6 x7 y0 y1 y2 y3 y4 y5 y6 y7
      obtain ⟨x0, x1, x2, x3, x4, x5, x6, x7, hxl⟩ := X.out
      obtain ⟨y0, y1, y2, y3, y4, y5, y6, y7, hyl⟩ := Y.out
      cases r with
      | false =>
        go_wp2_with (fail)
        go_ret
        exact ⟨ret_int (by unfold bookF; rw [if_neg (by rw [← H1.out]; simp), if_pos (by rw [← H3.out]; simp)]), Bw4⟩
      | true =>
        go_wp2_with (fail)
        refine (oneW64_any w4 0 500 b.dut).mono ?_
        rintro e w5 ⟨rfl, hb⟩
        have Bw5 := Bw4.trans (hb.mono Bw4.size)
        have X := Lib.hid (X.out.up hb X.out.lt)
        have Y := Lib.hid (Y.out.up hb Y.out.lt)
        obtain ⟨r, hr⟩ : ∃ r, r = withinF 0 500 [b.dut] := ⟨_, rfl⟩
        rw [← hr]
        have H4 := Lib.hid hr
        clear hr hb Bw4 x0 x1 x2 x3 x4 x5 x6 x7 y0 y1 y2 y3 y4 y5 y6 y7
        obtain ⟨x0, x1, x2, x3, x4, x5, x6, x7, hxl⟩ := X.out
        obtain ⟨y0, y1, y2, y3, y4, y5, y6, y7, hyl⟩ := Y.out
        cases r with
        | false =>
          go_wp2_with (fail)
          go_ret
          exact ⟨ret_int (by unfold bookF; rw [if_neg (by rw [← H1.out]; simp), if_pos (by rw [← H4.out]; simp)]), Bw5⟩
        | true =>
          go_wp2_with (fail)
          refine (oneW64_any w5 1 100 b.stp).mono ?_
          rintro e w6 ⟨rfl, hb⟩
          have Bw6 := Bw5.trans (hb.mono Bw5.size)
          have X := Lib.hid (X.out.up hb X.out.lt)
          have Y := Lib.hid (Y.out.up hb Y.out.lt)
          obtain ⟨r, hr⟩ : ∃ r, r = withinF 1 100 [b.stp] := ⟨_, rfl⟩
          rw [← hr]
          have H5 := Lib.hid hr
          clear hr hb Bw5 x0 x1 x2 x3 x4 x5 x6 x7 y0 y1 y2 y3 y4 y5 y6 y7
          obtain ⟨x0, x1, x2, x3, x4, x5, x6, x7, hxl⟩ := X.out
          obtain ⟨y0, y1, y2, y3, y4, y5, y6, y7, hyl⟩ := Y.out
          cases r with
          | false =>
            go_wp2_with (fail)
            go_ret
            exact ⟨ret_int (by unfold bookF; rw [if_neg (by rw [← H1.out]; simp), if_pos (by rw [← H5.out]; simp)]), Bw6⟩
          | true =>
            have HR := Lib.hid (show -1000 ≤ b.runners ∧ b.runners ≤ 1000 by
              have := H2.out.symm
              rw [within_one] at this
              simp at this
              omega)
            have HF := Lib.hid (show bookF b = if 100 < b.bets.length then 6 else if b.bets.any (refusesF b) then 16 else if scratchable b b.scr = false then 15 else 0 by
              unfold bookF
              rw [if_neg (by rw [← H1.out]; simp), if_neg (by rw [← H2.out, ← H3.out, ← H4.out, ← H5.out]; simp)])
            by_cases hlen : 100 < (n : Int)
            · have HL := Lib.hid (show 100 < b.bets.length by rw [h.bets.1]; omega)
              go_wp2_with (fail)
              go_ret
              exact ⟨ret_int (by rw [HF.out, if_pos HL.out]), Bw6⟩
            · have HL := Lib.hid (show ¬ 100 < b.bets.length by rw [h.bets.1]; omega)
              go_wp2_with (fail)
              refine (bcontains_any w6 B b A n c A2 m c2 A n c b.bets (h.bets.below Bw6 hB) (Nat.le_trans hB Bw6.size) HR.out).mono ?_
              rintro e w7 ⟨rfl, hb⟩
              have Bw7 := Bw6.trans (hb.mono Bw6.size)
              have X := Lib.hid (X.out.up hb X.out.lt)
              have Y := Lib.hid (Y.out.up hb Y.out.lt)
              obtain ⟨r, hr⟩ : ∃ r, r = b.bets.any (refusesF b) := ⟨_, rfl⟩
              rw [← hr]
              have H6 := Lib.hid hr
              clear hr hb Bw6 x0 x1 x2 x3 x4 x5 x6 x7 y0 y1 y2 y3 y4 y5 y6 y7
              obtain ⟨x0, x1, x2, x3, x4, x5, x6, x7, hxl⟩ := X.out
              obtain ⟨y0, y1, y2, y3, y4, y5, y6, y7, hyl⟩ := Y.out
              cases r with
              | true =>
                go_wp2_with (fail)
                go_ret
                exact ⟨ret_int (by rw [HF.out, if_neg HL.out, if_pos H6.out.symm]), Bw7⟩
              | false =>
                go_wp2_with (fail)
                refine (canScratch_any w7 B b A n c A2 m c2 A2 m c2 b.scr (h.scr.below Bw7 hB) (Nat.le_trans hB Bw7.size) HR.out).mono ?_
                rintro e w8 ⟨rfl, hb⟩
                have Bw8 := Bw7.trans (hb.mono Bw7.size)
                obtain ⟨r, hr⟩ : ∃ r, r = scratchable b b.scr := ⟨_, rfl⟩
                rw [← hr]
                have H7 := Lib.hid hr
                clear hr hb Bw7 X Y x0 x1 x2 x3 x4 x5 x6 x7 y0 y1 y2 y3 y4 y5 y6 y7
                cases r with
                | false =>
                  go_wp2_with (fail)
                  go_ret
                  exact ⟨ret_int (by rw [HF.out, if_neg HL.out, if_neg (by rw [← H6.out]; simp), if_pos H7.out.symm]), Bw8⟩
                | true =>
                  go_wp2_with (fail)
                  go_ret
                  exact ⟨ret_int (by rw [HF.out, if_neg HL.out, if_neg (by rw [← H6.out]; simp), if_neg (by rw [← H7.out]; simp)]), Bw8⟩
end Go.Proofs.YtbahiemjaomdcaaGreat

/- pool: rows of the call's own; racing. -/
namespace Go.Proofs.YtbahiemjaomdcaaGreat
open Go.RowKit Go.Shelf

attribute [local go_sem] Oper.semAt_some

theorem infoInt : (Tryz.prog.info? 3).map (fun i => (i.zero, i.size, i.bytes)) = some (some (.int .i64 0), 1, 8) := by kernel_rfl
section
variable {W W' : World} {B D n : Nat} {T : TypeId} {v : Value} {xs : List Int}
theorem ownT_ints {g c : Nat} (h : W.ownsRow B T 1 (.slice (some ⟨g, 0, none⟩) n c) n (xs.map (Value.int .i64))) (hm : n ≤ 1000000) : IntsAt W W.heap.size (some ⟨g, 0, none⟩) n xs := by
  have hl : xs.length = n := by have := h.1; simpa using this
  refine ⟨hl, by omega, fun _ => ⟨g, 0, rfl, (h.lt g rfl).2, fun j hj => ?_⟩⟩
  rw [Nat.zero_add, h.cellAt j (by omega)]
  simp [List.getElem?_map, List.getElem?_eq_getElem (show j < xs.length by omega)]
theorem ownT_form (h : W.ownsRow B T 1 v n (xs.map (Value.int .i64))) (hm : n ≤ 1000000) : ∃ A c, v = .slice A n c ∧ n ≤ c ∧ (A = none → c = 0) ∧ IntsAt W W.heap.size A n xs := by
  have h' := h
  rcases h.2 with ⟨rfl, h0⟩ | ⟨g, cap, cur, rfl, hb, hg, hc, hm2, hs, ht⟩
  · refine ⟨none, 0, by rw [h0], by omega, fun _ => rfl, ?_⟩
    have hl : xs.length = n := by have := h.1; simpa using this
    subst h0
    obtain rfl : xs = [] := List.length_eq_zero_iff.1 hl
    exact IntsAt.nil
  · exact ⟨_, cap, rfl, hc, (fun h => by cases h), ownT_ints h' hm⟩
theorem ownT_below {vs : List Value} {k : Nat} (h : W.ownsRow B T k v n vs) (hb : Below D W W') (hD : W.heap.size ≤ D) : W'.ownsRow B T k v n vs := by
  rcases h.2 with h2 | ⟨g, cap, cur, e, h1, hg, hr⟩
  · exact ⟨h.1, .inl h2⟩
  · have hlt : g < W.heap.size := (Array.getElem?_eq_some_iff.1 hg).1
    exact ⟨h.1, .inr ⟨g, cap, cur, e, h1, (hb.block g (by omega)).trans hg, hr⟩⟩
theorem ownT_lower {vs : List Value} {k B' : Nat} (h : W.ownsRow B T k v n vs) (hB : B' ≤ B) : W.ownsRow B' T k v n vs := by
  rcases h.2 with h2 | ⟨g, cap, cur, e, h1, hr⟩
  · exact ⟨h.1, .inl h2⟩
  · exact ⟨h.1, .inr ⟨g, cap, cur, e, by omega, hr⟩⟩
end
/-- The runners below k that are not scratched. -/
def racL (b : Bk) : Nat → List Int
  | 0 => []
  | k + 1 => racL b k ++ if (k : Int) ∈ b.scr then [] else [(k : Int)]
def racN (b : Bk) : List Int := racL b b.runners.toNat
theorem racL_len (b : Bk) : ∀ k, (racL b k).length ≤ k
  | 0 => Nat.le_refl _
  | k + 1 => by
    have := racL_len b k
    rw [racL, List.length_append]
    split <;> simp <;> omega
theorem racL_mem (b : Bk) {x : Int} : ∀ {k : Nat}, x ∈ racL b k ↔ (0 ≤ x ∧ x < (k : Int)) ∧ x ∉ b.scr
  | 0 => by simp [racL]; omega
  | k + 1 => by
    rw [racL, List.mem_append, racL_mem b (k := k)]
    by_cases h : (k : Int) ∈ b.scr
    · rw [if_pos h]
      simp only [List.not_mem_nil, or_false]
      constructor
      · rintro ⟨h1, h2⟩
        exact ⟨by omega, h2⟩
      · rintro ⟨h1, h2⟩
        refine ⟨⟨h1.1, ?_⟩, h2⟩
        by_cases hk : x = (k : Int)
        · subst hk
          exact absurd h h2
        · omega
    · rw [if_neg h, List.mem_singleton]
      constructor
      · rintro (⟨h1, h2⟩ | rfl)
        · exact ⟨by omega, h2⟩
        · exact ⟨by omega, h⟩
      · rintro ⟨h1, h2⟩
        by_cases hk : x = (k : Int)
        · exact .inr hk
        · exact .inl ⟨by omega, h2⟩
set_option maxRecDepth 100000 in
set_option maxHeartbeats 4000000 in
theorem racing_any (w : World) (B : Nat) (b : Bk) (A : Option Addr) (n c : Nat) (A2 : Option Addr) (m c2 : Nat) (h : IntsAt w B A2 m b.scr) (hB : B ≤ w.heap.size) (hr : 0 ≤ b.runners ∧ b.runners ≤ 1000) :
    Calls Tryz.prog 56 #[bkV b A n c A2 m c2] w fun e w' => ∃ v, e = .returned v ∧ w'.ownsRow w.heap.size 3 1 v (racN b).length ((racN b).map (.int .i64)) ∧ Below w.heap.size w w' := by
  obtain ⟨i0, hi, hz0, hz1, hz2⟩ := info_parts infoInt
  obtain ⟨R, hR⟩ : ∃ R : Nat, b.runners = (R : Int) := ⟨b.runners.toNat, by omega⟩
  have HR := Lib.hid hR
  have hR1000 : R ≤ 1000 := by omega
  go_enter Tryz.func56, Tryz.ntmps56
  clear hR hr
  go_wp2_with (fail)
  rw [HR.out]
  obtain ⟨W, hW⟩ : ∃ W, W = w.alloc (.cells (bkC b A n c A2 m c2) 72) := ⟨_, rfl⟩
  have B0 : Below w.heap.size w W := by rw [hW]; exact (Below.refl _ w).alloc (Nat.le_refl _) _
  have X0 := Lib.hid (show Box8 W w.heap.size b A n c A2 m c2 by rw [hW]; exact Box8.new w b A n c A2 m c2 _)
  have e1 : w.alloc (.cells #[.int .i64 b.kind, .int .i64 (R : Int), .slice A n c, .slice A2 m c2, .bool b.fav, .int .i64 b.car, .int .i64 b.dut, .int .i64 b.stp] 72) = W := by rw [hW, ← HR.out]
  rw [e1]
  clear hW e1
  have hWz := X0.out.lt
  go_loopg [3, 4, 8] R (fun g' v3 _ v8 wr => ∃ k : Nat, (k ≤ R ∧ g' = R - k ∧ v8 = .int .i64 (k : Int)) ∧ wr.ownsRow W.heap.size 3 1 v3 (racL b k).length ((racL b k).map (.int .i64)) ∧ Below W.heap.size W wr)
  case atStart => exact ⟨0, ⟨by omega, rfl, rfl⟩, World.ownsRow_nil _ _ _ _, Below.refl _ _⟩
  case round =>
    obtain ⟨k, ⟨hk, rfl, rfl⟩, hrow, hb⟩ := hrel
    have hbz := hb.size
    by_cases hlt : k < R
    case neg =>
      obtain rfl : k = R := by omega
      go_wp2_with (fail)
      refine bodyPost_ret (results_tmp rfl _ _ _) rfl ⟨_, rfl, ?_, B0.trans (hb.mono B0.size)⟩
      rw [show racN b = racL b k by unfold racN; rw [HR.out]; rfl]
      exact ownT_lower hrow (Nat.le_of_lt hWz)
    case pos =>
      have hwk : IntKind.i64.wrap ((k : Int) + 1) = (k : Int) + 1 := by rw [IntKind.wrap_i64]; omega
      obtain ⟨x0, x1, x2, x3, x4, x5, x6, x7, hxl⟩ := X0.out.up hb hWz
      have hll := racL_len b k
      go_wp2_with (fail)
      refine (isScratched_any wr B b A n c A2 m c2 (k : Int) (h.below (B0.trans (hb.mono B0.size)) hB) (by have := B0.size; omega)).mono ?_
      rintro e w2 ⟨rfl, hb2⟩
      have hb' := hb.trans (hb2.mono hbz)
      have hrow' := ownT_below hrow hb2 (Nat.le_refl _)
      have hbz' := hb'.size
      clear x0 x1 x2 x3 x4 x5 x6 x7 hxl hrow hb hb2 hbz
      by_cases hs : (k : Int) ∈ b.scr
      · have Hn := Lib.hid (show racL b (k + 1) = racL b k by rw [racL, if_pos hs, List.append_nil])
        rw [decide_eq_true hs]
        clear hs
        go_wp2_with (fail)
        go_roundg (R - (k + 1))
        case measure => omega
        case rel => exact ⟨k + 1, ⟨by omega, rfl, by simp⟩, by rw [Hn.out]; exact hrow', hb'⟩
      · have Hn := Lib.hid (show racL b (k + 1) = racL b k ++ [(k : Int)] by rw [racL, if_neg hs])
        rw [decide_eq_false hs]
        clear hs
        go_wp2_with (at_builtin; refine wpList_append_own_at _ rfl _ _ 23 rfl W.heap.size 3 i0 (.int .i64 0) 1 8 Tryz.underlying23 hi hz0 hz1 hz2 rfl (by decide) _ _ _ rfl (hrow'.alloc _) ⟨w2.heap.size, 0, none⟩ 1 1 [.int .i64 (k : Int)] rfl rfl (cell_one_new _ _ _) (by simp [Value.oneCell']) (by simp only [maxLen]; omega) (by omega) (by simp; omega) ?_; intro v' wA hown hgrow _ hat)
        go_roundg (R - (k + 1))
        case measure => omega
        case rel =>
          refine ⟨k + 1, ⟨by omega, rfl, by simp⟩, ?_, (hb'.alloc hbz' _).trans ((Below.refl _ _).grown hgrow (by simp; omega) (fun r e => (hrow'.lt r e).1))⟩
          rw [Hn.out, List.map_append, List.length_append]
          exact hown
end Go.Proofs.YtbahiemjaomdcaaGreat

/- pool: iterators, and regions that draw: SH. -/

/- pool: blocks of cells; named. -/
namespace Go.Proofs.YtbahiemjaomdcaaGreat
open Go.RowKit Go.Shelf

attribute [local go_sem] Oper.semAt_some

/-- A block of cells. -/
def Blk (W : World) (k : Nat) (cs : Array Value) (T : TypeId) : Prop := W.heap[k]? = some (.cells cs T (0, 0))
section
variable {W W' : World} {k : Nat} {cs : Array Value} {T : TypeId}
theorem Blk.lt (h : Blk W k cs T) : k < W.heap.size := (Array.getElem?_eq_some_iff.1 h).1
theorem Blk.cell (h : Blk W k cs T) (j : Nat) : W.cell? ⟨k, j, none⟩ = cs[j]? := by
  unfold Blk at h
  simp [World.cell?, h]
theorem Blk.frozen (h : Blk W k cs T) (j : Nat) : W.frozen? ⟨k, j, none⟩ = false := by
  unfold Blk at h
  simp [World.frozen?, h]
theorem Blk.up {D : Nat} (h : Blk W k cs T) (hb : Below D W W') (hD : k < D) : Blk W' k cs T := (hb.block k hD).trans h
theorem Blk.new (w : World) (cs : Array Value) (T : TypeId) : Blk (w.alloc (.cells cs T)) w.heap.size cs T := World.alloc_heap_new w _
theorem Blk.alloc (h : Blk W k cs T) (o : Obj) : Blk (W.alloc o) k cs T := h.up ((Below.refl _ W).alloc (Nat.le_refl _) o) h.lt
theorem Blk.set (h : Blk W k cs T) (j : Nat) (v : Value) : Blk (W.setCell ⟨k, j, none⟩ v) k (cs.setIfInBounds j v) T := by
  unfold Blk at h ⊢
  simp [World.setCell, Array.getElem?_modify, h]
theorem Blk.drew (h : Blk W k cs T) : Blk W.drew k cs T := h
end
/-- What a bet names: nothing if a runner of it is scratched. -/
def okF (b : Bk) (x : Bet) : Bool := !decide (x.first ∈ b.scr) && !decide (x.second ∈ b.scr)
structure NamS (k : Nat) (b : Bk) (A : Option Addr) (n c : Nat) (A2 : Option Addr) (m c2 : Nat) (x : Bet) (W : World) : Prop where
  bx : Box8 W k b A n c A2 m c2
  bt : Bet3 W (k + 1) x
  bz : ∃ a0 a1, Blk W (k + 2) #[a0, a1] 85
theorem NamS.up {k : Nat} {b : Bk} {A : Option Addr} {n c : Nat} {A2 : Option Addr} {m c2 : Nat} {x : Bet} {W W' : World} (h : NamS k b A n c A2 m c2 x W) (hb : Below W.heap.size W W') : NamS k b A n c A2 m c2 x W' :=
  ⟨h.bx.up hb h.bx.lt, h.bt.up hb h.bt.lt, h.bz.elim fun a0 h => h.elim fun a1 h => ⟨a0, a1, h.up hb h.lt⟩⟩
theorem named_results (W : World) (tmps : Array Value) (k : Nat) (a b : Value) (ok : Bool) (T : TypeId) (h : Blk W k #[a, b] T) (t : tmps.getD 4 undef = .pointer (some ⟨k, 0, none⟩)) (t5 : tmps.getD 5 undef = .bool ok) :
    (results Tryz.f82 tmps).run Tryz.prog W = .ok (.tuple #[.agg #[a, b], .bool ok]) W := by
  have c0 := h.cell 0
  have c1 := h.cell 1
  simp only [Array.getD_eq_getD_getElem?] at t t5
  simp at c0 c1
  simp [results, Tryz.results82, go_sem, t, t5, c0, c1]
set_option maxRecDepth 100000 in
set_option maxHeartbeats 8000000 in
theorem named_any (w : World) (B : Nat) (b : Bk) (A : Option Addr) (n c : Nat) (A2 : Option Addr) (m c2 : Nat) (x : Bet) (h : IntsAt w B A2 m b.scr) (hB : B ≤ w.heap.size) :
    Calls Tryz.prog 82 #[bkV b A n c A2 m c2, betV x] w fun e w' => e = .returned (.tuple #[.agg #[.int .i64 x.first, .int .i64 x.second], .bool (okF b x)]) ∧ Below w.heap.size w w' := by
  go_enter Tryz.func82, Tryz.ntmps82
  go_wp2
  obtain ⟨W, hW⟩ : ∃ W, W = ((w.alloc (.cells (bkC b A n c A2 m c2) 72)).alloc (.cells (betC x) 93)).alloc (.cells #[.int .i64 0, .int .i64 0] 85) := ⟨_, rfl⟩
  have B1 : Below w.heap.size w W.drew := by rw [hW]; exact ((((Below.refl _ w).alloc (Nat.le_refl _) _).alloc (by simp) _).alloc (by simp; omega) _).drew
  have hS : NamS w.heap.size b A n c A2 m c2 x W.drew := by
    have s1 : (w.alloc (.cells (bkC b A n c A2 m c2) 72)).heap.size = w.heap.size + 1 := World.size_alloc _ _
    have s2 : ((w.alloc (.cells (bkC b A n c A2 m c2) 72)).alloc (.cells (betC x) 93)).heap.size = w.heap.size + 2 := by rw [World.size_alloc, s1]
    have y := Bet3.new (w.alloc (.cells (bkC b A n c A2 m c2) 72)) x 93
    have z := Blk.new ((w.alloc (.cells (bkC b A n c A2 m c2) 72)).alloc (.cells (betC x) 93)) #[.int .i64 0, .int .i64 0] 85
    rw [s1] at y
    rw [s2] at z
    rw [hW]
    refine NamS.up (W := ((w.alloc (.cells (bkC b A n c A2 m c2) 72)).alloc (.cells (betC x) 93)).alloc (.cells #[.int .i64 0, .int .i64 0] 85)) ?_ (below_drew _)
    exact ⟨((Box8.new w b A n c A2 m c2 _).alloc _).alloc _, y.up ((Below.refl _ _).alloc (Nat.le_refl _) _) y.lt, _, _, z⟩
  rw [← hW]
  clear hW
  refine region_held_wp 1 (NamS w.heap.size b A n c A2 m c2 x) (fun i => [0, 1, 2, 3, 4, 5, 6, 7, 8, 9, 10, 11, 12, 13, 14, 15, 16, 17, 18].contains i) (by kernel_rfl) ?_
  intro KR hKR
  generalize W.drew = W1 at B1 hS ⊢
  refine wpAnyHI_takeE (i := 0) (v := ?v0) (some 6) rfl rfl (by kernel_rfl) (by kernel_rfl) (by kernel_rfl) (by kernel_rfl) (by kernel_rfl) (fun _ _ _ h => h) hS (.inl ⟨by kernel_rfl, fun W' hS' => ?y0⟩) ?z0
  case y0 => obtain ⟨⟨x0, x1, x2, x3, x4, x5, x6, x7, -⟩, ⟨y0, y1, y2, -⟩, -⟩ := hS'; go_simp; try exact rfl
  refine wpAnyHI_takeE (i := 2) (v := ?v2) (some 8) rfl rfl (by kernel_rfl) (by kernel_rfl) (by kernel_rfl) (by kernel_rfl) (by kernel_rfl) (fun _ _ _ h => h) hS (.inl ⟨by kernel_rfl, fun W' hS' => ?y2⟩) ?z2
  case y2 => obtain ⟨⟨x0, x1, x2, x3, x4, x5, x6, x7, -⟩, ⟨y0, y1, y2, -⟩, -⟩ := hS'; go_simp; try exact rfl
  refine wpAnyHI_takeE (i := 5) (v := ?v5) (some 11) rfl rfl (by kernel_rfl) (by kernel_rfl) (by kernel_rfl) (by kernel_rfl) (by kernel_rfl) (fun _ _ _ h => h) hS (.inl ⟨by kernel_rfl, fun W' hS' => ?y5⟩) ?z5
  case y5 => obtain ⟨⟨x0, x1, x2, x3, x4, x5, x6, x7, -⟩, ⟨y0, y1, y2, -⟩, -⟩ := hS'; go_simp; try exact rfl
  refine wpAnyHI_takeE (i := 6) (v := ?v6) (some 12) rfl rfl (by kernel_rfl) (by kernel_rfl) (by kernel_rfl) (by kernel_rfl) (by kernel_rfl) (fun _ _ _ h => h) hS (.inl ⟨by kernel_rfl, fun W' hS' => ?y6⟩) ?z6
  case y6 => obtain ⟨⟨x0, x1, x2, x3, x4, x5, x6, x7, -⟩, ⟨y0, y1, y2, -⟩, -⟩ := hS'; go_simp; try exact rfl
  refine wpAnyHI_takeE (i := 1) (v := ?v1) (some 7) rfl rfl (by kernel_rfl) (by kernel_rfl) (by kernel_rfl) (by kernel_rfl) (by kernel_rfl) (fun _ _ _ h => h) hS (.inl ⟨by kernel_rfl, fun W' hS' => ?y1⟩) ?z1
  case y1 => obtain ⟨⟨x0, x1, x2, x3, x4, x5, x6, x7, -⟩, ⟨y0, y1, y2, -⟩, -⟩ := hS'; go_simp; try exact rfl
  refine wpAnyHI_takeE (i := 3) (v := ?v3) (some 9) rfl rfl (by kernel_rfl) (by kernel_rfl) (by kernel_rfl) (by kernel_rfl) (by kernel_rfl) (fun _ _ _ h => h) hS (.inl ⟨by kernel_rfl, fun W' hS' => ?y3⟩) ?z3
  case y3 => obtain ⟨⟨x0, x1, x2, x3, x4, x5, x6, x7, -⟩, ⟨y0, y1, y2, -⟩, -⟩ := hS'; go_simp; try exact rfl
  refine wpAnyHI_takeE (i := 7) (v := ?v7) (some 13) rfl rfl (by kernel_rfl) (by kernel_rfl) (by kernel_rfl) (by kernel_rfl) (by kernel_rfl) (fun _ _ _ h => h) hS (.inl ⟨by kernel_rfl, fun W' hS' => ?y7⟩) ?z7
  case y7 => obtain ⟨⟨x0, x1, x2, x3, x4, x5, x6, x7, -⟩, ⟨y0, y1, y2, -⟩, -⟩ := hS'; go_simp; try exact rfl
  refine wpAnyHI_takeE (i := 4) (v := ?v4) (some 10) rfl rfl (by kernel_rfl) (by kernel_rfl) (by kernel_rfl) (by kernel_rfl) (by kernel_rfl) (fun _ _ _ h => h) hS (.inl ⟨by kernel_rfl, fun W' hS' => ?y4⟩) ?z4
  case y4 => go_simp; try exact rfl
  refine wpAnyHI_one (i := 8) rfl (by kernel_rfl) ?_
  intro K1 hK1
  go_simp
  refine ⟨trivial, (callsIn_wide.2 (isScratched_any W1 B b A n c A2 m c2 x.first (h.below B1 hB) (Nat.le_trans hB B1.size))).mono ?_⟩
  rintro e W2 ⟨rfl, hb⟩
  have hS := hS.up hb
  have B1 := B1.trans (hb.mono B1.size)
  refine hK1 _ _ ⟨fun _ => hS, ?_⟩
  clear hK1 K1 hb
  by_cases hs1 : x.first ∈ b.scr
  case pos =>
    rw [decide_eq_true hs1]
    have Ho := Lib.hid (show okF b x = false by unfold okF; rw [decide_eq_true hs1]; rfl)
    clear hs1
    refine wpAnyHI_takeE (i := 9) (v := ?v9a) (some 15) rfl rfl (by kernel_rfl) (by kernel_rfl) (by kernel_rfl) (by kernel_rfl) (by kernel_rfl) (fun _ _ _ h => h) hS (.inl ⟨by kernel_rfl, fun W' hS' => ?y9a⟩) ?z9a
    case y9a => obtain ⟨⟨x0, x1, x2, x3, x4, x5, x6, x7, -⟩, ⟨y0, y1, y2, -⟩, -⟩ := hS'; go_simp; try exact rfl
    refine wpAnyHI_takeE (i := 10) (v := ?v10a) (some 16) rfl rfl (by kernel_rfl) (by kernel_rfl) (by kernel_rfl) (by kernel_rfl) (by kernel_rfl) (fun _ _ _ h => h) hS (.inl ⟨by kernel_rfl, fun W' hS' => ?y10a⟩) ?z10a
    case y10a => obtain ⟨⟨x0, x1, x2, x3, x4, x5, x6, x7, -⟩, ⟨y0, y1, y2, -⟩, -⟩ := hS'; go_simp; try exact rfl
    refine wpAnyHI_takeE (i := 11) (v := undef) (some 17) rfl rfl (by kernel_rfl) (by kernel_rfl) (by kernel_rfl) (by kernel_rfl) (by kernel_rfl) (fun _ _ _ h => h) hS (.inr ⟨by kernel_rfl, rfl⟩) ?_
    refine wpAnyHI_takeE (i := 12) (v := undef) (some 18) rfl rfl (by kernel_rfl) (by kernel_rfl) (by kernel_rfl) (by kernel_rfl) (by kernel_rfl) (fun _ _ _ h => h) hS (.inr ⟨by kernel_rfl, rfl⟩) ?_
    refine wpAnyHI_takeE (i := 13) (v := undef) (some 19) rfl rfl (by kernel_rfl) (by kernel_rfl) (by kernel_rfl) (by kernel_rfl) (by kernel_rfl) (fun _ _ _ h => h) hS (.inr ⟨by kernel_rfl, rfl⟩) ?_
    refine wpAnyHI_takeE (i := 14) (v := undef) (some 20) rfl rfl (by kernel_rfl) (by kernel_rfl) (by kernel_rfl) (by kernel_rfl) (by kernel_rfl) (fun _ _ _ h => h) hS (.inr ⟨by kernel_rfl, rfl⟩) ?_
    refine wpAnyHI_takeE (i := 15) (v := undef) (some 21) rfl rfl (by kernel_rfl) (by kernel_rfl) (by kernel_rfl) (by kernel_rfl) (by kernel_rfl) (fun _ _ _ h => h) hS (.inr ⟨by kernel_rfl, rfl⟩) ?_
    refine wpAnyHI_takeE (i := 16) (v := ?v16a) (some 22) rfl rfl (by kernel_rfl) (by kernel_rfl) (by kernel_rfl) (by kernel_rfl) (by kernel_rfl) (fun _ _ _ h => h) hS (.inl ⟨by kernel_rfl, fun W' hS' => ?y16a⟩) ?z16a
    case y16a => obtain ⟨⟨x0, x1, x2, x3, x4, x5, x6, x7, -⟩, ⟨y0, y1, y2, -⟩, -⟩ := hS'; go_simp; try exact rfl
    obtain ⟨a0, a1, hZ⟩ := hS.bz
    have z0 := hZ.cell 0
    have z1 := hZ.cell 1
    have f0 := hZ.frozen 0
    have f1 := hZ.frozen 1
    refine wpAnyHI_one (i := 17) rfl (by kernel_rfl) ?_
    intro K1 hK1
    go_simp
    gi_wp2_with (fail)
    go_wp2_with (fail)
    have hw := ((hZ.set 0 (.int .i64 x.first)).set 1 (.int .i64 x.second))
    have B1 := (B1.setCell (p := ⟨w.heap.size + 2, 0, none⟩) (by simp) (.int .i64 x.first)).setCell (p := ⟨w.heap.size + 2, 1, none⟩) (by simp) (.int .i64 x.second)
    have B2 := ((Below.refl (w.heap.size + 2) W2).setCell (p := ⟨w.heap.size + 2, 0, none⟩) (Nat.le_refl _) (.int .i64 x.first)).setCell (p := ⟨w.heap.size + 2, 1, none⟩) (Nat.le_refl _) (.int .i64 x.second)
    refine ⟨fun _ => ⟨hS.bx.up B2 (by omega), hS.bt.up B2 (by omega), _, _, hw⟩, ?_⟩
    clear hZ z0 z1 f0 f1
    have hS : NamS w.heap.size b A n c A2 m c2 x _ := ⟨hS.bx.up B2 (by omega), hS.bt.up B2 (by omega), _, _, hw⟩
    clear B2
    refine wpAnyHI_takeE (i := 18) (v := ?v18a) (some 5) rfl rfl (by kernel_rfl) (by kernel_rfl) (by kernel_rfl) (by kernel_rfl) (by kernel_rfl) (fun _ _ _ h => h) hS (.inl ⟨by kernel_rfl, fun W' hS' => ?y18a⟩) ?z18a
    case y18a => go_simp; try exact rfl
    refine wpAnyHI_end (by kernel_rfl) ?_
    show KR _ _
    go_simp
    refine hKR _ _ ?_
    go_wp2_with (fail)
    refine bodyPost_ret (named_results _ _ (w.heap.size + 2) (.int .i64 x.first) (.int .i64 x.second) false _ hw (by simp) (by simp)) rfl ⟨by rw [Ho.out], B1⟩
  case neg =>
    rw [decide_eq_false hs1]
    have Ho := Lib.hid (show okF b x = !decide (x.second ∈ b.scr) by unfold okF; rw [decide_eq_false hs1]; rfl)
    clear hs1
    refine wpAnyHI_takeE (i := 9) (v := ?v9b) (some 15) rfl rfl (by kernel_rfl) (by kernel_rfl) (by kernel_rfl) (by kernel_rfl) (by kernel_rfl) (fun _ _ _ h => h) hS (.inl ⟨by kernel_rfl, fun W' hS' => ?y9b⟩) ?z9b
    case y9b => obtain ⟨⟨x0, x1, x2, x3, x4, x5, x6, x7, -⟩, ⟨y0, y1, y2, -⟩, -⟩ := hS'; go_simp; try exact rfl
    refine wpAnyHI_takeE (i := 10) (v := ?v10b) (some 16) rfl rfl (by kernel_rfl) (by kernel_rfl) (by kernel_rfl) (by kernel_rfl) (by kernel_rfl) (fun _ _ _ h => h) hS (.inl ⟨by kernel_rfl, fun W' hS' => ?y10b⟩) ?z10b
    case y10b => obtain ⟨⟨x0, x1, x2, x3, x4, x5, x6, x7, -⟩, ⟨y0, y1, y2, -⟩, -⟩ := hS'; go_simp; try exact rfl
    refine wpAnyHI_takeE (i := 12) (v := ?v12b) (some 18) rfl rfl (by kernel_rfl) (by kernel_rfl) (by kernel_rfl) (by kernel_rfl) (by kernel_rfl) (fun _ _ _ h => h) hS (.inl ⟨by kernel_rfl, fun W' hS' => ?y12b⟩) ?z12b
    case y12b => obtain ⟨⟨x0, x1, x2, x3, x4, x5, x6, x7, -⟩, ⟨y0, y1, y2, -⟩, -⟩ := hS'; go_simp; try exact rfl
    refine wpAnyHI_takeE (i := 11) (v := ?v11b) (some 17) rfl rfl (by kernel_rfl) (by kernel_rfl) (by kernel_rfl) (by kernel_rfl) (by kernel_rfl) (fun _ _ _ h => h) hS (.inl ⟨by kernel_rfl, fun W' hS' => ?y11b⟩) ?z11b
    case y11b => obtain ⟨⟨x0, x1, x2, x3, x4, x5, x6, x7, -⟩, ⟨y0, y1, y2, -⟩, -⟩ := hS'; go_simp; try exact rfl
    refine wpAnyHI_takeE (i := 13) (v := ?v13b) (some 19) rfl rfl (by kernel_rfl) (by kernel_rfl) (by kernel_rfl) (by kernel_rfl) (by kernel_rfl) (fun _ _ _ h => h) hS (.inl ⟨by kernel_rfl, fun W' hS' => ?y13b⟩) ?z13b
    case y13b => obtain ⟨⟨x0, x1, x2, x3, x4, x5, x6, x7, -⟩, ⟨y0, y1, y2, -⟩, -⟩ := hS'; go_simp; try exact rfl
    refine wpAnyHI_one (i := 14) rfl (by kernel_rfl) ?_
    intro K1 hK1
    go_simp
    refine ⟨trivial, (callsIn_wide.2 (isScratched_any W2 B b A n c A2 m c2 x.second (h.below B1 hB) (Nat.le_trans hB B1.size))).mono ?_⟩
    rintro e W3 ⟨rfl, hb⟩
    have hS := hS.up hb
    have B1 := B1.trans (hb.mono B1.size)
    refine hK1 _ _ ⟨fun _ => hS, ?_⟩
    clear hK1 K1 hb
    refine wpAnyHI_takeE (i := 15) (v := ?v15b) (some 21) rfl rfl (by kernel_rfl) (by kernel_rfl) (by kernel_rfl) (by kernel_rfl) (by kernel_rfl) (fun _ _ _ h => h) hS (.inl ⟨by kernel_rfl, fun W' hS' => ?y15b⟩) ?z15b
    case y15b => obtain ⟨⟨x0, x1, x2, x3, x4, x5, x6, x7, -⟩, ⟨y0, y1, y2, -⟩, -⟩ := hS'; go_simp; try exact rfl
    refine wpAnyHI_takeE (i := 16) (v := ?v16b) (some 22) rfl rfl (by kernel_rfl) (by kernel_rfl) (by kernel_rfl) (by kernel_rfl) (by kernel_rfl) (fun _ _ _ h => h) hS (.inl ⟨by kernel_rfl, fun W' hS' => ?y16b⟩) ?z16b
    case y16b => obtain ⟨⟨x0, x1, x2, x3, x4, x5, x6, x7, -⟩, ⟨y0, y1, y2, -⟩, -⟩ := hS'; go_simp; try exact rfl
    obtain ⟨a0, a1, hZ⟩ := hS.bz
    have z0 := hZ.cell 0
    have z1 := hZ.cell 1
    have f0 := hZ.frozen 0
    have f1 := hZ.frozen 1
    refine wpAnyHI_one (i := 17) rfl (by kernel_rfl) ?_
    intro K1 hK1
    go_simp
    gi_wp2_with (fail)
    go_wp2_with (fail)
    have hw := ((hZ.set 0 (.int .i64 x.first)).set 1 (.int .i64 x.second))
    have B1 := (B1.setCell (p := ⟨w.heap.size + 2, 0, none⟩) (by simp) (.int .i64 x.first)).setCell (p := ⟨w.heap.size + 2, 1, none⟩) (by simp) (.int .i64 x.second)
    have B2 := ((Below.refl (w.heap.size + 2) W3).setCell (p := ⟨w.heap.size + 2, 0, none⟩) (Nat.le_refl _) (.int .i64 x.first)).setCell (p := ⟨w.heap.size + 2, 1, none⟩) (Nat.le_refl _) (.int .i64 x.second)
    refine ⟨fun _ => ⟨hS.bx.up B2 (by omega), hS.bt.up B2 (by omega), _, _, hw⟩, ?_⟩
    clear hZ z0 z1 f0 f1
    have hS : NamS w.heap.size b A n c A2 m c2 x _ := ⟨hS.bx.up B2 (by omega), hS.bt.up B2 (by omega), _, _, hw⟩
    clear B2
    refine wpAnyHI_takeE (i := 18) (v := ?v18b) (some 5) rfl rfl (by kernel_rfl) (by kernel_rfl) (by kernel_rfl) (by kernel_rfl) (by kernel_rfl) (fun _ _ _ h => h) hS (.inl ⟨by kernel_rfl, fun W' hS' => ?y18b⟩) ?z18b
    case y18b => go_simp; try exact rfl
    refine wpAnyHI_end (by kernel_rfl) ?_
    show KR _ _
    go_simp
    refine hKR _ _ ?_
    go_wp2_with (fail)
    refine bodyPost_ret (named_results _ _ (w.heap.size + 2) (.int .i64 x.first) (.int .i64 x.second) (!decide (x.second ∈ b.scr)) _ hw (by simp) (by simp)) rfl ⟨by rw [Ho.out], B1⟩
end Go.Proofs.YtbahiemjaomdcaaGreat

/- pool: count. -/
namespace Go.Proofs.YtbahiemjaomdcaaGreat
open Go.RowKit Go.Shelf

attribute [local go_sem] Oper.semAt_some

/-- A tally of eight. -/
def tA (t : Nat → Int) : Array Value := #[.int .i64 (t 0), .int .i64 (t 1), .int .i64 (t 2), .int .i64 (t 3), .int .i64 (t 4), .int .i64 (t 5), .int .i64 (t 6), .int .i64 (t 7)]
theorem tA_get (t : Nat → Int) {j : Nat} (h : j < 8) : (tA t)[j]? = some (.int .i64 (t j)) := by
  match j, h with
  | 0, _ => rfl
  | 1, _ => rfl
  | 2, _ => rfl
  | 3, _ => rfl
  | 4, _ => rfl
  | 5, _ => rfl
  | 6, _ => rfl
  | 7, _ => rfl
theorem tA_size (t : Nat → Int) : (tA t).size = 8 := rfl
theorem tA_set (t : Nat → Int) {j : Nat} (h : j < 8) (v : Int) : (tA t).setIfInBounds j (.int .i64 v) = tA (fun i => if i = j then v else t i) := by
  match j, h with
  | 0, _ => rfl
  | 1, _ => rfl
  | 2, _ => rfl
  | 3, _ => rfl
  | 4, _ => rfl
  | 5, _ => rfl
  | 6, _ => rfl
  | 7, _ => rfl
theorem tA_congr {t t' : Nat → Int} (h : ∀ i, t i = t' i) : tA t = tA t' := by rw [funext h]
def tallyF (ok : Bet → Bool) (s : Bet → Int) (bs : List Bet) (i : Nat) : Int := (bs.map fun x => if ok x = true ∧ s x = (i : Int) then x.units else 0).sum
theorem tallyF_take (ok : Bet → Bool) (s : Bet → Int) (bs : List Bet) (i : Nat) {k : Nat} (h : k < bs.length) {x : Bet} (hx : x = bs[k]?.getD noBet) :
    tallyF ok s (bs.take (k + 1)) i = tallyF ok s (bs.take k) i + (if ok x = true ∧ s x = (i : Int) then x.units else 0) := by
  rw [List.getElem?_eq_getElem h] at hx
  simp only [Option.getD_some] at hx
  subst hx
  unfold tallyF
  rw [List.take_succ_eq_append_getElem h, List.map_append, List.sum_append]
  simp only [List.map_cons, List.map_nil, List.sum_cons, List.sum_nil, Int.add_zero]
theorem tallyF_bound (ok : Bet → Bool) (s : Bet → Int) : ∀ (bs : List Bet) (i : Nat), (∀ x ∈ bs, 0 ≤ x.units ∧ x.units ≤ 1000) → 0 ≤ tallyF ok s bs i ∧ tallyF ok s bs i ≤ 1000 * (bs.length : Int)
  | [], _, _ => by simp [tallyF]
  | y :: bs, i, h => by
    have ih := tallyF_bound ok s bs i fun x hx => h x (List.mem_cons_of_mem _ hx)
    have hy := h y (List.mem_cons_self)
    have e : tallyF ok s (y :: bs) i = (if ok y = true ∧ s y = (i : Int) then y.units else 0) + tallyF ok s bs i := by simp [tallyF]
    rw [e, List.length_cons]
    split <;> omega
/-- What a function answers of these bets, in whatever world above. -/
def OnAt (f : Nat) (rv : Value) (w : World) (bs : List Bet) (s1 s2 : Bet → Int) (ok : Bet → Bool) : Prop :=
  (∀ args W, (callFunc f args).run Tryz.prog W = .ok (.enter f args) W) ∧ ∀ W, Below w.heap.size w W → ∀ x, x ∈ bs → Calls Tryz.prog f #[rv, betV x] W fun e w' => e = .returned (.tuple #[.agg #[.int .i64 (s1 x), .int .i64 (s2 x)], .bool (ok x)]) ∧ Below W.heap.size W w'
theorem count_results (W : World) (tmps : Array Value) (k : Nat) (t : Nat → Int) (T : TypeId) (h : Blk W k (tA t) T) (e : tmps.getD 4 undef = .pointer (some ⟨k, 0, none⟩)) :
    (results Tryz.f73 tmps).run Tryz.prog W = .ok (.agg (tA t)) W := by
  have c0 := (h.cell 0).trans (tA_get _ (by decide))
  have c1 := (h.cell 1).trans (tA_get _ (by decide))
  have c2 := (h.cell 2).trans (tA_get _ (by decide))
  have c3 := (h.cell 3).trans (tA_get _ (by decide))
  have c4 := (h.cell 4).trans (tA_get _ (by decide))
  have c5 := (h.cell 5).trans (tA_get _ (by decide))
  have c6 := (h.cell 6).trans (tA_get _ (by decide))
  have c7 := (h.cell 7).trans (tA_get _ (by decide))
  simp only [Array.getD_eq_getD_getElem?] at e
  simp [results, Tryz.results73, go_sem, e, c0, c1, c2, c3, c4, c5, c6, c7, tA]
set_option maxRecDepth 100000 in
set_option maxHeartbeats 8000000 in
theorem count_any (w : World) (B : Nat) (b : Bk) (A : Option Addr) (n c : Nat) (A2 : Option Addr) (m c2 : Nat) (f : Nat) (rv : Value) (s1 s2 : Bet → Int) (ok : Bet → Bool) (h : BetsAt w B A n b.bets) (hB : B ≤ w.heap.size)
    (hf : OnAt f rv w b.bets s1 s2 ok) (hs : ∀ x ∈ b.bets, ok x = true → 0 ≤ s1 x ∧ s1 x < 8) (hu : ∀ x ∈ b.bets, 0 ≤ x.units ∧ x.units ≤ 1000) (hn : b.bets.length ≤ 1000) :
    Calls Tryz.prog 73 #[bkV b A n c A2 m c2, .func (.func f) #[rv] #[]] w fun e w' => e = .returned (.agg (tA (tallyF ok s1 b.bets))) ∧ Below w.heap.size w w' := by
  have Hl := Lib.hid h.1
  have he := hf.1
  have hf := Lib.hid hf.2
  have hm : n ≤ 1000 := by rw [← h.1]; exact hn
  go_enter Tryz.func73, Tryz.ntmps73
  go_wp2_with (fail)
  obtain ⟨W, hW⟩ : ∃ W, W = ((w.alloc (.cells (bkC b A n c A2 m c2) 72)).alloc (.cells #[.int .i64 0, .int .i64 0, .int .i64 0, .int .i64 0, .int .i64 0, .int .i64 0, .int .i64 0, .int .i64 0] 120)).alloc (.cells #[.int .i64 0, .int .i64 0, .int .i64 0, .int .i64 0, .int .i64 0, .int .i64 0, .int .i64 0, .int .i64 0] 120) := ⟨_, rfl⟩
  have hN : W.heap.size = w.heap.size + 3 := by rw [hW]; simp
  have B0 : Below w.heap.size w W := by rw [hW]; exact (((Below.refl _ w).alloc (Nat.le_refl _) _).alloc (by simp) _).alloc (by simp; omega) _
  have Z1 : Blk W (w.heap.size + 1) (tA fun _ => 0) 120 := by
    have z := Blk.new (w.alloc (.cells (bkC b A n c A2 m c2) 72)) #[.int .i64 0, .int .i64 0, .int .i64 0, .int .i64 0, .int .i64 0, .int .i64 0, .int .i64 0, .int .i64 0] 120
    rw [World.size_alloc] at z
    rw [hW]
    exact z.alloc _
  have Z2 : Blk W (w.heap.size + 2) (tA fun _ => 0) 120 := by
    have z := Blk.new ((w.alloc (.cells (bkC b A n c A2 m c2) 72)).alloc (.cells #[.int .i64 0, .int .i64 0, .int .i64 0, .int .i64 0, .int .i64 0, .int .i64 0, .int .i64 0, .int .i64 0] 120)) #[.int .i64 0, .int .i64 0, .int .i64 0, .int .i64 0, .int .i64 0, .int .i64 0, .int .i64 0, .int .i64 0] 120
    rw [World.size_alloc, World.size_alloc] at z
    rw [hW]
    exact z
  rw [← hW]
  clear hW
  go_loopg [7, 8, 9, 14] n (fun g' _ _ _ v14 wr => ∃ k : Nat, (k ≤ n ∧ g' = n - k ∧ v14 = .int .i64 (k : Int)) ∧ Below w.heap.size w wr ∧ w.heap.size + 3 ≤ wr.heap.size ∧ Blk wr (w.heap.size + 1) (tA fun _ => 0) 120 ∧ Blk wr (w.heap.size + 2) (tA (tallyF ok s1 (b.bets.take k))) 120)
  case atStart => exact ⟨0, ⟨by omega, rfl, rfl⟩, B0, by omega, Z1, Z2⟩
  case round =>
    clear B0 Z1 Z2 hN W
    obtain ⟨k, ⟨hk, rfl, rfl⟩, hb, hsz, Z1, Z2⟩ := hrel
    by_cases hlt : k < n
    case neg =>
      obtain rfl : k = n := by omega
      have z0 := (Z2.cell 0).trans (tA_get _ (by decide))
      have z1 := (Z2.cell 1).trans (tA_get _ (by decide))
      have z2 := (Z2.cell 2).trans (tA_get _ (by decide))
      have z3 := (Z2.cell 3).trans (tA_get _ (by decide))
      have z4 := (Z2.cell 4).trans (tA_get _ (by decide))
      have z5 := (Z2.cell 5).trans (tA_get _ (by decide))
      have z6 := (Z2.cell 6).trans (tA_get _ (by decide))
      have z7 := (Z2.cell 7).trans (tA_get _ (by decide))
      have y0 := (Z1.cell 0).trans (tA_get _ (by decide))
      have g0 := Z1.frozen 0
      have y1 := (Z1.cell 1).trans (tA_get _ (by decide))
      have g1 := Z1.frozen 1
      have y2 := (Z1.cell 2).trans (tA_get _ (by decide))
      have g2 := Z1.frozen 2
      have y3 := (Z1.cell 3).trans (tA_get _ (by decide))
      have g3 := Z1.frozen 3
      have y4 := (Z1.cell 4).trans (tA_get _ (by decide))
      have g4 := Z1.frozen 4
      have y5 := (Z1.cell 5).trans (tA_get _ (by decide))
      have g5 := Z1.frozen 5
      have y6 := (Z1.cell 6).trans (tA_get _ (by decide))
      have g6 := Z1.frozen 6
      have y7 := (Z1.cell 7).trans (tA_get _ (by decide))
      have g7 := Z1.frozen 7
      obtain ⟨t, ht⟩ : ∃ t, t = tallyF ok s1 (b.bets.take k) := ⟨_, rfl⟩
      rw [← ht] at z0 z1 z2 z3 z4 z5 z6 z7
      have Ht := Lib.hid ht
      clear ht
      have hw : Blk _ _ (tA t) _ := ((((((((Z1.set 0 (.int .i64 (t 0))).set 1 (.int .i64 (t 1))).set 2 (.int .i64 (t 2))).set 3 (.int .i64 (t 3))).set 4 (.int .i64 (t 4))).set 5 (.int .i64 (t 5))).set 6 (.int .i64 (t 6))).set 7 (.int .i64 (t 7)))
      have hb' := ((((((((hb.setCell (p := ⟨w.heap.size + 1, 0, none⟩) (by simp) (.int .i64 (t 0))).setCell (p := ⟨w.heap.size + 1, 1, none⟩) (by simp) (.int .i64 (t 1))).setCell (p := ⟨w.heap.size + 1, 2, none⟩) (by simp) (.int .i64 (t 2))).setCell (p := ⟨w.heap.size + 1, 3, none⟩) (by simp) (.int .i64 (t 3))).setCell (p := ⟨w.heap.size + 1, 4, none⟩) (by simp) (.int .i64 (t 4))).setCell (p := ⟨w.heap.size + 1, 5, none⟩) (by simp) (.int .i64 (t 5))).setCell (p := ⟨w.heap.size + 1, 6, none⟩) (by simp) (.int .i64 (t 6))).setCell (p := ⟨w.heap.size + 1, 7, none⟩) (by simp) (.int .i64 (t 7)))
      go_wp2_with (fail)
      refine bodyPost_ret (count_results _ _ (w.heap.size + 1) t _ hw (by simp)) rfl ⟨by rw [Ht.out, List.take_of_length_le (by rw [Hl.out]; exact Nat.le_refl _)], hb'⟩
    case pos =>
      have hwk : IntKind.i64.wrap ((k : Int) + 1) = (k : Int) + 1 := by rw [IntKind.wrap_i64]; omega
      obtain ⟨b3, o3, rfl, hb3, k0, k1, k2⟩ := (h.below hb hB).at hlt
      obtain ⟨x, hxe⟩ : ∃ x, x = b.bets[k]?.getD noBet := ⟨_, rfl⟩
      rw [← hxe] at k0 k1 k2
      have hxm : x ∈ b.bets := by
        rw [List.getElem?_eq_getElem (by rw [Hl.out]; exact hlt)] at hxe
        rw [hxe]
        exact List.getElem_mem _
      have Hx := Lib.hid hxe
      clear hxe
      go_wp2_with (fail)
      refine (hf.out _ (hb.alloc hb.size _) x hxm).mono ?_
      rintro e w2 ⟨rfl, hb2⟩
      have Y : Bet3 w2 wr.heap.size x := (Bet3.new wr x 93).up hb2 (by simp)
      have hb3' := hb.trans (((Below.refl _ wr).alloc (Nat.le_refl _) (.cells (betC x) 93)).trans (hb2.mono (by simp)) |>.mono hb.size)
      have Z1' := Z1.up (((Below.refl _ wr).alloc (Nat.le_refl _) (.cells (betC x) 93)).trans (hb2.mono (by simp))) Z1.lt
      have Z2' := Z2.up (((Below.refl _ wr).alloc (Nat.le_refl _) (.cells (betC x) 93)).trans (hb2.mono (by simp))) Z2.lt
      have hsz2 : wr.heap.size + 1 ≤ w2.heap.size := Nat.le_trans (by simp) hb2.size
      clear hb2 hb k0 k1 k2 Z1 Z2
      obtain ⟨u, hu'⟩ : ∃ u, u = ok x := ⟨_, rfl⟩
      rw [← hu']
      have Hu := Lib.hid hu'
      clear hu'
      cases u with
      | false =>
        go_wp2_with (fail)
        go_roundg (n - (k + 1))
        case measure => omega
        case rel => exact ⟨k + 1, ⟨by omega, rfl, by simp⟩, hb3'.alloc hb3'.size _, by simp; omega, Z1'.alloc _, by
          have e : ∀ j, tallyF ok s1 (b.bets.take (k + 1)) j = tallyF ok s1 (b.bets.take k) j := fun j => by
            rw [tallyF_take ok s1 b.bets j (by rw [Hl.out]; exact hlt) Hx.out, ← Hu.out]
            simp
          rw [tA_congr e]
          exact Z2'.alloc _⟩
      | true =>
        have hs := hs x hxm Hu.out.symm
        obtain ⟨i, hi⟩ : ∃ i : Nat, s1 x = i := ⟨(s1 x).toNat, by omega⟩
        have hi8 : i < 8 := by omega
        have hi8' : (i : Int) < 8 := by omega
        go_wp2_with (fail)
        obtain ⟨t, ht⟩ : ∃ t, t = tallyF ok s1 (b.bets.take k) := ⟨_, rfl⟩
        have hT : ∀ j, t j + (if ok x = true ∧ s1 x = (j : Int) then x.units else 0) = tallyF ok s1 (b.bets.take (k + 1)) j := fun j => by rw [ht, ← tallyF_take ok s1 b.bets j (by rw [Hl.out]; exact hlt) Hx.out]
        have hti : 0 ≤ t i ∧ t i ≤ 1000 * n := by
          have := tallyF_bound ok s1 (b.bets.take k) i fun y hy => hu y (List.mem_of_mem_take hy)
          rw [← ht] at this
          have h1 : (b.bets.take k).length ≤ n := by rw [List.length_take, Hl.out]; omega
          omega
        have hux := hu x hxm
        have hwu : IntKind.i64.wrap (t i + x.units) = t i + x.units := by rw [IntKind.wrap_i64]; omega
        rw [← ht] at Z2'
        have HT := Lib.hid hT
        clear ht hT hti hux
        have S0 := cell_new w2 #[.int .i64 (i : Int), .int .i64 (s2 x)] 85 0
        have Y2 := (Y.up ((Below.refl _ w2).alloc (Nat.le_refl _) (.cells #[.int .i64 (i : Int), .int .i64 (s2 x)] 85)) Y.lt).k2
        have Z1s := (Z1'.alloc (.cells #[.int .i64 (i : Int), .int .i64 (s2 x)] 85)).drew
        have Z2s := (Z2'.alloc (.cells #[.int .i64 (i : Int), .int .i64 (s2 x)] 85)).drew
        have hsz3 : wr.heap.size + 2 ≤ ((w2.alloc (.cells #[.int .i64 (i : Int), .int .i64 (s2 x)] 85)).drew).heap.size := by show _ ≤ (w2.alloc _).heap.size; rw [World.size_alloc]; omega
        have hb4 : Below w.heap.size w (w2.alloc (.cells #[.int .i64 (i : Int), .int .i64 (s2 x)] 85)).drew := (hb3'.alloc hb3'.size _).drew
        replace S0 : ((w2.alloc (.cells #[.int .i64 (i : Int), .int .i64 (s2 x)] 85)).drew).cell? ⟨w2.heap.size, 0, none⟩ = _ := S0
        replace Y2 : ((w2.alloc (.cells #[.int .i64 (i : Int), .int .i64 (s2 x)] 85)).drew).cell? _ = _ := Y2
        refine region_held_wp 0 (fun W => W = (w2.alloc (.cells #[.int .i64 (i : Int), .int .i64 (s2 x)] 85)).drew) (fun j => [0, 1, 2, 3, 4, 5, 6, 7].contains j) (by kernel_rfl) ?_
        intro KR hKR
        generalize (w2.alloc (.cells #[.int .i64 (i : Int), .int .i64 (s2 x)] 85)).drew = W1 at S0 Y2 Z1s Z2s hb4 hsz3 ⊢
        have hS : W1 = W1 := rfl
        have zi := (Z2s.cell i).trans (tA_get _ hi8)
        have zf := Z2s.frozen i
        have hw := Z2s.set i (.int .i64 (t i + x.units))
        rw [tA_set t hi8] at hw
        have hw1 : Blk (W1.setCell ⟨w.heap.size + 2, i, none⟩ (.int .i64 (t i + x.units))) (w.heap.size + 1) (tA fun _ => 0) 120 := Z1s.up ((Below.refl (w.heap.size + 2) W1).setCell (p := ⟨w.heap.size + 2, i, none⟩) (Nat.le_refl _) _) (by omega)
        have hb5 := hb4.setCell (p := ⟨w.heap.size + 2, i, none⟩) (by simp) (.int .i64 (t i + x.units))
        clear Z1s Z2s hb4 hb3' Z1' Z2' Y
        refine wpAnyHI_takeE (i := 0) (v := ?v0) (some 25) rfl rfl (by kernel_rfl) (by kernel_rfl) (by kernel_rfl) (by kernel_rfl) (by kernel_rfl) (fun _ _ _ h => h) hS (.inl ⟨by kernel_rfl, fun W' hS' => ?y0⟩) ?z0
        case y0 => cases hS'; go_simp; try exact rfl
        refine wpAnyHI_takeE (i := 1) (v := ?v1) (some 26) rfl rfl (by kernel_rfl) (by kernel_rfl) (by kernel_rfl) (by kernel_rfl) (by kernel_rfl) (fun _ _ _ h => h) hS (.inl ⟨by kernel_rfl, fun W' hS' => ?y1⟩) ?z1
        case y1 => cases hS'; go_simp; try exact rfl
        refine wpAnyHI_takeE (i := 2) (v := ?v2) (some 27) rfl rfl (by kernel_rfl) (by kernel_rfl) (by kernel_rfl) (by kernel_rfl) (by kernel_rfl) (fun _ _ _ h => h) hS (.inl ⟨by kernel_rfl, fun W' hS' => ?y2⟩) ?z2
        case y2 => cases hS'; go_simp; try exact rfl
        refine wpAnyHI_takeE (i := 3) (v := ?v3) (some 28) rfl rfl (by kernel_rfl) (by kernel_rfl) (by kernel_rfl) (by kernel_rfl) (by kernel_rfl) (fun _ _ _ h => h) hS (.inl ⟨by kernel_rfl, fun W' hS' => ?y3⟩) ?z3
        case y3 => cases hS'; go_simp; try exact rfl
        refine wpAnyHI_takeE (i := 4) (v := ?v4) (some 29) rfl rfl (by kernel_rfl) (by kernel_rfl) (by kernel_rfl) (by kernel_rfl) (by kernel_rfl) (fun _ _ _ h => h) hS (.inl ⟨by kernel_rfl, fun W' hS' => ?y4⟩) ?z4
        case y4 => cases hS'; go_simp; try exact rfl
        refine wpAnyHI_takeE (i := 5) (v := ?v5) (some 30) rfl rfl (by kernel_rfl) (by kernel_rfl) (by kernel_rfl) (by kernel_rfl) (by kernel_rfl) (fun _ _ _ h => h) hS (.inl ⟨by kernel_rfl, fun W' hS' => ?y5⟩) ?z5
        case y5 => cases hS'; go_simp; try exact rfl
        refine wpAnyHI_takeE (i := 6) (v := ?v6) (some 31) rfl rfl (by kernel_rfl) (by kernel_rfl) (by kernel_rfl) (by kernel_rfl) (by kernel_rfl) (fun _ _ _ h => h) hS (.inl ⟨by kernel_rfl, fun W' hS' => ?y6⟩) ?z6
        case y6 => cases hS'; go_simp; try exact rfl
        refine wpAnyHI_takeE (i := 7) (v := ?v7) (some 32) rfl rfl (by kernel_rfl) (by kernel_rfl) (by kernel_rfl) (by kernel_rfl) (by kernel_rfl) (fun _ _ _ h => h) hS (.inl ⟨by kernel_rfl, fun W' hS' => ?y7⟩) ?z7
        case y7 => cases hS'; go_simp; try exact rfl
        refine wpAnyHI_tail (k := 8) rfl rfl (by kernel_rfl) (by kernel_rfl) ?_
        simp only [List.drop_succ_cons, List.drop_zero]
        gi_wp2_with (fail)
        go_wp2_with (fail)
        go_roundg (n - (k + 1))
        case measure => omega
        case rel => exact ⟨k + 1, ⟨by omega, rfl, by simp⟩, hb5, by simp; omega, hw1, by
          have e : ∀ j, (if j = i then t i + x.units else t j) = tallyF ok s1 (b.bets.take (k + 1)) j := fun j => by
            rw [← HT.out j, ← Hu.out, hi]
            by_cases hj : j = i
            · subst hj
              simp
            · rw [if_neg hj, if_neg (by omega)]
              omega
          rw [← tA_congr e]
          exact hw⟩
end Go.Proofs.YtbahiemjaomdcaaGreat
