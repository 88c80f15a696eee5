/- lag: slices of ints that read as lists; within; CheckCurve. -/
import Derived.Test.YtjidllaaokdjhaaRows
import Derived.WalkKit
import Derived.WalkSpells
import Derived.WalkLawsBesides
import Derived.Lib.Hide
import Derived.Deep.QuietTactic
import Derived.BigQuiet
import Derived.StillTailTactics
import Derived.Deep.LoopGhost
namespace Go.Proofs.Ytjidllaaokdjhaa
open Go.RowKit

/-- A slice of n elements at A reads as the ints xs; it lies below block B. -/
def IntsAt (w : World) (B : Nat) (A : Option Addr) (n : Nat) (xs : List Int) : Prop :=
  xs.length = n ∧ n ≤ 9223372036854775807 ∧ (0 < n → ∃ b off, A = some ⟨b, off, none⟩ ∧ b < B ∧ ∀ j, j < n → w.cell? ⟨b, off + j, none⟩ = some (.int .i64 (xs[j]?.getD 0)))

theorem IntsAt.len {w : World} {B : Nat} {A : Option Addr} {n : Nat} {xs : List Int} (h : IntsAt w B A n xs) : xs.length = n := h.1
theorem IntsAt.small {w : World} {B : Nat} {A : Option Addr} {n : Nat} {xs : List Int} (h : IntsAt w B A n xs) : n ≤ 9223372036854775807 := h.2.1
theorem IntsAt.cell {w : World} {B : Nat} {A : Option Addr} {n : Nat} {xs : List Int} (h : IntsAt w B A n xs) {k : Nat} (hk : k < n) :
    ∃ b off, A = some ⟨b, off, none⟩ ∧ b < B ∧ w.cell? ⟨b, off + k, none⟩ = some (.int .i64 (xs[k]?.getD 0)) := by
  obtain ⟨_, _, h⟩ := h
  obtain ⟨b, off, e, hb, hc⟩ := h (by omega)
  exact ⟨b, off, e, hb, hc k hk⟩
theorem IntsAt.keep {w w' : World} {B B' : Nat} {A : Option Addr} {n : Nat} {xs : List Int} (h : IntsAt w B A n xs) (hk : ∀ p : Addr, p.block < B → w'.cell? p = w.cell? p) (hB : B ≤ B') : IntsAt w' B' A n xs :=
  ⟨h.1, h.2.1, fun h0 => by
    obtain ⟨_, _, h⟩ := h
    obtain ⟨b, off, e, hlt, hc⟩ := h h0
    exact ⟨b, off, e, by omega, fun j hj => (hk ⟨b, off + j, none⟩ hlt).trans (hc j hj)⟩⟩
theorem IntsAt.below {w w' : World} {B D : Nat} {A : Option Addr} {n : Nat} {xs : List Int} (h : IntsAt w B A n xs) (hb : Below D w w') (hD : B ≤ D) : IntsAt w' B A n xs := h.keep (fun _ hp => hb.cell (Nat.lt_of_lt_of_le hp hD)) (Nat.le_refl _)
theorem IntsAt.more {w : World} {B B' : Nat} {A : Option Addr} {n : Nat} {xs : List Int} (h : IntsAt w B A n xs) (hB : B ≤ B') : IntsAt w B' A n xs := h.keep (fun _ _ => rfl) hB
theorem IntsAt.drewN {w : World} {B : Nat} {A : Option Addr} {n : Nat} {xs : List Int} (h : IntsAt w B A n xs) (k : Nat) : IntsAt (w.drewN k) B A n xs := h
theorem IntsAt.alloc {w : World} {B : Nat} {A : Option Addr} {n : Nat} {xs : List Int} (h : IntsAt w B A n xs) (hB : B ≤ w.heap.size) (o : Obj) : IntsAt (w.alloc o) B A n xs :=
  h.keep (fun p hp => World.cell?_alloc_lt w o p (by omega)) (Nat.le_refl _)
theorem IntsAt.nil {w : World} {B : Nat} : IntsAt w B none 0 [] := ⟨rfl, by omega, fun h => absurd h (by omega)⟩

theorem ret_bool {a b : Bool} (h : a = b) : Ending.returned (.bool a) = .returned (.bool b) := by rw [h]
theorem ret_int {k : IntKind} {a b : Int} (h : a = b) : Ending.returned (.int k a) = .returned (.int k b) := by rw [h]

def withinF (lo hi : Int) (xs : List Int) : Bool := xs.all fun x => decide (lo ≤ x) && decide (x ≤ hi)
theorem withinF_false {lo hi : Int} {xs : List Int} {k : Nat} (hk : k < xs.length) (h : xs[k]?.getD 0 < lo ∨ hi < xs[k]?.getD 0) : withinF lo hi xs = false := by
  unfold withinF
  rw [List.all_eq_false]
  refine ⟨xs[k], List.getElem_mem hk, ?_⟩
  rw [List.getElem?_eq_getElem hk] at h
  simp at h ⊢
  omega
theorem withinF_true {lo hi : Int} {xs : List Int} (h : ∀ j, j < xs.length → lo ≤ xs[j]?.getD 0 ∧ xs[j]?.getD 0 ≤ hi) : withinF lo hi xs = true := by
  unfold withinF
  rw [List.all_eq_true]
  intro x hx
  obtain ⟨i, hi, rfl⟩ := List.mem_iff_getElem.1 hx
  have := h i hi
  rw [List.getElem?_eq_getElem hi] at this
  simpa using this

set_option maxHeartbeats 400000 in
theorem wclo64_any (b1 b2 : Nat) (lo hi x : Int) (w : World) (h1 : w.cell? ⟨b1, 0, none⟩ = some (.int .i64 lo)) (h2 : w.cell? ⟨b2, 0, none⟩ = some (.int .i64 hi)) :
    Calls Try.prog 91 #[.int .i64 x, .pointer (some ⟨b1, 0, none⟩), .pointer (some ⟨b2, 0, none⟩)] w fun e w' => e = .returned (.bool (decide (x < lo) || decide (hi < x))) ∧ w' = w := by
  go_enter Try.func91, Try.ntmps91
  by_cases hx : x < lo
  · go_wp2
    go_ret
    exact ⟨by simp [hx], rfl⟩
  · by_cases hy : hi < x
    · go_wp2
      go_ret
      exact ⟨by simp, rfl⟩
    · go_wp2
      go_ret
      exact ⟨by simp [hx]; omega, rfl⟩

set_option maxHeartbeats 400000 in
theorem windex64_any (b1 b2 : Nat) (lo hi : Int) (w : World) (B : Nat) (A : Option Addr) (n c : Nat) (xs : List Int) (h1 : w.cell? ⟨b1, 0, none⟩ = some (.int .i64 lo)) (h2 : w.cell? ⟨b2, 0, none⟩ = some (.int .i64 hi)) (hx : IntsAt w B A n xs) :
    Calls Try.prog 111 #[.slice A n c, .func (.func 91) #[] #[.pointer (some ⟨b1, 0, none⟩), .pointer (some ⟨b2, 0, none⟩)]] w
      fun e w' => ∃ i : Int, e = .returned (.int .i64 i) ∧ w' = w ∧ decide (0 ≤ i) = !withinF lo hi xs := by
  have hm := hx.small
  go_enter Try.func111, Try.ntmps111
  go_wp2
  go_loop [5, 8] (fun _ i => ∃ k : Nat, k ≤ n ∧ i = .int .i64 k ∧ ∀ j, j < k → lo ≤ xs[j]?.getD 0 ∧ xs[j]?.getD 0 ≤ hi) (fun _ i => n - (intOf i).toNat)
  case atStart => exact ⟨0, by omega, rfl, fun j hj => by omega⟩
  case round =>
    obtain ⟨k, hk, rfl, hall⟩ := hrel
    have Hall := Lib.hid hall
    clear hall
    by_cases hlt : k < n
    · obtain ⟨b, o, rfl, _, hc⟩ := hx.cell hlt
      by_cases hbad : xs[k]?.getD 0 < lo ∨ hi < xs[k]?.getD 0
      · have hd : (decide (xs[k]?.getD 0 < lo) || decide (hi < xs[k]?.getD 0)) = true := by simpa using hbad
        go_wp2_with (go_at_call 91; refine (wclo64_any b1 b2 lo hi _ _ h1 h2).mono ?_; rintro e w' ⟨rfl, rfl⟩)
        go_ret
        refine ⟨_, rfl, rfl, ?_⟩
        rw [withinF_false (by rw [hx.len]; exact hlt) hbad]
        simp
      · have hd : (decide (xs[k]?.getD 0 < lo) || decide (hi < xs[k]?.getD 0)) = false := by simpa using hbad
        go_wp2_with (go_at_call 91; refine (wclo64_any b1 b2 lo hi _ _ h1 h2).mono ?_; rintro e w' ⟨rfl, rfl⟩)
        go_round
        case rel => exact ⟨k + 1, by omega, by go_num, fun j hj => by rcases Nat.lt_succ_iff_lt_or_eq.1 hj with h | rfl; exact Hall.out j h; omega⟩
        case measure => simp [intOf]; omega
    · go_wp2
      go_ret
      refine ⟨_, rfl, rfl, ?_⟩
      rw [withinF_true fun j hj => Hall.out j (by rw [hx.len] at hj; omega)]
      rfl

set_option maxHeartbeats 400000 in
theorem wcontains64_any (b1 b2 : Nat) (lo hi : Int) (w : World) (B : Nat) (A : Option Addr) (n c : Nat) (xs : List Int) (h1 : w.cell? ⟨b1, 0, none⟩ = some (.int .i64 lo)) (h2 : w.cell? ⟨b2, 0, none⟩ = some (.int .i64 hi)) (hx : IntsAt w B A n xs) :
    Calls Try.prog 90 #[.slice A n c, .func (.func 91) #[] #[.pointer (some ⟨b1, 0, none⟩), .pointer (some ⟨b2, 0, none⟩)]] w
      fun e w' => e = .returned (.bool (!withinF lo hi xs)) ∧ w' = w := by
  go_enter Try.func90, Try.ntmps90
  go_wp2_with (go_at_call 111; refine (windex64_any b1 b2 lo hi _ B _ _ _ xs h1 h2 hx).mono ?_; rintro e w' ⟨i, rfl, rfl, hi'⟩; have HI := Lib.hid hi'; clear hi')
  go_ret
  exact ⟨ret_bool HI.out, rfl⟩

set_option maxHeartbeats 400000 in
theorem within64_any (lo hi : Int) (w : World) (B : Nat) (A : Option Addr) (n c : Nat) (xs : List Int) (hx : IntsAt w B A n xs) (hB : B ≤ w.heap.size) :
    Calls Try.prog 62 #[.int .i64 lo, .int .i64 hi, .slice A n c] w fun e w' => e = .returned (.bool (withinF lo hi xs)) ∧ Below w.heap.size w w' := by
  go_enter Try.func62, Try.ntmps62
  have hx2 := (hx.alloc hB (.cells #[.int .i64 lo] 2)).alloc (by simp; omega) (.cells #[.int .i64 hi] 2)
  go_wp2_with (go_at_call 90; refine (wcontains64_any _ _ lo hi _ B _ _ _ xs (by simp) (by simp) hx2).mono ?_; rintro e w' ⟨rfl, rfl⟩)
  go_ret
  exact ⟨ret_bool (by simp), ((Below.refl _ _).alloc (Nat.le_refl _) _).alloc (by simp) _⟩


end Go.Proofs.Ytjidllaaokdjhaa
