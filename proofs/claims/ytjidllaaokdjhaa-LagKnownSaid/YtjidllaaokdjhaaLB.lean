/- lag: IsSorted, CheckCurve, chains, rows' errors, Longs. -/
import Derived.Test.YtjidllaaokdjhaaLA
namespace Go.Proofs.Ytjidllaaokdjhaa
open Go.RowKit

theorem one_int (w : World) (B : Nat) (b : Nat) (x : Int) (hb : b < B) (h : w.cell? ⟨b, 0, none⟩ = some (.int .i64 x)) : IntsAt w B (some ⟨b, 0, none⟩) 1 [x] :=
  ⟨rfl, by omega, fun _ => ⟨b, 0, rfl, hb, fun j hj => by
    have h0 : j = 0 := by omega
    subst h0
    simpa using h⟩⟩
theorem within_one (lo hi x : Int) : withinF lo hi [x] = (decide (lo ≤ x) && decide (x ≤ hi)) := by simp [withinF]
theorem all_within {lo hi : Int} {xs : List Int} (h : withinF lo hi xs = true) : ∀ j, j < xs.length → lo ≤ xs[j]?.getD 0 ∧ xs[j]?.getD 0 ≤ hi := by
  intro j hj
  unfold withinF at h
  rw [List.all_eq_true] at h
  have := h xs[j] (List.getElem_mem hj)
  rw [List.getElem?_eq_getElem hj]
  simpa using this
theorem ints_ext {xs ys : List Int} (hl : xs.length = ys.length) (h : ∀ j, j < xs.length → xs[j]?.getD 0 = ys[j]?.getD 0) : xs = ys := by
  refine List.ext_getElem hl fun j h1 h2 => ?_
  have := h j h1
  rw [List.getElem?_eq_getElem h1, List.getElem?_eq_getElem h2] at this
  simpa using this

theorem isNaN_any (w : World) (x : Int) : Calls Try.prog 114 #[.int .i64 x] w fun e w' => e = .returned (.bool false) ∧ w' = w := by
  go_enter Try.func114, Try.ntmps114
  go_wp2
  go_ret
  exact ⟨rfl, rfl⟩
theorem cless_any (w : World) (x y : Int) : Calls Try.prog 103 #[.int .i64 x, .int .i64 y] w fun e w' => e = .returned (.bool (decide (x < y))) ∧ w' = w := by
  by_cases h : x < y
  · go_enter Try.func103, Try.ntmps103
    go_wp2_with (fail)
    refine (isNaN_any w x).mono ?_
    rintro e w2 ⟨rfl, rfl⟩
    go_wp2_with (fail)
    go_ret
    exact ⟨by simp [h], rfl⟩
  · go_enter Try.func103, Try.ntmps103
    go_wp2_with (fail)
    refine (isNaN_any w x).mono ?_
    rintro e w2 ⟨rfl, rfl⟩
    go_wp2_with (fail)
    go_ret
    exact ⟨by simp, rfl⟩

def sortedF (xs : List Int) : Bool := (List.range (xs.length - 1)).all fun i => decide (xs[i]?.getD 0 ≤ xs[i + 1]?.getD 0)
theorem sortedF_false {xs : List Int} {k : Nat} (hk : k + 1 < xs.length) (h : xs[k + 1]?.getD 0 < xs[k]?.getD 0) : sortedF xs = false := by
  unfold sortedF
  rw [List.all_eq_false]
  exact ⟨k, List.mem_range.2 (by omega), by simp; omega⟩
theorem sortedF_true {xs : List Int} (h : ∀ k, k + 1 < xs.length → xs[k]?.getD 0 ≤ xs[k + 1]?.getD 0) : sortedF xs = true := by
  unfold sortedF
  rw [List.all_eq_true]
  intro i hi
  have := h i (by have := List.mem_range.1 hi; omega)
  simpa using this
theorem sorted_at {xs : List Int} (h : sortedF xs = true) {k : Nat} (hk : k + 1 < xs.length) : xs[k]?.getD 0 ≤ xs[k + 1]?.getD 0 := by
  unfold sortedF at h
  have := (List.all_eq_true.1 h) k (List.mem_range.2 (by omega))
  simpa using this

set_option maxHeartbeats 1000000 in
theorem isSorted_any (w : World) (B : Nat) (A : Option Addr) (n c : Nat) (xs : List Int) (hx : IntsAt w B A n xs) :
    Calls Try.prog 70 #[.slice A n c] w fun e w' => e = .returned (.bool (sortedF xs)) ∧ ∃ q, w' = w.drewN q := by
  have hm := hx.small
  have hl := Lib.hid hx.len
  have hw0 : IntKind.i64.wrap ((n : Int) - 1) = (n : Int) - 1 := by rw [IntKind.wrap_i64]; omega
  go_enter Try.func70, Try.ntmps70
  go_wp2
  go_loopg [3] n (fun g v3 wr => ∃ (z : Int) (q : Nat), (-1 ≤ z ∧ z < n ∧ g = (z + 1).toNat ∧ v3 = .int .i64 z) ∧ Hid (wr = w.drewN q) ∧ IntsAt wr B A n xs ∧ ∀ j : Nat, z ≤ j → j + 1 < n → xs[j]?.getD 0 ≤ xs[j + 1]?.getD 0)
  case atStart => exact ⟨(n : Int) - 1, 0, ⟨by omega, by omega, by omega, rfl⟩, Lib.hid rfl, hx, fun j h1 h2 => by omega⟩
  case round =>
    obtain ⟨z, q, ⟨hz1, hz2, rfl, rfl⟩, hq, hr, hall⟩ := hrel
    have Hall := Lib.hid hall
    clear hall hx
    by_cases hz : 0 < z
    · obtain ⟨k, rfl⟩ : ∃ k : Nat, z = (k : Int) + 1 := ⟨(z - 1).toNat, by omega⟩
      obtain ⟨b, o, rfl, _, hc1⟩ := hr.cell (k := k + 1) (by omega)
      obtain ⟨b', o', e', _, hc2⟩ := hr.cell (k := k) (by omega)
      cases e'
      have hw1 : IntKind.i64.wrap ((k : Int) + 1 - 1) = (k : Int) := by rw [IntKind.wrap_i64]; omega
      have hk1 : ((k : Int) + 1).toNat = k + 1 := by omega
      have hk2 : ¬ (k : Int) + 1 < 0 := by omega
      have hk3 : ¬ (n : Int) ≤ (k : Int) + 1 := by omega
      have hk4 : ¬ (n : Int) ≤ (k : Int) := by omega
      have Hk := Lib.hid (show k + 1 < xs.length by rw [hl.out]; omega)
      go_wp2
      go_quiet ((go_at_call 103; exact Calls.quiet_of_same (cless_any _ _ _)))
      go_wp2
      · have hlt : xs[k + 1]?.getD 0 < xs[k]?.getD 0 := by assumption
        go_ret
        refine ⟨ret_bool (sortedF_false Hk.out hlt).symm, ?_⟩
        rw [hq.out]
        exact ⟨_, by simp only [World.drewN_drewN]; rfl⟩
      · have hle : xs[k]?.getD 0 ≤ xs[k + 1]?.getD 0 := by assumption
        have Hle := Lib.hid hle
        go_roundg (k + 1)
        case measure => omega
        case rel =>
          refine ⟨(k : Int), _, ⟨by omega, by omega, by omega, by simp⟩, Lib.hid (by rw [hq.out]; simp only [World.drewN_drewN]; rfl), hr.drewN _, fun j h1 h2 => ?_⟩
          by_cases hjk : j = k
          · subst hjk; exact Hle.out
          · exact Hall.out j (by omega) h2
    · have Hs := Lib.hid (sortedF_true (xs := xs) (fun k hk => Hall.out k (by omega) (by rw [hl.out] at hk; exact hk)))
      go_wp2
      go_ret
      exact ⟨ret_bool Hs.out.symm, _, hq.out⟩
end Go.Proofs.Ytjidllaaokdjhaa
