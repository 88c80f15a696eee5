/- lag: late; the least of a shaft. -/
import Derived.Test.YtjidllaaokdjhaaLN
namespace Go.Proofs.Ytjidllaaokdjhaa
open Go.RowKit Go.Shelf

attribute [local go_sem] Oper.semAt_some

set_option maxHeartbeats 1000000 in
theorem index_any (w : World) (b1 b2 n1 c1 k : Nat) (A1 : Option Addr) (B B2 : Nat) (ts : List Int) (k1 : w.cell? ⟨b1, 0, none⟩ = some (.slice A1 n1 c1)) (k2 : w.cell? ⟨b2, 0, none⟩ = some (.int .i64 (k : Int))) (h1 : IntsAt w B A1 n1 ts) (hk : k < n1)
    (A : Option Addr) (n c : Nat) (ys : List Int) (hy : IntsAt w B2 A n ys) :
    Calls Try.prog 107 #[.slice A n c, .func (.func 108) #[] #[.pointer (some ⟨b1, 0, none⟩), .pointer (some ⟨b2, 0, none⟩)]] w
      fun e w' => e = .returned (encI (idxGE (ts[k]?.getD 0) ys)) ∧ w' = w := by
  have hm := hy.small
  unfold encI
  go_enter Try.func107, Try.ntmps107
  go_wp2
  go_loop [8] (fun i => ∃ j : Nat, j ≤ n ∧ i = .int .i64 (j : Int) ∧ ∀ q, q < j → ys[q]?.getD 0 < ts[k]?.getD 0) (fun i => n - (intOf i).toNat)
  case atStart => exact ⟨0, by omega, rfl, fun j hj => by omega⟩
  case round =>
    obtain ⟨j, hj, rfl, hall⟩ := hrel
    have Hall := Lib.hid hall
    clear hall
    by_cases hlt : j < n
    · obtain ⟨b, o, rfl, -, e1⟩ := hy.cell hlt
      by_cases hq : ts[k]?.getD 0 ≤ ys[j]?.getD 0
      · have hd : decide (ts[k]?.getD 0 ≤ ys[j]?.getD 0) = true := by simpa using hq
        go_wp2_with (go_at_call 108; refine (late1_any _ b1 b2 n1 c1 k A1 B ts _ k1 k2 h1 hk).mono ?_; rintro e w' ⟨rfl, rfl⟩)
        go_ret
        exact ⟨ret_int (idxGE_at (by rw [hy.len]; exact hlt) hq (fun q hq => by have := Hall.out q hq; omega)).symm, rfl⟩
      · have hd : decide (ts[k]?.getD 0 ≤ ys[j]?.getD 0) = false := by simpa using hq
        have Hq := Lib.hid hq
        clear hq
        go_wp2_with (go_at_call 108; refine (late1_any _ b1 b2 n1 c1 k A1 B ts _ k1 k2 h1 hk).mono ?_; rintro e w' ⟨rfl, rfl⟩)
        go_round
        case rel => exact ⟨j + 1, by omega, by go_num, fun q hq => by rcases Nat.lt_succ_iff_lt_or_eq.1 hq with h | rfl; exact Hall.out q h; have := Hq.out; omega⟩
        case measure => simp [intOf]; omega
    · go_wp2
      go_ret
      exact ⟨ret_int (idxGE_none fun j hj => by have := Hall.out j (by rw [hy.len] at hj; omega); omega).symm, rfl⟩

theorem IntsAt.drop {w : World} {B b off n : Nat} {xs : List Int} (h : IntsAt w B (some ⟨b, off, none⟩) n xs) {k : Nat} (_hk : k ≤ n) : IntsAt w B (some ⟨b, off + k, none⟩) (n - k) (xs.drop k) := by
  refine ⟨by rw [List.length_drop, h.len], by have := h.small; omega, fun h0 => ?_⟩
  obtain ⟨b', off', e, hb, hc⟩ := h.2.2 (by omega)
  cases e
  refine ⟨b, off + k, rfl, hb, fun j hj => ?_⟩
  rw [Nat.add_assoc, hc (k + j) (by omega), List.getElem?_drop]
def lateF (ts os : List Int) (k : Nat) : Int := idxGE (ts[k]?.getD 0) (os.drop k)
set_option maxRecDepth 100000 in
set_option maxHeartbeats 4000000 in
theorem late_any (w : World) (B1 B2 : Nat) (A1 A2 : Option Addr) (n1 n2 c1 c2 k : Nat) (ts os : List Int) (h1 : IntsAt w B1 A1 n1 ts) (h2 : IntsAt w B2 A2 n2 os) (hB1 : B1 ≤ w.heap.size) (hB2 : B2 ≤ w.heap.size) (hk1 : k < n1) (hk2 : k < n2) (_hn1 : n1 ≤ 1000) (_hn2 : n2 ≤ 1000) (hc2 : n2 ≤ c2) (_hc22 : c2 ≤ 1000000) :
    Calls Try.prog 82 #[talV A1 A2 n1 n2 c1 c2, .int .i64 (k : Int)] w fun e w' => e = .returned (encI (lateF ts os k)) ∧ Below w.heap.size w w' := by
  obtain ⟨V, hV⟩ : ∃ V, V = (w.alloc (.cells #[.slice A1 n1 c1, .slice A2 n2 c2] 96)).alloc (.cells #[.int .i64 (k : Int)] 3) := ⟨_, rfl⟩
  have hb0 : Below w.heap.size w V := by rw [hV]; exact ((Below.refl _ w).alloc (Nat.le_refl _) _).alloc (by simp) _
  have hh1 : V.heap[w.heap.size]? = some (.cells #[.slice A1 n1 c1, .slice A2 n2 c2] 96 (0, 0)) := by
    rw [hV]
    exact (Below.heap_alloc _ _ _ (by simp)).trans (World.alloc_heap_new w _)
  have hh3 : Boxed V (w.heap.size + 1) 3 (.int .i64 (k : Int)) := by
    rw [hV]
    have := Boxed.new (w.alloc (.cells #[.slice A1 n1 c1, .slice A2 n2 c2] 96)) 3 (.int .i64 (k : Int))
    simpa using this
  have hc1 : V.cell? ⟨w.heap.size, 0, none⟩ = some (.slice A1 n1 c1) := by simp [World.cell?, hh1]
  have hc3 := hh3.cell
  clear hh1 hh3
  have h1' := h1.below hb0 hB1
  have h2' := h2.below hb0 hB2
  obtain ⟨b2, o2, rfl, -, -⟩ := h2.cell hk2
  have hd := h2'.drop (k := k) (by omega)
  clear h1 h2 h2'
  go_enter Try.func82, Try.ntmps82
  go_wp2_with (fail)
  rw [← hV]
  clear hV
  refine (index_any V w.heap.size (w.heap.size + 1) n1 c1 k A1 B1 B2 ts hc1 hc3 h1' hk1 _ _ _ _ hd).mono ?_
  rintro e W1 ⟨rfl, rfl⟩
  unfold encI
  go_wp2_with (fail)
  refine bodyPost_ret (results_tmp rfl _ _ _) rfl ?_
  exact ⟨rfl, hb0⟩

/-- The least of a shaft for t turns. -/
def leastF (xs : List Int) (t : Nat) : Int := xs[xs.length - 1]?.getD 0 * ((t / xs.length : Nat) : Int) + (if 0 < t % xs.length then xs[t % xs.length - 1]?.getD 0 else 0)
theorem leastF_bound {xs : List Int} (hv : Nums xs) (t : Nat) : 0 ≤ leastF xs t ∧ leastF xs t ≤ 10000 * t + 10000 := by
  obtain ⟨h1, -, h3⟩ := hv
  have a := h3 (xs.length - 1) (by omega)
  have b := Nat.div_le_self t xs.length
  have c := Nat.mod_lt t (show 0 < xs.length by omega)
  unfold leastF
  have p1 : 0 ≤ xs[xs.length - 1]?.getD 0 * ((t / xs.length : Nat) : Int) := Int.mul_nonneg a.1 (Int.natCast_nonneg _)
  have p2 : xs[xs.length - 1]?.getD 0 * ((t / xs.length : Nat) : Int) ≤ 10000 * (t : Int) := by
    refine Int.le_trans (Int.mul_le_mul_of_nonneg_right a.2 (Int.natCast_nonneg _)) ?_
    omega
  split
  · have := h3 (t % xs.length - 1) (by omega)
    omega
  · omega
set_option maxRecDepth 100000 in
set_option maxHeartbeats 4000000 in
theorem shaftLeast_any (w : World) (B : Nat) (A : Option Addr) (n c t : Nat) (xs : List Int) (hx : IntsAt w B A n xs) (hv : Nums xs) (ht : t ≤ 1000) :
    Calls Try.prog 93 #[.slice A n c, .int .i64 (t : Int)] w fun e w' => e = .returned (encI (leastF xs t)) ∧ ∃ q, w' = w.drewN q := by
  have hn := hx.len
  have hn1 := hv.1
  have hn2 := hv.2.1
  have hbd := leastF_bound hv t
  rw [hn] at hn1 hn2
  obtain ⟨b, o, rfl, -, e1⟩ := hx.cell (k := n - 1) (by omega)
  have hlf : leastF xs t = xs[n - 1]?.getD 0 * ((t / n : Nat) : Int) + (if 0 < t % n then xs[t % n - 1]?.getD 0 else 0) := by unfold leastF; rw [hn]
  have hq : (t : Int).tdiv (n : Int) = ((t / n : Nat) : Int) := (Int.ofNat_tdiv t n).symm
  have hr : (t : Int).tmod (n : Int) = ((t % n : Nat) : Int) := (Int.ofNat_tmod t n).symm
  have hdl := Nat.div_le_self t n
  have hml := Nat.mod_lt t (show 0 < n by omega)
  have hla := hv.2.2 (n - 1) (by omega)
  have hp1 : 0 ≤ xs[n - 1]?.getD 0 * ((t / n : Nat) : Int) := Int.mul_nonneg hla.1 (Int.natCast_nonneg _)
  have hp2 : xs[n - 1]?.getD 0 * ((t / n : Nat) : Int) ≤ 10000 * ((t / n : Nat) : Int) := Int.mul_le_mul_of_nonneg_right hla.2 (Int.natCast_nonneg _)
  have hwn : IntKind.i64.wrap ((n : Int) - 1) = ((n - 1 : Nat) : Int) := by rw [IntKind.wrap_i64]; omega
  obtain ⟨d, hd⟩ : ∃ d, d = t / n := ⟨_, rfl⟩
  obtain ⟨r, hre⟩ : ∃ r, r = t % n := ⟨_, rfl⟩
  rw [← hd] at hlf hq hdl hp1 hp2
  rw [← hre] at hlf hr hml
  have hnn : n - 1 < n := by omega
  obtain ⟨n', hn'⟩ : ∃ n', n' = n - 1 := ⟨_, rfl⟩
  rw [← hn'] at e1 hlf hla hp1 hp2 hwn hnn
  obtain ⟨x, hxe⟩ : ∃ x, x = xs[n']?.getD 0 := ⟨_, rfl⟩
  rw [← hxe] at e1 hlf hla hp1 hp2
  have hn0 : ¬ n = 0 := by omega
  have hwd : IntKind.i64.wrap (d : Int) = (d : Int) := by rw [IntKind.wrap_i64]; omega
  have hwr : IntKind.i64.wrap (r : Int) = (r : Int) := by rw [IntKind.wrap_i64]; omega
  obtain ⟨pr, hpr⟩ : ∃ pr, pr = x * (d : Int) := ⟨_, rfl⟩
  have hwp : IntKind.i64.wrap (x * (d : Int)) = pr := by rw [← hpr, IntKind.wrap_i64]; rw [← hpr] at hp1 hp2; omega
  rw [← hpr] at hlf hp1 hp2
  unfold encI
  rw [hlf]
  by_cases h0 : 0 < r
  · obtain ⟨b', o', e, -, e2⟩ := hx.cell (k := r - 1) (by omega)
    cases e
    have hla2 := hv.2.2 (r - 1) (by omega)
    rw [if_pos h0]
    have hwr1 : IntKind.i64.wrap ((r : Int) - 1) = ((r - 1 : Nat) : Int) := by rw [IntKind.wrap_i64]; omega
    have hrn : r - 1 < n := by omega
    obtain ⟨r', hr'⟩ : ∃ r', r' = r - 1 := ⟨_, rfl⟩
    rw [← hr'] at e2 hla2 hwr1 hrn ⊢
    obtain ⟨y, hye⟩ : ∃ y, y = xs[r']?.getD 0 := ⟨_, rfl⟩
    rw [← hye] at e2 hla2 ⊢
    have hws : IntKind.i64.wrap (pr + y) = pr + y := by rw [IntKind.wrap_i64]; omega
    have hr0 : (0 : Int) < (r : Int) := by omega
    clear hpr hxe hye hr' hn' hre hd hlf hbd hv hx hla hp1 hp2 hla2 hdl hn hn1 h0
    go_enter Try.func93, Try.ntmps93
    go_wp2
    go_quiet (fail)
    go_wp2
    go_ret
    exact ⟨by simp, _, rfl⟩
  · rw [if_neg h0, Int.add_zero]
    have hr0 : ¬ (0 : Int) < (r : Int) := by omega
    clear hpr hxe hn' hre hd hlf hbd hv hx hla hp1 hp2 hdl hn hn1 h0
    go_enter Try.func93, Try.ntmps93
    go_wp2
    go_quiet (fail)
    go_wp2
    go_ret
    exact ⟨by simp, _, rfl⟩
end Go.Proofs.Ytjidllaaokdjhaa
