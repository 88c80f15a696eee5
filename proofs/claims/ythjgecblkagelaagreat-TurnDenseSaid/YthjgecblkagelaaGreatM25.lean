/- Parts of a proof: BX CE CF. -/
import Derived.Test.YthjgecblkagelaaGreatM24

/- Empty: a state of zeros. -/
namespace Go.Proofs.YthjgecblkagelaaGreat
open Go.RowKit Go.Shelf

attribute [local go_sem] Oper.semAt_some

theorem Empty_of (n : Nat) (zs : Array Value) (hz : zs = ((List.replicate n (0 : Int)).map (Value.int .i64)).toArray) (hmk : ∀ w : World, (Instr.makeSlice 22 (.int .i64 (n : Int)) (.int .i64 (n : Int))).run Tryz.prog w = .ok (.slice (some ⟨w.heap.size, 0, none⟩) n n) (w.alloc (.cells zs 3))) (w : World) (A : Option Addr) (c : Nat) :
    Calls Tryz.prog 45 #[.agg #[.slice A n c]] w fun e w' => ∃ g, w.heap.size ≤ g ∧ e = .returned (.slice (some ⟨g, 0, none⟩) n n) ∧ w'.heap[g]? = some (.cells ((List.replicate n (0 : Int)).map (Value.int .i64)).toArray 3 (0, 0)) ∧ Below w.heap.size w w' := by
  have hb0 : Below w.heap.size w ((w.alloc (.cells #[.slice A n c] 24)).alloc (.cells zs 3)) := ((Below.refl _ w).alloc (Nat.le_refl _) _).alloc (by simp) _
  have hnew := World.alloc_heap_new (w.alloc (.cells #[.slice A n c] 24)) (.cells zs 3)
  rw [World.size_alloc] at hnew
  have Hz := Lib.hid (And.intro hz (And.intro hb0 hnew))
  clear hz hb0 hnew
  go_enter Tryz.func45, Tryz.ntmps45
  go_wp2
  go_ret
  refine ⟨w.heap.size + 1, by omega, rfl, ?_, Hz.out.2.1⟩
  rw [← Hz.out.1]
  exact Hz.out.2.2
theorem Empty_any (w : World) (A : Option Addr) (n c : Nat) (h1 : 1 ≤ n) (h5 : n ≤ 5) :
    Calls Tryz.prog 45 #[.agg #[.slice A n c]] w fun e w' => ∃ g, w.heap.size ≤ g ∧ e = .returned (.slice (some ⟨g, 0, none⟩) n n) ∧ w'.heap[g]? = some (.cells ((List.replicate n (0 : Int)).map (Value.int .i64)).toArray 3 (0, 0)) ∧ Below w.heap.size w w' := by
  have hn : n = 1 ∨ n = 2 ∨ n = 3 ∨ n = 4 ∨ n = 5 := by omega
  rcases hn with rfl | rfl | rfl | rfl | rfl
  · exact Empty_of 1 _ rfl mk1 w A c
  · exact Empty_of 2 _ rfl mk2 w A c
  · exact Empty_of 3 _ rfl mk3 w A c
  · exact Empty_of 4 _ rfl mk4 w A c
  · exact Empty_of 5 _ rfl mk5 w A c
end Go.Proofs.YthjgecblkagelaaGreat

/- Sums of states, and what pulls add to them. -/
namespace Go.Proofs.YthjgecblkagelaaGreat
open Go.RowKit Go.Shelf

theorem sum_set : ∀ (xs : List Int) (i : Nat) (v : Int), i < xs.length → (xs.set i v).sum = xs.sum - xs[i]?.getD 0 + v
  | x :: xs, 0, v, _ => by simp only [List.set_cons_zero, List.sum_cons, List.getElem?_cons_zero, Option.getD_some]; omega
  | x :: xs, i + 1, v, h => by
    have := sum_set xs i v (by simpa using h)
    simp only [List.set_cons_succ, List.sum_cons, List.getElem?_cons_succ]
    omega
  | [], i, v, h => by simp at h
theorem sum_take_succ (xs : List Int) (j : Nat) (h : j < xs.length) : (xs.take (j + 1)).sum = (xs.take j).sum + xs[j]?.getD 0 := by
  rw [List.take_succ_eq_append_getElem h, List.sum_append, List.getElem?_eq_getElem h]
  simp
theorem sum_take_bounds (xs : List Int) (h : ∀ i : Nat, 0 ≤ xs[i]?.getD 0 ∧ xs[i]?.getD 0 ≤ 12) : ∀ j : Nat, j ≤ xs.length → 0 ≤ (xs.take j).sum ∧ (xs.take j).sum ≤ 12 * (j : Int)
  | 0, _ => by simp
  | j + 1, hj => by
    have a := sum_take_bounds xs h j (by omega)
    have b := h j
    rw [sum_take_succ xs j (by omega)]
    omega
theorem rpull_sum (ts : List Int) : ∀ (pulls xs ys : List Int), (∀ p ∈ pulls, 0 ≤ p ∧ p < xs.length) → pulls.foldl (rpullStep ts) (some xs) = some ys → ys.sum = xs.sum + (pulls.length : Int) ∧ ys.length = xs.length
  | [], xs, ys, _, h => by
    cases h
    simp
  | i :: l, xs, ys, hin, h => by
    obtain ⟨hi0, hi1⟩ := hin i List.mem_cons_self
    rw [List.foldl_cons] at h
    by_cases hfull : ts[i.toNat]?.getD 0 < xs[i.toNat]?.getD 0 + 1
    · have : rpullStep ts (some xs) i = none := by unfold rpullStep; dsimp only; rw [if_pos hfull]
      rw [this, rpull_none ts l] at h
      cases h
    · have hs : rpullStep ts (some xs) i = some (xs.set i.toNat (xs[i.toNat]?.getD 0 + 1)) := by unfold rpullStep; dsimp only; rw [if_neg hfull]
      rw [hs] at h
      obtain ⟨h1, h2⟩ := rpull_sum ts l _ ys (fun p hp => by rw [List.length_set]; exact hin p (List.mem_cons_of_mem _ hp)) h
      rw [sum_set xs _ _ (by omega)] at h1
      rw [List.length_set] at h2
      simp only [List.length_cons]
      omega
theorem pulls_ok {ts xs ys pulls : List Int} {i : Nat} (h : statedF ts xs = 0) (hi : i < ts.length) (hinc : incrF pulls = true) (hw : winsF ts.length pulls = true) (hp : rpullF ts xs pulls = some ys) :
    statedF ts (ys.set i 0) = 0 ∧ (ys.set i 0).sum = xs.sum + (pulls.length : Int) - ys[i]?.getD 0 ∧ ys.length = ts.length ∧ ∀ j : Nat, 0 ≤ ys[j]?.getD 0 ∧ ys[j]?.getD 0 ≤ 12 := by
  obtain ⟨hv, hl, hg⟩ := stated_valid h
  have hin : ∀ p ∈ pulls, 0 ≤ p ∧ p < xs.length := fun p hp => by
    have := (List.all_eq_true.1 hw) p hp
    simpa [isWinF, hl] using this
  have hc : checkHallF ts = 0 := by
    unfold statedF at h
    by_cases hc : checkHallF ts ≠ 0
    · rw [if_pos hc] at h; exact absurd h hc
    · simpa using hc
  obtain ⟨s1, s2⟩ := rpull_sum ts pulls xs ys hin hp
  have hget : ∀ j, (plOf xs).get j = xs[j]?.getD 0 := plOf_get xs (by have := hv.h5; omega)
  rcases rpull_spec ts pulls xs (incr_nodup hinc) hin with ⟨zs, b1, b2, b3, b4⟩ | ⟨b1, p, hp', b2⟩
  · have hzy : zs = ys := by
      have : some zs = some ys := b1.symm.trans hp
      exact Option.some.inj this
    subst hzy
    have hz : ∀ j : Nat, j < ts.length → 0 ≤ zs[j]?.getD 0 ∧ zs[j]?.getD 0 ≤ ts[j]?.getD 0 := fun j hj => by
      have hgj := hg.1 j hj
      rw [hget] at hgj
      rw [b3 j]
      by_cases hm : (j : Int) ∈ pulls
      · have := b4 _ hm
        rw [Int.toNat_natCast] at this
        rw [if_pos hm]
        omega
      · rw [if_neg hm]
        exact hgj
    refine ⟨?_, ?_, by omega, fun j => ?_⟩
    · unfold statedF
      rw [if_neg (by simp [hc]), if_neg (by rw [List.length_set]; simp; omega), if_pos]
      refine stateOk_true fun j hj => ?_
      rw [List.getElem?_set]
      by_cases hij : i = j
      · rw [if_pos hij, if_pos (by omega)]
        have := hz j hj
        simp only [Option.getD_some]
        omega
      · rw [if_neg hij]
        exact hz j hj
    · rw [sum_set _ _ _ (by omega)]
      omega
    · by_cases hj : j < ts.length
      · have := hz j hj
        have := hv.h12 j hj
        omega
      · rw [List.getElem?_eq_none (by omega)]
        simp
  · have : none = some ys := b1.symm.trans hp
    cases this
theorem stated_twelve {ts xs : List Int} (h : statedF ts xs = 0) (j : Nat) : 0 ≤ xs[j]?.getD 0 ∧ xs[j]?.getD 0 ≤ 12 := by
  obtain ⟨hv, hl, hg⟩ := stated_valid h
  have hget : ∀ j, (plOf xs).get j = xs[j]?.getD 0 := plOf_get xs (by have := hv.h5; omega)
  by_cases hj : j < ts.length
  · have := hg.1 j hj
    have := hv.h12 j hj
    rw [hget] at *
    omega
  · rw [List.getElem?_eq_none (by omega)]
    simp
/-- The answer of Turn where all is stated right. -/
theorem rturn_of {ts ss pulls : List Int} {i : Nat} (h : statedF ts ss = 0) (hi : i < ts.length) (hinc : incrF pulls = true) (hw : winsF ts.length pulls = true) :
    turnR ts ss pulls (i : Int) = match rpullF ts ss pulls with | none => ([], 0, 17) | some ys => (ys.set i 0, ys[i]?.getD 0, 0) := by
  rw [turn_same]
  unfold rturnR
  rw [if_neg (by simp [h]), if_neg (by simp [hinc, hw, isWinF]; omega)]
  simp only [Int.toNat_natCast] <;> rfl
end Go.Proofs.YthjgecblkagelaaGreat

/- Bits. -/
namespace Go.Proofs.YthjgecblkagelaaGreat
open Go.RowKit Go.Shelf

attribute [local go_sem] Oper.semAt_some

theorem incr_snoc {ps : List Int} {j : Int} (h : incrF ps = true) (hp : ∀ p ∈ ps, 0 ≤ p ∧ p < j) : incrF (ps ++ [j]) = true := by
  refine incrF_true fun i h1 hi => ?_
  rw [List.length_append, List.length_singleton] at hi
  rcases Nat.lt_or_ge i ps.length with h2 | h2
  · rw [List.getElem?_append_left h2, List.getElem?_append_left (by omega)]
    unfold incrF at h
    have := (List.all_eq_true.1 h) i (List.mem_range.2 h2)
    simp only [Bool.or_eq_true, decide_eq_true_iff] at this
    rcases this with h3 | h3
    · omega
    · exact h3
  · obtain rfl : i = ps.length := by omega
    rw [List.getElem?_append_right (Nat.le_refl _), List.getElem?_append_left (by omega), List.getElem?_eq_getElem (show ps.length - 1 < ps.length by omega)]
    have := hp _ (List.getElem_mem (show ps.length - 1 < ps.length by omega))
    simp
    omega

set_option maxRecDepth 100000 in
set_option maxHeartbeats 4000000 in
theorem Bits_any (w : World) (b n : Nat) (hbn : b < 2 ^ n) (h5 : n ≤ 5) :
    Calls Tryz.prog 23 #[.int .i64 (b : Int)] w fun e w' => ∃ v ps, e = .returned v ∧ w'.ownsRow w.heap.size 3 1 v ps.length (ps.map (.int .i64)) ∧ (∀ p ∈ ps, 0 ≤ p ∧ p < (n : Int)) ∧ (ps.length ≤ n ∧ incrF ps = true) ∧ Below w.heap.size w w' := by
  obtain ⟨i0, hi, hz0, hz1, hz2⟩ := info_parts infoInt
  have hb0 : Below w.heap.size w w := Below.refl _ w
  have Hb := Lib.hid (And.intro hbn hb0)
  clear hbn hb0
  go_enter Tryz.func23, Tryz.ntmps23
  go_wp2_with (fail)
  go_loopg [3, 4] n (fun g v3 v4 wr => ∃ (j : Nat) (ps : List Int), (j ≤ n ∧ g = n - j ∧ v4 = .int .i64 (j : Int)) ∧ wr.ownsRow w.heap.size 3 1 v3 ps.length (ps.map (.int .i64)) ∧ (∀ p ∈ ps, 0 ≤ p ∧ p < (j : Int)) ∧ (ps.length ≤ j ∧ incrF ps = true) ∧ Below w.heap.size w wr)
  case atStart => exact ⟨0, [], ⟨Nat.zero_le _, rfl, rfl⟩, World.ownsRow_nil _ _ _ _, by simp, ⟨by simp, rfl⟩, Hb.out.2⟩
  case round =>
    obtain ⟨j, ps, ⟨hjn, rfl, rfl⟩, hrow, hps, ⟨hlen, hinc⟩, hB⟩ := hrel
    have hwj : IntKind.i64.wrap ((j : Int) + 1) = (j : Int) + 1 := by rw [IntKind.wrap_i64]; omega
    by_cases h0 : 0 < (b : Int) / 2 ^ j
    · have hj : j < n := by
        rcases Nat.lt_or_ge j n with h | h
        · exact h
        · exfalso
          obtain rfl : j = n := by omega
          have : (b : Int) / 2 ^ j = 0 := Int.ediv_eq_zero_of_lt (by omega) (by exact_mod_cast Hb.out.1)
          omega
      by_cases h1 : (bits BinOp.and IntKind.i64 ((b : Int) / 2 ^ j) 1 == 1) = true
      · have hl5 : ps.length ≤ 5 := by omega
        have Hp := Lib.hid (And.intro hps (And.intro hlen hinc))
        have hsz := hB.size
        clear hps hlen hinc
        go_wp2_with (at_builtin; refine wpList_append_own_at _ rfl _ _ 22 rfl w.heap.size 3 i0 (.int .i64 0) 1 8 Tryz.underlying22 hi hz0 hz1 hz2 rfl (by decide) _ _ _ rfl (hrow.alloc _) ⟨wr.heap.size, 0, none⟩ 1 1 [.int .i64 (j : Int)] rfl rfl (cell_one_new _ _ _) (by simp [Value.oneCell']) (by simp only [maxLen]; omega) (by omega) (by simp; omega) ?_; intro v' w1 hown' hgrow _ hat)
        go_roundg (n - (j + 1))
        case measure => omega
        case rel =>
          obtain ⟨hps, hlen, hinc⟩ := Hp.out
          refine ⟨j + 1, ps ++ [(j : Int)], ⟨hj, rfl, by simp⟩, by simpa using hown', fun p hp => ?_, ⟨by simp; omega, incr_snoc hinc hps⟩, (hB.alloc hB.size _).trans ((Below.refl _ _).grown hgrow (by simp; omega) (fun r e => (hrow.lt r e).1))⟩
          rcases List.mem_append.1 hp with h | h
          · have := hps p h
            omega
          · obtain rfl : p = (j : Int) := by simpa using h
            omega
      · go_wp2_with (fail)
        go_roundg (n - (j + 1))
        case measure => omega
        case rel => exact ⟨j + 1, ps, ⟨hj, rfl, by simp⟩, hrow, fun p hp => by have := hps p hp; omega, ⟨by omega, hinc⟩, hB⟩
    · go_wp2_with (fail)
      refine bodyPost_ret (results_tmp rfl _ _ _) rfl ⟨_, rfl, ps, ?_, fun p hp => by have := hps p hp; omega, ⟨by omega, hinc⟩, hB⟩
      exact hrow
end Go.Proofs.YthjgecblkagelaaGreat
