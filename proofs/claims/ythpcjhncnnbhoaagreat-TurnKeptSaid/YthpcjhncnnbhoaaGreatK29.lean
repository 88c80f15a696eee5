/- Parts of a proof: DG. -/
import Derived.Test.YthpcjhncnnbhoaaGreatM28

/- What stays safe: pure part of TurnKept. -/
namespace Go.Proofs.YthpcjhncnnbhoaaGreat
open Go.RowKit Go.Shelf

theorem pow5 {n : Nat} (h1 : 1 ≤ n) (h5 : n ≤ 5) : ∃ p : Nat, p = 2 ^ n ∧ 2 ≤ p ∧ p ≤ 32 := by
  have : n = 1 ∨ n = 2 ∨ n = 3 ∨ n = 4 ∨ n = 5 := by omega
  rcases this with rfl | rfl | rfl | rfl | rfl
  · exact ⟨2, rfl, by omega, by omega⟩
  · exact ⟨4, rfl, by omega, by omega⟩
  · exact ⟨8, rfl, by omega, by omega⟩
  · exact ⟨16, rfl, by omega, by omega⟩
  · exact ⟨32, rfl, by omega, by omega⟩
theorem wins_ok {n : Nat} {ps : List Int} (h : ∀ p ∈ ps, 0 ≤ p ∧ p < (n : Int)) : winsF n ps = true :=
  List.all_eq_true.2 fun p hp => by
    have := h p hp
    simpa [isWinF] using this
theorem next_mem {ts ss : List Int} (h : statedF ts ss = 0) {x : Int} (hx : x ∈ (nextR ts ss).1) : ∃ y ∈ visitsF ts (plOf ss), x = (y.1 : Int) ∧ y.2 ∉ dq ts := by
  have hv := valid_of (stated_hall h)
  unfold nextR at hx
  rw [if_neg (by simp [h])] at hx
  split at hx
  · unfold nextF at hx
    obtain ⟨y, hy, rfl⟩ := List.mem_map.1 hx
    obtain ⟨h1, h2⟩ := List.mem_filter.1 hy
    exact ⟨y, h1, rfl, (dq_safe hv (((visits_mem hv.h5).1 h1).nice hv (nice_stated h))).1 (of_decide_eq_true h2)⟩
  · cases hx
theorem nice_get {ts ss : List Int} (h : statedF ts ss = 0) (j : Nat) : (plOf ss).get j = ss[j]?.getD 0 := by
  obtain ⟨hv, hl, -⟩ := stated_valid h
  exact plOf_get ss (by have := hv.h5; omega) j
theorem kept_turn {ts ss ps : List Int} (h : statedF ts ss = 0) {y : Nat × Pl} (hy : y ∈ visitsF ts (plOf ss)) (hd : y.2 ∉ dq ts) (hinc : incrF ps = true) (hw : winsF ts.length ps = true) :
    ∃ xs v, turnR ts ss ps (y.1 : Int) = (xs, v, 0) ∧ statedF ts xs = 0 ∧ plOf xs ∉ dq ts := by
  obtain ⟨hv, hl, hg⟩ := stated_valid h
  have h5 := hv.h5
  have hsu := (visits_mem h5).1 hy
  have hin : ∀ p ∈ ps, 0 ≤ p ∧ p < ss.length := fun p hp => by
    have := (List.all_eq_true.1 hw) p hp
    simpa [isWinF, hl] using this
  rw [rturn_of h hsu.lt hinc hw]
  rcases rpull_spec ts ps ss (incr_nodup hinc) hin with ⟨ys, b1, b2, b3, b4⟩ | ⟨b1, p, hp, b2⟩
  · have e : rpullF ts ss ps = some ys := b1
    rw [e]
    have hpo := pulls_ok (i := y.1) h hsu.lt hinc hw e
    refine ⟨_, _, rfl, hpo.1, fun hx => hd (dq_up hv hx (hsu.nice hv (nice_stated h)) fun j hj => ?_)⟩
    rw [nice_get hpo.1, List.getElem?_set]
    by_cases hij : y.1 = j
    · rw [if_pos hij, if_pos (by omega), ← hij, hsu.zero]
      simp
    · rw [if_neg hij, hsu.more j hj (fun e => hij e.symm), nice_get h, b3 j]
      split <;> omega
  · exfalso
    obtain ⟨hp0, hp1⟩ := hin p hp
    have h1 := hsu.free p.toNat (by omega)
    have h2 := (nice_stated h).1.1 p.toNat (by omega)
    rw [nice_get h] at h1 h2
    omega
theorem kept_less {ts ss xs : List Int} (h : statedF ts ss = 0) (hd : plOf ss ∉ dq ts) (hl : xs.length = ts.length) (hx : ∀ i, i < ts.length → 0 ≤ xs[i]?.getD 0 ∧ xs[i]?.getD 0 ≤ ss[i]?.getD 0) : statedF ts xs = 0 ∧ plOf xs ∉ dq ts := by
  have hc := stated_hall h
  have hv := valid_of hc
  have hs : statedF ts xs = 0 := by
    unfold statedF
    rw [if_neg (by simp [hc]), if_neg (by simp [hl]), if_pos]
    refine stateOk_true fun j hj => ?_
    have h1 := hx j hj
    have h2 := (nice_stated h).1.1 j hj
    rw [nice_get h] at h2
    omega
  refine ⟨hs, fun hx' => hd (dq_up hv hx' (nice_stated h) fun j hj => ?_)⟩
  rw [nice_get hs, nice_get h]
  exact (hx j hj).2
theorem wide_dq {ts tw : List Int} (hv : Valid ts) (hw : Valid tw) (hl : tw.length = ts.length) (hle : ∀ i, i < ts.length → ts[i]?.getD 0 ≤ tw[i]?.getD 0) : ∀ (k : Nat) (x : Pl), la tw x ≤ (k : Int) → x ∈ dq tw → Nice ts x → x ∈ dq ts
  | k, x, hk, hx, hn => by
    refine Classical.byContradiction fun hd => ?_
    obtain ⟨y, hy, hyd⟩ := dq_out hv hn hd
    have hsu := (visits_mem hv.h5).1 hy
    have hsu' : Su tw x y.1 y.2 := ⟨by rw [hl]; exact hsu.lt, hsu.n, fun j hj => by
      rw [hl] at hj
      have h1 := hsu.free j hj
      have h2 := hn.1.1 j hj
      have h3 := hle j hj
      omega, hsu.zero, fun j hj => hsu.more j (by omega), fun j hj => hsu.same j (by omega)⟩
    obtain ⟨a, b⟩ := dq_suc hw hx ((visits_mem hw.h5 (y := y)).2 hsu')
    have h0 := la_nonneg hw (ts := tw) y.2
    match k with
    | 0 => omega
    | k + 1 => exact hyd (wide_dq hv hw hl hle k y.2 (by omega) a (hsu.nice hv hn))
theorem kept_wide {ts tw ss : List Int} (h : statedF ts ss = 0) (hd : plOf ss ∉ dq ts) (hc : checkHallF tw = 0) (hl : tw.length = ts.length) (hle : ∀ i, i < ts.length → ts[i]?.getD 0 ≤ tw[i]?.getD 0) : statedF tw ss = 0 ∧ plOf ss ∉ dq tw := by
  obtain ⟨hv, hsl, -⟩ := stated_valid h
  have hw := valid_of hc
  have hs : statedF tw ss = 0 := by
    unfold statedF
    rw [if_neg (by simp [hc]), if_neg (by simp; omega), if_pos]
    refine stateOk_true fun j hj => ?_
    have h1 := hle j (by omega)
    have h2 := (nice_stated h).1.1 j (by omega)
    rw [nice_get h] at h2
    omega
  exact ⟨hs, fun hx => hd (wide_dq hv hw hl hle (la tw (plOf ss)).toNat _ (by have := la_nonneg hw (ts := tw) (plOf ss); omega) hx (nice_stated h))⟩
theorem row_keep {W W' : World} {base g cap n : Nat} {e : TypeId} {xs : List Value} (h : W.ownsRow base e 1 (.slice (some ⟨g, 0, none⟩) n cap) n xs) (hh : W'.heap[g]? = W.heap[g]?) : W'.ownsRow base e 1 (.slice (some ⟨g, 0, none⟩) n cap) n xs := by
  refine ⟨h.1, ?_⟩
  rcases h.2 with ⟨he, -⟩ | ⟨g', cap', cur, he, hb, hg, hr⟩
  · cases he
  · cases he
    exact .inr ⟨g, cap, cur, rfl, hb, hh.trans hg, hr⟩
end Go.Proofs.YthpcjhncnnbhoaaGreat
