/- Parts of a proof: MC RR. -/
import Derived.Test.YtlgibckhkdggdaaH16

/- lag: the bounds: what 99 turns say holds for all. -/
namespace Go.Proofs.Ytlgibckhkdggdaa
open Go.RowKit Go.Shelf

/-- The greatest of 0 and the first values. -/
def maxZ (f : Nat → Int) : Nat → Int
  | 0 => 0
  | t + 1 => max (maxZ f t) (f t)
theorem maxZ_spec (f : Nat → Int) : ∀ t, (0 ≤ maxZ f t ∧ ∀ k, k < t → f k ≤ maxZ f t) ∧ (maxZ f t = 0 ∨ ∃ k, k < t ∧ maxZ f t = f k)
  | 0 => ⟨⟨Int.le_refl _, fun k h => by omega⟩, .inl rfl⟩
  | t + 1 => by
    obtain ⟨⟨h1, h2⟩, h3⟩ := maxZ_spec f t
    rw [maxZ, Int.max_def]
    split
    · refine ⟨⟨by omega, fun k hk => ?_⟩, .inr ⟨t, by omega, rfl⟩⟩
      rcases Nat.lt_succ_iff_lt_or_eq.1 hk with h | rfl
      · have := h2 k h
        omega
      · exact Int.le_refl _
    · refine ⟨⟨h1, fun k hk => ?_⟩, ?_⟩
      · rcases Nat.lt_succ_iff_lt_or_eq.1 hk with h | rfl
        · exact h2 k h
        · omega
      · rcases h3 with h3 | ⟨k, hk, e⟩
        · exact .inl h3
        · exact .inr ⟨k, by omega, e⟩
theorem maxZ_eq {f : Nat → Int} {N : Nat} (h0 : 0 ≤ f 0) (hN : 100 ≤ N) (h : ∀ k, k < N → ∃ k', k' ≤ 99 ∧ f k ≤ f k') : maxZ f N = maxP 0 99 f := by
  obtain ⟨⟨a1, a2⟩, a3⟩ := maxZ_spec f N
  refine (maxP_eq (Nat.zero_le _) ?_ fun p _ hp => a2 p (by omega)).symm
  rcases a3 with e | ⟨k, hk, e⟩
  · have := a2 0 (by omega)
    exact ⟨0, Nat.le_refl _, Nat.zero_le _, by omega⟩
  · obtain ⟨k', hk', hle⟩ := h k hk
    have := a2 k' (by omega)
    exact ⟨k', Nat.zero_le _, hk', by omega⟩
theorem maxZ_zero {f : Nat → Int} {N : Nat} (h : ∀ k, k < N → f k ≤ 0) : maxZ f N = 0 := by
  obtain ⟨⟨a1, -⟩, a3⟩ := maxZ_spec f N
  rcases a3 with e | ⟨k, hk, e⟩
  · exact e
  · have := h k hk
    omega
theorem maxZ_congr {f g : Nat → Int} : ∀ {N : Nat}, (∀ k, k < N → f k = g k) → maxZ f N = maxZ g N
  | 0, _ => rfl
  | N + 1, h => by rw [maxZ, maxZ, maxZ_congr (N := N) fun k hk => h k (by omega), h N (by omega)]
/-- What goes on in equal steps has its greatest value among the first ones. -/
theorem early {f : Nat → Int} {P : Nat} (hP : 1 ≤ P) (hP30 : P ≤ 30) (h : ∀ k, 70 ≤ k → f (k + P) ≤ f k) (k : Nat) : ∃ k', k' ≤ 99 ∧ f k ≤ f k' := by
  induction k using Nat.strongRecOn with
  | _ k ih =>
    by_cases hk : k ≤ 99
    · exact ⟨k, hk, Int.le_refl _⟩
    · obtain ⟨k', h1, h2⟩ := ih (k - P) (by omega)
      have h3 := h (k - P) (by omega)
      rw [show k - P + P = k by omega] at h3
      exact ⟨k', h1, by omega⟩
/-! ### who is slower -/
def askedR (cs : List Int) (css : List (List Int)) : Int := if curveF cs ≠ 0 then curveF cs else if chainF css ≠ 0 then chainF css else if (List.range css.length).any (fun i => slowF (shaftRate (css[i]?.getD [])) (rateOfR cs true)) then 18 else 0
theorem chain_curves {css : List (List Int)} (h : chainF css = 0) {j : Nat} (hj : j < css.length) : curveF (css[j]?.getD []) = 0 := by
  unfold chainF at h
  split at h
  · cases h
  · rw [List.getElem?_eq_getElem hj]
    exact first_zero h _ (List.getElem_mem _)
theorem shaft_ok {xs : List Int} (h : curveF xs = 0) : 1 ≤ (shaftRate xs).2 ∧ (shaftRate xs).2 ≤ 6 ∧ 0 ≤ (shaftRate xs).1 ∧ (shaftRate xs).1 ≤ 1000000 :=
  rate_ok (nums_of h) (curve_nums h).1 (curve_nums h).2.1 (Nat.le_refl _)
theorem rateOf_ok {xs : List Int} (h : curveF xs = 0) {q : Nat} (hq : Best xs q) : 1 ≤ (rateOfR xs true).2 ∧ (rateOfR xs true).2 ≤ 6 ∧ 0 ≤ (rateOfR xs true).1 ∧ (rateOfR xs true).1 ≤ 1000000 := by
  unfold rateOfR
  rw [if_pos rfl, rateN_is (nums_of h) (curve_nums h).2.1 hq]
  exact rate_ok (nums_of h) hq.1 (by have := hq.2.1; have := (curve_nums h).2.1; omega) hq.2.1
theorem asked_same (cs : List Int) (css : List (List Int)) : boardE cs css = askedR cs css := by
  by_cases h1 : curveF cs = 0
  case neg =>
    unfold boardE askedR
    rw [if_pos h1, if_pos h1]
  by_cases h2 : chainF css = 0
  case neg =>
    have e1 : boardE cs css = chainF css := by unfold boardE; rw [if_neg (by rw [h1]; simp), if_pos h2]
    have e2 : askedR cs css = chainF css := by unfold askedR; rw [if_neg (by rw [h1]; simp), if_pos h2]
    rw [e1, e2]
  have e1 : boardE cs css = if slowF (chainRate css) (sourceRate (fewQ cs)) = true then 18 else 0 := by unfold boardE; rw [if_neg (by rw [h1]; simp), if_neg (by rw [h2]; simp)]
  have e2 : askedR cs css = if (List.range css.length).any (fun i => slowF (shaftRate (css[i]?.getD [])) (rateOfR cs true)) then 18 else 0 := by unfold askedR; rw [if_neg (by rw [h1]; simp), if_neg (by rw [h2]; simp)]
  rw [e1, e2]
  obtain ⟨q, hq⟩ := best_exists (nums_of h1).1
  have hs : sourceRate (fewQ cs) = rateOfR cs true := by
    unfold rateOfR
    rw [if_pos rfl, sourceRate_is (nums_of h1) (curve_nums h1).2.1 hq, rateN_is (nums_of h1) (curve_nums h1).2.1 hq]
  rw [hs]
  have hok := rateOf_ok h1 hq
  obtain ⟨hc1, -, -⟩ := chain_nums h2
  have ok : ∀ i : Fin css.length, 1 ≤ (shaftRate (css[i.1]'i.2)).2 ∧ (shaftRate (css[i.1]'i.2)).2 ≤ 6 ∧ 0 ≤ (shaftRate (css[i.1]'i.2)).1 ∧ (shaftRate (css[i.1]'i.2)).1 ≤ 1000000 := fun i => by
    have := shaft_ok (chain_curves h2 i.2)
    rw [List.getElem?_eq_getElem i.2] at this
    exact this
  have hne : List.finRange css.length ≠ [] := by
    intro e
    have := List.length_finRange (n := css.length)
    rw [e] at this
    simp at this
    omega
  obtain ⟨v, hv⟩ := bestO_some (fun i : Fin css.length => shaftRate (css[i.1]'i.2)) slowF _ none (.inl hne)
  have e : chainRate css = v := by unfold chainRate bestO; rw [hv]; rfl
  obtain ⟨p, -, hp⟩ := foldR_mem _ hv
  have hmin := (foldR_le _ ok _ _ _ (fun b hb => by cases hb) hv).1
  have hvk : slowF (chainRate css) (rateOfR cs true) = decide (keyR v < keyR (rateOfR cs true)) := by
    rw [e, hp]
    exact slow_key (ok p).1 (ok p).2.1 hok.1 hok.2.1 (ok p).2.2 hok.2.2
  rw [hvk]
  have hiff : (decide (keyR v < keyR (rateOfR cs true)) = true) = ((List.range css.length).any (fun i => slowF (shaftRate (css[i]?.getD [])) (rateOfR cs true)) = true) := by
    rw [eq_iff_iff]
    constructor
    · intro h
      rw [List.any_eq_true]
      refine ⟨p.1, List.mem_range.2 p.2, ?_⟩
      have hk := slow_key (ok p).1 (ok p).2.1 hok.1 hok.2.1 (ok p).2.2 hok.2.2
      rw [List.getElem?_eq_getElem p.2]
      show slowF (shaftRate (css[p.1]'p.2)) (rateOfR cs true) = true
      rw [hk, ← hp]
      exact h
    · intro h
      rw [List.any_eq_true] at h
      obtain ⟨i, hi, hsl⟩ := h
      have hil := List.mem_range.1 hi
      rw [List.getElem?_eq_getElem hil] at hsl
      have hk := slow_key (ok ⟨i, hil⟩).1 (ok ⟨i, hil⟩).2.1 hok.1 hok.2.1 (ok ⟨i, hil⟩).2.2 hok.2.2
      have hsl' : slowF (shaftRate (css[i]'hil)) (rateOfR cs true) = true := hsl
      rw [hk] at hsl'
      have h1 := of_decide_eq_true hsl'
      have h2 := hmin ⟨i, hil⟩ (List.mem_finRange _)
      exact decide_eq_true (by omega)
  simp only [hiff]
/-- What was asked for is fair. -/
theorem asked_fair {cs : List Int} {css : List (List Int)} (h : askedR cs css = 0) : curveF cs = 0 ∧ chainF css = 0 ∧ ∃ q a, Fair cs css (css.length - 1) q a := by
  unfold askedR at h
  by_cases h1 : curveF cs = 0
  · rw [if_neg (by rw [h1]; simp)] at h
    by_cases h2 : chainF css = 0
    · rw [if_neg (by rw [h2]; simp)] at h
      refine ⟨h1, h2, ?_⟩
      obtain ⟨q, hq⟩ := best_exists (nums_of h1).1
      obtain ⟨hc1, hc3, hcn⟩ := chain_nums h2
      have hlens : ∀ j, j ≤ css.length - 1 → 1 ≤ lenA css j ∧ lenA css j ≤ 6 := fun j hj => by
        have := curve_nums (chain_curves h2 (show j < css.length by omega))
        exact ⟨this.1, this.2.1⟩
      obtain ⟨a, ha⟩ := slow_exists css (css.length - 1) fun j hj => (hlens j hj).1
      refine ⟨q, a, nums_of h1, ups_of h1, (curve_nums h1).2.1, hq, by omega, hlens, fun j hj => hcn j (by omega), ha, fun j hj => ?_⟩
      have hnot : ¬ slowF (shaftRate (css[j]?.getD [])) (rateOfR cs true) = true := by
        intro hs
        rw [if_pos] at h
        · cases h
        · rw [List.any_eq_true]
          exact ⟨j, List.mem_range.2 (by omega), hs⟩
      have hok := rateOf_ok h1 hq
      have hsk := shaft_ok (chain_curves h2 (show j < css.length by omega))
      rw [slow_key hsk.1 hsk.2.1 hok.1 hok.2.1 hsk.2.2 hok.2.2] at hnot
      have hle : keyR (rateOfR cs true) ≤ keyR (shaftRate (css[j]?.getD [])) := by
        have : ¬ keyR (shaftRate (css[j]?.getD [])) < keyR (rateOfR cs true) := fun h => hnot (decide_eq_true h)
        omega
      unfold rateOfR at hle
      rw [if_pos rfl, rateN_is (nums_of h1) (curve_nums h1).2.1 hq] at hle
      have hl := hlens j hj
      have hq6 : q ≤ 6 := by have := hq.2.1; have := (curve_nums h1).2.1; omega
      have hr := (ratR_lt (N := (cs[q - 1]?.getD 0).toNat) (M := ((css[j]?.getD [])[(css[j]?.getD []).length - 1]?.getD 0).toNat) hq.1 hq6 hl.1 hl.2).1 hle
      have c1 := ((nums_of h1).2.2 (q - 1) (by have := hq.1; have := hq.2.1; omega)).1
      have c2 := ((hcn j (by omega)).2.2 ((css[j]?.getD []).length - 1) (by have := hl.1; unfold lenA at this; omega)).1
      have e1 : ((cs[q - 1]?.getD 0).toNat : Int) = cs[q - 1]?.getD 0 := Int.toNat_of_nonneg c1
      have e2 : (((css[j]?.getD [])[(css[j]?.getD []).length - 1]?.getD 0).toNat : Int) = lastA css j := Int.toNat_of_nonneg c2
      rw [← e1, ← e2]
      exact_mod_cast hr
    · rw [if_pos h2] at h
      exact absurd h h2
  · rw [if_pos h1] at h
    exact absurd h h1
/-! ### the bounds -/
theorem lvl_zero (css : List (List Int)) : ∀ s, lvl css s 0 = 0
  | 0 => leastF_zero _
  | s + 1 => by rw [lvl_succ, minP_one, leastF_zero, Nat.sub_zero, lvl_zero css s]; omega
theorem came_at {cs : List Int} (h : curveF cs = 0) {k : Nat} (hk : k ≤ 120) : (cameL cs)[k]?.getD 0 = mst cs k := mostL_get h hk
theorem gone_at (css : List (List Int)) {k : Nat} (hk : k ≤ 120) : (goneL css)[k]?.getD 0 = lvl css (css.length - 1) k := lvlR_get (by omega) (by omega)
theorem zero_mst {cs : List Int} (h : curveF cs = 0) (hz : zeroF (fewQ cs) = true) (k : Nat) : mst cs k = 0 := by
  have hv := nums_of h
  have h1 : mst cs 1 = 0 := by
    unfold zeroF at hz
    simp only [Bool.and_eq_true, decide_eq_true_eq] at hz
    rw [← fewQ_at (show 1 ≤ 6 by omega)]
    exact hz.2.1
  induction k with
  | zero => rfl
  | succ k ih =>
    have a := mst_sub hv.1 k 1
    have b := (mst_nonneg hv (k + 1)).1
    omega
/-- In how many turns it is added, at most twenty. -/
def lagN (cs : List Int) (css : List (List Int)) (k : Nat) : Nat := (List.range 21).findIdx fun n => decide (mst cs k ≤ lvl css (css.length - 1) (k + n))
theorem lagN_spec {cs : List Int} {css : List (List Int)} {q a : Nat} (hf : Fair cs css (css.length - 1) q a) (k : Nat) : lagN cs css k ≤ 20 ∧ mst cs k ≤ lvl css (css.length - 1) (k + lagN cs css k) ∧ ∀ n, n < lagN cs css k → lvl css (css.length - 1) (k + n) < mst cs k := by
  have hex : ∃ x ∈ List.range 21, decide (mst cs k ≤ lvl css (css.length - 1) (k + x)) = true := ⟨20, List.mem_range.2 (by omega), decide_eq_true (hf.late k)⟩
  have hlt := List.findIdx_lt_length_of_exists hex
  have h21 : lagN cs css k < 21 := by simpa [lagN] using hlt
  refine ⟨by omega, ?_, fun n hn => ?_⟩
  · have := List.findIdx_getElem (xs := List.range 21) (p := fun n => decide (mst cs k ≤ lvl css (css.length - 1) (k + n))) (w := hlt)
    rw [List.getElem_range] at this
    exact of_decide_eq_true this
  · have := List.not_of_lt_findIdx (xs := List.range 21) (p := fun n => decide (mst cs k ≤ lvl css (css.length - 1) (k + n))) (i := n) hn
    rw [List.getElem_range] at this
    have := of_decide_eq_false this
    omega
theorem lagN_is {cs : List Int} {css : List (List Int)} {q a : Nat} (hf : Fair cs css (css.length - 1) q a) {k r : Nat} (h1 : ∀ n, n < r → lvl css (css.length - 1) (k + n) < mst cs k) (h2 : mst cs k ≤ lvl css (css.length - 1) (k + r)) : lagN cs css k = r := by
  obtain ⟨-, a1, a2⟩ := lagN_spec hf k
  rcases Nat.lt_trichotomy (lagN cs css k) r with h | h | h
  · have := h1 _ h
    omega
  · exact h
  · have := a2 _ h
    omega
theorem lagN_late {cs : List Int} {css : List (List Int)} {q a : Nat} (hc : curveF cs = 0) (hf : Fair cs css (css.length - 1) q a) {k : Nat} (hk : k ≤ 99) : lateF (cameL cs) (goneL css) k = (lagN cs css k : Int) := by
  obtain ⟨h1, h2, h3⟩ := lagN_spec hf k
  refine late_is (fun j hj => ?_) ?_ (by rw [gone_len]; omega)
  · rw [gone_at css (by omega), came_at hc (by omega)]
    exact h3 j hj
  · rw [gone_at css (by omega), came_at hc (by omega)]
    exact h2
theorem worst_is {cs : List Int} {f : Nat → Int} (hN : zeroF (fewQ cs) = true → ∀ k, k < 181 → f k ≤ 0) (h0 : 0 ≤ f 0) (h : ∀ k, k < 181 → ∃ k', k' ≤ 99 ∧ f k ≤ f k') {g : Nat → Int} (hfg : ∀ k, k ≤ 99 → g k = f k) : worstF (fewQ cs) g = maxZ f 181 := by
  unfold worstF
  by_cases hz : zeroF (fewQ cs) = true
  · rw [if_pos hz, maxZ_zero (hN hz)]
  · rw [if_neg hz, maxZ_eq h0 (by omega) h]
    show maxP 0 99 g = _
    exact maxP_congr (Nat.zero_le _) fun p _ hp => hfg p hp
/-- The wait, the lateness, and what goes on behind: of 180 turns. -/
theorem wait_same {cs : List Int} {css : List (List Int)} (h : askedR cs css = 0) : waitV cs css = (maxZ (fun k => mst cs k - lvl css (css.length - 1) k) 181, 0) := by
  obtain ⟨hc, hch, q, a, hf⟩ := asked_fair h
  obtain ⟨P, hP1, hP30, z, hz1, hz2⟩ := hf.period
  unfold waitV
  rw [if_neg (by rw [asked_same, h]; simp)]
  refine congrArg (fun x : Int => (x, (0 : Int))) ?_
  refine worst_is (fun hz k _ => ?_) ?_ (fun k _ => early hP1 hP30 (fun k hk => ?_) k) fun k hk => ?_
  · rw [zero_mst hc hz]
    have := (lvl_bound (chain_nums hch).2.2 (css.length - 1) k (by have := (chain_nums hch).1; omega)).1
    omega
  · rw [lvl_zero, mst_zero]
    omega
  · have := hz1 k
    have := hz2 k hk
    omega
  · unfold waitF
    rw [came_at hc (by omega), gone_at css (by omega)]
theorem late_same {cs : List Int} {css : List (List Int)} (h : askedR cs css = 0) : lateV cs css = (maxZ (fun k => (lagN cs css k : Int)) 181, 0) := by
  obtain ⟨hc, hch, q, a, hf⟩ := asked_fair h
  obtain ⟨P, hP1, hP30, z, hz1, hz2⟩ := hf.period
  unfold lateV
  rw [if_neg (by rw [asked_same, h]; simp)]
  refine congrArg (fun x : Int => (x, (0 : Int))) ?_
  refine worst_is (fun hz k _ => ?_) (by omega) (fun k _ => early hP1 hP30 (fun k hk => ?_) k) fun k hk => lagN_late hc hf hk
  · have : lagN cs css k = 0 := lagN_is hf (fun n hn => by omega) (by
      rw [zero_mst hc hz]
      exact (lvl_bound (chain_nums hch).2.2 (css.length - 1) (k + 0) (by have := (chain_nums hch).1; omega)).1)
    omega
  · obtain ⟨a1, a2, a3⟩ := lagN_spec hf k
    obtain ⟨b1, b2, b3⟩ := lagN_spec hf (k + P)
    have c1 := hz1 k
    have c2 := hz2 (k + lagN cs css k) (by omega)
    rw [show k + lagN cs css k + P = k + P + lagN cs css k by omega] at c2
    have : ¬ lagN cs css k < lagN cs css (k + P) := fun hlt => by
      have := b3 _ hlt
      omega
    omega
theorem behind_same {cs : List Int} {css : List (List Int)} (h : askedR cs css = 0) {t : Nat} (ht : t ≤ 20) : behF cs css t = maxZ (fun u => mst cs (t + u) - lvl css (css.length - 1) u) 181 := by
  obtain ⟨hc, hch, q, a, hf⟩ := asked_fair h
  obtain ⟨P, hP1, hP30, z, hz1, hz2⟩ := hf.period
  unfold behF
  refine worst_is (fun hz k _ => ?_) ?_ (fun k _ => early hP1 hP30 (fun k hk => ?_) k) fun k hk => ?_
  · rw [zero_mst hc hz]
    have := (lvl_bound (chain_nums hch).2.2 (css.length - 1) k (by have := (chain_nums hch).1; omega)).1
    omega
  · rw [lvl_zero]
    have := (mst_nonneg (nums_of hc) (t + 0)).1
    omega
  · have a1 := hz1 (t + k)
    have a2 := hz2 k hk
    rw [show t + (k + P) = t + k + P by omega]
    omega
  · rw [came_at hc (by omega), gone_at css (by omega), Nat.add_comm]
end Go.Proofs.Ytlgibckhkdggdaa

/- lag's reference: Asked, Wait. -/
namespace Go.Proofs.Ytlgibckhkdggdaa
open Go.RowKit Go.Shelf

attribute [local go_sem] Oper.semAt_some

set_option maxRecDepth 100000 in
set_option maxHeartbeats 8000000 in
theorem rAsked_any (w : World) (B B2 : Nat) (A A2 : Option Addr) (n c K c2 : Nat) (xs : List Int) (css : List (List Int)) (hx : IntsAt w B A n xs) (hB : B ≤ w.heap.size) (hy : RowsAt w B2 A2 K css) (hB2 : B2 ≤ w.heap.size) :
    Calls Try.prog 59 #[.slice A n c, .slice A2 K c2] w fun e w' => e = .returned (.int .i64 (askedR xs css)) ∧ Below w.heap.size w w' := by
  have hm := hx.small
  have hm2 := hy.2.1
  have Hl := Lib.hid hy.1
  go_enter Try.func59, Try.ntmps59
  go_wp2_with (fail)
  refine (rCheckCurve_any w B A n c xs (hx.below (Below.refl _ w) hB)).mono ?_
  rintro e w1 ⟨rfl, q, hq⟩
  have hb1 : Below w.heap.size w w1 := by rw [hq]; exact (Below.refl _ w).trans (below_drewN _ _)
  clear hq
  obtain ⟨r, hr⟩ : ∃ r, r = curveF xs := ⟨_, rfl⟩
  rw [← hr]
  by_cases h0 : r = 0
  case neg =>
    have hne : (r != 0) = true := by rw [bne_iff_ne]; exact h0
    have Hr := Lib.hid (And.intro hr h0)
    clear hr h0
    go_wp2_with (fail)
    refine (rCheckCurve_any w1 B A n c xs (hx.below (hb1) hB)).mono ?_
    rintro e wl ⟨rfl, q, hq⟩
    have hbl : Below w.heap.size w wl := by rw [hq]; exact hb1.trans (below_drewN _ _)
    clear hq
    rw [← Hr.out.1]
    go_wp2_with (fail)
    go_ret
    refine ⟨ret_int ?_, hbl⟩
    unfold askedR
    rw [if_pos (by rw [← Hr.out.1]; exact Hr.out.2), Hr.out.1]
  case pos =>
    subst h0
    have Hc := Lib.hid hr.symm
    clear hr
    go_wp2_with (fail)
    refine (rCheckChain_any w1 B2 A2 K c2 css (hy.below (hb1) hB2)).mono ?_
    rintro e w2 ⟨rfl, q, hq⟩
    have hb2 : Below w.heap.size w w2 := by rw [hq]; exact (hb1).trans (below_drewN _ _)
    clear hq
    obtain ⟨r, hr⟩ : ∃ r, r = chainF css := ⟨_, rfl⟩
    rw [← hr]
    by_cases h0 : r = 0
    case neg =>
      have hne : (r != 0) = true := by rw [bne_iff_ne]; exact h0
      have Hr := Lib.hid (And.intro hr h0)
      clear hr h0
      go_wp2_with (fail)
      refine (rCheckChain_any w2 B2 A2 K c2 css (hy.below (hb2) hB2)).mono ?_
      rintro e wl ⟨rfl, q, hq⟩
      have hbl : Below w.heap.size w wl := by rw [hq]; exact hb2.trans (below_drewN _ _)
      clear hq
      rw [← Hr.out.1]
      go_wp2_with (fail)
      go_ret
      refine ⟨ret_int ?_, hbl⟩
      unfold askedR
      rw [if_neg (by rw [Hc.out]; simp), if_pos (by rw [← Hr.out.1]; exact Hr.out.2), Hr.out.1]
    case pos =>
      subst h0
      have Ho := Lib.hid hr.symm
      clear hr
      have Ha := Lib.hid (show askedR xs css = if (List.range css.length).any (fun i => slowF (shaftRate (css[i]?.getD [])) (rateOfR xs true)) then 18 else 0 by unfold askedR; rw [if_neg (by rw [Hc.out]; simp), if_neg (by rw [Ho.out]; simp)])
      have Hn := Lib.hid (chain_nums Ho.out).2.2
      go_wp2_with (fail)
      go_loopg [5] K (fun g v5 wr => ∃ k : Nat, (k ≤ K ∧ g = K - k ∧ v5 = .int .i64 (k : Int)) ∧ Hid (∀ i, i < k → slowF (shaftRate (css[i]?.getD [])) (rateOfR xs true) = false) ∧ Below w.heap.size w wr)
      case atStart => exact ⟨0, ⟨by omega, rfl, rfl⟩, Lib.hid fun i h => by omega, hb2⟩
      case round =>
        clear hb2 hb1
        obtain ⟨k, ⟨hk, rfl, rfl⟩, hall, hb⟩ := hrel
        have hsz := hb.size
        by_cases hlt : k < K
        case neg =>
          obtain rfl : k = K := by omega
          have Hr := Lib.hid (show askedR xs css = 0 by
            rw [Ha.out, if_neg]
            rw [Bool.not_eq_true, List.any_eq_false]
            intro i hi
            have := hall.out i (by have := List.mem_range.1 hi; rw [Hl.out] at this; exact this)
            simp [this])
          go_wp2_with (fail)
          go_ret
          exact ⟨ret_int Hr.out.symm, hb⟩
        case pos =>
          have hwk : IntKind.i64.wrap ((k : Int) + 1) = (k : Int) + 1 := by rw [IntKind.wrap_i64]; omega
          obtain ⟨b, off, cs, A', m, c', rfl, hbB, hcs, hcell, hi⟩ := (hy.below hb hB2).at hlt
          have hcv : cs = css[k]?.getD [] := by rw [hcs]; rfl
          have hnum := Hn.out k (by rw [Hl.out]; exact hlt)
          rw [← hcv] at hnum
          have Hcv := Lib.hid hcv
          clear hcv hcs
          go_wp2_with (fail)
          clear hcell
          refine (rRateOf_any wr B2 A' m c' cs false hi (by omega) hnum).mono ?_
          rintro e w3 ⟨rfl, hb3⟩
          have hb4 := hb.trans (hb3.mono hsz)
          rw [show rateOfR cs false = shaftRate cs from rfl]
          clear hb3 hb hi
          go_wp2_with (fail)
          refine (rRateOf_any w3 B A n c xs true (hx.below hb4 hB) (by have := hb4.size; omega) (nums_of Hc.out)).mono ?_
          rintro e w4 ⟨rfl, hb5⟩
          have hb6 := hb4.trans (hb5.mono hb4.size)
          clear hb5 hb4
          go_wp2_with (fail)
          refine (rLess_any w4 (shaftRate cs) (rateOfR xs true)).mono ?_
          rintro e w5 ⟨rfl, hb7⟩
          have hb8 := hb6.trans (hb7.mono hb6.size)
          clear hb7 hb6
          obtain ⟨sl, hsl⟩ : ∃ sl, sl = slowF (shaftRate cs) (rateOfR xs true) := ⟨_, rfl⟩
          rw [← hsl]
          have Hsl := Lib.hid hsl
          clear hsl
          cases sl with
          | true =>
            have Hr := Lib.hid (show askedR xs css = 18 by
              rw [Ha.out, if_pos]
              rw [List.any_eq_true]
              exact ⟨k, List.mem_range.2 (by rw [Hl.out]; exact hlt), by rw [← Hcv.out]; exact Hsl.out.symm⟩)
            go_wp2_with (fail)
            go_ret
            exact ⟨ret_int Hr.out.symm, hb8⟩
          | false =>
            go_wp2_with (fail)
            go_roundg (K - (k + 1))
            case measure => omega
            case rel =>
              refine ⟨k + 1, ⟨by omega, rfl, by simp⟩, Lib.hid fun i hi' => ?_, hb8⟩
              rcases Nat.lt_succ_iff_lt_or_eq.1 hi' with h | rfl
              · exact hall.out i h
              · rw [← Hcv.out]
                exact Hsl.out.symm
set_option maxRecDepth 100000 in
set_option maxHeartbeats 16000000 in
theorem rWait_any (w : World) (B B2 : Nat) (A A2 : Option Addr) (n c K c2 : Nat) (xs : List Int) (css : List (List Int)) (hx : IntsAt w B A n xs) (hB : B ≤ w.heap.size) (hy : RowsAt w B2 A2 K css) (hB2 : B2 ≤ w.heap.size) :
    Calls Try.prog 41 #[.slice A n c, .slice A2 K c2] w fun e w' => e = .returned (.tuple #[.int .i64 (waitV xs css).1, .int .i64 (waitV xs css).2]) ∧ Below w.heap.size w w' := by
  have hm := hx.small
  have hm2 := hy.2.1
  have Hl := Lib.hid hy.1
  go_enter Try.func41, Try.ntmps41
  go_wp2_with (fail)
  refine (rAsked_any w B B2 A A2 n c K c2 xs css (hx.below (Below.refl w.heap.size w) hB) (by have := (Below.refl w.heap.size w).size; omega) (hy.below (Below.refl w.heap.size w) hB2) (by have := (Below.refl w.heap.size w).size; omega)).mono ?_
  rintro e w1 ⟨rfl, hb1⟩
  obtain ⟨r, hr⟩ : ∃ r, r = askedR xs css := ⟨_, rfl⟩
  rw [← hr]
  by_cases h0 : r = 0
  case neg =>
    have hne : (r != 0) = true := by rw [bne_iff_ne]; exact h0
    have Hr := Lib.hid (And.intro hr h0)
    clear hr h0
    go_wp2_with (fail)
    refine (rAsked_any w1 B B2 A A2 n c K c2 xs css (hx.below (hb1) hB) (by have := (hb1).size; omega) (hy.below (hb1) hB2) (by have := (hb1).size; omega)).mono ?_
    rintro e wl ⟨rfl, hq⟩
    have hbl : Below w.heap.size w wl := hb1.trans (hq.mono hb1.size)
    clear hq
    rw [← Hr.out.1]
    go_wp2_with (fail)
    refine bodyPost_ret (results_two rfl _ _ (.int .i64 0) (.int .i64 r) (by simp) (by simp)) rfl ⟨?_, hbl⟩
    have e : waitV xs css = (0, r) := by unfold waitV; rw [asked_same, if_pos (by rw [← Hr.out.1]; exact Hr.out.2), Hr.out.1]
    rw [e]
  case pos =>
    subst h0
    have Ho := Lib.hid hr.symm
    clear hr
    obtain ⟨hc, hch, q0, a0, hf⟩ := asked_fair Ho.out
    have Hc := Lib.hid hc
    have Hf := Lib.hid hf
    obtain ⟨hk1, hk3, hkn⟩ := chain_nums hch
    have Hn := Lib.hid hkn
    rw [Hl.out] at hk1 hk3
    clear hc hch hf hkn
    have hz1 := hb1.size
    go_wp2_with (fail)
    refine (rMosts_any w1 B A n c 180 xs (hx.below hb1 hB) (by omega) (nums_of Hc.out) (by omega)).mono ?_
    rintro e w2 ⟨v, rfl, hmost, hb2⟩
    obtain ⟨g, cap, rfl⟩ := ownsRow_succ hmost
    have i1 := OwnZ.ints hmost (by omega)
    have hb3 := hb1.trans (hb2.mono hz1)
    have hz3 := hb3.size
    clear hb2 hb1 hmost
    go_wp2_with (fail)
    refine (rLeasts_any w2 B2 A2 K c2 180 css (hy.below hb3 hB2) (by omega) Hn.out hk1 (by omega) (by omega)).mono ?_
    rintro e w3 ⟨g2, hg2, rfl, hrow, hb4⟩
    have i1 := i1.below hb4 (Nat.le_refl _)
    have i2 := hrow.ints (n := 180 + 1) (lvlR_len _ _ _ _) (by omega)
    have hb5 := hb3.trans (hb4.mono hz3)
    have hz23 := hb4.size
    clear hb3 hb4 hrow
    have I1 := Lib.hid i1
    have I2 := Lib.hid i2
    clear i1 i2
    go_wp2_with (fail)
    go_loopg [8, 9] 181 (fun g' v8 v9 wr => ∃ k q : Nat, (k ≤ 181 ∧ g' = 181 - k ∧ v9 = .int .i64 (k : Int) ∧ v8 = .int .i64 (maxZ (fun k => mst xs k - lvl css (K - 1) k) k)) ∧ Hid (wr = w3.drewN q))
    case atStart => exact ⟨0, 0, ⟨by omega, rfl, rfl, rfl⟩, Lib.hid rfl⟩
    case round =>
      obtain ⟨k, q, ⟨hk, rfl, rfl, rfl⟩, hq⟩ := hrel
      by_cases hlt : (k : Int) ≤ 180
      case neg =>
        obtain rfl : k = 181 := by omega
        obtain ⟨y, hy'⟩ : ∃ y, y = maxZ (fun k => mst xs k - lvl css (K - 1) k) 181 := ⟨_, rfl⟩
        rw [← hy']
        have Hy := Lib.hid hy'
        clear hy'
        go_wp2_with (fail)
        refine bodyPost_ret (results_two rfl _ _ (.int .i64 y) (.int .i64 0) (by simp) (by simp)) rfl ⟨?_, by rw [hq.out]; exact hb5.trans (below_drewN _ _)⟩
        rw [wait_same Ho.out, Hl.out, ← Hy.out]
      case pos =>
        have i1' : IntsAt wr w2.heap.size (some ⟨g, 0, none⟩) 181 (sumsT xs 180) := by rw [hq.out]; exact I1.out.drewN _
        have i2' : IntsAt wr w3.heap.size (some ⟨g2, 0, none⟩) 181 (lvlR 181 css (K - 1) 181) := by rw [hq.out]; exact I2.out.drewN _
        obtain ⟨b1, o1, e1, -, c1⟩ := i1'.cell (k := k) (by omega)
        cases e1
        obtain ⟨b2, o2, e2, -, c2'⟩ := i2'.cell (k := k) (by omega)
        cases e2
        rw [sumsT_get xs (by omega), Nat.zero_add] at c1
        rw [lvlR_get (by omega) (by omega), Nat.zero_add] at c2'
        have bd1 := mst_nonneg (nums_of Hc.out) k
        have bd2 := lvl_bound Hn.out (K - 1) k (by rw [Hl.out]; omega)
        have w1 : IntKind.i64.wrap (mst xs k - lvl css (K - 1) k) = mst xs k - lvl css (K - 1) k := by rw [IntKind.wrap_i64]; omega
        have hwk : IntKind.i64.wrap ((k : Int) + 1) = (k : Int) + 1 := by rw [IntKind.wrap_i64]; omega
        have hnx : maxZ (fun k => mst xs k - lvl css (K - 1) k) (k + 1) = max (maxZ (fun k => mst xs k - lvl css (K - 1) k) k) (mst xs k - lvl css (K - 1) k) := rfl
        rw [Int.max_def] at hnx
        have hk181 : k < 181 := by omega
        obtain ⟨x1, hx1⟩ : ∃ x, x = mst xs k := ⟨_, rfl⟩
        obtain ⟨x2, hx2⟩ : ∃ x, x = lvl css (K - 1) k := ⟨_, rfl⟩
        rw [← hx1] at c1 w1 hnx
        rw [← hx2] at c2' w1 hnx
        obtain ⟨y, hy'⟩ : ∃ y, y = x1 - x2 := ⟨_, rfl⟩
        have w1 : IntKind.i64.wrap (x1 - x2) = y := by rw [hy']; exact w1
        rw [← hy'] at hnx
        obtain ⟨cur, hcu⟩ : ∃ x, x = maxZ (fun k => mst xs k - lvl css (K - 1) k) k := ⟨_, rfl⟩
        rw [← hcu] at hnx ⊢
        have Hnx := Lib.hid hnx
        have Hye := Lib.hid hy'
        clear hx1 hx2 hy' hcu hnx bd1 bd2 i1' i2'
        by_cases hcy : cur ≤ y
        · have hcy2 : cur < y ∨ cur = y := by omega
          rcases hcy2 with hcy2 | hcy2
          · have hcy3 : ¬ y ≤ cur := by omega
            have Hcy := Lib.hid hcy
            go_wp2
            go_quiet (fail)
            go_wp2
            go_roundg (181 - (k + 1))
            case measure => omega
            case rel => exact ⟨k + 1, _, ⟨by omega, rfl, by simp, by rw [Hnx.out, if_pos Hcy.out] <;> simp [Hye.out]⟩, Lib.hid (by rw [hq.out]; simp only [World.drewN_drewN]; rfl)⟩
          · subst hcy2
            have hcy3 : ¬ cur < cur := by omega
            go_wp2
            go_quiet (fail)
            go_wp2
            go_roundg (181 - (k + 1))
            case measure => omega
            case rel => exact ⟨k + 1, _, ⟨by omega, rfl, by simp, by rw [Hnx.out, if_pos (Int.le_refl _)]⟩, Lib.hid (by rw [hq.out]; simp only [World.drewN_drewN]; rfl)⟩
        · have hcy2 : y < cur := by omega
          have hcy3 : y ≤ cur := by omega
          have hcy4 : ¬ cur < y := by omega
          have Hcy := Lib.hid hcy2
          go_wp2
          go_quiet (fail)
          go_wp2
          go_roundg (181 - (k + 1))
          case measure => omega
          case rel => exact ⟨k + 1, _, ⟨by omega, rfl, by simp, by rw [Hnx.out, if_neg (by have := Hcy.out; omega)]⟩, Lib.hid (by rw [hq.out]; simp only [World.drewN_drewN]; rfl)⟩
end Go.Proofs.Ytlgibckhkdggdaa
