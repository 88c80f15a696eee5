/- Parts of a proof: DJ DG. -/
import Derived.Test.YthjgecblkagelaaGreatM28

/- The longest rows from doomed states: pure part of TurnLasted. -/
namespace Go.Proofs.YthjgecblkagelaaGreat
open Go.RowKit Go.Shelf

structure Wit (ts : List Int) (s : CSt) : Prop where
  wit : ∀ x ∈ s.2.2, mget 0 s.2.1 x = 0 ∨ ∃ y ∈ visitsF ts x, mget 0 s.2.1 y.2 + 1 = mget 0 s.2.1 x
  idx : ∀ (i : Nat) (x : Pl), s.2.2[i]? = some x → mget 0 s.2.1 x ≤ (i : Int)
theorem wit_zero (ts : List Int) : Wit ts (tab0 ts) := by
  obtain ⟨-, i2, -, -⟩ := tab_fold ts (allP ts) ([], [], []) (by simp [Keys]) (fun _ => rfl)
  have e : tab0 ts = (allP ts).foldl (tabStep ts) ([], [], []) := rfl
  rw [← e] at i2
  exact ⟨fun x _ => .inl (i2 x), fun i x _ => by rw [i2]; omega⟩
theorem wit_more {ts : List Int} (hv : Valid ts) {k : Nat} {s : CSt} {p : Pl} (hI : Inv ts k s) (hW : Wit ts s) (hp : s.2.2[k]? = some p) : Wit ts (tabMore ts s p) := by
  have hpm : p ∈ s.2.2 := List.mem_of_getElem? hp
  have hpn := hI.nice p hpm
  have hk : k < s.2.2.length := (List.getElem?_eq_some_iff.1 hp).1
  have hM := mid_fold hv hI hp (beforeF ts p) [] (s.1, s.2.1, []) rfl ⟨by simp, fun x hx => (by cases hx), hI.keys, fun x hx hxs _ => (by
    have := hI.out x hx hxs
    simp only [List.not_mem_nil, if_false]
    exact ⟨by omega, by omega⟩), fun x hx => hx.elim (hI.inn x) (fun h => (by cases h)), fun x => (by simp)⟩
  obtain ⟨c, hc⟩ : ∃ c, c = condL p (s.1, s.2.1, []) (beforeF ts p) := ⟨_, rfl⟩
  have e : tabMore ts s p = (c.1, c.2.1, s.2.2 ++ c.2.2) := by rw [hc]; rfl
  rw [← hc] at hM
  rw [e]
  have hold : ∀ x ∈ s.2.2, mget 0 c.2.1 x = mget 0 s.2.1 x := fun x hx => by rw [hM.la x, if_neg (fun h => (hM.sub x h).2.1 hx)]
  have hnew : ∀ x ∈ c.2.2, mget 0 c.2.1 x = mget 0 s.2.1 p + 1 := fun x hx => by rw [hM.la x, if_pos hx]
  refine ⟨fun x hx => ?_, fun i x hi => ?_⟩
  · rcases List.mem_append.1 hx with h | h
    · rcases hW.wit x h with h0 | ⟨y, hy, e⟩
      · exact .inl (by rw [hold x h]; exact h0)
      · exact .inr ⟨y, hy, by rw [hold x h, hold _ (List.mem_of_mem_take (hI.suc x h y hy).1)]; exact e⟩
    · obtain ⟨-, i, hsu⟩ := (before_mem hv hpn).1 (hM.sub x h).1
      exact .inr ⟨(i, p), (visits_mem hv.h5).2 hsu, by rw [hnew x h]; simp only [hold p hpm]⟩
  · simp only at hi
    rcases Nat.lt_or_ge i s.2.2.length with h | h
    · rw [List.getElem?_append_left h] at hi
      rw [hold x (List.mem_of_getElem? hi)]
      exact hW.idx i x hi
    · rw [List.getElem?_append_right h] at hi
      rw [hnew x (List.mem_of_getElem? hi)]
      have := hW.idx k p hp
      omega
theorem wit_all {ts : List Int} (hv : Valid ts) : ∀ k, Wit ts (tabN ts k)
  | 0 => wit_zero ts
  | k + 1 => by
    have ih := wit_all hv k
    rcases Nat.lt_or_ge k (tabN ts k).2.2.length with h | h
    · rw [tabN_some (List.getElem?_eq_getElem h)]
      exact wit_more hv (inv_all hv k) ih (List.getElem?_eq_getElem h)
    · rw [tabN_none h]
      exact ih
theorem dq_wit {ts : List Int} (hv : Valid ts) {p : Pl} (hp : p ∈ dq ts) : la ts p = 0 ∨ ∃ y ∈ visitsF ts p, la ts y.2 + 1 = la ts p := by
  have h := (wit_all hv 1000).wit p
  rw [← tabE_eq] at h
  exact h hp
theorem la_lt {ts : List Int} (hv : Valid ts) {p : Pl} (hp : p ∈ dq ts) : la ts p < 1000 := by
  obtain ⟨i, hi, e⟩ := List.getElem_of_mem hp
  have h := (wit_all hv 1000).idx i p
  rw [← tabE_eq] at h
  have := h (by rw [← e]; exact List.getElem?_eq_getElem hi)
  have hl : (dq ts).length ≤ 1000 := ends_all hv
  unfold la
  omega
/-- The longest row. -/
noncomputable def lon (ts : List Int) (k : Nat) (p : Pl) : List Int := longF ts (tabE ts).2.1 k p
theorem lon_zero (ts : List Int) (p : Pl) : lon ts 0 p = [] := rfl
/-- Its first visit. -/
theorem lon_succ {ts : List Int} (hv : Valid ts) {p : Pl} {k : Nat} (hp : p ∈ dq ts) (hk : la ts p = (k : Int) + 1) :
    ∃ y ∈ visitsF ts p, la ts y.2 = (k : Int) ∧ y.2 ∈ dq ts ∧ lon ts (k + 1) p = (y.1 : Int) :: lon ts k y.2 ∧ ∀ z ∈ visitsF ts p, la ts z.2 = (k : Int) → y.1 ≤ z.1 := by
  have hw : ∃ y ∈ visitsF ts p, la ts y.2 = (k : Int) := by
    rcases dq_wit hv hp with h | ⟨y, hy, e⟩
    · omega
    · exact ⟨y, hy, by omega⟩
  unfold lon
  rw [longF]
  cases hf : (visitsF ts p).find? fun x => decide (mget 0 (tabE ts).2.1 x.2 = (k : Int)) with
  | none =>
    exfalso
    obtain ⟨y, hy, e⟩ := hw
    have := (List.find?_eq_none.1 hf) y hy
    exact this (by unfold la at e; simp [e])
  | some y =>
    have hy := List.mem_of_find?_eq_some hf
    have hye := List.find?_some hf
    have hye : la ts y.2 = (k : Int) := of_decide_eq_true hye
    refine ⟨y, hy, hye, (dq_suc hv hp hy).1, rfl, fun z hz hze => ?_⟩
    obtain ⟨-, pre, post, e, hpre⟩ := List.find?_eq_some_iff_append.1 hf
    have hord : (visitsF ts p).Pairwise fun a b => a.1 < b.1 := by
      unfold visitsF
      split
      · exact List.Pairwise.nil
      · exact List.pairwise_map.2 (List.pairwise_lt_range.imp fun h => h)
    rw [e] at hz hord
    rcases List.mem_append.1 hz with h | h
    · have := hpre z h
      unfold la at hze
      simp [hze] at this
    · rcases List.mem_cons.1 h with h | h
      · rw [h]
        exact Nat.le_refl _
      · exact Nat.le_of_lt ((List.pairwise_cons.1 (List.pairwise_append.1 hord).2.1).1 z h)
theorem lon_len {ts : List Int} (hv : Valid ts) : ∀ (k : Nat) (p : Pl), p ∈ dq ts → la ts p = (k : Int) → (lon ts k p).length = k ∧ winsF ts.length (lon ts k p) = true
  | 0, p, _, _ => ⟨rfl, rfl⟩
  | k + 1, p, hp, hk => by
    obtain ⟨y, hy, h1, h2, h3, -⟩ := lon_succ hv hp (k := k) (by omega)
    obtain ⟨a, b⟩ := lon_len hv k y.2 h2 h1
    rw [h3]
    refine ⟨by simp [a], ?_⟩
    have := visit_fst hy
    unfold winsF at b ⊢
    rw [List.all_cons, b, Bool.and_true]
    simp [isWinF]
    omega
theorem turn_visit {ts : List Int} {p q : Pl} {i : Nat} {x : Int} (hi : i < ts.length) (h : turnF ts allF p i = some (q, x)) : (i, q) ∈ visitsF ts p := by
  unfold turnF at h
  unfold visitsF
  cases hp : pullF ts allF p with
  | none => rw [hp] at h; cases h
  | some r =>
    rw [hp] at h
    simp only [Option.map_some, Option.some.injEq, Prod.mk.injEq] at h
    exact List.mem_map.2 ⟨i, List.mem_range.2 hi, by rw [← h.1]⟩
theorem visit_turn {ts : List Int} {p : Pl} {y : Nat × Pl} (h : y ∈ visitsF ts p) : ∃ x, turnF ts allF p y.1 = some (y.2, x) := by
  unfold turnF
  unfold visitsF at h
  cases hp : pullF ts allF p with
  | none => rw [hp] at h; cases h
  | some r =>
    rw [hp] at h
    obtain ⟨w, -, rfl⟩ := List.mem_map.1 h
    exact ⟨r.get w, rfl⟩
theorem playL_step (ts : List Int) (i : Int) (row : List Int) (p : Pl) : playL ts (i :: row) p = match turnF ts allF p i.toNat with | some (q, _) => playL ts row q | none => none := by
  unfold playL
  rw [List.foldl_cons]
  cases h : turnF ts allF p i.toNat with
  | none =>
    simp only [Option.bind_some, h, Option.map_none]
    induction row with
    | nil => rfl
    | cons j r ih => exact ih
  | some r => simp only [Option.bind_some, h, Option.map_some]
/-- No row lasts longer. -/
theorem play_len {ts : List Int} (hv : Valid ts) : ∀ (row : List Int) (p : Pl), winsF ts.length row = true → p ∈ dq ts → ((playN ts row p : Nat) : Int) ≤ la ts p ∧ (playL ts row p ≠ none → (row.length : Int) ≤ la ts p)
  | [], p, _, _ => ⟨by have := la_nonneg hv (ts := ts) p; simpa [playN] using this, fun _ => by have := la_nonneg hv (ts := ts) p; simpa using this⟩
  | i :: row, p, hw, hp => by
    unfold winsF at hw
    rw [List.all_cons] at hw
    obtain ⟨w1, w2⟩ := Bool.and_eq_true_iff.1 hw
    have hi : 0 ≤ i ∧ i < (ts.length : Int) := by simpa [isWinF] using w1
    rw [playL_step, playN]
    cases ht : turnF ts allF p i.toNat with
    | none => exact ⟨by have := la_nonneg hv (ts := ts) p; simpa using this, fun h => absurd rfl h⟩
    | some r =>
      obtain ⟨q, x⟩ := r
      have hvis := turn_visit (by omega) ht
      obtain ⟨a, b⟩ := dq_suc hv hp hvis
      obtain ⟨c, d⟩ := play_len hv row q w2 a
      simp only at b ⊢
      refine ⟨by omega, fun h => ?_⟩
      have := d h
      simp only [List.length_cons]
      omega
/-- Which list comes first. -/
def firstF : List Int → List Int → Bool
  | a :: r, b :: s => if a = b then firstF r s else decide (a < b)
  | _, _ => false
theorem first_no {ts : List Int} (hv : Valid ts) : ∀ (k : Nat) (row : List Int) (p : Pl), winsF ts.length row = true → p ∈ dq ts → la ts p = (k : Int) → row.length = k → playL ts row p ≠ none → firstF row (lon ts k p) = false
  | 0, row, p, _, _, _, hl, _ => by
    have : row = [] := List.eq_nil_of_length_eq_zero hl
    rw [this]
    rfl
  | k + 1, [], p, _, _, _, hl, _ => by simp at hl
  | k + 1, i :: row, p, hw, hp, hk, hl, hpl => by
    unfold winsF at hw
    rw [List.all_cons] at hw
    obtain ⟨w1, w2⟩ := Bool.and_eq_true_iff.1 hw
    have hi : 0 ≤ i ∧ i < (ts.length : Int) := by simpa [isWinF] using w1
    rw [playL_step] at hpl
    cases ht : turnF ts allF p i.toNat with
    | none => rw [ht] at hpl; exact absurd rfl hpl
    | some r =>
      obtain ⟨q, x⟩ := r
      rw [ht] at hpl
      simp only at hpl
      have hvis := turn_visit (by omega) ht
      obtain ⟨a, b⟩ := dq_suc hv hp hvis
      have hlen : row.length = k := by simpa using hl
      have hq := (play_len hv row q w2 a).2 hpl
      have hla : la ts q = (k : Int) := by simp only at b; omega
      obtain ⟨y, hy, h1, h2, h3, h4⟩ := lon_succ hv hp (k := k) (by omega)
      have hle := h4 _ hvis hla
      rw [h3]
      unfold firstF
      by_cases e : i = (y.1 : Int)
      · rw [if_pos e]
        have hyq : y.2 = q := by
          obtain ⟨x', hx'⟩ := visit_turn hy
          have : i.toNat = y.1 := by omega
          rw [this, hx'] at ht
          exact (Prod.mk.inj (Option.some.inj ht)).1
        rw [hyq]
        exact first_no hv k row q w2 a hla hlen hpl
      · rw [if_neg e]
        refine decide_eq_false ?_
        simp only at hle
        omega
/-- Along the longest row. -/
theorem lon_take {ts : List Int} (hv : Valid ts) : ∀ (m k : Nat) (p : Pl), m ≤ k → p ∈ dq ts → la ts p = (k : Int) → ∃ q, playL ts ((lon ts k p).take m) p = some q ∧ q ∈ dq ts ∧ la ts q = (k : Int) - m ∧ lon ts (k - m) q = (lon ts k p).drop m
  | 0, k, p, _, hp, hk => ⟨p, rfl, hp, by omega, rfl⟩
  | m + 1, 0, p, h, _, _ => by omega
  | m + 1, k + 1, p, h, hp, hk => by
    obtain ⟨y, hy, h1, h2, h3, -⟩ := lon_succ hv hp (k := k) (by omega)
    obtain ⟨q, a, b, c, d⟩ := lon_take hv m k y.2 (by omega) h2 h1
    obtain ⟨x, hx⟩ := visit_turn hy
    refine ⟨q, ?_, b, by omega, ?_⟩
    · rw [h3, List.take_succ_cons, playL_step, Int.toNat_natCast, hx]
      exact a
    · rw [h3, List.drop_succ_cons, ← d]
      congr 1
      omega
theorem lasts_safe {ts ss : List Int} (h : statedF ts ss = 0) (hd : plOf ss ∉ dq ts) : lastsR ts ss = ([], 5) := by
  have hv := valid_of (stated_hall h)
  unfold lastsR
  rw [if_neg (by simp [h]), if_pos ((dq_safe hv (nice_stated h)).2 hd)]
theorem lasts_doomed {ts ss : List Int} (h : statedF ts ss = 0) (hd : plOf ss ∈ dq ts) : lastsR ts ss = (lon ts (la ts (plOf ss)).toNat (plOf ss), 0) := by
  have hv := valid_of (stated_hall h)
  unfold lastsR
  rw [if_neg (by simp [h]), if_neg (fun h' => (dq_safe hv (nice_stated h)).1 h' hd)]
  rfl
theorem play_of {ts ss row : List Int} (h : statedF ts ss = 0) (hl : row.length ≤ 1000) (hw : winsF ts.length row = true) : playR ts ss row = match playL ts row (plOf ss) with | none => ([], playN ts row (plOf ss), 17) | some q => (plList q, row.length, 0) := by
  unfold playR
  rw [if_neg (by simp [h]), if_neg (by omega), if_neg (by rw [within_wins, hw]; simp)] <;> rfl
end Go.Proofs.YthjgecblkagelaaGreat

/- What stays safe: pure part of TurnKept. -/
namespace Go.Proofs.YthjgecblkagelaaGreat
open Go.RowKit Go.Shelf

theorem pow5 {n : Nat} (h1 : 1 ≤ n) (h5 : n ≤ 5) : ∃ p : Nat, p = 2 ^ n ∧ 2 ≤ p ∧ p ≤ 32 := by
  have : n = 1 ∨ n = 2 ∨ n = 3 ∨ n = 4 ∨ n = 5 := by omega
  rcases this with rfl | rfl | rfl | rfl | rfl
  · exact ⟨2, rfl, by omega, by omega⟩
  · exact ⟨4, rfl, by omega, by omega⟩
  · exact ⟨8, rfl, by omega, by omega⟩
  · exact ⟨16, rfl, by omega, by omega⟩
  · exact ⟨32, rfl, by omega, by omega⟩
theorem wins_ok {n : Nat} {ps : List Int} (h : ∀ p ∈ ps, 0 ≤ p ∧ p < (n : Int)) : winsF n ps = true :=
  List.all_eq_true.2 fun p hp => by
    have := h p hp
    simpa [isWinF] using this
theorem next_mem {ts ss : List Int} (h : statedF ts ss = 0) {x : Int} (hx : x ∈ (nextR ts ss).1) : ∃ y ∈ visitsF ts (plOf ss), x = (y.1 : Int) ∧ y.2 ∉ dq ts := by
  have hv := valid_of (stated_hall h)
  unfold nextR at hx
  rw [if_neg (by simp [h])] at hx
  split at hx
  · unfold nextF at hx
    obtain ⟨y, hy, rfl⟩ := List.mem_map.1 hx
    obtain ⟨h1, h2⟩ := List.mem_filter.1 hy
    exact ⟨y, h1, rfl, (dq_safe hv (((visits_mem hv.h5).1 h1).nice hv (nice_stated h))).1 (of_decide_eq_true h2)⟩
  · cases hx
theorem nice_get {ts ss : List Int} (h : statedF ts ss = 0) (j : Nat) : (plOf ss).get j = ss[j]?.getD 0 := by
  obtain ⟨hv, hl, -⟩ := stated_valid h
  exact plOf_get ss (by have := hv.h5; omega) j
theorem kept_turn {ts ss ps : List Int} (h : statedF ts ss = 0) {y : Nat × Pl} (hy : y ∈ visitsF ts (plOf ss)) (hd : y.2 ∉ dq ts) (hinc : incrF ps = true) (hw : winsF ts.length ps = true) :
    ∃ xs v, turnR ts ss ps (y.1 : Int) = (xs, v, 0) ∧ statedF ts xs = 0 ∧ plOf xs ∉ dq ts := by
  obtain ⟨hv, hl, hg⟩ := stated_valid h
  have h5 := hv.h5
  have hsu := (visits_mem h5).1 hy
  have hin : ∀ p ∈ ps, 0 ≤ p ∧ p < ss.length := fun p hp => by
    have := (List.all_eq_true.1 hw) p hp
    simpa [isWinF, hl] using this
  rw [rturn_of h hsu.lt hinc hw]
  rcases rpull_spec ts ps ss (incr_nodup hinc) hin with ⟨ys, b1, b2, b3, b4⟩ | ⟨b1, p, hp, b2⟩
  · have e : rpullF ts ss ps = some ys := b1
    rw [e]
    have hpo := pulls_ok (i := y.1) h hsu.lt hinc hw e
    refine ⟨_, _, rfl, hpo.1, fun hx => hd (dq_up hv hx (hsu.nice hv (nice_stated h)) fun j hj => ?_)⟩
    rw [nice_get hpo.1, List.getElem?_set]
    by_cases hij : y.1 = j
    · rw [if_pos hij, if_pos (by omega), ← hij, hsu.zero]
      simp
    · rw [if_neg hij, hsu.more j hj (fun e => hij e.symm), nice_get h, b3 j]
      split <;> omega
  · exfalso
    obtain ⟨hp0, hp1⟩ := hin p hp
    have h1 := hsu.free p.toNat (by omega)
    have h2 := (nice_stated h).1.1 p.toNat (by omega)
    rw [nice_get h] at h1 h2
    omega
theorem kept_less {ts ss xs : List Int} (h : statedF ts ss = 0) (hd : plOf ss ∉ dq ts) (hl : xs.length = ts.length) (hx : ∀ i, i < ts.length → 0 ≤ xs[i]?.getD 0 ∧ xs[i]?.getD 0 ≤ ss[i]?.getD 0) : statedF ts xs = 0 ∧ plOf xs ∉ dq ts := by
  have hc := stated_hall h
  have hv := valid_of hc
  have hs : statedF ts xs = 0 := by
    unfold statedF
    rw [if_neg (by simp [hc]), if_neg (by simp [hl]), if_pos]
    refine stateOk_true fun j hj => ?_
    have h1 := hx j hj
    have h2 := (nice_stated h).1.1 j hj
    rw [nice_get h] at h2
    omega
  refine ⟨hs, fun hx' => hd (dq_up hv hx' (nice_stated h) fun j hj => ?_)⟩
  rw [nice_get hs, nice_get h]
  exact (hx j hj).2
theorem wide_dq {ts tw : List Int} (hv : Valid ts) (hw : Valid tw) (hl : tw.length = ts.length) (hle : ∀ i, i < ts.length → ts[i]?.getD 0 ≤ tw[i]?.getD 0) : ∀ (k : Nat) (x : Pl), la tw x ≤ (k : Int) → x ∈ dq tw → Nice ts x → x ∈ dq ts
  | k, x, hk, hx, hn => by
    refine Classical.byContradiction fun hd => ?_
    obtain ⟨y, hy, hyd⟩ := dq_out hv hn hd
    have hsu := (visits_mem hv.h5).1 hy
    have hsu' : Su tw x y.1 y.2 := ⟨by rw [hl]; exact hsu.lt, hsu.n, fun j hj => by
      rw [hl] at hj
      have h1 := hsu.free j hj
      have h2 := hn.1.1 j hj
      have h3 := hle j hj
      omega, hsu.zero, fun j hj => hsu.more j (by omega), fun j hj => hsu.same j (by omega)⟩
    obtain ⟨a, b⟩ := dq_suc hw hx ((visits_mem hw.h5 (y := y)).2 hsu')
    have h0 := la_nonneg hw (ts := tw) y.2
    match k with
    | 0 => omega
    | k + 1 => exact hyd (wide_dq hv hw hl hle k y.2 (by omega) a (hsu.nice hv hn))
theorem kept_wide {ts tw ss : List Int} (h : statedF ts ss = 0) (hd : plOf ss ∉ dq ts) (hc : checkHallF tw = 0) (hl : tw.length = ts.length) (hle : ∀ i, i < ts.length → ts[i]?.getD 0 ≤ tw[i]?.getD 0) : statedF tw ss = 0 ∧ plOf ss ∉ dq tw := by
  obtain ⟨hv, hsl, -⟩ := stated_valid h
  have hw := valid_of hc
  have hs : statedF tw ss = 0 := by
    unfold statedF
    rw [if_neg (by simp [hc]), if_neg (by simp; omega), if_pos]
    refine stateOk_true fun j hj => ?_
    have h1 := hle j (by omega)
    have h2 := (nice_stated h).1.1 j (by omega)
    rw [nice_get h] at h2
    omega
  exact ⟨hs, fun hx => hd (wide_dq hv hw hl hle (la tw (plOf ss)).toNat _ (by have := la_nonneg hw (ts := tw) (plOf ss); omega) hx (nice_stated h))⟩
theorem row_keep {W W' : World} {base g cap n : Nat} {e : TypeId} {xs : List Value} (h : W.ownsRow base e 1 (.slice (some ⟨g, 0, none⟩) n cap) n xs) (hh : W'.heap[g]? = W.heap[g]?) : W'.ownsRow base e 1 (.slice (some ⟨g, 0, none⟩) n cap) n xs := by
  refine ⟨h.1, ?_⟩
  rcases h.2 with ⟨he, -⟩ | ⟨g', cap', cur, he, hb, hg, hr⟩
  · cases he
  · cases he
    exact .inr ⟨g, cap, cur, rfl, hb, hh.trans hg, hr⟩
end Go.Proofs.YthjgecblkagelaaGreat
