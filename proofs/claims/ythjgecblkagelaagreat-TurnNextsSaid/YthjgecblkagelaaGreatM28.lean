/- Parts of a proof: DC DD. -/
import Derived.Test.YthjgecblkagelaaGreatM27

/- What can be reached from a place; the least Left of steps. -/
namespace Go.Proofs.YthjgecblkagelaaGreat
open Go.RowKit Go.Shelf

structure ReInv (ts : List Int) (p : Pl) (k : Nat) (s : RSt) : Prop where
  nd : s.1.Nodup
  seen : ∀ y, mget false s.2 y = true ↔ y ∈ s.1
  mem : p ∈ s.1
  closed : ∀ q ∈ s.1.take k, ∀ y ∈ visitsF ts q, y.2 ∈ s.1
  sub : ∀ C : Pl → Prop, C p → (∀ q, C q → ∀ y ∈ visitsF ts q, C y.2) → ∀ q ∈ s.1, C q
theorem reach_fold : ∀ (l : List (Nat × Pl)) (s : RSt), s.1.Nodup → (∀ y, mget false s.2 y = true ↔ y ∈ s.1) →
    (∃ new, (reachL s l).1 = s.1 ++ new ∧ ∀ q ∈ new, ∃ y ∈ l, y.2 = q) ∧ (reachL s l).1.Nodup ∧ (∀ y, mget false (reachL s l).2 y = true ↔ y ∈ (reachL s l).1) ∧ ∀ y ∈ l, y.2 ∈ (reachL s l).1
  | [], s, h1, h2 => ⟨⟨[], by simp [reachL], by simp⟩, h1, h2, by simp⟩
  | x :: l, s, h1, h2 => by
    have e : reachL s (x :: l) = reachL (reachStep s x) l := rfl
    rw [e]
    by_cases hx : mget false s.2 x.2 = true
    · rw [reachStep_seen hx]
      obtain ⟨⟨new, a, b⟩, c, d, f⟩ := reach_fold l s h1 h2
      refine ⟨⟨new, a, fun q hq => ?_⟩, c, d, fun y hy => ?_⟩
      · obtain ⟨y, hy, e⟩ := b q hq
        exact ⟨y, List.mem_cons_of_mem _ hy, e⟩
      · rcases List.mem_cons.1 hy with rfl | hy
        · rw [a]
          exact List.mem_append_left _ ((h2 _).1 hx)
        · exact f y hy
    · have hn : x.2 ∉ s.1 := fun h => hx ((h2 _).2 h)
      rw [reachStep_new (by simpa using hx)]
      obtain ⟨⟨new, a, b⟩, c, d, f⟩ := reach_fold l (s.1 ++ [x.2], mset x.2 true s.2) (List.nodup_append.2 ⟨h1, by simp, fun q hq r hr => by rw [List.mem_singleton.1 hr]; exact fun e => hn (e ▸ hq)⟩) (fun y => by
        simp only [mget_mset, List.mem_append, List.mem_singleton]
        by_cases hy : y = x.2
        · rw [if_pos hy]; simp [hy]
        · rw [if_neg hy, h2 y]; simp [hy])
      refine ⟨⟨x.2 :: new, by rw [a]; simp, fun q hq => ?_⟩, c, d, fun y hy => ?_⟩
      · rcases List.mem_cons.1 hq with rfl | hq
        · exact ⟨x, List.mem_cons_self, rfl⟩
        · obtain ⟨y, hy, e⟩ := b q hq
          exact ⟨y, List.mem_cons_of_mem _ hy, e⟩
      · rcases List.mem_cons.1 hy with rfl | hy
        · rw [a]; simp
        · exact f y hy
theorem rinv_all (ts : List Int) (p : Pl) : ∀ k, ReInv ts p k (reachN ts p k)
  | 0 => by
    refine ⟨by simp [reachN], fun y => ?_, by simp [reachN], fun q hq => by simp at hq, fun C h0 _ q hq => ?_⟩
    · simp only [reachN, mget_cons, mget_nil, List.mem_singleton]
      by_cases hy : y = p
      · simp [hy]
      · simp [hy]
    · have : q = p := by simpa [reachN] using hq
      rw [this]
      exact h0
  | k + 1 => by
    have ih := rinv_all ts p k
    rcases Nat.lt_or_ge k (reachN ts p k).1.length with h | h
    · obtain ⟨q, hq⟩ : ∃ q, q = (reachN ts p k).1[k] := ⟨_, rfl⟩
      have hqe : (reachN ts p k).1[k]? = some q := by rw [List.getElem?_eq_getElem h, hq]
      rw [reachN_some hqe]
      obtain ⟨⟨new, a, b⟩, c, d, f⟩ := reach_fold (visitsF ts q) (reachN ts p k) ih.nd ih.seen
      refine ⟨c, d, by rw [a]; exact List.mem_append_left _ ih.mem, fun r hr y hy => ?_, fun C h0 hC r hr => ?_⟩
      · rw [a, List.take_append_of_le_length (by omega), List.take_succ_eq_append_getElem h, ← hq] at hr
        rcases List.mem_append.1 hr with hr | hr
        · rw [a]
          exact List.mem_append_left _ (ih.closed r hr y hy)
        · rw [List.mem_singleton.1 hr] at hy
          exact f y hy
      · rw [a] at hr
        rcases List.mem_append.1 hr with hr | hr
        · exact ih.sub C h0 hC r hr
        · obtain ⟨y, hy, rfl⟩ := b r hr
          exact hC q (ih.sub C h0 hC q (List.mem_of_getElem? hqe)) y hy
    · rw [reachN_none h]
      exact ⟨ih.nd, ih.seen, ih.mem, fun q hq => ih.closed q (by rw [List.take_of_length_le h]; rw [List.take_of_length_le (by omega)] at hq; exact hq), ih.sub⟩
theorem reach_inv (ts : List Int) (p : Pl) : ReInv ts p 1000 (reachE ts p) := by
  rw [reachE_eq]
  exact rinv_all ts p 1000
theorem reach_nice {ts : List Int} (hv : Valid ts) {p : Pl} (hp : Nice ts p) : ∀ q ∈ (reachE ts p).1, Nice ts q :=
  (reach_inv ts p).sub (Nice ts) hp fun _ hq _ hy => ((visits_mem hv.h5).1 hy).nice hv hq
theorem rends_all {ts : List Int} (hv : Valid ts) {p : Pl} (hp : Nice ts p) : REnds ts p := nodup_len hv (reach_inv ts p).nd (reach_nice hv hp)
theorem reach_closed {ts : List Int} (hv : Valid ts) {p : Pl} (hp : Nice ts p) {q : Pl} (hq : q ∈ (reachE ts p).1) {y : Nat × Pl} (hy : y ∈ visitsF ts q) : y.2 ∈ (reachE ts p).1 :=
  (reach_inv ts p).closed q (by rw [List.take_of_length_le (rends_all hv hp)]; exact hq) y hy
theorem reach_dq {ts : List Int} (hv : Valid ts) {p : Pl} (hp : p ∈ dq ts) : ∀ q ∈ (reachE ts p).1, q ∈ dq ts :=
  (reach_inv ts p).sub (fun q => q ∈ dq ts) hp fun _ hq _ hy => (dq_suc hv hq hy).1

/-! ### The least Left -/
theorem mfind_mem {α : Type} (p : Pl) : ∀ m : List (Pl × α), (mfind p m).isSome = true ↔ p ∈ m.map (·.1)
  | [] => by simp [mfind]
  | x :: m => by
    unfold mfind
    by_cases h : p = x.1
    · rw [if_pos h]; simp [h]
    · rw [if_neg h]
      have := mfind_mem p m
      rw [Option.isSome_map, this]
      simp [h]
def LeP (ts : List Int) (a b : Pl) : Prop := ∀ i, i < ts.length → a.get i ≤ b.get i
theorem own_step (o : List (Pl × Int)) (s : List Int × Int) :
    (∀ p ∈ o.map (·.1), p ∈ (ownStep o s).map (·.1) ∧ mget 0 (ownStep o s) p ≤ mget 0 o p) ∧ (plOf s.1 ∈ (ownStep o s).map (·.1) ∧ mget 0 (ownStep o s) (plOf s.1) ≤ s.2) ∧
    ∀ p ∈ (ownStep o s).map (·.1), (p ∈ o.map (·.1) ∧ mget 0 (ownStep o s) p = mget 0 o p) ∨ (plOf s.1 = p ∧ mget 0 (ownStep o s) p = s.2) := by
  unfold ownStep
  by_cases h : plOf s.1 ∈ o.map (·.1)
  · rw [if_pos ((mfind_mem _ _).2 h)]
    by_cases hl : s.2 < mget 0 o (plOf s.1)
    · rw [if_pos hl]
      refine ⟨fun p hp => ⟨(mset_keys_mem _ _ _ _).2 (.inr hp), ?_⟩, ⟨(mset_keys_mem _ _ _ _).2 (.inl rfl), ?_⟩, fun p hp => ?_⟩
      · rw [mget_mset]
        by_cases e : p = plOf s.1
        · rw [if_pos e, e]; omega
        · rw [if_neg e]; omega
      · rw [mget_mset, if_pos rfl]; omega
      · rw [mget_mset]
        by_cases e : p = plOf s.1
        · rw [if_pos e]; exact .inr ⟨e.symm, rfl⟩
        · rw [if_neg e]
          exact .inl ⟨((mset_keys_mem _ _ _ _).1 hp).resolve_left e, rfl⟩
    · rw [if_neg hl]
      exact ⟨fun p hp => ⟨hp, by omega⟩, ⟨h, by omega⟩, fun p hp => .inl ⟨hp, rfl⟩⟩
  · rw [if_neg (fun h' => h ((mfind_mem _ _).1 h'))]
    refine ⟨fun p hp => ⟨(mset_keys_mem _ _ _ _).2 (.inr hp), ?_⟩, ⟨(mset_keys_mem _ _ _ _).2 (.inl rfl), ?_⟩, fun p hp => ?_⟩
    · rw [mget_mset, if_neg (show p ≠ plOf s.1 from fun e => h (e ▸ hp))]; omega
    · rw [mget_mset, if_pos rfl]; omega
    · rw [mget_mset]
      by_cases e : p = plOf s.1
      · rw [if_pos e]; exact .inr ⟨e.symm, rfl⟩
      · rw [if_neg e]
        exact .inl ⟨((mset_keys_mem _ _ _ _).1 hp).resolve_left e, rfl⟩
theorem own_fold : ∀ (ss : List (List Int × Int)) (o : List (Pl × Int)),
    (∀ p ∈ o.map (·.1), p ∈ (ss.foldl ownStep o).map (·.1) ∧ mget 0 (ss.foldl ownStep o) p ≤ mget 0 o p) ∧ (∀ s ∈ ss, plOf s.1 ∈ (ss.foldl ownStep o).map (·.1) ∧ mget 0 (ss.foldl ownStep o) (plOf s.1) ≤ s.2) ∧
    ∀ p ∈ (ss.foldl ownStep o).map (·.1), (p ∈ o.map (·.1) ∧ mget 0 (ss.foldl ownStep o) p = mget 0 o p) ∨ ∃ s ∈ ss, plOf s.1 = p ∧ mget 0 (ss.foldl ownStep o) p = s.2
  | [], o => ⟨fun p hp => ⟨hp, by simp⟩, fun s hs => (by cases hs), fun p hp => .inl ⟨hp, rfl⟩⟩
  | s :: ss, o => by
    obtain ⟨a1, a2, a3⟩ := own_step o s
    obtain ⟨b1, b2, b3⟩ := own_fold ss (ownStep o s)
    rw [List.foldl_cons]
    refine ⟨fun p hp => ?_, fun r hr => ?_, fun p hp => ?_⟩
    · obtain ⟨c1, c2⟩ := a1 p hp
      obtain ⟨d1, d2⟩ := b1 p c1
      exact ⟨d1, by omega⟩
    · rcases List.mem_cons.1 hr with rfl | hr
      · obtain ⟨d1, d2⟩ := b1 _ a2.1
        exact ⟨d1, by omega⟩
      · exact b2 r hr
    · rcases b3 p hp with ⟨c1, c2⟩ | ⟨r, hr, c⟩
      · rcases a3 p c1 with ⟨d1, d2⟩ | ⟨d1, d2⟩
        · exact .inl ⟨d1, by omega⟩
        · exact .inr ⟨s, List.mem_cons_self, d1, by omega⟩
      · exact .inr ⟨r, List.mem_cons_of_mem _ hr, c⟩
/-- What left0 is. -/
theorem left0_spec {ss : List (List Int × Int)} (hb : ∀ s ∈ ss, s.2 ≤ 1099511627776) (p : Pl) :
    (∀ s ∈ ss, plOf s.1 = p → left0 (ownF ss) p ≤ s.2) ∧ (left0 (ownF ss) p = 1099511627777 ∨ ∃ s ∈ ss, plOf s.1 = p ∧ s.2 = left0 (ownF ss) p) ∧ left0 (ownF ss) p ≤ 1099511627777 := by
  obtain ⟨-, b2, b3⟩ := own_fold ss []
  have e : ss.foldl ownStep [] = ownF ss := rfl
  rw [e] at b2 b3
  unfold left0
  by_cases h : p ∈ (ownF ss).map (·.1)
  · rw [if_pos ((mfind_mem _ _).2 h)]
    rcases b3 p h with ⟨c, -⟩ | ⟨s, hs, c1, c2⟩
    · cases c
    · refine ⟨fun r hr e => by have := (b2 r hr).2; rw [e] at this; exact this, .inr ⟨s, hs, c1, c2.symm⟩, by have := hb s hs; omega⟩
  · rw [if_neg (fun h' => h ((mfind_mem _ _).1 h'))]
    exact ⟨fun s hs e => absurd (e ▸ (b2 s hs).1) h, .inl rfl, by omega⟩
theorem minL_spec (p : Pl) (ls : List (Pl × Int)) : ∀ (l : List Nat) (left : Int),
    minL p ls left l ≤ left ∧ (∀ i ∈ l, 0 < p.get i → minL p ls left l ≤ mget 0 ls (p.set i (p.get i - 1))) ∧ (minL p ls left l = left ∨ ∃ i ∈ l, 0 < p.get i ∧ minL p ls left l = mget 0 ls (p.set i (p.get i - 1)))
  | [], left => ⟨by simp [minL], fun i hi => (by cases hi), .inl rfl⟩
  | i :: l, left => by
    have e : minL p ls left (i :: l) = minL p ls (minStep p ls left i) l := rfl
    obtain ⟨a, b, c⟩ := minL_spec p ls l (minStep p ls left i)
    have hs : minStep p ls left i ≤ left ∧ (0 < p.get i → minStep p ls left i ≤ mget 0 ls (p.set i (p.get i - 1))) ∧ (minStep p ls left i = left ∨ (0 < p.get i ∧ minStep p ls left i = mget 0 ls (p.set i (p.get i - 1)))) := by
      unfold minStep
      by_cases h : 0 < p.get i
      · rw [if_pos h]
        split
        · exact ⟨by omega, fun _ => by omega, .inr ⟨h, rfl⟩⟩
        · exact ⟨by omega, fun _ => by omega, .inl rfl⟩
      · rw [if_neg h]
        exact ⟨by omega, fun h' => absurd h' h, .inl rfl⟩
    rw [e]
    refine ⟨by omega, fun j hj h0 => ?_, ?_⟩
    · rcases List.mem_cons.1 hj with rfl | hj
      · have := hs.2.1 h0
        omega
      · exact b j hj h0
    · rcases c with c | ⟨j, hj, h0, c⟩
      · rcases hs.2.2 with d | ⟨h0, d⟩
        · exact .inl (by omega)
        · exact .inr ⟨i, List.mem_cons_self, h0, by omega⟩
      · exact .inr ⟨j, List.mem_cons_of_mem _ hj, h0, c⟩
structure LL (ts : List Int) (ss : List (List Int × Int)) (x : Pl) (v : Int) : Prop where
  le : ∀ s ∈ ss, LeP ts (plOf s.1) x → v ≤ s.2
  ex : v = 1099511627777 ∨ ∃ s ∈ ss, LeP ts (plOf s.1) x ∧ s.2 = v
theorem set_nice {ts : List Int} (hv : Valid ts) {x : Pl} (hx : Nice ts x) {i : Nat} (hi : i < ts.length) (h0 : 0 < x.get i) : Nice ts (x.set i (x.get i - 1)) := by
  have h5 := hv.h5
  refine ⟨⟨fun j hj => ?_, by rw [Pl.set_n]; exact hx.1.2⟩, fun j hj => ?_⟩
  · have := hx.1.1 j hj
    rw [Pl.get_set _ _ _ _ (by omega)]
    by_cases hji : j = i
    · subst hji; rw [if_pos rfl]; omega
    · rw [if_neg hji]; exact this
  · rw [Pl.get_set _ _ _ _ (by omega), if_neg (by omega)]
    exact hx.2 j hj
theorem allP_sorted {ts : List Int} (hv : Valid ts) : (allP ts).Pairwise fun a b => lexLt (plList a) (plList b) := by
  refine List.pairwise_map.2 ((states_sorted ts).imp_of_mem fun {a b} ha hb h => ?_)
  have h5 := hv.h5
  rw [plList_of (by have := ((states_iff hv.nonneg).1 ha).1; omega), plList_of (by have := ((states_iff hv.nonneg).1 hb).1; omega)]
  exact h
theorem ll_fold {ts : List Int} (hv : Valid ts) {ss : List (List Int × Int)} (hb : ∀ s ∈ ss, s.2 ≤ 1099511627776) (hn : ∀ s ∈ ss, Nice ts (plOf s.1)) : ∀ (l pre : List Pl) (ls : List (Pl × Int)), pre ++ l = allP ts → (∀ y ∈ pre, LL ts ss y (mget 0 ls y)) →
    ∀ y ∈ allP ts, LL ts ss y (mget 0 (l.foldl (llStep ts (ownF ss)) ls) y)
  | [], pre, ls, he, h => by
    rw [List.append_nil] at he
    subst he
    exact h
  | x :: l, pre, ls, he, h => by
    have h5 := hv.h5
    refine ll_fold hv hb hn l (pre ++ [x]) (llStep ts (ownF ss) ls x) (by simpa using he) fun y hy => ?_
    have hxm : x ∈ allP ts := by rw [← he]; simp
    have hx := (nice_mem hv).1 hxm
    unfold llStep
    rw [mget_mset]
    by_cases hyx : y = x
    · rw [if_pos hyx, hyx]
      obtain ⟨a, b, c⟩ := minL_spec x ls (List.range ts.length) (left0 (ownF ss) x)
      obtain ⟨l1, l2, l3⟩ := left0_spec hb x
      have hprev : ∀ i, i < ts.length → 0 < x.get i → LL ts ss (x.set i (x.get i - 1)) (mget 0 ls (x.set i (x.get i - 1))) := fun i hi h0 => by
        have hN := set_nice hv hx hi h0
        have hlt : lexLt (plList (x.set i (x.get i - 1))) (plList x) := by
          refine lexLt_of _ _ i (by rw [plList_len hN.1.2 h5, plList_len hx.1.2 h5]) (by rw [plList_len hN.1.2 h5]; exact hi) (fun j hj => ?_) ?_
          · rw [plList_get hN.1.2 h5 j (by omega), plList_get hx.1.2 h5 j (by omega), Pl.get_set _ _ _ _ (by omega), if_neg (by omega)]
          · rw [plList_get hN.1.2 h5 i hi, plList_get hx.1.2 h5 i hi, Pl.get_set _ _ _ _ (by omega), if_pos rfl]
            omega
        have hm := (nice_mem hv).2 hN
        rw [← he] at hm
        rcases List.mem_append.1 hm with hm | hm
        · exact h _ hm
        · exfalso
          have hs := allP_sorted hv
          rw [← he] at hs
          have hs := (List.pairwise_append.1 hs).2.1
          rcases List.mem_cons.1 hm with e | hm
          · rw [e] at hlt
            exact lexLt_irrefl _ hlt
          · exact lexLt_asymm _ _ hlt ((List.pairwise_cons.1 hs).1 _ hm)
      refine ⟨fun s hs hle => ?_, ?_⟩
      · have hsn := hn s hs
        by_cases heq : plOf s.1 = x
        · have := l1 s hs heq
          omega
        · obtain ⟨i, hi, hlt⟩ : ∃ i, i < ts.length ∧ (plOf s.1).get i < x.get i := by
            refine Classical.byContradiction fun hno => heq (nice_ext hsn hx fun i hi => ?_)
            have h1 := hle i hi
            have h2 : ¬ (plOf s.1).get i < x.get i := fun h => hno ⟨i, hi, h⟩
            omega
          have h0 := (hsn.1.1 i hi).1
          have h1 := (hprev i hi (by omega)).le s hs (fun j hj => by
            rw [Pl.get_set _ _ _ _ (by omega)]
            by_cases hji : j = i
            · subst hji; rw [if_pos rfl]; omega
            · rw [if_neg hji]; exact hle j hj)
          have h2 := b i (List.mem_range.2 hi) (by omega)
          omega
      · rcases c with c | ⟨i, hi, h0, c⟩
        · rcases l2 with d | ⟨s, hs, d1, d2⟩
          · exact .inl (by omega)
          · exact .inr ⟨s, hs, fun i _ => by rw [d1]; omega, by omega⟩
        · rw [c]
          have hi := List.mem_range.1 hi
          rcases (hprev i hi h0).ex with d | ⟨s, hs, d1, d2⟩
          · exact .inl d
          · refine .inr ⟨s, hs, fun j hj => ?_, d2⟩
            have := d1 j hj
            rw [Pl.get_set _ _ _ _ (by omega)] at this
            by_cases hji : j = i
            · subst hji; rw [if_pos rfl] at this; omega
            · rw [if_neg hji] at this; exact this
    · rw [if_neg hyx]
      rcases List.mem_append.1 hy with hy | hy
      · exact h y hy
      · exact absurd (List.mem_singleton.1 hy) hyx
theorem ll_spec {ts : List Int} (hv : Valid ts) {ss : List (List Int × Int)} (hb : ∀ s ∈ ss, s.2 ≤ 1099511627776) (hn : ∀ s ∈ ss, Nice ts (plOf s.1)) {y : Pl} (hy : Nice ts y) : LL ts ss y (mget 0 (llF ts ss) y) :=
  ll_fold hv hb hn (allP ts) [] [] rfl (fun y hy => by cases hy) y ((nice_mem hv).2 hy)
end Go.Proofs.YthjgecblkagelaaGreat

/- Either safe or doomed: what is answered about every state of every valid hall. -/
namespace Go.Proofs.YthjgecblkagelaaGreat
open Go.RowKit Go.Shelf

theorem su_le {ts : List Int} (hv : Valid ts) {p x y : Pl} {i : Nat} (_hp : Nice ts p) (hx : Nice ts x) (hle : LeP ts p x) (h : Su ts x i y) : ∃ y', (i, y') ∈ visitsF ts p ∧ LeP ts y' y := by
  have h5 := hv.h5
  rcases pull_all h5 p with ⟨q, a1, a2, a3, a4⟩ | ⟨-, k, hk, a2⟩
  · have hi := h.lt
    refine ⟨q.set i 0, ?_, fun j hj => ?_⟩
    · unfold visitsF
      rw [a1]
      exact List.mem_map.2 ⟨i, List.mem_range.2 hi, rfl⟩
    · rw [Pl.get_set _ _ _ _ (by omega)]
      by_cases hji : j = i
      · subst hji
        rw [if_pos rfl, h.zero]
        omega
      · rw [if_neg hji, a3 j, if_pos hj, h.more j hj hji]
        have := hle j hj
        omega
  · exfalso
    have h1 := hle k hk
    have h2 := hx.1.1 k hk
    have h3 := h.free k hk
    omega
/-- Steps that are right doom all states that are at least as full as one of theirs. -/
theorem doom_sound {ts : List Int} (hv : Valid ts) {ss : List (List Int × Int)} (hn : ∀ s ∈ ss, Nice ts (plOf s.1)) (h1 : ∀ s ∈ ss, 1 ≤ s.2)
    (H : ∀ s ∈ ss, ∀ y ∈ visitsF ts (plOf s.1), ∃ s' ∈ ss, s'.2 < s.2 ∧ LeP ts (plOf s'.1) y.2) : ∀ (k : Nat) (s : List Int × Int), s ∈ ss → s.2 ≤ (k : Int) → ∀ x, Nice ts x → LeP ts (plOf s.1) x → x ∈ dq ts
  | 0, s, hs, hk, _, _, _ => by
    have := h1 s hs
    omega
  | k + 1, s, hs, hk, x, hx, hle => by
    refine Classical.byContradiction fun hd => ?_
    obtain ⟨y, hy, hyd⟩ := dq_out hv hx hd
    have hsu := (visits_mem hv.h5).1 hy
    obtain ⟨y', hy', hle'⟩ := su_le hv (hn s hs) hx hle hsu
    obtain ⟨s', hs', hlt, hle2⟩ := H s hs (y.1, y') hy'
    exact hyd (doom_sound hv hn h1 H k s' hs' (by omega) y.2 (hsu.nice hv hx) fun j hj => by
      have a := hle2 j hj
      have b := hle' j hj
      simp only at a
      omega)
/-- A state that is at least as full as a doomed one is doomed. -/
theorem dq_mono {ts : List Int} (hv : Valid ts) : ∀ (k : Nat) (x y : Pl), la ts x ≤ (k : Int) → x ∈ dq ts → Nice ts y → LeP ts x y → y ∈ dq ts
  | k, x, y, hk, hx, hy, hle => by
    refine Classical.byContradiction fun hd => ?_
    obtain ⟨z, hz, hzd⟩ := dq_out hv hy hd
    have hsu := (visits_mem hv.h5).1 hz
    obtain ⟨z', hz', hle'⟩ := su_le hv (dq_nice hv hx) hy hle hsu
    obtain ⟨a, b⟩ := dq_suc hv hx hz'
    have h0 := la_nonneg hv (ts := ts) z'
    match k with
    | 0 => simp only at b; omega
    | k + 1 => exact hzd (dq_mono hv k z' z.2 (by simp only at b; omega) a (hsu.nice hv hy) hle')
theorem dq_up {ts : List Int} (hv : Valid ts) {x y : Pl} (hx : x ∈ dq ts) (hy : Nice ts y) (hle : LeP ts x y) : y ∈ dq ts :=
  dq_mono hv (la ts x).toNat x y (by have := la_nonneg hv (ts := ts) x; omega) hx hy hle

theorem stated_hall {ts ss : List Int} (h : statedF ts ss = 0) : checkHallF ts = 0 := by
  unfold statedF at h
  by_cases hc : checkHallF ts ≠ 0
  · rw [if_pos hc] at h; exact absurd h hc
  · simpa using hc
theorem stated_nice {ts : List Int} (hc : checkHallF ts = 0) {q : Pl} (hq : Nice ts q) : statedF ts (plList q) = 0 := by
  have hv := valid_of hc
  unfold statedF
  rw [if_neg (by simp [hc]), if_neg (by rw [plList_len hq.1.2 hv.h5]; simp), if_pos]
  refine stateOk_true fun j hj => ?_
  rw [plList_get hq.1.2 hv.h5 j hj]
  exact hq.1.1 j hj
theorem least_iff {ts : List Int} (hv : Valid ts) {x y : Pl} (hx : Nice ts x) (hy : Nice ts y) : leastF (plList x) (plList y) = true ↔ LeP ts y x := by
  have h5 := hv.h5
  constructor
  · intro h i hi
    unfold leastF at h
    have := (List.all_eq_true.1 h) i (List.mem_range.2 (by rw [plList_len hx.1.2 h5]; exact hi))
    rw [plList_get hx.1.2 h5 i hi, plList_get hy.1.2 h5 i hi] at this
    simpa using this
  · intro h
    refine leastF_true fun j hj => ?_
    rw [plList_len hx.1.2 h5] at hj
    rw [plList_get hx.1.2 h5 j hj, plList_get hy.1.2 h5 j hj]
    exact h j hj
/-- The reference's visits are the program's. -/
theorem rvisit {ts : List Int} (hv : Valid ts) {p : Pl} (hp : Nice ts p) :
    (∃ ys, rpullF ts (plList p) (allL ts.length) = some ys ∧ ∀ i, i < ts.length → ∃ y, (i, y) ∈ visitsF ts p ∧ ys.set i 0 = plList y) ∨ (rpullF ts (plList p) (allL ts.length) = none ∧ visitsF ts p = []) := by
  have h1 := hv.h1
  have hstep := fun i hi => step_same hv hp.1 (i := i) hi
  rcases hstep 0 (by omega) with ⟨q, x, ys, a1, a2, a3, a4⟩ | ⟨a1, a2⟩
  · refine .inl ⟨ys, a2, fun i hi => ?_⟩
    rcases hstep i hi with ⟨q', x', ys', b1, b2, b3, b4⟩ | ⟨b1, b2⟩
    · rw [a2] at b2
      cases b2
      refine ⟨q', ?_, b3⟩
      unfold turnF at b1
      unfold visitsF
      cases hpl : pullF ts allF p with
      | none => rw [hpl] at b1; cases b1
      | some r =>
        rw [hpl] at b1
        simp only [Option.map_some, Option.some.injEq, Prod.mk.injEq] at b1
        exact List.mem_map.2 ⟨i, List.mem_range.2 hi, by rw [← b1.1]⟩
    · rw [a2] at b2
      cases b2
  · refine .inr ⟨a2, visits_none ?_⟩
    unfold turnF at a1
    cases hpl : pullF ts allF p with
    | none => rfl
    | some r => rw [hpl] at a1; cases a1
theorem la_big {ts : List Int} (hv : Valid ts) (q : Pl) : la ts q ≤ 60005 := by
  have h := (tabN_ok hv.h5 hv.states hv.h12 1000).lasts
  rw [← tabE_eq] at h
  have := h.mget (by omega) q
  unfold la
  omega
theorem visit_fst {ts : List Int} {p : Pl} {y : Nat × Pl} (h : y ∈ visitsF ts p) : y.1 < ts.length := by
  unfold visitsF at h
  split at h
  · cases h
  · obtain ⟨w, hw, rfl⟩ := List.mem_map.1 h
    exact List.mem_range.1 hw

theorem bad_none {ts : List Int} {ss : List (List Int × Int)} (h : ss.any (stepBad ts) = false) : ∀ s ∈ ss, statedF ts s.1 = 0 ∧ 1 ≤ s.2 ∧ s.2 ≤ 1099511627776 := fun s hs => by
  have := (List.any_eq_false.1 h) s hs
  unfold stepBad at this
  simp only [Bool.or_eq_true, decide_eq_true_iff, not_or] at this
  exact ⟨by have := this.1; simpa using this, by omega, by omega⟩
theorem given_bad {ts ss : List Int} {gs : List (List Int × Int)} (h : statedF ts ss = 0) (hd : plOf ss ∉ dq ts) : checkDoomF ts ss gs ≠ 0 ∧ rcheckDoomF ts ss gs ≠ 0 := by
  have hc := stated_hall h
  have hv := valid_of hc
  have h5 := hv.h5
  have hps := nice_stated h
  constructor
  · intro h0
    unfold checkDoomF at h0
    rw [if_neg (by simp [h])] at h0
    split at h0
    · cases h0
    split at h0
    · cases h0
    rename_i hb
    split at h0
    case isFalse => cases h0
    rename_i hdm
    have hbn := bad_none (ts := ts) (ss := gs) (by simpa using hb)
    have hn : ∀ s ∈ gs, Nice ts (plOf s.1) := fun s hs => nice_stated (hbn s hs).1
    have hll := fun {y} hy => ll_spec hv (fun s hs => (hbn s hs).2.2) hn (y := y) hy
    unfold doomedF at hdm
    obtain ⟨d1, d2⟩ := Bool.and_eq_true_iff.1 hdm
    have d2 := of_decide_eq_true d2
    have H : ∀ s ∈ gs, ∀ y ∈ visitsF ts (plOf s.1), ∃ s' ∈ gs, s'.2 < s.2 ∧ LeP ts (plOf s'.1) y.2 := fun s hs y hy => by
      have h1 := (List.all_eq_true.1 ((List.all_eq_true.1 d1) s hs)) y hy
      unfold badVisit at h1
      have h1 : mget 0 (llF ts gs) y.2 < s.2 := by simpa using h1
      rcases (hll (((visits_mem h5).1 hy).nice hv (hn s hs))).ex with e | ⟨s', hs', e1, e2⟩
      · have := (hbn s hs).2.2
        omega
      · exact ⟨s', hs', by omega, e1⟩
    rcases (hll hps).ex with e | ⟨s, hs, e1, e2⟩
    · exact d2 e
    · exact hd (doom_sound hv hn (fun s hs => (hbn s hs).2.1) H s.2.toNat s hs (by omega) _ hps e1)
  · intro h0
    unfold rcheckDoomF at h0
    rw [if_neg (by simp [h])] at h0
    split at h0
    · cases h0
    split at h0
    · cases h0
    rename_i hb
    split at h0
    · cases h0
    rename_i hw
    split at h0
    case isFalse => cases h0
    rename_i hbl
    have hbn := bad_none (ts := ts) (ss := gs) (by simpa using hb)
    have hn : ∀ s ∈ gs, Nice ts (plOf s.1) := fun s hs => nice_stated (hbn s hs).1
    have hli : ∀ s ∈ gs, plList (plOf s.1) = s.1 := fun s hs => plList_of (by have := (stated_valid (hbn s hs).1).2.1; omega)
    have below : ∀ (y : Pl) (left : Int), Nice ts y → belowF gs (plList y) left = true → ∃ s' ∈ gs, s'.2 < left ∧ LeP ts (plOf s'.1) y := fun y left hy hb => by
      unfold belowF at hb
      obtain ⟨s', hs', e⟩ := List.any_eq_true.1 hb
      obtain ⟨e1, e2⟩ := Bool.and_eq_true_iff.1 e
      rw [← hli s' hs'] at e2
      exact ⟨s', hs', of_decide_eq_true e1, (least_iff hv hy (hn s' hs')).1 e2⟩
    have H : ∀ s ∈ gs, ∀ y ∈ visitsF ts (plOf s.1), ∃ s' ∈ gs, s'.2 < s.2 ∧ LeP ts (plOf s'.1) y.2 := fun s hs y hy => by
      have hws := (List.any_eq_false.1 (by simpa using hw)) s hs
      unfold stepWrong at hws
      rcases rvisit hv (hn s hs) with ⟨ys, a1, a2⟩ | ⟨a1, a2⟩
      · rw [hli s hs] at a1
        rw [a1] at hws
        simp only [Bool.not_eq_true, List.any_eq_false, List.mem_range] at hws
        obtain ⟨z, hz, e⟩ := a2 y.1 (visit_fst hy)
        have hzy : z = y.2 := by
          have b1 := (visits_mem h5).1 hz
          have b2 := (visits_mem h5).1 hy
          refine nice_ext (b1.nice hv (hn s hs)) (b2.nice hv (hn s hs)) fun j hj => ?_
          by_cases hji : j = y.1
          · rw [hji, b2.zero]
            exact b1.zero
          · rw [b2.more j hj hji]
            exact b1.more j hj hji
        have hby := hws y.1 (visit_fst hy)
        rw [e, hzy] at hby
        exact below y.2 s.2 (((visits_mem h5).1 hy).nice hv (hn s hs)) (by simpa using hby)
      · rw [a2] at hy
        cases hy
    have hpl : plList (plOf ss) = ss := plList_of (by have := (stated_valid h).2.1; omega)
    rw [← hpl] at hbl
    obtain ⟨s, hs, e1, e2⟩ := below _ _ hps hbl
    exact hd (doom_sound hv hn (fun s hs => (hbn s hs).2.1) H s.2.toNat s hs (by have := (hbn s hs).2.1; omega) _ hps e2)
theorem own_good {ts ss : List Int} (h : statedF ts ss = 0) (hd : plOf ss ∈ dq ts) :
    checkDoomF ts ss (stepsF (tabE ts).2.1 (reachE ts (plOf ss)).1) = 0 ∧ rcheckDoomF ts ss (stepsF (tabE ts).2.1 (reachE ts (plOf ss)).1) = 0 := by
  have hc := stated_hall h
  have hv := valid_of hc
  have h5 := hv.h5
  have hps := nice_stated h
  have hRn := reach_nice hv hps
  have hRd := reach_dq hv hd
  have hRc := fun {q} (hq : q ∈ (reachE ts (plOf ss)).1) {y} hy => reach_closed hv hps hq (y := y) hy
  have hRp := (reach_inv ts (plOf ss)).mem
  have hRl := rends_all hv hps
  obtain ⟨R, hR⟩ : ∃ R, R = (reachE ts (plOf ss)).1 := ⟨_, rfl⟩
  unfold REnds at hRl
  rw [← hR] at hRn hRd hRc hRp hRl ⊢
  clear hR
  obtain ⟨gs, hgs⟩ : ∃ gs, gs = stepsF (tabE ts).2.1 R := ⟨_, rfl⟩
  have hmem : ∀ s, s ∈ gs ↔ ∃ q ∈ R, s = (plList q, la ts q + 1) := fun s => by
    rw [hgs]
    unfold stepsF la
    rw [List.mem_map]
    exact ⟨fun ⟨q, a, b⟩ => ⟨q, a, b.symm⟩, fun ⟨q, a, b⟩ => ⟨q, a, b.symm⟩⟩
  have hlen : ¬ 1000 < gs.length := by
    rw [hgs]
    unfold stepsF
    rw [List.length_map]
    omega
  rw [← hgs]
  have hpo : ∀ q ∈ R, plOf (plList q) = q := fun q hq => (nice_list hv (hRn q hq)).2
  have hbad : gs.any (stepBad ts) = false := List.any_eq_false.2 fun s hs => by
    obtain ⟨q, hq, rfl⟩ := (hmem s).1 hs
    have h1 := la_nonneg hv (ts := ts) q
    have h2 := la_big hv (ts := ts) q
    unfold stepBad
    rw [stated_nice hc (hRn q hq)]
    simp
    omega
  have hbn := bad_none hbad
  have hn : ∀ s ∈ gs, Nice ts (plOf s.1) := fun s hs => nice_stated (hbn s hs).1
  have hll := fun {y} hy => ll_spec hv (fun s hs => (hbn s hs).2.2) hn (y := y) hy
  have hin : ∀ q ∈ R, (plList q, la ts q + 1) ∈ gs := fun q hq => (hmem _).2 ⟨q, hq, rfl⟩
  have hle : ∀ q ∈ R, mget 0 (llF ts gs) q ≤ la ts q + 1 := fun q hq => (hll (hRn q hq)).le _ (hin q hq) (fun i _ => by rw [hpo q hq]; omega)
  constructor
  · unfold checkDoomF
    rw [if_neg (by simp [h]), if_neg hlen, if_neg (by simp [hbad]), if_pos]
    unfold doomedF
    refine Bool.and_eq_true_iff.2 ⟨List.all_eq_true.2 fun s hs => List.all_eq_true.2 fun y hy => ?_, decide_eq_true ?_⟩
    · obtain ⟨q, hq, rfl⟩ := (hmem s).1 hs
      simp only [hpo q hq] at hy
      have a := hRc hq hy
      have b := hle _ a
      have c := (dq_suc hv (hRd q hq) hy).2
      unfold badVisit
      simp
      omega
    · have a := hle _ hRp
      have b := la_big hv (ts := ts) (plOf ss)
      omega
  · have below : ∀ (q : Pl) (left : Int), q ∈ R → la ts q + 1 < left → belowF gs (plList q) left = true := fun q left hq hlt => by
      unfold belowF
      refine List.any_eq_true.2 ⟨_, hin q hq, Bool.and_eq_true_iff.2 ⟨decide_eq_true hlt, (least_iff hv (hRn q hq) (hRn q hq)).2 fun i _ => by omega⟩⟩
    unfold rcheckDoomF
    rw [if_neg (by simp [h]), if_neg hlen, if_neg (by simp [hbad]), if_neg, if_pos]
    · have hpl : plList (plOf ss) = ss := plList_of (by have := (stated_valid h).2.1; omega)
      have := below _ 2199023255552 hRp (by have := la_big hv (ts := ts) (plOf ss); omega)
      rw [hpl] at this
      exact this
    · simp only [Bool.not_eq_true]
      refine List.any_eq_false.2 fun s hs => ?_
      obtain ⟨q, hq, rfl⟩ := (hmem s).1 hs
      unfold stepWrong
      rcases rvisit hv (hRn q hq) with ⟨ys, a1, a2⟩ | ⟨a1, a2⟩
      · rw [a1]
        simp only [Bool.not_eq_true, List.any_eq_false, List.mem_range]
        intro i hi
        obtain ⟨z, hz, e⟩ := a2 i hi
        rw [e, below z _ (hRc hq hz) (by have := (dq_suc hv (hRd q hq) hz).2; simp only at this; omega)]
        rfl
      · rw [a1]
        simp
theorem either_safe {ts ss : List Int} (h : statedF ts ss = 0) (hd : plOf ss ∉ dq ts) : doomR ts ss = ([], 5) ∧ ∃ x l, nextR ts ss = (x :: l, 0) := by
  have hc := stated_hall h
  have hv := valid_of hc
  have hps := nice_stated h
  have hpos := (dq_safe hv hps).2 hd
  constructor
  · unfold doomR
    rw [if_neg (by simp [h]), if_pos hpos]
  · obtain ⟨y, hy, hyd⟩ := dq_out hv hps hd
    have hyp := (dq_safe hv (((visits_mem hv.h5).1 hy).nice hv hps)).2 hyd
    unfold nextR
    rw [if_neg (by simp [h]), if_pos hpos]
    have hm : ((y.1 : Nat) : Int) ∈ nextF (tabE ts).1 (visitsF ts (plOf ss)) := by
      unfold nextF
      exact List.mem_map.2 ⟨y, List.mem_filter.2 ⟨hy, by simpa using hyp⟩, rfl⟩
    cases hl : nextF (tabE ts).1 (visitsF ts (plOf ss)) with
    | nil => rw [hl] at hm; cases hm
    | cons x l => exact ⟨x, l, rfl⟩
theorem either_doomed {ts ss : List Int} (h : statedF ts ss = 0) (hd : plOf ss ∈ dq ts) : doomR ts ss = (stepsF (tabE ts).2.1 (reachE ts (plOf ss)).1, 0) ∧ nextR ts ss = ([], 17) := by
  have hc := stated_hall h
  have hv := valid_of hc
  have hps := nice_stated h
  have hpos := fun h => (dq_safe hv hps).1 h hd
  constructor
  · unfold doomR
    rw [if_neg (by simp [h]), if_neg hpos]
  · unfold nextR
    rw [if_neg (by simp [h]), if_neg hpos]
end Go.Proofs.YthjgecblkagelaaGreat
