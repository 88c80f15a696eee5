/- Parts of a proof: EA FJ FL. -/
import Derived.Test.YthjgecblkagelaaGreatM33

/- Circles: rows that lead back; what the search finds. -/
namespace Go.Proofs.YthjgecblkagelaaGreat
open Go.RowKit Go.Shelf

/-! ### Rows that lead back -/
def Wins (ts row : List Int) : Prop := ∀ i ∈ row, 0 ≤ i ∧ i < (ts.length : Int)
theorem wins_iff {ts row : List Int} : winsF ts.length row = true ↔ Wins ts row := by
  unfold winsF Wins
  rw [List.all_eq_true]
  refine forall_congr' fun i => forall_congr' fun _ => ?_
  simp [isWinF]
theorem Wins.append {ts a b : List Int} (ha : Wins ts a) (hb : Wins ts b) : Wins ts (a ++ b) := fun i hi => (List.mem_append.1 hi).elim (ha i) (hb i)
theorem Wins.left {ts a b : List Int} (h : Wins ts (a ++ b)) : Wins ts a := fun i hi => h i (List.mem_append_left _ hi)
theorem Wins.right {ts a b : List Int} (h : Wins ts (a ++ b)) : Wins ts b := fun i hi => h i (List.mem_append_right _ hi)
theorem playL_none (ts row : List Int) : row.foldl (fun (o : Option Pl) i => o.bind fun q => (turnF ts allF q i.toNat).map (·.1)) none = none := by
  induction row with
  | nil => rfl
  | cons j r ih => exact ih
theorem play_append (ts a b : List Int) (p : Pl) : playL ts (a ++ b) p = (playL ts a p).bind (playL ts b) := by
  unfold playL
  rw [List.foldl_append]
  cases h : List.foldl (fun (o : Option Pl) i => o.bind fun q => (turnF ts allF q i.toNat).map (·.1)) (some p) a with
  | none => exact playL_none ts b
  | some q => rfl
theorem play_go {ts : List Int} {i : Nat} {p q : Pl} {row : List Int} (h : (i, q) ∈ visitsF ts p) : playL ts ((i : Int) :: row) p = playL ts row q := by
  obtain ⟨x, hx⟩ := visit_turn h
  rw [playL_step]
  simp only at hx
  rw [Int.toNat_natCast, hx]
theorem play_split {ts : List Int} {i : Int} {p r : Pl} {row : List Int} (hi : 0 ≤ i ∧ i < (ts.length : Int)) (h : playL ts (i :: row) p = some r) : ∃ q, (i.toNat, q) ∈ visitsF ts p ∧ playL ts row q = some r := by
  rw [playL_step] at h
  cases ht : turnF ts allF p i.toNat with
  | none => rw [ht] at h; cases h
  | some q =>
    obtain ⟨q, x⟩ := q
    rw [ht] at h
    exact ⟨q, turn_visit (by omega) ht, h⟩
theorem play_nice {ts : List Int} (hv : Valid ts) : ∀ (row : List Int) (p q : Pl), Nice ts p → Wins ts row → playL ts row p = some q → Nice ts q
  | [], p, q, hp, _, h => by cases h; exact hp
  | i :: row, p, q, hp, hw, h => by
    obtain ⟨r, h1, h2⟩ := play_split (hw i (by simp)) h
    exact play_nice hv row r q (((visits_mem hv.h5).1 h1).nice hv hp) (fun j hj => hw j (by simp [hj])) h2
/-- From a doomed place a row leads to a doomed one that lasts less long. -/
theorem play_desc {ts : List Int} (hv : Valid ts) : ∀ (row : List Int) (p q : Pl), p ∈ dq ts → Wins ts row → playL ts row p = some q → q ∈ dq ts ∧ la ts q + (row.length : Int) ≤ la ts p
  | [], p, q, hp, _, h => by cases h; exact ⟨hp, by simp⟩
  | i :: row, p, q, hp, hw, h => by
    obtain ⟨r, h1, h2⟩ := play_split (hw i (by simp)) h
    obtain ⟨s1, s2⟩ := dq_suc hv hp h1
    obtain ⟨i1, i2⟩ := play_desc hv row r q s1 (fun j hj => hw j (by simp [hj])) h2
    simp only at s2
    exact ⟨i1, by simp only [List.length_cons]; omega⟩
structure Cyc (ts : List Int) (p : Pl) (row : List Int) : Prop where
  ne : row ≠ []
  wins : Wins ts row
  nice : Nice ts p
  back : playL ts row p = some p
theorem Cyc.safe {ts : List Int} (hv : Valid ts) {p : Pl} {row : List Int} (h : Cyc ts p row) : p ∉ dq ts := fun hd => by
  have := (play_desc hv row p p hd h.wins h.back).2
  have := List.length_pos_iff.2 h.ne
  omega
/-- Round the circle. -/
theorem Cyc.turn {ts : List Int} (hv : Valid ts) {p : Pl} {a b : List Int} (h : Cyc ts p (a ++ b)) : ∃ q, playL ts a p = some q ∧ playL ts b q = some p ∧ Cyc ts q (b ++ a) := by
  have hb := h.back
  rw [play_append] at hb
  cases ha : playL ts a p with
  | none => rw [ha] at hb; cases hb
  | some q =>
    rw [ha] at hb
    have hb : playL ts b q = some p := hb
    refine ⟨q, rfl, hb, ⟨fun e => h.ne ?_, h.wins.right.append h.wins.left, play_nice hv a p q h.nice h.wins.left ha, ?_⟩⟩
    · rw [List.append_eq_nil_iff] at e ⊢
      exact ⟨e.2, e.1⟩
    · rw [play_append, hb]
      exact ha
theorem Cyc.twice {ts : List Int} {p : Pl} {a : List Int} (h : Cyc ts p a) : Cyc ts p (a ++ a) := by
  refine ⟨fun e => h.ne (List.append_eq_nil_iff.1 e).1, h.wins.append h.wins, h.nice, ?_⟩
  rw [play_append, h.back]
  exact h.back
theorem sim_le (t wd : Int) (ht : 0 ≤ t) : ∀ (l : List Int) (c r : Int), c ≤ t → simF t wd l c = some r → r ≤ t
  | [], c, r, hc, h => by cases h; exact hc
  | i :: l, c, r, hc, h => by
    rw [simF] at h
    by_cases e : c = t
    · rw [if_pos e] at h; cases h
    · rw [if_neg e] at h
      exact sim_le t wd ht l _ r (by split <;> omega) h
theorem sim_mono (t wd : Int) (ht : 0 ≤ t) : ∀ (l : List Int) (c c2 r : Int), c2 ≤ c → c ≤ t → simF t wd l c = some r → ∃ r2, simF t wd l c2 = some r2 ∧ r2 ≤ r
  | [], c, c2, r, h, _, e => by cases e; exact ⟨c2, rfl, h⟩
  | i :: l, c, c2, r, h, hc, e => by
    rw [simF] at e
    by_cases e1 : c = t
    · rw [if_pos e1] at e; cases e
    · rw [if_neg e1] at e
      rw [simF, if_neg (by omega)]
      exact sim_mono t wd ht l _ _ r (by split <;> omega) (by split <;> omega) e
theorem sim_fix (t wd : Int) (ht : 0 ≤ t) {row : List Int} {c : Int} (h0 : row ≠ []) (hc : 0 ≤ c ∧ c ≤ t) (h : simF t wd row c = some c) : wd ∈ row ∧ simF t wd row 0 = some c := by
  by_cases hm : wd ∈ row
  · refine ⟨hm, ?_⟩
    obtain ⟨pre, post, rfl⟩ := List.append_of_mem hm
    rw [simF_row] at h ⊢
    cases h1 : simF t wd pre c with
    | none => rw [h1] at h; cases h
    | some c1 =>
      rw [h1] at h
      obtain ⟨r2, h2, h3⟩ := sim_mono t wd ht pre c 0 c1 hc.1 hc.2 h1
      have h4 := sim_le t wd ht pre c c1 hc.2 h1
      rw [h2]
      simp only [Option.bind_some] at h ⊢
      by_cases e : c1 = t
      · rw [if_pos e] at h; cases h
      · rw [if_neg e] at h
        rw [if_neg (by omega)]
        exact h
  · exfalso
    have := sim_unseen_of wd t row c c hm h
    have := List.length_pos_iff.2 h0
    omega
theorem empty_get (ts : List Int) (j : Nat) : (emptyP ts).get j = 0 := by
  match j with
  | 0 => rfl
  | 1 => rfl
  | 2 => rfl
  | 3 => rfl
  | 4 => rfl
  | i + 5 => rfl
theorem nice_empty {ts : List Int} (hv : Valid ts) : Nice ts (emptyP ts) := by
  refine ⟨⟨fun i hi => ?_, rfl⟩, fun i _ => empty_get ts i⟩
  have := hv.h12 i hi
  rw [empty_get]
  omega
/-- A row that leads back leads from the empty state to the place to which it leads back. -/
theorem Cyc.empty {ts : List Int} (hv : Valid ts) {p : Pl} {row : List Int} (h : Cyc ts p row) : playL ts row (emptyP ts) = some p ∧ ∀ j : Nat, j < ts.length → (j : Int) ∈ row := by
  have hp : ∀ j : Nat, j < ts.length → simF (ts[j]?.getD 0) (j : Int) row (p.get j) = some (p.get j) := by
    rcases play_coord hv row p h.wins with ⟨q, a1, -, a3, -⟩ | ⟨a1, -⟩
    · rw [h.back] at a1
      cases a1
      exact a3
    · rw [h.back] at a1; cases a1
  have hf := fun (j : Nat) (hj : j < ts.length) => sim_fix _ _ (by have := hv.h12 j hj; omega) h.ne (h.nice.1.1 j hj) (hp j hj)
  refine ⟨?_, fun j hj => (hf j hj).1⟩
  rcases play_coord hv row (emptyP ts) h.wins with ⟨q, a1, a2, a3, a4⟩ | ⟨-, j, hj, a2⟩
  · rw [a1]
    congr 1
    refine pl_ext (by rw [a2, h.nice.1.2]; rfl) fun j => ?_
    by_cases hj : j < ts.length
    · have := a3 j hj
      rw [empty_get, (hf j hj).2] at this
      exact (Option.some.inj this).symm
    · rw [a4 j (by omega), empty_get, h.nice.2 j (by omega)]
  · rw [empty_get, (hf j hj).2] at a2
    cases a2
theorem circle_iff {ts : List Int} (hv : Valid ts) {row : List Int} (h0 : row ≠ []) (hw : Wins ts row) : circleF ts row = true ↔ ∃ p, Cyc ts p row := by
  constructor
  · intro h
    unfold circleF at h
    split at h
    · cases h
    · rename_i q hq
      split at h
      · cases h
      · rename_i r hr
        obtain rfl : r = q := of_decide_eq_true h
        exact ⟨r, h0, hw, play_nice hv row _ r (nice_empty hv) hw hq, hr⟩
  · rintro ⟨p, h⟩
    have he : playL ts row ⟨ts.length, 0, 0, 0, 0, 0⟩ = some p := (h.empty hv).1
    unfold circleF
    rw [he]
    dsimp only
    rw [h.back]
    exact decide_eq_true rfl
theorem empty_le {ts : List Int} {p : Pl} (hp : Nice ts p) : LeP ts (emptyP ts) p := fun i hi => by
  rw [empty_get]
  exact (hp.1.1 i hi).1

/-! ### The search from one place -/
/-- Walks in the order of their lengths, to places that are all different. -/
structure BI (ts : List Int) (start : Pl) (s : WSt) (ub : Nat) : Prop where
  head : s.1[0]? = some (start, [])
  walk : ∀ y ∈ s.1, Wins ts y.2 ∧ playL ts y.2 start = some y.1
  seen : ∀ x, mget false s.2 x = true ↔ x ∈ (s.1.drop 1).map (·.1)
  nd : (s.1.map (·.1)).Nodup
  srt : s.1.Pairwise fun a b => a.2.length ≤ b.2.length
  ub : ∀ y ∈ s.1, y.2.length ≤ ub
theorem bi_step {ts : List Int} (hv : Valid ts) {start : Pl} (hs : Nice ts start) {s : WSt} {q : Pl × List Int} (hq : q ∈ s.1) (hI : BI ts start s (q.2.length + 1)) {z : Nat × Pl} (hz : z ∈ visitsF ts q.1) (hne : z.2 ≠ start) :
    BI ts start (wkStep (tabE ts).1 q s z) (q.2.length + 1) ∧ s.1 <+: (wkStep (tabE ts).1 q s z).1 ∧ (z.2 ∉ dq ts → ∃ w ∈ (wkStep (tabE ts).1 q s z).1, w.1 = z.2 ∧ w.2.length ≤ q.2.length + 1) := by
  obtain ⟨hqw, hqp⟩ := hI.walk q hq
  have hqn := play_nice hv _ _ _ hs hqw hqp
  have hzn : Nice ts z.2 := ((visits_mem hv.h5).1 hz).nice hv hqn
  have hlen : s.1 ≠ [] := fun e => by have := hI.head; rw [e] at this; cases this
  have hdec : s.1.map (·.1) = start :: (s.1.drop 1).map (·.1) := by
    obtain ⟨a, l, e⟩ := List.exists_cons_of_ne_nil hlen
    have h := hI.head
    rw [e] at h ⊢
    simp only [List.getElem?_cons_zero, Option.some.injEq] at h
    rw [h]
    rfl
  unfold wkStep
  by_cases hc : 0 < mget 0 (tabE ts).1 z.2 ∧ mget false s.2 z.2 = false
  · rw [if_pos hc]
    have hnew : z.2 ∉ s.1.map (·.1) := fun h => by
      rw [hdec] at h
      rcases List.mem_cons.1 h with h | h
      · exact hne h
      · rw [(hI.seen z.2).2 h] at hc
        cases hc.2
    refine ⟨⟨?_, fun y hy => ?_, fun x => ?_, ?_, ?_, fun y hy => ?_⟩, List.prefix_append _ _, fun _ => ⟨(z.2, q.2 ++ [(z.1 : Int)]), by simp, rfl, by simp⟩⟩
    · rw [List.getElem?_append_left (List.length_pos_iff.2 hlen)]
      exact hI.head
    · rcases List.mem_append.1 hy with h | h
      · exact hI.walk y h
      · rw [List.mem_singleton.1 h]
        refine ⟨hqw.append fun i hi => ?_, ?_⟩
        · rw [List.mem_singleton.1 hi]
          have := visit_fst hz
          omega
        · dsimp only
          rw [play_append, hqp]
          exact play_go (row := []) (show (z.1, z.2) ∈ _ from hz)
    · dsimp only
      rw [mget_mset, List.drop_append_of_le_length (List.length_pos_iff.2 hlen), List.map_append, List.mem_append]
      by_cases e : x = z.2
      · rw [if_pos e, e]
        simp
      · rw [if_neg e, hI.seen x]
        simp [e]
    · dsimp only
      rw [List.map_append, List.nodup_append]
      refine ⟨hI.nd, by simp, fun a ha b hb => ?_⟩
      simp only [List.map_cons, List.map_nil, List.mem_singleton] at hb
      rw [hb]
      exact fun e => hnew (e ▸ ha)
    · dsimp only
      rw [List.pairwise_append]
      refine ⟨hI.srt, by simp, fun a ha b hb => ?_⟩
      rw [List.mem_singleton.1 hb]
      have := hI.ub a ha
      simp only [List.length_append, List.length_cons, List.length_nil]
      omega
    · rcases List.mem_append.1 hy with h | h
      · exact hI.ub y h
      · rw [List.mem_singleton.1 h]
        simp
  · rw [if_neg hc]
    refine ⟨hI, List.prefix_refl _, fun hd => ?_⟩
    have hp := (dq_safe hv hzn).2 hd
    have hsn : mget false s.2 z.2 = true := by
      cases h : mget false s.2 z.2 with
      | true => rfl
      | false => exact absurd ⟨hp, h⟩ hc
    obtain ⟨w, hw, e⟩ := List.mem_map.1 ((hI.seen z.2).1 hsn)
    have hw' := List.mem_of_mem_drop hw
    exact ⟨w, hw', e, hI.ub w hw'⟩
theorem bi_fold {ts : List Int} (hv : Valid ts) {start : Pl} (hs : Nice ts start) {q : Pl × List Int} : ∀ (l : List (Nat × Pl)) (s : WSt), q ∈ s.1 → BI ts start s (q.2.length + 1) → (∀ z ∈ l, z ∈ visitsF ts q.1 ∧ z.2 ≠ start) →
    BI ts start (wkP (tabE ts).1 q s l) (q.2.length + 1) ∧ s.1 <+: (wkP (tabE ts).1 q s l).1 ∧ ∀ z ∈ l, z.2 ∉ dq ts → ∃ w ∈ (wkP (tabE ts).1 q s l).1, w.1 = z.2 ∧ w.2.length ≤ q.2.length + 1
  | [], s, _, hI, _ => ⟨hI, List.prefix_refl _, fun z hz => by cases hz⟩
  | z :: l, s, hq, hI, hl => by
    obtain ⟨h1, h2⟩ := hl z (by simp)
    obtain ⟨a1, a2, a3⟩ := bi_step hv hs hq hI h1 h2
    obtain ⟨b1, b2, b3⟩ := bi_fold hv hs l (wkStep (tabE ts).1 q s z) (a2.subset hq) a1 fun y hy => hl y (by simp [hy])
    have e : wkP (tabE ts).1 q s (z :: l) = wkP (tabE ts).1 q (wkStep (tabE ts).1 q s z) l := rfl
    rw [e]
    refine ⟨b1, a2.trans b2, fun y hy hd => ?_⟩
    rcases List.mem_cons.1 hy with rfl | hy
    · obtain ⟨w, hw, h⟩ := a3 hd
      exact ⟨w, b2.subset hw, h⟩
    · exact b3 y hy hd
/-- Behind so many walks. -/
structure BInv (ts : List Int) (start : Pl) (k : Nat) (s : WSt) : Prop where
  bi : ∃ ub, BI ts start s ub
  top : ∀ y ∈ s.1, ∀ z, s.1[k]? = some z → y.2.length ≤ z.2.length + 1
  close : ∀ j y, j < k → s.1[j]? = some y → ∀ z ∈ visitsF ts y.1, z.2 ≠ start ∧ (z.2 ∉ dq ts → ∃ w ∈ s.1, w.1 = z.2 ∧ w.2.length ≤ y.2.length + 1)
theorem binv_zero {ts : List Int} (start : Pl) : BInv ts start 0 ([(start, [])], []) := by
  refine ⟨⟨0, rfl, fun y hy => ?_, fun x => ?_, by simp, by simp, fun y hy => ?_⟩, fun y hy z _ => ?_, fun j y hj => by omega⟩
  · rw [List.mem_singleton.1 hy]
    exact ⟨fun i hi => (by cases hi), rfl⟩
  · simp [mget, mfind]
  · rw [List.mem_singleton.1 hy]
    simp
  · rw [List.mem_singleton.1 hy]
    simp
theorem wkL_two {m : List (Pl × Int)} {start : Pl} {q : Pl × List Int} : ∀ (l : List (Nat × Pl)) (s : WSt), (∃ x ∈ l, x.2 = start ∧ wkL m start q l s = .inr (q.2 ++ [(x.1 : Int)])) ∨ ((∀ x ∈ l, x.2 ≠ start) ∧ wkL m start q l s = .inl (wkP m q s l))
  | [], s => .inr ⟨fun x hx => (by cases hx), rfl⟩
  | x :: l, s => by
    unfold wkL
    by_cases h : x.2 = start
    · rw [if_pos h]
      exact .inl ⟨x, by simp, h, rfl⟩
    · rw [if_neg h]
      rcases wkL_two l (wkStep m q s x) with ⟨y, hy, a, b⟩ | ⟨a, b⟩
      · exact .inl ⟨y, by simp [hy], a, b⟩
      · refine .inr ⟨fun y hy => ?_, b⟩
        rcases List.mem_cons.1 hy with rfl | hy
        · exact h
        · exact a y hy
theorem prefix_get {α : Type} {l l' : List α} (h : l <+: l') {j : Nat} {y : α} (hj : l[j]? = some y) : l'[j]? = some y := by
  obtain ⟨t, rfl⟩ := h
  rw [List.getElem?_append_left (List.getElem?_eq_some_iff.1 hj).1]
  exact hj
theorem binv_all {ts : List Int} (hv : Valid ts) {start : Pl} (hs : Nice ts start) {limit : Int} : ∀ (k : Nat) (s : WSt), loopN ts (tabE ts).1 start limit k = .inl s → BInv ts start k s
  | 0, s, h => by cases h; exact binv_zero start
  | k + 1, s, h => by
    unfold loopN at h
    cases hk : loopN ts (tabE ts).1 start limit k with
    | inr r => rw [hk] at h; cases h
    | inl s0 =>
      rw [hk] at h
      have ih := binv_all hv hs k s0 hk
      unfold loopStep at h
      dsimp only at h
      cases hq : s0.1[k]? with
      | none => rw [hq] at h; cases h
      | some q =>
        rw [hq] at h
        dsimp only at h
        by_cases hl : limit ≤ (q.2.length : Int)
        · rw [if_pos hl] at h; cases h
        · rw [if_neg hl] at h
          rcases wkL_two (m := (tabE ts).1) (start := start) (q := q) (visitsF ts q.1) s0 with ⟨x, -, -, e⟩ | ⟨hno, e⟩
          · rw [e] at h; cases h
          · rw [e] at h
            cases h
            obtain ⟨ub, hb⟩ := ih.bi
            have hqm := List.mem_of_getElem? hq
            have hb2 : BI ts start s0 (q.2.length + 1) := ⟨hb.head, hb.walk, hb.seen, hb.nd, hb.srt, fun y hy => ih.top y hy q hq⟩
            obtain ⟨c1, c2, c3⟩ := bi_fold hv hs (visitsF ts q.1) s0 hqm hb2 fun z hz => ⟨hz, hno z hz⟩
            have hget := fun {j y} (hj : s0.1[j]? = some y) => prefix_get c2 hj
            refine ⟨⟨_, c1⟩, fun y hy z hz => ?_, fun j y hj hy z hz => ?_⟩
            · have h1 := c1.ub y hy
              have h2 : q.2.length ≤ z.2.length := by
                obtain ⟨l1, e1⟩ := List.getElem?_eq_some_iff.1 (hget hq)
                obtain ⟨l2, e2⟩ := List.getElem?_eq_some_iff.1 hz
                have := (List.pairwise_iff_getElem.1 c1.srt) k (k + 1) l1 l2 (by omega)
                rw [e1, e2] at this
                exact this
              omega
            · rcases Nat.lt_succ_iff_lt_or_eq.1 hj with h' | rfl
              · have hjl : j < s0.1.length := by have := (List.getElem?_eq_some_iff.1 hq).1; omega
                have hy0 := hget (List.getElem?_eq_getElem hjl)
                rw [hy] at hy0
                cases hy0
                obtain ⟨d1, d2⟩ := ih.close j _ h' (List.getElem?_eq_getElem hjl) z hz
                exact ⟨d1, fun hd => by obtain ⟨w, hw, e⟩ := d2 hd; exact ⟨w, c2.subset hw, e⟩⟩
              · rw [hget hq] at hy
                cases hy
                exact ⟨hno z hz, c3 z hz⟩
theorem binv_len {ts : List Int} (hv : Valid ts) {start : Pl} (hs : Nice ts start) {k : Nat} {s : WSt} (h : BInv ts start k s) : s.1.length ≤ 1000 := by
  obtain ⟨ub, hb⟩ := h.bi
  have := nodup_len hv hb.nd fun p hp => by
    obtain ⟨y, hy, rfl⟩ := List.mem_map.1 hp
    obtain ⟨h1, h2⟩ := hb.walk y hy
    exact play_nice hv _ _ _ hs h1 h2
  rwa [List.length_map] at this
/-- How a search ends. -/
theorem loop_inr {ts : List Int} {m : List (Pl × Int)} {p : Pl} {limit : Int} {r : List Int × Bool} : ∀ (k : Nat), loopN ts m p limit k = .inr r → ∃ j s, loopN ts m p limit j = .inl s ∧ ((s.1[j]? = none ∧ r = ([], false)) ∨ ∃ q, s.1[j]? = some q ∧ ((limit ≤ (q.2.length : Int) ∧ r = ([], false)) ∨ ((q.2.length : Int) < limit ∧ ∃ x ∈ visitsF ts q.1, x.2 = p ∧ r = (q.2 ++ [(x.1 : Int)], true))))
  | 0, h => by cases h
  | k + 1, h => by
    unfold loopN at h
    cases hk : loopN ts m p limit k with
    | inr r' =>
      rw [hk] at h
      cases h
      exact loop_inr k hk
    | inl s =>
      rw [hk] at h
      refine ⟨k, s, hk, ?_⟩
      unfold loopStep at h
      dsimp only at h
      cases hq : s.1[k]? with
      | none => rw [hq] at h; cases h; exact .inl ⟨rfl, rfl⟩
      | some q =>
        rw [hq] at h
        dsimp only at h
        refine .inr ⟨q, rfl, ?_⟩
        by_cases hl : limit ≤ (q.2.length : Int)
        · rw [if_pos hl] at h; cases h
          exact .inl ⟨hl, rfl⟩
        · rw [if_neg hl] at h
          rcases wkL_two (m := m) (start := p) (q := q) (visitsF ts q.1) s with ⟨x, hx, e1, e⟩ | ⟨-, e⟩
          · rw [e] at h
            cases h
            exact .inr ⟨by omega, x, hx, e1, rfl⟩
          · rw [e] at h; cases h
theorem loop_ends {ts : List Int} (hv : Valid ts) : LEnds ts (tabE ts).1 := by
  intro p hp limit _
  have hs := (nice_mem hv).1 hp
  cases h : loopN ts (tabE ts).1 p limit 1001 with
  | inr r => exact ⟨r, rfl⟩
  | inl s =>
    exfalso
    unfold loopN at h
    cases hk : loopN ts (tabE ts).1 p limit 1000 with
    | inr r => rw [hk] at h; cases h
    | inl s0 =>
      rw [hk] at h
      have := binv_len hv hs (binv_all hv hs 1000 s0 hk)
      unfold loopStep at h
      dsimp only at h
      rw [List.getElem?_eq_none this] at h
      cases h
/-- No row that leads back is shorter. -/
theorem bfs_min {ts : List Int} (hv : Valid ts) {start : Pl} {k : Nat} {s : WSt} (h : BInv ts start k s) {row : List Int} (hc : Cyc ts start row) : ∃ q, s.1[k]? = some q ∧ q.2.length < row.length := by
  refine Classical.byContradiction fun hno => ?_
  have hno : ∀ q, s.1[k]? = some q → row.length ≤ q.2.length := fun q hq => Classical.byContradiction fun hlt => hno ⟨q, hq, by omega⟩
  obtain ⟨ub, hb⟩ := h.bi
  have hsafe := hc.safe hv
  have early : ∀ (w : Pl × List Int) (i : Nat), w ∈ s.1 → w.2.length ≤ i → i < row.length → ∃ j, j < k ∧ s.1[j]? = some w := fun w i hw hl hi => by
    obtain ⟨j, hj, e⟩ := List.getElem_of_mem hw
    refine ⟨j, ?_, by rw [List.getElem?_eq_getElem hj, e]⟩
    rcases Nat.lt_or_ge j k with h' | h'
    · exact h'
    · exfalso
      have hkl : k < s.1.length := by omega
      have h1 := hno s.1[k] (List.getElem?_eq_getElem hkl)
      rcases Nat.lt_or_ge k j with h2 | h2
      · have := (List.pairwise_iff_getElem.1 hb.srt) k j hkl hj h2
        rw [e] at this
        omega
      · obtain rfl : k = j := by omega
        rw [e] at h1
        omega
  have main : ∀ i, i < row.length → ∃ w ∈ s.1, playL ts (row.take i) start = some w.1 ∧ w.2.length ≤ i ∧ ∃ z ∈ visitsF ts w.1, playL ts (row.take (i + 1)) start = some z.2 := by
    intro i
    induction i with
    | zero =>
      intro hi
      refine ⟨_, List.mem_of_getElem? hb.head, rfl, Nat.le_refl _, ?_⟩
      obtain ⟨a, l, e⟩ := List.exists_cons_of_ne_nil hc.ne
      have hbk := hc.back
      rw [e] at hbk
      obtain ⟨z, hz, -⟩ := play_split (hc.wins a (by rw [e]; simp)) hbk
      refine ⟨(a.toNat, z), hz, ?_⟩
      rw [e]
      show playL ts [a] start = some z
      have ha := hc.wins a (by rw [e]; simp)
      have e2 : a = ((a.toNat : Nat) : Int) := by omega
      rw [e2]
      exact play_go (row := []) hz
    | succ i ih =>
      intro hi
      obtain ⟨w, hw, hp, hl, z, hz, hpz⟩ := ih (by omega)
      obtain ⟨j, hjk, hj⟩ := early w i hw hl (by omega)
      obtain ⟨hzs, hzd⟩ := h.close j w hjk hj z hz
      have htd : row = row.take (i + 1) ++ row.drop (i + 1) := (List.take_append_drop _ _).symm
      have hc2 := hc
      rw [htd] at hc2
      obtain ⟨x, hx1, hx2, hx3⟩ := hc2.turn hv
      rw [hpz] at hx1
      cases hx1
      obtain ⟨w2, hw2, e2, hl2⟩ := hzd (hx3.safe hv)
      refine ⟨w2, hw2, by rw [hpz, e2], by omega, ?_⟩
      have hdr : row.drop (i + 1) = row[i + 1] :: row.drop (i + 1 + 1) := List.drop_eq_getElem_cons hi
      rw [hdr] at hx2
      obtain ⟨z2, hz2, -⟩ := play_split (hc.wins _ (List.getElem_mem hi)) hx2
      refine ⟨((row[i + 1]).toNat, z2), by rw [e2]; exact hz2, ?_⟩
      rw [List.take_succ_eq_append_getElem hi, play_append, hpz]
      show playL ts [row[i + 1]] z.2 = some z2
      have ha := hc.wins _ (List.getElem_mem hi)
      have e3 : row[i + 1] = ((row[i + 1].toNat : Nat) : Int) := by omega
      rw [e3]
      exact play_go (row := []) hz2
  have hpos := List.length_pos_iff.2 hc.ne
  obtain ⟨w, hw, hp, hl, z, hz, hpz⟩ := main (row.length - 1) (by omega)
  obtain ⟨j, hjk, hj⟩ := early w _ hw hl (by omega)
  have := (h.close j w hjk hj z hz).1
  rw [show row.length - 1 + 1 = row.length by omega, List.take_length, hc.back] at hpz
  exact this (Option.some.inj hpz).symm
/-- What a search from a place finds. -/
theorem loopE_spec {ts : List Int} (hv : Valid ts) {p : Pl} (hp : Nice ts p) {limit : Int} (hl : limit ≤ 1000) :
    ((loopE ts (tabE ts).1 p limit).2 = true → Cyc ts p (loopE ts (tabE ts).1 p limit).1 ∧ ((loopE ts (tabE ts).1 p limit).1.length : Int) ≤ limit ∧ ∀ row, Cyc ts p row → (loopE ts (tabE ts).1 p limit).1.length ≤ row.length) ∧
    ((loopE ts (tabE ts).1 p limit).2 = false → ∀ row, Cyc ts p row → limit < (row.length : Int)) := by
  have h := (loop_ends hv).at ((nice_mem hv).2 hp) limit hl
  obtain ⟨r, hr⟩ : ∃ r, r = loopE ts (tabE ts).1 p limit := ⟨_, rfl⟩
  rw [← hr] at h ⊢
  clear hr
  obtain ⟨j, s, hj, hcase⟩ := loop_inr 1001 h
  have hI := binv_all hv hp j s hj
  rcases hcase with ⟨h1, rfl⟩ | ⟨q, hq, ⟨h1, rfl⟩ | ⟨h1, x, hx, hxp, rfl⟩⟩
  · refine ⟨fun h => (by cases h), fun _ row hc => ?_⟩
    obtain ⟨q, hq, -⟩ := bfs_min hv hI hc
    rw [h1] at hq
    cases hq
  · refine ⟨fun h => (by cases h), fun _ row hc => ?_⟩
    obtain ⟨q', hq', hlt⟩ := bfs_min hv hI hc
    rw [hq] at hq'
    cases hq'
    omega
  · refine ⟨fun _ => ⟨?_, by simp; omega, fun row hc => ?_⟩, fun h => (by cases h)⟩
    · obtain ⟨ub, hb⟩ := hI.bi
      obtain ⟨w1, w2⟩ := hb.walk q (List.mem_of_getElem? hq)
      refine ⟨by simp, w1.append fun i hi => ?_, hp, ?_⟩
      · rw [List.mem_singleton.1 hi]
        have := visit_fst hx
        omega
      · show playL ts (q.2 ++ [(x.1 : Int)]) p = some p
        rw [play_append, w2]
        have := play_go (row := []) (show (x.1, x.2) ∈ visitsF ts q.1 from hx)
        rw [hxp] at this
        exact this
    · obtain ⟨q', hq', hlt⟩ := bfs_min hv hI hc
      rw [hq] at hq'
      cases hq'
      simp
      omega

/-! ### All places -/
structure CP (ts : List Int) (win : Nat) (ps : List Pl) (st : List Int × Int) : Prop where
  lim : st.2 ≤ 1000
  own : (st.1 = [] ∧ st.2 = 1000) ∨ ((st.1.length : Int) = st.2 + 1 ∧ ∃ p, Cyc ts p st.1)
  all : ∀ p ∈ ps, ¬ 0 < p.get win → ∀ row, Cyc ts p row → st.2 < (row.length : Int)
theorem circ_fold {ts : List Int} (hv : Valid ts) {win : Nat} : ∀ (l ps : List Pl) (st : List Int × Int), (∀ p ∈ l, Nice ts p) → CP ts win ps st → CP ts win (ps ++ l) (l.foldl (circStep ts (tabE ts).1 win) st)
  | [], ps, st, _, h => by rw [List.append_nil]; exact h
  | p :: l, ps, st, hl, h => by
    have hp := hl p (by simp)
    have key : CP ts win (ps ++ [p]) (circStep ts (tabE ts).1 win st p) := by
      unfold circStep
      by_cases h1 : 0 < p.get win
      · rw [if_pos h1]
        refine ⟨h.lim, h.own, fun x hx h0 row hc => ?_⟩
        rcases List.mem_append.1 hx with hx | hx
        · exact h.all x hx h0 row hc
        · rw [List.mem_singleton.1 hx] at h0
          exact absurd h1 h0
      · rw [if_neg h1]
        by_cases h2 : 0 < mget 0 (tabE ts).1 p
        · rw [if_pos h2]
          obtain ⟨s1, s2⟩ := loopE_spec hv hp h.lim
          unfold circV
          cases hr : (loopE ts (tabE ts).1 p st.2).2 with
          | true =>
            rw [if_pos rfl]
            obtain ⟨c1, c2, c3⟩ := s1 hr
            have hlm := h.lim
            refine ⟨by dsimp only; omega, .inr ⟨by dsimp only; omega, p, c1⟩, fun x hx h0 row hc => ?_⟩
            dsimp only
            rcases List.mem_append.1 hx with hx | hx
            · have := h.all x hx h0 row hc
              omega
            · rw [List.mem_singleton.1 hx] at hc
              have := c3 row hc
              omega
          | false =>
            rw [if_neg (by simp)]
            refine ⟨h.lim, h.own, fun x hx h0 row hc => ?_⟩
            rcases List.mem_append.1 hx with hx | hx
            · exact h.all x hx h0 row hc
            · rw [List.mem_singleton.1 hx] at hc
              exact s2 hr row hc
        · rw [if_neg h2]
          refine ⟨h.lim, h.own, fun x hx h0 row hc => ?_⟩
          rcases List.mem_append.1 hx with hx | hx
          · exact h.all x hx h0 row hc
          · rw [List.mem_singleton.1 hx] at hc
            exact absurd ((dq_safe hv hp).2 (hc.safe hv)) h2
    have := circ_fold hv l (ps ++ [p]) _ (fun x hx => hl x (by simp [hx])) key
    rw [List.append_assoc] at this
    exact this
/-- A row that leads back, begun behind a visit of a window. -/
theorem Cyc.begin {ts : List Int} (hv : Valid ts) {p : Pl} {row : List Int} (h : Cyc ts p row) {win : Nat} (hw : win < ts.length) : ∃ q row', Cyc ts q row' ∧ q.get win = 0 ∧ row'.length = row.length := by
  obtain ⟨pre, post, rfl⟩ := List.append_of_mem ((h.empty hv).2 win hw)
  have h2 : Cyc ts p ((pre ++ [(win : Int)]) ++ post) := by simpa using h
  obtain ⟨q, h3, -, h4⟩ := h2.turn hv
  refine ⟨q, _, h4, ?_, by simp; omega⟩
  rw [play_append] at h3
  cases hp : playL ts pre p with
  | none => rw [hp] at h3; cases h3
  | some x =>
    rw [hp] at h3
    obtain ⟨y, hy, hyq⟩ := play_split (row := []) (h.wins (win : Int) (by simp)) h3
    cases hyq
    have := ((visits_mem hv.h5).1 hy).zero
    simpa using this
/-- From a safe place some row of at most a thousand visits leads back to a place. -/
theorem safe_walk {ts : List Int} (hv : Valid ts) {e : Pl} (he : Nice ts e) (hd : e ∉ dq ts) : ∀ k : Nat, ∃ (xs : List Pl), xs.length = k + 1 ∧ (∀ x ∈ xs, Nice ts x ∧ x ∉ dq ts) ∧ ∀ i j (hi : i < j) (hj : j < xs.length), ∃ row, Wins ts row ∧ row.length = j - i ∧ playL ts row xs[i] = some xs[j]
  | 0 => ⟨[e], rfl, fun x hx => by rw [List.mem_singleton.1 hx]; exact ⟨he, hd⟩, fun i j hi hj => by simp at hj; omega⟩
  | k + 1 => by
    obtain ⟨xs, hl, hs, hr⟩ := safe_walk hv he hd k
    have hk : k < xs.length := by omega
    obtain ⟨a, b⟩ := hs xs[k] (List.getElem_mem hk)
    obtain ⟨y, hy, hyd⟩ := dq_out hv a b
    have hyn : Nice ts y.2 := ((visits_mem hv.h5).1 hy).nice hv a
    have hstep : playL ts [(y.1 : Int)] xs[k] = some y.2 := play_go (row := []) (show (y.1, y.2) ∈ _ from hy)
    have hwy : Wins ts [(y.1 : Int)] := fun i hi => by
      rw [List.mem_singleton.1 hi]
      have := visit_fst hy
      omega
    refine ⟨xs ++ [y.2], by simp [hl], fun x hx => ?_, fun i j hi hj => ?_⟩
    · rcases List.mem_append.1 hx with h | h
      · exact hs x h
      · rw [List.mem_singleton.1 h]; exact ⟨hyn, hyd⟩
    · simp only [List.length_append, List.length_cons, List.length_nil] at hj
      have hil : i < xs.length := by omega
      rcases Nat.lt_or_ge j xs.length with hjl | hjl
      · obtain ⟨row, r1, r2, r3⟩ := hr i j hi hjl
        refine ⟨row, r1, r2, ?_⟩
        rw [List.getElem_append_left hil, List.getElem_append_left hjl]
        exact r3
      · obtain rfl : j = xs.length := by omega
        rw [List.getElem_append_left hil, List.getElem_append_right (Nat.le_refl _)]
        simp only [Nat.sub_self, List.getElem_cons_zero]
        by_cases hik : i = k
        · subst hik
          exact ⟨_, hwy, by simp; omega, hstep⟩
        · obtain ⟨row, r1, r2, r3⟩ := hr i k (by omega) hk
          refine ⟨row ++ [(y.1 : Int)], r1.append hwy, by simp; omega, ?_⟩
          rw [play_append, r3]
          exact hstep
theorem safe_cyc {ts : List Int} (hv : Valid ts) {e : Pl} (he : Nice ts e) (hd : e ∉ dq ts) : ∃ p row, Cyc ts p row ∧ row.length ≤ 1000 := by
  obtain ⟨xs, hl, hs, hr⟩ := safe_walk hv he hd 1000
  have hn : ¬ xs.Nodup := fun h => by
    have := nodup_len hv h fun p hp => (hs p hp).1
    omega
  have : ∃ i j, ∃ (hi : i < j) (hj : j < xs.length), xs[i] = xs[j] := Classical.byContradiction fun hno => hn (List.pairwise_iff_getElem.2 fun i j hi hj hij e => hno ⟨i, j, hij, hj, e⟩)
  obtain ⟨i, j, hij, hj, e⟩ := this
  obtain ⟨row, r1, r2, r3⟩ := hr i j hij hj
  refine ⟨xs[j], row, ⟨fun h => ?_, r1, (hs _ (List.getElem_mem hj)).1, ?_⟩, by omega⟩
  · rw [h] at r2
    simp at r2
    omega
  · rw [e] at r3
    exact r3
/-- The circle that is returned. -/
theorem circ_spec {ts : List Int} (hv : Valid ts) {win : Nat} (hw : IsWin ts win) (hd : emptyP ts ∉ dq ts) :
    ∃ p, Cyc ts p (circP ts (tabE ts).1 win ((statesL ts).map plOf)).1 ∧ (circP ts (tabE ts).1 win ((statesL ts).map plOf)).1.length ≤ 1000 ∧ ∀ q row, Cyc ts q row → (circP ts (tabE ts).1 win ((statesL ts).map plOf)).1.length ≤ row.length := by
  have h := circ_fold hv (win := win) ((statesL ts).map plOf) [] ([], 1000) (fun p hp => (nice_mem hv).1 hp) ⟨Int.le_refl _, .inl ⟨rfl, rfl⟩, fun p hp => (by cases hp)⟩
  have e : ((statesL ts).map plOf).foldl (circStep ts (tabE ts).1 win) ([], 1000) = circP ts (tabE ts).1 win ((statesL ts).map plOf) := rfl
  rw [e, List.nil_append] at h
  obtain ⟨c, hc⟩ : ∃ c, c = circP ts (tabE ts).1 win ((statesL ts).map plOf) := ⟨_, rfl⟩
  rw [← hc] at h ⊢
  clear hc e
  have hall : ∀ q row, Cyc ts q row → c.2 < (row.length : Int) := fun q row hq => by
    obtain ⟨x, row', h1, h2, h3⟩ := hq.begin hv hw.1
    rw [← h3]
    exact h.all x ((nice_mem hv).2 h1.nice) (by omega) row' h1
  obtain ⟨p0, row0, h0, hl0⟩ := safe_cyc hv (nice_empty hv) hd
  rcases h.own with ⟨h1, h2⟩ | ⟨h1, p, hp⟩
  · have := hall p0 row0 h0
    omega
  · refine ⟨p, hp, by have := h.lim; have := hall p0 row0 h0; omega, fun q row hq => ?_⟩
    have := hall q row hq
    omega
theorem circ_none {ts : List Int} (hv : Valid ts) (hd : emptyP ts ∈ dq ts) {p : Pl} {row : List Int} (h : Cyc ts p row) : False :=
  h.safe hv (dq_up hv hd h.nice (empty_le h.nice))
theorem win_exists : ∀ (ts : List Int), ts ≠ [] → ∃ k, IsWin ts k
  | [], h => absurd rfl h
  | [t], _ => ⟨0, by simp, fun j hj => by simp at hj; subst hj; exact Int.le_refl _, fun j hj => by omega⟩
  | t :: u :: l, _ => by
    obtain ⟨k, h1, h2, h3⟩ := win_exists (u :: l) (by simp)
    by_cases h : (u :: l)[k]?.getD 0 ≤ t
    · refine ⟨0, by simp, fun j hj => ?_, fun j hj => by omega⟩
      cases j with
      | zero => exact Int.le_refl _
      | succ j =>
        have := h2 j (by simpa using hj)
        simp only [List.getElem?_cons_succ, List.getElem?_cons_zero, Option.getD_some]
        omega
    · refine ⟨k + 1, by simpa using h1, fun j hj => ?_, fun j hj => ?_⟩
      · cases j with
        | zero => simp only [List.getElem?_cons_succ, List.getElem?_cons_zero, Option.getD_some]; omega
        | succ j => simpa using h2 j (by simpa using hj)
      · cases j with
        | zero => simp only [List.getElem?_cons_succ, List.getElem?_cons_zero, Option.getD_some]; omega
        | succ j => simpa using h3 j (by omega)
end Go.Proofs.YthjgecblkagelaaGreat

/- Dense halls are doomed; thin ones are safe (pure part). -/
namespace Go.Proofs.YthjgecblkagelaaGreat
open Go.RowKit Go.Shelf

/-- The sum of 27,720 by Threads. -/
def sumD (ts : List Int) : Int := (ts.map fun t => (27720 : Int).tdiv t).foldl (· + ·) 0
theorem foldl_plus : ∀ (l : List Int) (a : Int), l.foldl (· + ·) a = a + l.foldl (· + ·) 0
  | [], a => by simp
  | x :: l, a => by
    rw [List.foldl_cons, List.foldl_cons, foldl_plus l (a + x), foldl_plus l (0 + x)]
    omega
theorem sumD_cons (t : Int) (ts : List Int) : sumD (t :: ts) = (27720 : Int).tdiv t + sumD ts := by
  unfold sumD
  rw [List.map_cons, List.foldl_cons, foldl_plus]
  omega
theorem sumD_snoc (ts : List Int) (t : Int) : sumD (ts ++ [t]) = sumD ts + (27720 : Int).tdiv t := by
  unfold sumD
  rw [List.map_append, List.foldl_append]
  rfl

/-! ### one window through a row -/
theorem sim_len (t wd : Int) : ∀ (row : List Int) (c r : Int), c ≤ t → simF t wd row c = some r → (row.length : Int) + c ≤ t * (row.count wd : Int) + r ∧ r ≤ t ∨ t < 0
  | [], c, r, hc, h => by
    simp only [simF] at h
    cases h
    simp
    omega
  | i :: l, c, r, hc, h => by
    by_cases ht : t < 0
    · exact .inr ht
    rw [simF] at h
    split at h
    · cases h
    · rename_i hne
      by_cases hi : i = wd
      · rw [if_pos hi] at h
        rcases sim_len t wd l 0 r (by omega) h with ⟨h1, h2⟩ | h1
        · left
          rw [hi, List.count_cons_self, List.length_cons]
          have e : t * ((l.count wd + 1 : Nat) : Int) = t * (l.count wd : Int) + t := by rw [Int.natCast_add, Int.mul_add]; simp
          rw [e]
          exact ⟨by omega, h2⟩
        · exact .inr h1
      · rw [if_neg hi] at h
        rcases sim_len t wd l (c + 1) r (by omega) h with ⟨h1, h2⟩ | h1
        · left
          rw [List.count_cons_of_ne hi, List.length_cons]
          exact ⟨by omega, h2⟩
        · exact .inr h1
/-- From a safe place there are rows of any length. -/
theorem safe_rows {ts : List Int} (hv : Valid ts) : ∀ (k : Nat) (p : Pl), Nice ts p → p ∉ dq ts → ∃ row q, Wins ts row ∧ row.length = k ∧ playL ts row p = some q
  | 0, p, _, _ => ⟨[], p, fun _ h => (by cases h), rfl, rfl⟩
  | k + 1, p, hp, hd => by
    obtain ⟨y, hy, hyd⟩ := dq_out hv hp hd
    have hyn : Nice ts y.2 := ((visits_mem hv.h5).1 hy).nice hv hp
    obtain ⟨row, q, h1, h2, h3⟩ := safe_rows hv k y.2 hyn hyd
    have hlt := visit_fst hy
    refine ⟨(y.1 : Int) :: row, q, fun i hi => ?_, by rw [List.length_cons, h2], ?_⟩
    · rcases List.mem_cons.1 hi with rfl | hi
      · omega
      · exact h1 i hi
    · rw [play_go (show (y.1, y.2) ∈ visitsF ts p from hy)]
      exact h3
def countsN (n : Nat) (row : List Int) : Nat := ((List.range n).map fun i : Nat => row.count (i : Int)).sum
theorem counts_nil (n : Nat) : countsN n [] = 0 := by
  unfold countsN
  induction n with
  | zero => rfl
  | succ n ih => rw [List.range_succ, List.map_append, List.sum_append, ih]; simp
theorem counts_cons (n : Nat) (x : Int) (row : List Int) (hx : 0 ≤ x ∧ x < n) : countsN n (x :: row) = countsN n row + 1 := by
  have key : ∀ m : Nat, countsN m (x :: row) = countsN m row + (if 0 ≤ x ∧ x < m then 1 else 0) := by
    intro m
    induction m with
    | zero => rw [if_neg (by omega)]; rfl
    | succ m ih =>
      unfold countsN at ih ⊢
      rw [List.range_succ, List.map_append, List.sum_append, List.map_append, List.sum_append, ih]
      simp only [List.map_cons, List.map_nil, List.sum_cons, List.sum_nil]
      by_cases h : x = (m : Int)
      · rw [h, List.count_cons_self, if_neg (by omega), if_pos (by omega)]
        omega
      · rw [List.count_cons_of_ne h]
        by_cases h2 : 0 ≤ x ∧ x < m
        · rw [if_pos h2, if_pos (by omega)]; omega
        · rw [if_neg h2, if_neg (by omega)]; omega
  rw [key n, if_pos hx]
theorem counts_len {n : Nat} : ∀ (row : List Int), (∀ i ∈ row, 0 ≤ i ∧ i < (n : Int)) → countsN n row = row.length
  | [], _ => counts_nil n
  | x :: row, h => by
    rw [counts_cons n x row (h x (by simp)), counts_len row (fun i hi => h i (by simp [hi])), List.length_cons]
theorem divides_all {t : Int} (h : 1 ≤ t ∧ t ≤ 12) : t * (27720 : Int).tdiv t = 27720 := by
  have : t = 1 ∨ t = 2 ∨ t = 3 ∨ t = 4 ∨ t = 5 ∨ t = 6 ∨ t = 7 ∨ t = 8 ∨ t = 9 ∨ t = 10 ∨ t = 11 ∨ t = 12 := by omega
  rcases this with rfl | rfl | rfl | rfl | rfl | rfl | rfl | rfl | rfl | rfl | rfl | rfl <;> decide
/-- If the sum is above 1 by 1, all places are doomed. -/
theorem dense_doomed {ts : List Int} (hv : Valid ts) (hs : 27720 < sumD ts) {p : Pl} (hp : Nice ts p) : p ∈ dq ts := by
  refine Classical.byContradiction fun hd => ?_
  obtain ⟨row, q, hw, hl, hq⟩ := safe_rows hv (6 * 27720) p hp hd
  have hlen := counts_len (n := ts.length) row hw
  have hcoord : ∀ j : Nat, j < ts.length → 6 * (27720 : Int).tdiv (ts[j]?.getD 0) ≤ (row.count (j : Int) : Int) + 1 := by
    intro j hj
    have h12 := hv.h12 j hj
    rcases play_coord hv row p (fun i hi => hw i hi) with ⟨q', h1, -, h3, -⟩ | ⟨h1, -⟩
    · have hb := hp.1.1 j hj
      rcases sim_len _ _ row (p.get j) _ hb.2 (h3 j hj) with ⟨h4, h5⟩ | h4
      · generalize ts[j]?.getD 0 = t at *
        have hdv := divides_all h12
        generalize (27720 : Int).tdiv t = x at *
        generalize (row.count (j : Int) : Int) = c at *
        rw [hl] at h4
        have h6 : t * (6 * x) ≤ t * (c + 1) := by
          have e1 : t * (6 * x) = 6 * (t * x) := by rw [← Int.mul_assoc, Int.mul_comm t 6, Int.mul_assoc]
          have e2 : t * (c + 1) = t * c + t := by rw [Int.mul_add]; simp
          rw [e1, e2, hdv]
          omega
        exact Int.le_of_mul_le_mul_left h6 (by omega)
      · omega
    · rw [hq] at h1; cases h1
  have hsum : ∀ m : Nat, m ≤ ts.length → 6 * sumD (ts.take m) ≤ (countsN m row : Int) + (m : Int) := by
    intro m
    induction m with
    | zero => intro _; simp [sumD, countsN]
    | succ m ih =>
      intro hm
      have h1 := ih (by omega)
      have h2 := hcoord m (by omega)
      rw [take_snoc_int ts m (by omega), sumD_snoc]
      unfold countsN at h1 ⊢
      rw [List.range_succ, List.map_append, List.sum_append]
      simp only [List.map_cons, List.map_nil, List.sum_cons, List.sum_nil]
      omega
  have := hsum ts.length (Nat.le_refl _)
  rw [List.take_length, hlen, hl] at this
  have := hv.h5
  omega

/-! ### thin halls -/
theorem least_safe {h row : List Int} (hc : checkHallF h = 0) (hne : row ≠ []) (hw : Wins h row) (hk : circleF h row = true) : statedF h (List.replicate h.length (0 : Int)) = 0 ∧ plOf (List.replicate h.length (0 : Int)) ∉ dq h := by
  have hv := valid_of hc
  obtain ⟨p, hp⟩ := (circle_iff hv hne hw).1 hk
  have hd := hp.safe hv
  have he : plOf (List.replicate h.length (0 : Int)) = emptyP h := by
    have : ∀ i : Nat, ((List.replicate h.length (0 : Int))[i]?).getD 0 = 0 := fun i => by rw [List.getElem?_replicate]; split <;> rfl
    unfold plOf emptyP
    simp only [this, List.length_replicate]
  refine ⟨?_, fun h2 => hd ?_⟩
  · unfold statedF
    rw [if_neg (by rw [hc]; simp), if_neg (by simp), if_pos (stateOk_true fun i hi => ?_)]
    have := hv.h12 i hi
    rw [List.getElem?_replicate]
    split
    · simp; omega
    · simp; omega
  · rw [he] at h2
    exact dq_up hv h2 hp.nice (empty_le hp.nice)
theorem least_wide {h ts row : List Int} (hc : checkHallF h = 0) (hne : row ≠ []) (hw : Wins h row) (hk : circleF h row = true) (hct : checkHallF ts = 0) (hl : ts.length = h.length) (hle : ∀ i, i < h.length → h[i]?.getD 0 ≤ ts[i]?.getD 0) : emptyP ts ∉ dq ts := by
  obtain ⟨h1, h2⟩ := least_safe hc hne hw hk
  have h3 := (kept_wide h1 h2 hct hl hle).2
  have he : plOf (List.replicate h.length (0 : Int)) = emptyP ts := by
    have : ∀ i : Nat, ((List.replicate h.length (0 : Int))[i]?).getD 0 = 0 := fun i => by rw [List.getElem?_replicate]; split <;> rfl
    unfold plOf emptyP
    simp only [this, List.length_replicate, hl]
  rwa [he] at h3
theorem hall1 : checkHallF [2] = 0 ∧ circleF [2] [0] = true := by constructor <;> kernel_rfl
theorem hall2 : checkHallF [2, 2] = 0 ∧ circleF [2, 2] [0, 1] = true := by constructor <;> kernel_rfl
theorem hall3 : checkHallF [3, 3, 3] = 0 ∧ circleF [3, 3, 3] [0, 1, 2] = true := by constructor <;> kernel_rfl
theorem hall3a : checkHallF [2, 4, 4] = 0 ∧ circleF [2, 4, 4] [0, 1, 0, 2] = true := by constructor <;> kernel_rfl
theorem hall3b : checkHallF [4, 2, 4] = 0 ∧ circleF [4, 2, 4] [1, 0, 1, 2] = true := by constructor <;> kernel_rfl
theorem hall3c : checkHallF [4, 4, 2] = 0 ∧ circleF [4, 4, 2] [2, 0, 2, 1] = true := by constructor <;> kernel_rfl
/-- What thin halls of at most three windows have. -/
def thinOk1 : Bool := (List.range 13).all fun a => a == 0 || !decide (6 * (27720 : Int).tdiv (a : Int) ≤ 138600) || decide (2 ≤ a)
def thinOk2 : Bool := (List.range 13).all fun a => (List.range 13).all fun b => a == 0 || b == 0 || !decide (6 * ((27720 : Int).tdiv (a : Int) + (27720 : Int).tdiv (b : Int)) ≤ 138600) || (decide (2 ≤ a) && decide (2 ≤ b))
def thinOk3 : Bool := (List.range 13).all fun a => (List.range 13).all fun b => (List.range 13).all fun c => a == 0 || b == 0 || c == 0 || !decide (6 * ((27720 : Int).tdiv (a : Int) + ((27720 : Int).tdiv (b : Int) + (27720 : Int).tdiv (c : Int))) ≤ 138600) ||
  (decide (3 ≤ a) && decide (3 ≤ b) && decide (3 ≤ c)) || (decide (2 ≤ a) && decide (4 ≤ b) && decide (4 ≤ c)) || (decide (4 ≤ a) && decide (2 ≤ b) && decide (4 ≤ c)) || (decide (4 ≤ a) && decide (4 ≤ b) && decide (2 ≤ c))
def thinOk4 : Bool := (List.range 13).all fun a => (List.range 13).all fun b => (List.range 13).all fun c => (List.range 13).all fun d => a == 0 || b == 0 || c == 0 || d == 0 || decide (1000 < (a + 1) * (b + 1) * (c + 1) * (d + 1)) ||
  !decide (6 * ((27720 : Int).tdiv (a : Int) + ((27720 : Int).tdiv (b : Int) + ((27720 : Int).tdiv (c : Int) + (27720 : Int).tdiv (d : Int)))) ≤ 138600)
theorem thinOk1_true : thinOk1 = true := by kernel_rfl
theorem thinOk2_true : thinOk2 = true := by kernel_rfl
theorem thinOk3_true : thinOk3 = true := by kernel_rfl
theorem thinOk4_true : thinOk4 = true := by kernel_rfl
theorem nat_of {t : Int} (h : 1 ≤ t ∧ t ≤ 12) : ∃ a : Nat, t = (a : Int) ∧ 1 ≤ a ∧ a < 13 := ⟨t.toNat, by omega, by omega, by omega⟩
theorem div_nonneg {t : Int} (h : 1 ≤ t ∧ t ≤ 12) : 0 ≤ (27720 : Int).tdiv t := Int.tdiv_nonneg (by omega) (by omega)
theorem four_big {a b c d : Int} (ha : 1 ≤ a ∧ a ≤ 12) (hb : 1 ≤ b ∧ b ≤ 12) (hc : 1 ≤ c ∧ c ≤ 12) (hd : 1 ≤ d ∧ d ≤ 12)
    (hs : 6 * ((27720 : Int).tdiv a + ((27720 : Int).tdiv b + ((27720 : Int).tdiv c + (27720 : Int).tdiv d))) ≤ 138600) : 1000 < (a + 1) * (b + 1) * (c + 1) * (d + 1) := by
  obtain ⟨a, rfl, ha1, ha2⟩ := nat_of ha
  obtain ⟨b, rfl, hb1, hb2⟩ := nat_of hb
  obtain ⟨c, rfl, hc1, hc2⟩ := nat_of hc
  obtain ⟨d, rfl, hd1, hd2⟩ := nat_of hd
  have key := thinOk4_true
  unfold thinOk4 at key
  have key := (List.all_eq_true.1 key) a (List.mem_range.2 ha2)
  have key := (List.all_eq_true.1 key) b (List.mem_range.2 hb2)
  have key := (List.all_eq_true.1 key) c (List.mem_range.2 hc2)
  have key := (List.all_eq_true.1 key) d (List.mem_range.2 hd2)
  simp only [Bool.or_eq_true, beq_iff_eq, decide_eq_true_iff, Bool.not_eq_true', decide_eq_false_iff_not] at key
  rcases key with ((((h | h) | h) | h) | h) | h
  · omega
  · omega
  · omega
  · omega
  · have h' := Int.ofNat_lt.2 h
    rw [Int.natCast_mul, Int.natCast_mul, Int.natCast_mul] at h'
    simp only [Int.natCast_add, Int.natCast_one] at h'
    exact h'
  · exact absurd hs h
theorem thin_safe {ts : List Int} (hct : checkHallF ts = 0) (hs : 6 * sumD ts ≤ 138600) : emptyP ts ∉ dq ts := by
  have hv := valid_of hct
  have h12 := hv.h12
  have hprod := hv.prod
  have h1 := hv.h1
  have h5 := hv.h5
  match ts, hct, hs, h12, hprod, h1, h5 with
  | [], _, _, _, _, h, _ => simp at h
  | [a], hct, hs, h12, _, _, _ =>
    have ha := h12 0 (by simp)
    simp only [List.getElem?_cons_zero, Option.getD_some] at ha
    rw [sumD_cons] at hs
    simp only [sumD, List.map_nil, List.foldl_nil, Int.add_zero] at hs
    obtain ⟨a, rfl, ha1, ha2⟩ := nat_of ha
    have key := thinOk1_true
    unfold thinOk1 at key
    have key := (List.all_eq_true.1 key) a (List.mem_range.2 ha2)
    simp only [Bool.or_eq_true, beq_iff_eq, decide_eq_true_iff, Bool.not_eq_true', decide_eq_false_iff_not] at key
    have h2 : 2 ≤ a := by
      rcases key with (h | h) | h
      · omega
      · exact absurd hs h
      · exact h
    refine least_wide hall1.1 (by simp) (by intro i hi; simp at hi; subst hi; simp) hall1.2 hct rfl fun i hi => ?_
    have : i = 0 := by simp at hi; omega
    subst this
    simp; omega
  | [a, b], hct, hs, h12, _, _, _ =>
    have ha := h12 0 (by simp)
    have hb := h12 1 (by simp)
    simp at ha hb
    rw [sumD_cons, sumD_cons] at hs
    simp only [sumD, List.map_nil, List.foldl_nil, Int.add_zero] at hs
    obtain ⟨a, rfl, ha1, ha2⟩ := nat_of ha
    obtain ⟨b, rfl, hb1, hb2⟩ := nat_of hb
    have key := thinOk2_true
    unfold thinOk2 at key
    have key := (List.all_eq_true.1 key) a (List.mem_range.2 ha2)
    have key := (List.all_eq_true.1 key) b (List.mem_range.2 hb2)
    simp only [Bool.or_eq_true, Bool.and_eq_true, beq_iff_eq, decide_eq_true_iff, Bool.not_eq_true', decide_eq_false_iff_not] at key
    have h2 : 2 ≤ a ∧ 2 ≤ b := by
      rcases key with ((h | h) | h) | h
      · omega
      · omega
      · exact absurd hs h
      · exact h
    refine least_wide hall2.1 (by simp) (by intro i hi; simp at hi; rcases hi with rfl | rfl <;> simp) hall2.2 hct rfl fun i hi => ?_
    have : i = 0 ∨ i = 1 := by simp at hi; omega
    rcases this with rfl | rfl
    · simp; omega
    · simp; omega
  | [a, b, c], hct, hs, h12, _, _, _ =>
    have ha := h12 0 (by simp)
    have hb := h12 1 (by simp)
    have hc := h12 2 (by simp)
    simp at ha hb hc
    rw [sumD_cons, sumD_cons, sumD_cons] at hs
    simp only [sumD, List.map_nil, List.foldl_nil, Int.add_zero] at hs
    obtain ⟨a, rfl, ha1, ha2⟩ := nat_of ha
    obtain ⟨b, rfl, hb1, hb2⟩ := nat_of hb
    obtain ⟨c, rfl, hc1, hc2⟩ := nat_of hc
    have key := thinOk3_true
    unfold thinOk3 at key
    have key := (List.all_eq_true.1 key) a (List.mem_range.2 ha2)
    have key := (List.all_eq_true.1 key) b (List.mem_range.2 hb2)
    have key := (List.all_eq_true.1 key) c (List.mem_range.2 hc2)
    simp only [Bool.or_eq_true, Bool.and_eq_true, beq_iff_eq, decide_eq_true_iff, Bool.not_eq_true', decide_eq_false_iff_not] at key
    have hidx : ∀ i, i < 3 → i = 0 ∨ i = 1 ∨ i = 2 := fun i hi => by omega
    have hwin : ∀ (h : List Int) (r : List Int), h.length = 3 → (∀ x ∈ r, x = 0 ∨ x = 1 ∨ x = 2) → Wins h r := fun h r hl hr i hi => by
      have := hr i hi
      rw [hl]
      omega
    rcases key with ((((((h | h) | h) | h) | h) | h) | h) | h
    · omega
    · omega
    · omega
    · exact absurd hs h
    · refine least_wide hall3.1 (by simp) (hwin _ _ rfl (by simp)) hall3.2 hct rfl fun i hi => ?_
      rcases hidx i hi with rfl | rfl | rfl <;> simp <;> omega
    · refine least_wide hall3a.1 (by simp) (hwin _ _ rfl (by simp)) hall3a.2 hct rfl fun i hi => ?_
      rcases hidx i hi with rfl | rfl | rfl <;> simp <;> omega
    · refine least_wide hall3b.1 (by simp) (hwin _ _ rfl (by simp)) hall3b.2 hct rfl fun i hi => ?_
      rcases hidx i hi with rfl | rfl | rfl <;> simp <;> omega
    · refine least_wide hall3c.1 (by simp) (hwin _ _ rfl (by simp)) hall3c.2 hct rfl fun i hi => ?_
      rcases hidx i hi with rfl | rfl | rfl <;> simp <;> omega
  | [a, b, c, d], hct, hs, h12, hp, _, _ =>
    exfalso
    have ha := h12 0 (by simp)
    have hb := h12 1 (by simp)
    have hc := h12 2 (by simp)
    have hd := h12 3 (by simp)
    simp at ha hb hc hd
    rw [sumD_cons, sumD_cons, sumD_cons, sumD_cons] at hs
    simp only [sumD, List.map_nil, List.foldl_nil, Int.add_zero] at hs
    have := four_big ha hb hc hd hs
    simp only [prodF, List.foldl_cons, List.foldl_nil, Int.one_mul] at hp
    omega
  | [a, b, c, d, e], hct, hs, h12, hp, _, _ =>
    exfalso
    have ha := h12 0 (by simp)
    have hb := h12 1 (by simp)
    have hc := h12 2 (by simp)
    have hd := h12 3 (by simp)
    have he := h12 4 (by simp)
    simp at ha hb hc hd he
    rw [sumD_cons, sumD_cons, sumD_cons, sumD_cons, sumD_cons] at hs
    simp only [sumD, List.map_nil, List.foldl_nil, Int.add_zero] at hs
    have h0 := div_nonneg he
    have := four_big ha hb hc hd (by omega)
    simp only [prodF, List.foldl_cons, List.foldl_nil, Int.one_mul] at hp
    have h2 : (a + 1) * (b + 1) * (c + 1) * (d + 1) * 1 ≤ (a + 1) * (b + 1) * (c + 1) * (d + 1) * (e + 1) := Int.mul_le_mul_of_nonneg_left (by omega) (by omega)
    omega
  | _ :: _ :: _ :: _ :: _ :: _ :: _, _, _, _, _, _, h => simp at h

/-! ### how many are safe -/
theorem safe_few {ts : List Int} (hv : Valid ts) : (tabE ts).1.length ≤ (statesL ts).length := by
  have hnd : ((tabE ts).1.map (·.1)).Nodup := (dq_inv hv).keys
  have := List.Nodup.length_le_of_subset hnd (l₂ := allP ts) fun x hx => (nice_mem hv).2 ((safe_keys hv x).1 hx).1
  rw [List.length_map] at this
  unfold allP at this
  rwa [List.length_map] at this
theorem safe_some {ts : List Int} (hv : Valid ts) : 0 < (tabE ts).1.length ↔ emptyP ts ∉ dq ts := by
  constructor
  · intro h hd
    obtain ⟨x, hx⟩ := List.exists_mem_of_length_pos h
    have := (safe_keys hv x.1).1 (List.mem_map.2 ⟨x, hx, rfl⟩)
    exact this.2 (dq_up hv hd this.1 (empty_le this.1))
  · intro h
    have := (safe_keys hv (emptyP ts)).2 ⟨nice_empty hv, h⟩
    obtain ⟨x, hx, -⟩ := List.mem_map.1 this
    exact List.length_pos_of_mem hx
end Go.Proofs.YthjgecblkagelaaGreat

/- What is checked of circles (for a seat without Row). -/
namespace Go.Proofs.YthjgecblkagelaaGreat
open Go.RowKit Go.Shelf

theorem plOf_laid (ts : List Int) {n : Nat} (h : n = ts.length) : plOf (List.replicate n (0 : Int)) = emptyP ts := by
  subst h
  have : ∀ i : Nat, ((List.replicate ts.length (0 : Int))[i]?).getD 0 = 0 := fun i => by rw [List.getElem?_replicate]; split <;> rfl
  unfold plOf emptyP
  simp only [this, List.length_replicate]
theorem stated_zeros {ts : List Int} (hc : checkHallF ts = 0) {n : Nat} (h : n = ts.length) : statedF ts (List.replicate n (0 : Int)) = 0 := by
  have hv := valid_of hc
  unfold statedF
  rw [if_neg (by rw [hc]; simp), if_neg (by simp [h]), if_pos (stateOk_true fun i hi => ?_)]
  have := hv.h12 i hi
  rw [List.getElem?_replicate]
  split
  · simp; omega
  · simp; omega
theorem cc_ok {ts : List Int} (hc : checkHallF ts = 0) {p : Pl} {row : List Int} (h : Cyc ts p row) (hl : row.length ≤ 1000) : checkCircleF ts row = 0 := by
  have hv := valid_of hc
  have h0 := List.length_pos_iff.2 h.ne
  unfold checkCircleF
  rw [if_neg (by rw [hc]; simp), if_neg, if_neg, if_pos ((circle_iff hv h.ne h.wins).2 ⟨p, h⟩)]
  · rw [within_wins, wins_iff.2 h.wins]
    simp
  · unfold withinF
    simp
    omega
theorem cc_zero {ts : List Int} (hc : checkHallF ts = 0) {row : List Int} (h : checkCircleF ts row = 0) : ∃ p, Cyc ts p row := by
  have hv := valid_of hc
  unfold checkCircleF at h
  rw [if_neg (by rw [hc]; simp)] at h
  split at h
  · cases h
  · rename_i h1
    split at h
    · cases h
    · rename_i h2
      split at h
      · rename_i h3
        rw [within_wins] at h2
        refine (circle_iff hv ?_ (wins_iff.1 (by simpa using h2))).1 h3
        rintro rfl
        unfold withinF at h1
        simp at h1
      · cases h
theorem circle_safe {ts : List Int} (hc : checkHallF ts = 0) {win : Nat} (hd : emptyP ts ∉ dq ts) : circleR ts win = ((circP ts (tabE ts).1 win ((statesL ts).map plOf)).1, 0) := by
  have hv := valid_of hc
  unfold circleR
  rw [if_neg (by rw [hc]; simp), if_pos ((dq_safe hv (nice_empty hv)).2 hd)]
theorem circle_doomed {ts : List Int} (hc : checkHallF ts = 0) {win : Nat} (hd : emptyP ts ∈ dq ts) : circleR ts win = ([], 17) := by
  have hv := valid_of hc
  unfold circleR
  rw [if_neg (by rw [hc]; simp), if_neg (fun h => (dq_safe hv (nice_empty hv)).1 h hd)]
end Go.Proofs.YthjgecblkagelaaGreat
