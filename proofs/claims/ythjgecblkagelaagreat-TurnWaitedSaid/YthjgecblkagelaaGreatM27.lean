/- Parts of a proof: DA DB. -/
import Derived.Test.YthjgecblkagelaaGreatM26

/- Places of a valid hall, their visits, and those that lead to them. -/
namespace Go.Proofs.YthjgecblkagelaaGreat
open Go.RowKit Go.Shelf

theorem states_iff : ∀ {ts : List Int} (_ : ∀ t ∈ ts, 0 ≤ t) {ss : List Int}, ss ∈ statesL ts ↔ ss.length = ts.length ∧ ∀ i, i < ts.length → 0 ≤ ss[i]?.getD 0 ∧ ss[i]?.getD 0 ≤ ts[i]?.getD 0
  | [], _, ss => by
    constructor
    · intro h
      have : ss = [] := by simpa [statesL] using h
      subst this
      exact ⟨rfl, fun i hi => by simp at hi⟩
    · intro h
      have : ss = [] := List.eq_nil_of_length_eq_zero h.1
      subst this
      simp [statesL]
  | t :: ts, hn, ss => by
    have ih := fun {r} => states_iff (ts := ts) (fun x hx => hn x (List.mem_cons_of_mem _ hx)) (ss := r)
    have ht := hn t List.mem_cons_self
    rw [statesL, List.mem_flatMap]
    constructor
    · rintro ⟨d, hd, hr⟩
      have hd := List.mem_range.1 hd
      obtain ⟨r, hr2, rfl⟩ := List.mem_map.1 hr
      obtain ⟨h1, h2⟩ := ih.1 hr2
      refine ⟨by simp [h1], fun i hi => ?_⟩
      cases i with
      | zero => simp; omega
      | succ i => simpa using h2 i (by simpa using hi)
    · rintro ⟨h1, h2⟩
      cases ss with
      | nil => simp at h1
      | cons d r =>
        have h0 := h2 0 (by simp)
        simp only [List.getElem?_cons_zero, Option.getD_some] at h0
        refine ⟨d.toNat, List.mem_range.2 (by omega), List.mem_map.2 ⟨r, ih.2 ⟨by simpa using h1, fun i hi => ?_⟩, ?_⟩⟩
        · have := h2 (i + 1) (by simp; omega)
          simpa using this
        · rw [Int.toNat_of_nonneg h0.1]

def lexLt : List Int → List Int → Prop
  | a :: r, b :: s => a < b ∨ (a = b ∧ lexLt r s)
  | _, _ => False
theorem lexLt_irrefl : ∀ xs : List Int, ¬ lexLt xs xs
  | [] => fun h => h
  | x :: xs => fun h => by
    rcases h with h | h
    · omega
    · exact lexLt_irrefl xs h.2
theorem lexLt_asymm : ∀ xs ys : List Int, lexLt xs ys → ¬ lexLt ys xs
  | [], _, h, _ => h
  | _ :: _, [], h, _ => h
  | x :: xs, y :: ys, h, k => by
    rcases h with h | h <;> rcases k with k | k
    · omega
    · omega
    · omega
    · exact lexLt_asymm xs ys h.2 k.2
theorem lexLt_of : ∀ (xs ys : List Int) (i : Nat), xs.length = ys.length → i < xs.length → (∀ j, j < i → xs[j]?.getD 0 = ys[j]?.getD 0) → xs[i]?.getD 0 < ys[i]?.getD 0 → lexLt xs ys
  | [], _, i, _, hi, _, _ => by simp at hi
  | x :: xs, [], i, hl, _, _, _ => by simp at hl
  | x :: xs, y :: ys, 0, _, _, _, h => .inl (by simpa using h)
  | x :: xs, y :: ys, i + 1, hl, hi, he, h => by
    refine .inr ⟨by simpa using he 0 (by omega), lexLt_of xs ys i (by simpa using hl) (by simpa using hi) (fun j hj => by simpa using he (j + 1) (by omega)) (by simpa using h)⟩
theorem states_sorted : ∀ ts : List Int, (statesL ts).Pairwise lexLt
  | [] => by simp [statesL]
  | t :: ts => by
    rw [statesL, List.pairwise_flatMap]
    refine ⟨fun d _ => ?_, ?_⟩
    · rw [List.pairwise_map]
      exact (states_sorted ts).imp fun h => .inr ⟨rfl, h⟩
    · refine List.pairwise_lt_range.imp fun h x hx y hy => ?_
      obtain ⟨r, -, rfl⟩ := List.mem_map.1 hx
      obtain ⟨r', -, rfl⟩ := List.mem_map.1 hy
      exact .inl (by omega)

/-- A place as the tables hold them. -/
def Nice (ts : List Int) (p : Pl) : Prop := PlGood ts p ∧ ∀ i, ts.length ≤ i → p.get i = 0
def allP (ts : List Int) : List Pl := (statesL ts).map plOf
theorem nice_of {ts ss : List Int} (hv : Valid ts) (h : ss ∈ statesL ts) : Nice ts (plOf ss) := by
  obtain ⟨h1, h2⟩ := (states_iff hv.nonneg).1 h
  have h5 := hv.h5
  have hg := plOf_get ss (by omega)
  refine ⟨⟨fun i hi => by rw [hg]; exact h2 i hi, by show (ss.length : Int) = _; omega⟩, fun i hi => ?_⟩
  rw [hg, List.getElem?_eq_none (by omega)]
  rfl
theorem nice_ext {ts : List Int} {p q : Pl} (hp : Nice ts p) (hq : Nice ts q) (h : ∀ i, i < ts.length → p.get i = q.get i) : p = q := by
  refine pl_ext (by rw [hp.1.2, hq.1.2]) fun j => ?_
  by_cases hj : j < ts.length
  · exact h j hj
  · rw [hp.2 j (by omega), hq.2 j (by omega)]
theorem nice_list {ts : List Int} {p : Pl} (hv : Valid ts) (hp : Nice ts p) : plList p ∈ statesL ts ∧ plOf (plList p) = p := by
  have h5 := hv.h5
  have hl := plList_len hp.1.2 h5
  have hm : plList p ∈ statesL ts := (states_iff hv.nonneg).2 ⟨hl, fun i hi => by rw [plList_get hp.1.2 h5 i hi]; exact hp.1.1 i hi⟩
  refine ⟨hm, nice_ext (nice_of hv hm) hp fun i hi => ?_⟩
  rw [plOf_get _ (by omega), plList_get hp.1.2 h5 i hi]
theorem nice_mem {ts : List Int} {p : Pl} (hv : Valid ts) : p ∈ allP ts ↔ Nice ts p := by
  constructor
  · intro h
    obtain ⟨ss, hs, rfl⟩ := List.mem_map.1 h
    exact nice_of hv hs
  · intro h
    obtain ⟨h1, h2⟩ := nice_list hv h
    exact List.mem_map.2 ⟨_, h1, h2⟩
theorem nice_stated {ts ss : List Int} (h : statedF ts ss = 0) : Nice ts (plOf ss) := by
  obtain ⟨hv, hl, hg⟩ := stated_valid h
  refine ⟨hg, fun i hi => ?_⟩
  rw [plOf_get ss (by have := hv.h5; omega), List.getElem?_eq_none (by omega)]
  rfl
theorem allP_nodup {ts : List Int} (hv : Valid ts) : (allP ts).Nodup := by
  refine List.pairwise_map.2 ((states_sorted ts).imp_of_mem fun {a b} ha hb h e => ?_)
  have h5 := hv.h5
  have la := ((states_iff hv.nonneg).1 ha).1
  have lb := ((states_iff hv.nonneg).1 hb).1
  have : a = b := by rw [← plList_of (ss := a) (by omega), ← plList_of (ss := b) (by omega), e]
  subst this
  exact lexLt_irrefl _ h
theorem nodup_len {ts : List Int} (hv : Valid ts) {l : List Pl} (hn : l.Nodup) (hl : ∀ p ∈ l, Nice ts p) : l.length ≤ 1000 := by
  have := List.Nodup.length_le_of_subset hn (fun p hp => (nice_mem hv).2 (hl p hp))
  have h2 : (allP ts).length = (statesL ts).length := by simp [allP]
  have := hv.states
  omega

/-- Whoever pulls all. -/
theorem pull_all {ts : List Int} (h5 : ts.length ≤ 5) (p : Pl) :
    (∃ q, pullF ts allF p = some q ∧ q.n = p.n ∧ (∀ j, q.get j = if j < ts.length then p.get j + 1 else p.get j) ∧ ∀ i, i < ts.length → p.get i ≠ ts[i]?.getD 0) ∨
    (pullF ts allF p = none ∧ ∃ i, i < ts.length ∧ p.get i = ts[i]?.getD 0) := by
  have hnd : (List.finRange ts.length).Nodup := List.nodup_finRange _
  have hmem : ∀ j : Nat, j ∈ (List.finRange ts.length).map (·.1) ↔ j < ts.length := fun j => by
    constructor
    · intro h
      obtain ⟨x, -, rfl⟩ := List.mem_map.1 h
      exact x.2
    · exact fun h => List.mem_map.2 ⟨⟨j, h⟩, List.mem_finRange _, rfl⟩
  rcases pullL_spec ts allF h5 (List.finRange ts.length) p hnd with ⟨q, a1, a2, a3, a4⟩ | ⟨a1, i, -, -, a3⟩
  · refine .inl ⟨q, a1, a2, fun j => ?_, fun i hi => a4 ⟨i, hi⟩ (List.mem_finRange _) rfl⟩
    rw [a3 j]
    by_cases hj : j < ts.length
    · rw [if_pos ⟨rfl, (hmem j).2 hj⟩, if_pos hj]
    · rw [if_neg (fun h => hj ((hmem j).1 h.2)), if_neg hj]
  · exact .inr ⟨a1, i.1, i.2, a3⟩

/-- A visit. -/
structure Su (ts : List Int) (x : Pl) (i : Nat) (p : Pl) : Prop where
  lt : i < ts.length
  n : p.n = x.n
  free : ∀ j, j < ts.length → x.get j ≠ ts[j]?.getD 0
  zero : p.get i = 0
  more : ∀ j, j < ts.length → j ≠ i → p.get j = x.get j + 1
  same : ∀ j, ts.length ≤ j → p.get j = x.get j
theorem visits_mem {ts : List Int} (h5 : ts.length ≤ 5) {x : Pl} {y : Nat × Pl} : y ∈ visitsF ts x ↔ Su ts x y.1 y.2 := by
  obtain ⟨i, p⟩ := y
  unfold visitsF
  rcases pull_all h5 x with ⟨q, a1, a2, a3, a4⟩ | ⟨a1, k, hk, a2⟩
  · rw [a1]
    simp only [List.mem_map, List.mem_range, Prod.mk.injEq]
    constructor
    · rintro ⟨w, hw, rfl, rfl⟩
      refine ⟨hw, by rw [Pl.set_n, a2], a4, by rw [Pl.get_set _ _ _ _ (by omega), if_pos rfl], fun j hj hji => ?_, fun j hj => ?_⟩
      · rw [Pl.get_set _ _ _ _ (by omega), if_neg hji, a3 j, if_pos hj]
      · rw [Pl.get_set _ _ _ _ (by omega), if_neg (by omega), a3 j, if_neg (by omega)]
    · rintro ⟨s1, s2, s3, s4, s5, s6⟩
      refine ⟨i, s1, rfl, pl_ext (by rw [Pl.set_n, a2, s2]) fun j => ?_⟩
      rw [Pl.get_set _ _ _ _ (by omega), a3 j]
      by_cases hji : j = i
      · subst hji; rw [if_pos rfl, s4]
      · rw [if_neg hji]
        by_cases hj : j < ts.length
        · rw [if_pos hj, s5 j hj hji]
        · rw [if_neg hj, s6 j (by omega)]
  · rw [a1]
    constructor
    · intro h; cases h
    · intro h
      exact absurd a2 (h.free k hk)
theorem Su.nice {ts : List Int} (hv : Valid ts) {x p : Pl} {i : Nat} (hx : Nice ts x) (h : Su ts x i p) : Nice ts p := by
  refine ⟨⟨fun j hj => ?_, by rw [h.n]; exact hx.1.2⟩, fun j hj => by rw [h.same j hj]; exact hx.2 j hj⟩
  by_cases hji : j = i
  · subst hji
    have := hv.h12 j hj
    rw [h.zero]
    omega
  · have := hx.1.1 j hj
    have := h.free j hj
    rw [h.more j hj hji]
    omega
/-- A place is visited in one way alone. -/
theorem Su.one {ts : List Int} {x p : Pl} {i j : Nat} (hx : Nice ts x) (h : Su ts x i p) (k : Su ts x j p) : i = j := by
  by_cases hij : i = j
  · exact hij
  · have := k.more i h.lt hij
    have := h.zero
    have := hx.1.1 i h.lt
    omega
theorem visits_nodup {ts : List Int} (h5 : ts.length ≤ 5) {x : Pl} (hx : Nice ts x) : ((visitsF ts x).map (·.2)).Nodup := by
  have hnd : (visitsF ts x).Pairwise fun a b => a.1 ≠ b.1 := by
    unfold visitsF
    split
    · exact List.Pairwise.nil
    · refine List.pairwise_map.2 (List.pairwise_lt_range.imp fun h => ?_)
      simp only
      omega
  refine List.pairwise_map.2 (hnd.imp_of_mem fun {a b} ha hb h e => h ?_)
  have ha := (visits_mem h5).1 ha
  have hb := (visits_mem h5).1 hb
  rw [← e] at hb
  exact ha.one hx hb
theorem visits_none {ts : List Int} {x : Pl} (h : pullF ts allF x = none) : visitsF ts x = [] := by
  unfold visitsF
  rw [h]

theorem unpull_zero {v : Nat} {p q : Pl} : ∀ k : Nat, k ≤ 5 → unpullL v (List.range k) p = some q → v < k → p.get v = 0
  | 0, _, _, h => by omega
  | k + 1, hk, h, hv => by
    rw [unpullL_succ] at h
    cases hq : unpullL v (List.range k) p with
    | none => rw [hq] at h; cases h
    | some r =>
      rw [hq] at h
      by_cases hkv : k = v
      · subst hkv
        by_cases h0 : r.get k = 0
        · rw [← ((unpullL_ok k r (by omega) hq).2 k (by omega)).2 (by omega)]
          exact h0
        · rw [us_stop h0] at h; cases h
      · exact unpull_zero k (by omega) hq (by omega)
theorem unpull_some {v : Nat} {p : Pl} : ∀ k : Nat, k ≤ 5 → (∀ j, j < k → j ≠ v → p.get j ≠ 0) → (v < k → p.get v = 0) → ∃ q, unpullL v (List.range k) p = some q
  | 0, _, _, _ => ⟨p, by simp [unpullL]⟩
  | k + 1, hk, h, hv => by
    obtain ⟨r, hr⟩ := unpull_some (v := v) (p := p) k (by omega) (fun j hj hjv => h j (by omega) hjv) (fun h => hv (by omega))
    rw [unpullL_succ, hr]
    have hg := ((unpullL_ok k r (by omega) hr).2 k (by omega)).2 (by omega)
    by_cases hkv : k = v
    · subst hkv
      exact ⟨r, us_same (by rw [hg]; exact hv (by omega))⟩
    · exact ⟨_, us_step hkv (by rw [hg]; exact h k (by omega) hkv)⟩
theorem beforeL_mem {ts : List Int} (hv : Valid ts) {p x : Pl} {i : Nat} (hp : Nice ts p) (hi : i < ts.length) : x ∈ beforeL ts p i ↔ Nice ts x ∧ Su ts x i p := by
  have h5 := hv.h5
  have hn : p.n.toNat = ts.length := by rw [hp.1.2]; simp
  unfold beforeL unpullF
  rw [hn]
  constructor
  · intro h
    cases hq : unpullL i (List.range ts.length) p with
    | none => rw [hq] at h; cases h
    | some q =>
      rw [hq] at h
      obtain ⟨c, hc, rfl⟩ := List.mem_map.1 h
      have hc := List.mem_range.1 hc
      obtain ⟨u1, u2⟩ := unpullL_ok ts.length q h5 hq
      have hz := unpull_zero ts.length h5 hq hi
      have hget : ∀ j, (q.set i (c : Int)).get j = if j = i then (c : Int) else q.get j := fun j => Pl.get_set _ _ _ _ (by omega)
      have hbig : ∀ j, ts.length ≤ j → q.get j = p.get j := fun j hj => by
        by_cases hj5 : j < 5
        · exact (u2 j hj5).2 (by omega)
        · match j, hj5 with
          | j + 5, _ => rfl
      have hNice : Nice ts (q.set i (c : Int)) := by
        refine ⟨⟨fun j hj => ?_, by rw [Pl.set_n, u1]; exact hp.1.2⟩, fun j hj => ?_⟩
        · rw [hget j]
          by_cases hji : j = i
          · subst hji; rw [if_pos rfl]; omega
          · rw [if_neg hji]
            obtain ⟨g1, g2⟩ := (u2 j (by omega)).1 ⟨hj, hji⟩
            have := hp.1.1 j hj
            omega
        · rw [hget j, if_neg (by omega), hbig j hj]
          exact hp.2 j hj
      refine ⟨hNice, hi, by rw [Pl.set_n, u1], fun j hj => ?_, hz, fun j hj hji => ?_, fun j hj => ?_⟩
      · rw [hget j]
        by_cases hji : j = i
        · subst hji; rw [if_pos rfl]; omega
        · rw [if_neg hji]
          obtain ⟨g1, g2⟩ := (u2 j (by omega)).1 ⟨hj, hji⟩
          have := hp.1.1 j hj
          omega
      · rw [hget j, if_neg hji, ((u2 j (by omega)).1 ⟨hj, hji⟩).2]
        omega
      · rw [hget j, if_neg (by omega), hbig j hj]
  · rintro ⟨hx, hs⟩
    obtain ⟨q, hq⟩ := unpull_some (v := i) (p := p) ts.length h5 (fun j hj hji => by have := hs.more j hj hji; have := hx.1.1 j hj; omega) (fun _ => hs.zero)
    rw [hq]
    obtain ⟨u1, u2⟩ := unpullL_ok ts.length q h5 hq
    have hxi := hx.1.1 i hi
    have := hs.free i hi
    refine List.mem_map.2 ⟨(x.get i).toNat, List.mem_range.2 (by omega), pl_ext (by rw [Pl.set_n, u1, hs.n]) fun j => ?_⟩
    rw [Pl.get_set _ _ _ _ (by omega)]
    by_cases hji : j = i
    · subst hji; rw [if_pos rfl]; omega
    · rw [if_neg hji]
      by_cases hj : j < ts.length
      · rw [((u2 j (by omega)).1 ⟨hj, hji⟩).2, hs.more j hj hji]
        omega
      · by_cases hj5 : j < 5
        · rw [(u2 j hj5).2 (by omega), hs.same j (by omega)]
        · match j, hj5 with
          | j + 5, _ => rfl
theorem before_mem {ts : List Int} (hv : Valid ts) {p x : Pl} (hp : Nice ts p) : x ∈ beforeF ts p ↔ Nice ts x ∧ ∃ i, Su ts x i p := by
  unfold beforeF
  rw [List.mem_flatMap]
  constructor
  · rintro ⟨i, hi, h⟩
    obtain ⟨h1, h2⟩ := (beforeL_mem hv hp (List.mem_range.1 hi)).1 h
    exact ⟨h1, i, h2⟩
  · rintro ⟨h1, i, h2⟩
    exact ⟨i, List.mem_range.2 h2.lt, (beforeL_mem hv hp h2.lt).2 ⟨h1, h2⟩⟩
theorem before_nodup {ts : List Int} (hv : Valid ts) {p : Pl} (hp : Nice ts p) : (beforeF ts p).Nodup := by
  have h5 := hv.h5
  unfold beforeF
  refine List.pairwise_flatMap.2 ⟨fun i hi => ?_, ?_⟩
  · have hi := List.mem_range.1 hi
    unfold beforeL
    split
    · exact List.Pairwise.nil
    · rename_i q hq
      refine List.pairwise_map.2 (List.pairwise_lt_range.imp fun {a b} h e => ?_)
      have := congrArg (fun z => z.get i) e
      simp only [Pl.get_set _ _ _ _ (show i < 5 by omega), if_pos] at this
      omega
  · refine List.pairwise_lt_range.imp_of_mem fun {i j} hi hj h x hx y hy e => ?_
    obtain ⟨h1, h2⟩ := (beforeL_mem hv hp (List.mem_range.1 hi)).1 hx
    obtain ⟨k1, k2⟩ := (beforeL_mem hv hp (List.mem_range.1 hj)).1 hy
    subst e
    have := h2.one h1 k2
    omega
end Go.Proofs.YthjgecblkagelaaGreat

/- The table of a valid hall: it ends, and holds which states are doomed, and how long they last. -/
namespace Go.Proofs.YthjgecblkagelaaGreat
open Go.RowKit Go.Shelf

def Keys {α : Type} (m : List (Pl × α)) : Prop := (m.map (·.1)).Nodup
theorem mset_keys_mem {α : Type} (p : Pl) (v : α) : ∀ (m : List (Pl × α)) (k : Pl), k ∈ (mset p v m).map (·.1) ↔ k = p ∨ k ∈ m.map (·.1)
  | [], k => by simp [mset]
  | x :: m, k => by
    unfold mset
    by_cases h : p = x.1
    · rw [if_pos h]
      simp only [List.map_cons, List.mem_cons]
      exact ⟨fun h => .inr h, fun h' => h'.elim (fun e => .inl (e.trans h)) id⟩
    · rw [if_neg h]
      simp only [List.map_cons, List.mem_cons, mset_keys_mem p v m k]
      constructor
      · rintro (h | h | h)
        · exact .inr (.inl h)
        · exact .inl h
        · exact .inr (.inr h)
      · rintro (h | h | h)
        · exact .inr (.inl h)
        · exact .inl h
        · exact .inr (.inr h)
theorem Keys.mset {α : Type} (p : Pl) (v : α) : ∀ {m : List (Pl × α)}, Keys m → Keys (mset p v m)
  | [], _ => by simp [Keys, Go.Proofs.YthjgecblkagelaaGreat.mset]
  | x :: m, h => by
    unfold Keys at h ⊢
    unfold Go.Proofs.YthjgecblkagelaaGreat.mset
    by_cases hp : p = x.1
    · rw [if_pos hp]
      exact h
    · rw [if_neg hp]
      obtain ⟨h1, h2⟩ := List.nodup_cons.1 h
      refine List.nodup_cons.2 ⟨fun hm => ?_, Keys.mset p v h2⟩
      rcases (mset_keys_mem p v m x.1).1 hm with e | e
      · exact hp e.symm
      · exact h1 e
theorem mdel_sub {α : Type} (p : Pl) : ∀ m : List (Pl × α), List.Sublist (mdel p m) m
  | [] => List.Sublist.refl _
  | x :: m => by
    unfold mdel
    split
    · exact List.sublist_cons_self x m
    · exact (mdel_sub p m).cons_cons x
theorem Keys.mdel {α : Type} (p : Pl) {m : List (Pl × α)} (h : Keys m) : Keys (mdel p m) := List.Sublist.nodup ((mdel_sub p m).map _) h
theorem mget_absent {α : Type} (z : α) (p : Pl) : ∀ {m : List (Pl × α)}, p ∉ m.map (·.1) → mget z m p = z
  | [], _ => rfl
  | x :: m, h => by
    rw [mget_cons, if_neg (fun e => h (by simp [e])), mget_absent z p (fun hm => h (by simp only [List.map_cons, List.mem_cons]; exact .inr hm))]
theorem mget_mdel {α : Type} (z : α) (p k : Pl) : ∀ {m : List (Pl × α)}, Keys m → mget z (mdel p m) k = if k = p then z else mget z m k
  | [], _ => by simp [mdel, mget_nil]
  | x :: m, h => by
    obtain ⟨h1, h2⟩ := List.nodup_cons.1 h
    unfold mdel
    by_cases hp : p = x.1
    · rw [if_pos hp]
      by_cases hk : k = p
      · rw [if_pos hk, hk, hp]
        exact mget_absent z _ h1
      · rw [if_neg hk, mget_cons, if_neg (fun e => hk (e.trans hp.symm))]
    · rw [if_neg hp, mget_cons, mget_mdel z p k h2, mget_cons]
      by_cases hk : k = x.1
      · rw [if_pos hk, if_pos hk, if_neg (fun e => hp (e.symm.trans hk))]
      · rw [if_neg hk, if_neg hk]

/-- How many visits lead elsewhere than to these. -/
def rem (ts : List Int) (x : Pl) (S : List Pl) : Nat := ((visitsF ts x).filter fun y => decide (y.2 ∉ S)).length
theorem filter_more (S : List Pl) (p : Pl) (hp : p ∉ S) : ∀ l : List (Nat × Pl), (l.map (·.2)).Nodup →
    (l.filter fun y => decide (y.2 ∉ S)).length = (l.filter fun y => decide (y.2 ∉ S ++ [p])).length + (if p ∈ l.map (·.2) then 1 else 0)
  | [], _ => by simp
  | y :: l, h => by
    obtain ⟨h1, h2⟩ := List.nodup_cons.1 h
    have ih := filter_more S p hp l h2
    by_cases hy : y.2 = p
    · rw [List.filter_cons_of_pos (by simpa [hy] using hp), List.filter_cons_of_neg (by simp [hy]), List.length_cons, ih, if_neg (by rw [← hy]; exact h1), if_pos (by simp [hy])]
    · have hin : (p ∈ (y :: l).map (·.2)) ↔ p ∈ l.map (·.2) := by simp [show ¬ p = y.2 from fun e => hy e.symm]
      by_cases hS : y.2 ∈ S
      · rw [List.filter_cons_of_neg (by simp [hS]), List.filter_cons_of_neg (by simp [hS]), ih]
        by_cases hpl : p ∈ l.map (·.2)
        · rw [if_pos hpl, if_pos (hin.2 hpl)]
        · rw [if_neg hpl, if_neg (fun h => hpl (hin.1 h))]
      · rw [List.filter_cons_of_pos (by simp [hS]), List.filter_cons_of_pos (by simp [hS, hy]), List.length_cons, List.length_cons, ih]
        by_cases hpl : p ∈ l.map (·.2)
        · rw [if_pos hpl, if_pos (hin.2 hpl)]
        · rw [if_neg hpl, if_neg (fun h => hpl (hin.1 h))]
theorem rem_more {ts : List Int} (h5 : ts.length ≤ 5) {x p : Pl} {S : List Pl} (hx : Nice ts x) (hp : p ∉ S) : rem ts x S = rem ts x (S ++ [p]) + (if p ∈ (visitsF ts x).map (·.2) then 1 else 0) :=
  filter_more S p hp _ (visits_nodup h5 hx)
theorem rem_zero {ts : List Int} {x : Pl} {S : List Pl} (h : rem ts x S = 0) : ∀ y ∈ visitsF ts x, y.2 ∈ S := by
  intro y hy
  unfold rem at h
  have := List.eq_nil_of_length_eq_zero h
  rw [List.filter_eq_nil_iff] at this
  have := this y hy
  simpa using this
theorem rem_pos {ts : List Int} {x : Pl} {S : List Pl} (h : 0 < rem ts x S) : ∃ y ∈ visitsF ts x, y.2 ∉ S := by
  unfold rem at h
  obtain ⟨y, hy⟩ := List.exists_mem_of_length_pos h
  obtain ⟨h1, h2⟩ := List.mem_filter.1 hy
  exact ⟨y, h1, by simpa using h2⟩
theorem before_visits {ts : List Int} (hv : Valid ts) {p x : Pl} (hp : Nice ts p) (hx : Nice ts x) : x ∈ beforeF ts p ↔ p ∈ (visitsF ts x).map (·.2) := by
  rw [before_mem hv hp]
  constructor
  · rintro ⟨-, i, h⟩
    exact List.mem_map.2 ⟨(i, p), (visits_mem hv.h5).2 h, rfl⟩
  · intro h
    obtain ⟨y, hy, rfl⟩ := List.mem_map.1 h
    exact ⟨hx, y.1, (visits_mem hv.h5).1 hy⟩

structure Inv (ts : List Int) (k : Nat) (s : CSt) : Prop where
  nd : s.2.2.Nodup
  nice : ∀ x ∈ s.2.2, Nice ts x
  keys : Keys s.1
  out : ∀ x, Nice ts x → x ∉ s.2.2 → mget 0 s.1 x = (rem ts x (s.2.2.take k) : Int) ∧ 0 < rem ts x (s.2.2.take k)
  inn : ∀ x ∈ s.2.2, mget 0 s.1 x = 0
  suc : ∀ x ∈ s.2.2, ∀ y ∈ visitsF ts x, y.2 ∈ s.2.2.take k ∧ mget 0 s.2.1 y.2 < mget 0 s.2.1 x
  nn : ∀ x, 0 ≤ mget 0 s.2.1 x
  srt : s.2.2.Pairwise fun a b => mget 0 s.2.1 a ≤ mget 0 s.2.1 b
  bound : ∀ y ∈ s.2.2.drop k, ∀ x ∈ s.2.2, mget 0 s.2.1 x ≤ mget 0 s.2.1 y + 1

/-- The fold over all states. -/
theorem tab_fold (ts : List Int) : ∀ (l : List Pl) (s : CSt), Keys s.1 → (∀ x, mget 0 s.2.1 x = 0) →
    (∀ x, mget 0 (l.foldl (tabStep ts) s).1 x = if x ∈ l ∧ pullF ts allF x ≠ none then (ts.length : Int) else mget 0 s.1 x) ∧ (∀ x, mget 0 (l.foldl (tabStep ts) s).2.1 x = 0) ∧
    (l.foldl (tabStep ts) s).2.2 = s.2.2 ++ l.filter (fun x => decide (pullF ts allF x = none)) ∧ Keys (l.foldl (tabStep ts) s).1
  | [], s, hk, h0 => ⟨fun x => by simp, h0, by simp, hk⟩
  | p :: l, s, hk, h0 => by
    rw [List.foldl_cons]
    cases hp : pullF ts allF p with
    | some q =>
      have e := tabStep_some (s := s) hp
      obtain ⟨i1, i2, i3, i4⟩ := tab_fold ts l (tabStep ts s p) (by rw [e]; exact hk.mset p _) (by rw [e]; exact h0)
      refine ⟨fun x => ?_, i2, ?_, i4⟩
      · rw [i1 x, e]
        simp only [mget_mset, List.mem_cons]
        by_cases hx : x = p
        · subst hx
          simp [hp]
        · rw [if_neg hx]
          simp [hx]
      · rw [i3, e, List.filter_cons_of_neg (by simp [hp])]
    | none =>
      have e := tabStep_none (s := s) hp
      obtain ⟨i1, i2, i3, i4⟩ := tab_fold ts l (tabStep ts s p) (by rw [e]; exact hk) (by rw [e]; intro x; simp only [mget_mset]; split <;> simp [h0])
      refine ⟨fun x => ?_, i2, ?_, i4⟩
      · rw [i1 x, e]
        by_cases hx : x = p
        · subst hx
          rw [if_neg (fun h => h.2 hp), if_neg (fun h => h.2 hp)]
        · simp [hx]
      · rw [i3, e, List.filter_cons_of_pos (by simp [hp])]
        simp
theorem rem_nil {ts : List Int} {x : Pl} : rem ts x [] = (visitsF ts x).length := by simp [rem]
theorem inv_zero {ts : List Int} (hv : Valid ts) : Inv ts 0 (tab0 ts) := by
  obtain ⟨i1, i2, i3, i4⟩ := tab_fold ts (allP ts) ([], [], []) (by simp [Keys]) (fun _ => rfl)
  have e : tab0 ts = (allP ts).foldl (tabStep ts) ([], [], []) := rfl
  rw [← e] at i1 i2 i3 i4
  simp only [List.nil_append] at i3
  have hm : ∀ x, x ∈ (tab0 ts).2.2 ↔ Nice ts x ∧ pullF ts allF x = none := fun x => by
    rw [i3, List.mem_filter, nice_mem hv]
    simp
  refine ⟨by rw [i3]; exact (allP_nodup hv).filter _, fun x hx => ((hm x).1 hx).1, i4, fun x hx hn => ?_, fun x hx => ?_, fun x hx y hy => ?_, fun x => by rw [i2]; omega, ?_, fun y _ x _ => by rw [i2, i2]; omega⟩
  · have hp : pullF ts allF x ≠ none := fun h => hn ((hm x).2 ⟨hx, h⟩)
    rw [i1 x, if_pos ⟨(nice_mem hv).2 hx, hp⟩, List.take_zero, rem_nil]
    have hl : (visitsF ts x).length = ts.length := by
      unfold visitsF
      cases hq : pullF ts allF x with
      | none => exact absurd hq hp
      | some q => simp
    have := hv.h1
    rw [hl]
    exact ⟨rfl, by omega⟩
  · rw [i1 x, if_neg (fun h => h.2 ((hm x).1 hx).2)]
    rfl
  · rw [visits_none ((hm x).1 hx).2] at hy
    cases hy
  · exact List.pairwise_of_forall fun a b => by rw [i2, i2]; omega

/-- While one place is gone through. -/
structure Mid (ts : List Int) (k : Nat) (s : CSt) (p : Pl) (l1 : List Pl) (c : CSt) : Prop where
  nd : c.2.2.Nodup
  sub : ∀ x ∈ c.2.2, x ∈ l1 ∧ x ∉ s.2.2 ∧ rem ts x (s.2.2.take k) = 1
  keys : Keys c.1
  out : ∀ x, Nice ts x → x ∉ s.2.2 → x ∉ c.2.2 → mget 0 c.1 x = (rem ts x (s.2.2.take k) : Int) - (if x ∈ l1 then 1 else 0) ∧ 0 < (rem ts x (s.2.2.take k) : Int) - (if x ∈ l1 then 1 else 0)
  inn : ∀ x, x ∈ s.2.2 ∨ x ∈ c.2.2 → mget 0 c.1 x = 0
  la : ∀ x, mget 0 c.2.1 x = if x ∈ c.2.2 then mget 0 s.2.1 p + 1 else mget 0 s.2.1 x
theorem mid_step {ts : List Int} (hv : Valid ts) {k : Nat} {s : CSt} {p : Pl} (hI : Inv ts k s) (hp : s.2.2[k]? = some p) {l1 : List Pl} {c : CSt} {x : Pl} (hM : Mid ts k s p l1 c) (hx : x ∈ beforeF ts p) (hx1 : x ∉ l1) : Mid ts k s p (l1 ++ [x]) (condStep p c x) := by
  have hpm : p ∈ s.2.2 := List.mem_of_getElem? hp
  have hpn := hI.nice p hpm
  obtain ⟨hxn, i, hsu⟩ := (before_mem hv hpn).1 hx
  have hpt : p ∉ s.2.2.take k := by
    intro h
    obtain ⟨j, hj, e⟩ := List.getElem_of_mem h
    rw [List.length_take] at hj
    rw [List.getElem_take] at e
    have hk : k < s.2.2.length := (List.getElem?_eq_some_iff.1 hp).1
    have e2 : s.2.2[k] = p := (List.getElem?_eq_some_iff.1 hp).2
    have := (List.getElem_inj hI.nd).1 (e.trans e2.symm)
    omega
  have hxs : x ∉ s.2.2 := fun h => hpt ((hI.suc x h (i, p) ((visits_mem hv.h5).2 hsu)).1)
  have hxc : x ∉ c.2.2 := fun h => hx1 (hM.sub x h).1
  have hpc : p ∉ c.2.2 := fun h => (hM.sub p h).2.1 hpm
  obtain ⟨o1, o2⟩ := hM.out x hxn hxs hxc
  rw [if_neg hx1] at o1 o2
  have hlap : mget 0 c.2.1 p = mget 0 s.2.1 p := by rw [hM.la p, if_neg hpc]
  by_cases h1 : mget 0 c.1 x - 1 = 0
  · rw [condStep_zero rfl h1]
    have hr1 : rem ts x (s.2.2.take k) = 1 := by omega
    have hget : ∀ z, mget 0 (mdel x (mset x (mget 0 c.1 x - 1) c.1)) z = if z = x then 0 else mget 0 c.1 z := fun z => by
      rw [mget_mdel 0 x z (hM.keys.mset x _)]
      by_cases hz : z = x
      · rw [if_pos hz, if_pos hz]
      · rw [if_neg hz, if_neg hz, mget_mset, if_neg hz]
    refine ⟨?_, fun z hz => ?_, (hM.keys.mset x _).mdel x, fun z hz hzs hzc => ?_, fun z hz => ?_, fun z => ?_⟩
    · exact List.nodup_append.2 ⟨hM.nd, by simp, fun a ha b hb => by rw [List.mem_singleton.1 hb]; exact fun e => hxc (e ▸ ha)⟩
    · rcases List.mem_append.1 hz with h | h
      · obtain ⟨a, b⟩ := hM.sub z h
        exact ⟨List.mem_append_left _ a, b⟩
      · rw [List.mem_singleton.1 h]
        exact ⟨by simp, hxs, hr1⟩
    · have hzx : z ≠ x := fun e => hzc (by simp [e])
      have := hM.out z hz hzs (fun h => hzc (List.mem_append_left _ h))
      simp only [hget, List.mem_append, List.mem_singleton, hzx, or_false]
      exact this
    · simp only [hget]
      by_cases hzx : z = x
      · rw [if_pos hzx]
      · rw [if_neg hzx]
        refine hM.inn z (hz.imp id fun h => ?_)
        rcases List.mem_append.1 h with h | h
        · exact h
        · exact absurd (List.mem_singleton.1 h) hzx
    · simp only [mget_mset, hlap, List.mem_append, List.mem_singleton]
      by_cases hzx : z = x
      · rw [if_pos hzx, if_pos (.inr hzx)]
      · rw [if_neg hzx, hM.la z]
        simp [hzx]
  · rw [condStep_go rfl h1]
    refine ⟨hM.nd, fun z hz => ?_, hM.keys.mset x _, fun z hz hzs hzc => ?_, fun z hz => ?_, hM.la⟩
    · obtain ⟨a, b⟩ := hM.sub z hz
      exact ⟨List.mem_append_left _ a, b⟩
    · simp only [mget_mset, List.mem_append, List.mem_singleton]
      by_cases hzx : z = x
      · subst hzx
        rw [if_pos rfl, if_pos (.inr rfl)]
        omega
      · rw [if_neg hzx]
        have := hM.out z hz hzs hzc
        simpa [hzx] using this
    · simp only [mget_mset]
      have hzx : z ≠ x := fun e => hz.elim (fun h => hxs (e ▸ h)) (fun h => hxc (e ▸ h))
      rw [if_neg hzx]
      exact hM.inn z hz
theorem mid_fold {ts : List Int} (hv : Valid ts) {k : Nat} {s : CSt} {p : Pl} (hI : Inv ts k s) (hp : s.2.2[k]? = some p) : ∀ (l2 l1 : List Pl) (c : CSt), l1 ++ l2 = beforeF ts p → Mid ts k s p l1 c → Mid ts k s p (beforeF ts p) (condL p c l2)
  | [], l1, c, he, hM => by
    rw [List.append_nil] at he
    subst he
    exact hM
  | x :: l2, l1, c, he, hM => by
    have hnd := before_nodup hv (hI.nice p (List.mem_of_getElem? hp))
    rw [← he] at hnd
    have hx1 : x ∉ l1 := fun h => (List.nodup_append.1 hnd).2.2 x h x (by simp) rfl
    have := mid_fold hv hI hp l2 (l1 ++ [x]) (condStep p c x) (by simpa using he) (mid_step hv hI hp hM (by rw [← he]; simp) hx1)
    exact this
theorem inv_more {ts : List Int} (hv : Valid ts) {k : Nat} {s : CSt} {p : Pl} (hI : Inv ts k s) (hp : s.2.2[k]? = some p) : Inv ts (k + 1) (tabMore ts s p) := by
  have hpm : p ∈ s.2.2 := List.mem_of_getElem? hp
  have hpn := hI.nice p hpm
  have hk : k < s.2.2.length := (List.getElem?_eq_some_iff.1 hp).1
  have hkp : s.2.2[k] = p := (List.getElem?_eq_some_iff.1 hp).2
  have hM := mid_fold hv hI hp (beforeF ts p) [] (s.1, s.2.1, []) rfl ⟨by simp, fun x hx => (by cases hx), hI.keys, fun x hx hxs _ => (by
    have := hI.out x hx hxs
    simp only [List.not_mem_nil, if_false]
    exact ⟨by omega, by omega⟩), fun x hx => hx.elim (hI.inn x) (fun h => (by cases h)), fun x => (by simp)⟩
  obtain ⟨c, hc⟩ : ∃ c, c = condL p (s.1, s.2.1, []) (beforeF ts p) := ⟨_, rfl⟩
  have e : tabMore ts s p = (c.1, c.2.1, s.2.2 ++ c.2.2) := by rw [hc]; rfl
  rw [← hc] at hM
  rw [e]
  have htake : (s.2.2 ++ c.2.2).take (k + 1) = s.2.2.take k ++ [p] := by
    rw [List.take_append_of_le_length (by omega), List.take_succ_eq_append_getElem hk, hkp]
  have hpt : p ∉ s.2.2.take k := by
    intro h
    obtain ⟨j, hj, e⟩ := List.getElem_of_mem h
    rw [List.length_take] at hj
    rw [List.getElem_take] at e
    have := (List.getElem_inj hI.nd).1 (e.trans hkp.symm)
    omega
  have hdrop : p ∈ s.2.2.drop k := by
    rw [List.drop_eq_getElem_cons hk, hkp]
    exact List.mem_cons_self
  have hold : ∀ x ∈ s.2.2, mget 0 c.2.1 x = mget 0 s.2.1 x := fun x hx => by rw [hM.la x, if_neg (fun h => (hM.sub x h).2.1 hx)]
  have hnew : ∀ x ∈ c.2.2, mget 0 c.2.1 x = mget 0 s.2.1 p + 1 := fun x hx => by rw [hM.la x, if_pos hx]
  have hsp : ∀ a ∈ s.2.2.take k, ∀ b ∈ s.2.2.drop k, mget 0 s.2.1 a ≤ mget 0 s.2.1 b := by
    have h := hI.srt
    rw [← List.take_append_drop k s.2.2] at h
    exact (List.pairwise_append.1 h).2.2
  have hsd : ∀ b ∈ s.2.2.drop (k + 1), mget 0 s.2.1 p ≤ mget 0 s.2.1 b := by
    have h := hI.srt
    rw [← List.take_append_drop k s.2.2] at h
    have h := (List.pairwise_append.1 h).2.1
    rw [List.drop_eq_getElem_cons hk, hkp] at h
    exact (List.pairwise_cons.1 h).1
  have htk : ∀ y ∈ s.2.2.take k ++ [p], y ∈ s.2.2 ∧ mget 0 s.2.1 y ≤ mget 0 s.2.1 p := fun y hy => by
    rcases List.mem_append.1 hy with h | h
    · exact ⟨List.mem_of_mem_take h, hsp y h p hdrop⟩
    · rw [List.mem_singleton.1 h]
      exact ⟨hpm, by omega⟩
  have hcn : ∀ x ∈ c.2.2, Nice ts x := fun x hx => ((before_mem hv hpn).1 (hM.sub x hx).1).1
  refine ⟨?_, fun x hx => ?_, hM.keys, fun x hx hxn => ?_, fun x hx => hM.inn x (List.mem_append.1 hx), fun x hx y hy => ?_, fun x => ?_, ?_, fun y hy x hx => ?_⟩
  · exact List.nodup_append.2 ⟨hI.nd, hM.nd, fun a ha b hb e => (hM.sub b hb).2.1 (e ▸ ha)⟩
  · exact (List.mem_append.1 hx).elim (hI.nice x) (hcn x)
  · have h1 : x ∉ s.2.2 := fun h => hxn (List.mem_append_left _ h)
    have h2 : x ∉ c.2.2 := fun h => hxn (List.mem_append_right _ h)
    have ho := hM.out x hx h1 h2
    have hr := rem_more hv.h5 hx hpt
    simp only [before_visits hv hpn hx] at ho
    simp only [htake]
    split at hr <;> rename_i hin
    · rw [if_pos hin] at ho
      omega
    · rw [if_neg hin] at ho
      omega
  · simp only [htake]
    rcases List.mem_append.1 hx with h | h
    · obtain ⟨a, b⟩ := hI.suc x h y hy
      have hys : y.2 ∈ s.2.2 := List.mem_of_mem_take a
      refine ⟨List.mem_append_left _ a, ?_⟩
      rw [hold x h, hold _ hys]
      exact b
    · obtain ⟨h1, h2, h3⟩ := hM.sub x h
      have hxn := hcn x h
      have hr := rem_more hv.h5 hxn hpt
      rw [if_pos ((before_visits hv hpn hxn).1 h1), h3] at hr
      have hy2 := rem_zero (show rem ts x (s.2.2.take k ++ [p]) = 0 by omega) y hy
      obtain ⟨a, b⟩ := htk _ hy2
      refine ⟨hy2, ?_⟩
      rw [hold _ a, hnew x h]
      omega
  · rw [hM.la x]
    have := hI.nn x
    have := hI.nn p
    split <;> omega
  · refine List.pairwise_append.2 ⟨hI.srt.imp_of_mem fun {a b} ha hb h => by rw [hold a ha, hold b hb]; exact h, List.pairwise_of_forall_mem_list fun a ha b hb => by rw [hnew a ha, hnew b hb]; omega, fun a ha b hb => ?_⟩
    rw [hold a ha, hnew b hb]
    exact hI.bound p hdrop a ha
  · have hup : mget 0 c.2.1 x ≤ mget 0 s.2.1 p + 1 := by
      rcases List.mem_append.1 hx with h | h
      · rw [hold x h]
        exact hI.bound p hdrop x h
      · rw [hnew x h]
        omega
    have hlo : mget 0 s.2.1 p ≤ mget 0 c.2.1 y := by
      simp only [List.drop_append_of_le_length (show k + 1 ≤ s.2.2.length by omega)] at hy
      rcases List.mem_append.1 hy with h | h
      · rw [hold y (List.mem_of_mem_drop h)]
        exact hsd y h
      · rw [hnew y h]
        omega
    show mget 0 c.2.1 x ≤ mget 0 c.2.1 y + 1
    omega
theorem inv_all {ts : List Int} (hv : Valid ts) : ∀ k, Inv ts k (tabN ts k)
  | 0 => inv_zero hv
  | k + 1 => by
    have ih := inv_all hv k
    rcases Nat.lt_or_ge k (tabN ts k).2.2.length with h | h
    · rw [tabN_some (List.getElem?_eq_getElem h)]
      exact inv_more hv ih (List.getElem?_eq_getElem h)
    · rw [tabN_none h]
      have e1 : (tabN ts k).2.2.take (k + 1) = (tabN ts k).2.2.take k := by rw [List.take_of_length_le h, List.take_of_length_le (by omega)]
      exact ⟨ih.nd, ih.nice, ih.keys, fun x hx hn => by rw [e1]; exact ih.out x hx hn, ih.inn, fun x hx y hy => by rw [e1]; exact ih.suc x hx y hy, ih.nn, ih.srt, fun y hy => by rw [List.drop_eq_nil_of_le (by omega)] at hy; cases hy⟩

/-- The doomed places, and how long they last. -/
noncomputable def dq (ts : List Int) : List Pl := (tabE ts).2.2
noncomputable def la (ts : List Int) (p : Pl) : Int := mget 0 (tabE ts).2.1 p
theorem dq_inv {ts : List Int} (hv : Valid ts) : Inv ts 1000 (tabE ts) := by
  rw [tabE_eq]
  exact inv_all hv 1000
theorem ends_all {ts : List Int} (hv : Valid ts) : Ends ts := nodup_len hv (dq_inv hv).nd (dq_inv hv).nice
theorem dq_nice {ts : List Int} (hv : Valid ts) {p : Pl} (h : p ∈ dq ts) : Nice ts p := (dq_inv hv).nice p h
theorem dq_suc {ts : List Int} (hv : Valid ts) {p : Pl} (h : p ∈ dq ts) {y : Nat × Pl} (hy : y ∈ visitsF ts p) : y.2 ∈ dq ts ∧ la ts y.2 < la ts p := by
  obtain ⟨a, b⟩ := (dq_inv hv).suc p h y hy
  exact ⟨List.mem_of_mem_take a, b⟩
theorem dq_out {ts : List Int} (hv : Valid ts) {p : Pl} (hp : Nice ts p) (h : p ∉ dq ts) : ∃ y ∈ visitsF ts p, y.2 ∉ dq ts := by
  obtain ⟨-, b⟩ := (dq_inv hv).out p hp h
  have e : (tabE ts).2.2.take 1000 = (tabE ts).2.2 := List.take_of_length_le (ends_all hv)
  rw [e] at b
  exact rem_pos b
theorem dq_safe {ts : List Int} (hv : Valid ts) {p : Pl} (hp : Nice ts p) : 0 < mget 0 (tabE ts).1 p ↔ p ∉ dq ts := by
  constructor
  · intro h hd
    rw [(dq_inv hv).inn p hd] at h
    omega
  · intro h
    obtain ⟨a, b⟩ := (dq_inv hv).out p hp h
    omega
theorem la_nonneg {ts : List Int} (hv : Valid ts) (p : Pl) : 0 ≤ la ts p := (dq_inv hv).nn p
end Go.Proofs.YthjgecblkagelaaGreat
