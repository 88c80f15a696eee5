/- Parts of a proof: EK EL EN. -/
import Derived.Test.YtdpehmdmgijcmaaGreatW33

/- Windows named otherwise: safe states, circles, rows and counts go with them: pure part of TurnNamed. -/
namespace Go.Proofs.YtdpehmdmgijcmaaGreat
open Go.RowKit Go.Shelf

/-- A hall whose windows are named otherwise: the one that is i now was pi i. -/
structure Iso (ts tx : List Int) (pi sg : Nat → Nat) : Prop where
  len : tx.length = ts.length
  pl : ∀ i, i < ts.length → pi i < ts.length
  sl : ∀ i, i < ts.length → sg i < ts.length
  ps : ∀ i, i < ts.length → pi (sg i) = i
  sp : ∀ i, i < ts.length → sg (pi i) = i
  at_ : ∀ i, i < ts.length → tx[i]?.getD 0 = ts[pi i]?.getD 0
theorem Iso.symm {ts tx : List Int} {pi sg : Nat → Nat} (h : Iso ts tx pi sg) : Iso tx ts sg pi := by
  refine ⟨h.len.symm, fun i hi => ?_, fun i hi => ?_, fun i hi => ?_, fun i hi => ?_, fun i hi => ?_⟩ <;> rw [h.len] at *
  · exact h.sl i hi
  · exact h.pl i hi
  · exact h.sp i hi
  · exact h.ps i hi
  · rw [h.at_ (sg i) (h.sl i hi), h.ps i hi]
/-- A place, its windows named otherwise. -/
def mv (pi : Nat → Nat) (n : Nat) (p : Pl) : Pl := plOf ((List.range n).map fun i => p.get (pi i))
theorem mv_get {pi : Nat → Nat} {n : Nat} {p : Pl} (h5 : n ≤ 5) (j : Nat) : (mv pi n p).get j = if j < n then p.get (pi j) else 0 := by
  unfold mv
  rw [plOf_get _ (by simpa using h5)]
  by_cases h : j < n
  · rw [if_pos h]
    simp [h]
  · rw [if_neg h, List.getElem?_eq_none (by simp; omega)]
    rfl
theorem mv_n (pi : Nat → Nat) (n : Nat) (p : Pl) : (mv pi n p).n = (n : Int) := by
  unfold mv plOf
  simp
section
variable {ts tx : List Int} {pi sg : Nat → Nat}
theorem iso_nice (hv : Valid ts) (h : Iso ts tx pi sg) {p : Pl} (hp : Nice ts p) : Nice tx (mv pi ts.length p) := by
  have h5 := hv.h5
  refine ⟨⟨fun i hi => ?_, by rw [mv_n, h.len]⟩, fun i hi => ?_⟩
  · rw [h.len] at hi
    rw [mv_get h5, if_pos hi, h.at_ i hi]
    exact hp.1.1 _ (h.pl i hi)
  · rw [h.len] at hi
    rw [mv_get h5, if_neg (by omega)]
theorem mv_back (hv : Valid ts) (h : Iso ts tx pi sg) {p : Pl} (hp : Nice ts p) : mv sg ts.length (mv pi ts.length p) = p := by
  have h5 := hv.h5
  refine pl_ext (by rw [mv_n, hp.1.2]) fun j => ?_
  rw [mv_get h5]
  by_cases hj : j < ts.length
  · rw [if_pos hj, mv_get h5, if_pos (h.sl j hj), h.ps j hj]
  · rw [if_neg hj, hp.2 j (by omega)]
theorem iso_su (hv : Valid ts) (h : Iso ts tx pi sg) {x p : Pl} {i : Nat} (hs : Su ts x i p) : Su tx (mv pi ts.length x) (sg i) (mv pi ts.length p) := by
  have h5 := hv.h5
  refine ⟨by rw [h.len]; exact h.sl i hs.lt, by rw [mv_n, mv_n], fun j hj => ?_, ?_, fun j hj hji => ?_, fun j hj => ?_⟩
  · rw [h.len] at hj
    rw [mv_get h5, if_pos hj, h.at_ j hj]
    exact hs.free _ (h.pl j hj)
  · rw [mv_get h5, if_pos (h.sl i hs.lt), h.ps i hs.lt]
    exact hs.zero
  · rw [h.len] at hj
    rw [mv_get h5, mv_get h5, if_pos hj, if_pos hj]
    exact hs.more _ (h.pl j hj) (fun e => hji (by rw [← e, h.sp j hj]))
  · rw [h.len] at hj
    rw [mv_get h5, mv_get h5, if_neg (by omega), if_neg (by omega)]
theorem iso_visit (hv : Valid ts) (h : Iso ts tx pi sg) {x : Pl} {y : Nat × Pl} (hy : y ∈ visitsF ts x) : (sg y.1, mv pi ts.length y.2) ∈ visitsF tx (mv pi ts.length x) :=
  (visits_mem (by rw [h.len]; exact hv.h5)).2 (iso_su hv h ((visits_mem hv.h5).1 hy))
/-- The visits of a place that is named otherwise. -/
theorem iso_visit_back (hv : Valid ts) (hx : Valid tx) (h : Iso ts tx pi sg) {x : Pl} (hp : Nice ts x) {z : Nat × Pl} (hz : z ∈ visitsF tx (mv pi ts.length x)) : (pi z.1, mv sg ts.length z.2) ∈ visitsF ts x ∧ mv pi ts.length (mv sg ts.length z.2) = z.2 ∧ Nice ts (mv sg ts.length z.2) := by
  have hn := iso_nice hv h hp
  have hzn : Nice tx z.2 := ((visits_mem hx.h5).1 hz).nice hx hn
  have h1 := iso_visit hx h.symm hz
  have h2 := mv_back hx h.symm hzn
  have h3 := iso_nice hx h.symm hzn
  rw [h.len] at h1 h2 h3
  rw [mv_back hv h hp] at h1
  exact ⟨h1, h2, h3⟩
theorem iso_dq (hv : Valid ts) (hx : Valid tx) (h : Iso ts tx pi sg) : ∀ (k : Nat) (p : Pl), la ts p ≤ (k : Int) → p ∈ dq ts → mv pi ts.length p ∈ dq tx ∧ la tx (mv pi ts.length p) = la ts p := by
  intro k
  induction k with
  | zero =>
    intro p hk hp
    have hpn := dq_nice hv hp
    have hno : visitsF tx (mv pi ts.length p) = [] := List.eq_nil_iff_forall_not_mem.2 fun z hz => by
      obtain ⟨h1, -, -⟩ := iso_visit_back hv hx h hpn hz
      have h2 := (dq_suc hv hp h1).2
      have h3 := la_nonneg hv (ts := ts) (mv sg ts.length z.2)
      simp only at h2
      omega
    have hd : mv pi ts.length p ∈ dq tx := by
      refine Classical.byContradiction fun hn => ?_
      obtain ⟨y, hy, -⟩ := dq_out hx (iso_nice hv h hpn) hn
      rw [hno] at hy
      cases hy
    refine ⟨hd, ?_⟩
    rcases dq_wit hx hd with e | ⟨y, hy, -⟩
    · have := la_nonneg hv (ts := ts) p
      omega
    · rw [hno] at hy
      cases hy
  | succ k ih =>
    intro p hk hp
    have hpn := dq_nice hv hp
    have hvis : ∀ z ∈ visitsF tx (mv pi ts.length p), z.2 ∈ dq tx ∧ la tx z.2 = la ts (mv sg ts.length z.2) ∧ la ts (mv sg ts.length z.2) < la ts p := fun z hz => by
      obtain ⟨h1, h2, -⟩ := iso_visit_back hv hx h hpn hz
      obtain ⟨s1, s2⟩ := dq_suc hv hp h1
      simp only at s1 s2
      obtain ⟨i1, i2⟩ := ih (mv sg ts.length z.2) (by omega) s1
      rw [h2] at i1 i2
      exact ⟨i1, i2, s2⟩
    have hd : mv pi ts.length p ∈ dq tx := by
      refine Classical.byContradiction fun hn => ?_
      obtain ⟨y, hy, hyd⟩ := dq_out hx (iso_nice hv h hpn) hn
      exact hyd (hvis y hy).1
    refine ⟨hd, ?_⟩
    have hle : la tx (mv pi ts.length p) ≤ la ts p := by
      rcases dq_wit hx hd with e | ⟨z, hz, e⟩
      · have := la_nonneg hv (ts := ts) p
        omega
      · obtain ⟨-, e2, e3⟩ := hvis z hz
        omega
    rcases dq_wit hv hp with e | ⟨y, hy, e⟩
    · have := la_nonneg hx (ts := tx) (mv pi ts.length p)
      omega
    · have h1 := iso_visit hv h hy
      obtain ⟨s1, s2⟩ := dq_suc hv hp hy
      obtain ⟨i1, i2⟩ := ih y.2 (by omega) s1
      have h2 := (dq_suc hx hd h1).2
      simp only at h2
      omega
theorem iso_dq_iff (hv : Valid ts) (hx : Valid tx) (h : Iso ts tx pi sg) {p : Pl} (hp : Nice ts p) : mv pi ts.length p ∈ dq tx ↔ p ∈ dq ts := by
  constructor
  · intro hd
    have := (iso_dq hx hv h.symm (la tx (mv pi ts.length p)).toNat (mv pi ts.length p) (by omega) hd).1
    rw [h.len, mv_back hv h hp] at this
    exact this
  · intro hd
    exact (iso_dq hv hx h (la ts p).toNat p (by omega) hd).1
theorem mv_inj (hv : Valid ts) (h : Iso ts tx pi sg) {p q : Pl} (hp : Nice ts p) (hq : Nice ts q) (e : mv pi ts.length p = mv pi ts.length q) : p = q := by
  rw [← mv_back hv h hp, e, mv_back hv h hq]
theorem iso_count (hv : Valid ts) (hx : Valid tx) (h : Iso ts tx pi sg) : (tabE ts).1.length = (tabE tx).1.length := by
  have hperm : (((tabE ts).1.map (·.1)).map (mv pi ts.length)).Perm ((tabE tx).1.map (·.1)) := by
    refine (List.perm_ext_iff_of_nodup ?_ (dq_inv hx).keys).2 fun x => ?_
    · refine List.pairwise_map.2 (List.Pairwise.imp_of_mem ?_ (dq_inv hv).keys)
      intro a b ha hb hab e
      exact hab (mv_inj hv h ((safe_keys hv a).1 ha).1 ((safe_keys hv b).1 hb).1 e)
    · rw [safe_keys hx, List.mem_map]
      constructor
      · rintro ⟨p, hp, rfl⟩
        obtain ⟨p1, p2⟩ := (safe_keys hv p).1 hp
        exact ⟨iso_nice hv h p1, fun hd => p2 ((iso_dq_iff hv hx h p1).1 hd)⟩
      · rintro ⟨x1, x2⟩
        have hn := iso_nice hx h.symm x1
        have hb := mv_back hx h.symm x1
        rw [h.len] at hn hb
        refine ⟨mv sg ts.length x, (safe_keys hv _).2 ⟨hn, fun hd => x2 ?_⟩, hb⟩
        have := (iso_dq_iff hv hx h hn).2 hd
        rwa [hb] at this
  have := hperm.length_eq
  simpa using this
theorem iso_play (hv : Valid ts) (h : Iso ts tx pi sg) : ∀ (row : List Int) (p q : Pl), Wins ts row → playL ts row p = some q → playL tx (row.map fun i => ((sg i.toNat : Nat) : Int)) (mv pi ts.length p) = some (mv pi ts.length q)
  | [], p, q, _, e => by cases e; rfl
  | i :: row, p, q, hw, e => by
    obtain ⟨r, h1, h2⟩ := play_split (hw i (by simp)) e
    rw [List.map_cons, play_go (iso_visit hv h h1)]
    exact iso_play hv h row r q (fun j hj => hw j (by simp [hj])) h2
theorem iso_cyc (hv : Valid ts) (h : Iso ts tx pi sg) {p : Pl} {row : List Int} (hc : Cyc ts p row) : Cyc tx (mv pi ts.length p) (row.map fun i => ((sg i.toNat : Nat) : Int)) := by
  refine ⟨fun e => hc.ne (List.map_eq_nil_iff.1 e), fun i hi => ?_, iso_nice hv h hc.nice, iso_play hv h row p p hc.wins hc.back⟩
  obtain ⟨j, hj, rfl⟩ := List.mem_map.1 hi
  have h1 := hc.wins j hj
  have h2 := h.sl j.toNat (by omega)
  rw [h.len]
  omega
theorem mv_empty (hv : Valid ts) (h : Iso ts tx pi sg) : mv pi ts.length (emptyP ts) = emptyP tx := by
  refine pl_ext (by rw [mv_n]; unfold emptyP; rw [h.len]) fun j => ?_
  rw [mv_get hv.h5, empty_get, empty_get]
  split <;> rfl
theorem iso_circle (hc : checkHallF ts = 0) (hcx : checkHallF tx = 0) (h : Iso ts tx pi sg) {win winx : Nat} (hw : IsWin ts win) (hwx : IsWin tx winx) : (circleR ts win).2 = (circleR tx winx).2 ∧ (circleR ts win).1.length = (circleR tx winx).1.length := by
  have hv := valid_of hc
  have hx := valid_of hcx
  have hiff := iso_dq_iff hv hx h (nice_empty hv)
  rw [mv_empty hv h] at hiff
  by_cases hd : emptyP ts ∈ dq ts
  · rw [circle_doomed hc hd, circle_doomed hcx (hiff.2 hd)]
    exact ⟨rfl, rfl⟩
  · have hdx : emptyP tx ∉ dq tx := fun e => hd (hiff.1 e)
    rw [circle_safe hc hd, circle_safe hcx hdx]
    obtain ⟨p, c1, -, c2⟩ := circ_spec hv hw hd
    obtain ⟨q, d1, -, d2⟩ := circ_spec hx hwx hdx
    have e1 := d2 _ _ (iso_cyc hv h c1)
    have e2 := c2 _ _ (iso_cyc hx h.symm d1)
    simp only [List.length_map] at e1 e2
    exact ⟨rfl, by dsimp only; omega⟩
/-- A state, its windows named otherwise. -/
theorem iso_state (hv : Valid ts) (h : Iso ts tx pi sg) {ss st : List Int} (hs : ss ∈ statesL ts) (hl : st.length = ts.length) (hst : ∀ i, i < ts.length → st[i]?.getD 0 = ss[pi i]?.getD 0) : plOf st = mv pi ts.length (plOf ss) ∧ st ∈ statesL tx := by
  have h5 := hv.h5
  obtain ⟨h1, h2⟩ := (states_iff hv.nonneg).1 hs
  refine ⟨?_, (states_iff ?_).2 ⟨by rw [hl, h.len], fun i hi => ?_⟩⟩
  · refine pl_ext (by rw [mv_n]; unfold plOf; dsimp only; omega) fun j => ?_
    rw [plOf_get _ (by omega), mv_get h5]
    by_cases hj : j < ts.length
    · rw [if_pos hj, plOf_get _ (by omega), hst j hj]
    · rw [if_neg hj, List.getElem?_eq_none (by omega)]
      rfl
  · intro t ht
    obtain ⟨i, hi, rfl⟩ := List.getElem_of_mem ht
    rw [h.len] at hi
    have := h.at_ i hi
    rw [List.getElem?_eq_getElem (by rw [h.len]; exact hi), Option.getD_some] at this
    rw [this]
    have := hv.h12 (pi i) (h.pl i hi)
    omega
  · rw [h.len] at hi
    rw [hst i hi, h.at_ i hi]
    exact h2 _ (h.pl i hi)
theorem next_list {ss : List Int} (h : statedF ts ss = 0) (hd : plOf ss ∉ dq ts) (x : Int) : x ∈ (nextR ts ss).1 ↔ ∃ y ∈ visitsF ts (plOf ss), y.2 ∉ dq ts ∧ (y.1 : Int) = x := by
  have hc := stated_hall h
  have hv := valid_of hc
  have hps := nice_stated h
  unfold nextR
  rw [if_neg (by simp [h]), if_pos ((dq_safe hv hps).2 hd)]
  unfold nextF
  simp only [List.mem_map, List.mem_filter, decide_eq_true_eq]
  constructor
  · rintro ⟨y, ⟨h1, h2⟩, h3⟩
    exact ⟨y, h1, (dq_safe hv (((visits_mem hv.h5).1 h1).nice hv hps)).1 h2, h3⟩
  · rintro ⟨y, h1, h2, h3⟩
    exact ⟨y, ⟨h1, (dq_safe hv (((visits_mem hv.h5).1 h1).nice hv hps)).2 h2⟩, h3⟩
theorem next_nodup {ss : List Int} (h : statedF ts ss = 0) (hd : plOf ss ∉ dq ts) : (nextR ts ss).1.Nodup := by
  have hc := stated_hall h
  have hv := valid_of hc
  have hps := nice_stated h
  unfold nextR
  rw [if_neg (by simp [h]), if_pos ((dq_safe hv hps).2 hd)]
  have hord : (visitsF ts (plOf ss)).Pairwise fun a b => a.1 < b.1 := by
    unfold visitsF
    split
    · exact List.Pairwise.nil
    · exact List.pairwise_map.2 (List.pairwise_lt_range.imp fun h => h)
  refine List.pairwise_map.2 ?_
  exact (hord.filter _).imp fun h e => by omega
/-- Next, of states whose windows are named otherwise. -/
theorem iso_next (h : Iso ts tx pi sg) {ss st : List Int} (hs : statedF ts ss = 0) (hsx : statedF tx st = 0) (hst : ∀ i, i < ts.length → st[i]?.getD 0 = ss[pi i]?.getD 0) :
    (nextR ts ss).2 = (nextR tx st).2 ∧ (nextR ts ss).1.length = (nextR tx st).1.length ∧ (∀ x ∈ (nextR tx st).1, ∃ i : Nat, x = (i : Int) ∧ i < ts.length ∧ ((pi i : Nat) : Int) ∈ (nextR ts ss).1) ∧
    (lastsR ts ss).2 = (lastsR tx st).2 ∧ (lastsR ts ss).1.length = (lastsR tx st).1.length ∧ ((nextR ts ss).2 = 0 ↔ (lastsR ts ss).2 = 5) := by
  have hc := stated_hall hs
  have hcx := stated_hall hsx
  have hv := valid_of hc
  have hx := valid_of hcx
  have hps := nice_stated hs
  have hm := (stated_states hs).2
  obtain ⟨hpl, -⟩ := iso_state hv h hm ((stated_valid hsx).2.1.trans h.len) hst
  have hiff := iso_dq_iff hv hx h hps
  rw [← hpl] at hiff
  by_cases hd : plOf ss ∈ dq ts
  · have hdx := hiff.2 hd
    rw [(either_doomed hs hd).2, (either_doomed hsx hdx).2, lasts_doomed hs hd, lasts_doomed hsx hdx]
    have hla := (iso_dq hv hx h (la ts (plOf ss)).toNat (plOf ss) (by omega) hd).2
    rw [← hpl] at hla
    refine ⟨rfl, rfl, fun x hx' => (by cases hx'), rfl, ?_, by simp⟩
    have n1 := la_nonneg hv (ts := ts) (plOf ss)
    have l1 := (lon_len hv (la ts (plOf ss)).toNat (plOf ss) hd (by omega)).1
    have l2 := (lon_len hx (la tx (plOf st)).toNat (plOf st) hdx (by omega)).1
    dsimp only
    omega
  · have hdx : plOf st ∉ dq tx := fun e => hd (hiff.1 e)
    obtain ⟨-, a, l, e1⟩ := either_safe hs hd
    obtain ⟨-, b, m, e2⟩ := either_safe hsx hdx
    have hz1 : (nextR ts ss).2 = 0 := by rw [e1]
    have hz2 : (nextR tx st).2 = 0 := by rw [e2]
    have hback : ∀ x ∈ (nextR tx st).1, ∃ i : Nat, x = (i : Int) ∧ i < ts.length ∧ ((pi i : Nat) : Int) ∈ (nextR ts ss).1 := fun x hx' => by
      obtain ⟨z, z1, z2, z3⟩ := (next_list hsx hdx x).1 hx'
      rw [hpl] at z1
      obtain ⟨y1, y2, y3⟩ := iso_visit_back hv hx h hps z1
      refine ⟨z.1, z3.symm, by have := visit_fst z1; rw [h.len] at this; exact this, (next_list hs hd _).2 ⟨_, y1, fun hy => z2 ?_, rfl⟩⟩
      have := (iso_dq_iff hv hx h y3).2 hy
      rwa [y2] at this
    refine ⟨by rw [hz1, hz2], ?_, hback, by rw [lasts_safe hs hd, lasts_safe hsx hdx], by rw [lasts_safe hs hd, lasts_safe hsx hdx], by rw [hz1, lasts_safe hs hd]; simp⟩
    have hperm : ((nextR ts ss).1.map fun i => ((sg i.toNat : Nat) : Int)).Perm (nextR tx st).1 := by
      refine (List.perm_ext_iff_of_nodup ?_ (next_nodup hsx hdx)).2 fun x => ?_
      · refine List.pairwise_map.2 (List.Pairwise.imp_of_mem ?_ (next_nodup hs hd))
        intro u v hu hv' huv e
        obtain ⟨y, y1, -, y3⟩ := (next_list hs hd u).1 hu
        obtain ⟨z, z1, -, z3⟩ := (next_list hs hd v).1 hv'
        have e2 : sg u.toNat = sg v.toNat := by omega
        have e3 := h.ps u.toNat (by have := visit_fst y1; omega)
        have e4 := h.ps v.toNat (by have := visit_fst z1; omega)
        rw [e2, e4] at e3
        omega
      · rw [List.mem_map]
        constructor
        · rintro ⟨u, hu, rfl⟩
          obtain ⟨y, y1, y2, y3⟩ := (next_list hs hd u).1 hu
          have hyn := ((visits_mem hv.h5).1 y1).nice hv hps
          refine (next_list hsx hdx _).2 ⟨_, by rw [hpl]; exact iso_visit hv h y1, fun e => y2 ((iso_dq_iff hv hx h hyn).1 e), ?_⟩
          rw [← y3]
          simp
        · intro hx'
          obtain ⟨i, rfl, hi, hmem⟩ := hback x hx'
          exact ⟨_, hmem, by simp [h.sp i hi]⟩
    have := hperm.length_eq
    simpa using this
end
end Go.Proofs.YtdpehmdmgijcmaaGreat

/- Windows named otherwise, by a row of names: pure part. -/
namespace Go.Proofs.YtdpehmdmgijcmaaGreat
open Go.RowKit Go.Shelf

theorem prod_perm : ∀ {l m : List Int}, l.Perm m → ∀ a : Int, l.foldl (fun a t => a * (t + 1)) a = m.foldl (fun a t => a * (t + 1)) a := by
  intro l m h
  induction h with
  | nil => intro a; rfl
  | cons x _ ih => intro a; exact ih _
  | swap x y l =>
    intro a
    show l.foldl _ (a * (y + 1) * (x + 1)) = l.foldl _ (a * (x + 1) * (y + 1))
    rw [Int.mul_right_comm]
  | trans _ _ ih1 ih2 => intro a; rw [ih1, ih2]
theorem hall_perm {tx ts : List Int} (h : tx.Perm ts) : checkHallF tx = checkHallF ts := by
  have e1 : withinF 1 12 tx = withinF 1 12 ts := by
    unfold withinF
    rw [Bool.eq_iff_iff, List.all_eq_true, List.all_eq_true]
    exact ⟨fun hh x hx => hh x (h.mem_iff.2 hx), fun hh x hx => hh x (h.mem_iff.1 hx)⟩
  unfold checkHallF prodF
  rw [h.length_eq, e1, prod_perm h]
def atF (xs : List Int) (k : Int) : Int := xs[k.toNat]?.getD 0
theorem at_all {xs : List Int} {n : Nat} (h : xs.length = n) : (allL n).map (atF xs) = xs := by
  subst h
  refine List.ext_getElem? fun i => ?_
  unfold allL atF
  rw [List.map_map, List.getElem?_map]
  by_cases hi : i < xs.length
  · rw [List.getElem?_range hi]
    simp [hi]
  · rw [List.getElem?_eq_none (by simpa using hi), List.getElem?_eq_none (by omega)]
    rfl
def swp (l : List Int) (a b : Nat) : List Int := (l.set a (l[b]?.getD 0)).set b (l[a]?.getD 0)
theorem swp_map (f : Int → Int) {l : List Int} {a b : Nat} (ha : a < l.length) (hb : b < l.length) : (swp l a b).map f = swp (l.map f) a b := by
  unfold swp
  rw [List.map_set, List.map_set]
  simp [ha, hb]
theorem swp_perm {l : List Int} {a b : Nat} (ha : a < l.length) (hb : b < l.length) : (swp l a b).Perm l := by
  unfold swp
  rw [List.getElem?_eq_getElem ha, List.getElem?_eq_getElem hb]
  exact List.set_set_perm ha hb
theorem swp_len (l : List Int) (a b : Nat) : (swp l a b).length = l.length := by simp [swp]
/-- From a row of names to a renaming. -/
theorem iso_names {ts nm : List Int} {n : Nat} (hn : ts.length = n) (h : nm.Perm (allL n)) : ∃ pi sg : Nat → Nat, Iso ts (nm.map (atF ts)) pi sg ∧ ∀ i, i < n → nm[i]?.getD 0 = ((pi i : Nat) : Int) := by
  have hl : nm.length = n := by rw [h.length_eq, allL_len]
  have hnd : nm.Nodup := h.nodup_iff.2 (allL_nodup n)
  have hpi : ∀ i (hi : i < n), 0 ≤ nm[i]'(by omega) ∧ nm[i]'(by omega) < (n : Int) := fun i hi => allL_mem.1 (h.mem_iff.1 (List.getElem_mem _))
  have hex : ∀ i : Nat, ∃ j : Nat, i < n → j < n ∧ nm[j]?.getD 0 = (i : Int) := fun i => by
    by_cases hi : i < n
    · have : (i : Int) ∈ nm := h.mem_iff.2 (allL_mem.2 (by omega))
      obtain ⟨j, hj, e⟩ := List.getElem_of_mem this
      exact ⟨j, fun _ => ⟨by omega, by rw [List.getElem?_eq_getElem hj, e]; rfl⟩⟩
    · exact ⟨0, fun h' => absurd h' hi⟩
  obtain ⟨sg, hsg⟩ : ∃ sg : Nat → Nat, ∀ i, i < n → sg i < n ∧ nm[sg i]?.getD 0 = (i : Int) := ⟨fun i => Classical.choose (hex i), fun i hi => Classical.choose_spec (hex i) hi⟩
  have hat : ∀ i, i < n → nm[i]?.getD 0 = ((((nm[i]?.getD 0).toNat : Nat)) : Int) := fun i hi => by
    have := hpi i hi
    rw [List.getElem?_eq_getElem (by omega), Option.getD_some]
    omega
  have hlt : ∀ i, i < n → (nm[i]?.getD 0).toNat < n := fun i hi => by
    have := hpi i hi
    rw [List.getElem?_eq_getElem (by omega), Option.getD_some]
    omega
  refine ⟨fun i => (nm[i]?.getD 0).toNat, sg, ⟨by rw [List.length_map, hl, hn], fun i hi => ?_, fun i hi => ?_, fun i hi => ?_, fun i hi => ?_, fun i hi => ?_⟩, hat⟩ <;> rw [hn] at *
  · exact hlt i hi
  · exact (hsg i hi).1
  · show (nm[sg i]?.getD 0).toNat = i
    rw [(hsg i hi).2]
    rfl
  · show sg (nm[i]?.getD 0).toNat = i
    obtain ⟨q, hq⟩ : ∃ q, q = (nm[i]?.getD 0).toNat := ⟨_, rfl⟩
    rw [← hq]
    obtain ⟨h1, h2⟩ := hsg q (by rw [hq]; exact hlt i hi)
    have h3 : nm[sg q]?.getD 0 = nm[i]?.getD 0 := by rw [h2, hq]; exact (hat i hi).symm
    rw [List.getElem?_eq_getElem (show sg q < nm.length by omega), List.getElem?_eq_getElem (show i < nm.length by omega), Option.getD_some, Option.getD_some] at h3
    exact (List.getElem_inj hnd).1 h3
  · rw [List.getElem?_map, List.getElem?_eq_getElem (by omega)]
    simp only [Option.map_some, Option.getD_some]
    unfold atF
    rfl

/-- What the memory holds while both halls are asked. -/
structure NB (w : World) (vh vx : Value) (D : Nat) (Ax At As An : Option Addr) (n : Nat) (tx st s0 nm : List Int) (W : World) : Prop where
  bh : Boxed W w.heap.size 24 vh
  bx : Boxed W D 24 vx
  ix : IntsAt W W.heap.size Ax n tx
  it : IntsAt W W.heap.size At n st
  is : IntsAt W W.heap.size As n s0
  im : IntsAt W W.heap.size An n nm
  bl : Below w.heap.size w W
theorem NB.later {w W W' : World} {vh vx : Value} {D : Nat} {Ax At As An : Option Addr} {n : Nat} {tx st s0 nm : List Int} (h : NB w vh vx D Ax At As An n tx st s0 nm W) (hb : Below W.heap.size W W') : NB w vh vx D Ax At As An n tx st s0 nm W' :=
  ⟨bxBelow h.bh hb h.bh.lt, bxBelow h.bx hb h.bx.lt, (h.ix.below hb (Nat.le_refl _)).more hb.size, (h.it.below hb (Nat.le_refl _)).more hb.size, (h.is.below hb (Nat.le_refl _)).more hb.size, (h.im.below hb (Nat.le_refl _)).more hb.size, h.bl.trans (hb.mono h.bl.size)⟩
end Go.Proofs.YtdpehmdmgijcmaaGreat

/- TurnNamed: the facts that the walk asks for. -/
namespace Go.Proofs.YtdpehmdmgijcmaaGreat
open Go.RowKit Go.Shelf

structure Named (ts s0 tx st nm : List Int) (n win winx : Nat) : Prop where
  hw : IsWin ts win
  hwx : IsWin tx winx
  hcx : checkHallF tx = 0
  hsx : statedF tx st = 0
  circ : (circleR tx winx).2 = (circleR ts win).2 ∧ (circleR tx winx).1.length = (circleR ts win).1.length
  cnt : (tabE tx).1.length = (tabE ts).1.length
  next : (nextR tx st).2 = (nextR ts s0).2 ∧ (nextR tx st).1.length = (nextR ts s0).1.length
  lasts : (lastsR tx st).2 = (lastsR ts s0).2 ∧ (lastsR tx st).1.length = (lastsR ts s0).1.length
  both : (nextR ts s0).2 = 0 ↔ (lastsR ts s0).2 = 5
  few : (nextR ts s0).1.length ≤ 5
  back : ∀ j, j < (nextR tx st).1.length → ∃ i k : Nat, (nextR tx st).1[j]?.getD 0 = (i : Int) ∧ i < n ∧ k < (nextR ts s0).1.length ∧ (nextR ts s0).1[k]?.getD 0 = nm[i]?.getD 0

theorem next_few {ts ss : List Int} (hv : Valid ts) (hs : statedF ts ss = 0) : (nextR ts ss).1.length ≤ 5 := by
  have h5 := hv.h5
  unfold nextR
  rw [if_neg (by simp [hs])]
  split
  · have h := visitsF_len (ts := ts) (p := plOf ss)
    simp only
    unfold nextF
    rw [List.length_map]
    have := List.length_filter_le (fun x : Nat × Pl => decide (0 < mget 0 (tabE ts).1 x.2)) (visitsF ts (plOf ss))
    omega
  · simp

theorem named_pure {ts s0 nm : List Int} {n : Nat} (hc : checkHallF ts = 0) (hn : ts.length = n) (hst : statedF ts s0 = 0) (hperm : nm.Perm (allL n)) :
    ∃ win winx : Nat, Named ts s0 (nm.map (atF ts)) (nm.map (atF s0)) nm n win winx := by
  have hv := valid_of hc
  obtain ⟨pi, sg, hiso, hpi⟩ := iso_names hn hperm
  have hnl : nm.length = n := by rw [hperm.length_eq, allL_len]
  have hcx : checkHallF (nm.map (atF ts)) = 0 := by
    rw [hall_perm (ts := ts), hc]
    have h := hperm.map (atF ts)
    rw [at_all hn] at h
    exact h
  have hx := valid_of hcx
  have hget : ∀ i, i < ts.length → (nm.map (atF s0))[i]?.getD 0 = s0[pi i]?.getD 0 := fun i hi => by
    have h := hpi i (by omega)
    have hi' : i < nm.length := by omega
    rw [List.getElem?_map, List.getElem?_eq_getElem hi', Option.map_some, Option.getD_some]
    rw [List.getElem?_eq_getElem hi', Option.getD_some] at h
    rw [h]
    unfold atF
    rw [Int.toNat_natCast]
  have hsm := (iso_state hv hiso (stated_states hst).2 (by rw [List.length_map]; omega) hget).2
  have hsx : statedF (nm.map (atF ts)) (nm.map (atF s0)) = 0 := by
    unfold statedF
    rw [if_neg (by simp [hcx]), if_neg (by simp), if_pos]
    exact stateOk_true fun i hi => ((states_iff hx.nonneg).1 hsm).2 i hi
  obtain ⟨win, hw⟩ := win_exists ts (fun h => by have := hv.h1; rw [h] at this; simp at this)
  obtain ⟨winx, hwx⟩ := win_exists (nm.map (atF ts)) (fun h => by have := hx.h1; rw [h] at this; simp at this)
  have hci := iso_circle hc hcx hiso hw hwx
  obtain ⟨n1, n2, n3, n4, n5, n6⟩ := iso_next hiso hst hsx hget
  refine ⟨win, winx, hw, hwx, hcx, hsx, ⟨hci.1.symm, hci.2.symm⟩, (iso_count hv hx hiso).symm, ⟨n1.symm, n2.symm⟩, ⟨n4.symm, n5.symm⟩, n6, next_few hv hst, fun j hj => ?_⟩
  obtain ⟨i, hxi, hi, hm⟩ := n3 _ (List.getElem_mem hj)
  obtain ⟨k, hk, hke⟩ := List.getElem_of_mem hm
  refine ⟨i, k, by rw [List.getElem?_eq_getElem hj, Option.getD_some]; exact hxi, by omega, hk, ?_⟩
  rw [List.getElem?_eq_getElem hk, Option.getD_some, hke]
  exact (hpi i (by omega)).symm
end Go.Proofs.YtdpehmdmgijcmaaGreat
