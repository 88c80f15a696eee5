/- Parts of a proof: DR FA. -/
import Derived.Test.YthjgecblkagelaaGreatM31

/- What the program and the references say of doom, counts and next visits is the same: pure part. -/
namespace Go.Proofs.YthjgecblkagelaaGreat
open Go.RowKit Go.Shelf

/-! ### CheckDoom -/
theorem below_iff {ts : List Int} (hv : Valid ts) {gs : List (List Int × Int)} (hn : ∀ s ∈ gs, Nice ts (plOf s.1)) (hli : ∀ s ∈ gs, plList (plOf s.1) = s.1) {y : Pl} (hy : Nice ts y) (left : Int) : belowF gs (plList y) left = true ↔ ∃ s ∈ gs, s.2 < left ∧ LeP ts (plOf s.1) y := by
  unfold belowF
  constructor
  · intro hb
    obtain ⟨s', hs', e⟩ := List.any_eq_true.1 hb
    obtain ⟨e1, e2⟩ := Bool.and_eq_true_iff.1 e
    rw [← hli s' hs'] at e2
    exact ⟨s', hs', of_decide_eq_true e1, (least_iff hv hy (hn s' hs')).1 e2⟩
  · rintro ⟨s, hs, h1, h2⟩
    refine List.any_eq_true.2 ⟨s, hs, Bool.and_eq_true_iff.2 ⟨decide_eq_true h1, ?_⟩⟩
    have := (least_iff hv hy (hn s hs)).2 h2
    rwa [hli s hs] at this
theorem checkDoom_same (ts ss : List Int) (gs : List (List Int × Int)) : checkDoomF ts ss gs = rcheckDoomF ts ss gs := by
  unfold checkDoomF rcheckDoomF
  by_cases h : statedF ts ss = 0
  case neg => rw [if_pos h, if_pos h]
  have hs0 : ¬ (statedF ts ss ≠ 0) := by simp [h]
  rw [if_neg hs0, if_neg hs0]
  by_cases hk : 1000 < gs.length
  · rw [if_pos hk, if_pos hk]
  rw [if_neg hk, if_neg hk]
  cases hb : gs.any (stepBad ts) with
  | true => rw [if_pos rfl, if_pos rfl]
  | false =>
    have hf0 : ¬ (false = true) := by simp
    rw [if_neg hf0, if_neg hf0]
    have hv := valid_of (stated_hall h)
    have h5 := hv.h5
    have hps := nice_stated h
    have hbn := bad_none hb
    have hn : ∀ s ∈ gs, Nice ts (plOf s.1) := fun s hs => nice_stated (hbn s hs).1
    have hli : ∀ s ∈ gs, plList (plOf s.1) = s.1 := fun s hs => plList_of (by have := (stated_valid (hbn s hs).1).2.1; omega)
    have hll := fun {y} hy => ll_spec hv (fun s hs => (hbn s hs).2.2) hn (y := y) hy
    have hpl : plList (plOf ss) = ss := plList_of (by have := (stated_valid h).2.1; omega)
    have e1 : (gs.all fun s => (visitsF ts (plOf s.1)).all fun x => !badVisit (llF ts gs) s.2 x) = !gs.any (stepWrong ts gs) := by
      rw [List.not_any_eq_all_not]
      rw [Bool.eq_iff_iff, List.all_eq_true, List.all_eq_true]
      refine forall_congr' fun s => forall_congr' fun hs => ?_
      rw [List.all_eq_true]
      unfold stepWrong
      rcases rvisit hv (hn s hs) with ⟨ys, a1, a2⟩ | ⟨a1, a2⟩
      · rw [hli s hs] at a1
        rw [a1]
        simp only [Bool.not_eq_true', List.any_eq_false, List.mem_range]
        constructor
        · intro H i hi
          obtain ⟨y, hy, e⟩ := a2 i hi
          have hyn : Nice ts y := ((visits_mem h5).1 hy).nice hv (hn s hs)
          have := H _ hy
          unfold badVisit at this
          have hlt : mget 0 (llF ts gs) y < s.2 := by simpa using this
          rw [e]
          rw [Bool.not_eq_false]
          refine (below_iff hv hn hli hyn s.2).2 ?_
          rcases (hll hyn).ex with e3 | ⟨s', hs', e4, e5⟩
          · have := (hbn s hs).2.2; omega
          · exact ⟨s', hs', by omega, e4⟩
        · intro H y hy
          have hyn : Nice ts y.2 := ((visits_mem h5).1 hy).nice hv (hn s hs)
          obtain ⟨z, hz, e⟩ := a2 y.1 (visit_fst hy)
          have := H y.1 (visit_fst hy)
          rw [e, visit_one hv hz (show (y.1, y.2) ∈ _ from hy)] at this
          obtain ⟨s', hs', e4, e5⟩ := (below_iff hv hn hli hyn s.2).1 (by simpa using this)
          have := (hll hyn).le s' hs' e5
          unfold badVisit
          simp
          omega
      · rw [hli s hs] at a1
        rw [a1, a2]
        simp
    have e2 : decide (mget 0 (llF ts gs) (plOf ss) ≠ 1099511627777) = belowF gs ss 2199023255552 := by
      rw [Bool.eq_iff_iff, decide_eq_true_iff]
      rw [show (belowF gs ss 2199023255552 = true) = (belowF gs (plList (plOf ss)) 2199023255552 = true) by rw [hpl], below_iff hv hn hli hps]
      constructor
      · intro hne
        rcases (hll hps).ex with e3 | ⟨s', hs', e4, e5⟩
        · exact absurd e3 hne
        · exact ⟨s', hs', by have := (hbn s' hs').2.2; omega, e4⟩
      · rintro ⟨s', hs', e4, e5⟩
        have := (hll hps).le s' hs' e5
        have := (hbn s' hs').2.2
        omega
    unfold doomedF
    rw [e1, e2]
    cases gs.any (stepWrong ts gs) <;> cases belowF gs ss 2199023255552 <;> rfl
/-- The reference's error of Doom. -/
noncomputable def doomErrF (ts ss : List Int) : Int := if statedF ts ss ≠ 0 then statedF ts ss else if safeF ts ss then 5 else 0
theorem doom_err (ts ss : List Int) : (doomR ts ss).2 = doomErrF ts ss := by
  unfold doomErrF
  by_cases h : statedF ts ss = 0
  · rw [if_neg (by simp [h])]
    unfold safeF
    by_cases hd : plOf ss ∈ dq ts
    · rw [if_neg (by simpa using hd), (either_doomed h hd).1]
    · rw [if_pos (by simpa using hd), (either_safe h hd).1]
  · rw [if_pos h]
    unfold doomR
    rw [if_pos h]

/-! ### Count -/
theorem mdel_gone {α : Type} (p : Pl) : ∀ {m : List (Pl × α)}, Keys m → p ∉ (mdel p m).map (·.1)
  | [], _ => by simp [mdel]
  | x :: m, h => by
    unfold Keys at h
    rw [List.map_cons, List.nodup_cons] at h
    unfold mdel
    by_cases e : p = x.1
    · rw [if_pos e, e]
      exact h.1
    · rw [if_neg e, List.map_cons, List.mem_cons, not_or]
      exact ⟨e, mdel_gone p h.2⟩
theorem mdel_mem {α : Type} (p k : Pl) (m : List (Pl × α)) (h : k ∈ (mdel p m).map (·.1)) : k ∈ m.map (·.1) := ((mdel_sub p m).map (·.1)).subset h
def KeyIn (ts : List Int) (s : CSt) : Prop := ∀ x ∈ s.1.map (·.1), Nice ts x ∧ x ∉ s.2.2
theorem tab_keys (ts : List Int) : ∀ (l : List Pl) (s : CSt), ∀ x ∈ (l.foldl (tabStep ts) s).1.map (·.1), x ∈ s.1.map (·.1) ∨ (x ∈ l ∧ pullF ts allF x ≠ none)
  | [], s, x, h => .inl h
  | p :: l, s, x, h => by
    rw [List.foldl_cons] at h
    rcases tab_keys ts l _ x h with h | ⟨h1, h2⟩
    · cases hp : pullF ts allF p with
      | some q =>
        rw [tabStep_some (s := s) hp] at h
        rcases (mset_keys_mem _ _ _ _).1 h with e | h
        · exact .inr ⟨by simp [e], by rw [e, hp]; simp⟩
        · exact .inl h
      | none =>
        rw [tabStep_none (s := s) hp] at h
        exact .inl h
    · exact .inr ⟨by simp [h1], h2⟩
theorem keyIn_zero {ts : List Int} (hv : Valid ts) : KeyIn ts (tab0 ts) := by
  intro x hx
  unfold tab0 tabL at hx
  rcases tab_keys ts _ _ x hx with h | ⟨h1, h2⟩
  · simp at h
  · refine ⟨(nice_mem hv).1 h1, ?_⟩
    have := (tab_fold ts ((statesL ts).map plOf) ([], [], []) (by simp [Keys]) (fun x => rfl)).2.2.1
    unfold tab0 tabL
    rw [this]
    simp [h2]
theorem keyIn_fold {ts : List Int} (hv : Valid ts) {k : Nat} {s : CSt} {p : Pl} (hI : Inv ts k s) (hp : s.2.2[k]? = some p) : ∀ (l2 l1 : List Pl) (c : CSt), l1 ++ l2 = beforeF ts p → Mid ts k s p l1 c → (∀ z ∈ c.1.map (·.1), Nice ts z ∧ z ∉ s.2.2 ∧ z ∉ c.2.2) →
    ∀ z ∈ (condL p c l2).1.map (·.1), Nice ts z ∧ z ∉ s.2.2 ∧ z ∉ (condL p c l2).2.2
  | [], l1, c, _, _, hK => hK
  | x :: l2, l1, c, he, hM, hK => by
    have hpm : p ∈ s.2.2 := List.mem_of_getElem? hp
    have hpn := hI.nice p hpm
    have hnd := before_nodup hv hpn
    rw [← he] at hnd
    have hx1 : x ∉ l1 := fun h => (List.nodup_append.1 hnd).2.2 x h x (by simp) rfl
    have hx : x ∈ beforeF ts p := by rw [← he]; simp
    obtain ⟨hxn, i, hsu⟩ := (before_mem hv hpn).1 hx
    have hpt : p ∉ s.2.2.take k := by
      intro h
      obtain ⟨j, hj, e⟩ := List.getElem_of_mem h
      rw [List.length_take] at hj
      rw [List.getElem_take] at e
      have hk : k < s.2.2.length := (List.getElem?_eq_some_iff.1 hp).1
      have e2 : s.2.2[k] = p := (List.getElem?_eq_some_iff.1 hp).2
      have := (List.getElem_inj hI.nd).1 (e.trans e2.symm)
      omega
    have hxs : x ∉ s.2.2 := fun h => hpt ((hI.suc x h (i, p) ((visits_mem hv.h5).2 hsu)).1)
    have hxc : x ∉ c.2.2 := fun h => hx1 (hM.sub x h).1
    refine keyIn_fold hv hI hp l2 (l1 ++ [x]) (condStep p c x) (by rw [← he]; simp) (mid_step hv hI hp hM hx hx1) fun z hz => ?_
    by_cases h1 : mget 0 c.1 x - 1 = 0
    · rw [condStep_zero rfl h1] at hz ⊢
      have hzx : z ≠ x := fun e => mdel_gone x (hM.keys.mset x _) (e ▸ hz)
      rcases (mset_keys_mem _ _ _ _).1 (mdel_mem _ _ _ hz) with e | h
      · exact absurd e hzx
      · obtain ⟨a, b, d⟩ := hK z h
        exact ⟨a, b, by simp [d, hzx]⟩
    · rw [condStep_go rfl h1] at hz ⊢
      rcases (mset_keys_mem _ _ _ _).1 hz with e | h
      · rw [e]
        exact ⟨hxn, hxs, hxc⟩
      · exact hK z h
theorem mid_zero {ts : List Int} {k : Nat} {s : CSt} {p : Pl} (hI : Inv ts k s) : Mid ts k s p [] (s.1, s.2.1, []) := by
  refine ⟨by simp, fun x hx => by simp at hx, hI.keys, fun x hx hn _ => ?_, fun x hx => ?_, fun x => by simp⟩
  · have := hI.out x hx hn
    simp
    omega
  · rcases hx with h | h
    · exact hI.inn x h
    · simp at h
theorem keyIn_all {ts : List Int} (hv : Valid ts) : ∀ k, KeyIn ts (tabN ts k)
  | 0 => keyIn_zero hv
  | k + 1 => by
    have ih := keyIn_all hv k
    have hI := inv_all hv k
    rcases Nat.lt_or_ge k (tabN ts k).2.2.length with h | h
    · have hp := List.getElem?_eq_getElem h
      rw [tabN_some hp]
      have := keyIn_fold hv hI hp (beforeF ts (tabN ts k).2.2[k]) [] ((tabN ts k).1, (tabN ts k).2.1, []) rfl (mid_zero hI) (fun z hz => ⟨(ih z hz).1, (ih z hz).2, by simp⟩)
      intro x hx
      obtain ⟨a, b, c⟩ := this x hx
      refine ⟨a, fun hm => ?_⟩
      rcases List.mem_append.1 hm with h | h
      · exact b h
      · exact c h
    · rw [tabN_none h]
      exact ih
theorem safe_keys {ts : List Int} (hv : Valid ts) (x : Pl) : x ∈ (tabE ts).1.map (·.1) ↔ Nice ts x ∧ x ∉ dq ts := by
  constructor
  · intro h
    have := keyIn_all hv 1000
    rw [← tabE_eq] at this
    exact this x h
  · rintro ⟨h1, h2⟩
    have := (dq_safe hv h1).2 h2
    rcases Classical.em (x ∈ (tabE ts).1.map (·.1)) with h | h
    · exact h
    · rw [mget_absent 0 x h] at this
      omega
theorem count_safe {ts rs : List Int} (hv : Valid ts) (h : RowsDone ts rs) : negs rs = (tabE ts).1.length := by
  have e1 : rs = (statesL ts).map (rowAt ts rs) := by
    refine List.ext_getElem? fun k => ?_
    rw [List.getElem?_map]
    by_cases hk : k < (statesL ts).length
    · have := row_at (rs := rs) hv (List.getElem?_eq_getElem hk)
      rw [List.getElem?_eq_getElem hk, Option.map_some, this, List.getElem?_eq_getElem (show k < rs.length by rw [h.len]; exact hk)]
      rfl
    · rw [List.getElem?_eq_none (by rw [h.len]; omega), List.getElem?_eq_none (by omega)]
      rfl
  have e2 : negs rs = ((allP ts).filter fun x => decide (x ∉ dq ts)).length := by
    unfold negs
    rw [e1, List.countP_map, ← List.countP_eq_length_filter]
    unfold allP
    rw [List.countP_map]
    refine List.countP_congr fun xs hx => ?_
    have := done_safe hv h hx
    unfold safeF at this
    simp only [Function.comp_apply]
    rw [this]
  have e3 : ((tabE ts).1.map (·.1)).Perm ((allP ts).filter fun x => decide (x ∉ dq ts)) := by
    refine (List.perm_ext_iff_of_nodup (dq_inv hv).keys ((allP_nodup hv).filter _)).2 fun x => ?_
    rw [safe_keys hv, List.mem_filter, nice_mem hv]
    simp
  rw [e2, ← e3.length_eq, List.length_map]

/-! ### Next -/
noncomputable def leadsF (ts ys : List Int) : List Int := ((List.range ts.length).filter fun w => safeF ts (ys.set w 0)).map fun w : Nat => (w : Int)
noncomputable def rnextR (ts ss : List Int) : List Int × Int := if statedF ts ss ≠ 0 then ([], statedF ts ss) else match rpullF ts ss (allL ts.length) with
  | none => ([], 17)
  | some ys => if leadsF ts ys = [] then ([], 17) else (leadsF ts ys, 0)
theorem visits_list {ts : List Int} {p : Pl} (h : pullF ts allF p ≠ none) : (visitsF ts p).map (·.1) = List.range ts.length := by
  unfold visitsF
  cases hq : pullF ts allF p with
  | none => exact absurd hq h
  | some q => simp [List.map_map, Function.comp_def]
theorem leads_next {ts xs ys : List Int} (hv : Valid ts) (hx : xs ∈ statesL ts) (h : rpullF ts xs (allL ts.length) = some ys) : leadsF ts ys = nextF (tabE ts).1 (visitsF ts (plOf xs)) := by
  obtain ⟨hp, hpl⟩ := nice_plOf hv hx
  have hne : pullF ts allF (plOf xs) ≠ none := fun e => by
    obtain ⟨y, hy, -⟩ := visited_state hv hx h (i := 0) (by have := hv.h1; omega)
    rw [visits_none e] at hy
    cases hy
  unfold leadsF nextF
  rw [← visits_list hne, List.filter_map, List.map_map]
  have : ∀ y ∈ visitsF ts (plOf xs), ((fun w => safeF ts (ys.set w 0)) ∘ fun x : Nat × Pl => x.1) y = decide (0 < mget 0 (tabE ts).1 y.2) := fun y hy => by
    obtain ⟨z, hz, -, hzn, -, hzp⟩ := visited_state hv hx h (visit_fst hy)
    rw [← visit_one hv (show (y.1, y.2) ∈ _ from hy) hz] at hzn hzp
    simp only [Function.comp_apply]
    unfold safeF
    rw [hzp]
    exact decide_eq_decide.2 (dq_safe hv hzn).symm
  rw [List.filter_congr this]
  rfl
theorem next_same (ts ss : List Int) : nextR ts ss = rnextR ts ss := by
  unfold rnextR
  by_cases h : statedF ts ss = 0
  case neg =>
    unfold nextR
    rw [if_pos h, if_pos h]
  rw [if_neg (by simp [h])]
  have hc := stated_hall h
  have hv := valid_of hc
  have hps := nice_stated h
  have hx : ss ∈ statesL ts := by
    have := (nice_list hv hps).1
    rwa [plList_of (by have := (stated_valid h).2.1; have := hv.h5; omega)] at this
  cases hq : rpullF ts ss (allL ts.length) with
  | none =>
    have hd : plOf ss ∈ dq ts := by
      rcases Classical.em (plOf ss ∈ dq ts) with hd | hd
      · exact hd
      · obtain ⟨y, hy, -⟩ := dq_out hv hps hd
        have hr := rvisit hv hps
        rw [(nice_plOf hv hx).2, hq] at hr
        rcases hr with ⟨_, e, -⟩ | ⟨-, e⟩
        · cases e
        · rw [e] at hy; cases hy
    exact (either_doomed h hd).2
  | some ys =>
    show nextR ts ss = if leadsF ts ys = [] then ([], 17) else (leadsF ts ys, 0)
    rw [leads_next hv hx hq]
    by_cases hd : plOf ss ∈ dq ts
    · rw [(either_doomed h hd).2, if_pos]
      unfold nextF
      rw [List.map_eq_nil_iff, List.filter_eq_nil_iff]
      intro y hy
      have hyn : Nice ts y.2 := ((visits_mem hv.h5).1 hy).nice hv hps
      have := (dq_safe hv hyn)
      have h1 := (dq_suc hv hd hy).1
      simp only [decide_eq_true_iff]
      exact fun h2 => (this.1 h2) h1
    · obtain ⟨x, l, e⟩ := (either_safe h hd).2
      have e2 : nextF (tabE ts).1 (visitsF ts (plOf ss)) = x :: l := by
        have e' := e
        unfold nextR at e'
        rw [if_neg (by simp [h]), if_pos ((dq_safe hv hps).2 hd)] at e'
        exact (Prod.mk.inj e').1
      rw [e, if_neg (by rw [e2]; simp), e2]
theorem stated_states {ts ss : List Int} (h : statedF ts ss = 0) : Valid ts ∧ ss ∈ statesL ts := by
  have hv := valid_of (stated_hall h)
  have := (nice_list hv (nice_stated h)).1
  rw [plList_of (by have := (stated_valid h).2.1; have := hv.h5; omega)] at this
  exact ⟨hv, this⟩
end Go.Proofs.YthjgecblkagelaaGreat

/- Which windows must wait: the reference's and the program's answers are the same. -/
namespace Go.Proofs.YthjgecblkagelaaGreat
open Go.RowKit Go.Shelf

/-! ### sets of windows, by bits -/
def bitsN (n b : Nat) : List Nat := (List.range n).filter fun i => b.testBit i
def bitsL (n b : Nat) : List Int := (bitsN n b).map fun i : Nat => (i : Int)
theorem bitsL_mem {n b : Nat} (j : Nat) : (j : Int) ∈ bitsL n b ↔ j < n ∧ b.testBit j = true := by
  unfold bitsL bitsN
  rw [List.mem_map]
  constructor
  · rintro ⟨i, hi, e⟩
    obtain rfl : i = j := by omega
    simpa using hi
  · intro h
    exact ⟨j, by simpa using h, rfl⟩
theorem bitsL_in {n b : Nat} : ∀ p ∈ bitsL n b, 0 ≤ p ∧ p < (n : Int) := by
  intro p hp
  obtain ⟨i, hi, rfl⟩ := List.mem_map.1 hp
  have := List.mem_range.1 (List.mem_filter.1 hi).1
  show (0 : Int) ≤ (i : Int) ∧ (i : Int) < n
  omega
theorem bitsL_nodup (n b : Nat) : (bitsL n b).Nodup := by
  unfold bitsL bitsN
  rw [List.nodup_iff_pairwise_ne, List.pairwise_map]
  exact (List.nodup_range.filter _).imp fun h e => h (by omega)
theorem bits_flip {n b i : Nat} (hb : b < 2 ^ n) (hi : i < n) : (2 ^ n - 1 - b).testBit i = !b.testBit i := by
  rw [show 2 ^ n - 1 - b = 2 ^ n - (b + 1) by omega, Nat.testBit_two_pow_sub_succ hb]
  simp [hi]
theorem bitsL_len (n b : Nat) : (bitsL n b).length ≤ n := by
  unfold bitsL bitsN
  rw [List.length_map]
  exact Nat.le_trans (List.length_filter_le _ _) (by simp)

theorem nice_set {ts : List Int} {q : Pl} (hv : Valid ts) (hq : Nice ts q) {i : Nat} (hi : i < ts.length) : Nice ts (q.set i 0) := by
  have h5 := hv.h5
  refine ⟨⟨fun j hj => ?_, by rw [Pl.set_n]; exact hq.1.2⟩, fun j hj => ?_⟩
  · rw [Pl.get_set _ _ _ _ (by omega)]
    have h1 := hq.1.1 j hj
    have h2 := hv.nonneg
    split
    · omega
    · exact h1
  · rw [Pl.get_set _ _ _ _ (by omega), if_neg (by omega)]
    exact hq.2 j hj
theorem list_set {ts : List Int} {q : Pl} (hv : Valid ts) (hq : Nice ts q) {i : Nat} (hi : i < ts.length) : (plList q).set i 0 = plList (q.set i 0) := by
  have h5 := hv.h5
  have hl := plList_len hq.1.2 h5
  have hq2 := (nice_set hv hq hi).1.2
  have hl2 := plList_len hq2 h5
  refine ints_ext (by rw [List.length_set, hl, hl2]) fun j hj => ?_
  rw [List.length_set, hl] at hj
  rw [plList_get hq2 h5 j hj, Pl.get_set _ _ _ _ (by omega), List.getElem?_set]
  by_cases hij : i = j
  · subst hij
    simp [hl, hi]
  · rw [if_neg hij, if_neg (fun e => hij e.symm), plList_get hq.1.2 h5 j hj]

/-- A pull of some windows, by the program's function and by the reference's list. -/
theorem pull_both {ts ss : List Int} (h0 : statedF ts ss = 0) (f : Nat → Bool) (ps : List Int) (hnd : ps.Nodup) (hin : ∀ p ∈ ps, 0 ≤ p ∧ p < (ts.length : Int)) (hf : ∀ j : Nat, j < ts.length → (f j = true ↔ (j : Int) ∈ ps)) :
    (∃ q, pullF ts f (plOf ss) = some q ∧ rpullF ts ss ps = some (plList q) ∧ Nice ts q) ∨ (pullF ts f (plOf ss) = none ∧ rpullF ts ss ps = none) := by
  obtain ⟨hv, hl, hg⟩ := stated_valid h0
  have hnice := nice_stated h0
  have h5 := hv.h5
  have hget : ∀ j, (plOf ss).get j = ss[j]?.getD 0 := plOf_get ss (by omega)
  have hn0 : (plOf ss).n = ts.length := by show (ss.length : Int) = _; omega
  have hmem : ∀ j : Nat, j < ts.length → j ∈ (List.finRange ts.length).map (·.1) := fun j hj => List.mem_map.2 ⟨⟨j, hj⟩, List.mem_finRange _, rfl⟩
  have A := pullL_spec ts f h5 (List.finRange ts.length) (plOf ss) (List.nodup_finRange _)
  have B := rpull_spec ts ps ss hnd (fun p hp => by have := hin p hp; omega)
  unfold pullF pullL rpullF
  rcases A with ⟨q, a1, a2, a3, a4⟩ | ⟨a1, i, -, a2, a3⟩
  · rcases B with ⟨ys, b1, b2, b3, b4⟩ | ⟨b1, p, hp, b2⟩
    · have hq : Nice ts q := by
        refine ⟨pullF_good hg h5 a1, fun j hj => ?_⟩
        rw [a3 j, if_neg (fun h => by
          obtain ⟨k, -, e⟩ := List.mem_map.1 h.2
          have := k.2
          omega)]
        exact hnice.2 j hj
      refine .inl ⟨q, a1, ?_, hq⟩
      rw [b1]
      congr 1
      have hqn := hq.1.2
      refine ints_ext (by rw [plList_len hqn h5]; omega) fun j hj => ?_
      rw [b2, hl] at hj
      rw [plList_get hqn h5 j hj, a3 j, b3 j, hget j]
      have : (f j = true ∧ j ∈ (List.finRange ts.length).map (·.1)) ↔ (j : Int) ∈ ps := ⟨fun h => (hf j hj).1 h.1, fun h => ⟨(hf j hj).2 h, hmem j hj⟩⟩
      simp only [this]
    · exfalso
      have hpp := hin p hp
      have := a4 ⟨p.toNat, by omega⟩ (List.mem_finRange _) ((hf p.toNat (by omega)).2 (by rwa [show ((p.toNat : Nat) : Int) = p by omega]))
      rw [hget] at this
      have hgj := hg.1 p.toNat (by omega)
      rw [hget] at hgj
      simp only at this
      omega
  · rcases B with ⟨ys, b1, b2, b3, b4⟩ | ⟨b1, p, hp, b2⟩
    · exfalso
      have hm : ((i.1 : Nat) : Int) ∈ ps := (hf i.1 i.2).1 a2
      have := b4 _ hm
      rw [hget] at a3
      simp only [Int.toNat_natCast] at this
      omega
    · exact .inr ⟨a1, b1⟩
theorem pull_lacks {ts ss : List Int} (h0 : statedF ts ss = 0) {b : Nat} (hb : b < 2 ^ ts.length) :
    (∃ q, pullF ts (lacksF (bitsL ts.length b)) (plOf ss) = some q ∧ rpullF ts ss (bitsL ts.length (2 ^ ts.length - 1 - b)) = some (plList q) ∧ Nice ts q) ∨
      (pullF ts (lacksF (bitsL ts.length b)) (plOf ss) = none ∧ rpullF ts ss (bitsL ts.length (2 ^ ts.length - 1 - b)) = none) :=
  pull_both h0 _ _ (bitsL_nodup _ _) bitsL_in fun j hj => by
    have e1 := bitsL_mem (n := ts.length) (b := b) j
    rw [bitsL_mem, bits_flip hb hj]
    unfold lacksF
    cases hc : b.testBit j <;> simp [e1, hc, hj]

/-! ### is it enough that these wait -/
noncomputable def goodB (ts ss : List Int) (b : Nat) : Bool := match rpullF ts ss (bitsL ts.length (2 ^ ts.length - 1 - b)) with
  | none => false
  | some ys => decide (leadsF ts ys ≠ [])
theorem leads_any {ts : List Int} {q : Pl} (hv : Valid ts) (hq : Nice ts q) : leadsF ts (plList q) ≠ [] ↔ ∃ i, i < ts.length ∧ q.set i 0 ∉ dq ts := by
  unfold leadsF
  rw [Ne, List.map_eq_nil_iff, List.filter_eq_nil_iff]
  constructor
  · intro h
    refine Classical.byContradiction fun hn => h fun i hi hs => hn ⟨i, List.mem_range.1 hi, ?_⟩
    unfold safeF at hs
    rw [decide_eq_true_iff, list_set hv hq (List.mem_range.1 hi), (nice_list hv (nice_set hv hq (List.mem_range.1 hi))).2] at hs
    exact hs
  · rintro ⟨i, hi, hd⟩ h
    refine h i (List.mem_range.2 hi) ?_
    unfold safeF
    rw [decide_eq_true_iff, list_set hv hq hi, (nice_list hv (nice_set hv hq hi)).2]
    exact hd
theorem good_same {ts ss : List Int} (h0 : statedF ts ss = 0) {b : Nat} (hb : b < 2 ^ ts.length) : goodB ts ss b = waitF ts (tabE ts).1 (plOf ss) (bitsL ts.length b) := by
  obtain ⟨hv, -, -⟩ := stated_valid h0
  unfold goodB waitF
  rcases pull_lacks h0 hb with ⟨q, h1, h2, hq⟩ | ⟨h1, h2⟩
  · rw [h1, h2]
    simp only
    rw [Bool.eq_iff_iff, decide_eq_true_iff, leads_any hv hq, List.any_eq_true]
    constructor
    · rintro ⟨i, hi, hd⟩
      exact ⟨i, List.mem_range.2 hi, by rw [decide_eq_true_iff]; exact (dq_safe hv (nice_set hv hq hi)).2 hd⟩
    · rintro ⟨i, hi, hd⟩
      have hi := List.mem_range.1 hi
      rw [decide_eq_true_iff] at hd
      exact ⟨i, hi, (dq_safe hv (nice_set hv hq hi)).1 hd⟩
  · rw [h1, h2]

/-! ### the reference -/
def earlierF (xs ys : List Int) : Bool := decide (gcmpF xs ys < 0)
noncomputable def rwaitStep (ts ss : List Int) (o : Option (List Int)) (b : Nat) : Option (List Int) := if goodB ts ss b then (match o with
  | none => some (bitsL ts.length b)
  | some best => if earlierF (bitsL ts.length b) best then some (bitsL ts.length b) else some best) else o
noncomputable def rwaitF (ts ss : List Int) (k : Nat) : Option (List Int) := (List.range k).foldl (rwaitStep ts ss) none
noncomputable def rwaitR (ts ss : List Int) : List Int × Int := if statedF ts ss ≠ 0 then ([], statedF ts ss) else waitV (rwaitF ts ss (2 ^ ts.length))
theorem rwaitF_succ (ts ss : List Int) (k : Nat) : rwaitF ts ss (k + 1) = rwaitStep ts ss (rwaitF ts ss k) k := by
  unfold rwaitF
  rw [List.range_succ, List.foldl_append]
  rfl
theorem rwait_spec (ts ss : List Int) : ∀ k, (rwaitF ts ss k = none ∧ ∀ b, b < k → goodB ts ss b = false) ∨
    (∃ b, b < k ∧ rwaitF ts ss k = some (bitsL ts.length b) ∧ goodB ts ss b = true ∧ ∀ c, c < k → goodB ts ss c = true → gle (bitsL ts.length b) (bitsL ts.length c))
  | 0 => .inl ⟨rfl, fun b h => by omega⟩
  | k + 1 => by
    rw [rwaitF_succ]
    unfold rwaitStep
    cases hg : goodB ts ss k with
    | false =>
      rcases rwait_spec ts ss k with ⟨h1, h2⟩ | ⟨b, hb, h1, h2, h3⟩
      · refine .inl ⟨by simpa using h1, fun b hb => ?_⟩
        rcases Nat.lt_succ_iff_lt_or_eq.1 hb with h | rfl
        · exact h2 b h
        · exact hg
      · refine .inr ⟨b, by omega, by simpa using h1, h2, fun c hc hgc => ?_⟩
        rcases Nat.lt_succ_iff_lt_or_eq.1 hc with h | rfl
        · exact h3 c h hgc
        · rw [hg] at hgc; cases hgc
    | true =>
      simp only [if_true]
      rcases rwait_spec ts ss k with ⟨h1, h2⟩ | ⟨b, hb, h1, h2, h3⟩
      · rw [h1]
        refine .inr ⟨k, by omega, rfl, hg, fun c hc hgc => ?_⟩
        rcases Nat.lt_succ_iff_lt_or_eq.1 hc with h | rfl
        · rw [h2 c h] at hgc; cases hgc
        · rcases gle_total (bitsL ts.length c) (bitsL ts.length c) with h | h <;> exact h
      · rw [h1]
        simp only
        cases he : earlierF (bitsL ts.length k) (bitsL ts.length b) with
        | true =>
          simp only [if_true]
          unfold earlierF at he
          rw [decide_eq_true_iff] at he
          have hle : gle (bitsL ts.length k) (bitsL ts.length b) := by
            rcases gle_total (bitsL ts.length k) (bitsL ts.length b) with h | h
            · exact h
            · exact absurd he ((gcmpF_ge _ _).2 h)
          refine .inr ⟨k, by omega, rfl, hg, fun c hc hgc => ?_⟩
          rcases Nat.lt_succ_iff_lt_or_eq.1 hc with h | rfl
          · exact gle_trans hle (h3 c h hgc)
          · rcases gle_total (bitsL ts.length c) (bitsL ts.length c) with h | h <;> exact h
        | false =>
          unfold earlierF at he
          rw [decide_eq_false_iff_not, gcmpF_ge] at he
          refine .inr ⟨b, by omega, by simp, h2, fun c hc hgc => ?_⟩
          rcases Nat.lt_succ_iff_lt_or_eq.1 hc with h | rfl
          · exact h3 c h hgc
          · exact he

/-! ### all groups are all sets -/
def setsOk (n : Nat) : Bool := ((List.range (2 ^ n)).map (bitsL n)).isPerm (groupsS n)
theorem setsOk0 : setsOk 0 = true := by kernel_rfl
theorem setsOk1 : setsOk 1 = true := by kernel_rfl
theorem setsOk2 : setsOk 2 = true := by kernel_rfl
theorem setsOk3 : setsOk 3 = true := by kernel_rfl
theorem setsOk4 : setsOk 4 = true := by kernel_rfl
theorem setsOk5 : setsOk 5 = true := by kernel_rfl
theorem groups_mem {n : Nat} (h : n ≤ 5) (g : List Int) : g ∈ groupsS n ↔ ∃ b, b < 2 ^ n ∧ g = bitsL n b := by
  have key : setsOk n = true := by
    rcases (by omega : n = 0 ∨ n = 1 ∨ n = 2 ∨ n = 3 ∨ n = 4 ∨ n = 5) with rfl | rfl | rfl | rfl | rfl | rfl
    · exact setsOk0
    · exact setsOk1
    · exact setsOk2
    · exact setsOk3
    · exact setsOk4
    · exact setsOk5
  rw [← (List.isPerm_iff.1 key).mem_iff, List.mem_map]
  constructor
  · rintro ⟨b, hb, rfl⟩
    exact ⟨b, List.mem_range.1 hb, rfl⟩
  · rintro ⟨b, hb, rfl⟩
    exact ⟨b, List.mem_range.2 hb, rfl⟩
theorem find_least {f : List Int → Bool} : ∀ {gs : List (List Int)} {x : List Int}, gs.Pairwise gle → gs.find? f = some x → x ∈ gs ∧ f x = true ∧ ∀ y ∈ gs, f y = true → gle x y
  | [], x, _, h => by simp at h
  | g :: gs, x, hp, h => by
    rw [List.find?_cons] at h
    cases hg : f g with
    | true =>
      rw [hg] at h
      obtain rfl : g = x := by simpa using h
      refine ⟨by simp, hg, fun y hy _ => ?_⟩
      rcases List.mem_cons.1 hy with rfl | hy
      · rcases gle_total y y with h | h <;> exact h
      · exact (List.pairwise_cons.1 hp).1 y hy
    | false =>
      rw [hg] at h
      obtain ⟨h1, h2, h3⟩ := find_least (List.pairwise_cons.1 hp).2 h
      refine ⟨by simp [h1], h2, fun y hy hfy => ?_⟩
      rcases List.mem_cons.1 hy with rfl | hy
      · rw [hg] at hfy; cases hfy
      · exact h3 y hy hfy
/-- The first group that is enough. -/
theorem wait_first {ts ss : List Int} (h0 : statedF ts ss = 0) : waitG ts (tabE ts).1 (plOf ss) = rwaitF ts ss (2 ^ ts.length) := by
  obtain ⟨hv, -, -⟩ := stated_valid h0
  have h5 := hv.h5
  unfold waitG
  rcases rwait_spec ts ss (2 ^ ts.length) with ⟨h1, h2⟩ | ⟨b, hb, h1, h2, h3⟩
  · rw [h1, List.find?_eq_none]
    intro g hg
    obtain ⟨c, hc, rfl⟩ := (groups_mem h5 g).1 hg
    rw [← good_same h0 hc, h2 c hc]
    simp
  · rw [h1]
    cases hf : (groupsS ts.length).find? (waitF ts (tabE ts).1 (plOf ss)) with
    | none =>
      rw [List.find?_eq_none] at hf
      have := hf _ ((groups_mem h5 _).2 ⟨b, hb, rfl⟩)
      rw [← good_same h0 hb] at this
      exact absurd h2 this
    | some x =>
      obtain ⟨hx, hfx, hmin⟩ := find_least (groupsS_ok h5).2 hf
      obtain ⟨c, hc, rfl⟩ := (groups_mem h5 x).1 hx
      rw [← good_same h0 hc] at hfx
      have e := gle_anti (hmin _ ((groups_mem h5 _).2 ⟨b, hb, rfl⟩) (by rw [← good_same h0 hb]; exact h2)) (h3 c hc hfx)
      rw [e]
theorem wait_same (ts ss : List Int) : waitR ts ss = rwaitR ts ss := by
  unfold waitR rwaitR
  by_cases h0 : statedF ts ss = 0
  · rw [if_neg (by simp [h0]), if_neg (by simp [h0]), wait_first h0]
  · rw [if_pos h0, if_pos h0]
end Go.Proofs.YthjgecblkagelaaGreat
