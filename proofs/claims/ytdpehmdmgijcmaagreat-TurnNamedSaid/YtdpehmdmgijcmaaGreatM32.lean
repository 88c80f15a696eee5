/- Parts of a proof: DR DS. -/
import Derived.Test.YtdpehmdmgijcmaaGreatM31

/- What the program and the references say of doom, counts and next visits is the same: pure part. -/
namespace Go.Proofs.YtdpehmdmgijcmaaGreat
open Go.RowKit Go.Shelf

/-! ### CheckDoom -/
theorem below_iff {ts : List Int} (hv : Valid ts) {gs : List (List Int × Int)} (hn : ∀ s ∈ gs, Nice ts (plOf s.1)) (hli : ∀ s ∈ gs, plList (plOf s.1) = s.1) {y : Pl} (hy : Nice ts y) (left : Int) : belowF gs (plList y) left = true ↔ ∃ s ∈ gs, s.2 < left ∧ LeP ts (plOf s.1) y := by
  unfold belowF
  constructor
  · intro hb
    obtain ⟨s', hs', e⟩ := List.any_eq_true.1 hb
    obtain ⟨e1, e2⟩ := Bool.and_eq_true_iff.1 e
    rw [← hli s' hs'] at e2
    exact ⟨s', hs', of_decide_eq_true e1, (least_iff hv hy (hn s' hs')).1 e2⟩
  · rintro ⟨s, hs, h1, h2⟩
    refine List.any_eq_true.2 ⟨s, hs, Bool.and_eq_true_iff.2 ⟨decide_eq_true h1, ?_⟩⟩
    have := (least_iff hv hy (hn s hs)).2 h2
    rwa [hli s hs] at this
theorem checkDoom_same (ts ss : List Int) (gs : List (List Int × Int)) : checkDoomF ts ss gs = rcheckDoomF ts ss gs := by
  unfold checkDoomF rcheckDoomF
  by_cases h : statedF ts ss = 0
  case neg => rw [if_pos h, if_pos h]
  have hs0 : ¬ (statedF ts ss ≠ 0) := by simp [h]
  rw [if_neg hs0, if_neg hs0]
  by_cases hk : 1000 < gs.length
  · rw [if_pos hk, if_pos hk]
  rw [if_neg hk, if_neg hk]
  cases hb : gs.any (stepBad ts) with
  | true => rw [if_pos rfl, if_pos rfl]
  | false =>
    have hf0 : ¬ (false = true) := by simp
    rw [if_neg hf0, if_neg hf0]
    have hv := valid_of (stated_hall h)
    have h5 := hv.h5
    have hps := nice_stated h
    have hbn := bad_none hb
    have hn : ∀ s ∈ gs, Nice ts (plOf s.1) := fun s hs => nice_stated (hbn s hs).1
    have hli : ∀ s ∈ gs, plList (plOf s.1) = s.1 := fun s hs => plList_of (by have := (stated_valid (hbn s hs).1).2.1; omega)
    have hll := fun {y} hy => ll_spec hv (fun s hs => (hbn s hs).2.2) hn (y := y) hy
    have hpl : plList (plOf ss) = ss := plList_of (by have := (stated_valid h).2.1; omega)
    have e1 : (gs.all fun s => (visitsF ts (plOf s.1)).all fun x => !badVisit (llF ts gs) s.2 x) = !gs.any (stepWrong ts gs) := by
      rw [List.not_any_eq_all_not]
      rw [Bool.eq_iff_iff, List.all_eq_true, List.all_eq_true]
      refine forall_congr' fun s => forall_congr' fun hs => ?_
      rw [List.all_eq_true]
      unfold stepWrong
      rcases rvisit hv (hn s hs) with ⟨ys, a1, a2⟩ | ⟨a1, a2⟩
      · rw [hli s hs] at a1
        rw [a1]
        simp only [Bool.not_eq_true', List.any_eq_false, List.mem_range]
        constructor
        · intro H i hi
          obtain ⟨y, hy, e⟩ := a2 i hi
          have hyn : Nice ts y := ((visits_mem h5).1 hy).nice hv (hn s hs)
          have := H _ hy
          unfold badVisit at this
          have hlt : mget 0 (llF ts gs) y < s.2 := by simpa using this
          rw [e]
          rw [Bool.not_eq_false]
          refine (below_iff hv hn hli hyn s.2).2 ?_
          rcases (hll hyn).ex with e3 | ⟨s', hs', e4, e5⟩
          · have := (hbn s hs).2.2; omega
          · exact ⟨s', hs', by omega, e4⟩
        · intro H y hy
          have hyn : Nice ts y.2 := ((visits_mem h5).1 hy).nice hv (hn s hs)
          obtain ⟨z, hz, e⟩ := a2 y.1 (visit_fst hy)
          have := H y.1 (visit_fst hy)
          rw [e, visit_one hv hz (show (y.1, y.2) ∈ _ from hy)] at this
          obtain ⟨s', hs', e4, e5⟩ := (below_iff hv hn hli hyn s.2).1 (by simpa using this)
          have := (hll hyn).le s' hs' e5
          unfold badVisit
          simp
          omega
      · rw [hli s hs] at a1
        rw [a1, a2]
        simp
    have e2 : decide (mget 0 (llF ts gs) (plOf ss) ≠ 1099511627777) = belowF gs ss 2199023255552 := by
      rw [Bool.eq_iff_iff, decide_eq_true_iff]
      rw [show (belowF gs ss 2199023255552 = true) = (belowF gs (plList (plOf ss)) 2199023255552 = true) by rw [hpl], below_iff hv hn hli hps]
      constructor
      · intro hne
        rcases (hll hps).ex with e3 | ⟨s', hs', e4, e5⟩
        · exact absurd e3 hne
        · exact ⟨s', hs', by have := (hbn s' hs').2.2; omega, e4⟩
      · rintro ⟨s', hs', e4, e5⟩
        have := (hll hps).le s' hs' e5
        have := (hbn s' hs').2.2
        omega
    unfold doomedF
    rw [e1, e2]
    cases gs.any (stepWrong ts gs) <;> cases belowF gs ss 2199023255552 <;> rfl
/-- The reference's error of Doom. -/
noncomputable def doomErrF (ts ss : List Int) : Int := if statedF ts ss ≠ 0 then statedF ts ss else if safeF ts ss then 5 else 0
theorem doom_err (ts ss : List Int) : (doomR ts ss).2 = doomErrF ts ss := by
  unfold doomErrF
  by_cases h : statedF ts ss = 0
  · rw [if_neg (by simp [h])]
    unfold safeF
    by_cases hd : plOf ss ∈ dq ts
    · rw [if_neg (by simpa using hd), (either_doomed h hd).1]
    · rw [if_pos (by simpa using hd), (either_safe h hd).1]
  · rw [if_pos h]
    unfold doomR
    rw [if_pos h]

/-! ### Count -/
theorem mdel_gone {α : Type} (p : Pl) : ∀ {m : List (Pl × α)}, Keys m → p ∉ (mdel p m).map (·.1)
  | [], _ => by simp [mdel]
  | x :: m, h => by
    unfold Keys at h
    rw [List.map_cons, List.nodup_cons] at h
    unfold mdel
    by_cases e : p = x.1
    · rw [if_pos e, e]
      exact h.1
    · rw [if_neg e, List.map_cons, List.mem_cons, not_or]
      exact ⟨e, mdel_gone p h.2⟩
theorem mdel_mem {α : Type} (p k : Pl) (m : List (Pl × α)) (h : k ∈ (mdel p m).map (·.1)) : k ∈ m.map (·.1) := ((mdel_sub p m).map (·.1)).subset h
def KeyIn (ts : List Int) (s : CSt) : Prop := ∀ x ∈ s.1.map (·.1), Nice ts x ∧ x ∉ s.2.2
theorem tab_keys (ts : List Int) : ∀ (l : List Pl) (s : CSt), ∀ x ∈ (l.foldl (tabStep ts) s).1.map (·.1), x ∈ s.1.map (·.1) ∨ (x ∈ l ∧ pullF ts allF x ≠ none)
  | [], s, x, h => .inl h
  | p :: l, s, x, h => by
    rw [List.foldl_cons] at h
    rcases tab_keys ts l _ x h with h | ⟨h1, h2⟩
    · cases hp : pullF ts allF p with
      | some q =>
        rw [tabStep_some (s := s) hp] at h
        rcases (mset_keys_mem _ _ _ _).1 h with e | h
        · exact .inr ⟨by simp [e], by rw [e, hp]; simp⟩
        · exact .inl h
      | none =>
        rw [tabStep_none (s := s) hp] at h
        exact .inl h
    · exact .inr ⟨by simp [h1], h2⟩
theorem keyIn_zero {ts : List Int} (hv : Valid ts) : KeyIn ts (tab0 ts) := by
  intro x hx
  unfold tab0 tabL at hx
  rcases tab_keys ts _ _ x hx with h | ⟨h1, h2⟩
  · simp at h
  · refine ⟨(nice_mem hv).1 h1, ?_⟩
    have := (tab_fold ts ((statesL ts).map plOf) ([], [], []) (by simp [Keys]) (fun x => rfl)).2.2.1
    unfold tab0 tabL
    rw [this]
    simp [h2]
theorem keyIn_fold {ts : List Int} (hv : Valid ts) {k : Nat} {s : CSt} {p : Pl} (hI : Inv ts k s) (hp : s.2.2[k]? = some p) : ∀ (l2 l1 : List Pl) (c : CSt), l1 ++ l2 = beforeF ts p → Mid ts k s p l1 c → (∀ z ∈ c.1.map (·.1), Nice ts z ∧ z ∉ s.2.2 ∧ z ∉ c.2.2) →
    ∀ z ∈ (condL p c l2).1.map (·.1), Nice ts z ∧ z ∉ s.2.2 ∧ z ∉ (condL p c l2).2.2
  | [], l1, c, _, _, hK => hK
  | x :: l2, l1, c, he, hM, hK => by
    have hpm : p ∈ s.2.2 := List.mem_of_getElem? hp
    have hpn := hI.nice p hpm
    have hnd := before_nodup hv hpn
    rw [← he] at hnd
    have hx1 : x ∉ l1 := fun h => (List.nodup_append.1 hnd).2.2 x h x (by simp) rfl
    have hx : x ∈ beforeF ts p := by rw [← he]; simp
    obtain ⟨hxn, i, hsu⟩ := (before_mem hv hpn).1 hx
    have hpt : p ∉ s.2.2.take k := by
      intro h
      obtain ⟨j, hj, e⟩ := List.getElem_of_mem h
      rw [List.length_take] at hj
      rw [List.getElem_take] at e
      have hk : k < s.2.2.length := (List.getElem?_eq_some_iff.1 hp).1
      have e2 : s.2.2[k] = p := (List.getElem?_eq_some_iff.1 hp).2
      have := (List.getElem_inj hI.nd).1 (e.trans e2.symm)
      omega
    have hxs : x ∉ s.2.2 := fun h => hpt ((hI.suc x h (i, p) ((visits_mem hv.h5).2 hsu)).1)
    have hxc : x ∉ c.2.2 := fun h => hx1 (hM.sub x h).1
    refine keyIn_fold hv hI hp l2 (l1 ++ [x]) (condStep p c x) (by rw [← he]; simp) (mid_step hv hI hp hM hx hx1) fun z hz => ?_
    by_cases h1 : mget 0 c.1 x - 1 = 0
    · rw [condStep_zero rfl h1] at hz ⊢
      have hzx : z ≠ x := fun e => mdel_gone x (hM.keys.mset x _) (e ▸ hz)
      rcases (mset_keys_mem _ _ _ _).1 (mdel_mem _ _ _ hz) with e | h
      · exact absurd e hzx
      · obtain ⟨a, b, d⟩ := hK z h
        exact ⟨a, b, by simp [d, hzx]⟩
    · rw [condStep_go rfl h1] at hz ⊢
      rcases (mset_keys_mem _ _ _ _).1 hz with e | h
      · rw [e]
        exact ⟨hxn, hxs, hxc⟩
      · exact hK z h
theorem mid_zero {ts : List Int} {k : Nat} {s : CSt} {p : Pl} (hI : Inv ts k s) : Mid ts k s p [] (s.1, s.2.1, []) := by
  refine ⟨by simp, fun x hx => by simp at hx, hI.keys, fun x hx hn _ => ?_, fun x hx => ?_, fun x => by simp⟩
  · have := hI.out x hx hn
    simp
    omega
  · rcases hx with h | h
    · exact hI.inn x h
    · simp at h
theorem keyIn_all {ts : List Int} (hv : Valid ts) : ∀ k, KeyIn ts (tabN ts k)
  | 0 => keyIn_zero hv
  | k + 1 => by
    have ih := keyIn_all hv k
    have hI := inv_all hv k
    rcases Nat.lt_or_ge k (tabN ts k).2.2.length with h | h
    · have hp := List.getElem?_eq_getElem h
      rw [tabN_some hp]
      have := keyIn_fold hv hI hp (beforeF ts (tabN ts k).2.2[k]) [] ((tabN ts k).1, (tabN ts k).2.1, []) rfl (mid_zero hI) (fun z hz => ⟨(ih z hz).1, (ih z hz).2, by simp⟩)
      intro x hx
      obtain ⟨a, b, c⟩ := this x hx
      refine ⟨a, fun hm => ?_⟩
      rcases List.mem_append.1 hm with h | h
      · exact b h
      · exact c h
    · rw [tabN_none h]
      exact ih
theorem safe_keys {ts : List Int} (hv : Valid ts) (x : Pl) : x ∈ (tabE ts).1.map (·.1) ↔ Nice ts x ∧ x ∉ dq ts := by
  constructor
  · intro h
    have := keyIn_all hv 1000
    rw [← tabE_eq] at this
    exact this x h
  · rintro ⟨h1, h2⟩
    have := (dq_safe hv h1).2 h2
    rcases Classical.em (x ∈ (tabE ts).1.map (·.1)) with h | h
    · exact h
    · rw [mget_absent 0 x h] at this
      omega
theorem count_safe {ts rs : List Int} (hv : Valid ts) (h : RowsDone ts rs) : negs rs = (tabE ts).1.length := by
  have e1 : rs = (statesL ts).map (rowAt ts rs) := by
    refine List.ext_getElem? fun k => ?_
    rw [List.getElem?_map]
    by_cases hk : k < (statesL ts).length
    · have := row_at (rs := rs) hv (List.getElem?_eq_getElem hk)
      rw [List.getElem?_eq_getElem hk, Option.map_some, this, List.getElem?_eq_getElem (show k < rs.length by rw [h.len]; exact hk)]
      rfl
    · rw [List.getElem?_eq_none (by rw [h.len]; omega), List.getElem?_eq_none (by omega)]
      rfl
  have e2 : negs rs = ((allP ts).filter fun x => decide (x ∉ dq ts)).length := by
    unfold negs
    rw [e1, List.countP_map, ← List.countP_eq_length_filter]
    unfold allP
    rw [List.countP_map]
    refine List.countP_congr fun xs hx => ?_
    have := done_safe hv h hx
    unfold safeF at this
    simp only [Function.comp_apply]
    rw [this]
  have e3 : ((tabE ts).1.map (·.1)).Perm ((allP ts).filter fun x => decide (x ∉ dq ts)) := by
    refine (List.perm_ext_iff_of_nodup (dq_inv hv).keys ((allP_nodup hv).filter _)).2 fun x => ?_
    rw [safe_keys hv, List.mem_filter, nice_mem hv]
    simp
  rw [e2, ← e3.length_eq, List.length_map]

/-! ### Next -/
noncomputable def leadsF (ts ys : List Int) : List Int := ((List.range ts.length).filter fun w => safeF ts (ys.set w 0)).map fun w : Nat => (w : Int)
noncomputable def rnextR (ts ss : List Int) : List Int × Int := if statedF ts ss ≠ 0 then ([], statedF ts ss) else match rpullF ts ss (allL ts.length) with
  | none => ([], 17)
  | some ys => if leadsF ts ys = [] then ([], 17) else (leadsF ts ys, 0)
theorem visits_list {ts : List Int} {p : Pl} (h : pullF ts allF p ≠ none) : (visitsF ts p).map (·.1) = List.range ts.length := by
  unfold visitsF
  cases hq : pullF ts allF p with
  | none => exact absurd hq h
  | some q => simp [List.map_map, Function.comp_def]
theorem leads_next {ts xs ys : List Int} (hv : Valid ts) (hx : xs ∈ statesL ts) (h : rpullF ts xs (allL ts.length) = some ys) : leadsF ts ys = nextF (tabE ts).1 (visitsF ts (plOf xs)) := by
  obtain ⟨hp, hpl⟩ := nice_plOf hv hx
  have hne : pullF ts allF (plOf xs) ≠ none := fun e => by
    obtain ⟨y, hy, -⟩ := visited_state hv hx h (i := 0) (by have := hv.h1; omega)
    rw [visits_none e] at hy
    cases hy
  unfold leadsF nextF
  rw [← visits_list hne, List.filter_map, List.map_map]
  have : ∀ y ∈ visitsF ts (plOf xs), ((fun w => safeF ts (ys.set w 0)) ∘ fun x : Nat × Pl => x.1) y = decide (0 < mget 0 (tabE ts).1 y.2) := fun y hy => by
    obtain ⟨z, hz, -, hzn, -, hzp⟩ := visited_state hv hx h (visit_fst hy)
    rw [← visit_one hv (show (y.1, y.2) ∈ _ from hy) hz] at hzn hzp
    simp only [Function.comp_apply]
    unfold safeF
    rw [hzp]
    exact decide_eq_decide.2 (dq_safe hv hzn).symm
  rw [List.filter_congr this]
  rfl
theorem next_same (ts ss : List Int) : nextR ts ss = rnextR ts ss := by
  unfold rnextR
  by_cases h : statedF ts ss = 0
  case neg =>
    unfold nextR
    rw [if_pos h, if_pos h]
  rw [if_neg (by simp [h])]
  have hc := stated_hall h
  have hv := valid_of hc
  have hps := nice_stated h
  have hx : ss ∈ statesL ts := by
    have := (nice_list hv hps).1
    rwa [plList_of (by have := (stated_valid h).2.1; have := hv.h5; omega)] at this
  cases hq : rpullF ts ss (allL ts.length) with
  | none =>
    have hd : plOf ss ∈ dq ts := by
      rcases Classical.em (plOf ss ∈ dq ts) with hd | hd
      · exact hd
      · obtain ⟨y, hy, -⟩ := dq_out hv hps hd
        have hr := rvisit hv hps
        rw [(nice_plOf hv hx).2, hq] at hr
        rcases hr with ⟨_, e, -⟩ | ⟨-, e⟩
        · cases e
        · rw [e] at hy; cases hy
    exact (either_doomed h hd).2
  | some ys =>
    show nextR ts ss = if leadsF ts ys = [] then ([], 17) else (leadsF ts ys, 0)
    rw [leads_next hv hx hq]
    by_cases hd : plOf ss ∈ dq ts
    · rw [(either_doomed h hd).2, if_pos]
      unfold nextF
      rw [List.map_eq_nil_iff, List.filter_eq_nil_iff]
      intro y hy
      have hyn : Nice ts y.2 := ((visits_mem hv.h5).1 hy).nice hv hps
      have := (dq_safe hv hyn)
      have h1 := (dq_suc hv hd hy).1
      simp only [decide_eq_true_iff]
      exact fun h2 => (this.1 h2) h1
    · obtain ⟨x, l, e⟩ := (either_safe h hd).2
      have e2 : nextF (tabE ts).1 (visitsF ts (plOf ss)) = x :: l := by
        have e' := e
        unfold nextR at e'
        rw [if_neg (by simp [h]), if_pos ((dq_safe hv hps).2 hd)] at e'
        exact (Prod.mk.inj e').1
      rw [e, if_neg (by rw [e2]; simp), e2]
theorem stated_states {ts ss : List Int} (h : statedF ts ss = 0) : Valid ts ∧ ss ∈ statesL ts := by
  have hv := valid_of (stated_hall h)
  have := (nice_list hv (nice_stated h)).1
  rw [plList_of (by have := (stated_valid h).2.1; have := hv.h5; omega)] at this
  exact ⟨hv, this⟩
end Go.Proofs.YtdpehmdmgijcmaaGreat

/- References: wide, DoomError, Count, Leads, Next. -/
namespace Go.Proofs.YtdpehmdmgijcmaaGreat
open Go.RowKit Go.Shelf

attribute [local go_sem] Oper.semAt_some


theorem rows_pos {ts : List Int} (hv : Valid ts) : 0 < (statesL ts).length := by
  have h1 := prod_states hv
  have h := (prod_bd5 ts hv.h5 hv.h12 ts.length (Nat.le_refl _)).1
  rw [List.take_length] at h
  omega
/-- A list stays where its block stays. -/
theorem ints_stay {W W' : World} {B B' g n : Nat} {xs : List Int} (h : IntsAt W B (some ⟨g, 0, none⟩) n xs) (hh : W'.heap[g]? = W.heap[g]?) (hB : g < B') : IntsAt W' B' (some ⟨g, 0, none⟩) n xs := by
  refine ⟨h.1, h.2.1, fun h0 => ?_⟩
  obtain ⟨b, o, e, hb, hc⟩ := h.2.2 h0
  cases e
  refine ⟨g, 0, rfl, hB, fun j hj => ?_⟩
  rw [← hc j hj]
  unfold World.cell?
  rw [hh]

set_option maxHeartbeats 1000000 in
theorem wide_any (w : World) (B1 : Nat) (A1 : Option Addr) (n c : Nat) (most : Int) (ts : List Int) (h1 : IntsAt w B1 A1 n ts) (hB1 : B1 ≤ w.heap.size) :
    Calls Tryz.prog 13 #[.agg #[.slice A1 n c], .int .i64 most] w fun e w' => (∃ b, e = .returned (.bool b)) ∧ Below w.heap.size w w' := by
  have hb0 : Below w.heap.size w (w.alloc (.cells #[.slice A1 n c] 24)) := (Below.refl _ w).alloc (Nat.le_refl _) _
  have x0 := Boxed.new w 24 (.slice A1 n c)
  have c0 := x0.cell
  go_enter Tryz.func13, Tryz.ntmps13
  go_wp2_with (fail)
  refine (rcheckHall_any _ B1 A1 n c ts (h1.below hb0 hB1) (by have := hb0.size; omega)).mono ?_
  rintro e w2 ⟨rfl, hb2⟩
  have hB2 := hb0.trans (hb2.mono hb0.size)
  have x2 := bxBelow x0 hb2 x0.lt
  clear hb0 hb2 x0 c0
  have c2 := x2.cell
  obtain ⟨r, hr⟩ : ∃ r, r = checkHallF ts := ⟨_, rfl⟩
  rw [← hr]
  by_cases hr0 : r = 0
  · have hv := valid_of (hr.symm.trans hr0)
    have Hv := Lib.hid (And.intro hr hv)
    clear hv hr
    subst hr0
    go_wp2_with (fail)
    refine (States_any w2 B1 A1 n c ts (h1.below hB2 hB1) (by have := hB2.size; omega) Hv.out.2).mono ?_
    rintro e w3 ⟨rfl, hb3⟩
    have hB3 := hB2.trans (hb3.mono hB2.size)
    go_wp2_with (fail)
    go_ret
    exact ⟨⟨_, rfl⟩, hB3⟩
  · have hr1 : (r == 0) = false := by simp [hr0]
    have Hr := Lib.hid hr
    clear hr
    go_wp2_with (fail)
    go_ret
    exact ⟨⟨_, rfl⟩, hB2⟩

set_option maxRecDepth 100000 in
set_option maxHeartbeats 8000000 in
theorem DoomError_any (w : World) (B1 B2 : Nat) (A1 A2 : Option Addr) (n c m d : Nat) (ts ss : List Int) (h1 : IntsAt w B1 A1 n ts) (hB1 : B1 ≤ w.heap.size) (h2 : IntsAt w B2 A2 m ss) (hB2 : B2 ≤ w.heap.size) :
    Calls Tryz.prog 20 #[.agg #[.slice A1 n c], .slice A2 m d] w fun e w' => e = .returned (.int .i64 (doomErrF ts ss)) ∧ Below w.heap.size w w' := by
  have hb0 : Below w.heap.size w (w.alloc (.cells #[.slice A1 n c] 24)) := (Below.refl _ w).alloc (Nat.le_refl _) _
  have x0 := Boxed.new w 24 (.slice A1 n c)
  have c0 := x0.cell
  have Hn := Lib.hid (And.intro h1.len h2.len)
  go_enter Tryz.func20, Tryz.ntmps20
  go_wp2_with (fail)
  refine (Stated_any _ B1 B2 A1 A2 n c m d ts ss (h1.below hb0 hB1) (by have := hb0.size; omega) (h2.below hb0 hB2) (by have := hb0.size; omega)).mono ?_
  rintro e w2 ⟨rfl, hb2⟩
  have hB2' := hb0.trans (hb2.mono hb0.size)
  have x2 := bxBelow x0 hb2 x0.lt
  clear hb0 hb2 x0 c0
  have c2 := x2.cell
  have hz2 := hB2'.size
  obtain ⟨r, hr⟩ : ∃ r, r = statedF ts ss := ⟨_, rfl⟩
  rw [← hr]
  by_cases hr0 : r = 0
  case neg =>
    have hne : (r != 0) = true := by simp [hr0]
    have hdf : doomErrF ts ss = r := by unfold doomErrF; rw [← hr, if_pos hr0]
    have Hr := Lib.hid (And.intro hr hdf)
    clear hr hdf
    go_wp2_with (fail)
    refine (Stated_any _ B1 B2 A1 A2 n c m d ts ss (h1.below hB2' hB1) (by omega) (h2.below hB2' hB2) (by omega)).mono ?_
    rintro e w3 ⟨rfl, hb3⟩
    rw [← Hr.out.1]
    have hB3 := hB2'.trans (hb3.mono hz2)
    go_wp2_with (fail)
    go_ret
    exact ⟨ret_int Hr.out.2.symm, hB3⟩
  have hst := hr.symm.trans hr0
  obtain ⟨hv, hx⟩ := stated_states hst
  have hmn : n = m := by have h := (stated_valid hst).2.1; have := Hn.out.1; have := Hn.out.2; omega
  have hdf : doomErrF ts ss = if safeF ts ss then 5 else 0 := by unfold doomErrF; rw [if_neg (by simp [hst])]
  have Hv := Lib.hid (And.intro hv (And.intro hx hdf))
  have hN := states_few hv
  have hN0 := rows_pos hv
  clear hv hx hdf hst hr
  subst hmn hr0
  go_wp2_with (fail)
  have hcellH : ∀ W', Boxed W' w.heap.size 24 (.slice A1 n c) → W'.cell? ⟨w.heap.size, 0, none⟩ = some (.slice A1 n c) := fun W' h => h.cell
  refine region_held_wp 1 (fun W' => Boxed W' w.heap.size 24 (.slice A1 n c)) (fun j => decide (j < 3)) (by kernel_rfl) ?_
  intro KR hKR
  have hS : Boxed w2.drew w.heap.size 24 (.slice A1 n c) := bxBelow x2 (below_drew _) x2.lt
  refine wpAnyHI_takeW (i := 3) (v := .slice A2 n d) (some 15) rfl rfl (by kernel_rfl) (by kernel_rfl) (by kernel_rfl) (by kernel_rfl) (fun _ _ _ h => h) (.inl ⟨by kernel_rfl, fun W' hS' => ?_⟩) ?_
  · go_simp
  refine wpAnyHI_takeE (i := 0) (v := .agg #[.slice A1 n c]) (some 12) rfl rfl (by kernel_rfl) (by kernel_rfl) (by kernel_rfl) (by kernel_rfl) (by kernel_rfl) (fun _ _ _ h => h) hS (.inl ⟨by kernel_rfl, fun W' hS' => ?_⟩) ?_
  · have q := hcellH W' hS'; go_simp
  refine wpAnyHI_takeE (i := 1) (v := .agg #[.slice A1 n c]) (some 13) rfl rfl (by kernel_rfl) (by kernel_rfl) (by kernel_rfl) (by kernel_rfl) (by kernel_rfl) (fun _ _ _ h => h) hS (.inl ⟨by kernel_rfl, fun W' hS' => ?_⟩) ?_
  · have q := hcellH W' hS'; go_simp
  refine wpAnyHI_one (i := 2) rfl (by kernel_rfl) ?_
  intro K1 hK1
  go_simp
  refine ⟨trivial, (callsIn_wide.2 (Rows_any _ B1 A1 n c ts (h1.below (hB2'.trans ((below_drew w2).mono hz2)) hB1) (Nat.le_trans hB1 hz2) Hv.out.1)).mono ?_⟩
  rintro e w3 ⟨v3, rs, rfl, hr3, hdone, hb3⟩
  obtain ⟨g3, c3, rfl⟩ := ownsRow_pos hr3 hN0
  have hi3 := row_ints hr3 (by omega)
  have hb23 : Below w2.heap.size w2 w3 := (below_drew w2).trans hb3
  have hB3 := hB2'.trans (hb23.mono hz2)
  have hS3 := bxBelow x2 hb23 x2.lt
  refine hK1 _ _ ⟨fun _ => hS3, ?_⟩
  clear hK1 K1 hr3 hS x2 c2 hb3
  refine wpAnyHI_one (i := 4) rfl (by kernel_rfl) ?_
  intro K1 hK1
  go_simp
  refine ⟨trivial, (callsIn_wide.2 (IsSafe_any _ B1 w3.heap.size B2 A1 (some ⟨g3, 0, none⟩) A2 n c _ c3 d ts rs ss (h1.below hB3 hB1) (by have := hB3.size; omega) hi3 (Nat.le_refl _) (h2.below hB3 hB2) (by have := hB3.size; omega) Hv.out.1 hdone Hv.out.2.1)).mono ?_⟩
  rintro e w4 ⟨rfl, hb4⟩
  have hB4 := hB3.trans (hb4.mono hB3.size)
  refine hK1 _ _ ⟨fun h => absurd h (by decide), ?_⟩
  clear hK1 K1 hi3 hS3 hb4
  refine wpAnyHI_end (by kernel_rfl) ?_
  show KR _ _
  refine hKR _ _ ?_
  clear hKR KR
  obtain ⟨s, hs⟩ : ∃ s, s = safeF ts ss := ⟨_, rfl⟩
  rw [← hs]
  have Hs := Lib.hid hs
  clear hs hb23 hB3 hB2' hcellH
  cases s with
  | true =>
    go_wp2_with (fail)
    go_ret
    exact ⟨ret_int (by rw [Hv.out.2.2, ← Hs.out]; rfl), hB4⟩
  | false =>
    go_wp2_with (fail)
    go_ret
    exact ⟨ret_int (by rw [Hv.out.2.2, ← Hs.out]; rfl), hB4⟩

theorem rcount_results (W : World) (tmps : Array Value) (x y : Value) (t2 : tmps.getD 2 undef = x) (t3 : tmps.getD 3 undef = y) : (results Tryz.f31 tmps).run Tryz.prog W = .ok (.tuple #[x, y]) W := by
  simp only [Array.getD_eq_getD_getElem?] at t2 t3
  simp [results, Tryz.results31, go_sem, t2, t3]
theorem negs_take {rs : List Int} {k : Nat} (hk : k < rs.length) : negs (rs.take (k + 1)) = negs (rs.take k) + (if rs[k]?.getD 0 < 0 then 1 else 0) := by
  unfold negs
  rw [take_snoc_int rs k hk, List.countP_append]
  simp
set_option maxRecDepth 100000 in
set_option maxHeartbeats 4000000 in
theorem rCount_any (w : World) (B1 : Nat) (A1 : Option Addr) (n c : Nat) (ts : List Int) (h1 : IntsAt w B1 A1 n ts) (hB1 : B1 ≤ w.heap.size) :
    Calls Tryz.prog 31 #[.agg #[.slice A1 n c]] w fun e w' => e = .returned (.tuple #[.int .i64 (countR ts).1, .int .i64 (countR ts).2]) ∧ Below w.heap.size w w' := by
  have hb0 : Below w.heap.size w (w.alloc (.cells #[.slice A1 n c] 24)) := (Below.refl _ w).alloc (Nat.le_refl _) _
  have x0 := Boxed.new w 24 (.slice A1 n c)
  have c0 := x0.cell
  go_enter Tryz.func31, Tryz.ntmps31
  go_wp2_with (fail)
  refine (rcheckHall_any _ B1 A1 n c ts (h1.below hb0 hB1) (by have := hb0.size; omega)).mono ?_
  rintro e w2 ⟨rfl, hb2⟩
  have hB2 := hb0.trans (hb2.mono hb0.size)
  have x2 := bxBelow x0 hb2 x0.lt
  clear hb0 hb2 x0 c0
  have c2 := x2.cell
  have hz2 := hB2.size
  obtain ⟨r, hr⟩ : ∃ r, r = checkHallF ts := ⟨_, rfl⟩
  rw [← hr]
  by_cases hr0 : r = 0
  case neg =>
    have hne : (r != 0) = true := by simp [hr0]
    have hcr : countR ts = (0, r) := by unfold countR; rw [← hr, if_pos hr0]
    have Hr := Lib.hid (And.intro hr hcr)
    clear hr hcr
    go_wp2_with (fail)
    refine (rcheckHall_any _ B1 A1 n c ts (h1.below hB2 hB1) (by omega)).mono ?_
    rintro e w3 ⟨rfl, hb3⟩
    rw [← Hr.out.1]
    have hB3 := hB2.trans (hb3.mono hz2)
    go_wp2_with (fail)
    refine bodyPost_ret (v := .tuple #[.int .i64 0, .int .i64 r]) (rcount_results _ _ _ _ (by simp) (by simp)) rfl ?_
    exact ⟨by rw [Hr.out.2], hB3⟩
  have hv := valid_of (hr.symm.trans hr0)
  have hcr : countR ts = ((((tabE ts).1.length : Nat) : Int), 0) := by unfold countR; rw [if_neg (by rw [← hr, hr0]; simp)]
  have Hv := Lib.hid (And.intro hv hcr)
  have hN := states_few hv
  have hN0 := rows_pos hv
  clear hv hcr hr
  subst hr0
  go_wp2_with (fail)
  refine (Rows_any w2 B1 A1 n c ts (h1.below hB2 hB1) (by omega) Hv.out.1).mono ?_
  rintro e w3 ⟨v3, rs, rfl, hr3, hdone, hb3⟩
  obtain ⟨N, hNe⟩ : ∃ N, N = (statesL ts).length := ⟨_, rfl⟩
  rw [← hNe] at hr3 hN hN0
  obtain ⟨g3, c3, rfl⟩ := ownsRow_pos hr3 hN0
  have hi3 := row_ints hr3 (by omega)
  have hB3 := hB2.trans (hb3.mono hz2)
  have hcnt := count_safe Hv.out.1 hdone
  have hln := hdone.len
  have Hd := Lib.hid (And.intro hcnt (And.intro (hln.trans hNe.symm) hi3))
  clear hdone hcnt hln hNe hr3 hi3
  have hz3 := hB3.size
  have hb33 : Below w3.heap.size w3 w3 := Below.refl _ _
  go_wp2_with (fail)
  go_loopg [4, 6] N (fun g v4 v6 wr => ∃ (j : Nat) (a : Nat), (j ≤ N ∧ g = N - j ∧ v6 = .int .i64 (j : Int) ∧ v4 = .int .i64 (a : Int)) ∧ (a = negs (rs.take j) ∧ a ≤ j) ∧ Below w.heap.size w wr ∧ Below w3.heap.size w3 wr)
  case atStart => exact ⟨0, 0, ⟨Nat.zero_le _, rfl, rfl, rfl⟩, ⟨by simp [negs], Nat.le_refl _⟩, hB3, Below.refl _ _⟩
  case round =>
    obtain ⟨j, a, ⟨hjn, rfl, rfl, rfl⟩, ⟨ha, haj⟩, hB, hb3r⟩ := hrel
    have Ha := Lib.hid ha
    clear ha
    by_cases hj : j < N
    · obtain ⟨b2, o2, e2, hb2, hc2⟩ := (Hd.out.2.2.below hb3r (Nat.le_refl _)).cell hj
      cases e2
      obtain ⟨x, hx⟩ : ∃ x, x = rs[j]?.getD 0 := ⟨_, rfl⟩
      rw [← hx] at hc2
      rw [Nat.zero_add] at hc2
      have hst := negs_take (rs := rs) (k := j) (by rw [Hd.out.2.1]; exact hj)
      rw [← hx, ← Ha.out] at hst
      have hwj : IntKind.i64.wrap ((j : Int) + 1) = (j : Int) + 1 := by rw [IntKind.wrap_i64]; omega
      have hwa : IntKind.i64.wrap ((a : Int) + 1) = (a : Int) + 1 := by rw [IntKind.wrap_i64]; omega
      by_cases hx0 : x < 0
      · rw [if_pos hx0] at hst
        have Hst := Lib.hid hst
        clear hst hx
        go_wp2_with (fail)
        go_roundg (N - (j + 1))
        case measure => omega
        case rel => exact ⟨j + 1, a + 1, ⟨by omega, rfl, rfl, rfl⟩, ⟨Hst.out.symm, by omega⟩, hB, hb3r⟩
      · rw [if_neg hx0] at hst
        have Hst := Lib.hid hst
        clear hst hx
        go_wp2_with (fail)
        go_roundg (N - (j + 1))
        case measure => omega
        case rel => exact ⟨j + 1, a, ⟨by omega, rfl, rfl, rfl⟩, ⟨Hst.out.symm, by omega⟩, hB, hb3r⟩
    · obtain rfl : j = N := by omega
      have hnj : ¬ (j : Int) < (j : Int) := by omega
      go_wp2_with (fail)
      refine bodyPost_ret (v := .tuple #[.int .i64 (a : Int), .int .i64 0]) (rcount_results _ _ _ _ (by simp) (by simp)) rfl ?_
      refine ⟨?_, hB⟩
      rw [Hv.out.2, Ha.out, List.take_of_length_le (by rw [Hd.out.2.1]; exact Nat.le_refl _), Hd.out.1]

theorem leads_take {ts ys : List Int} {j : Nat} : ((List.range (j + 1)).filter fun w => safeF ts (ys.set w 0)).map (fun w : Nat => (w : Int)) = ((List.range j).filter fun w => safeF ts (ys.set w 0)).map (fun w : Nat => (w : Int)) ++ (if safeF ts (ys.set j 0) then [(j : Int)] else []) := by
  rw [List.range_succ, List.filter_append, List.map_append]
  cases h : safeF ts (ys.set j 0) <;> simp [h]
set_option maxRecDepth 100000 in
set_option maxHeartbeats 8000000 in
theorem Leads_any (w : World) (B1 B2 B3 : Nat) (A1 A2 A3 : Option Addr) (n c m d f : Nat) (ts rs ys : List Int) (h1 : IntsAt w B1 A1 n ts) (hB1 : B1 ≤ w.heap.size) (h2 : IntsAt w B2 A2 m rs) (hB2 : B2 ≤ w.heap.size) (h3 : IntsAt w B3 A3 n ys) (hB3 : B3 ≤ w.heap.size) (hv : Valid ts) (hd : RowsDone ts rs) (hys : ∀ i, i < ts.length → ys.set i 0 ∈ statesL ts) :
    Calls Tryz.prog 69 #[.agg #[.slice A1 n c], .slice A2 m d, .slice A3 n f] w fun e w' => ∃ v, e = .returned v ∧ w'.ownsRow w.heap.size 3 1 v (leadsF ts ys).length ((leadsF ts ys).map (.int .i64)) ∧ Below w.heap.size w w' := by
  obtain ⟨i0, hi, hz0, hz1, hz2⟩ := info_parts infoInt
  have hb0 : Below w.heap.size w (w.alloc (.cells #[.slice A1 n c] 24)) := (Below.refl _ w).alloc (Nat.le_refl _) _
  have x0 := Boxed.new w 24 (.slice A1 n c)
  have c0 := x0.cell
  have hn5 : n ≤ 5 := by have := hv.h5; have := h1.len; omega
  have Hv := Lib.hid (And.intro hv (And.intro hd (And.intro hys h1.len)))
  clear hv hd hys
  go_enter Tryz.func69, Tryz.ntmps69
  go_wp2_with (fail)
  go_loopg [7, 8] n (fun g v7 v8 wr => ∃ (j : Nat) (us : List Int), (j ≤ n ∧ g = n - j ∧ v8 = .int .i64 (j : Int)) ∧ (us = ((List.range j).filter fun w => safeF ts (ys.set w 0)).map (fun w : Nat => (w : Int)) ∧ us.length ≤ j) ∧ wr.ownsRow w.heap.size 3 1 v7 us.length (us.map (.int .i64)) ∧ Boxed wr w.heap.size 24 (.slice A1 n c) ∧ Below w.heap.size w wr)
  case atStart => exact ⟨0, [], ⟨Nat.zero_le _, rfl, rfl⟩, ⟨by simp, Nat.le_refl _⟩, World.ownsRow_nil _ _ _ _, x0, hb0⟩
  case round =>
    clear x0 c0 hb0
    obtain ⟨j, us, ⟨hjn, rfl, rfl⟩, ⟨hus, husl⟩, hrow, y0, hB⟩ := hrel
    have cr := y0.cell
    have hz := y0.lt
    have hzw := hB.size
    have Hu := Lib.hid hus
    clear hus
    by_cases hj : j < n
    · have hst : ys.set j 0 ∈ statesL ts := Hv.out.2.2.1 j (by have := Hv.out.2.2.2; omega)
      have hlt := leads_take (ts := ts) (ys := ys) (j := j)
      rw [← Hu.out] at hlt
      have Hst := Lib.hid (And.intro hst hlt)
      clear hst hlt
      obtain ⟨A5, c5, rfl, hle5⟩ := ownsRow_slice hrow
      have hBd : Below w.heap.size w wr.drew := hB.trans ((below_drew wr).mono hzw)
      have hwj : IntKind.i64.wrap ((j : Int) + 1) = (j : Int) + 1 := by rw [IntKind.wrap_i64]; omega
      go_wp2_with (fail)
      have hcellH : ∀ W', Boxed W' w.heap.size 24 (.slice A1 n c) → W'.cell? ⟨w.heap.size, 0, none⟩ = some (.slice A1 n c) := fun W' h => h.cell
      refine region_held_wp 1 (fun W' => Boxed W' w.heap.size 24 (.slice A1 n c)) (fun j => decide (j = 4)) (by kernel_rfl) ?_
      intro KR hKR
      have hS : Boxed wr.drew w.heap.size 24 (.slice A1 n c) := bxBelow y0 (below_drew _) y0.lt
      refine wpAnyHI_takeW (i := 1) (v := .slice A2 m d) (some 16) rfl rfl (by kernel_rfl) (by kernel_rfl) (by kernel_rfl) (by kernel_rfl) (fun _ _ _ h => h) (.inl ⟨by kernel_rfl, fun W' hS' => ?_⟩) ?_
      · go_simp
      refine wpAnyHI_takeW (i := 2) (v := .slice A3 n f) (some 17) rfl rfl (by kernel_rfl) (by kernel_rfl) (by kernel_rfl) (by kernel_rfl) (fun _ _ _ h => h) (.inl ⟨by kernel_rfl, fun W' hS' => ?_⟩) ?_
      · go_simp
      refine wpAnyHI_takeW (i := 3) (v := .int .i64 (j : Int)) (some 18) rfl rfl (by kernel_rfl) (by kernel_rfl) (by kernel_rfl) (by kernel_rfl) (fun _ _ _ h => h) (.inl ⟨by kernel_rfl, fun W' hS' => ?_⟩) ?_
      · go_simp
      refine wpAnyHI_takeE (i := 0) (v := .agg #[.slice A1 n c]) (some 15) rfl rfl (by kernel_rfl) (by kernel_rfl) (by kernel_rfl) (by kernel_rfl) (by kernel_rfl) (fun _ _ _ h => h) hS (.inl ⟨by kernel_rfl, fun W' hS' => ?_⟩) ?_
      · have q := hcellH W' hS'; go_simp
      refine wpAnyHI_one (i := 4) rfl (by kernel_rfl) ?_
      intro K1 hK1
      go_simp
      refine ⟨trivial, (callsIn_wide.2 (Visited_any _ B3 A3 n f ys (h3.below hBd hB3) (by have := hBd.size; omega) j hj (by omega))).mono ?_⟩
      rintro e w5 ⟨v5, rfl, hr5, hb5⟩
      obtain ⟨g5, c5', rfl⟩ := ownsRow_pos hr5 (by omega)
      have hi5 := row_ints hr5 (by omega)
      have hb55 : Below wr.heap.size wr w5 := (below_drew wr).trans hb5
      have hB5 := hB.trans (hb55.mono hzw)
      have hS5 := bxBelow y0 hb55 y0.lt
      refine hK1 _ _ ⟨fun _ => hS5, ?_⟩
      clear hK1 K1 hr5 hS hb5
      refine wpAnyHI_one (i := 5) rfl (by kernel_rfl) ?_
      intro K1 hK1
      go_simp
      refine ⟨trivial, (callsIn_wide.2 (IsSafe_any _ B1 B2 w5.heap.size A1 A2 (some ⟨g5, 0, none⟩) n c m d c5' ts rs (ys.set j 0) (h1.below hB5 hB1) (by have := hB5.size; omega) (h2.below hB5 hB2) (by have := hB5.size; omega) hi5 (Nat.le_refl _) Hv.out.1 Hv.out.2.1 Hst.out.1)).mono ?_⟩
      rintro e w6 ⟨rfl, hb6⟩
      have hb6r : Below wr.heap.size wr w6 := hb55.trans (hb6.mono hb55.size)
      have hB6 := hB.trans (hb6r.mono hzw)
      have x6 := bxBelow y0 hb6r y0.lt
      have hrow6 := row_below hrow hb6r
      refine hK1 _ _ ⟨fun h => absurd h (by decide), ?_⟩
      clear hK1 K1 hi5 hS5 hb6 hb55 hB5
      refine wpAnyHI_end (by kernel_rfl) ?_
      show KR _ _
      refine hKR _ _ ?_
      clear hKR KR
      have hz6 := hB6.size
      have hzw6 := hb6r.size
      clear hB hBd hb6r y0 cr hcellH hrow
      have cr := x6.cell
      have hz := x6.lt
      obtain ⟨s, hs⟩ : ∃ s, s = safeF ts (ys.set j 0) := ⟨_, rfl⟩
      have hlt := Hst.out.2
      rw [← hs] at hlt ⊢
      have Hs := Lib.hid hlt
      clear hs hlt
      cases s with
      | true =>
        go_wp2_with (at_builtin; refine wpList_append_own_at _ rfl _ _ 22 rfl w.heap.size 3 i0 (.int .i64 0) 1 8 Tryz.underlying22 hi hz0 hz1 hz2 rfl (by decide) _ _ _ rfl (hrow6.alloc _) ⟨w6.heap.size, 0, none⟩ 1 1 [.int .i64 (j : Int)] rfl rfl (cell_one_new _ _ _) (by simp [Value.oneCell']) (by simp only [maxLen]; omega) (by omega) (by simp; omega) ?_; intro v' w1 hown' hgrow _ hat)
        go_roundg (n - (j + 1))
        case measure => omega
        case rel =>
          refine ⟨j + 1, us ++ [(j : Int)], ⟨hj, rfl, rfl⟩, ⟨by simpa using Hs.out.symm, by simp; omega⟩, by simpa using hown', ?_, (hB6.alloc hz6 _).trans ((Below.refl _ _).grown hgrow (by simp; omega) (fun r e => (hrow6.lt r e).1))⟩
          exact (hgrow.block _ (by simp; omega) (fun e => cells_not_row x6 hrow6 (by decide) _ e.symm rfl)).trans ((Below.heap_alloc _ _ _ hz).trans x6)
      | false =>
        go_wp2_with (fail)
        go_roundg (n - (j + 1))
        case measure => omega
        case rel => exact ⟨j + 1, us, ⟨hj, rfl, rfl⟩, ⟨by simpa using Hs.out.symm, by omega⟩, hrow6, x6, hB6⟩
    · obtain rfl : j = n := by omega
      have hnj : ¬ (j : Int) < (j : Int) := by omega
      have hul : us = leadsF ts ys := by rw [Hu.out]; unfold leadsF; rw [Hv.out.2.2.2]
      have Hul := Lib.hid hul
      clear hul
      go_wp2_with (fail)
      refine bodyPost_ret (results_tmp rfl _ _ _) rfl ?_
      exact ⟨_, rfl, by rw [← Hul.out]; exact hrow, hB⟩

theorem rnext_results (W : World) (tmps : Array Value) (x y : Value) (t4 : tmps.getD 4 undef = x) (t5 : tmps.getD 5 undef = y) : (results Tryz.f24 tmps).run Tryz.prog W = .ok (.tuple #[x, y]) W := by
  simp only [Array.getD_eq_getD_getElem?] at t4 t5
  simp [results, Tryz.results24, go_sem, t4, t5]
set_option maxRecDepth 100000 in
set_option maxHeartbeats 8000000 in
theorem rNext_any (w : World) (B1 B2 : Nat) (A1 A2 : Option Addr) (n c m d : Nat) (ts ss : List Int) (h1 : IntsAt w B1 A1 n ts) (hB1 : B1 ≤ w.heap.size) (h2 : IntsAt w B2 A2 m ss) (hB2 : B2 ≤ w.heap.size) :
    Calls Tryz.prog 24 #[.agg #[.slice A1 n c], .slice A2 m d] w (ListRes w (rnextR ts ss)) := by
  have hb0 : Below w.heap.size w (w.alloc (.cells #[.slice A1 n c] 24)) := (Below.refl _ w).alloc (Nat.le_refl _) _
  have x0 := Boxed.new w 24 (.slice A1 n c)
  have c0 := x0.cell
  have Hn := Lib.hid (And.intro h1.len h2.len)
  go_enter Tryz.func24, Tryz.ntmps24
  go_wp2_with (fail)
  refine (Stated_any _ B1 B2 A1 A2 n c m d ts ss (h1.below hb0 hB1) (by have := hb0.size; omega) (h2.below hb0 hB2) (by have := hb0.size; omega)).mono ?_
  rintro e w2 ⟨rfl, hb2⟩
  have hB2' := hb0.trans (hb2.mono hb0.size)
  have x2 := bxBelow x0 hb2 x0.lt
  clear hb0 hb2 x0 c0
  have c2 := x2.cell
  have hz2 := hB2'.size
  obtain ⟨r, hr⟩ : ∃ r, r = statedF ts ss := ⟨_, rfl⟩
  rw [← hr]
  by_cases hr0 : r = 0
  case neg =>
    have hne : (r != 0) = true := by simp [hr0]
    have hdf : rnextR ts ss = ([], r) := by unfold rnextR; rw [← hr, if_pos hr0]
    have Hr := Lib.hid (And.intro hr hdf)
    clear hr hdf
    go_wp2_with (fail)
    refine (Stated_any _ B1 B2 A1 A2 n c m d ts ss (h1.below hB2' hB1) (by omega) (h2.below hB2' hB2) (by omega)).mono ?_
    rintro e w3 ⟨rfl, hb3⟩
    rw [← Hr.out.1]
    have hB3 := hB2'.trans (hb3.mono hz2)
    go_wp2_with (fail)
    refine bodyPost_ret (v := .tuple #[.slice none 0 0, .int .i64 r]) (rnext_results _ _ _ _ (by simp) (by simp)) rfl ?_
    exact ListRes.none Hr.out.2 hB3
  have hst := hr.symm.trans hr0
  obtain ⟨hv, hx⟩ := stated_states hst
  have hmn : n = m := by have h := (stated_valid hst).2.1; have := Hn.out.1; have := Hn.out.2; omega
  have HP : ss ∈ statesL ts := hx
  have hdf : rnextR ts ss = match rpullF ts ss (allL ts.length) with
    | none => ([], 17)
    | some ys => if leadsF ts ys = [] then ([], 17) else (leadsF ts ys, 0) := by unfold rnextR; rw [if_neg (by simp [hst])] <;> rfl
  have hn1 : 1 ≤ n ∧ n ≤ 5 := by have := hv.h1; have := hv.h5; have := Hn.out.1; omega
  have Hv := Lib.hid (And.intro hv (And.intro hdf Hn.out.1))
  have hN := states_few hv
  have hN0 := rows_pos hv
  clear hv hx hdf hst hr
  subst hmn hr0
  have HPh := Lib.hid HP
  clear HP
  go_wp2_with (fail)
  refine (Rows_any w2 B1 A1 n c ts (h1.below hB2' hB1) (by omega) Hv.out.1).mono ?_
  rintro e w3 ⟨v3, rs, rfl, hr3, hdone, hb3⟩
  obtain ⟨g3, c3, rfl⟩ := ownsRow_pos hr3 hN0
  have hi3 := row_ints hr3 (by omega)
  have hB3 := hB2'.trans (hb3.mono hz2)
  have x3 := bxBelow x2 hb3 x2.lt
  have c3' := x3.cell
  have hz3 := hB3.size
  have Hd := Lib.hid (And.intro hdone hi3)
  clear hdone hi3 hr3 hb3 x2 c2 hB2'
  have HP := HPh.out
  go_wp2_with (fail)
  have hcellH : ∀ W', Boxed W' w.heap.size 24 (.slice A1 n c) → W'.cell? ⟨w.heap.size, 0, none⟩ = some (.slice A1 n c) := fun W' h => h.cell
  refine region_held_wp 1 (fun W' => Boxed W' w.heap.size 24 (.slice A1 n c)) (fun j => decide (j = 2 ∨ j = 3)) (by kernel_rfl) ?_
  intro KR hKR
  have hS : Boxed w3.drew w.heap.size 24 (.slice A1 n c) := bxBelow x3 (below_drew _) x3.lt
  refine wpAnyHI_takeW (i := 1) (v := .slice A2 n d) (some 20) rfl rfl (by kernel_rfl) (by kernel_rfl) (by kernel_rfl) (by kernel_rfl) (fun _ _ _ h => h) (.inl ⟨by kernel_rfl, fun W' hS' => ?_⟩) ?_
  · go_simp
  refine wpAnyHI_takeE (i := 0) (v := .agg #[.slice A1 n c]) (some 19) rfl rfl (by kernel_rfl) (by kernel_rfl) (by kernel_rfl) (by kernel_rfl) (by kernel_rfl) (fun _ _ _ h => h) hS (.inl ⟨by kernel_rfl, fun W' hS' => ?_⟩) ?_
  · have q := hcellH W' hS'; go_simp
  refine wpAnyHI_takeE (i := 2) (v := .agg #[.slice A1 n c]) (some 21) rfl rfl (by kernel_rfl) (by kernel_rfl) (by kernel_rfl) (by kernel_rfl) (by kernel_rfl) (fun _ _ _ h => h) hS (.inl ⟨by kernel_rfl, fun W' hS' => ?_⟩) ?_
  · have q := hcellH W' hS'; go_simp
  refine wpAnyHI_one (i := 3) rfl (by kernel_rfl) ?_
  intro K1 hK1
  go_simp
  refine ⟨trivial, (callsIn_wide.2 (All_any _ A1 n c (by omega))).mono ?_⟩
  rintro e wa ⟨va, rfl, hra, hba⟩
  obtain ⟨ga, ca, rfl⟩ := ownsRow_pos hra (by omega)
  have hia := row_ints hra (by omega)
  have hbwa : Below w3.heap.size w3 wa := (below_drew w3).trans hba
  have hBa := hB3.trans (hbwa.mono hz3)
  have hSa := bxBelow x3 hbwa x3.lt
  refine hK1 _ _ ⟨fun _ => hSa, ?_⟩
  clear hK1 K1 hra hS hba
  refine wpAnyHI_one (i := 4) rfl (by kernel_rfl) ?_
  intro K1 hK1
  go_simp
  refine ⟨trivial, (callsIn_wide.2 (Pulled_any _ B1 B2 wa.heap.size A1 A2 _ n c d n ca ts ss (allL n) (h1.below hBa hB1) (by have := hBa.size; omega) (h2.below hBa hB2) (by have := hbwa.size; have := hBa.size; omega) hia (Nat.le_refl _) (by omega) (by omega) (by omega) (fun p hp => allL_mem.1 hp) (state_bounds Hv.out.1 HP))).mono ?_⟩
  intro e wp hpp
  obtain ⟨v4, ok, rfl, hbp, hcase⟩ := pulled_form hpp
  have hbwp : Below w3.heap.size w3 wp := hbwa.trans (hbp.mono hbwa.size)
  have hBp := hB3.trans (hbwp.mono hz3)
  have xp := bxBelow x3 hbwp x3.lt
  have hzap := hbwa.size
  refine hK1 _ _ ⟨fun h => absurd h (by decide), ?_⟩
  clear hK1 K1 hia hSa hpp hbp
  refine wpAnyHI_takeW (i := 5) (v := .tuple #[v4, .bool ok]) (some 18) rfl rfl (by kernel_rfl) (by kernel_rfl) (by kernel_rfl) (by kernel_rfl) (fun _ _ _ h => h) (.inl ⟨by kernel_rfl, fun W' hS' => ?_⟩) ?_
  · go_simp
  refine wpAnyHI_takeW (i := 6) (v := v4) (some 24) rfl rfl (by kernel_rfl) (by kernel_rfl) (by kernel_rfl) (by kernel_rfl) (fun _ _ _ h => h) (.inl ⟨by kernel_rfl, fun W' hS' => ?_⟩) ?_
  · go_simp
  refine wpAnyHI_takeW (i := 7) (v := .bool ok) (some 25) rfl rfl (by kernel_rfl) (by kernel_rfl) (by kernel_rfl) (by kernel_rfl) (fun _ _ _ h => h) (.inl ⟨by kernel_rfl, fun W' hS' => ?_⟩) ?_
  · go_simp
  refine wpAnyHI_takeW (i := 8) (v := v4) (some 7) rfl rfl (by kernel_rfl) (by kernel_rfl) (by kernel_rfl) (by kernel_rfl) (fun _ _ _ h => h) (.inl ⟨by kernel_rfl, fun W' hS' => ?_⟩) ?_
  · go_simp
  refine wpAnyHI_takeW (i := 9) (v := .bool ok) (some 8) rfl rfl (by kernel_rfl) (by kernel_rfl) (by kernel_rfl) (by kernel_rfl) (fun _ _ _ h => h) (.inl ⟨by kernel_rfl, fun W' hS' => ?_⟩) ?_
  · go_simp
  refine wpAnyHI_end (by kernel_rfl) ?_
  show KR _ _
  refine hKR _ _ ?_
  clear hKR KR
  have c4 := xp.cell
  have hzp := hBp.size
  have h3p := Hd.out.2.below hbwp (Nat.le_refl _)
  have hz3p := hbwp.size
  have Hp := Lib.hid (And.intro h3p hbwp)
  clear h3p hbwp hbwa hBa hB3 hcellH x3 c3' HP
  rcases hcase with ⟨rfl, ys, hys, hr4⟩ | ⟨rfl, hys⟩
  case inr =>
    have hbf : rnextR ts ss = ([], 17) := by rw [Hv.out.2.1, Hv.out.2.2, hys]
    have Hbf := Lib.hid hbf
    clear hbf hys
    go_wp2_with (fail)
    refine bodyPost_ret (v := .tuple #[.slice none 0 0, .int .i64 17]) (rnext_results _ _ _ _ (by simp) (by simp)) rfl ?_
    exact ListRes.none Hbf.out hBp
  obtain ⟨g4, c4', rfl⟩ := ownsRow_pos hr4 (by omega)
  have hi4 := row_ints hr4 (by omega)
  have hys' : rpullF ts ss (allL ts.length) = some ys := by rw [Hv.out.2.2]; exact hys
  have hbf : rnextR ts ss = if leadsF ts ys = [] then ([], 17) else (leadsF ts ys, 0) := by rw [Hv.out.2.1, hys']
  have hset : ∀ i, i < ts.length → ys.set i 0 ∈ statesL ts := fun i hi => by
    obtain ⟨_, _, _, _, e, _⟩ := visited_state Hv.out.1 HPh.out hys' hi
    exact e
  have Hy := Lib.hid (And.intro hbf (And.intro hset hi4))
  clear hbf hset hi4 hys hys' hr4
  go_wp2_with (fail)
  refine (Leads_any wp B1 w3.heap.size wp.heap.size A1 (some ⟨g3, 0, none⟩) (some ⟨g4, 0, none⟩) n c _ c3 c4' ts rs ys (h1.below hBp hB1) (by omega) Hp.out.1 hz3p Hy.out.2.2 (Nat.le_refl _) Hv.out.1 Hd.out.1 Hy.out.2.1).mono ?_
  rintro e w5 ⟨v5, rfl, hr5, hb5⟩
  obtain ⟨L, hL⟩ : ∃ L, L = leadsF ts ys := ⟨_, rfl⟩
  rw [← hL] at hr5
  obtain ⟨A5, c5, rfl, -⟩ := ownsRow_slice hr5
  have hB5 := hBp.trans (hb5.mono hzp)
  have x5 := bxBelow xp hb5 xp.lt
  have c5' := x5.cell
  have hz5 := hB5.size
  have h3p5 := Hp.out.1.below (hb5.mono hz3p) (Nat.le_refl _)
  have h4p5 := Hy.out.2.2.below hb5 (Nat.le_refl _)
  have hz45 := hb5.size
  have Hl := Lib.hid (And.intro hL (And.intro h3p5 h4p5))
  clear hr5 xp c4 hL h3p5 h4p5 hb5
  by_cases hl0 : L.length = 0
  · have hbf : rnextR ts ss = ([], 17) := by rw [Hy.out.1, if_pos (by rw [← Hl.out.1]; exact List.eq_nil_of_length_eq_zero hl0)]
    have Hbf := Lib.hid hbf
    clear hbf
    go_wp2_with (fail)
    refine bodyPost_ret (v := .tuple #[.slice none 0 0, .int .i64 17]) (rnext_results _ _ _ _ (by simp) (by simp)) rfl ?_
    exact ListRes.none Hbf.out hB5
  · have hbf : rnextR ts ss = (L, 0) := by rw [Hy.out.1, if_neg (by rw [← Hl.out.1]; intro e; rw [e] at hl0; exact hl0 rfl), ← Hl.out.1]
    have Hbf := Lib.hid hbf
    clear hbf
    have hl1 : ¬ (L.length : Int) = 0 := by omega
    go_wp2_with (fail)
    refine (Leads_any w5 B1 w3.heap.size wp.heap.size A1 (some ⟨g3, 0, none⟩) (some ⟨g4, 0, none⟩) n c _ c3 c4' ts rs ys (h1.below hB5 hB1) (by omega) Hl.out.2.1 (by omega) Hl.out.2.2 hz45 Hv.out.1 Hd.out.1 Hy.out.2.1).mono ?_
    rintro e w6 ⟨v6, rfl, hr6, hb6⟩
    rw [← Hl.out.1] at hr6
    have hB6 := hB5.trans (hb6.mono hz5)
    go_wp2_with (fail)
    refine bodyPost_ret (v := .tuple #[v6, .int .i64 0]) (rnext_results _ _ _ _ (by simp) (by simp)) rfl ?_
    refine ⟨v6, by rw [Hbf.out], ?_, hB6⟩
    rw [Hbf.out]
    exact row_mono hr6 hz5
end Go.Proofs.YtdpehmdmgijcmaaGreat
