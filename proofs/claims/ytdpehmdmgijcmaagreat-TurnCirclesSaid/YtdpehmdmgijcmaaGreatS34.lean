/- Parts of a proof: EE EF. -/
import Derived.Test.YtdpehmdmgijcmaaGreatS33

/- The reference's search of a shortest circle: pure part. -/
namespace Go.Proofs.YtdpehmdmgijcmaaGreat
open Go.RowKit Go.Shelf

/-- The place of a number. -/
def plI (ts : List Int) (k : Nat) : Pl := plOf ((statesL ts)[k]?.getD [])
theorem plI_get {ts xs : List Int} {k : Nat} (h : (statesL ts)[k]? = some xs) : plI ts k = plOf xs := by unfold plI; rw [h]; rfl
theorem plI_nice {ts : List Int} (hv : Valid ts) {k : Nat} (hk : k < (statesL ts).length) : Nice ts (plI ts k) := by
  rw [plI_get (List.getElem?_eq_getElem hk)]
  exact nice_of hv (List.getElem_mem hk)
theorem plI_inj {ts : List Int} (hv : Valid ts) {a b : Nat} (ha : a < (statesL ts).length) (hb : b < (statesL ts).length) (h : plI ts a = plI ts b) : a = b := by
  rw [plI_get (List.getElem?_eq_getElem ha), plI_get (List.getElem?_eq_getElem hb)] at h
  have h2 := congrArg plList h
  rw [(nice_plOf hv (List.getElem_mem ha)).2, (nice_plOf hv (List.getElem_mem hb)).2] at h2
  have h3 := idx_get hv.nonneg ha
  rw [h2, idx_get hv.nonneg hb] at h3
  omega
theorem plI_of {ts : List Int} (hv : Valid ts) {q : Pl} (hq : Nice ts q) : ∃ k, k < (statesL ts).length ∧ plI ts k = q := by
  obtain ⟨h1, h2⟩ := nice_list hv hq
  obtain ⟨k, hk, -, hs⟩ := idx_mem hv.nonneg h1
  exact ⟨k, hk, by rw [plI_get hs, h2]⟩
def farAt (far : List Int) (j : Nat) : Int := far[j]?.getD 0
theorem far_set {far : List Int} {k j : Nat} {v : Int} (hk : k < far.length) : farAt (far.set k v) j = if j = k then v else farAt far j := by
  unfold farAt
  rw [List.getElem?_set]
  by_cases h : k = j
  · subst h
    rw [if_pos rfl, if_pos hk, if_pos rfl]
    rfl
  · rw [if_neg h, if_neg (fun e => h e.symm)]

/-- While it is searched from a place; ub: no walk is longer. -/
structure SMid (ts : List Int) (start : Nat) (i : Nat) (far : List Int) (wait : List Nat) : Prop where
  flen : far.length = (statesL ts).length
  fnn : ∀ j, 0 ≤ farAt far j
  fs : farAt far start = 0
  w0 : wait[0]? = some start
  wlt : ∀ k ∈ wait, k < (statesL ts).length
  nd : wait.Nodup
  mem : ∀ j, j < (statesL ts).length → (0 < farAt far j ↔ j ∈ wait ∧ j ≠ start)
  path : ∀ j ∈ wait, ∃ row, Wins ts row ∧ (row.length : Int) = farAt far j ∧ playL ts row (plI ts start) = some (plI ts j)
  srt : wait.Pairwise fun a b => farAt far a ≤ farAt far b
  lvl : ∀ k b : Nat, wait[k]? = some b → farAt far b ≤ (k : Int)
  close : ∀ k b : Nat, k < i → wait[k]? = some b → ∀ z ∈ visitsF ts (plI ts b), z.2 ≠ plI ts start ∧ ∃ j ∈ wait, plI ts j = z.2 ∧ farAt far j ≤ farAt far b + 1
structure SInv (ts : List Int) (start : Nat) (i : Nat) (far : List Int) (wait : List Nat) : Prop extends SMid ts start i far wait where
  top : ∀ a ∈ wait, ∀ b, wait[i]? = some b → farAt far a ≤ farAt far b + 1
theorem mget_marks (f : Nat → Pl) (x : Pl) : ∀ l : List Nat, mget false (l.map fun j => (f j, true)) x = true ↔ x ∈ l.map f
  | [] => by simp [mget, mfind]
  | a :: l => by
    have ih := mget_marks f x l
    have : mget false ((f a, true) :: l.map fun j => (f j, true)) x = if x = f a then true else mget false (l.map fun j => (f j, true)) x := by
      unfold mget
      by_cases e : x = f a
      · rw [if_pos e, mfind, if_pos e]
      · rw [if_neg e, mfind, if_neg e]
        cases mfind x (l.map fun j => (f j, true)) <;> rfl
    rw [List.map_cons, List.map_cons, List.mem_cons, this]
    by_cases e : x = f a
    · simp [e]
    · rw [if_neg e]
      exact ⟨fun h => .inr (ih.1 h), fun h => ih.2 (h.resolve_left e)⟩
theorem mem_le_sum : ∀ (l : List Nat) (x : Nat), x ∈ l → x ≤ l.sum
  | [], _, h => by cases h
  | a :: l, x, h => by
    rw [List.sum_cons]
    rcases List.mem_cons.1 h with rfl | h
    · omega
    · have := mem_le_sum l x h
      omega
/-- From where it is searched, no row that leads back is shorter. -/
theorem smid_min {ts : List Int} (hv : Valid ts) {start i : Nat} {far : List Int} {wait : List Nat} (h : SMid ts start i far wait) (htop : ∀ a ∈ wait, ∀ b, wait[i]? = some b → farAt far a ≤ farAt far b + 1) {row : List Int} (hc : Cyc ts (plI ts start) row) : ∃ b, wait[i]? = some b ∧ farAt far b < (row.length : Int) := by
  have hch : ∀ j : Nat, ∃ r : List Int, j ∈ wait → Wins ts r ∧ (r.length : Int) = farAt far j ∧ playL ts r (plI ts start) = some (plI ts j) := fun j => by
    by_cases hj : j ∈ wait
    · obtain ⟨r, hr⟩ := h.path j hj
      exact ⟨r, fun _ => hr⟩
    · exact ⟨[], fun hj' => absurd hj' hj⟩
  obtain ⟨rc, hrc⟩ : ∃ rc : Nat → List Int, ∀ j, j ∈ wait → Wins ts (rc j) ∧ ((rc j).length : Int) = farAt far j ∧ playL ts (rc j) (plI ts start) = some (plI ts j) := ⟨fun j => Classical.choose (hch j), fun j => Classical.choose_spec (hch j)⟩
  have hsm : start ∈ wait := List.mem_of_getElem? h.w0
  have hrs : rc start = [] := by
    have := (hrc start hsm).2.1
    rw [h.fs] at this
    exact List.eq_nil_of_length_eq_zero (by omega)
  obtain ⟨s, hs⟩ : ∃ s : WSt, s = (wait.map (fun j => (plI ts j, rc j)), (wait.drop 1).map (fun j => (plI ts j, true))) := ⟨_, rfl⟩
  have hlen : ∀ j ∈ wait, (((rc j).length : Nat) : Int) = farAt far j := fun j hj => (hrc j hj).2.1
  have hget : ∀ k : Nat, s.1[k]? = (wait[k]?).map fun j => (plI ts j, rc j) := fun k => by rw [hs]; simp
  have hmem : ∀ y, y ∈ s.1 ↔ ∃ j ∈ wait, y = (plI ts j, rc j) := fun y => by
    rw [hs]
    simp only [List.mem_map]
    exact ⟨fun ⟨j, a, b⟩ => ⟨j, a, b.symm⟩, fun ⟨j, a, b⟩ => ⟨j, a, b.symm⟩⟩
  have hinv : BInv ts (plI ts start) i s := by
    refine ⟨⟨(wait.map fun j => (rc j).length).sum, ⟨?_, fun y hy => ?_, fun x => ?_, ?_, ?_, fun y hy => ?_⟩⟩, fun y hy z hz => ?_, fun k y hk hy z hz => ?_⟩
    · rw [hget, h.w0]
      simp [hrs]
    · obtain ⟨j, hj, rfl⟩ := (hmem y).1 hy
      exact ⟨(hrc j hj).1, (hrc j hj).2.2⟩
    · have e1 : (s.1.drop 1).map (·.1) = (wait.drop 1).map (plI ts) := by rw [hs]; simp [Function.comp_def]
      rw [e1, hs]
      dsimp only
      exact mget_marks (plI ts) x _
    · have e1 : s.1.map (·.1) = wait.map (plI ts) := by rw [hs]; simp [Function.comp_def]
      rw [e1]
      refine List.pairwise_map.2 ?_
      refine List.Pairwise.imp_of_mem ?_ h.nd
      intro a b ha hb hab e
      exact hab (plI_inj hv (h.wlt a ha) (h.wlt b hb) e)
    · rw [hs]
      refine List.pairwise_map.2 ?_
      refine List.Pairwise.imp_of_mem ?_ h.srt
      intro a b ha hb hab
      have h1 := hlen a ha
      have h2 := hlen b hb
      dsimp only
      omega
    · obtain ⟨j, hj, rfl⟩ := (hmem y).1 hy
      exact mem_le_sum _ _ (List.mem_map.2 ⟨j, hj, rfl⟩)
    · obtain ⟨j, hj, rfl⟩ := (hmem y).1 hy
      rw [hget] at hz
      cases hb : wait[i]? with
      | none => rw [hb] at hz; cases hz
      | some b =>
        rw [hb] at hz
        cases hz
        have h1 := hlen j hj
        have h2 := hlen b (List.mem_of_getElem? hb)
        have h3 := htop j hj b hb
        dsimp only
        omega
    · rw [hget] at hy
      cases hb : wait[k]? with
      | none => rw [hb] at hy; cases hy
      | some b =>
        rw [hb] at hy
        cases hy
        obtain ⟨c1, j, hj, c2, c3⟩ := h.close k b hk hb z hz
        refine ⟨c1, fun _ => ⟨(plI ts j, rc j), (hmem _).2 ⟨j, hj, rfl⟩, c2, ?_⟩⟩
        have h1 := hlen j hj
        have h2 := hlen b (List.mem_of_getElem? hb)
        dsimp only
        omega
  obtain ⟨q, hq, hlt⟩ := bfs_min hv hinv hc
  rw [hget] at hq
  cases hb : wait[i]? with
  | none => rw [hb] at hq; cases hq
  | some b =>
    rw [hb] at hq
    cases hq
    refine ⟨b, rfl, ?_⟩
    have h2 := hlen b (List.mem_of_getElem? hb)
    dsimp only at hlt
    omega
/-- Found: no row that leads back is shorter, and one is as long. -/
def SFound (ts : List Int) (start : Nat) (D : Int) : Prop := (∃ row, Cyc ts (plI ts start) row ∧ (row.length : Int) = D) ∧ (∀ row, Cyc ts (plI ts start) row → D ≤ (row.length : Int)) ∧ 0 < D ∧ D ≤ ((statesL ts).length : Int)
theorem smid_found {ts : List Int} (hv : Valid ts) {start i b w : Nat} {far : List Int} {wait : List Nat} (h : SMid ts start i far wait) (htop : ∀ a ∈ wait, ∀ b, wait[i]? = some b → farAt far a ≤ farAt far b + 1) (hb : wait[i]? = some b) (hz : (w, plI ts start) ∈ visitsF ts (plI ts b)) : SFound ts start (farAt far b + 1) := by
  have hbm := List.mem_of_getElem? hb
  obtain ⟨row, h1, h2, h3⟩ := h.path b hbm
  have hs := h.wlt start (List.mem_of_getElem? h.w0)
  refine ⟨⟨row ++ [(w : Int)], ⟨by simp, h1.append fun i hi => ?_, plI_nice hv hs, ?_⟩, by simp; omega⟩, fun r hr => ?_, ?_, ?_⟩
  · rw [List.mem_singleton.1 hi]
    have := visit_fst hz
    simp only at this
    omega
  · rw [play_append, h3]
    exact play_go (row := []) hz
  · obtain ⟨b', hb', hlt⟩ := smid_min hv h htop hr
    rw [hb] at hb'
    cases hb'
    omega
  · have := h.fnn b
    omega
  · have h4 := h.lvl i b hb
    have h5 := (List.getElem?_eq_some_iff.1 hb).1
    have h6 : wait.length ≤ (statesL ts).length := by
      have hsub : wait ⊆ List.range (statesL ts).length := fun x hx => List.mem_range.2 (h.wlt x hx)
      have := List.Nodup.length_le_of_subset h.nd hsub
      simpa using this
    omega
end Go.Proofs.YtdpehmdmgijcmaaGreat

/- The reference's search of a shortest circle: its steps. -/
namespace Go.Proofs.YtdpehmdmgijcmaaGreat
open Go.RowKit Go.Shelf

/-- While the visits of the place of b are gone through, those of the first w windows behind. -/
structure SWin (ts : List Int) (start i b w : Nat) (far : List Int) (wait : List Nat) : Prop extends SMid ts start i far wait where
  at_ : wait[i]? = some b
  ub : ∀ a ∈ wait, farAt far a ≤ farAt far b + 1
  seen : ∀ z ∈ visitsF ts (plI ts b), z.1 < w → z.2 ≠ plI ts start ∧ ∃ j ∈ wait, plI ts j = z.2 ∧ farAt far j ≤ farAt far b + 1
theorem SInv.begin {ts : List Int} {start i b : Nat} {far : List Int} {wait : List Nat} (h : SInv ts start i far wait) (hb : wait[i]? = some b) : SWin ts start i b 0 far wait :=
  { toSMid := h.toSMid, at_ := hb, ub := fun a ha => h.top a ha b hb, seen := fun _ _ h => absurd h (by omega) }
theorem SWin.next {ts : List Int} {start i b w : Nat} {far : List Int} {wait : List Nat} (h : SWin ts start i b w far wait) (hw : ∀ z ∈ visitsF ts (plI ts b), z.1 < w) : SInv ts start (i + 1) far wait := by
  have hclose : ∀ k b' : Nat, k < i + 1 → wait[k]? = some b' → ∀ z ∈ visitsF ts (plI ts b'), z.2 ≠ plI ts start ∧ ∃ j ∈ wait, plI ts j = z.2 ∧ farAt far j ≤ farAt far b' + 1 := fun k b' hk hb z hz => by
    rcases Nat.lt_succ_iff_lt_or_eq.1 hk with h' | rfl
    · exact h.close k b' h' hb z hz
    · rw [h.at_] at hb
      cases hb
      exact h.seen z hz (hw z hz)
  have htop : ∀ a ∈ wait, ∀ b', wait[i + 1]? = some b' → farAt far a ≤ farAt far b' + 1 := fun a ha b' hb' => by
    have h1 := h.ub a ha
    obtain ⟨l1, e1⟩ := List.getElem?_eq_some_iff.1 h.at_
    obtain ⟨l2, e2⟩ := List.getElem?_eq_some_iff.1 hb'
    have := (List.pairwise_iff_getElem.1 h.srt) i (i + 1) l1 l2 (by omega)
    rw [e1, e2] at this
    omega
  exact { toSMid := { h.toSMid with close := hclose }, top := htop }
theorem sinv_zero {ts : List Int} {start : Nat} (hs : start < (statesL ts).length) : SInv ts start 0 (List.replicate (statesL ts).length 0) [start] := by
  have hz : ∀ j, farAt (List.replicate (statesL ts).length 0) j = 0 := fun j => by
    unfold farAt
    rw [List.getElem?_replicate]
    split <;> rfl
  refine { flen := by simp, fnn := fun j => by rw [hz]; exact Int.le_refl _, fs := hz _, w0 := rfl, wlt := fun k hk => by rw [List.mem_singleton.1 hk]; exact hs, nd := by simp, mem := fun j _ => ?_, path := fun j hj => ?_, srt := by simp, lvl := fun k b hb => by rw [hz]; omega, close := fun k b hk => by omega, top := fun a ha b hb => by rw [hz, hz]; omega }
  · rw [hz]
    simp
  · rw [List.mem_singleton.1 hj, hz]
    exact ⟨[], fun i hi => (by cases hi), rfl, rfl⟩
theorem SWin.keep {ts : List Int} {start i b w to : Nat} {far : List Int} {wait : List Nat} (hv : Valid ts) (h : SWin ts start i b w far wait) (hz : (w, plI ts to) ∈ visitsF ts (plI ts b)) (hto : to < (statesL ts).length) (hf : 0 < farAt far to) : SWin ts start i b (w + 1) far wait := by
  obtain ⟨h1, h2⟩ := (h.mem to hto).1 hf
  refine { toSMid := h.toSMid, at_ := h.at_, ub := h.ub, seen := fun z hzm hw => ?_ }
  rcases Nat.lt_succ_iff_lt_or_eq.1 hw with h' | h'
  · exact h.seen z hzm h'
  · obtain ⟨zw, zp⟩ := z
    simp only at h'
    subst h'
    have e := visit_one hv hzm hz
    subst e
    exact ⟨fun e => h2 (plI_inj hv hto (h.wlt start (List.mem_of_getElem? h.w0)) e), to, h1, rfl, h.ub to h1⟩
theorem SWin.more {ts : List Int} {start i b w to : Nat} {far : List Int} {wait : List Nat} (hv : Valid ts) (h : SWin ts start i b w far wait) (hz : (w, plI ts to) ∈ visitsF ts (plI ts b)) (hto : to < (statesL ts).length) (hs : to ≠ start) (hf : farAt far to = 0) :
    SWin ts start i b (w + 1) (far.set to (farAt far b + 1)) (wait ++ [to]) := by
  have hnew : to ∉ wait := fun hm => by
    have := (h.mem to hto).2 ⟨hm, hs⟩
    omega
  have hset : ∀ j, farAt (far.set to (farAt far b + 1)) j = if j = to then farAt far b + 1 else farAt far j := fun j => far_set (by rw [h.flen]; exact hto)
  have hold : ∀ j : Nat, j ∈ wait → farAt (far.set to (farAt far b + 1)) j = farAt far j := fun j hj => by
    rw [hset, if_neg (fun e : j = to => hnew (e ▸ hj))]
  have hbm := List.mem_of_getElem? h.at_
  have hil : i < wait.length := (List.getElem?_eq_some_iff.1 h.at_).1
  have hw0 : 0 < wait.length := by omega
  have hsm := List.mem_of_getElem? h.w0
  have hgl : ∀ k : Nat, k < wait.length → (wait ++ [to])[k]? = wait[k]? := fun k hk => List.getElem?_append_left hk
  refine { flen := by rw [List.length_set]; exact h.flen, fnn := fun j => ?_, fs := by rw [hold _ hsm]; exact h.fs, w0 := by rw [hgl 0 hw0]; exact h.w0, wlt := fun k hk => ?_, nd := ?_, mem := fun j hj => ?_, path := fun j hj => ?_, srt := ?_, lvl := fun k x hx => ?_, close := fun k x hk hx z hzm => ?_, at_ := by rw [hgl i hil]; exact h.at_, ub := fun a ha => ?_, seen := fun z hzm hw => ?_ }
  · rw [hset]
    have := h.fnn j
    have := h.fnn b
    split <;> omega
  · rcases List.mem_append.1 hk with h' | h'
    · exact h.wlt k h'
    · rw [List.mem_singleton.1 h']; exact hto
  · refine List.nodup_append.2 ⟨h.nd, by simp, fun a ha c hc => ?_⟩
    rw [List.mem_singleton.1 hc]
    exact fun e => hnew (e ▸ ha)
  · rw [hset, List.mem_append, List.mem_singleton]
    by_cases e : j = to
    · subst e
      rw [if_pos rfl]
      have := h.fnn b
      exact ⟨fun _ => ⟨.inr rfl, hs⟩, fun _ => by omega⟩
    · rw [if_neg e, h.mem j hj]
      simp [e]
  · rcases List.mem_append.1 hj with h' | h'
    · rw [hold j h']
      exact h.path j h'
    · rw [List.mem_singleton.1 h', hset, if_pos rfl]
      obtain ⟨row, r1, r2, r3⟩ := h.path b hbm
      refine ⟨row ++ [(w : Int)], r1.append fun i hi => ?_, by simp; omega, ?_⟩
      · rw [List.mem_singleton.1 hi]
        have := visit_fst hz
        simp only at this
        omega
      · rw [play_append, r3]
        exact play_go (row := []) hz
  · rw [List.pairwise_append]
    refine ⟨?_, by simp, fun a ha c hc => ?_⟩
    · refine List.Pairwise.imp_of_mem ?_ h.srt
      intro a c ha hc hac
      rw [hold a ha, hold c hc]
      exact hac
    · rw [List.mem_singleton.1 hc, hold a ha, hset, if_pos rfl]
      exact h.ub a ha
  · by_cases hkl : k < wait.length
    · rw [hgl k hkl] at hx
      rw [hold x (List.mem_of_getElem? hx)]
      exact h.lvl k x hx
    · have hk1 : k = wait.length := by
        have := (List.getElem?_eq_some_iff.1 hx).1
        simp at this
        omega
      subst hk1
      rw [List.getElem?_append_right (Nat.le_refl _), Nat.sub_self] at hx
      simp only [List.getElem?_cons_zero, Option.some.injEq] at hx
      rw [← hx, hset, if_pos rfl]
      have := h.lvl i b h.at_
      omega
  · rw [hgl k (by omega)] at hx
    obtain ⟨c1, j, hj, c2, c3⟩ := h.close k x hk hx z hzm
    refine ⟨c1, j, List.mem_append_left _ hj, c2, ?_⟩
    rw [hold j hj, hold x (List.mem_of_getElem? hx)]
    exact c3
  · rw [hold b hbm]
    rcases List.mem_append.1 ha with h' | h'
    · rw [hold a h']
      exact h.ub a h'
    · rw [List.mem_singleton.1 h', hset, if_pos rfl]
      exact Int.le_refl _
  · rw [hold b hbm]
    rcases Nat.lt_succ_iff_lt_or_eq.1 hw with h' | h'
    · obtain ⟨c1, j, hj, c2, c3⟩ := h.seen z hzm h'
      exact ⟨c1, j, List.mem_append_left _ hj, c2, by rw [hold j hj]; exact c3⟩
    · obtain ⟨zw, zp⟩ := z
      simp only at h'
      subst h'
      have e := visit_one hv hzm hz
      subst e
      exact ⟨fun e => hs (plI_inj hv hto (h.wlt start hsm) e), to, by simp, rfl, by rw [hset, if_pos rfl]; exact Int.le_refl _⟩
theorem SWin.found {ts : List Int} {start i b w : Nat} {far : List Int} {wait : List Nat} (hv : Valid ts) (h : SWin ts start i b w far wait) (hz : (w, plI ts start) ∈ visitsF ts (plI ts b)) : SFound ts start (farAt far b + 1) :=
  smid_found hv h.toSMid (fun a ha b' hb' => by rw [h.at_] at hb'; cases hb'; exact h.ub a ha) h.at_ hz
theorem SInv.none {ts : List Int} {start i : Nat} {far : List Int} {wait : List Nat} (hv : Valid ts) (h : SInv ts start i far wait) (hi : wait.length ≤ i) (row : List Int) : ¬ Cyc ts (plI ts start) row := fun hc => by
  obtain ⟨b, hb, -⟩ := smid_min hv h.toSMid h.top hc
  rw [List.getElem?_eq_none hi] at hb
  cases hb
theorem SMid.few {ts : List Int} {start i : Nat} {far : List Int} {wait : List Nat} (h : SMid ts start i far wait) : wait.length ≤ (statesL ts).length := by
  have hsub : wait ⊆ List.range (statesL ts).length := fun x hx => List.mem_range.2 (h.wlt x hx)
  have := List.Nodup.length_le_of_subset h.nd hsub
  simpa using this

/-- The best so far, of the first k places. -/
structure Best (ts : List Int) (k : Nat) (best : Int) : Prop where
  lo : 0 ≤ best
  hi : best ≤ ((statesL ts).length : Int) + 1
  own : best = ((statesL ts).length : Int) + 1 ∨ ∃ p row, Cyc ts p row ∧ (row.length : Int) = best
  all : ∀ j, j < k → ∀ row, Cyc ts (plI ts j) row → best ≤ (row.length : Int) ∧ best ≤ ((statesL ts).length : Int)
theorem best_zero (ts : List Int) : Best ts 0 (((statesL ts).length : Int) + 1) := ⟨by omega, Int.le_refl _, .inl rfl, fun j h => by omega⟩
theorem Best.skip {ts : List Int} {k : Nat} {best : Int} (h : Best ts k best) (hn : ∀ row, ¬ Cyc ts (plI ts k) row) : Best ts (k + 1) best := ⟨h.lo, h.hi, h.own, fun j hj row hr => by
  rcases Nat.lt_succ_iff_lt_or_eq.1 hj with h' | rfl
  · exact h.all j h' row hr
  · exact absurd hr (hn row)⟩
theorem Best.found {ts : List Int} {k : Nat} {best D : Int} (h : Best ts k best) (hf : SFound ts k D) : Best ts (k + 1) (min best D) := by
  obtain ⟨⟨r0, c0, e0⟩, hmin, hD, hDN⟩ := hf
  have hlo := h.lo
  have hhi := h.hi
  refine ⟨by omega, by omega, ?_, fun j hj row hr => ?_⟩
  · rcases Int.le_total best D with hle | hle
    · rw [Int.min_eq_left hle]; exact h.own
    · rw [Int.min_eq_right hle]; exact .inr ⟨_, r0, c0, e0⟩
  · rcases Nat.lt_succ_iff_lt_or_eq.1 hj with h' | rfl
    · have := h.all j h' row hr
      omega
    · have := hmin row hr
      omega
theorem best_is {ts : List Int} (hv : Valid ts) {best : Int} (h : Best ts (statesL ts).length best) {p : Pl} {row : List Int} (hc : Cyc ts p row) (hmin : ∀ q r, Cyc ts q r → row.length ≤ r.length) : best = (row.length : Int) := by
  obtain ⟨k, hk, hp⟩ := plI_of hv hc.nice
  rw [← hp] at hc
  obtain ⟨h1, h2⟩ := h.all k hk row hc
  rcases h.own with e | ⟨q, r, c, e⟩
  · omega
  · have := hmin q r c
    omega
end Go.Proofs.YtdpehmdmgijcmaaGreat
