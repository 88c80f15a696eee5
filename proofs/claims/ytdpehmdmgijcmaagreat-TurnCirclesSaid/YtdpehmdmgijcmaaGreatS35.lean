/- Parts of a proof: EG. -/
import Derived.Test.YtdpehmdmgijcmaaGreatS34

/- References: CircleError, Shortest. -/
namespace Go.Proofs.YtdpehmdmgijcmaaGreat
open Go.RowKit Go.Shelf

attribute [local go_sem] Oper.semAt_some

noncomputable def circErrF (ts : List Int) : Int := if checkHallF ts ≠ 0 then checkHallF ts else if safeF ts (List.replicate ts.length (0 : Int)) then 0 else 17
theorem circ_err (ts : List Int) (win : Nat) : (circleR ts win).2 = circErrF ts := by
  unfold circErrF
  by_cases hc : checkHallF ts = 0
  · rw [if_neg (by simp [hc])]
    unfold safeF
    rw [plOf_laid ts rfl]
    by_cases hd : emptyP ts ∈ dq ts
    · rw [circle_doomed hc hd, if_neg (by simpa using hd)]
    · rw [circle_safe hc hd, if_pos (by simpa using hd)]
  · rw [if_pos hc]
    unfold circleR
    rw [if_pos hc]
set_option maxRecDepth 100000 in
set_option maxHeartbeats 8000000 in
theorem CircleError_any (w : World) (B1 : Nat) (A1 : Option Addr) (n c : Nat) (ts : List Int) (h1 : IntsAt w B1 A1 n ts) (hB1 : B1 ≤ w.heap.size) :
    Calls Tryz.prog 16 #[.agg #[.slice A1 n c]] w fun e w' => e = .returned (.int .i64 (circErrF ts)) ∧ Below w.heap.size w w' := by
  have hb0 : Below w.heap.size w (w.alloc (.cells #[.slice A1 n c] 24)) := (Below.refl _ w).alloc (Nat.le_refl _) _
  have x0 := Boxed.new w 24 (.slice A1 n c)
  have c0 := x0.cell
  have Hn := Lib.hid h1.len
  go_enter Tryz.func16, Tryz.ntmps16
  go_wp2_with (fail)
  refine (rcheckHall_any _ B1 A1 n c ts (h1.below hb0 hB1) (by have := hb0.size; omega)).mono ?_
  rintro e w2 ⟨rfl, hb2⟩
  have hB2' := hb0.trans (hb2.mono hb0.size)
  have x2 := bxBelow x0 hb2 x0.lt
  clear hb0 hb2 x0 c0
  have c2 := x2.cell
  have hz2 := hB2'.size
  obtain ⟨r, hr⟩ : ∃ r, r = checkHallF ts := ⟨_, rfl⟩
  rw [← hr]
  by_cases hr0 : r = 0
  case neg =>
    have hne : (r != 0) = true := by simp [hr0]
    have hdf : circErrF ts = r := by unfold circErrF; rw [← hr, if_pos hr0]
    have Hr := Lib.hid (And.intro hr hdf)
    clear hr hdf
    go_wp2_with (fail)
    refine (rcheckHall_any _ B1 A1 n c ts (h1.below hB2' hB1) (by omega)).mono ?_
    rintro e w3 ⟨rfl, hb3⟩
    rw [← Hr.out.1]
    have hB3 := hB2'.trans (hb3.mono hz2)
    go_wp2_with (fail)
    go_ret
    exact ⟨ret_int Hr.out.2.symm, hB3⟩
  have hc := hr.symm.trans hr0
  have hv := valid_of hc
  have hn1 : 1 ≤ n ∧ n ≤ 5 := by have := hv.h1; have := hv.h5; have := Hn.out; omega
  have hdf : circErrF ts = if safeF ts (List.replicate n (0 : Int)) then 0 else 17 := by unfold circErrF; rw [if_neg (by simp [hc]), Hn.out]
  have hzs := (stated_states (stated_zeros hc Hn.out.symm)).2
  have Hv := Lib.hid (And.intro hv (And.intro hdf hzs))
  have hN := states_few hv
  have hN0 := rows_pos hv
  clear hv hdf hzs hc hr
  subst hr0
  go_wp2_with (fail)
  have hcellH : ∀ W', Boxed W' w.heap.size 24 (.slice A1 n c) → W'.cell? ⟨w.heap.size, 0, none⟩ = some (.slice A1 n c) := fun W' h => h.cell
  refine region_held_wp 1 (fun W' => Boxed W' w.heap.size 24 (.slice A1 n c)) (fun j => decide (j < 5)) (by kernel_rfl) ?_
  intro KR hKR
  have hS : Boxed w2.drew w.heap.size 24 (.slice A1 n c) := bxBelow x2 (below_drew _) x2.lt
  refine wpAnyHI_takeE (i := 0) (v := .agg #[.slice A1 n c]) (some 8) rfl rfl (by kernel_rfl) (by kernel_rfl) (by kernel_rfl) (by kernel_rfl) (by kernel_rfl) (fun _ _ _ h => h) hS (.inl ⟨by kernel_rfl, fun W' hS' => ?_⟩) ?_
  · have q := hcellH W' hS'; go_simp
  refine wpAnyHI_takeE (i := 1) (v := .agg #[.slice A1 n c]) (some 9) rfl rfl (by kernel_rfl) (by kernel_rfl) (by kernel_rfl) (by kernel_rfl) (by kernel_rfl) (fun _ _ _ h => h) hS (.inl ⟨by kernel_rfl, fun W' hS' => ?_⟩) ?_
  · have q := hcellH W' hS'; go_simp
  refine wpAnyHI_takeE (i := 3) (v := .agg #[.slice A1 n c]) (some 11) rfl rfl (by kernel_rfl) (by kernel_rfl) (by kernel_rfl) (by kernel_rfl) (by kernel_rfl) (fun _ _ _ h => h) hS (.inl ⟨by kernel_rfl, fun W' hS' => ?_⟩) ?_
  · have q := hcellH W' hS'; go_simp
  refine wpAnyHI_one (i := 2) rfl (by kernel_rfl) ?_
  intro K1 hK1
  go_simp
  refine ⟨trivial, (callsIn_wide.2 (Rows_any _ B1 A1 n c ts (h1.below (hB2'.trans ((below_drew w2).mono hz2)) hB1) (Nat.le_trans hB1 hz2) Hv.out.1)).mono ?_⟩
  rintro e w3 ⟨v3, rs, rfl, hr3, hdone, hb3⟩
  obtain ⟨g3, c3, rfl⟩ := ownsRow_pos hr3 hN0
  have hi3 := row_ints hr3 (by omega)
  have hb23 : Below w2.heap.size w2 w3 := (below_drew w2).trans hb3
  have hB3 := hB2'.trans (hb23.mono hz2)
  have hS3 := bxBelow x2 hb23 x2.lt
  refine hK1 _ _ ⟨fun _ => hS3, ?_⟩
  clear hK1 K1 hr3 hS x2 c2 hb3
  refine wpAnyHI_one (i := 4) rfl (by kernel_rfl) ?_
  intro K1 hK1
  go_simp
  refine ⟨trivial, (callsIn_wide.2 (Empty_any _ A1 n c hn1.1 hn1.2)).mono ?_⟩
  rintro e w4 ⟨g4, hg4, rfl, hr4, hb4⟩
  have hi4 := ints_laid (n := n) (xs := List.replicate n (0 : Int)) hr4 (by simp) (by omega)
  have hi34 := hi3.below hb4 (Nat.le_refl _)
  have hB4 := hB3.trans (hb4.mono hB3.size)
  have hS4 := bxBelow hS3 hb4 hS3.lt
  have hz34 := hb4.size
  refine hK1 _ _ ⟨fun _ => hS4, ?_⟩
  clear hK1 K1 hr4 hS3 hi3 hB3
  refine wpAnyHI_one (i := 5) rfl (by kernel_rfl) ?_
  intro K1 hK1
  go_simp
  refine ⟨trivial, (callsIn_wide.2 (IsSafe_any _ B1 w3.heap.size w4.heap.size A1 (some ⟨g3, 0, none⟩) (some ⟨g4, 0, none⟩) n c _ c3 n ts rs (List.replicate n (0 : Int)) (h1.below hB4 hB1) (by have := hB4.size; omega) hi34 hz34 hi4 (Nat.le_refl _) Hv.out.1 hdone Hv.out.2.2)).mono ?_⟩
  rintro e w5 ⟨rfl, hb5⟩
  obtain ⟨s, hs⟩ : ∃ s, s = safeF ts (List.replicate n (0 : Int)) := ⟨_, rfl⟩
  rw [← hs]
  have hB5 := hB4.trans (hb5.mono hB4.size)
  refine hK1 _ _ ⟨fun h => absurd h (by decide), ?_⟩
  clear hK1 K1 hi34 hi4 hS4 hb5 hb4 hb23
  have Hs := Lib.hid hs
  clear hs
  cases s with
  | true =>
    refine wpAnyHI_takeW (i := 6) (v := .bool false) (some 14) rfl rfl (by kernel_rfl) (by kernel_rfl) (by kernel_rfl) (by kernel_rfl) (fun _ _ _ h => h) (.inl ⟨by kernel_rfl, fun W' hS' => ?_⟩) ?_
    · go_simp
    refine wpAnyHI_end (by kernel_rfl) ?_
    show KR _ _
    refine hKR _ _ ?_
    clear hKR KR
    clear hcellH hB4 hB2'
    go_wp2_with (fail)
    go_ret
    exact ⟨ret_int (by rw [Hv.out.2.1, ← Hs.out]; rfl), hB5⟩
  | false =>
    refine wpAnyHI_takeW (i := 6) (v := .bool true) (some 14) rfl rfl (by kernel_rfl) (by kernel_rfl) (by kernel_rfl) (by kernel_rfl) (fun _ _ _ h => h) (.inl ⟨by kernel_rfl, fun W' hS' => ?_⟩) ?_
    · go_simp
    refine wpAnyHI_end (by kernel_rfl) ?_
    show KR _ _
    refine hKR _ _ ?_
    clear hKR KR
    clear hcellH hB4 hB2'
    go_wp2_with (fail)
    go_ret
    exact ⟨ret_int (by rw [Hv.out.2.1, ← Hs.out]; rfl), hB5⟩

/-- Where a way back has been found. -/
structure FInv (ts : List Int) (start i b w : Nat) (D : Int) (far : List Int) (wait : List Nat) : Prop where
  flen : far.length = (statesL ts).length
  bds : ∀ j, 0 ≤ farAt far j ∧ farAt far j ≤ ((statesL ts).length : Int) + 1
  fs : farAt far start = D
  fd : SFound ts start D
  at_ : wait[i]? = some b
  pos : 0 < farAt far b ∧ farAt far b ≤ ((statesL ts).length : Int)
  few : wait.length ≤ (statesL ts).length + 1 + w
theorem FInv.keep {ts : List Int} {start i b w : Nat} {D : Int} {far : List Int} {wait : List Nat} (h : FInv ts start i b w D far wait) : FInv ts start i b (w + 1) D far wait := ⟨h.flen, h.bds, h.fs, h.fd, h.at_, h.pos, by have := h.few; omega⟩
theorem FInv.more {ts : List Int} {start i b w to : Nat} {D : Int} {far : List Int} {wait : List Nat} (h : FInv ts start i b w D far wait) (hto : to < (statesL ts).length) (hf : farAt far to = 0) : FInv ts start i b (w + 1) D (far.set to (farAt far b + 1)) (wait ++ [to]) := by
  have hset : ∀ j, farAt (far.set to (farAt far b + 1)) j = if j = to then farAt far b + 1 else farAt far j := fun j => far_set (by rw [h.flen]; exact hto)
  have hts : start ≠ to := fun e => by have := h.fs; have := h.fd.2.2.1; rw [e] at *; omega
  have hbt : b ≠ to := fun e => by have := h.pos.1; rw [e] at this; omega
  have hil := (List.getElem?_eq_some_iff.1 h.at_).1
  refine ⟨by rw [List.length_set]; exact h.flen, fun j => ?_, by rw [hset, if_neg hts]; exact h.fs, h.fd, by rw [List.getElem?_append_left hil]; exact h.at_, by rw [hset, if_neg hbt]; exact h.pos, by have := h.few; simp; omega⟩
  rw [hset]
  have := h.bds j
  have := h.pos
  split <;> omega
theorem SWin.bds {ts : List Int} {start i b w : Nat} {far : List Int} {wait : List Nat} (h : SWin ts start i b w far wait) : ∀ j, 0 ≤ farAt far j ∧ farAt far j ≤ ((statesL ts).length : Int) := fun j => by
  refine ⟨h.fnn j, ?_⟩
  by_cases hj : j < (statesL ts).length
  · by_cases h0 : 0 < farAt far j
    · obtain ⟨h1, -⟩ := (h.mem j hj).1 h0
      obtain ⟨k, hk, e⟩ := List.getElem_of_mem h1
      have := h.lvl k j (by rw [List.getElem?_eq_getElem hk, e])
      have := h.toSMid.few
      omega
    · omega
  · unfold farAt
    rw [List.getElem?_eq_none (by rw [h.flen]; omega)]
    simp
theorem SWin.to_found {ts : List Int} {start i b w : Nat} {far : List Int} {wait : List Nat} (hv : Valid ts) (h : SWin ts start i b w far wait) (hz : (w, plI ts start) ∈ visitsF ts (plI ts b)) : FInv ts start i b (w + 1) (farAt far b + 1) (far.set start (farAt far b + 1)) (wait ++ [start]) := by
  have hs := h.wlt start (List.mem_of_getElem? h.w0)
  have hfd := h.found hv hz
  have hset : ∀ j, farAt (far.set start (farAt far b + 1)) j = if j = start then farAt far b + 1 else farAt far j := fun j => far_set (by rw [h.flen]; exact hs)
  have hil := (List.getElem?_eq_some_iff.1 h.at_).1
  have hfew := h.toSMid.few
  refine ⟨by rw [List.length_set]; exact h.flen, fun j => ?_, by rw [hset, if_pos rfl], hfd, by rw [List.getElem?_append_left hil]; exact h.at_, ?_, by simp; omega⟩
  · rw [hset]
    have := h.bds j
    have := h.bds b
    split <;> omega
  · rw [hset]
    by_cases e : b = start
    · rw [if_pos e]
      have := hfd.2.2
      omega
    · rw [if_neg e]
      have h1 := (h.mem b (h.wlt b (List.mem_of_getElem? h.at_))).2 ⟨List.mem_of_getElem? h.at_, e⟩
      have := h.bds b
      omega
/-- The search goes on, or is over. -/
def SAny (ts : List Int) (start i : Nat) (far : List Int) (wait : List Nat) : Prop := SInv ts start i far wait ∨ (far.length = (statesL ts).length ∧ SFound ts start (farAt far start) ∧ wait.length ≤ 2000)
def WAny (ts : List Int) (start i b w : Nat) (far : List Int) (wait : List Nat) : Prop := SWin ts start i b w far wait ∨ ∃ D, FInv ts start i b w D far wait
theorem WAny.facts {ts : List Int} {start i b w : Nat} {far : List Int} {wait : List Nat} (hv : Valid ts) (h : WAny ts start i b w far wait) (hw : w ≤ 5) : far.length = (statesL ts).length ∧ wait[i]? = some b ∧ (∀ j, 0 ≤ farAt far j ∧ farAt far j ≤ 1001) ∧ wait.length ≤ 1006 := by
  have hN := states_few hv
  rcases h with h | ⟨D, h⟩
  · exact ⟨h.flen, h.at_, fun j => by have := h.bds j; omega, by have := h.toSMid.few; omega⟩
  · exact ⟨h.flen, h.at_, fun j => by have := h.bds j; omega, by have := h.few; omega⟩
theorem WAny.keep {ts : List Int} {start i b w to : Nat} {far : List Int} {wait : List Nat} (hv : Valid ts) (h : WAny ts start i b w far wait) (hz : (w, plI ts to) ∈ visitsF ts (plI ts b)) (hto : to < (statesL ts).length) (hf : 0 < farAt far to) : WAny ts start i b (w + 1) far wait := by
  rcases h with h | ⟨D, h⟩
  · exact .inl (h.keep hv hz hto hf)
  · exact .inr ⟨D, h.keep⟩
theorem WAny.more {ts : List Int} {start i b w to : Nat} {far : List Int} {wait : List Nat} (hv : Valid ts) (h : WAny ts start i b w far wait) (hz : (w, plI ts to) ∈ visitsF ts (plI ts b)) (hto : to < (statesL ts).length) (hf : farAt far to = 0) : WAny ts start i b (w + 1) (far.set to (farAt far b + 1)) (wait ++ [to]) := by
  rcases h with h | ⟨D, h⟩
  · by_cases e : to = start
    · subst e
      exact .inr ⟨_, h.to_found hv hz⟩
    · exact .inl (h.more hv hz hto e hf)
  · exact .inr ⟨D, h.more hto hf⟩
theorem WAny.next {ts : List Int} {start i b w : Nat} {far : List Int} {wait : List Nat} (hv : Valid ts) (h : WAny ts start i b w far wait) (hw5 : w ≤ 5) (hw : ∀ z ∈ visitsF ts (plI ts b), z.1 < w) : SAny ts start (i + 1) far wait := by
  have hN := states_few hv
  rcases h with h | ⟨D, h⟩
  · exact .inl (h.next hw)
  · exact .inr ⟨h.flen, by rw [h.fs]; exact h.fd, by have := h.few; omega⟩
end Go.Proofs.YtdpehmdmgijcmaaGreat
