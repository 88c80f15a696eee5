/- Parts of a proof: BS BW CA. -/
import Derived.Test.YthjgecblkagelaaGreatM23

/- A turn: the reference's and the program's answers are the same. -/
namespace Go.Proofs.YthjgecblkagelaaGreat
open Go.RowKit Go.Shelf

attribute [local go_sem] Oper.semAt_some

theorem within_wins (n : Nat) (xs : List Int) : withinF 0 ((n : Int) - 1) xs = winsF n xs := by
  unfold withinF winsF isWinF
  congr 1
  funext x
  congr 1
  exact decide_eq_decide.2 ⟨fun h => by omega, fun h => by omega⟩
theorem incr_lt {xs : List Int} (h : incrF xs = true) : ∀ (j i : Nat), i < j → j < xs.length → xs[i]?.getD 0 < xs[j]?.getD 0
  | 0, i, hi, _ => by omega
  | j + 1, i, hi, hj => by
    have h1 : xs[j]?.getD 0 < xs[j + 1]?.getD 0 := by
      unfold incrF at h
      have := (List.all_eq_true.1 h) (j + 1) (List.mem_range.2 hj)
      simpa using this
    rcases Nat.lt_or_ge i j with h2 | h2
    · have := incr_lt h j i h2 (by omega)
      omega
    · obtain rfl : i = j := by omega
      exact h1
theorem incr_nodup {xs : List Int} (h : incrF xs = true) : xs.Nodup := by
  refine List.pairwise_iff_getElem.2 fun i j hi hj hij he => ?_
  have := incr_lt h j i hij hj
  rw [List.getElem?_eq_getElem hi, List.getElem?_eq_getElem hj] at this
  simp only [Option.getD_some] at this
  omega

theorem pullL_spec (ts : List Int) (f : Nat → Bool) {n : Nat} (h5 : n ≤ 5) : ∀ (l : List (Fin n)) (p : Pl), l.Nodup →
    (∃ q, l.foldl (fun o i => pullStep ts f i.1 o) (some p) = some q ∧ q.n = p.n ∧ (∀ j, q.get j = if f j = true ∧ j ∈ l.map (·.1) then p.get j + 1 else p.get j) ∧ ∀ i ∈ l, f i.1 = true → p.get i.1 ≠ ts[i.1]?.getD 0) ∨
    (l.foldl (fun o i => pullStep ts f i.1 o) (some p) = none ∧ ∃ i ∈ l, f i.1 = true ∧ p.get i.1 = ts[i.1]?.getD 0)
  | [], p, _ => .inl ⟨p, rfl, rfl, fun j => by simp, fun i hi => by cases hi⟩
  | i :: l, p, hnd => by
    obtain ⟨hni, hnd⟩ := List.nodup_cons.1 hnd
    rw [List.foldl_cons]
    by_cases hf : f i.1 = true
    · by_cases hfull : p.get i.1 = ts[i.1]?.getD 0
      · refine .inr ⟨?_, i, List.mem_cons_self, hf, hfull⟩
        have : pullStep ts f i.1 (some p) = none := by unfold pullStep; dsimp only; rw [if_pos hf, if_pos hfull]
        rw [this]; exact pull_none ts f l
      · have hs : pullStep ts f i.1 (some p) = some (p.set i.1 (p.get i.1 + 1)) := by unfold pullStep; dsimp only; rw [if_pos hf, if_neg hfull]
        rw [hs]
        have hg : ∀ j, (p.set i.1 (p.get i.1 + 1)).get j = if j = i.1 then p.get i.1 + 1 else p.get j := fun j => Pl.get_set _ _ _ _ (by omega)
        have hnl : ∀ k ∈ l, k.1 ≠ i.1 := fun k hk he => hni (by rwa [← Fin.ext he])
        rcases pullL_spec ts f h5 l (p.set i.1 (p.get i.1 + 1)) hnd with ⟨q, h1, h2, h3, h4⟩ | ⟨h1, k, hk, h2, h3⟩
        · refine .inl ⟨q, h1, by rw [h2, Pl.set_n], fun j => ?_, fun k hk hfk => ?_⟩
          · rw [h3 j, hg j]
            by_cases hji : j = i.1
            · subst hji
              have hn : i.1 ∉ l.map (·.1) := fun h => by
                obtain ⟨k, hk, he⟩ := List.mem_map.1 h
                exact hnl k hk he
              rw [if_neg (fun h => hn h.2), if_pos rfl, if_pos ⟨hf, by simp⟩]
            · rw [if_neg hji]
              have : (j ∈ (i :: l).map (·.1)) ↔ j ∈ l.map (·.1) := by simp [hji]
              simp only [this]
          · rcases List.mem_cons.1 hk with rfl | hk
            · exact hfull
            · have := h4 k hk hfk
              rw [hg k.1, if_neg (hnl k hk)] at this
              exact this
        · refine .inr ⟨h1, k, List.mem_cons_of_mem _ hk, h2, ?_⟩
          rw [hg k.1, if_neg (hnl k hk)] at h3
          exact h3
    · have hs : pullStep ts f i.1 (some p) = some p := by unfold pullStep; dsimp only; rw [if_neg hf]
      rw [hs]
      rcases pullL_spec ts f h5 l p hnd with ⟨q, h1, h2, h3, h4⟩ | ⟨h1, k, hk, h2, h3⟩
      · refine .inl ⟨q, h1, h2, fun j => ?_, fun k hk hfk => ?_⟩
        · rw [h3 j]
          by_cases hji : j = i.1
          · subst hji
            rw [if_neg (fun h => hf h.1), if_neg (fun h => hf h.1)]
          · have : (j ∈ (i :: l).map (·.1)) ↔ j ∈ l.map (·.1) := by simp [hji]
            simp only [this]
        · rcases List.mem_cons.1 hk with rfl | hk
          · exact absurd hfk hf
          · exact h4 k hk hfk
      · exact .inr ⟨h1, k, List.mem_cons_of_mem _ hk, h2, h3⟩

theorem rpull_spec (ts : List Int) : ∀ (pulls xs : List Int), pulls.Nodup → (∀ p ∈ pulls, 0 ≤ p ∧ p < xs.length) →
    (∃ ys, pulls.foldl (rpullStep ts) (some xs) = some ys ∧ ys.length = xs.length ∧ (∀ j : Nat, ys[j]?.getD 0 = if (j : Int) ∈ pulls then xs[j]?.getD 0 + 1 else xs[j]?.getD 0) ∧ ∀ p ∈ pulls, ¬ ts[p.toNat]?.getD 0 < xs[p.toNat]?.getD 0 + 1) ∨
    (pulls.foldl (rpullStep ts) (some xs) = none ∧ ∃ p ∈ pulls, ts[p.toNat]?.getD 0 < xs[p.toNat]?.getD 0 + 1)
  | [], xs, _, _ => .inl ⟨xs, rfl, rfl, fun j => by simp, fun p hp => by cases hp⟩
  | i :: l, xs, hnd, hin => by
    obtain ⟨hni, hnd⟩ := List.nodup_cons.1 hnd
    obtain ⟨hi0, hi1⟩ := hin i List.mem_cons_self
    rw [List.foldl_cons]
    by_cases hfull : ts[i.toNat]?.getD 0 < xs[i.toNat]?.getD 0 + 1
    · refine .inr ⟨?_, i, List.mem_cons_self, hfull⟩
      have : rpullStep ts (some xs) i = none := by unfold rpullStep; dsimp only; rw [if_pos hfull]
      rw [this]; exact rpull_none ts l
    · have hs : rpullStep ts (some xs) i = some (xs.set i.toNat (xs[i.toNat]?.getD 0 + 1)) := by unfold rpullStep; dsimp only; rw [if_neg hfull]
      rw [hs]
      have hg : ∀ j : Nat, (xs.set i.toNat (xs[i.toNat]?.getD 0 + 1))[j]?.getD 0 = if j = i.toNat then xs[i.toNat]?.getD 0 + 1 else xs[j]?.getD 0 := fun j => by
        rw [List.getElem?_set]
        by_cases hji : i.toNat = j
        · subst hji
          have : i.toNat < xs.length := by omega
          simp [this]
        · rw [if_neg hji, if_neg (fun e => hji e.symm)]
      have hnl : ∀ k ∈ l, k.toNat ≠ i.toNat := fun k hk he => by
        have := hin k (List.mem_cons_of_mem _ hk)
        exact hni (by rwa [show i = k by omega])
      rcases rpull_spec ts l (xs.set i.toNat (xs[i.toNat]?.getD 0 + 1)) hnd (fun p hp => by rw [List.length_set]; exact hin p (List.mem_cons_of_mem _ hp)) with ⟨ys, h1, h2, h3, h4⟩ | ⟨h1, k, hk, h3⟩
      · refine .inl ⟨ys, h1, by rw [h2, List.length_set], fun j => ?_, fun k hk => ?_⟩
        · rw [h3 j, hg j]
          by_cases hji : j = i.toNat
          · subst hji
            have hii : ((i.toNat : Nat) : Int) = i := by omega
            rw [hii, if_neg hni, if_pos rfl, if_pos List.mem_cons_self]
          · have : ((j : Int) ∈ i :: l) ↔ (j : Int) ∈ l := by
              rw [List.mem_cons]
              exact ⟨fun h => h.resolve_left (by omega), .inr⟩
            rw [if_neg hji]
            simp only [this]
        · rcases List.mem_cons.1 hk with rfl | hk
          · exact hfull
          · have := h4 k hk
            rw [hg k.toNat, if_neg (hnl k hk)] at this
            exact this
      · refine .inr ⟨h1, k, List.mem_cons_of_mem _ hk, ?_⟩
        rw [hg k.toNat, if_neg (hnl k hk)] at h3
        exact h3

theorem plList_get {p : Pl} {n : Nat} (hn : p.n = n) (h5 : n ≤ 5) (j : Nat) (hj : j < n) : (plList p)[j]?.getD 0 = p.get j := by
  unfold plList Pl.held
  rw [hn, List.getElem?_take, if_pos (by omega)]
  match j with
  | 0 => rfl
  | 1 => rfl
  | 2 => rfl
  | 3 => rfl
  | 4 => rfl
  | j + 5 => omega
theorem plList_len {p : Pl} {n : Nat} (hn : p.n = n) (h5 : n ≤ 5) : (plList p).length = n := by
  unfold plList Pl.held
  rw [hn]
  simp
  omega

/-- What the reference answers. -/
def rturnR (ts ss pulls : List Int) (visit : Int) : List Int × Int × Int :=
  if statedF ts ss ≠ 0 then ([], 0, statedF ts ss) else if winsF ts.length pulls = false ∨ incrF pulls = false ∨ isWinF ts.length visit = false then ([], 0, 2)
  else match rpullF ts ss pulls with | none => ([], 0, 17) | some ys => (ys.set visit.toNat 0, ys[visit.toNat]?.getD 0, 0)
theorem turn_same (ts ss pulls : List Int) (visit : Int) : turnR ts ss pulls visit = rturnR ts ss pulls visit := by
  unfold turnR rturnR
  by_cases h0 : statedF ts ss = 0
  · have hne : ¬ (statedF ts ss ≠ 0) := fun h => h h0
    rw [if_neg hne, if_neg hne, within_wins, within_wins]
    have hw1 : winsF ts.length [visit] = isWinF ts.length visit := by simp [winsF]
    rw [hw1]
    by_cases hc : winsF ts.length pulls = false ∨ incrF pulls = false ∨ isWinF ts.length visit = false
    · rw [if_pos hc, if_pos hc]
    · rw [if_neg hc, if_neg hc]
      obtain ⟨hv, hl, hg⟩ := stated_valid h0
      have hwp : winsF ts.length pulls = true := by cases h : winsF ts.length pulls <;> simp_all
      have hip : incrF pulls = true := by cases h : incrF pulls <;> simp_all
      have hwv : isWinF ts.length visit = true := by cases h : isWinF ts.length visit <;> simp_all
      have hin : ∀ p ∈ pulls, 0 ≤ p ∧ p < ss.length := fun p hp => by
        have := (List.all_eq_true.1 hwp) p hp
        simpa [isWinF, hl] using this
      have hvis : 0 ≤ visit ∧ visit < ts.length := by simpa [isWinF] using hwv
      have h5 := hv.h5
      have hget : ∀ j, (plOf ss).get j = ss[j]?.getD 0 := plOf_get ss (by omega)
      have hn0 : (plOf ss).n = ts.length := by show (ss.length : Int) = _; omega
      have hnd : (List.finRange ts.length).Nodup := List.nodup_finRange _
      have hmem : ∀ j : Nat, j < ts.length → j ∈ (List.finRange ts.length).map (·.1) := fun j hj => List.mem_map.2 ⟨⟨j, hj⟩, List.mem_finRange _, rfl⟩
      have A := pullL_spec ts (hasF pulls) h5 (List.finRange ts.length) (plOf ss) hnd
      have B := rpull_spec ts pulls ss (incr_nodup hip) hin
      unfold turnF pullF pullL rpullF
      rcases A with ⟨q, a1, a2, a3, a4⟩ | ⟨a1, i, -, a2, a3⟩
      · rcases B with ⟨ys, b1, b2, b3, b4⟩ | ⟨b1, p, hp, b2⟩
        · rw [a1, b1]
          have hqn : q.n = (ts.length : Int) := by rw [a2, hn0]
          have hqj : ∀ j, j < ts.length → q.get j = ys[j]?.getD 0 := fun j hj => by
            rw [a3 j, b3 j, hget j]
            have : (hasF pulls j = true ∧ j ∈ (List.finRange ts.length).map (·.1)) ↔ (j : Int) ∈ pulls := by
              unfold hasF
              rw [decide_eq_true_iff]
              exact ⟨fun h => h.1, fun h => ⟨h, hmem j hj⟩⟩
            simp only [this]
          simp only [Option.map_some]
          refine Prod.ext ?_ (Prod.ext (hqj _ (by omega)) rfl)
          show plList _ = List.set _ _ _
          refine ints_ext (by rw [plList_len (by rw [Pl.set_n]; exact hqn) h5, List.length_set]; omega) fun j hj => ?_
          rw [plList_len (by rw [Pl.set_n]; exact hqn) h5] at hj
          rw [plList_get (by rw [Pl.set_n]; exact hqn) h5 j hj, Pl.get_set _ _ _ _ (by omega), List.getElem?_set]
          by_cases hjv : visit.toNat = j
          · subst hjv
            rw [if_pos rfl, if_pos rfl, if_pos (by omega)]
            rfl
          · rw [if_neg (fun e => hjv e.symm), if_neg hjv, hqj j hj]
        · exfalso
          have hpp := hin p hp
          have := a4 ⟨p.toNat, by omega⟩ (List.mem_finRange _) (by unfold hasF; rw [decide_eq_true_iff]; show ((p.toNat : Nat) : Int) ∈ pulls; rwa [show ((p.toNat : Nat) : Int) = p by omega])
          rw [hget] at this
          have hgj := hg.1 p.toNat (by omega)
          rw [hget] at hgj
          simp only at this
          omega
      · rcases B with ⟨ys, b1, b2, b3, b4⟩ | ⟨b1, p, hp, b2⟩
        · exfalso
          have hm : ((i.1 : Nat) : Int) ∈ pulls := by unfold hasF at a2; exact of_decide_eq_true a2
          have := b4 _ hm
          rw [hget] at a3
          simp only [Int.toNat_natCast] at this
          omega
        · rw [a1, b1]
          rfl
  · rw [if_pos h0, if_pos h0]
end Go.Proofs.YthjgecblkagelaaGreat

/- great and fine. -/
namespace Go.Proofs.YthjgecblkagelaaGreat
open Go.RowKit Go.Shelf

attribute [local go_sem] Oper.semAt_some

theorem great_any (w : World) (A : Option Addr) (n c : Nat) :
    Calls Tryz.prog 6 #[.agg #[.slice A n c]] w fun e w' => e = .returned (.bool (decide (10 < (n : Int)))) ∧ w' = w.alloc (.cells #[.slice A n c] 24) := by
  go_enter Tryz.func6, Tryz.ntmps6
  go_wp2
  go_ret
  exact ⟨rfl, rfl⟩
theorem fine_any (w : World) (B : Nat) (A : Option Addr) (n c : Nat) (ts : List Int) (hx : IntsAt w B A n ts) (hB : B ≤ w.heap.size) :
    Calls Tryz.prog 14 #[.agg #[.slice A n c]] w fun e w' => e = .returned (.bool (decide (checkHallF ts = 0))) ∧ Below w.heap.size w w' := by
  have hb0 : Below w.heap.size w ((w.alloc (.cells #[.slice A n c] 24)).alloc (.cells #[.slice A n c] 24)) := ((Below.refl _ w).alloc (Nat.le_refl _) _).alloc (by simp) _
  have x0 := (Boxed.new w 24 (.slice A n c)).alloc (.cells #[.slice A n c] 24)
  have c0 := x0.cell
  have hl := hx.len
  go_enter Tryz.func14, Tryz.ntmps14
  go_wp2_with (fail)
  refine (great_any _ A n c).mono ?_
  rintro e w2 ⟨rfl, rfl⟩
  by_cases hn : 10 < (n : Int)
  · rw [decide_eq_true hn]
    have Hf := Lib.hid (show checkHallF ts ≠ 0 by unfold checkHallF; rw [if_pos (.inr (by omega))]; decide)
    clear hn hl
    go_wp2_with (fail)
    go_ret
    exact ⟨ret_bool (decide_eq_false Hf.out).symm, hb0⟩
  rw [decide_eq_false hn]
  clear hn hl
  go_wp2_with (fail)
  refine (rcheckHall_any _ B A n c ts (hx.below hb0 hB) (by have := hb0.size; omega)).mono ?_
  rintro e w3 ⟨rfl, hb⟩
  have hB3 := hb0.trans (hb.mono hb0.size)
  obtain ⟨r, hr⟩ : ∃ r, r = checkHallF ts := ⟨_, rfl⟩
  rw [← hr]
  have Hr := Lib.hid hr
  clear hr
  by_cases h0 : r = 0
  · subst h0
    go_wp2_with (fail)
    go_ret
    exact ⟨ret_bool (decide_eq_true Hr.out.symm).symm, hB3⟩
  · go_wp2_with (fail)
    go_ret
    exact ⟨ret_bool (by rw [← Hr.out]; simp [h0]), hB3⟩
end Go.Proofs.YthjgecblkagelaaGreat

/- Rows of visits: the program's and the reference's answers are the same. -/
namespace Go.Proofs.YthjgecblkagelaaGreat
open Go.RowKit Go.Shelf

/-- One window through a row: nothing once its screw is full. -/
def simF (t wd : Int) : List Int → Int → Option Int
  | [], c => some c
  | i :: l, c => if c = t then none else simF t wd l (if i = wd then 0 else c + 1)
theorem simF_append (t wd : Int) : ∀ (l m : List Int) (c : Int), simF t wd (l ++ m) c = (simF t wd l c).bind (simF t wd m)
  | [], m, c => rfl
  | i :: l, m, c => by
    simp only [List.cons_append, simF]
    by_cases h : c = t
    · rw [if_pos h, if_pos h]; rfl
    · rw [if_neg h, if_neg h]; exact simF_append t wd l m _

theorem turn_coord {ts : List Int} (hv : Valid ts) {p : Pl} {i : Nat} (hi : i < ts.length) :
    (∃ q x, turnF ts allF p i = some (q, x) ∧ q.n = p.n ∧ (∀ j, j < ts.length → p.get j ≠ ts[j]?.getD 0 ∧ q.get j = if j = i then 0 else p.get j + 1) ∧ ∀ j, ts.length ≤ j → q.get j = p.get j) ∨
    (turnF ts allF p i = none ∧ ∃ j, j < ts.length ∧ p.get j = ts[j]?.getD 0) := by
  have hmem : ∀ j : Nat, j ∈ (List.finRange ts.length).map (·.1) ↔ j < ts.length := fun j => ⟨fun h => by obtain ⟨k, -, rfl⟩ := List.mem_map.1 h; exact k.2, fun hj => List.mem_map.2 ⟨⟨j, hj⟩, List.mem_finRange _, rfl⟩⟩
  have h5 := hv.h5
  rcases pullL_spec ts allF h5 (List.finRange ts.length) p (List.nodup_finRange _) with ⟨q, a1, a2, a3, a4⟩ | ⟨a1, k, -, -, a3⟩
  · refine .inl ⟨q.set i 0, q.get i, ?_, ?_, fun j hj => ⟨a4 ⟨j, hj⟩ (List.mem_finRange _) rfl, ?_⟩, fun j hj => ?_⟩
    · unfold turnF pullF pullL; rw [a1]; rfl
    · rw [Pl.set_n]; exact a2
    · rw [Pl.get_set _ _ _ _ (by omega)]
      by_cases hji : j = i
      · rw [if_pos hji, if_pos hji]
      · rw [if_neg hji, if_neg hji, a3 j, if_pos ⟨rfl, (hmem j).2 hj⟩]
    · rw [Pl.get_set _ _ _ _ (by omega), if_neg (by omega), a3 j, if_neg (fun h => by have := (hmem j).1 h.2; omega)]
  · refine .inr ⟨?_, k.1, k.2, a3⟩
    unfold turnF pullF pullL; rw [a1]; rfl
theorem play_coord {ts : List Int} (hv : Valid ts) : ∀ (row : List Int) (p : Pl), (∀ i ∈ row, 0 ≤ i ∧ i < ts.length) →
    (∃ q, playL ts row p = some q ∧ q.n = p.n ∧ (∀ j : Nat, j < ts.length → simF (ts[j]?.getD 0) (j : Int) row (p.get j) = some (q.get j)) ∧ ∀ j, ts.length ≤ j → q.get j = p.get j) ∨
    (playL ts row p = none ∧ ∃ j : Nat, j < ts.length ∧ simF (ts[j]?.getD 0) (j : Int) row (p.get j) = none)
  | [], p, _ => .inl ⟨p, rfl, rfl, fun j _ => rfl, fun j _ => rfl⟩
  | i :: row, p, hi => by
    obtain ⟨h0, h1⟩ := hi i List.mem_cons_self
    rw [playL_cons]
    rcases turn_coord hv (p := p) (i := i.toNat) (by omega) with ⟨q, x, a1, a2, a3, a4⟩ | ⟨a1, j, hj, a2⟩
    · rw [a1]
      have hs : ∀ j : Nat, j < ts.length → simF (ts[j]?.getD 0) (j : Int) (i :: row) (p.get j) = simF (ts[j]?.getD 0) (j : Int) row (q.get j) := fun j hj => by
        obtain ⟨b1, b2⟩ := a3 j hj
        rw [simF, if_neg b1, b2]
        congr 1
        by_cases hji : j = i.toNat
        · rw [if_pos hji, if_pos (by omega)]
        · rw [if_neg hji, if_neg (by omega)]
      rcases play_coord hv row q (fun j hj => hi j (List.mem_cons_of_mem _ hj)) with ⟨r, b1, b2, b3, b4⟩ | ⟨b1, j, hj, b2⟩
      · exact .inl ⟨r, b1, b2.trans a2, fun j hj => (hs j hj).trans (b3 j hj), fun j hj => (b4 j hj).trans (a4 j hj)⟩
      · exact .inr ⟨b1, j, hj, (hs j hj).trans b2⟩
    · rw [a1]
      exact .inr ⟨rfl, j, hj, by rw [simF, if_pos a2]⟩

/-- The reference's walk over a list. -/
def cirT (wd t : Int) (o : Option (Int × Bool)) (i : Int) : Option (Int × Bool) := match o with
  | none => none
  | some s => if i ≠ wd then some (s.1 + 1, s.2) else if s.2 = true ∧ t < s.1 + 1 then none else some (0, true)
theorem cirT_none (wd t : Int) (l : List Int) : l.foldl (cirT wd t) none = none := by
  induction l with
  | nil => rfl
  | cons x xs ih => exact ih
theorem cirL_list (row : List Int) (wd t : Int) : cirL row wd t (2 * row.length) = (row ++ row).foldl (cirT wd t) (some (0, false)) := by
  have h1 : row ++ row = (List.range (2 * row.length)).map fun i => row[i % row.length]?.getD 0 := by
    apply List.ext_getElem
    · simp only [List.length_append, List.length_map, List.length_range]; omega
    · intro i h1 h2
      simp only [List.length_append] at h1
      simp only [List.getElem_map, List.getElem_range]
      rw [List.getElem_append]
      split
      · rename_i h
        rw [Nat.mod_eq_of_lt h, List.getElem?_eq_getElem h]; rfl
      · rename_i h
        have e : i % row.length = i - row.length := by rw [Nat.mod_eq_sub_mod (by omega), Nat.mod_eq_of_lt (by omega)]
        rw [e, List.getElem?_eq_getElem (by omega)]; rfl
  have h2 : cirStep row wd t = fun o i => cirT wd t o (row[i % row.length]?.getD 0) := by
    funext o i
    cases o <;> rfl
  unfold cirL
  rw [h1, List.foldl_map, h2]
theorem cir_cons (wd t i : Int) (l : List Int) (s : Int × Bool) : (i :: l).foldl (cirT wd t) (some s) = if i ≠ wd then l.foldl (cirT wd t) (some (s.1 + 1, s.2)) else if s.2 = true ∧ t < s.1 + 1 then none else l.foldl (cirT wd t) (some (0, true)) := by
  rw [List.foldl_cons]
  unfold cirT
  dsimp only
  by_cases h : i ≠ wd
  · rw [if_pos h, if_pos h]
  · rw [if_neg h, if_neg h]
    by_cases h2 : s.2 = true ∧ t < s.1 + 1
    · rw [if_pos h2, if_pos h2]; exact cirT_none wd t l
    · rw [if_neg h2, if_neg h2]
theorem cir_over (wd t : Int) : ∀ (l : List Int) (c : Int), t < c → l.foldl (cirT wd t) (some (c, true)) = none ∨ ∃ c', l.foldl (cirT wd t) (some (c, true)) = some (c', true) ∧ t < c'
  | [], c, h => .inr ⟨c, rfl, h⟩
  | i :: l, c, h => by
    rw [cir_cons]
    by_cases hi : i ≠ wd
    · rw [if_pos hi]; exact cir_over wd t l (c + 1) (by omega)
    · rw [if_neg hi, if_pos ⟨rfl, by show t < c + 1; omega⟩]; exact .inl rfl
theorem cir_sim (wd t : Int) (ht : 0 ≤ t) : ∀ (l : List Int) (c : Int), c ≤ t →
    (∃ c', simF t wd l c = some c' ∧ c' ≤ t ∧ l.foldl (cirT wd t) (some (c, true)) = some (c', true)) ∨
    (simF t wd l c = none ∧ (l.foldl (cirT wd t) (some (c, true)) = none ∨ ∃ c', l.foldl (cirT wd t) (some (c, true)) = some (c', true) ∧ t < c'))
  | [], c, h => .inl ⟨c, rfl, h, rfl⟩
  | i :: l, c, h => by
    rw [cir_cons, simF]
    by_cases hi : i ≠ wd
    · rw [if_pos hi, if_neg hi]
      by_cases hc : c = t
      · rw [if_pos hc]; exact .inr ⟨rfl, cir_over wd t l (c + 1) (by omega)⟩
      · rw [if_neg hc]; exact cir_sim wd t ht l (c + 1) (by omega)
    · rw [if_neg hi]
      by_cases hc : c = t
      · rw [if_pos hc, if_pos ⟨rfl, by show t < c + 1; omega⟩]; exact .inr ⟨rfl, .inl rfl⟩
      · rw [if_neg hc, if_pos (show i = wd by simpa using hi), if_neg (show ¬ (((c, true) : Int × Bool).2 = true ∧ t < ((c, true) : Int × Bool).1 + 1) from fun h => by have h2 : t < c + 1 := h.2; omega)]; exact cir_sim wd t ht l 0 ht
theorem cir_unseen (wd t : Int) : ∀ (l : List Int) (c : Int), wd ∉ l → l.foldl (cirT wd t) (some (c, false)) = some (c + l.length, false)
  | [], c, _ => by simp
  | i :: l, c, h => by
    rw [cir_cons, if_pos (fun e => h (by simp [e])), cir_unseen wd t l _ (fun e => h (List.mem_cons_of_mem _ e))]
    simp only [List.length_cons, Option.some.injEq, Prod.mk.injEq, and_true]
    omega
theorem sim_unseen (wd t : Int) : ∀ (l : List Int) (c : Int), wd ∉ l → c + l.length ≤ t → simF t wd l c = some (c + l.length)
  | [], c, _, _ => by simp [simF]
  | i :: l, c, h, hc => by
    simp only [List.length_cons] at hc
    rw [simF, if_neg (by omega), if_neg (fun e => h (by simp [e])), sim_unseen wd t l _ (fun e => h (List.mem_cons_of_mem _ e)) (by omega)]
    simp only [List.length_cons, Option.some.injEq]
    omega
theorem sim_unseen_of (wd t : Int) : ∀ (l : List Int) (c c' : Int), wd ∉ l → simF t wd l c = some c' → c' = c + l.length
  | [], c, c', _, h => by simp [simF] at h; simp [h]
  | i :: l, c, c', hm, h => by
    rw [simF] at h
    by_cases hc : c = t
    · rw [if_pos hc] at h; cases h
    · rw [if_neg hc, if_neg (fun e => hm (by simp [e]))] at h
      have := sim_unseen_of wd t l _ _ (fun e => hm (List.mem_cons_of_mem _ e)) h
      simp only [List.length_cons]
      omega
theorem simF_row (t wd : Int) (pre post : List Int) (c : Int) : simF t wd (pre ++ wd :: post) c = (simF t wd pre c).bind fun c1 => if c1 = t then none else simF t wd post 0 := by
  rw [simF_append]
  congr 1
  funext c1
  rw [simF, if_pos rfl]
theorem cir_row (wd t : Int) (pre post : List Int) (s : Int × Bool) : (pre ++ wd :: post).foldl (cirT wd t) (some s) = (pre.foldl (cirT wd t) (some s)).bind fun s1 => if s1.2 = true ∧ t < s1.1 + 1 then none else post.foldl (cirT wd t) (some (0, true)) := by
  rw [List.foldl_append]
  cases pre.foldl (cirT wd t) (some s) with
  | none => exact cirT_none wd t _
  | some s1 => rw [cir_cons, if_neg (by simp)]; rfl
theorem cir_main (wd t : Int) (ht : 1 ≤ t) (row : List Int) (h0 : row ≠ []) : cirOk row wd t = true ↔ ∃ c, simF t wd row 0 = some c ∧ simF t wd row c = some c := by
  unfold cirOk
  rw [cirL_list]
  by_cases hm : wd ∈ row
  · obtain ⟨pre, post, rfl, hpre⟩ := List.eq_append_cons_of_mem hm
    have e1 : ((pre ++ wd :: post) ++ (pre ++ wd :: post)).foldl (cirT wd t) (some (0, false)) = ((post.foldl (cirT wd t) (some (0, true))).bind fun s => (pre.foldl (cirT wd t) (some s)).bind fun s1 => if s1.2 = true ∧ t < s1.1 + 1 then none else post.foldl (cirT wd t) (some (0, true))) := by
      rw [List.foldl_append, cir_row, cir_unseen wd t pre 0 hpre]
      simp only [Option.bind_some, Bool.false_eq_true, false_and, if_false]
      cases hq : post.foldl (cirT wd t) (some (0, true)) with
      | none => exact cirT_none wd t _
      | some s => rw [cir_row, hq]; rfl
    rw [e1]
    rcases cir_sim wd t (by omega) post 0 (by omega) with ⟨c0, a1, a2, a3⟩ | ⟨a1, a2⟩
    · rw [a3, Option.bind_some]
      have hrow : ∀ c, simF t wd (pre ++ wd :: post) c = (simF t wd pre c).bind fun c1 => if c1 = t then none else some c0 := fun c => by rw [simF_row, a1]
      have huniq : ∀ c x, simF t wd (pre ++ wd :: post) c = some x → x = c0 := fun c x h => by
        rw [hrow] at h
        cases hp : simF t wd pre c with
        | none => rw [hp] at h; cases h
        | some c1 =>
          rw [hp, Option.bind_some] at h
          by_cases hc : c1 = t
          · rw [if_pos hc] at h; cases h
          · rw [if_neg hc] at h; cases h; rfl
      rcases cir_sim wd t (by omega) pre c0 a2 with ⟨c1, b1, b2, b3⟩ | ⟨b1, b2⟩
      · rw [b3, Option.bind_some]
        by_cases hc : c1 = t
        · rw [if_pos ⟨rfl, by show t < c1 + 1; omega⟩]
          refine ⟨fun h => by simp at h, fun ⟨c, h1, h2⟩ => ?_⟩
          obtain rfl := huniq _ _ h1
          rw [hrow, b1, Option.bind_some, if_pos hc] at h2
          cases h2
        · rw [if_neg (fun h => by have h2 : t < c1 + 1 := h.2; omega)]
          refine ⟨fun _ => ⟨c0, ?_, ?_⟩, fun _ => rfl⟩
          · have hc1 := sim_unseen_of wd t pre c0 c1 hpre b1
            rcases cir_sim wd t (by omega) post 0 (by omega) with ⟨c0', d1, -, d3⟩ | ⟨d1, -⟩
            · have h00 : 0 ≤ c0 := by
                rw [a1] at d1
                have : ∀ (l : List Int) (c x : Int), 0 ≤ c → simF t wd l c = some x → 0 ≤ x := by
                  intro l
                  induction l with
                  | nil => intro c x hc h; simp [simF] at h; omega
                  | cons i l ih =>
                    intro c x hc h
                    rw [simF] at h
                    split at h
                    · cases h
                    · exact ih _ _ (by split <;> omega) h
                exact this _ _ _ (Int.le_refl 0) a1
              rw [hrow, sim_unseen wd t pre 0 hpre (by omega), Option.bind_some, if_neg (by omega)]
            · rw [a1] at d1; cases d1
          · rw [hrow, b1, Option.bind_some, if_neg hc]
      · have hF : ∀ o : Option (Int × Bool), (o = none ∨ ∃ c', o = some (c', true) ∧ t < c') → (o.bind fun s1 => if s1.2 = true ∧ t < s1.1 + 1 then none else some (c0, true)) = none := by
          rintro o (rfl | ⟨c', rfl, h⟩)
          · rfl
          · rw [Option.bind_some, if_pos ⟨rfl, by show t < c' + 1; omega⟩]
        rw [hF _ b2]
        refine ⟨fun h => by simp at h, fun ⟨c, h1, h2⟩ => ?_⟩
        obtain rfl := huniq _ _ h1
        rw [hrow, b1] at h2
        cases h2
    · have hF : ∀ o : Option (Int × Bool), (o = none ∨ ∃ c', o = some (c', true) ∧ t < c') → (o.bind fun s => (pre.foldl (cirT wd t) (some s)).bind fun s1 => if s1.2 = true ∧ t < s1.1 + 1 then none else o) = none := by
        rintro o (rfl | ⟨c', rfl, h⟩)
        · rfl
        · rw [Option.bind_some]
          rcases cir_over wd t pre c' h with h1 | ⟨c2, h1, h2⟩
          · rw [h1]; rfl
          · rw [h1, Option.bind_some, if_pos ⟨rfl, by show t < c2 + 1; omega⟩]
      rw [hF _ a2]
      refine ⟨fun h => by simp at h, fun ⟨c, h1, h2⟩ => ?_⟩
      rw [simF_row, a1] at h1
      cases hp : simF t wd pre 0 with
      | none => rw [hp] at h1; cases h1
      | some c1 =>
        rw [hp, Option.bind_some] at h1
        split at h1 <;> cases h1
  · rw [cir_unseen wd t (row ++ row) 0 (by simp [hm])]
    refine ⟨fun h => by simp at h, fun ⟨c, h1, h2⟩ => ?_⟩
    have e2 := sim_unseen_of wd t row c c hm h2
    have : 0 < row.length := List.length_pos_iff.2 h0
    omega

theorem pl_ext {p q : Pl} (hn : p.n = q.n) (h : ∀ j, p.get j = q.get j) : p = q := by
  obtain ⟨n, a, b, c, d, e⟩ := p
  obtain ⟨n', a', b', c', d', e'⟩ := q
  have h0 := h 0
  have h1 := h 1
  have h2 := h 2
  have h3 := h 3
  have h4 := h 4
  simp only [Pl.get] at h0 h1 h2 h3 h4
  simp only at hn
  subst hn h0 h1 h2 h3 h4
  rfl
theorem circle_same {ts : List Int} (hv : Valid ts) (row : List Int) (h0 : row ≠ []) (hi : ∀ i ∈ row, 0 ≤ i ∧ i < ts.length) : circleF ts row = (List.range ts.length).all (fun i => cirOk row (i : Int) (ts[i]?.getD 0)) := by
  have he0 : ∀ j, (⟨ts.length, 0, 0, 0, 0, 0⟩ : Pl).get j = 0 := fun i => by
    match i with
    | 0 => rfl
    | 1 => rfl
    | 2 => rfl
    | 3 => rfl
    | 4 => rfl
    | i + 5 => rfl
  have hno : ∀ j : Nat, j < ts.length → (¬ ∃ c, simF (ts[j]?.getD 0) (j : Int) row 0 = some c ∧ simF (ts[j]?.getD 0) (j : Int) row c = some c) → (List.range ts.length).all (fun i => cirOk row (i : Int) (ts[i]?.getD 0)) = false := fun j hj h => by
    rw [List.all_eq_false]
    exact ⟨j, List.mem_range.2 hj, fun hc => h ((cir_main _ _ (hv.h12 j hj).1 row h0).1 hc)⟩
  unfold circleF
  rcases play_coord hv row ⟨ts.length, 0, 0, 0, 0, 0⟩ hi with ⟨q, a1, a2, a3, a4⟩ | ⟨a1, j, hj, a2⟩
  · rw [a1]
    dsimp only
    rcases play_coord hv row q hi with ⟨r, b1, b2, b3, b4⟩ | ⟨b1, j, hj, b2⟩
    · rw [b1]
      dsimp only
      by_cases hrq : r = q
      · subst hrq
        rw [decide_eq_true rfl]
        refine (List.all_eq_true.2 fun j hj => ?_).symm
        have hj := List.mem_range.1 hj
        refine (cir_main _ _ (hv.h12 j hj).1 row h0).2 ⟨r.get j, ?_, b3 j hj⟩
        have := a3 j hj
        rwa [he0] at this
      · rw [decide_eq_false hrq]
        have : ∃ j, j < ts.length ∧ r.get j ≠ q.get j := Classical.byContradiction fun hc => hrq (pl_ext b2 fun j => by
          rcases Nat.lt_or_ge j ts.length with hj | hj
          · exact Classical.byContradiction fun hne => hc ⟨j, hj, hne⟩
          · exact b4 j hj)
        obtain ⟨j, hj, hne⟩ := this
        refine (hno j hj ?_).symm
        rintro ⟨c, h1, h2⟩
        have h3 := a3 j hj
        rw [he0, h1] at h3
        cases h3
        have h4 := b3 j hj
        rw [h2] at h4
        exact hne (Option.some.inj h4).symm
    · rw [b1]
      dsimp only
      refine (hno j hj ?_).symm
      rintro ⟨c, h1, h2⟩
      have h3 := a3 j hj
      rw [he0, h1] at h3
      cases h3
      rw [h2] at b2
      cases b2
  · rw [a1]
    dsimp only
    refine (hno j hj ?_).symm
    rintro ⟨c, h1, h2⟩
    rw [he0, h1] at a2
    cases a2
theorem checkCircle_same (ts row : List Int) : checkCircleF ts row = rcheckCircleF ts row := by
  unfold checkCircleF rcheckCircleF
  by_cases hc : checkHallF ts ≠ 0
  · rw [if_pos hc, if_pos hc]
  · rw [if_neg hc, if_neg hc]
    have hv := valid_of (ts := ts) (by simpa using hc)
    by_cases h1 : row.length < 1
    · rw [if_pos h1, if_pos (by unfold withinF; simp; omega)]
    · rw [if_neg h1]
      unfold isRowF
      by_cases h2 : 1000 < row.length
      · rw [if_pos h2, if_pos (by unfold withinF; simp; omega), if_pos (by decide)]
      · rw [if_neg h2, if_neg (by unfold withinF; simp; omega), within_wins]
        cases hw : winsF ts.length row
        · simp
        · have hcs := circle_same hv row (fun e => by rw [e] at h1; simp at h1) fun i hi => by
            have := (List.all_eq_true.1 hw) i hi
            simpa [isWinF] using this
          simp [hcs]

/-- What the reference plays. -/
def rplayL (ts : List Int) : List Int → List Int → Option (List Int)
  | [], xs => some xs
  | i :: row, xs => match rpullF ts xs (allL ts.length) with
    | none => none
    | some ys => rplayL ts row (ys.set i.toNat 0)
def rplayN (ts : List Int) : List Int → List Int → Nat
  | [], _ => 0
  | i :: row, xs => match rpullF ts xs (allL ts.length) with
    | none => 0
    | some ys => rplayN ts row (ys.set i.toNat 0) + 1
def rplayR (ts ss row : List Int) : List Int × Int × Int :=
  if statedF ts ss ≠ 0 then ([], 0, statedF ts ss) else if isRowF ts.length row ≠ 0 then ([], 0, isRowF ts.length row)
  else match rplayL ts row ss with | none => ([], rplayN ts row ss, 17) | some ys => (ys, row.length, 0)
theorem rplayN_lt {ts : List Int} : ∀ (row xs : List Int), rplayL ts row xs = none → rplayN ts row xs < row.length
  | [], xs, h => by simp [rplayL] at h
  | i :: row, xs, h => by
    rw [rplayL] at h
    rw [rplayN]
    cases hp : rpullF ts xs (allL ts.length) with
    | none => simp
    | some ys =>
      rw [hp] at h
      have := rplayN_lt row _ h
      simp only [List.length_cons]
      omega
theorem allL_nodup (n : Nat) : (allL n).Nodup := by
  unfold allL
  exact List.Pairwise.map _ (fun a b h e => h (by omega)) List.nodup_range
theorem allL_mem {n : Nat} {x : Int} : x ∈ allL n ↔ 0 ≤ x ∧ x < n := by
  unfold allL
  simp only [List.mem_map, List.mem_range]
  exact ⟨fun ⟨a, h, e⟩ => by omega, fun h => ⟨x.toNat, by omega, by omega⟩⟩
theorem step_same {ts : List Int} (hv : Valid ts) {p : Pl} (hp : PlGood ts p) {i : Nat} (hi : i < ts.length) :
    (∃ q x ys, turnF ts allF p i = some (q, x) ∧ rpullF ts (plList p) (allL ts.length) = some ys ∧ ys.set i 0 = plList q ∧ PlGood ts q) ∨
    (turnF ts allF p i = none ∧ rpullF ts (plList p) (allL ts.length) = none) := by
  have h5 := hv.h5
  have hpl := plList_len hp.2 h5
  have hin : ∀ x ∈ allL ts.length, 0 ≤ x ∧ x < (plList p).length := fun x hx => by rw [hpl]; exact allL_mem.1 hx
  have B := rpull_spec ts (allL ts.length) (plList p) (allL_nodup _) hin
  unfold rpullF
  rcases turn_coord hv (p := p) hi with ⟨q, x, a1, a2, a3, a4⟩ | ⟨a1, j, hj, a2⟩
  · rcases B with ⟨ys, b1, b2, b3, b4⟩ | ⟨b1, y, hy, b2⟩
    · have hqn : q.n = (ts.length : Int) := a2.trans hp.2
      refine .inl ⟨q, x, ys, a1, b1, ?_, turnF_ok h5 hv.h12 (by omega) a1 hp.1, hqn⟩
      refine ints_ext (by rw [List.length_set, b2, hpl, plList_len hqn h5]) fun j hj => ?_
      rw [List.length_set, b2, hpl] at hj
      rw [plList_get hqn h5 j hj, (a3 j hj).2, List.getElem?_set]
      by_cases hji : j = i
      · subst hji
        rw [if_pos rfl, if_pos rfl, if_pos (by omega)]
        rfl
      · rw [if_neg (fun e => hji e.symm), if_neg hji, b3 j, if_pos (allL_mem.2 (by omega)), plList_get hp.2 h5 j hj]
    · exfalso
      obtain ⟨y0, y1⟩ := allL_mem.1 hy
      rw [plList_get hp.2 h5 _ (by omega)] at b2
      have h1 := (a3 y.toNat (by omega)).1
      have h2 := hp.1 y.toNat (by omega)
      omega
  · rcases B with ⟨ys, b1, b2, b3, b4⟩ | ⟨b1, y, hy, b2⟩
    · exfalso
      have := b4 (j : Int) (allL_mem.2 (by omega))
      simp only [Int.toNat_natCast] at this
      rw [plList_get hp.2 h5 _ hj] at this
      omega
    · exact .inr ⟨a1, b1⟩
theorem play_same_any {ts : List Int} (hv : Valid ts) : ∀ (row : List Int) (p : Pl), (∀ i ∈ row, 0 ≤ i ∧ i < ts.length) → PlGood ts p →
    rplayL ts row (plList p) = (playL ts row p).map plList ∧ (playL ts row p = none → rplayN ts row (plList p) = playN ts row p)
  | [], p, _, _ => ⟨rfl, fun _ => rfl⟩
  | i :: row, p, hi, hp => by
    obtain ⟨h0, h1⟩ := hi i List.mem_cons_self
    rw [playL_cons, rplayL, rplayN, playN]
    rcases step_same hv hp (i := i.toNat) (by omega) with ⟨q, x, ys, a1, a2, a3, a4⟩ | ⟨a1, a2⟩
    · rw [a1, a2]
      dsimp only
      rw [a3]
      obtain ⟨b1, b2⟩ := play_same_any hv row q (fun j hj => hi j (List.mem_cons_of_mem _ hj)) a4
      exact ⟨b1, fun h => by rw [b2 h]⟩
    · rw [a1, a2]
      exact ⟨rfl, fun _ => rfl⟩
theorem plList_of {ss : List Int} (h : ss.length ≤ 5) : plList (plOf ss) = ss := by
  refine ints_ext (plList_len (n := ss.length) rfl h) fun j hj => ?_
  rw [plList_len (n := ss.length) rfl h] at hj
  rw [plList_get (n := ss.length) rfl h j hj, plOf_get ss h]
theorem play_same (ts ss row : List Int) : playR ts ss row = rplayR ts ss row := by
  unfold playR rplayR
  by_cases h0 : statedF ts ss ≠ 0
  · rw [if_pos h0, if_pos h0]
  · rw [if_neg h0, if_neg h0]
    obtain ⟨hv, hl, hg⟩ := stated_valid (by simpa using h0)
    unfold isRowF
    by_cases h2 : 1000 < row.length
    · rw [if_pos h2, if_pos h2, if_pos (by decide)]
    · rw [if_neg h2, if_neg h2, within_wins]
      cases hw : winsF ts.length row
      · simp
      · rw [if_neg (show ¬ true = false by simp), if_pos (show true = true from rfl), if_neg (show ¬ (0 : Int) ≠ 0 by simp)]
        obtain ⟨b1, b2⟩ := play_same_any hv row (plOf ss) (fun i hi => by
          have := (List.all_eq_true.1 hw) i hi
          simpa [isWinF] using this) hg
        rw [plList_of (by have := hv.h5; omega)] at b1 b2
        rw [b1]
        cases hp : playL ts row (plOf ss) with
        | none => rw [← b2 hp]; rfl
        | some q => rfl
end Go.Proofs.YthjgecblkagelaaGreat
