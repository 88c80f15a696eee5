/- Parts of a proof: BS BT BU. -/
import Derived.Test.YthmojkpmlpilgaaGreatM23

/- A turn: the reference's and the program's answers are the same. -/
namespace Go.Proofs.YthmojkpmlpilgaaGreat
open Go.RowKit Go.Shelf

attribute [local go_sem] Oper.semAt_some

theorem within_wins (n : Nat) (xs : List Int) : withinF 0 ((n : Int) - 1) xs = winsF n xs := by
  unfold withinF winsF isWinF
  congr 1
  funext x
  congr 1
  exact decide_eq_decide.2 ⟨fun h => by omega, fun h => by omega⟩
theorem incr_lt {xs : List Int} (h : incrF xs = true) : ∀ (j i : Nat), i < j → j < xs.length → xs[i]?.getD 0 < xs[j]?.getD 0
  | 0, i, hi, _ => by omega
  | j + 1, i, hi, hj => by
    have h1 : xs[j]?.getD 0 < xs[j + 1]?.getD 0 := by
      unfold incrF at h
      have := (List.all_eq_true.1 h) (j + 1) (List.mem_range.2 hj)
      simpa using this
    rcases Nat.lt_or_ge i j with h2 | h2
    · have := incr_lt h j i h2 (by omega)
      omega
    · obtain rfl : i = j := by omega
      exact h1
theorem incr_nodup {xs : List Int} (h : incrF xs = true) : xs.Nodup := by
  refine List.pairwise_iff_getElem.2 fun i j hi hj hij he => ?_
  have := incr_lt h j i hij hj
  rw [List.getElem?_eq_getElem hi, List.getElem?_eq_getElem hj] at this
  simp only [Option.getD_some] at this
  omega

theorem pullL_spec (ts : List Int) (f : Nat → Bool) {n : Nat} (h5 : n ≤ 5) : ∀ (l : List (Fin n)) (p : Pl), l.Nodup →
    (∃ q, l.foldl (fun o i => pullStep ts f i.1 o) (some p) = some q ∧ q.n = p.n ∧ (∀ j, q.get j = if f j = true ∧ j ∈ l.map (·.1) then p.get j + 1 else p.get j) ∧ ∀ i ∈ l, f i.1 = true → p.get i.1 ≠ ts[i.1]?.getD 0) ∨
    (l.foldl (fun o i => pullStep ts f i.1 o) (some p) = none ∧ ∃ i ∈ l, f i.1 = true ∧ p.get i.1 = ts[i.1]?.getD 0)
  | [], p, _ => .inl ⟨p, rfl, rfl, fun j => by simp, fun i hi => by cases hi⟩
  | i :: l, p, hnd => by
    obtain ⟨hni, hnd⟩ := List.nodup_cons.1 hnd
    rw [List.foldl_cons]
    by_cases hf : f i.1 = true
    · by_cases hfull : p.get i.1 = ts[i.1]?.getD 0
      · refine .inr ⟨?_, i, List.mem_cons_self, hf, hfull⟩
        have : pullStep ts f i.1 (some p) = none := by unfold pullStep; dsimp only; rw [if_pos hf, if_pos hfull]
        rw [this]; exact pull_none ts f l
      · have hs : pullStep ts f i.1 (some p) = some (p.set i.1 (p.get i.1 + 1)) := by unfold pullStep; dsimp only; rw [if_pos hf, if_neg hfull]
        rw [hs]
        have hg : ∀ j, (p.set i.1 (p.get i.1 + 1)).get j = if j = i.1 then p.get i.1 + 1 else p.get j := fun j => Pl.get_set _ _ _ _ (by omega)
        have hnl : ∀ k ∈ l, k.1 ≠ i.1 := fun k hk he => hni (by rwa [← Fin.ext he])
        rcases pullL_spec ts f h5 l (p.set i.1 (p.get i.1 + 1)) hnd with ⟨q, h1, h2, h3, h4⟩ | ⟨h1, k, hk, h2, h3⟩
        · refine .inl ⟨q, h1, by rw [h2, Pl.set_n], fun j => ?_, fun k hk hfk => ?_⟩
          · rw [h3 j, hg j]
            by_cases hji : j = i.1
            · subst hji
              have hn : i.1 ∉ l.map (·.1) := fun h => by
                obtain ⟨k, hk, he⟩ := List.mem_map.1 h
                exact hnl k hk he
              rw [if_neg (fun h => hn h.2), if_pos rfl, if_pos ⟨hf, by simp⟩]
            · rw [if_neg hji]
              have : (j ∈ (i :: l).map (·.1)) ↔ j ∈ l.map (·.1) := by simp [hji]
              simp only [this]
          · rcases List.mem_cons.1 hk with rfl | hk
            · exact hfull
            · have := h4 k hk hfk
              rw [hg k.1, if_neg (hnl k hk)] at this
              exact this
        · refine .inr ⟨h1, k, List.mem_cons_of_mem _ hk, h2, ?_⟩
          rw [hg k.1, if_neg (hnl k hk)] at h3
          exact h3
    · have hs : pullStep ts f i.1 (some p) = some p := by unfold pullStep; dsimp only; rw [if_neg hf]
      rw [hs]
      rcases pullL_spec ts f h5 l p hnd with ⟨q, h1, h2, h3, h4⟩ | ⟨h1, k, hk, h2, h3⟩
      · refine .inl ⟨q, h1, h2, fun j => ?_, fun k hk hfk => ?_⟩
        · rw [h3 j]
          by_cases hji : j = i.1
          · subst hji
            rw [if_neg (fun h => hf h.1), if_neg (fun h => hf h.1)]
          · have : (j ∈ (i :: l).map (·.1)) ↔ j ∈ l.map (·.1) := by simp [hji]
            simp only [this]
        · rcases List.mem_cons.1 hk with rfl | hk
          · exact absurd hfk hf
          · exact h4 k hk hfk
      · exact .inr ⟨h1, k, List.mem_cons_of_mem _ hk, h2, h3⟩

theorem rpull_spec (ts : List Int) : ∀ (pulls xs : List Int), pulls.Nodup → (∀ p ∈ pulls, 0 ≤ p ∧ p < xs.length) →
    (∃ ys, pulls.foldl (rpullStep ts) (some xs) = some ys ∧ ys.length = xs.length ∧ (∀ j : Nat, ys[j]?.getD 0 = if (j : Int) ∈ pulls then xs[j]?.getD 0 + 1 else xs[j]?.getD 0) ∧ ∀ p ∈ pulls, ¬ ts[p.toNat]?.getD 0 < xs[p.toNat]?.getD 0 + 1) ∨
    (pulls.foldl (rpullStep ts) (some xs) = none ∧ ∃ p ∈ pulls, ts[p.toNat]?.getD 0 < xs[p.toNat]?.getD 0 + 1)
  | [], xs, _, _ => .inl ⟨xs, rfl, rfl, fun j => by simp, fun p hp => by cases hp⟩
  | i :: l, xs, hnd, hin => by
    obtain ⟨hni, hnd⟩ := List.nodup_cons.1 hnd
    obtain ⟨hi0, hi1⟩ := hin i List.mem_cons_self
    rw [List.foldl_cons]
    by_cases hfull : ts[i.toNat]?.getD 0 < xs[i.toNat]?.getD 0 + 1
    · refine .inr ⟨?_, i, List.mem_cons_self, hfull⟩
      have : rpullStep ts (some xs) i = none := by unfold rpullStep; dsimp only; rw [if_pos hfull]
      rw [this]; exact rpull_none ts l
    · have hs : rpullStep ts (some xs) i = some (xs.set i.toNat (xs[i.toNat]?.getD 0 + 1)) := by unfold rpullStep; dsimp only; rw [if_neg hfull]
      rw [hs]
      have hg : ∀ j : Nat, (xs.set i.toNat (xs[i.toNat]?.getD 0 + 1))[j]?.getD 0 = if j = i.toNat then xs[i.toNat]?.getD 0 + 1 else xs[j]?.getD 0 := fun j => by
        rw [List.getElem?_set]
        by_cases hji : i.toNat = j
        · subst hji
          have : i.toNat < xs.length := by omega
          simp [this]
        · rw [if_neg hji, if_neg (fun e => hji e.symm)]
      have hnl : ∀ k ∈ l, k.toNat ≠ i.toNat := fun k hk he => by
        have := hin k (List.mem_cons_of_mem _ hk)
        exact hni (by rwa [show i = k by omega])
      rcases rpull_spec ts l (xs.set i.toNat (xs[i.toNat]?.getD 0 + 1)) hnd (fun p hp => by rw [List.length_set]; exact hin p (List.mem_cons_of_mem _ hp)) with ⟨ys, h1, h2, h3, h4⟩ | ⟨h1, k, hk, h3⟩
      · refine .inl ⟨ys, h1, by rw [h2, List.length_set], fun j => ?_, fun k hk => ?_⟩
        · rw [h3 j, hg j]
          by_cases hji : j = i.toNat
          · subst hji
            have hii : ((i.toNat : Nat) : Int) = i := by omega
            rw [hii, if_neg hni, if_pos rfl, if_pos List.mem_cons_self]
          · have : ((j : Int) ∈ i :: l) ↔ (j : Int) ∈ l := by
              rw [List.mem_cons]
              exact ⟨fun h => h.resolve_left (by omega), .inr⟩
            rw [if_neg hji]
            simp only [this]
        · rcases List.mem_cons.1 hk with rfl | hk
          · exact hfull
          · have := h4 k hk
            rw [hg k.toNat, if_neg (hnl k hk)] at this
            exact this
      · refine .inr ⟨h1, k, List.mem_cons_of_mem _ hk, ?_⟩
        rw [hg k.toNat, if_neg (hnl k hk)] at h3
        exact h3

theorem plList_get {p : Pl} {n : Nat} (hn : p.n = n) (h5 : n ≤ 5) (j : Nat) (hj : j < n) : (plList p)[j]?.getD 0 = p.get j := by
  unfold plList Pl.held
  rw [hn, List.getElem?_take, if_pos (by omega)]
  match j with
  | 0 => rfl
  | 1 => rfl
  | 2 => rfl
  | 3 => rfl
  | 4 => rfl
  | j + 5 => omega
theorem plList_len {p : Pl} {n : Nat} (hn : p.n = n) (h5 : n ≤ 5) : (plList p).length = n := by
  unfold plList Pl.held
  rw [hn]
  simp
  omega

/-- What the reference answers. -/
def rturnR (ts ss pulls : List Int) (visit : Int) : List Int × Int × Int :=
  if statedF ts ss ≠ 0 then ([], 0, statedF ts ss) else if winsF ts.length pulls = false ∨ incrF pulls = false ∨ isWinF ts.length visit = false then ([], 0, 2)
  else match rpullF ts ss pulls with | none => ([], 0, 17) | some ys => (ys.set visit.toNat 0, ys[visit.toNat]?.getD 0, 0)
theorem turn_same (ts ss pulls : List Int) (visit : Int) : turnR ts ss pulls visit = rturnR ts ss pulls visit := by
  unfold turnR rturnR
  by_cases h0 : statedF ts ss = 0
  · have hne : ¬ (statedF ts ss ≠ 0) := fun h => h h0
    rw [if_neg hne, if_neg hne, within_wins, within_wins]
    have hw1 : winsF ts.length [visit] = isWinF ts.length visit := by simp [winsF]
    rw [hw1]
    by_cases hc : winsF ts.length pulls = false ∨ incrF pulls = false ∨ isWinF ts.length visit = false
    · rw [if_pos hc, if_pos hc]
    · rw [if_neg hc, if_neg hc]
      obtain ⟨hv, hl, hg⟩ := stated_valid h0
      have hwp : winsF ts.length pulls = true := by cases h : winsF ts.length pulls <;> simp_all
      have hip : incrF pulls = true := by cases h : incrF pulls <;> simp_all
      have hwv : isWinF ts.length visit = true := by cases h : isWinF ts.length visit <;> simp_all
      have hin : ∀ p ∈ pulls, 0 ≤ p ∧ p < ss.length := fun p hp => by
        have := (List.all_eq_true.1 hwp) p hp
        simpa [isWinF, hl] using this
      have hvis : 0 ≤ visit ∧ visit < ts.length := by simpa [isWinF] using hwv
      have h5 := hv.h5
      have hget : ∀ j, (plOf ss).get j = ss[j]?.getD 0 := plOf_get ss (by omega)
      have hn0 : (plOf ss).n = ts.length := by show (ss.length : Int) = _; omega
      have hnd : (List.finRange ts.length).Nodup := List.nodup_finRange _
      have hmem : ∀ j : Nat, j < ts.length → j ∈ (List.finRange ts.length).map (·.1) := fun j hj => List.mem_map.2 ⟨⟨j, hj⟩, List.mem_finRange _, rfl⟩
      have A := pullL_spec ts (hasF pulls) h5 (List.finRange ts.length) (plOf ss) hnd
      have B := rpull_spec ts pulls ss (incr_nodup hip) hin
      unfold turnF pullF pullL rpullF
      rcases A with ⟨q, a1, a2, a3, a4⟩ | ⟨a1, i, -, a2, a3⟩
      · rcases B with ⟨ys, b1, b2, b3, b4⟩ | ⟨b1, p, hp, b2⟩
        · rw [a1, b1]
          have hqn : q.n = (ts.length : Int) := by rw [a2, hn0]
          have hqj : ∀ j, j < ts.length → q.get j = ys[j]?.getD 0 := fun j hj => by
            rw [a3 j, b3 j, hget j]
            have : (hasF pulls j = true ∧ j ∈ (List.finRange ts.length).map (·.1)) ↔ (j : Int) ∈ pulls := by
              unfold hasF
              rw [decide_eq_true_iff]
              exact ⟨fun h => h.1, fun h => ⟨h, hmem j hj⟩⟩
            simp only [this]
          simp only [Option.map_some]
          refine Prod.ext ?_ (Prod.ext (hqj _ (by omega)) rfl)
          show plList _ = List.set _ _ _
          refine ints_ext (by rw [plList_len (by rw [Pl.set_n]; exact hqn) h5, List.length_set]; omega) fun j hj => ?_
          rw [plList_len (by rw [Pl.set_n]; exact hqn) h5] at hj
          rw [plList_get (by rw [Pl.set_n]; exact hqn) h5 j hj, Pl.get_set _ _ _ _ (by omega), List.getElem?_set]
          by_cases hjv : visit.toNat = j
          · subst hjv
            rw [if_pos rfl, if_pos rfl, if_pos (by omega)]
            rfl
          · rw [if_neg (fun e => hjv e.symm), if_neg hjv, hqj j hj]
        · exfalso
          have hpp := hin p hp
          have := a4 ⟨p.toNat, by omega⟩ (List.mem_finRange _) (by unfold hasF; rw [decide_eq_true_iff]; show ((p.toNat : Nat) : Int) ∈ pulls; rwa [show ((p.toNat : Nat) : Int) = p by omega])
          rw [hget] at this
          have hgj := hg.1 p.toNat (by omega)
          rw [hget] at hgj
          simp only at this
          omega
      · rcases B with ⟨ys, b1, b2, b3, b4⟩ | ⟨b1, p, hp, b2⟩
        · exfalso
          have hm : ((i.1 : Nat) : Int) ∈ pulls := by unfold hasF at a2; exact of_decide_eq_true a2
          have := b4 _ hm
          rw [hget] at a3
          simp only [Int.toNat_natCast] at this
          omega
        · rw [a1, b1]
          rfl
  · rw [if_pos h0, if_pos h0]
end Go.Proofs.YthmojkpmlpilgaaGreat

/- References: Turn. -/
namespace Go.Proofs.YthmojkpmlpilgaaGreat
open Go.RowKit Go.Shelf

attribute [local go_sem] Oper.semAt_some

theorem rTurn_results (W : World) (tmps : Array Value) (x y z : Value) (t2 : tmps.getD 8 undef = x) (t3 : tmps.getD 9 undef = y) (t4 : tmps.getD 10 undef = z) : (results Tryz.f8 tmps).run Tryz.prog W = .ok (.tuple #[x, y, z]) W := by
  simp only [Array.getD_eq_getD_getElem?] at t2 t3 t4
  simp [results, Tryz.results8, go_sem, t2, t3, t4]
theorem wins_bad {n j : Nat} {xs : List Int} {x : Int} (hj : j < xs.length) (hx : x = xs[j]?.getD 0) (h : isWinF n x = false) : winsF n xs = false := by
  unfold winsF
  rw [List.all_eq_false]
  refine ⟨xs[j], List.getElem_mem hj, ?_⟩
  rw [List.getElem?_eq_getElem hj] at hx
  simp only [Option.getD_some] at hx
  rw [← hx, h]
  simp

set_option maxRecDepth 100000 in
set_option maxHeartbeats 4000000 in
theorem rTurn_any (w : World) (B1 B2 B3 : Nat) (A1 A2 A3 : Option Addr) (n c m d k f : Nat) (ts ss pulls : List Int) (visit : Int) (h1 : IntsAt w B1 A1 n ts) (hB1 : B1 ≤ w.heap.size) (h2 : IntsAt w B2 A2 m ss) (hB2 : B2 ≤ w.heap.size) (h3 : IntsAt w B3 A3 k pulls) (hB3 : B3 ≤ w.heap.size) (hk6 : k ≤ 1000000) :
    Calls Tryz.prog 8 #[.agg #[.slice A1 n c], .slice A2 m d, .slice A3 k f, .int .i64 visit] w (TurnPost w (rturnR ts ss pulls visit)) := by
  have hb0 : Below w.heap.size w (w.alloc (.cells #[.slice A1 n c] 24)) := (Below.refl _ w).alloc (Nat.le_refl _) _
  have x0 := Boxed.new w 24 (.slice A1 n c)
  have Hn := Lib.hid (And.intro h1.len (And.intro h2.len h3.len))
  go_enter Tryz.func8, Tryz.ntmps8
  go_wp2_with (fail)
  refine (Stated_any _ B1 B2 A1 A2 n c m d ts ss (h1.below hb0 hB1) (by have := hb0.size; omega) (h2.below hb0 hB2) (by have := hb0.size; omega)).mono ?_
  rintro e w2 ⟨rfl, hb⟩
  have hB := hb0.trans (hb.mono hb0.size)
  have y0 := bxBelow x0 hb x0.lt
  have c0 := y0.cell
  clear hb hb0 x0
  obtain ⟨r, hrr⟩ : ∃ r, r = statedF ts ss := ⟨_, rfl⟩
  by_cases h0 : r = 0
  case neg =>
    have Hr := Lib.hid (show rturnR ts ss pulls visit = ([], 0, r) by unfold rturnR; rw [if_pos (by rw [← hrr]; exact h0), hrr])
    rw [← hrr]
    have Hrr := Lib.hid hrr
    clear hrr
    go_wp2_with (fail)
    refine (Stated_any _ B1 B2 A1 A2 n c m d ts ss (h1.below hB hB1) (by have := hB.size; omega) (h2.below hB hB2) (by have := hB.size; omega)).mono ?_
    rintro e w3 ⟨rfl, hb⟩
    rw [← Hrr.out]
    have hB3' := hB.trans (hb.mono hB.size)
    go_wp2_with (fail)
    refine bodyPost_ret (v := .tuple #[.slice none 0 0, .int .i64 0, .int .i64 r]) (rTurn_results _ _ _ _ _ (by simp) (by simp) (by simp)) rfl ?_
    exact TurnPost.none Hr.out hB3'
  obtain ⟨hv, hl, hg⟩ := stated_valid (hrr.symm.trans h0)
  have hcf : rturnR ts ss pulls visit = if winsF n pulls = false ∨ incrF pulls = false ∨ isWinF n visit = false then (([], 0, 2) : List Int × Int × Int) else match rpullF ts ss pulls with | none => ([], 0, 17) | some ys => (ys.set visit.toNat 0, ys[visit.toNat]?.getD 0, 0) := by
    unfold rturnR
    rw [if_neg (by rw [← hrr, h0]; simp), Hn.out.1] <;> rfl
  have Hv := Lib.hid (And.intro hcf (And.intro hv (And.intro hl (hrr.symm.trans h0))))
  rw [← hrr, h0]
  clear hcf hv hl hg hrr h0
  go_wp2_with (fail)
  go_loopg [11] k (fun g v11 wr => ∃ j : Nat, (j ≤ k ∧ g = k - j ∧ v11 = .int .i64 (j : Int)) ∧ (Boxed wr w.heap.size 24 (.slice A1 n c) ∧ Below w.heap.size w wr) ∧ ∀ t : Nat, t < j → isWinF n (pulls[t]?.getD 0) = true ∧ (0 < t → pulls[t - 1]?.getD 0 < pulls[t]?.getD 0))
  case atStart => exact ⟨0, ⟨Nat.zero_le _, rfl, rfl⟩, ⟨y0, hB⟩, fun t h => by omega⟩
  case round =>
    clear y0 hB c0
    obtain ⟨j, ⟨hjk, rfl, rfl⟩, ⟨y0, hB⟩, hall⟩ := hrel
    have Hall := Lib.hid hall
    have c0 := y0.cell
    have hz := y0.lt
    clear hall
    have hzw := hB.size
    by_cases hj : j < k
    · obtain ⟨b1, o1, rfl, hb1, hcj⟩ := (h3.below hB hB3).cell hj
      obtain ⟨pj, hpj⟩ : ∃ pj, pj = pulls[j]?.getD 0 := ⟨_, rfl⟩
      rw [← hpj] at hcj
      have Hj := Lib.hid hpj
      clear hpj
      have hcell0 : ∀ W, Below wr.heap.size wr.drew W → W.cell? ⟨w.heap.size, 0, none⟩ = some (.slice A1 n c) := fun W hb => (hb.cell (p := ⟨w.heap.size, 0, none⟩) hz).trans c0
      have hcell : ∀ W, Below wr.heap.size wr.drew W → W.cell? ⟨b1, o1 + j, none⟩ = some (.int .i64 pj) := fun W hb => (hb.cell (p := ⟨b1, o1 + j, none⟩) (show b1 < wr.heap.size by omega)).trans hcj
      have hjj : IntKind.i64.wrap ((j : Int) + 1) = (j : Int) + 1 := by rw [IntKind.wrap_i64]; omega
      have hjk' : (j : Int) < (k : Int) := by omega
      cases hq : isWinF n pj
      · have Hq := Lib.hid hq
        clear hq
        have Hbad := Lib.hid (show rturnR ts ss pulls visit = ([], 0, 2) from by rw [Hv.out.1, if_pos (.inl (wins_bad (by have := Hn.out.2.2; omega) Hj.out Hq.out))])
        go_wp2_with (fail)
        refine region_held_wp 1 (fun W' => Below wr.heap.size wr.drew W') (fun _ => true) (by kernel_rfl) ?_
        intro KR hKR
        have hS : Below wr.heap.size wr.drew wr.drew := Below.refl _ _
        refine wpAnyHI_takeE (i := 1) (v := .slice (some ⟨b1, o1, none⟩) k f) (some 28) rfl rfl (by kernel_rfl) (by kernel_rfl) (by kernel_rfl) (by kernel_rfl) (by kernel_rfl) (fun _ _ _ h => h) hS (.inl ⟨by kernel_rfl, fun W' hS' => ?_⟩) ?_
        · go_simp
        refine wpAnyHI_takeE (i := 2) (v := .int .i64 ((j : Nat) : Int)) (some 29) rfl rfl (by kernel_rfl) (by kernel_rfl) (by kernel_rfl) (by kernel_rfl) (by kernel_rfl) (fun _ _ _ h => h) hS (.inl ⟨by kernel_rfl, fun W' hS' => ?_⟩) ?_
        · go_simp
        refine wpAnyHI_takeE (i := 3) (v := .pointer (some ⟨b1, o1 + j, none⟩)) (some 30) rfl rfl (by kernel_rfl) (by kernel_rfl) (by kernel_rfl) (by kernel_rfl) (by kernel_rfl) (fun _ _ _ h => h) hS (.inl ⟨by kernel_rfl, fun W' hS' => ?_⟩) ?_
        · go_simp
        refine wpAnyHI_takeE (i := 0) (v := .agg #[.slice A1 n c]) (some 27) rfl rfl (by kernel_rfl) (by kernel_rfl) (by kernel_rfl) (by kernel_rfl) (by kernel_rfl) (fun _ _ _ h => h) hS (.inl ⟨by kernel_rfl, fun W' hS' => ?_⟩) ?_
        · have q := hcell0 W' hS'; go_simp
        refine wpAnyHI_takeE (i := 4) (v := .int .i64 pj) (some 31) rfl rfl (by kernel_rfl) (by kernel_rfl) (by kernel_rfl) (by kernel_rfl) (by kernel_rfl) (fun _ _ _ h => h) hS (.inl ⟨by kernel_rfl, fun W' hS' => ?_⟩) ?_
        · have q := hcell W' hS'; go_simp
        refine wpAnyHI_one (i := 5) rfl (by kernel_rfl) ?_
        intro K1 hK1
        go_simp
        refine ⟨trivial, (callsIn_wide.2 (isWindow_any _ A1 n c pj)).mono ?_⟩
        rintro e w4 ⟨rfl, rfl⟩
        rw [Hq.out]
        have hS4 : Below wr.heap.size wr.drew (wr.drew.alloc (.cells #[.slice A1 n c] 24)) := (Below.refl wr.heap.size wr.drew).alloc (Nat.le_refl _) _
        refine hK1 _ _ ⟨fun _ => hS4, ?_⟩
        clear hK1 K1
        have hB4 : Below w.heap.size w (wr.drew.alloc (.cells #[.slice A1 n c] 24)) := hB.trans ((below_drew wr).mono hB.size |>.trans (hS4.mono hB.size))
        refine wpAnyHI_takeE (i := 6) (v := .bool true) (some 33) rfl rfl (by kernel_rfl) (by kernel_rfl) (by kernel_rfl) (by kernel_rfl) (by kernel_rfl) (fun _ _ _ h => h) hS4 (.inl ⟨by kernel_rfl, fun W' hS' => ?_⟩) ?_
        · go_simp
        refine wpAnyHI_takeE (i := 7) (v := .bool true) (some 34) rfl rfl (by kernel_rfl) (by kernel_rfl) (by kernel_rfl) (by kernel_rfl) (by kernel_rfl) (fun _ _ _ h => h) hS4 (.inl ⟨by kernel_rfl, fun W' hS' => ?_⟩) ?_
        · go_simp
        refine wpAnyHI_takeE (i := 8) (v := undef) (some 35) rfl rfl (by kernel_rfl) (by kernel_rfl) (by kernel_rfl) (by kernel_rfl) (by kernel_rfl) (fun _ _ _ h => h) hS4 (.inr ⟨by kernel_rfl, rfl⟩) ?_
        refine wpAnyHI_takeE (i := 9) (v := undef) (some 36) rfl rfl (by kernel_rfl) (by kernel_rfl) (by kernel_rfl) (by kernel_rfl) (by kernel_rfl) (fun _ _ _ h => h) hS4 (.inr ⟨by kernel_rfl, rfl⟩) ?_
        refine wpAnyHI_takeE (i := 10) (v := undef) (some 37) rfl rfl (by kernel_rfl) (by kernel_rfl) (by kernel_rfl) (by kernel_rfl) (by kernel_rfl) (fun _ _ _ h => h) hS4 (.inr ⟨by kernel_rfl, rfl⟩) ?_
        refine wpAnyHI_takeE (i := 11) (v := undef) (some 38) rfl rfl (by kernel_rfl) (by kernel_rfl) (by kernel_rfl) (by kernel_rfl) (by kernel_rfl) (fun _ _ _ h => h) hS4 (.inr ⟨by kernel_rfl, rfl⟩) ?_
        refine wpAnyHI_takeE (i := 12) (v := undef) (some 39) rfl rfl (by kernel_rfl) (by kernel_rfl) (by kernel_rfl) (by kernel_rfl) (by kernel_rfl) (fun _ _ _ h => h) hS4 (.inr ⟨by kernel_rfl, rfl⟩) ?_
        refine wpAnyHI_takeE (i := 13) (v := undef) (some 40) rfl rfl (by kernel_rfl) (by kernel_rfl) (by kernel_rfl) (by kernel_rfl) (by kernel_rfl) (fun _ _ _ h => h) hS4 (.inr ⟨by kernel_rfl, rfl⟩) ?_
        refine wpAnyHI_takeE (i := 14) (v := undef) (some 41) rfl rfl (by kernel_rfl) (by kernel_rfl) (by kernel_rfl) (by kernel_rfl) (by kernel_rfl) (fun _ _ _ h => h) hS4 (.inr ⟨by kernel_rfl, rfl⟩) ?_
        refine wpAnyHI_takeE (i := 15) (v := undef) (some 42) rfl rfl (by kernel_rfl) (by kernel_rfl) (by kernel_rfl) (by kernel_rfl) (by kernel_rfl) (fun _ _ _ h => h) hS4 (.inr ⟨by kernel_rfl, rfl⟩) ?_
        refine wpAnyHI_takeE (i := 16) (v := undef) (some 43) rfl rfl (by kernel_rfl) (by kernel_rfl) (by kernel_rfl) (by kernel_rfl) (by kernel_rfl) (fun _ _ _ h => h) hS4 (.inr ⟨by kernel_rfl, rfl⟩) ?_
        refine wpAnyHI_takeE (i := 17) (v := undef) (some 44) rfl rfl (by kernel_rfl) (by kernel_rfl) (by kernel_rfl) (by kernel_rfl) (by kernel_rfl) (fun _ _ _ h => h) hS4 (.inr ⟨by kernel_rfl, rfl⟩) ?_
        refine wpAnyHI_takeE (i := 18) (v := undef) (some 45) rfl rfl (by kernel_rfl) (by kernel_rfl) (by kernel_rfl) (by kernel_rfl) (by kernel_rfl) (fun _ _ _ h => h) hS4 (.inr ⟨by kernel_rfl, rfl⟩) ?_
        refine wpAnyHI_takeE (i := 19) (v := undef) (some 46) rfl rfl (by kernel_rfl) (by kernel_rfl) (by kernel_rfl) (by kernel_rfl) (by kernel_rfl) (fun _ _ _ h => h) hS4 (.inr ⟨by kernel_rfl, rfl⟩) ?_
        refine wpAnyHI_takeE (i := 20) (v := undef) (some 47) rfl rfl (by kernel_rfl) (by kernel_rfl) (by kernel_rfl) (by kernel_rfl) (by kernel_rfl) (fun _ _ _ h => h) hS4 (.inr ⟨by kernel_rfl, rfl⟩) ?_
        refine wpAnyHI_takeE (i := 21) (v := undef) (some 48) rfl rfl (by kernel_rfl) (by kernel_rfl) (by kernel_rfl) (by kernel_rfl) (by kernel_rfl) (fun _ _ _ h => h) hS4 (.inr ⟨by kernel_rfl, rfl⟩) ?_
        refine wpAnyHI_takeE (i := 22) (v := .bool true) (some 49) rfl rfl (by kernel_rfl) (by kernel_rfl) (by kernel_rfl) (by kernel_rfl) (by kernel_rfl) (fun _ _ _ h => h) hS4 (.inl ⟨by kernel_rfl, fun W' hS' => ?_⟩) ?_
        · go_simp
        refine wpAnyHI_end (by kernel_rfl) ?_
        show KR _ _
        refine act_eq (K := KR) (a' := { tmps := #[.agg #[.slice A1 n c], .slice A2 m d, .slice (some ⟨b1, o1, none⟩) k f, .int .i64 visit, .pointer (some ⟨w.heap.size, 0, none⟩), undef, undef, undef, u8, u9, u10, .int .i64 ((j : Nat) : Int), undef, undef, .agg #[.slice A1 n c], .slice A2 m d, .int .i64 0, .bool false, undef, undef, undef, .int .i64 ((j : Nat) : Int), .slice (some ⟨b1, o1, none⟩) k f, .int .i64 (k : Int), .bool true, u25, u26, .agg #[.slice A1 n c], .slice (some ⟨b1, o1, none⟩) k f, .int .i64 ((j : Nat) : Int), .pointer (some ⟨b1, o1 + j, none⟩), .int .i64 pj, .bool false, .bool true, .bool true, undef, undef, undef, undef, undef, undef, undef, undef, undef, undef, undef, undef, undef, undef, .bool true, undef, undef, undef, undef, undef, undef, undef, undef, undef, undef, undef, undef, undef, undef, undef, undef, undef, undef, undef, undef], defers := [] }) (by kernel_rfl) ?_
        refine hKR _ _ ?_
        go_wp2_with (fail)
        refine bodyPost_ret (v := .tuple #[.slice none 0 0, .int .i64 0, .int .i64 2]) (rTurn_results _ _ _ _ _ (by simp) (by simp) (by simp)) rfl ?_
        exact TurnPost.none Hbad.out hB4
      · have Hq := Lib.hid hq
        clear hq
        by_cases hj0 : j = 0
        · have hgt0 : ¬ (0 : Int) < (j : Int) := by omega
          have Hj0 := Lib.hid hj0
          clear hj0
          go_wp2_with (fail)
          refine region_held_wp 1 (fun W' => Below wr.heap.size wr.drew W') (fun _ => true) (by kernel_rfl) ?_
          intro KR hKR
          have hS : Below wr.heap.size wr.drew wr.drew := Below.refl _ _
          refine wpAnyHI_takeE (i := 1) (v := .slice (some ⟨b1, o1, none⟩) k f) (some 28) rfl rfl (by kernel_rfl) (by kernel_rfl) (by kernel_rfl) (by kernel_rfl) (by kernel_rfl) (fun _ _ _ h => h) hS (.inl ⟨by kernel_rfl, fun W' hS' => ?_⟩) ?_
          · go_simp
          refine wpAnyHI_takeE (i := 2) (v := .int .i64 ((j : Nat) : Int)) (some 29) rfl rfl (by kernel_rfl) (by kernel_rfl) (by kernel_rfl) (by kernel_rfl) (by kernel_rfl) (fun _ _ _ h => h) hS (.inl ⟨by kernel_rfl, fun W' hS' => ?_⟩) ?_
          · go_simp
          refine wpAnyHI_takeE (i := 3) (v := .pointer (some ⟨b1, o1 + j, none⟩)) (some 30) rfl rfl (by kernel_rfl) (by kernel_rfl) (by kernel_rfl) (by kernel_rfl) (by kernel_rfl) (fun _ _ _ h => h) hS (.inl ⟨by kernel_rfl, fun W' hS' => ?_⟩) ?_
          · go_simp
          refine wpAnyHI_takeE (i := 0) (v := .agg #[.slice A1 n c]) (some 27) rfl rfl (by kernel_rfl) (by kernel_rfl) (by kernel_rfl) (by kernel_rfl) (by kernel_rfl) (fun _ _ _ h => h) hS (.inl ⟨by kernel_rfl, fun W' hS' => ?_⟩) ?_
          · have q := hcell0 W' hS'; go_simp
          refine wpAnyHI_takeE (i := 4) (v := .int .i64 pj) (some 31) rfl rfl (by kernel_rfl) (by kernel_rfl) (by kernel_rfl) (by kernel_rfl) (by kernel_rfl) (fun _ _ _ h => h) hS (.inl ⟨by kernel_rfl, fun W' hS' => ?_⟩) ?_
          · have q := hcell W' hS'; go_simp
          refine wpAnyHI_one (i := 5) rfl (by kernel_rfl) ?_
          intro K1 hK1
          go_simp
          refine ⟨trivial, (callsIn_wide.2 (isWindow_any _ A1 n c pj)).mono ?_⟩
          rintro e w4 ⟨rfl, rfl⟩
          rw [Hq.out]
          have hS4 : Below wr.heap.size wr.drew (wr.drew.alloc (.cells #[.slice A1 n c] 24)) := (Below.refl wr.heap.size wr.drew).alloc (Nat.le_refl _) _
          refine hK1 _ _ ⟨fun _ => hS4, ?_⟩
          clear hK1 K1
          have hB4 : Below w.heap.size w (wr.drew.alloc (.cells #[.slice A1 n c] 24)) := hB.trans ((below_drew wr).mono hB.size |>.trans (hS4.mono hB.size))
          refine wpAnyHI_takeE (i := 6) (v := .bool false) (some 33) rfl rfl (by kernel_rfl) (by kernel_rfl) (by kernel_rfl) (by kernel_rfl) (by kernel_rfl) (fun _ _ _ h => h) hS4 (.inl ⟨by kernel_rfl, fun W' hS' => ?_⟩) ?_
          · go_simp
          refine wpAnyHI_takeE (i := 7) (v := .bool false) (some 34) rfl rfl (by kernel_rfl) (by kernel_rfl) (by kernel_rfl) (by kernel_rfl) (by kernel_rfl) (fun _ _ _ h => h) hS4 (.inl ⟨by kernel_rfl, fun W' hS' => ?_⟩) ?_
          · go_simp
          refine wpAnyHI_takeE (i := 8) (v := .int .i64 ((j : Nat) : Int)) (some 35) rfl rfl (by kernel_rfl) (by kernel_rfl) (by kernel_rfl) (by kernel_rfl) (by kernel_rfl) (fun _ _ _ h => h) hS4 (.inl ⟨by kernel_rfl, fun W' hS' => ?_⟩) ?_
          · go_simp
          refine wpAnyHI_takeE (i := 9) (v := .bool false) (some 36) rfl rfl (by kernel_rfl) (by kernel_rfl) (by kernel_rfl) (by kernel_rfl) (by kernel_rfl) (fun _ _ _ h => h) hS4 (.inl ⟨by kernel_rfl, fun W' hS' => ?_⟩) ?_
          · go_simp; exact Hj0.out
          refine wpAnyHI_takeE (i := 10) (v := .bool false) (some 37) rfl rfl (by kernel_rfl) (by kernel_rfl) (by kernel_rfl) (by kernel_rfl) (by kernel_rfl) (fun _ _ _ h => h) hS4 (.inl ⟨by kernel_rfl, fun W' hS' => ?_⟩) ?_
          · go_simp
          refine wpAnyHI_takeE (i := 11) (v := undef) (some 38) rfl rfl (by kernel_rfl) (by kernel_rfl) (by kernel_rfl) (by kernel_rfl) (by kernel_rfl) (fun _ _ _ h => h) hS4 (.inr ⟨by kernel_rfl, rfl⟩) ?_
          refine wpAnyHI_takeE (i := 12) (v := undef) (some 39) rfl rfl (by kernel_rfl) (by kernel_rfl) (by kernel_rfl) (by kernel_rfl) (by kernel_rfl) (fun _ _ _ h => h) hS4 (.inr ⟨by kernel_rfl, rfl⟩) ?_
          refine wpAnyHI_takeE (i := 13) (v := undef) (some 40) rfl rfl (by kernel_rfl) (by kernel_rfl) (by kernel_rfl) (by kernel_rfl) (by kernel_rfl) (fun _ _ _ h => h) hS4 (.inr ⟨by kernel_rfl, rfl⟩) ?_
          refine wpAnyHI_takeE (i := 14) (v := undef) (some 41) rfl rfl (by kernel_rfl) (by kernel_rfl) (by kernel_rfl) (by kernel_rfl) (by kernel_rfl) (fun _ _ _ h => h) hS4 (.inr ⟨by kernel_rfl, rfl⟩) ?_
          refine wpAnyHI_takeE (i := 15) (v := undef) (some 42) rfl rfl (by kernel_rfl) (by kernel_rfl) (by kernel_rfl) (by kernel_rfl) (by kernel_rfl) (fun _ _ _ h => h) hS4 (.inr ⟨by kernel_rfl, rfl⟩) ?_
          refine wpAnyHI_takeE (i := 16) (v := undef) (some 43) rfl rfl (by kernel_rfl) (by kernel_rfl) (by kernel_rfl) (by kernel_rfl) (by kernel_rfl) (fun _ _ _ h => h) hS4 (.inr ⟨by kernel_rfl, rfl⟩) ?_
          refine wpAnyHI_takeE (i := 17) (v := undef) (some 44) rfl rfl (by kernel_rfl) (by kernel_rfl) (by kernel_rfl) (by kernel_rfl) (by kernel_rfl) (fun _ _ _ h => h) hS4 (.inr ⟨by kernel_rfl, rfl⟩) ?_
          refine wpAnyHI_takeE (i := 18) (v := undef) (some 45) rfl rfl (by kernel_rfl) (by kernel_rfl) (by kernel_rfl) (by kernel_rfl) (by kernel_rfl) (fun _ _ _ h => h) hS4 (.inr ⟨by kernel_rfl, rfl⟩) ?_
          refine wpAnyHI_takeE (i := 19) (v := undef) (some 46) rfl rfl (by kernel_rfl) (by kernel_rfl) (by kernel_rfl) (by kernel_rfl) (by kernel_rfl) (fun _ _ _ h => h) hS4 (.inr ⟨by kernel_rfl, rfl⟩) ?_
          refine wpAnyHI_takeE (i := 20) (v := undef) (some 47) rfl rfl (by kernel_rfl) (by kernel_rfl) (by kernel_rfl) (by kernel_rfl) (by kernel_rfl) (fun _ _ _ h => h) hS4 (.inr ⟨by kernel_rfl, rfl⟩) ?_
          refine wpAnyHI_takeE (i := 21) (v := .bool false) (some 48) rfl rfl (by kernel_rfl) (by kernel_rfl) (by kernel_rfl) (by kernel_rfl) (by kernel_rfl) (fun _ _ _ h => h) hS4 (.inl ⟨by kernel_rfl, fun W' hS' => ?_⟩) ?_
          · go_simp
          refine wpAnyHI_takeE (i := 22) (v := .bool false) (some 49) rfl rfl (by kernel_rfl) (by kernel_rfl) (by kernel_rfl) (by kernel_rfl) (by kernel_rfl) (fun _ _ _ h => h) hS4 (.inl ⟨by kernel_rfl, fun W' hS' => ?_⟩) ?_
          · go_simp
          refine wpAnyHI_end (by kernel_rfl) ?_
          show KR _ _
          refine act_eq (K := KR) (a' := { tmps := #[.agg #[.slice A1 n c], .slice A2 m d, .slice (some ⟨b1, o1, none⟩) k f, .int .i64 visit, .pointer (some ⟨w.heap.size, 0, none⟩), undef, undef, undef, u8, u9, u10, .int .i64 ((j : Nat) : Int), undef, undef, .agg #[.slice A1 n c], .slice A2 m d, .int .i64 0, .bool false, undef, undef, undef, .int .i64 ((j : Nat) : Int), .slice (some ⟨b1, o1, none⟩) k f, .int .i64 (k : Int), .bool true, u25, u26, .agg #[.slice A1 n c], .slice (some ⟨b1, o1, none⟩) k f, .int .i64 ((j : Nat) : Int), .pointer (some ⟨b1, o1 + j, none⟩), .int .i64 pj, .bool true, .bool false, .bool false, .int .i64 ((j : Nat) : Int), .bool false, .bool false, undef, undef, undef, undef, undef, undef, undef, undef, undef, undef, .bool false, .bool false, undef, undef, undef, undef, undef, undef, undef, undef, undef, undef, undef, undef, undef, undef, undef, undef, undef, undef, undef, undef], defers := [] }) (by kernel_rfl) ?_
          refine hKR _ _ ?_
          go_wp2_with (fail)
          go_roundg (k - (j + 1))
          case rel =>
            refine ⟨j + 1, ⟨by omega, by omega, by simp⟩, ⟨bxBelow y0 (((below_drew wr)).trans hS4) y0.lt, hB4⟩, fun t ht => ?_⟩
            rcases Nat.lt_succ_iff_lt_or_eq.1 ht with h | rfl
            · exact Hall.out t h
            · exact ⟨by rw [← Hj.out]; exact Hq.out, fun h0 => absurd Hj0.out (by omega)⟩
          case measure => omega
        · obtain ⟨i, rfl⟩ : ∃ i, j = i + 1 := ⟨j - 1, by omega⟩
          clear hj0
          have hgt0 : (0 : Int) < ((i + 1 : Nat) : Int) := by omega
          have hnn : ¬ (i : Int) + 1 < 0 := by omega
          have hwi : IntKind.i64.wrap (i : Int) = (i : Int) := by rw [IntKind.wrap_i64]; omega
          have hki : ¬ k ≤ i := by omega
          obtain ⟨b2, o2, hA2, -, hci⟩ := (h3.below hB hB3).cell (k := i) (by omega)
          cases hA2
          obtain ⟨pi, hpi⟩ : ∃ pi, pi = pulls[i]?.getD 0 := ⟨_, rfl⟩
          rw [← hpi] at hci
          have Hi := Lib.hid hpi
          clear hpi
          have hcelli : ∀ W, Below wr.heap.size wr.drew W → W.cell? ⟨b1, o1 + i, none⟩ = some (.int .i64 pi) := fun W hb => (hb.cell (p := ⟨b1, o1 + i, none⟩) (show b1 < wr.heap.size by omega)).trans hci
          have hw1 : IntKind.i64.wrap (((i + 1 : Nat) : Int) - 1) = (i : Int) := by rw [IntKind.wrap_i64]; omega
          have hw2 : ((i + 1 : Nat) : Int) - 1 = (i : Int) := by omega
          by_cases hle : pj ≤ pi
          · have Hle := Lib.hid hle
            have Hbad := Lib.hid (show rturnR ts ss pulls visit = ([], 0, 2) from by rw [Hv.out.1, if_pos (.inr (.inl (incrF_false (i := i + 1) (by omega) (by have := Hn.out.2.2; omega) (by have := Hj.out; have := Hi.out; have := Hle.out; simp only [Nat.add_sub_cancel]; omega))))])
            go_wp2_with (fail)
            refine region_held_wp 1 (fun W' => Below wr.heap.size wr.drew W') (fun _ => true) (by kernel_rfl) ?_
            intro KR hKR
            have hS : Below wr.heap.size wr.drew wr.drew := Below.refl _ _
            refine wpAnyHI_takeE (i := 1) (v := .slice (some ⟨b1, o1, none⟩) k f) (some 28) rfl rfl (by kernel_rfl) (by kernel_rfl) (by kernel_rfl) (by kernel_rfl) (by kernel_rfl) (fun _ _ _ h => h) hS (.inl ⟨by kernel_rfl, fun W' hS' => ?_⟩) ?_
            · go_simp
            refine wpAnyHI_takeE (i := 2) (v := .int .i64 ((i + 1 : Nat) : Int)) (some 29) rfl rfl (by kernel_rfl) (by kernel_rfl) (by kernel_rfl) (by kernel_rfl) (by kernel_rfl) (fun _ _ _ h => h) hS (.inl ⟨by kernel_rfl, fun W' hS' => ?_⟩) ?_
            · go_simp
            refine wpAnyHI_takeE (i := 3) (v := .pointer (some ⟨b1, o1 + (i + 1), none⟩)) (some 30) rfl rfl (by kernel_rfl) (by kernel_rfl) (by kernel_rfl) (by kernel_rfl) (by kernel_rfl) (fun _ _ _ h => h) hS (.inl ⟨by kernel_rfl, fun W' hS' => ?_⟩) ?_
            · go_simp
            refine wpAnyHI_takeE (i := 0) (v := .agg #[.slice A1 n c]) (some 27) rfl rfl (by kernel_rfl) (by kernel_rfl) (by kernel_rfl) (by kernel_rfl) (by kernel_rfl) (fun _ _ _ h => h) hS (.inl ⟨by kernel_rfl, fun W' hS' => ?_⟩) ?_
            · have q := hcell0 W' hS'; go_simp
            refine wpAnyHI_takeE (i := 4) (v := .int .i64 pj) (some 31) rfl rfl (by kernel_rfl) (by kernel_rfl) (by kernel_rfl) (by kernel_rfl) (by kernel_rfl) (fun _ _ _ h => h) hS (.inl ⟨by kernel_rfl, fun W' hS' => ?_⟩) ?_
            · have q := hcell W' hS'; go_simp
            refine wpAnyHI_one (i := 5) rfl (by kernel_rfl) ?_
            intro K1 hK1
            go_simp
            refine ⟨trivial, (callsIn_wide.2 (isWindow_any _ A1 n c pj)).mono ?_⟩
            rintro e w4 ⟨rfl, rfl⟩
            rw [Hq.out]
            have hS4 : Below wr.heap.size wr.drew (wr.drew.alloc (.cells #[.slice A1 n c] 24)) := (Below.refl wr.heap.size wr.drew).alloc (Nat.le_refl _) _
            refine hK1 _ _ ⟨fun _ => hS4, ?_⟩
            clear hK1 K1
            have hB4 : Below w.heap.size w (wr.drew.alloc (.cells #[.slice A1 n c] 24)) := hB.trans ((below_drew wr).mono hB.size |>.trans (hS4.mono hB.size))
            refine wpAnyHI_takeE (i := 6) (v := .bool false) (some 33) rfl rfl (by kernel_rfl) (by kernel_rfl) (by kernel_rfl) (by kernel_rfl) (by kernel_rfl) (fun _ _ _ h => h) hS4 (.inl ⟨by kernel_rfl, fun W' hS' => ?_⟩) ?_
            · go_simp
            refine wpAnyHI_takeE (i := 7) (v := .bool false) (some 34) rfl rfl (by kernel_rfl) (by kernel_rfl) (by kernel_rfl) (by kernel_rfl) (by kernel_rfl) (fun _ _ _ h => h) hS4 (.inl ⟨by kernel_rfl, fun W' hS' => ?_⟩) ?_
            · go_simp
            refine wpAnyHI_takeE (i := 8) (v := .int .i64 ((i + 1 : Nat) : Int)) (some 35) rfl rfl (by kernel_rfl) (by kernel_rfl) (by kernel_rfl) (by kernel_rfl) (by kernel_rfl) (fun _ _ _ h => h) hS4 (.inl ⟨by kernel_rfl, fun W' hS' => ?_⟩) ?_
            · go_simp
            refine wpAnyHI_takeE (i := 9) (v := .bool true) (some 36) rfl rfl (by kernel_rfl) (by kernel_rfl) (by kernel_rfl) (by kernel_rfl) (by kernel_rfl) (fun _ _ _ h => h) hS4 (.inl ⟨by kernel_rfl, fun W' hS' => ?_⟩) ?_
            · go_simp
            refine wpAnyHI_takeE (i := 10) (v := .bool true) (some 37) rfl rfl (by kernel_rfl) (by kernel_rfl) (by kernel_rfl) (by kernel_rfl) (by kernel_rfl) (fun _ _ _ h => h) hS4 (.inl ⟨by kernel_rfl, fun W' hS' => ?_⟩) ?_
            · go_simp
            refine wpAnyHI_takeE (i := 11) (v := .slice (some ⟨b1, o1, none⟩) k f) (some 38) rfl rfl (by kernel_rfl) (by kernel_rfl) (by kernel_rfl) (by kernel_rfl) (by kernel_rfl) (fun _ _ _ h => h) hS4 (.inl ⟨by kernel_rfl, fun W' hS' => ?_⟩) ?_
            · go_simp
            refine wpAnyHI_takeE (i := 12) (v := .int .i64 ((i + 1 : Nat) : Int)) (some 39) rfl rfl (by kernel_rfl) (by kernel_rfl) (by kernel_rfl) (by kernel_rfl) (by kernel_rfl) (fun _ _ _ h => h) hS4 (.inl ⟨by kernel_rfl, fun W' hS' => ?_⟩) ?_
            · go_simp
            refine wpAnyHI_takeE (i := 13) (v := .pointer (some ⟨b1, o1 + (i + 1), none⟩)) (some 40) rfl rfl (by kernel_rfl) (by kernel_rfl) (by kernel_rfl) (by kernel_rfl) (by kernel_rfl) (fun _ _ _ h => h) hS4 (.inl ⟨by kernel_rfl, fun W' hS' => ?_⟩) ?_
            · go_simp
            refine wpAnyHI_takeE (i := 14) (v := .int .i64 pj) (some 41) rfl rfl (by kernel_rfl) (by kernel_rfl) (by kernel_rfl) (by kernel_rfl) (by kernel_rfl) (fun _ _ _ h => h) hS4 (.inl ⟨by kernel_rfl, fun W' hS' => ?_⟩) ?_
            · have q := hcell W' hS'; go_simp
            refine wpAnyHI_takeE (i := 15) (v := .slice (some ⟨b1, o1, none⟩) k f) (some 42) rfl rfl (by kernel_rfl) (by kernel_rfl) (by kernel_rfl) (by kernel_rfl) (by kernel_rfl) (fun _ _ _ h => h) hS4 (.inl ⟨by kernel_rfl, fun W' hS' => ?_⟩) ?_
            · go_simp
            refine wpAnyHI_takeE (i := 16) (v := .int .i64 ((i + 1 : Nat) : Int)) (some 43) rfl rfl (by kernel_rfl) (by kernel_rfl) (by kernel_rfl) (by kernel_rfl) (by kernel_rfl) (fun _ _ _ h => h) hS4 (.inl ⟨by kernel_rfl, fun W' hS' => ?_⟩) ?_
            · go_simp
            refine wpAnyHI_takeE (i := 17) (v := .int .i64 (i : Int)) (some 44) rfl rfl (by kernel_rfl) (by kernel_rfl) (by kernel_rfl) (by kernel_rfl) (by kernel_rfl) (fun _ _ _ h => h) hS4 (.inl ⟨by kernel_rfl, fun W' hS' => ?_⟩) ?_
            · go_simp
            refine wpAnyHI_takeE (i := 18) (v := .pointer (some ⟨b1, o1 + i, none⟩)) (some 45) rfl rfl (by kernel_rfl) (by kernel_rfl) (by kernel_rfl) (by kernel_rfl) (by kernel_rfl) (fun _ _ _ h => h) hS4 (.inl ⟨by kernel_rfl, fun W' hS' => ?_⟩) ?_
            · go_simp
            refine wpAnyHI_takeE (i := 19) (v := .int .i64 pi) (some 46) rfl rfl (by kernel_rfl) (by kernel_rfl) (by kernel_rfl) (by kernel_rfl) (by kernel_rfl) (fun _ _ _ h => h) hS4 (.inl ⟨by kernel_rfl, fun W' hS' => ?_⟩) ?_
            · have q := hcelli W' hS'; go_simp
            refine wpAnyHI_takeE (i := 20) (v := .bool true) (some 47) rfl rfl (by kernel_rfl) (by kernel_rfl) (by kernel_rfl) (by kernel_rfl) (by kernel_rfl) (fun _ _ _ h => h) hS4 (.inl ⟨by kernel_rfl, fun W' hS' => ?_⟩) ?_
            · go_simp
            refine wpAnyHI_takeE (i := 21) (v := .bool true) (some 48) rfl rfl (by kernel_rfl) (by kernel_rfl) (by kernel_rfl) (by kernel_rfl) (by kernel_rfl) (fun _ _ _ h => h) hS4 (.inl ⟨by kernel_rfl, fun W' hS' => ?_⟩) ?_
            · go_simp
            refine wpAnyHI_takeE (i := 22) (v := .bool true) (some 49) rfl rfl (by kernel_rfl) (by kernel_rfl) (by kernel_rfl) (by kernel_rfl) (by kernel_rfl) (fun _ _ _ h => h) hS4 (.inl ⟨by kernel_rfl, fun W' hS' => ?_⟩) ?_
            · go_simp
            refine wpAnyHI_end (by kernel_rfl) ?_
            show KR _ _
            refine act_eq (K := KR) (a' := { tmps := #[.agg #[.slice A1 n c], .slice A2 m d, .slice (some ⟨b1, o1, none⟩) k f, .int .i64 visit, .pointer (some ⟨w.heap.size, 0, none⟩), undef, undef, undef, u8, u9, u10, .int .i64 ((i + 1 : Nat) : Int), undef, undef, .agg #[.slice A1 n c], .slice A2 m d, .int .i64 0, .bool false, undef, undef, undef, .int .i64 ((i + 1 : Nat) : Int), .slice (some ⟨b1, o1, none⟩) k f, .int .i64 (k : Int), .bool true, u25, u26, .agg #[.slice A1 n c], .slice (some ⟨b1, o1, none⟩) k f, .int .i64 ((i + 1 : Nat) : Int), .pointer (some ⟨b1, o1 + (i + 1), none⟩), .int .i64 pj, .bool true, .bool false, .bool false, .int .i64 ((i + 1 : Nat) : Int), .bool true, .bool true, .slice (some ⟨b1, o1, none⟩) k f, .int .i64 ((i + 1 : Nat) : Int), .pointer (some ⟨b1, o1 + (i + 1), none⟩), .int .i64 pj, .slice (some ⟨b1, o1, none⟩) k f, .int .i64 ((i + 1 : Nat) : Int), .int .i64 (i : Int), .pointer (some ⟨b1, o1 + i, none⟩), .int .i64 pi, .bool true, .bool true, .bool true, undef, undef, undef, undef, undef, undef, undef, undef, undef, undef, undef, undef, undef, undef, undef, undef, undef, undef, undef, undef], defers := [] }) (by kernel_rfl) ?_
            refine hKR _ _ ?_
            go_wp2_with (fail)
            refine bodyPost_ret (v := .tuple #[.slice none 0 0, .int .i64 0, .int .i64 2]) (rTurn_results _ _ _ _ _ (by simp) (by simp) (by simp)) rfl ?_
            exact TurnPost.none Hbad.out hB4
          · have Hle := Lib.hid hle
            go_wp2_with (fail)
            refine region_held_wp 1 (fun W' => Below wr.heap.size wr.drew W') (fun _ => true) (by kernel_rfl) ?_
            intro KR hKR
            have hS : Below wr.heap.size wr.drew wr.drew := Below.refl _ _
            refine wpAnyHI_takeE (i := 1) (v := .slice (some ⟨b1, o1, none⟩) k f) (some 28) rfl rfl (by kernel_rfl) (by kernel_rfl) (by kernel_rfl) (by kernel_rfl) (by kernel_rfl) (fun _ _ _ h => h) hS (.inl ⟨by kernel_rfl, fun W' hS' => ?_⟩) ?_
            · go_simp
            refine wpAnyHI_takeE (i := 2) (v := .int .i64 ((i + 1 : Nat) : Int)) (some 29) rfl rfl (by kernel_rfl) (by kernel_rfl) (by kernel_rfl) (by kernel_rfl) (by kernel_rfl) (fun _ _ _ h => h) hS (.inl ⟨by kernel_rfl, fun W' hS' => ?_⟩) ?_
            · go_simp
            refine wpAnyHI_takeE (i := 3) (v := .pointer (some ⟨b1, o1 + (i + 1), none⟩)) (some 30) rfl rfl (by kernel_rfl) (by kernel_rfl) (by kernel_rfl) (by kernel_rfl) (by kernel_rfl) (fun _ _ _ h => h) hS (.inl ⟨by kernel_rfl, fun W' hS' => ?_⟩) ?_
            · go_simp
            refine wpAnyHI_takeE (i := 0) (v := .agg #[.slice A1 n c]) (some 27) rfl rfl (by kernel_rfl) (by kernel_rfl) (by kernel_rfl) (by kernel_rfl) (by kernel_rfl) (fun _ _ _ h => h) hS (.inl ⟨by kernel_rfl, fun W' hS' => ?_⟩) ?_
            · have q := hcell0 W' hS'; go_simp
            refine wpAnyHI_takeE (i := 4) (v := .int .i64 pj) (some 31) rfl rfl (by kernel_rfl) (by kernel_rfl) (by kernel_rfl) (by kernel_rfl) (by kernel_rfl) (fun _ _ _ h => h) hS (.inl ⟨by kernel_rfl, fun W' hS' => ?_⟩) ?_
            · have q := hcell W' hS'; go_simp
            refine wpAnyHI_one (i := 5) rfl (by kernel_rfl) ?_
            intro K1 hK1
            go_simp
            refine ⟨trivial, (callsIn_wide.2 (isWindow_any _ A1 n c pj)).mono ?_⟩
            rintro e w4 ⟨rfl, rfl⟩
            rw [Hq.out]
            have hS4 : Below wr.heap.size wr.drew (wr.drew.alloc (.cells #[.slice A1 n c] 24)) := (Below.refl wr.heap.size wr.drew).alloc (Nat.le_refl _) _
            refine hK1 _ _ ⟨fun _ => hS4, ?_⟩
            clear hK1 K1
            have hB4 : Below w.heap.size w (wr.drew.alloc (.cells #[.slice A1 n c] 24)) := hB.trans ((below_drew wr).mono hB.size |>.trans (hS4.mono hB.size))
            refine wpAnyHI_takeE (i := 6) (v := .bool false) (some 33) rfl rfl (by kernel_rfl) (by kernel_rfl) (by kernel_rfl) (by kernel_rfl) (by kernel_rfl) (fun _ _ _ h => h) hS4 (.inl ⟨by kernel_rfl, fun W' hS' => ?_⟩) ?_
            · go_simp
            refine wpAnyHI_takeE (i := 7) (v := .bool false) (some 34) rfl rfl (by kernel_rfl) (by kernel_rfl) (by kernel_rfl) (by kernel_rfl) (by kernel_rfl) (fun _ _ _ h => h) hS4 (.inl ⟨by kernel_rfl, fun W' hS' => ?_⟩) ?_
            · go_simp
            refine wpAnyHI_takeE (i := 8) (v := .int .i64 ((i + 1 : Nat) : Int)) (some 35) rfl rfl (by kernel_rfl) (by kernel_rfl) (by kernel_rfl) (by kernel_rfl) (by kernel_rfl) (fun _ _ _ h => h) hS4 (.inl ⟨by kernel_rfl, fun W' hS' => ?_⟩) ?_
            · go_simp
            refine wpAnyHI_takeE (i := 9) (v := .bool true) (some 36) rfl rfl (by kernel_rfl) (by kernel_rfl) (by kernel_rfl) (by kernel_rfl) (by kernel_rfl) (fun _ _ _ h => h) hS4 (.inl ⟨by kernel_rfl, fun W' hS' => ?_⟩) ?_
            · go_simp
            refine wpAnyHI_takeE (i := 10) (v := .bool true) (some 37) rfl rfl (by kernel_rfl) (by kernel_rfl) (by kernel_rfl) (by kernel_rfl) (by kernel_rfl) (fun _ _ _ h => h) hS4 (.inl ⟨by kernel_rfl, fun W' hS' => ?_⟩) ?_
            · go_simp
            refine wpAnyHI_takeE (i := 11) (v := .slice (some ⟨b1, o1, none⟩) k f) (some 38) rfl rfl (by kernel_rfl) (by kernel_rfl) (by kernel_rfl) (by kernel_rfl) (by kernel_rfl) (fun _ _ _ h => h) hS4 (.inl ⟨by kernel_rfl, fun W' hS' => ?_⟩) ?_
            · go_simp
            refine wpAnyHI_takeE (i := 12) (v := .int .i64 ((i + 1 : Nat) : Int)) (some 39) rfl rfl (by kernel_rfl) (by kernel_rfl) (by kernel_rfl) (by kernel_rfl) (by kernel_rfl) (fun _ _ _ h => h) hS4 (.inl ⟨by kernel_rfl, fun W' hS' => ?_⟩) ?_
            · go_simp
            refine wpAnyHI_takeE (i := 13) (v := .pointer (some ⟨b1, o1 + (i + 1), none⟩)) (some 40) rfl rfl (by kernel_rfl) (by kernel_rfl) (by kernel_rfl) (by kernel_rfl) (by kernel_rfl) (fun _ _ _ h => h) hS4 (.inl ⟨by kernel_rfl, fun W' hS' => ?_⟩) ?_
            · go_simp
            refine wpAnyHI_takeE (i := 14) (v := .int .i64 pj) (some 41) rfl rfl (by kernel_rfl) (by kernel_rfl) (by kernel_rfl) (by kernel_rfl) (by kernel_rfl) (fun _ _ _ h => h) hS4 (.inl ⟨by kernel_rfl, fun W' hS' => ?_⟩) ?_
            · have q := hcell W' hS'; go_simp
            refine wpAnyHI_takeE (i := 15) (v := .slice (some ⟨b1, o1, none⟩) k f) (some 42) rfl rfl (by kernel_rfl) (by kernel_rfl) (by kernel_rfl) (by kernel_rfl) (by kernel_rfl) (fun _ _ _ h => h) hS4 (.inl ⟨by kernel_rfl, fun W' hS' => ?_⟩) ?_
            · go_simp
            refine wpAnyHI_takeE (i := 16) (v := .int .i64 ((i + 1 : Nat) : Int)) (some 43) rfl rfl (by kernel_rfl) (by kernel_rfl) (by kernel_rfl) (by kernel_rfl) (by kernel_rfl) (fun _ _ _ h => h) hS4 (.inl ⟨by kernel_rfl, fun W' hS' => ?_⟩) ?_
            · go_simp
            refine wpAnyHI_takeE (i := 17) (v := .int .i64 (i : Int)) (some 44) rfl rfl (by kernel_rfl) (by kernel_rfl) (by kernel_rfl) (by kernel_rfl) (by kernel_rfl) (fun _ _ _ h => h) hS4 (.inl ⟨by kernel_rfl, fun W' hS' => ?_⟩) ?_
            · go_simp
            refine wpAnyHI_takeE (i := 18) (v := .pointer (some ⟨b1, o1 + i, none⟩)) (some 45) rfl rfl (by kernel_rfl) (by kernel_rfl) (by kernel_rfl) (by kernel_rfl) (by kernel_rfl) (fun _ _ _ h => h) hS4 (.inl ⟨by kernel_rfl, fun W' hS' => ?_⟩) ?_
            · go_simp
            refine wpAnyHI_takeE (i := 19) (v := .int .i64 pi) (some 46) rfl rfl (by kernel_rfl) (by kernel_rfl) (by kernel_rfl) (by kernel_rfl) (by kernel_rfl) (fun _ _ _ h => h) hS4 (.inl ⟨by kernel_rfl, fun W' hS' => ?_⟩) ?_
            · have q := hcelli W' hS'; go_simp
            refine wpAnyHI_takeE (i := 20) (v := .bool false) (some 47) rfl rfl (by kernel_rfl) (by kernel_rfl) (by kernel_rfl) (by kernel_rfl) (by kernel_rfl) (fun _ _ _ h => h) hS4 (.inl ⟨by kernel_rfl, fun W' hS' => ?_⟩) ?_
            · go_simp
            refine wpAnyHI_takeE (i := 21) (v := .bool false) (some 48) rfl rfl (by kernel_rfl) (by kernel_rfl) (by kernel_rfl) (by kernel_rfl) (by kernel_rfl) (fun _ _ _ h => h) hS4 (.inl ⟨by kernel_rfl, fun W' hS' => ?_⟩) ?_
            · go_simp
            refine wpAnyHI_takeE (i := 22) (v := .bool false) (some 49) rfl rfl (by kernel_rfl) (by kernel_rfl) (by kernel_rfl) (by kernel_rfl) (by kernel_rfl) (fun _ _ _ h => h) hS4 (.inl ⟨by kernel_rfl, fun W' hS' => ?_⟩) ?_
            · go_simp
            refine wpAnyHI_end (by kernel_rfl) ?_
            show KR _ _
            refine act_eq (K := KR) (a' := { tmps := #[.agg #[.slice A1 n c], .slice A2 m d, .slice (some ⟨b1, o1, none⟩) k f, .int .i64 visit, .pointer (some ⟨w.heap.size, 0, none⟩), undef, undef, undef, u8, u9, u10, .int .i64 ((i + 1 : Nat) : Int), undef, undef, .agg #[.slice A1 n c], .slice A2 m d, .int .i64 0, .bool false, undef, undef, undef, .int .i64 ((i + 1 : Nat) : Int), .slice (some ⟨b1, o1, none⟩) k f, .int .i64 (k : Int), .bool true, u25, u26, .agg #[.slice A1 n c], .slice (some ⟨b1, o1, none⟩) k f, .int .i64 ((i + 1 : Nat) : Int), .pointer (some ⟨b1, o1 + (i + 1), none⟩), .int .i64 pj, .bool true, .bool false, .bool false, .int .i64 ((i + 1 : Nat) : Int), .bool true, .bool true, .slice (some ⟨b1, o1, none⟩) k f, .int .i64 ((i + 1 : Nat) : Int), .pointer (some ⟨b1, o1 + (i + 1), none⟩), .int .i64 pj, .slice (some ⟨b1, o1, none⟩) k f, .int .i64 ((i + 1 : Nat) : Int), .int .i64 (i : Int), .pointer (some ⟨b1, o1 + i, none⟩), .int .i64 pi, .bool false, .bool false, .bool false, undef, undef, undef, undef, undef, undef, undef, undef, undef, undef, undef, undef, undef, undef, undef, undef, undef, undef, undef, undef], defers := [] }) (by kernel_rfl) ?_
            refine hKR _ _ ?_
            go_wp2_with (fail)
            go_roundg (k - ((i + 1) + 1))
            case rel =>
              refine ⟨(i + 1) + 1, ⟨by omega, by omega, by simp⟩, ⟨bxBelow y0 (((below_drew wr)).trans hS4) y0.lt, hB4⟩, fun t ht => ?_⟩
              rcases Nat.lt_succ_iff_lt_or_eq.1 ht with h | rfl
              · exact Hall.out t h
              · exact ⟨by rw [← Hj.out]; exact Hq.out, fun h0 => by simp only [Nat.add_sub_cancel]; rw [← Hi.out, ← Hj.out]; have := Hle.out; omega⟩
            case measure => omega
    · have hjk' : ¬ (j : Int) < (k : Int) := by omega
      have hinc : incrF pulls = true := incrF_true fun t h1 ht => (Hall.out t (by have := Hn.out.2.2; omega)).2 (by omega)
      have hwins : winsF n pulls = true := by
        unfold winsF
        exact all_true_at fun t ht => (Hall.out t (by have := Hn.out.2.2; omega)).1
      have Hw := Lib.hid (And.intro hinc hwins)
      clear hinc hwins
      cases hq : isWinF n visit
      · have Hq := Lib.hid hq
        clear hq
        have Hbad := Lib.hid (show rturnR ts ss pulls visit = ([], 0, 2) from by rw [Hv.out.1, if_pos (.inr (.inr Hq.out))])
        go_wp2_with (fail)
        refine (isWindow_any _ A1 n c visit).mono ?_
        rintro e w4 ⟨rfl, rfl⟩
        rw [Hq.out]
        go_wp2_with (fail)
        refine bodyPost_ret (v := .tuple #[.slice none 0 0, .int .i64 0, .int .i64 2]) (rTurn_results _ _ _ _ _ (by simp) (by simp) (by simp)) rfl ?_
        exact TurnPost.none Hbad.out (hB.alloc (by omega) _)
      · have Hq := Lib.hid hq
        have hvis : 0 ≤ visit ∧ visit < n := by simpa [isWinF] using hq
        obtain ⟨v, rfl⟩ : ∃ v : Nat, visit = (v : Int) := ⟨visit.toNat, by omega⟩
        have hvn : v < n := by omega
        clear hq hvis
        have hcf := Hv.out.1
        rw [if_neg (by rw [Hw.out.1, Hw.out.2, Hq.out]; simp)] at hcf
        have Hcf := Lib.hid hcf
        clear hcf
        go_wp2_with (fail)
        refine (isWindow_any _ A1 n c (v : Int)).mono ?_
        rintro e w4 ⟨rfl, rfl⟩
        rw [Hq.out]
        obtain ⟨w5, hw5⟩ : ∃ w5, w5 = wr.alloc (.cells #[.slice A1 n c] 24) := ⟨_, rfl⟩
        have hB5 : Below w.heap.size w w5 := by rw [hw5]; exact hB.alloc (by omega) _
        have y5 : Boxed w5 w.heap.size 24 (.slice A1 n c) := by rw [hw5]; exact y0.alloc _
        rw [← hw5]
        clear hw5
        have c5 := y5.cell
        have hz5 := hB5.size
        have hmn : m = n := by have := Hn.out; have := Hv.out.2.2.1; omega
        subst hmn
        go_wp2_with (fail)
        refine (Pulled_any w5 B1 B2 B3 A1 A2 A3 m c d k f ts ss pulls (h1.below hB5 hB1) (by omega) (h2.below hB5 hB2) (by omega) (h3.below hB5 hB3) (by omega) (by omega) (by have := Hv.out.2.1.h5; have := Hn.out.1; omega) hk6 ?_ (stated_bounds Hv.out.2.2.2)).mono ?_
        · intro p hp
          have := (List.all_eq_true.1 Hw.out.2) p hp
          simpa [isWinF] using this
        intro e w6 hp
        obtain ⟨v6, ok, rfl, hb6, hcase⟩ := pulled_form hp
        clear hp
        have hB6 : Below w.heap.size w w6 := hB5.trans (hb6.mono hB5.size)
        have hz6 := hB6.size
        rcases hcase with ⟨rfl, ys, hys, hrow⟩ | ⟨rfl, hnone⟩
        · obtain ⟨g6, cap6, rfl⟩ := ownsRow_pos hrow (by omega)
          have hi6 := row_ints hrow (by have := Hv.out.2.1.h5; have := Hn.out.1; omega)
          have hyl : ys.length = m := hi6.len
          have hc6 := row_cell hrow hvn
          have hg6 : g6 < w6.heap.size := by
            obtain ⟨b, o, he, hb, -⟩ := hi6.cell hvn
            cases he
            exact hb
          have hcell6 : ∀ W, Below w6.heap.size w6.drew W → W.cell? ⟨g6, v, none⟩ = some (.int .i64 (ys[v]?.getD 0)) := fun W hb => (hb.cell (p := ⟨g6, v, none⟩) hg6).trans hc6
          have Hy := Lib.hid (And.intro hys (And.intro hrow (And.intro hi6 hyl)))
          clear hys hrow hi6 hyl hc6
          go_wp2_with (fail)
          refine region_held_wp 1 (fun W' => Below w6.heap.size w6.drew W') (fun _ => true) (by kernel_rfl) ?_
          intro KR hKR
          have hS : Below w6.heap.size w6.drew w6.drew := Below.refl _ _
          refine wpAnyHI_takeE (i := 0) (v := .slice (some ⟨g6, 0, none⟩) m cap6) (some 63) rfl rfl (by kernel_rfl) (by kernel_rfl) (by kernel_rfl) (by kernel_rfl) (by kernel_rfl) (fun _ _ _ h => h) hS (.inl ⟨by kernel_rfl, fun W' hS' => ?_⟩) ?_
          · go_simp
          refine wpAnyHI_takeE (i := 1) (v := .int .i64 (v : Int)) (some 64) rfl rfl (by kernel_rfl) (by kernel_rfl) (by kernel_rfl) (by kernel_rfl) (by kernel_rfl) (fun _ _ _ h => h) hS (.inl ⟨by kernel_rfl, fun W' hS' => ?_⟩) ?_
          · go_simp
          refine wpAnyHI_takeE (i := 3) (v := .slice (some ⟨g6, 0, none⟩) m cap6) (some 66) rfl rfl (by kernel_rfl) (by kernel_rfl) (by kernel_rfl) (by kernel_rfl) (by kernel_rfl) (fun _ _ _ h => h) hS (.inl ⟨by kernel_rfl, fun W' hS' => ?_⟩) ?_
          · go_simp
          refine wpAnyHI_takeE (i := 4) (v := .int .i64 (v : Int)) (some 67) rfl rfl (by kernel_rfl) (by kernel_rfl) (by kernel_rfl) (by kernel_rfl) (by kernel_rfl) (fun _ _ _ h => h) hS (.inl ⟨by kernel_rfl, fun W' hS' => ?_⟩) ?_
          · go_simp
          refine wpAnyHI_takeE (i := 5) (v := .pointer (some ⟨g6, v, none⟩)) (some 68) rfl rfl (by kernel_rfl) (by kernel_rfl) (by kernel_rfl) (by kernel_rfl) (by kernel_rfl) (fun _ _ _ h => h) hS (.inl ⟨by kernel_rfl, fun W' hS' => ?_⟩) ?_
          · go_simp
          refine wpAnyHI_takeE (i := 6) (v := .int .i64 (ys[v]?.getD 0)) (some 69) rfl rfl (by kernel_rfl) (by kernel_rfl) (by kernel_rfl) (by kernel_rfl) (by kernel_rfl) (fun _ _ _ h => h) hS (.inl ⟨by kernel_rfl, fun W' hS' => ?_⟩) ?_
          · have q := hcell6 W' hS'; go_simp
          refine wpAnyHI_one (i := 2) rfl (by kernel_rfl) ?_
          intro K1 hK1
          go_simp
          refine ⟨trivial, (callsIn_wide.2 (Visited_any w6.drew w6.heap.size (some ⟨g6, 0, none⟩) m cap6 ys (Hy.out.2.2.1.below (below_drew w6) (Nat.le_refl _)) (Nat.le_refl _) v hvn (by have := Hv.out.2.1.h5; have := Hn.out.1; omega))).mono ?_⟩
          rintro e w7 ⟨v7, rfl, hrow7, hb7⟩
          have hS7 : Below w6.heap.size w6.drew w7 := hb7
          have hB7 : Below w.heap.size w w7 := hB6.trans ((below_drew w6).trans hb7 |>.mono hz6)
          have Hr7 := Lib.hid hrow7
          clear hrow7
          refine hK1 _ _ ⟨fun _ => hS7, ?_⟩
          clear hK1 K1
          refine wpAnyHI_takeE (i := 7) (v := v7) (some 8) rfl rfl (by kernel_rfl) (by kernel_rfl) (by kernel_rfl) (by kernel_rfl) (by kernel_rfl) (fun _ _ _ h => h) hS7 (.inl ⟨by kernel_rfl, fun W' hS' => ?_⟩) ?_
          · go_simp
          refine wpAnyHI_takeE (i := 8) (v := .int .i64 (ys[v]?.getD 0)) (some 9) rfl rfl (by kernel_rfl) (by kernel_rfl) (by kernel_rfl) (by kernel_rfl) (by kernel_rfl) (fun _ _ _ h => h) hS7 (.inl ⟨by kernel_rfl, fun W' hS' => ?_⟩) ?_
          · go_simp
          refine wpAnyHI_takeE (i := 9) (v := .int .i64 0) (some 10) rfl rfl (by kernel_rfl) (by kernel_rfl) (by kernel_rfl) (by kernel_rfl) (by kernel_rfl) (fun _ _ _ h => h) hS7 (.inl ⟨by kernel_rfl, fun W' hS' => ?_⟩) ?_
          · go_simp
          refine wpAnyHI_end (by kernel_rfl) ?_
          show KR _ _
          refine act_eq (K := KR) (a' := { tmps := #[.agg #[.slice A1 m c], .slice A2 m d, .slice A3 k f, .int .i64 (v : Int), .pointer (some ⟨w.heap.size, 0, none⟩), undef, undef, undef, v7, .int .i64 (ys[v]?.getD 0), .int .i64 0, .int .i64 (j : Int), .slice (some ⟨g6, 0, none⟩) m cap6, .bool true, .agg #[.slice A1 m c], .slice A2 m d, .int .i64 0, .bool false, undef, undef, undef, .int .i64 (j : Int), .slice A3 k f, .int .i64 (k : Int), .bool false, u25, u26, u27, u28, u29, u30, u31, u32, u33, u34, u35, u36, u37, u38, u39, u40, u41, u42, u43, u44, u45, u46, u47, u48, u49, .agg #[.slice A1 m c], .int .i64 (v : Int), .bool true, .bool false, .tuple #[.slice (some ⟨g6, 0, none⟩) m cap6, .bool true], .agg #[.slice A1 m c], .slice A2 m d, .slice A3 k f, .tuple #[.slice (some ⟨g6, 0, none⟩) m cap6, .bool true], .slice (some ⟨g6, 0, none⟩) m cap6, .bool true, .bool true, .bool false, .slice (some ⟨g6, 0, none⟩) m cap6, .int .i64 (v : Int), v7, .slice (some ⟨g6, 0, none⟩) m cap6, .int .i64 (v : Int), .pointer (some ⟨g6, v, none⟩), .int .i64 (ys[v]?.getD 0)], defers := [] }) (by kernel_rfl) ?_
          refine hKR _ _ ?_
          clear hKR KR
          go_wp2_with (fail)
          refine bodyPost_ret (v := .tuple #[v7, .int .i64 (ys[v]?.getD 0), .int .i64 0]) (rTurn_results _ _ _ _ _ (by simp) (by simp) (by simp)) rfl ?_
          have hfin : rturnR ts ss pulls (v : Int) = (ys.set v 0, ys[v]?.getD 0, 0) := by rw [Hcf.out, Hy.out.1]; rfl
          rw [hfin]
          exact ⟨v7, rfl, ListAt.of_row (by rw [List.length_set, Hy.out.2.2.2]; exact Hr7.out) (by rw [List.length_set, Hy.out.2.2.2]; have := Hv.out.2.1.h5; have := Hn.out.1; omega), hB7⟩
        · have Hno := Lib.hid hnone
          clear hnone
          have Hbad := Lib.hid (show rturnR ts ss pulls (v : Int) = ([], 0, 17) from by rw [Hcf.out, Hno.out])
          go_wp2_with (fail)
          refine bodyPost_ret (v := .tuple #[.slice none 0 0, .int .i64 0, .int .i64 17]) (rTurn_results _ _ _ _ _ (by simp) (by simp) (by simp)) rfl ?_
          exact TurnPost.none Hbad.out hB6
end Go.Proofs.YthmojkpmlpilgaaGreat

/- TurnHalls: the walk. -/
namespace Go.Proofs.YthmojkpmlpilgaaGreat
open Go.RowKit Go.Shelf

attribute [local go_sem] Oper.semAt_some

theorem great_any (w : World) (A : Option Addr) (n c : Nat) :
    Calls Tryz.prog 5 #[.agg #[.slice A n c]] w fun e w' => e = .returned (.bool (decide (10 < (n : Int)))) ∧ w' = w.alloc (.cells #[.slice A n c] 24) := by
  go_enter Tryz.func5, Tryz.ntmps5
  go_wp2
  go_ret
  exact ⟨rfl, rfl⟩

theorem TurnHalls_any (w : World) (B1 B2 B3 : Nat) (A1 A2 A3 : Option Addr) (n c m d k f : Nat) (ts ss pulls : List Int) (visit : Int) (h1 : IntsAt w B1 A1 n ts) (hB1 : B1 ≤ w.heap.size) (h2 : IntsAt w B2 A2 m ss) (hB2 : B2 ≤ w.heap.size) (h3 : IntsAt w B3 A3 k pulls) (hB3 : B3 ≤ w.heap.size) :
    Calls Tryz.prog 3 #[.agg #[.slice A1 n c], .slice A2 m d, .slice A3 k f, .int .i64 visit] w fun e w' => e = .returned (.bool true) ∧ Below w.heap.size w w' := by
  have hb0 : Below w.heap.size w ((w.alloc (.cells #[.slice A1 n c] 24)).alloc (.cells #[.slice A1 n c] 24)) := ((Below.refl _ w).alloc (Nat.le_refl _) _).alloc (by simp) _
  have x0 := (Boxed.new w 24 (.slice A1 n c)).alloc (.cells #[.slice A1 n c] 24)
  have c0 := x0.cell
  go_enter Tryz.func3, Tryz.ntmps3
  go_wp2_with (fail)
  refine (great_any _ A1 n c).mono ?_
  rintro e w2 ⟨rfl, rfl⟩
  by_cases hn : 10 < (n : Int)
  · rw [decide_eq_true hn]
    have Hn := Lib.hid hn
    clear hn
    go_wp2_with (fail)
    refine (Works_any _).mono ?_
    rintro e w3 ⟨rfl, hb⟩
    go_wp2_with (fail)
    go_ret
    exact ⟨rfl, hb0.trans (hb.mono hb0.size)⟩
  rw [decide_eq_false hn]
  clear hn
  by_cases hm : 20 < (m : Int)
  · go_wp2_with (fail)
    refine (Works_any _).mono ?_
    rintro e w3 ⟨rfl, hb⟩
    go_wp2_with (fail)
    go_ret
    exact ⟨rfl, hb0.trans (hb.mono hb0.size)⟩
  by_cases hk : 20 < (k : Int)
  · go_wp2_with (fail)
    refine (Works_any _).mono ?_
    rintro e w3 ⟨rfl, hb⟩
    go_wp2_with (fail)
    go_ret
    exact ⟨rfl, hb0.trans (hb.mono hb0.size)⟩
  obtain ⟨w2, hw2⟩ : ∃ w2, w2 = (w.alloc (.cells #[.slice A1 n c] 24)).alloc (.cells #[.slice A1 n c] 24) := ⟨_, rfl⟩
  rw [← hw2] at hb0 x0 c0 ⊢
  clear hw2
  have hz := hb0.size
  have hk6 : k ≤ 1000000 := by omega
  go_wp2_with (fail)
  refine (Turn_any w2 B1 B2 B3 A1 A2 A3 n c m d k f ts ss pulls visit (h1.below hb0 hB1) (by omega) (h2.below hb0 hB2) (by omega) (h3.below hb0 hB3) (by omega)).mono ?_
  rintro e w3 ⟨v3, rfl, hl3, hb3⟩
  have hB3' := hb0.trans (hb3.mono hz)
  have x3 := bxBelow x0 hb3 x0.lt
  have c3 := x3.cell
  obtain ⟨r, hr⟩ : ∃ r, r = turnR ts ss pulls visit := ⟨_, rfl⟩
  have hr2 := hr.trans (turn_same ts ss pulls visit)
  rw [← hr] at hl3 ⊢
  obtain ⟨l, y, z⟩ := r
  have Hr := Lib.hid hr2
  clear hr hr2
  obtain ⟨A4, m4, c4, rfl, h4⟩ := hl3
  simp only at h4
  clear hb0 hb3 c0 x0
  go_wp2_with (fail)
  refine (rTurn_any w3 B1 B2 B3 A1 A2 A3 n c m d k f ts ss pulls visit (h1.below hB3' hB1) (by have := hB3'.size; omega) (h2.below hB3' hB2) (by have := hB3'.size; omega) (h3.below hB3' hB3) (by have := hB3'.size; omega) hk6).mono ?_
  rintro e w4 ⟨v5, rfl, hl5, hb4⟩
  rw [← Hr.out] at hl5 ⊢
  obtain ⟨A5, m5, c5, rfl, h5⟩ := hl5
  simp only at h5
  have hB4 := hB3'.trans (hb4.mono hB3'.size)
  have h4' := h4.below hb4 (Nat.le_refl _)
  have x4 := bxBelow x3 hb4 x3.lt
  have c4' := x4.cell
  have hz4 := hB4.size
  have hcell : ∀ W, Below w4.heap.size w4.drew W → W.cell? ⟨w.heap.size, 0, none⟩ = some (.slice A1 n c) := fun W hb => (hb.cell (p := ⟨w.heap.size, 0, none⟩) x4.lt).trans c4'
  have hBd : Below w.heap.size w w4.drew := hB4.trans ((below_drew w4).mono hz4)
  have H4 := Lib.hid (And.intro h4 (And.intro h4' h5))
  clear h4 h4' h5 hB3' c3 x3
  go_wp2_with (fail)
  refine region_held_wp 1 (fun W' => Below w4.heap.size w4.drew W') (fun _ => true) (by kernel_rfl) ?_
  intro KR hKR
  have hS : Below w4.heap.size w4.drew w4.drew := Below.refl _ _
  refine wpAnyHI_takeE (i := 0) (v := .agg #[.slice A1 n c]) (some 46) rfl rfl (by kernel_rfl) (by kernel_rfl) (by kernel_rfl) (by kernel_rfl) (by kernel_rfl) (fun _ _ _ h => h) hS (.inl ⟨by kernel_rfl, fun W' hS' => ?_⟩) ?_
  · have q := hcell W' hS'; go_simp
  refine wpAnyHI_takeE (i := 2) (v := .agg #[.slice A1 n c]) (some 48) rfl rfl (by kernel_rfl) (by kernel_rfl) (by kernel_rfl) (by kernel_rfl) (by kernel_rfl) (fun _ _ _ h => h) hS (.inl ⟨by kernel_rfl, fun W' hS' => ?_⟩) ?_
  · have q := hcell W' hS'; go_simp
  refine wpAnyHI_one (i := 1) rfl (by kernel_rfl) ?_
  intro K1 hK1
  go_simp
  refine ⟨trivial, (callsIn_wide.2 (checkHall_any w4.drew B1 A1 n c ts (h1.below hBd hB1) (by have := hBd.size; omega))).mono ?_⟩
  rintro e w5 ⟨rfl, hb5⟩
  have hS5 : Below w4.heap.size w4.drew w5 := hb5
  have hB5 : Below w.heap.size w w5 := hBd.trans (hb5.mono hz4)
  refine hK1 _ _ ⟨fun _ => hS5, ?_⟩
  clear hK1 K1
  refine wpAnyHI_one (i := 3) rfl (by kernel_rfl) ?_
  intro K1 hK1
  go_simp
  refine ⟨trivial, (callsIn_wide.2 (rcheckHall_any w5 B1 A1 n c ts (h1.below hB5 hB1) (by have := hB5.size; omega))).mono ?_⟩
  rintro e w6 ⟨rfl, hb6⟩
  have hS6 : Below w4.heap.size w4.drew w6 := hS5.trans (hb6.mono hS5.size)
  have hB6 : Below w.heap.size w w6 := hB5.trans (hb6.mono hB5.size)
  refine hK1 _ _ ⟨fun _ => hS6, ?_⟩
  clear hK1 K1
  obtain ⟨ch, hch⟩ : ∃ ch, ch = checkHallF ts := ⟨_, rfl⟩
  rw [← hch]
  clear hch
  refine wpAnyHI_takeE (i := 4) (v := .bool true) (some 50) rfl rfl (by kernel_rfl) (by kernel_rfl) (by kernel_rfl) (by kernel_rfl) (by kernel_rfl) (fun _ _ _ h => h) hS6 (.inl ⟨by kernel_rfl, fun W' hS' => ?_⟩) ?_
  · go_simp
  refine wpAnyHI_takeE (i := 5) (v := .bool true) (some 51) rfl rfl (by kernel_rfl) (by kernel_rfl) (by kernel_rfl) (by kernel_rfl) (by kernel_rfl) (fun _ _ _ h => h) hS6 (.inl ⟨by kernel_rfl, fun W' hS' => ?_⟩) ?_
  · go_simp
  refine wpAnyHI_takeE (i := 6) (v := .slice A4 m4 c4) (some 52) rfl rfl (by kernel_rfl) (by kernel_rfl) (by kernel_rfl) (by kernel_rfl) (by kernel_rfl) (fun _ _ _ h => h) hS6 (.inl ⟨by kernel_rfl, fun W' hS' => ?_⟩) ?_
  · go_simp
  refine wpAnyHI_takeE (i := 7) (v := .slice A5 m5 c5) (some 53) rfl rfl (by kernel_rfl) (by kernel_rfl) (by kernel_rfl) (by kernel_rfl) (by kernel_rfl) (fun _ _ _ h => h) hS6 (.inl ⟨by kernel_rfl, fun W' hS' => ?_⟩) ?_
  · go_simp
  refine wpAnyHI_one (i := 8) rfl (by kernel_rfl) ?_
  intro K1 hK1
  go_simp
  refine ⟨trivial, (callsIn_wide.2 (ints_any w6 _ _ A4 A5 m4 m5 c4 c5 l l ((H4.out.2.1.more hb4.size).below ((below_drew w4).trans hS6) (Nat.le_refl _)) (H4.out.2.2.below ((below_drew w4).trans hS6) (Nat.le_refl _)))).mono ?_⟩
  rintro e w7 ⟨rfl, q7, rfl⟩
  have hS7 : Below w4.heap.size w4.drew (w6.drewN q7) := hS6.trans ⟨rfl, rfl, rfl, Nat.le_refl _, fun _ _ => rfl⟩
  have hB7 : Below w.heap.size w (w6.drewN q7) := hB6.trans ⟨rfl, rfl, rfl, Nat.le_refl _, fun _ _ => rfl⟩
  refine hK1 _ _ ⟨fun _ => hS7, ?_⟩
  clear hK1 K1
  rw [decide_eq_true (rfl : l = l)]
  refine wpAnyHI_takeE (i := 9) (v := .bool true) (some 55) rfl rfl (by kernel_rfl) (by kernel_rfl) (by kernel_rfl) (by kernel_rfl) (by kernel_rfl) (fun _ _ _ h => h) hS7 (.inl ⟨by kernel_rfl, fun W' hS' => ?_⟩) ?_
  · go_simp
  refine wpAnyHI_takeE (i := 10) (v := .bool true) (some 56) rfl rfl (by kernel_rfl) (by kernel_rfl) (by kernel_rfl) (by kernel_rfl) (by kernel_rfl) (fun _ _ _ h => h) hS7 (.inl ⟨by kernel_rfl, fun W' hS' => ?_⟩) ?_
  · go_simp
  refine wpAnyHI_takeE (i := 11) (v := .int .i64 y) (some 57) rfl rfl (by kernel_rfl) (by kernel_rfl) (by kernel_rfl) (by kernel_rfl) (by kernel_rfl) (fun _ _ _ h => h) hS7 (.inl ⟨by kernel_rfl, fun W' hS' => ?_⟩) ?_
  · go_simp
  refine wpAnyHI_takeE (i := 12) (v := .int .i64 y) (some 58) rfl rfl (by kernel_rfl) (by kernel_rfl) (by kernel_rfl) (by kernel_rfl) (by kernel_rfl) (fun _ _ _ h => h) hS7 (.inl ⟨by kernel_rfl, fun W' hS' => ?_⟩) ?_
  · go_simp
  refine wpAnyHI_takeE (i := 13) (v := .bool true) (some 59) rfl rfl (by kernel_rfl) (by kernel_rfl) (by kernel_rfl) (by kernel_rfl) (by kernel_rfl) (fun _ _ _ h => h) hS7 (.inl ⟨by kernel_rfl, fun W' hS' => ?_⟩) ?_
  · go_simp
  refine wpAnyHI_takeE (i := 14) (v := .bool true) (some 60) rfl rfl (by kernel_rfl) (by kernel_rfl) (by kernel_rfl) (by kernel_rfl) (by kernel_rfl) (fun _ _ _ h => h) hS7 (.inl ⟨by kernel_rfl, fun W' hS' => ?_⟩) ?_
  · go_simp
  refine wpAnyHI_takeE (i := 15) (v := .bool true) (some 61) rfl rfl (by kernel_rfl) (by kernel_rfl) (by kernel_rfl) (by kernel_rfl) (by kernel_rfl) (fun _ _ _ h => h) hS7 (.inl ⟨by kernel_rfl, fun W' hS' => ?_⟩) ?_
  · go_simp
  refine wpAnyHI_takeE (i := 16) (v := .int .i64 z) (some 62) rfl rfl (by kernel_rfl) (by kernel_rfl) (by kernel_rfl) (by kernel_rfl) (by kernel_rfl) (fun _ _ _ h => h) hS7 (.inl ⟨by kernel_rfl, fun W' hS' => ?_⟩) ?_
  · go_simp
  refine wpAnyHI_takeE (i := 17) (v := .int .i64 z) (some 63) rfl rfl (by kernel_rfl) (by kernel_rfl) (by kernel_rfl) (by kernel_rfl) (by kernel_rfl) (fun _ _ _ h => h) hS7 (.inl ⟨by kernel_rfl, fun W' hS' => ?_⟩) ?_
  · go_simp
  refine wpAnyHI_takeE (i := 18) (v := .bool true) (some 64) rfl rfl (by kernel_rfl) (by kernel_rfl) (by kernel_rfl) (by kernel_rfl) (by kernel_rfl) (fun _ _ _ h => h) hS7 (.inl ⟨by kernel_rfl, fun W' hS' => ?_⟩) ?_
  · go_simp
  refine wpAnyHI_takeE (i := 19) (v := .bool true) (some 65) rfl rfl (by kernel_rfl) (by kernel_rfl) (by kernel_rfl) (by kernel_rfl) (by kernel_rfl) (fun _ _ _ h => h) hS7 (.inl ⟨by kernel_rfl, fun W' hS' => ?_⟩) ?_
  · go_simp
  refine wpAnyHI_takeE (i := 20) (v := .bool true) (some 66) rfl rfl (by kernel_rfl) (by kernel_rfl) (by kernel_rfl) (by kernel_rfl) (by kernel_rfl) (fun _ _ _ h => h) hS7 (.inl ⟨by kernel_rfl, fun W' hS' => ?_⟩) ?_
  · go_simp
  refine wpAnyHI_one (i := 21) rfl (by kernel_rfl) ?_
  intro K1 hK1
  go_simp
  refine ⟨trivial, (callsIn_wide.2 (Works_any _)).mono ?_⟩
  rintro e w8 ⟨rfl, hb8⟩
  have hS8 : Below w4.heap.size w4.drew w8 := hS7.trans (hb8.mono hS7.size)
  have hB8 : Below w.heap.size w w8 := hB7.trans (hb8.mono hB7.size)
  refine hK1 _ _ ⟨fun _ => hS8, ?_⟩
  clear hK1 K1
  refine wpAnyHI_takeE (i := 22) (v := .bool true) (some 68) rfl rfl (by kernel_rfl) (by kernel_rfl) (by kernel_rfl) (by kernel_rfl) (by kernel_rfl) (fun _ _ _ h => h) hS8 (.inl ⟨by kernel_rfl, fun W' hS' => ?_⟩) ?_
  · go_simp
  refine wpAnyHI_takeE (i := 23) (v := .bool true) (some 8) rfl rfl (by kernel_rfl) (by kernel_rfl) (by kernel_rfl) (by kernel_rfl) (by kernel_rfl) (fun _ _ _ h => h) hS8 (.inl ⟨by kernel_rfl, fun W' hS' => ?_⟩) ?_
  · go_simp
  refine wpAnyHI_end (by kernel_rfl) ?_
  show KR _ _
  refine hKR _ _ ?_
  clear hKR KR
  go_wp2_with (fail)
  go_ret
  exact ⟨rfl, hB8⟩
end Go.Proofs.YthmojkpmlpilgaaGreat
