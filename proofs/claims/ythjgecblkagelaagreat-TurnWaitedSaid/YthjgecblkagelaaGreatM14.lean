/- Parts of a proof: AQ AR AS. -/
import Derived.Test.YthjgecblkagelaaGreatM13
import Derived.Deep.LoopGhost

/- References: Pulled. -/
namespace Go.Proofs.YthjgecblkagelaaGreat
open Go.RowKit Go.Shelf

attribute [local go_sem] Oper.semAt_some

def rpullStep (ts : List Int) (o : Option (List Int)) (p : Int) : Option (List Int) := match o with
  | none => none
  | some ys => if ts[p.toNat]?.getD 0 < ys[p.toNat]?.getD 0 + 1 then none else some (ys.set p.toNat (ys[p.toNat]?.getD 0 + 1))
def rpullF (ts xs pulls : List Int) : Option (List Int) := pulls.foldl (rpullStep ts) (some xs)
theorem rpull_none (ts pulls : List Int) : pulls.foldl (rpullStep ts) none = none := by
  induction pulls with
  | nil => rfl
  | cons x xs ih => exact ih
theorem rpullF_take {ts xs pulls : List Int} {k : Nat} (hk : k < pulls.length) : rpullF ts xs (pulls.take (k + 1)) = rpullStep ts (rpullF ts xs (pulls.take k)) (pulls[k]?.getD 0) := by
  unfold rpullF
  rw [List.take_succ_eq_append_getElem hk, List.getElem?_eq_getElem hk, List.foldl_append]
  rfl
theorem rpullF_stop {ts xs pulls : List Int} {k : Nat} (h : rpullF ts xs (pulls.take k) = none) : rpullF ts xs pulls = none := by
  have e : pulls = pulls.take k ++ pulls.drop k := (List.take_append_drop k pulls).symm
  rw [e]
  unfold rpullF at *
  rw [List.foldl_append, h]
  exact rpull_none ts _
def PulledPost (w : World) (n : Nat) (o : Option (List Int)) (e : Ending) (w' : World) : Prop := Below w.heap.size w w' ∧ ((∃ ys v, o = some ys ∧ e = .returned (.tuple #[v, .bool true]) ∧ w'.ownsRow w.heap.size 3 1 v n (ys.map (.int .i64))) ∨ (o = none ∧ e = .returned (.tuple #[.slice none 0 0, .bool false])))
theorem Pulled_results (W : World) (tmps : Array Value) (x y : Value) (t2 : tmps.getD 6 undef = x) (t3 : tmps.getD 7 undef = y) : (results Tryz.f39 tmps).run Tryz.prog W = .ok (.tuple #[x, y]) W := by
  simp only [Array.getD_eq_getD_getElem?] at t2 t3
  simp [results, Tryz.results39, go_sem, t2, t3]

set_option maxRecDepth 100000 in
set_option maxHeartbeats 4000000 in
theorem Pulled_any (w : World) (B1 B2 B3 : Nat) (A1 A2 A3 : Option Addr) (n c d k f : Nat) (ts xs pulls : List Int) (h1 : IntsAt w B1 A1 n ts) (hB1 : B1 ≤ w.heap.size) (h2 : IntsAt w B2 A2 n xs) (hB2 : B2 ≤ w.heap.size) (h3 : IntsAt w B3 A3 k pulls) (hB3 : B3 ≤ w.heap.size)
    (hn : 1 ≤ n) (hn2 : n ≤ 1000000) (hk : k ≤ 1000000) (hp : ∀ p ∈ pulls, 0 ≤ p ∧ p < n) (hxs : ∀ i : Nat, -1000000 ≤ xs[i]?.getD 0 ∧ xs[i]?.getD 0 ≤ 1000000) :
    Calls Tryz.prog 39 #[.agg #[.slice A1 n c], .slice A2 n d, .slice A3 k f] w (PulledPost w n (rpullF ts xs pulls)) := by
  obtain ⟨i0, hi, hz0, hz1, hz2⟩ := info_parts infoInt
  have hb0 : Below w.heap.size w ((w.alloc (.cells #[.slice A1 n c] 24)).alloc (.cells #[] 3)) := ((Below.refl _ w).alloc (Nat.le_refl _) _).alloc (by simp) _
  have x0 := (Boxed.new w 24 (.slice A1 n c)).alloc (.cells #[] 3)
  have hr0 := World.ownsRow_made (base := w.heap.size) (e := 3) (size := 1) (w.alloc (.cells #[.slice A1 n c] 24)) #[] 0 (by simp) (by simp [maxLen]) rfl
  simp only [World.size_alloc] at hr0
  have hxV := h2.below hb0 hB2
  obtain ⟨b, rfl⟩ : ∃ b, A2 = some b := by
    obtain ⟨b, o, e, -⟩ := h2.cell (k := 0) (by omega)
    exact ⟨_, e⟩
  have hl := h2.len
  have Hp := Lib.hid (And.intro hp (And.intro hxs (And.intro h3.len (And.intro hl h1.len))))
  clear hp hxs
  have c0 := x0.cell
  go_enter Tryz.func39, Tryz.ntmps39
  go_wp2_with (at_builtin; refine wpList_append_own_at _ rfl _ _ 22 rfl w.heap.size 3 i0 (.int .i64 0) 1 8 Tryz.underlying22 hi hz0 hz1 hz2 rfl (by decide) (.slice (some ⟨w.heap.size + 1, 0, none⟩) 0 0) 0 [] rfl hr0 b n d (xs.map (.int .i64)) rfl (by simp [hl]) (ints_cells hxV) (by simp [Value.oneCell']) (by simp only [maxLen]; omega) (by omega) (by simp; omega) ?_; intro v' w1 hown' hgrow _ hat; rw [Nat.zero_add, List.nil_append] at hown'; obtain ⟨g', c', rfl⟩ := ownsRow_pos hown' hn)
  have hB1' : Below w.heap.size w w1 := hb0.trans ((Below.refl _ _).grown hgrow (by simp only [World.size_alloc]; omega) (fun r e => (hr0.lt r e).1))
  have x1 : Boxed w1 w.heap.size 24 (.slice A1 n c) := (hgrow.block _ (by simp only [World.size_alloc]; omega) (fun e => by simp [Value.ownBlock] at e)).trans x0
  have hgH : w.heap.size < g' := by
    rcases hat with h | h
    · have e : g' = w.heap.size + 1 := by simpa [Value.ownBlock] using h
      omega
    · have e : g' = w.heap.size + 1 + 1 := by simpa [Value.ownBlock] using h
      omega
  clear x0 hr0 hgrow hat hb0 c0
  go_loopg [9] k (fun gg v9 wr => ∃ (j : Nat) (ys : List Int), (j ≤ k ∧ gg = k - j ∧ v9 = .int .i64 (j : Int)) ∧ (rpullF ts xs (pulls.take j) = some ys ∧ ∀ i : Nat, -1000000 ≤ ys[i]?.getD 0 ∧ ys[i]?.getD 0 ≤ 1000000 + j) ∧
    wr.ownsRow w.heap.size 3 1 (.slice (some ⟨g', 0, none⟩) n c') n (ys.map (.int .i64)) ∧ Boxed wr w.heap.size 24 (.slice A1 n c) ∧ Below w.heap.size w wr)
  case atStart => exact ⟨0, xs, ⟨Nat.zero_le _, rfl, rfl⟩, ⟨rfl, fun i => by have := Hp.out.2.1 i; omega⟩, hown', x1, hB1'⟩
  case round =>
    clear hown' x1 hB1'
    obtain ⟨j, ys, ⟨hjk, rfl, rfl⟩, hys, hrow, hx, hB⟩ := hrel
    have c0 := hx.cell
    have hz := hx.lt
    have Hy := Lib.hid hys
    clear hys
    by_cases hj : j < k
    · obtain ⟨b3, o3, rfl, hb3, hc3⟩ := (h3.below hB hB3).cell hj
      have hpj : ∃ i : Nat, pulls[j]?.getD 0 = (i : Int) ∧ i < n := by
        have hlt : j < pulls.length := by have := Hp.out.2.2.1; omega
        have := Hp.out.1 pulls[j] (List.getElem_mem hlt)
        rw [List.getElem?_eq_getElem hlt]
        exact ⟨pulls[j].toNat, by simp; omega, by omega⟩
      obtain ⟨i, hpi, hin⟩ := hpj
      rw [hpi] at hc3
      obtain ⟨b1, o1, rfl, hb1, hc1⟩ := (h1.below hB hB1).cell hin
      have hcell := row_cell hrow hin
      have hfz := row_frozen hrow i
      have hyi := Hy.out.2 i
      have hwr : IntKind.i64.wrap (ys[i]?.getD 0 + 1) = ys[i]?.getD 0 + 1 := by rw [IntKind.wrap_i64]; omega
      obtain ⟨y, hy⟩ : ∃ y, y = ys[i]?.getD 0 := ⟨_, rfl⟩
      rw [← hy] at hcell hwr hyi
      have hrs := row_set hrow hin (.int .i64 (y + 1))
      have hcs := row_cell (xs := ys.set i (y + 1)) (by rw [List.map_set]; exact hrs) hin
      have hly : ys.length = n := by have := hrow.1; simpa using this
      have hgy : (ys.set i (y + 1))[i]?.getD 0 = y + 1 := by rw [List.getElem?_set_self (by omega)]; rfl
      rw [hgy] at hcs
      have hc1' : (wr.setCell ⟨g', i, none⟩ (.int .i64 (y + 1))).cell? ⟨b1, o1 + i, none⟩ = some (.int .i64 (ts[i]?.getD 0)) := (World.cell?_setCell_other _ _ _ _ (by intro e; have h := congrArg Addr.block e; simp at h; omega)).trans hc1
      have hc3' : (wr.setCell ⟨g', i, none⟩ (.int .i64 (y + 1))).cell? ⟨b3, o3 + j, none⟩ = some (.int .i64 (i : Int)) := (World.cell?_setCell_other _ _ _ _ (by intro e; have h := congrArg Addr.block e; simp at h; omega)).trans hc3
      have c0' : (wr.setCell ⟨g', i, none⟩ (.int .i64 (y + 1))).cell? ⟨w.heap.size, 0, none⟩ = some (.slice (some ⟨b1, o1, none⟩) n c) := (World.cell?_setCell_other _ _ _ _ (by intro e; have h := congrArg Addr.block e; simp at h; omega)).trans c0
      have hwj : IntKind.i64.wrap ((j : Int) + 1) = (j : Int) + 1 := by rw [IntKind.wrap_i64]; omega
      have hstep := rpullF_take (ts := ts) (xs := xs) (pulls := pulls) (k := j) (by have := Hp.out.2.2.1; omega)
      rw [Hy.out.1, hpi] at hstep
      have hBs : Below w.heap.size w (wr.setCell ⟨g', i, none⟩ (.int .i64 (y + 1))) := hB.setCell (by simp; omega) _
      have hxs' : Boxed (wr.setCell ⟨g', i, none⟩ (.int .i64 (y + 1))) w.heap.size 24 (.slice (some ⟨b1, o1, none⟩) n c) := bxOther hx (by omega) _ _
      obtain ⟨tt, htt⟩ : ∃ tt, tt = ts[i]?.getD 0 := ⟨_, rfl⟩
      rw [← htt] at hc1 hc1'
      have Hh := Lib.hid (And.intro hstep (And.intro hy (And.intro htt (And.intro hrs (And.intro hBs (And.intro hxs' hly))))))
      clear hstep hy htt hrs hBs hxs' hly hgy hpi
      by_cases hgt : tt < y + 1
      · have Hgt := Lib.hid hgt
        go_wp2
        go_quiet (fail)
        go_wp2
        refine bodyPost_ret (v := .tuple #[.slice none 0 0, .bool false]) (Pulled_results _ _ _ _ (by simp) (by simp)) rfl ?_
        refine ⟨Hh.out.2.2.2.2.1.trans ⟨rfl, rfl, rfl, Nat.le_refl _, fun _ _ => rfl⟩, .inr ⟨rpullF_stop (k := j + 1) ?_, rfl⟩⟩
        rw [Hh.out.1]
        unfold rpullStep
        simp only [Int.toNat_natCast]
        rw [if_pos (by have h1 := Hh.out.2.1; have h2 := Hh.out.2.2.1; have h3 := Hgt.out; omega)]
      · have Hgt := Lib.hid hgt
        have hle : y + 1 ≤ tt := by omega
        go_wp2
        go_quiet (fail)
        go_wp2
        go_roundg (k - (j + 1))
        case measure => omega
        case rel =>
          refine ⟨j + 1, ys.set i (y + 1), ⟨hj, rfl, by simp⟩, ⟨?_, fun i' => ?_⟩, by rw [List.map_set]; exact Hh.out.2.2.2.1, Hh.out.2.2.2.2.2.1, Hh.out.2.2.2.2.1.trans ⟨rfl, rfl, rfl, Nat.le_refl _, fun _ _ => rfl⟩⟩
          · rw [Hh.out.1]
            unfold rpullStep
            simp only [Int.toNat_natCast]
            rw [if_neg (by have h1 := Hh.out.2.1; have h2 := Hh.out.2.2.1; have h3 := Hgt.out; omega), ← Hh.out.2.1]
          · have h0 := Hy.out.2 i'
            by_cases hii : i = i'
            · subst hii
              rw [List.getElem?_set_self (by have := Hh.out.2.2.2.2.2.2; omega)]
              simp
              omega
            · rw [List.getElem?_set_ne hii]
              omega
    · have hjk' : j = k := by omega
      subst hjk'
      have hnj : ¬ (j : Int) < (j : Int) := by omega
      go_wp2
      refine bodyPost_ret (v := .tuple #[.slice (some ⟨g', 0, none⟩) n c', .bool true]) (Pulled_results _ _ _ _ (by simp) (by simp)) rfl ?_
      have hfull : pulls.take j = pulls := List.take_of_length_le (by have := Hp.out.2.2.1; omega)
      refine ⟨hB, .inl ⟨ys, _, by rw [← Hy.out.1, hfull], rfl, hrow⟩⟩
end Go.Proofs.YthjgecblkagelaaGreat

/- References: below; Hall, step. -/
namespace Go.Proofs.YthjgecblkagelaaGreat
open Go.RowKit Go.Shelf

attribute [local go_sem] Oper.semAt_some

def belowF (ss : List (List Int × Int)) (xs : List Int) (left : Int) : Bool := ss.any fun s => decide (s.2 < left) && leastF xs s.1
theorem belowF_true {ss : List (List Int × Int)} {xs : List Int} {left : Int} {k : Nat} {s : List Int × Int} (hk : ss[k]? = some s) (h1 : s.2 < left) (h2 : leastF xs s.1 = true) : belowF ss xs left = true := by
  unfold belowF
  rw [List.any_eq_true]
  exact ⟨s, List.mem_of_getElem? hk, by simp [h1, h2]⟩
theorem belowF_false {ss : List (List Int × Int)} {xs : List Int} {left : Int} (h : ∀ (k : Nat) (s : List Int × Int), ss[k]? = some s → ¬ (s.2 < left ∧ leastF xs s.1 = true)) : belowF ss xs left = false := by
  unfold belowF
  rw [List.any_eq_false]
  intro s hs
  obtain ⟨k, hk, rfl⟩ := List.getElem_of_mem hs
  have := h k ss[k] (List.getElem?_eq_getElem hk)
  simpa using this
theorem StepsAt.below {w w' : World} {B D : Nat} {A : Option Addr} {k : Nat} {ss : List (List Int × Int)} (h : StepsAt w B A k ss) (hb : Below D w w') (hD : B ≤ D) : StepsAt w' B A k ss := by
  refine ⟨h.1, h.2.1, fun h0 => ?_⟩
  obtain ⟨b, off, e, hB, hs⟩ := h.2.2 h0
  refine ⟨b, off, e, hB, fun j s hj => ?_⟩
  obtain ⟨A', m, c, h1, h2, h3⟩ := hs j s hj
  exact ⟨A', m, c, (hb.cell (p := ⟨b, off + j * 2, none⟩) (show b < D by omega)).trans h1, (hb.cell (p := ⟨b, off + j * 2 + 1, none⟩) (show b < D by omega)).trans h2, h3.below hb hD⟩
theorem StepsAt.drewN {w : World} {B : Nat} {A : Option Addr} {k : Nat} {ss : List (List Int × Int)} (h : StepsAt w B A k ss) (q : Nat) : StepsAt (w.drewN q) B A k ss := h

set_option maxRecDepth 100000 in
set_option maxHeartbeats 2000000 in
theorem below_any (w : World) (B B2 : Nat) (A A2 : Option Addr) (k f n d : Nat) (ss : List (List Int × Int)) (xs : List Int) (left : Int) (hs : StepsAt w B A k ss) (hx : IntsAt w B2 A2 n xs) (hlen : ∀ s ∈ ss, s.1.length = n) :
    Calls Tryz.prog 65 #[.slice A k f, .slice A2 n d, .int .i64 left] w fun e w' => e = .returned (.bool (belowF ss xs left)) ∧ ∃ q, w' = w.drewN q := by
  have hm := hs.2.1
  have Hl := Lib.hid (And.intro hs.1 hlen)
  clear hlen
  go_enter Tryz.func65, Tryz.ntmps65
  go_wp2_with (fail)
  go_loopw [7] (fun i wr => ∃ j q : Nat, j ≤ k ∧ i = .int .i64 (j : Int) ∧ wr = w.drewN q ∧ ∀ (t : Nat) (s : List Int × Int), t < j → ss[t]? = some s → ¬ (s.2 < left ∧ leastF xs s.1 = true)) (fun i _ => k - (intOf i).toNat)
  case atStart => exact ⟨0, 0, by omega, rfl, rfl, fun t s h => by omega⟩
  case round =>
    obtain ⟨j, q, hj, rfl, rfl, hall⟩ := hrel
    have Hall := Lib.hid hall
    clear hall
    by_cases hlt : j < k
    · obtain ⟨b, off, rfl, hbB, hcs⟩ := hs.2.2 (by omega)
      obtain ⟨s, hsj⟩ : ∃ s, ss[j]? = some s := ⟨_, List.getElem?_eq_getElem (by have := Hl.out.1; omega)⟩
      obtain ⟨A', m', c', h1, h2, h3⟩ := hcs j s hsj
      have hm' : m' = n := by rw [← h3.len]; exact Hl.out.2 s (List.mem_of_getElem? hsj)
      subst hm'
      have h1 : (w.drewN q).cell? ⟨b, off + j * 2, none⟩ = some (.slice A' m' c') := h1
      have h2 : (w.drewN q).cell? ⟨b, off + j * 2 + 1, none⟩ = some (.int .i64 s.2) := h2
      have Hs := Lib.hid (And.intro hsj hcs)
      clear hsj hcs
      by_cases hlf : s.2 < left
      · have Hlf := Lib.hid hlf
        go_wp2_with (fail)
        refine (least_any (w.drewN q) (max B B2) A2 A' m' d c' xs s.1 ((hx.drewN q).more (Nat.le_max_right _ _)) ((h3.drewN q).more (Nat.le_max_left _ _))).mono ?_
        rintro e w3 ⟨rfl, q2, rfl⟩
        cases hlf2 : leastF xs s.1
        · have H2 := Lib.hid hlf2
          clear hlf2
          go_wp2_with (fail)
          go_roundw
          case rel =>
            refine ⟨j + 1, _, by omega, by go_num, rfl, fun t s' ht hs' => ?_⟩
            by_cases htj : t = j
            · subst htj
              have e : s' = s := by have := Hs.out.1; rw [hs'] at this; exact Option.some.inj this
              rw [e, H2.out]
              simp
            · exact Hall.out t s' (by omega) hs'
          case measure => simp [intOf]; omega
        · have H2 := Lib.hid hlf2
          clear hlf2
          go_wp2_with (fail)
          go_ret
          exact ⟨ret_bool (belowF_true Hs.out.1 hlf H2.out).symm, _, rfl⟩
      · have Hlf := Lib.hid hlf
        go_wp2_with (fail)
        go_roundw
        case rel =>
          refine ⟨j + 1, q, by omega, by go_num, rfl, fun t s' ht hs' => ?_⟩
          by_cases htj : t = j
          · subst htj
            have e : s' = s := by have := Hs.out.1; rw [hs'] at this; exact Option.some.inj this
            rw [e]
            exact fun h => hlf h.1
          · exact Hall.out t s' (by omega) hs'
        case measure => simp [intOf]; omega
    · have hjk : ¬ (j : Int) < (k : Int) := by omega
      go_wp2_with (fail)
      go_ret
      exact ⟨ret_bool (belowF_false fun t s ht => Hall.out t s (by have := (List.getElem?_eq_some_iff.1 ht).1; have := Hl.out.1; omega) ht).symm, q, rfl⟩

set_option maxHeartbeats 1000000 in
theorem Hall_any (w : World) (A : Option Addr) (n c : Nat) :
    Calls Tryz.prog 26 #[.slice A n c] w fun e w' => e = .returned (.agg #[.slice A n c]) ∧ Below w.heap.size w w' := by
  go_enter Tryz.func26, Tryz.ntmps26
  go_wp2
  refine bodyPost_ret (v := .agg #[.slice A n c]) (by simp [results, Tryz.results26, go_sem]) rfl ⟨rfl, ?_⟩
  exact (Below.refl _ _).alloc (Nat.le_refl _) _
set_option maxHeartbeats 1000000 in
theorem step_any (w : World) (A : Option Addr) (n c : Nat) (x : Int) :
    Calls Tryz.prog 31 #[.int .i64 x, .slice A n c] w fun e w' => e = .returned (.agg #[.slice A n c, .int .i64 x]) ∧ Below w.heap.size w w' := by
  go_enter Tryz.func31, Tryz.ntmps31
  go_wp2
  refine bodyPost_ret (v := .agg #[.slice A n c, .int .i64 x]) (by simp [results, Tryz.results31, go_sem]) rfl ⟨rfl, ?_⟩
  exact (Below.refl _ _).alloc (Nat.le_refl _) _
end Go.Proofs.YthjgecblkagelaaGreat

/- References: CheckCircle. -/
namespace Go.Proofs.YthjgecblkagelaaGreat
open Go.RowKit Go.Shelf

attribute [local go_sem] Oper.semAt_some

def cirStep (row : List Int) (wd t : Int) (o : Option (Int × Bool)) (i : Nat) : Option (Int × Bool) := match o with
  | none => none
  | some s => if row[i % row.length]?.getD 0 ≠ wd then some (s.1 + 1, s.2) else if s.2 = true ∧ t < s.1 + 1 then none else some (0, true)
def cirL (row : List Int) (wd t : Int) (k : Nat) : Option (Int × Bool) := (List.range k).foldl (cirStep row wd t) (some (0, false))
theorem cirL_succ (row : List Int) (wd t : Int) (k : Nat) : cirL row wd t (k + 1) = cirStep row wd t (cirL row wd t k) k := by simp [cirL, List.range_succ]
theorem cir_none (row : List Int) (wd t : Int) (l : List Nat) : l.foldl (cirStep row wd t) none = none := by
  induction l with
  | nil => rfl
  | cons x xs ih => exact ih
theorem cirL_stop {row : List Int} {wd t : Int} {k m : Nat} (h : cirL row wd t k = none) (hk : k ≤ m) : cirL row wd t m = none := by
  induction m with
  | zero =>
    obtain rfl : k = 0 := by omega
    exact h
  | succ m ih =>
    by_cases hkm : k = m + 1
    · subst hkm; exact h
    · rw [cirL_succ, ih (by omega)]; rfl
def cirOk (row : List Int) (wd t : Int) : Bool := match cirL row wd t (2 * row.length) with | some s => s.2 | none => false
def rcheckCircleF (ts row : List Int) : Int := if checkHallF ts ≠ 0 then checkHallF ts else if row.length < 1 then 6 else if isRowF ts.length row ≠ 0 then isRowF ts.length row else if (List.range ts.length).all (fun i => cirOk row (i : Int) (ts[i]?.getD 0)) then 0 else 17

set_option maxRecDepth 100000 in
set_option maxHeartbeats 4000000 in
theorem rCheckCircle_any (w : World) (B B2 : Nat) (A A2 : Option Addr) (n c m d : Nat) (ts row : List Int) (hx : IntsAt w B A n ts) (hB : B ≤ w.heap.size) (hr : IntsAt w B2 A2 m row) (hB2 : B2 ≤ w.heap.size) :
    Calls Tryz.prog 20 #[.agg #[.slice A n c], .slice A2 m d] w fun e w' => e = .returned (.int .i64 (rcheckCircleF ts row)) ∧ Below w.heap.size w w' := by
  have hb0 : Below w.heap.size w (w.alloc (.cells #[.slice A n c] 24)) := (Below.refl _ w).alloc (Nat.le_refl _) _
  have x0 := Boxed.new w 24 (.slice A n c)
  have Hn := Lib.hid (And.intro hx.len (And.intro hr.len (And.intro hx.small hr.small)))
  go_enter Tryz.func20, Tryz.ntmps20
  go_wp2_with (fail)
  refine (rcheckHall_any _ B A n c ts (hx.below hb0 hB) (by have := hb0.size; omega)).mono ?_
  rintro e w2 ⟨rfl, hb⟩
  have hB1 := hb0.trans (hb.mono hb0.size)
  have y0 := bxBelow x0 hb x0.lt
  have c0 := y0.cell
  clear hb hb0 x0
  obtain ⟨r, hrr⟩ : ∃ r, r = checkHallF ts := ⟨_, rfl⟩
  by_cases h0 : r = 0
  · have hcf : rcheckCircleF ts row = if m < 1 then 6 else if isRowF n row ≠ 0 then isRowF n row else if (List.range n).all (fun i => cirOk row (i : Int) (ts[i]?.getD 0)) then 0 else 17 := by
      unfold rcheckCircleF
      rw [if_neg (by rw [← hrr, h0]; simp), Hn.out.1, Hn.out.2.1]
    have hv := valid_of (hrr.symm.trans h0)
    have Hv := Lib.hid (And.intro hcf hv)
    rw [← hrr, h0]
    clear hcf hv hrr h0
    have hsm := hr.small
    by_cases hm1 : m < 1
    · have hcf := Hv.out.1
      rw [if_pos hm1] at hcf
      have Hcf := Lib.hid hcf
      have hm1' : (m : Int) < 1 := by omega
      clear hcf
      go_wp2_with (fail)
      go_ret
      exact ⟨ret_int Hcf.out.symm, hB1⟩
    · have hcf := Hv.out.1
      rw [if_neg hm1] at hcf
      have hm1' : ¬ (m : Int) < 1 := by omega
      have Hcf := Lib.hid hcf
      clear hcf
      go_wp2_with (fail)
      refine (isRow_any w2 B2 A A2 n c m d row (hr.below hB1 hB2) (by have := hB1.size; omega)).mono ?_
      rintro e w3 ⟨rfl, hb⟩
      have hB3 := hB1.trans (hb.mono hB1.size)
      have z0 := bxBelow y0 hb y0.lt
      clear c0 hb y0
      have c0 := z0.cell
      obtain ⟨r2, hr2⟩ : ∃ r2, r2 = isRowF n row := ⟨_, rfl⟩
      by_cases h2 : r2 = 0
      · have hcf := Hcf.out
        rw [if_neg (by rw [← hr2, h2]; simp)] at hcf
        have hrow : row.length ≤ 1000 ∧ winsF n row = true := by
          have h := hr2.symm.trans h2
          unfold isRowF at h
          split at h
          · cases h
          · split at h
            · rename_i h3 h4; exact ⟨by omega, h4⟩
            · cases h
        have Hc := Lib.hid (And.intro hcf hrow)
        rw [← hr2, h2]
        clear hcf hr2 h2 hrow
        go_wp2_with (fail)
        have hz3 := z0.lt
        go_loopg [5] n (fun g v5 wr => ∃ k : Nat, (k ≤ n ∧ g = n - k ∧ v5 = .int .i64 (k : Int)) ∧ wr = w3 ∧ ∀ i : Nat, i < k → cirOk row (i : Int) (ts[i]?.getD 0) = true)
        case atStart => exact ⟨0, ⟨Nat.zero_le _, rfl, rfl⟩, rfl, fun i hi => by omega⟩
        case round =>
          obtain ⟨k, ⟨hkn, rfl, rfl⟩, rfl, hall⟩ := hrel
          have Hall := Lib.hid hall
          clear hall
          by_cases hk : k < n
          · obtain ⟨b1, o1, rfl, -, hc1⟩ := (hx.below hB3 hB).cell hk
            obtain ⟨t, ht⟩ : ∃ t, t = ts[k]?.getD 0 := ⟨_, rfl⟩
            rw [← ht] at hc1
            have Ht := Lib.hid ht
            clear ht
            have hwk : IntKind.i64.wrap ((k : Int) + 1) = (k : Int) + 1 := by rw [IntKind.wrap_i64]; have := Hv.out.2.h5; have := Hn.out.1; omega
            have hmm : m ≤ 1000 := by have := Hc.out.2.1; have := Hn.out.2.1; omega
            have hw2m : IntKind.i64.wrap (2 * (m : Int)) = 2 * (m : Int) := by rw [IntKind.wrap_i64]; omega
            go_wp2_with (fail)
            go_loopg [6, 7, 8] (2 * m) (fun g v6 v7 v8 wr' => ∃ (j : Nat) (x : Int) (sn : Bool), (j ≤ 2 * m ∧ g = 2 * m - j ∧ v8 = .int .i64 (j : Int)) ∧ (v6 = .int .i64 x ∧ v7 = .bool sn) ∧ wr' = wr ∧ cirL row (k : Int) t j = some (x, sn) ∧ 0 ≤ x ∧ x ≤ j)
            case atStart => exact ⟨0, 0, false, ⟨Nat.zero_le _, rfl, rfl⟩, ⟨rfl, rfl⟩, rfl, rfl, by omega, by omega⟩
            case round =>
              obtain ⟨j, x, sn, ⟨hjm, rfl, rfl⟩, ⟨rfl, rfl⟩, rfl, hcl, hx0, hx1⟩ := hrel
              have Hcl := Lib.hid hcl
              clear hcl
              by_cases hj : j < 2 * m
              · have hjl : (j : Int) < 2 * (m : Int) := by omega
                have hwx : IntKind.i64.wrap (x + 1) = x + 1 := by rw [IntKind.wrap_i64]; omega
                have hwj : IntKind.i64.wrap ((j : Int) + 1) = (j : Int) + 1 := by rw [IntKind.wrap_i64]; omega
                have hm0 : 0 < m := by omega
                obtain ⟨e, he, hem, hej⟩ : ∃ e : Nat, (j : Int) % (m : Int) = (e : Int) ∧ e < m ∧ e = j % m := ⟨j % m, by simp, Nat.mod_lt _ hm0, rfl⟩
                obtain ⟨b2, o2, rfl, -, hc2⟩ := (hr.below hB3 hB2).cell hem
                obtain ⟨y, hy⟩ : ∃ y, y = row[e]?.getD 0 := ⟨_, rfl⟩
                rw [← hy] at hc2
                have hcs : cirL row (k : Int) t (j + 1) = if y ≠ (k : Int) then some (x + 1, sn) else if sn = true ∧ t < x + 1 then none else some (0, true) := by
                  rw [cirL_succ, Hcl.out]
                  unfold cirStep
                  rw [Hn.out.2.1, ← hej, ← hy]
                have Hcs := Lib.hid hcs
                clear hcs hej hy
                by_cases hyk : y = (k : Int)
                · have hcs := Hcs.out
                  rw [if_neg (by simp [hyk])] at hcs
                  subst hyk
                  cases sn
                  · rw [if_neg (by simp)] at hcs
                    have Hd := Lib.hid hcs
                    clear hcs
                    go_wp2_with (fail)
                    go_roundg (2 * m - (j + 1))
                    case measure => omega
                    case rel => exact ⟨j + 1, 0, true, ⟨hj, rfl, by simp⟩, ⟨rfl, rfl⟩, rfl, Hd.out, by omega, by omega⟩
                  · by_cases htx : t < x + 1
                    · rw [if_pos ⟨rfl, htx⟩] at hcs
                      have Hd := Lib.hid hcs
                      clear hcs
                      go_wp2_with (fail)
                      go_ret
                      refine ⟨ret_int ?_, hB3⟩
                      rw [Hc.out.1, if_neg]
                      rw [List.all_eq_true]
                      intro hall
                      have h1 := hall k (List.mem_range.2 hk)
                      unfold cirOk at h1
                      rw [← Ht.out, cirL_stop Hd.out (by rw [Hn.out.2.1]; omega)] at h1
                      cases h1
                    · rw [if_neg (by simp; omega)] at hcs
                      have Hd := Lib.hid hcs
                      clear hcs
                      go_wp2_with (fail)
                      go_roundg (2 * m - (j + 1))
                      case measure => omega
                      case rel => exact ⟨j + 1, 0, true, ⟨hj, rfl, by simp⟩, ⟨rfl, rfl⟩, rfl, Hd.out, by omega, by omega⟩
                · have hcs := Hcs.out
                  rw [if_pos hyk] at hcs
                  have Hd := Lib.hid hcs
                  clear hcs
                  go_wp2_with (fail)
                  go_roundg (2 * m - (j + 1))
                  case measure => omega
                  case rel => exact ⟨j + 1, x + 1, sn, ⟨hj, rfl, by simp⟩, ⟨rfl, rfl⟩, rfl, Hd.out, by omega, by omega⟩
              · have hjm' : j = 2 * m := by omega
                have hjl : ¬ (j : Int) < 2 * (m : Int) := by omega
                have hok : cirOk row (k : Int) (ts[k]?.getD 0) = sn := by
                  unfold cirOk
                  rw [← Ht.out, Hn.out.2.1, ← hjm', Hcl.out]
                cases sn
                · have Hok := Lib.hid hok
                  clear hok
                  go_wp2_with (fail)
                  go_ret
                  refine ⟨ret_int ?_, hB3⟩
                  rw [Hc.out.1, if_neg]
                  rw [List.all_eq_true]
                  intro hall
                  have h1 := hall k (List.mem_range.2 hk)
                  rw [Hok.out] at h1
                  cases h1
                · have Hok := Lib.hid hok
                  clear hok
                  go_wp2_with (fail)
                  go_roundg (n - (k + 1))
                  case measure => omega
                  case rel =>
                    refine ⟨k + 1, ⟨hk, rfl, by simp⟩, rfl, fun i hi => ?_⟩
                    by_cases hik : i = k
                    · rw [hik]; exact Hok.out
                    · exact Hall.out i (by omega)
          · have hkn' : ¬ (k : Int) < (n : Int) := by omega
            go_wp2_with (fail)
            go_ret
            refine ⟨ret_int ?_, hB3⟩
            rw [Hc.out.1, if_pos]
            rw [List.all_eq_true]
            intro i hi
            exact Hall.out i (by have := List.mem_range.1 hi; omega)
      · have hcf := Hcf.out
        rw [← hr2, if_pos h2] at hcf
        rw [← hr2]
        have Hc := Lib.hid (And.intro hcf hr2)
        clear hcf hr2
        go_wp2_with (fail)
        refine (isRow_any w3 B2 A A2 n c m d row (hr.below hB3 hB2) (by have := hB3.size; omega)).mono ?_
        rintro e w4 ⟨rfl, hb⟩
        have hB4 := hB3.trans (hb.mono hB3.size)
        go_wp2_with (fail)
        go_ret
        exact ⟨ret_int (by rw [Hc.out.1, Hc.out.2]), hB4⟩
  · have hcf : rcheckCircleF ts row = r := by unfold rcheckCircleF; rw [← hrr, if_pos h0]
    rw [← hrr]
    have Hs := Lib.hid (And.intro hcf hrr)
    clear hcf hrr
    go_wp2_with (fail)
    refine (rcheckHall_any _ B A n c ts (hx.below hB1 hB) (by have := hB1.size; omega)).mono ?_
    rintro e w3 ⟨rfl, hb⟩
    have hB3 := hB1.trans (hb.mono hB1.size)
    go_wp2_with (fail)
    go_ret
    exact ⟨ret_int (by rw [Hs.out.1, Hs.out.2]), hB3⟩
end Go.Proofs.YthjgecblkagelaaGreat
