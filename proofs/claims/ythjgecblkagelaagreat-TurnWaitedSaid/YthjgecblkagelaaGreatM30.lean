/- Parts of a proof: DM DN. -/
import Derived.Test.YthjgecblkagelaaGreatM29

/- The numbers of states; what the reference's rows say of them: pure part. -/
namespace Go.Proofs.YthjgecblkagelaaGreat
open Go.RowKit Go.Shelf

/-- The number of a state. -/
def idxA : List Int → List Int → Int → Int
  | t :: ts, x :: xs, a => idxA ts xs (a * (t + 1) + x)
  | _, _, a => a
theorem idxA_lin : ∀ (ts xs : List Int) (a : Int), xs.length = ts.length → (∀ t ∈ ts, 0 ≤ t) → idxA ts xs a = a * ((statesL ts).length : Int) + idxA ts xs 0
  | [], [], a, _, _ => by simp [idxA, statesL]
  | t :: ts, x :: xs, a, h, hn => by
    have hn' : ∀ t ∈ ts, 0 ≤ t := fun u hu => hn u (by simp [hu])
    have hl : xs.length = ts.length := by simpa using h
    have ht := hn t (by simp)
    have e : (statesL (t :: ts)).length = (t.toNat + 1) * (statesL ts).length := by
      simp [statesL, List.length_flatMap, List.map_const']
    have e2 : ((t.toNat : Nat) : Int) = t := by omega
    show idxA ts xs (a * (t + 1) + x) = a * _ + idxA ts xs (0 * (t + 1) + x)
    rw [idxA_lin ts xs _ hl hn', idxA_lin ts xs (0 * (t + 1) + x) hl hn', e]
    simp only [Int.natCast_mul, Int.natCast_add, e2]
    have : a * ((t + 1) * ((statesL ts).length : Int)) = a * (t + 1) * ((statesL ts).length : Int) := by rw [Int.mul_assoc]
    show _ = a * ((t + 1) * ((statesL ts).length : Int)) + _
    rw [this, Int.add_mul]
    simp
    omega
theorem range_blocks (N : Nat) : ∀ m : Nat, (List.range m).flatMap (fun d => (List.range N).map (fun j => d * N + j)) = List.range (m * N)
  | 0 => by simp
  | m + 1 => by
    rw [List.range_succ, List.flatMap_append, range_blocks N m, Nat.succ_mul, List.range_add]
    simp
theorem states_length {ts : List Int} : ∀ xs ∈ statesL ts, xs.length = ts.length := by
  induction ts with
  | nil => intro xs h; simp [statesL] at h; simp [h]
  | cons t ts ih =>
    intro xs h
    simp only [statesL, List.mem_flatMap, List.mem_map] at h
    obtain ⟨d, -, ys, hy, rfl⟩ := h
    simp [ih ys hy]
theorem states_idx : ∀ (ts : List Int), (∀ t ∈ ts, 0 ≤ t) → (statesL ts).map (fun s => idxA ts s 0) = (List.range (statesL ts).length).map (fun k : Nat => (k : Int))
  | [], _ => by simp [statesL, idxA]
  | t :: ts, hn => by
    have hn' : ∀ t ∈ ts, 0 ≤ t := fun u hu => hn u (by simp [hu])
    have ih := states_idx ts hn'
    have e : (statesL (t :: ts)).length = (t.toNat + 1) * (statesL ts).length := by
      simp [statesL, List.length_flatMap, List.map_const']
    rw [e, ← range_blocks, List.map_flatMap]
    show (List.flatMap _ _).map _ = _
    rw [List.map_flatMap]
    congr 1
    funext d
    rw [List.map_map, List.map_map]
    have e1 : (statesL ts).map ((fun s => idxA (t :: ts) s 0) ∘ fun x => (d : Int) :: x) = ((statesL ts).map (fun s => idxA ts s 0)).map (fun j => (d : Int) * ((statesL ts).length : Int) + j) := by
      rw [List.map_map]
      apply List.map_congr_left
      intro s hs
      show idxA ts s (0 * (t + 1) + (d : Int)) = _
      rw [idxA_lin ts s _ (states_length s hs) hn']
      simp
    rw [e1, ih, List.map_map]
    apply List.map_congr_left
    intro j _
    simp
theorem idx_get {ts : List Int} (hn : ∀ t ∈ ts, 0 ≤ t) {k : Nat} (hk : k < (statesL ts).length) : idxA ts (statesL ts)[k] 0 = (k : Int) := by
  have h := states_idx ts hn
  have h2 : ((statesL ts).map (fun s => idxA ts s 0))[k]? = some (k : Int) := by
    rw [h]
    simp [hk]
  rw [List.getElem?_map, List.getElem?_eq_getElem hk] at h2
  simpa using h2
theorem idx_mem {ts xs : List Int} (hn : ∀ t ∈ ts, 0 ≤ t) (hx : xs ∈ statesL ts) : ∃ k, k < (statesL ts).length ∧ idxA ts xs 0 = (k : Int) ∧ (statesL ts)[k]? = some xs := by
  obtain ⟨k, hk, e⟩ := List.getElem_of_mem hx
  exact ⟨k, hk, by rw [← e, idx_get hn hk], by rw [List.getElem?_eq_getElem hk, e]⟩

/-- What a list of numbers, one for each state, says of a state. -/
def rowAt (ts rs xs : List Int) : Int := rs[(idxA ts xs 0).toNat]?.getD 0
def boundL (ts rs ys : List Int) : List Nat → Int → Int
  | [], a => a
  | w :: ws, a => if rowAt ts rs (ys.set w 0) < 0 then -1 else boundL ts rs ys ws (max a (rowAt ts rs (ys.set w 0) + 1))
def boundF (ts rs xs : List Int) : Int := match rpullF ts xs (allL ts.length) with
  | none => 0
  | some ys => boundL ts rs ys (List.range ts.length) 0
theorem boundL_spec (ts rs ys : List Int) : ∀ (ws : List Nat) (a : Int), 0 ≤ a → 0 ≤ boundL ts rs ys ws a →
    (∀ w ∈ ws, 0 ≤ rowAt ts rs (ys.set w 0) ∧ rowAt ts rs (ys.set w 0) + 1 ≤ boundL ts rs ys ws a) ∧ a ≤ boundL ts rs ys ws a ∧ (boundL ts rs ys ws a = a ∨ ∃ w ∈ ws, boundL ts rs ys ws a = rowAt ts rs (ys.set w 0) + 1)
  | [], a, _, _ => ⟨by simp, Int.le_refl _, .inl rfl⟩
  | w :: ws, a, ha, hb => by
    rw [boundL] at hb ⊢
    by_cases h : rowAt ts rs (ys.set w 0) < 0
    · rw [if_pos h] at hb; omega
    · rw [if_neg h] at hb ⊢
      obtain ⟨i1, i2, i3⟩ := boundL_spec ts rs ys ws _ (by omega) hb
      refine ⟨fun v hv => ?_, by omega, ?_⟩
      · rcases List.mem_cons.1 hv with rfl | hv
        · exact ⟨by omega, by omega⟩
        · exact i1 v hv
      · rcases i3 with e | ⟨v, hv, e⟩
        · rcases Int.le_total a (rowAt ts rs (ys.set w 0) + 1) with hle | hle
          · exact .inr ⟨w, by simp, by rw [e, Int.max_eq_right hle]⟩
          · exact .inl (by rw [e, Int.max_eq_left hle])
        · exact .inr ⟨v, by simp [hv], e⟩
/-- No window is worse: the fold never comes to -1. -/
theorem boundL_go (ts rs ys : List Int) : ∀ (ws : List Nat) (a : Int), 0 ≤ a → (∀ w ∈ ws, 0 ≤ rowAt ts rs (ys.set w 0)) → 0 ≤ boundL ts rs ys ws a
  | [], a, ha, _ => ha
  | w :: ws, a, ha, h => by
    have h0 := h w (by simp)
    rw [boundL, if_neg (by omega)]
    exact boundL_go ts rs ys ws _ (by omega) fun v hv => h v (by simp [hv])
/-- Numbers that tell of some doomed states how long they last. -/
structure RowsInv (ts rs : List Int) : Prop where
  len : rs.length = (statesL ts).length
  ok : ∀ xs ∈ statesL ts, rowAt ts rs xs = -1 ∨ (plOf xs ∈ dq ts ∧ rowAt ts rs xs = la ts (plOf xs))
structure RowsDone (ts rs : List Int) : Prop where
  len : rs.length = (statesL ts).length
  out : ∀ xs ∈ statesL ts, plOf xs ∉ dq ts → rowAt ts rs xs = -1
  inn : ∀ xs ∈ statesL ts, plOf xs ∈ dq ts → rowAt ts rs xs = la ts (plOf xs)
theorem visit_one {ts : List Int} (_hv : Valid ts) {p : Pl} {i : Nat} {y z : Pl} (hy : (i, y) ∈ visitsF ts p) (hz : (i, z) ∈ visitsF ts p) : y = z := by
  unfold visitsF at hy hz
  split at hy
  · cases hy
  · rename_i q hq
    rw [hq] at hz
    obtain ⟨a, -, e⟩ := List.mem_map.1 hy
    obtain ⟨b, -, f⟩ := List.mem_map.1 hz
    simp only [Prod.mk.injEq] at e f
    rw [← e.2, ← f.2, e.1, f.1]
theorem nice_plOf {ts xs : List Int} (hv : Valid ts) (hx : xs ∈ statesL ts) : Nice ts (plOf xs) ∧ plList (plOf xs) = xs := by
  refine ⟨nice_of hv hx, plList_of ?_⟩
  have := states_length xs hx
  have := hv.h5
  omega
theorem bound_spec {ts rs xs : List Int} (hv : Valid ts) (hI : RowsInv ts rs) (hx : xs ∈ statesL ts) (hb : 0 ≤ boundF ts rs xs) : plOf xs ∈ dq ts ∧ boundF ts rs xs = la ts (plOf xs) := by
  obtain ⟨hp, hpl⟩ := nice_plOf hv hx
  have hr := rvisit hv hp
  rw [hpl] at hr
  have hstay : (∀ y ∈ visitsF ts (plOf xs), y.2 ∈ dq ts) → plOf xs ∈ dq ts := fun h => by
    by_cases hd : plOf xs ∈ dq ts
    · exact hd
    · obtain ⟨y, hy, hn⟩ := dq_out hv hp hd
      exact absurd (h y hy) hn
  unfold boundF at hb ⊢
  rcases hr with ⟨ys, e, hvis⟩ | ⟨e, hnone⟩
  · rw [e] at hb ⊢
    simp only at hb ⊢
    obtain ⟨b1, b2, b3⟩ := boundL_spec ts rs ys _ 0 (Int.le_refl _) hb
    have hat : ∀ w, w < ts.length → ∃ y, (w, y) ∈ visitsF ts (plOf xs) ∧ y ∈ dq ts ∧ rowAt ts rs (ys.set w 0) = la ts y := fun w hw => by
      obtain ⟨y, hy, hys⟩ := hvis w hw
      have hyn : Nice ts y := ((visits_mem hv.h5).1 hy).nice hv hp
      obtain ⟨hym, hyp⟩ := nice_list hv hyn
      have h0 := (b1 w (List.mem_range.2 hw)).1
      rw [hys] at h0 ⊢
      rcases hI.ok _ hym with h | ⟨h1, h2⟩
      · omega
      · rw [hyp] at h1 h2
        exact ⟨y, hy, h1, h2⟩
    have hd := hstay fun y hy => by
      obtain ⟨z, hz, hzd, -⟩ := hat y.1 (visit_fst hy)
      rw [visit_one hv (show (y.1, y.2) ∈ _ from hy) hz]
      exact hzd
    refine ⟨hd, ?_⟩
    have hub : boundL ts rs ys (List.range ts.length) 0 ≤ la ts (plOf xs) := by
      rcases b3 with h | ⟨w, hw, h⟩
      · rw [h]; exact la_nonneg hv _
      · obtain ⟨y, hy, -, e2⟩ := hat w (List.mem_range.1 hw)
        have := (dq_suc hv hd hy).2
        simp only at this
        omega
    rcases dq_wit hv hd with h | ⟨y, hy, h⟩
    · omega
    · obtain ⟨z, hz, -, e2⟩ := hat y.1 (visit_fst hy)
      rw [← visit_one hv (show (y.1, y.2) ∈ _ from hy) hz] at e2
      have := (b1 y.1 (List.mem_range.2 (visit_fst hy))).2
      omega
  · rw [e]
    have hd := hstay fun y hy => by rw [hnone] at hy; cases hy
    refine ⟨hd, ?_⟩
    rcases dq_wit hv hd with h | ⟨y, hy, -⟩
    · exact h.symm
    · rw [hnone] at hy; cases hy
theorem rows_end {ts rs : List Int} (hv : Valid ts) (hI : RowsInv ts rs) (h : ∀ xs ∈ statesL ts, rowAt ts rs xs < 0 → boundF ts rs xs < 0) : RowsDone ts rs := by
  have key : ∀ (k : Nat) (xs : List Int), xs ∈ statesL ts → plOf xs ∈ dq ts → la ts (plOf xs) ≤ (k : Int) → 0 ≤ rowAt ts rs xs := by
    intro k
    induction k with
    | zero =>
      intro xs hx hd hk
      rcases Int.lt_or_le (rowAt ts rs xs) 0 with hlt | hle
      · exfalso
        have hb := h xs hx hlt
        obtain ⟨hp, hpl⟩ := nice_plOf hv hx
        have hr := rvisit hv hp
        rw [hpl] at hr
        unfold boundF at hb
        rcases hr with ⟨ys, e, hvis⟩ | ⟨e, hnone⟩
        · obtain ⟨y, hy, -⟩ := hvis 0 (by have := hv.h1; omega)
          have := (dq_suc hv hd hy).2
          have := la_nonneg hv (ts := ts) y
          simp only at *
          omega
        · rw [e] at hb
          simp only at hb
          omega
      · exact hle
    | succ k ih =>
      intro xs hx hd hk
      rcases Int.lt_or_le (rowAt ts rs xs) 0 with hlt | hle
      · exfalso
        have hb := h xs hx hlt
        obtain ⟨hp, hpl⟩ := nice_plOf hv hx
        have hr := rvisit hv hp
        rw [hpl] at hr
        unfold boundF at hb
        rcases hr with ⟨ys, e, hvis⟩ | ⟨e, hnone⟩
        · rw [e] at hb
          have := boundL_go ts rs ys (List.range ts.length) 0 (Int.le_refl _) fun w hw => by
            obtain ⟨y, hy, hys⟩ := hvis w (List.mem_range.1 hw)
            have hyn : Nice ts y := ((visits_mem hv.h5).1 hy).nice hv hp
            obtain ⟨hym, hyp⟩ := nice_list hv hyn
            obtain ⟨s1, s2⟩ := dq_suc hv hd hy
            rw [hys]
            exact ih _ hym (by rw [hyp]; exact s1) (by rw [hyp]; simp only at s2; omega)
          simp only at hb
          omega
        · rw [e] at hb
          simp only at hb
          omega
      · exact hle
  refine ⟨hI.len, fun xs hx hd => ?_, fun xs hx hd => ?_⟩
  · rcases hI.ok xs hx with e | ⟨e, -⟩
    · exact e
    · exact absurd e hd
  · rcases hI.ok xs hx with e | ⟨-, e⟩
    · have := key (la ts (plOf xs)).toNat xs hx hd (by omega)
      omega
    · exact e
/-- One number is told more. -/
theorem rows_set {ts rs xs : List Int} (hv : Valid ts) (hI : RowsInv ts rs) {k : Nat} (hk : (statesL ts)[k]? = some xs) (hb : 0 ≤ boundF ts rs xs) : RowsInv ts (rs.set k (boundF ts rs xs)) := by
  have hx : xs ∈ statesL ts := List.mem_of_getElem? hk
  obtain ⟨hkl, hke⟩ := List.getElem?_eq_some_iff.1 hk
  obtain ⟨s1, s2⟩ := bound_spec hv hI hx hb
  refine ⟨by rw [List.length_set]; exact hI.len, fun zs hz => ?_⟩
  obtain ⟨j, hj, ej, hjz⟩ := idx_mem hv.nonneg hz
  have e : rowAt ts (rs.set k (boundF ts rs xs)) zs = if k = j then boundF ts rs xs else rowAt ts rs zs := by
    unfold rowAt
    rw [ej, List.getElem?_set]
    simp only [Int.toNat_natCast]
    by_cases hkj : k = j
    · subst hkj
      rw [if_pos rfl, if_pos (by rw [hI.len]; exact hkl), if_pos rfl]
      rfl
    · rw [if_neg hkj, if_neg hkj]
  rw [e]
  by_cases hkj : k = j
  · subst hkj
    rw [hk] at hjz
    cases hjz
    rw [if_pos rfl]
    exact .inr ⟨s1, s2⟩
  · rw [if_neg hkj]
    exact hI.ok zs hz
theorem rows_zero {ts : List Int} (hv : Valid ts) : RowsInv ts (List.replicate (statesL ts).length (-1)) := by
  refine ⟨by simp, fun xs hx => .inl ?_⟩
  obtain ⟨j, hj, ej, -⟩ := idx_mem hv.nonneg hx
  unfold rowAt
  rw [ej]
  simp [hj]
/-- How many numbers are not told. -/
def negs (rs : List Int) : Nat := rs.countP fun r => decide (r < 0)
theorem negs_set {rs : List Int} {k : Nat} {b : Int} (hk : k < rs.length) (hr : rs[k]?.getD 0 < 0) (hb : 0 ≤ b) : negs (rs.set k b) + 1 = negs rs := by
  unfold negs
  rw [List.getElem?_eq_getElem hk, Option.getD_some] at hr
  have h1 := List.countP_set (p := fun r : Int => decide (r < 0)) (l := rs) (i := k) (a := b) hk
  have h2 : 0 < rs.countP fun r => decide (r < 0) := List.countP_pos_iff.2 ⟨rs[k], List.getElem_mem hk, by simpa using hr⟩
  rw [h1]
  simp [hr, show ¬ b < 0 by omega]
  omega
end Go.Proofs.YthjgecblkagelaaGreat

/- References: States, index, State. -/
namespace Go.Proofs.YthjgecblkagelaaGreat
open Go.RowKit Go.Shelf

attribute [local go_sem] Oper.semAt_some

theorem prod_states {ts : List Int} (hv : Valid ts) : prodF ts = ((statesL ts).length : Int) := by
  have h := states_count ts hv.nonneg 1
  unfold prodF
  omega
theorem states_few {ts : List Int} (hv : Valid ts) : (statesL ts).length ≤ 1000 := by
  have h := prod_states hv
  have := hv.prod
  omega
theorem idxA_snoc : ∀ (ts xs : List Int) (t x a : Int), xs.length = ts.length → idxA (ts ++ [t]) (xs ++ [x]) a = idxA ts xs a * (t + 1) + x
  | [], [], t, x, a, _ => rfl
  | u :: ts, y :: xs, t, x, a, h => by
    show idxA (ts ++ [t]) (xs ++ [x]) (a * (u + 1) + y) = idxA ts xs (a * (u + 1) + y) * (t + 1) + x
    exact idxA_snoc ts xs t x _ (by simpa using h)
theorem idx_take {ts xs : List Int} {j : Nat} (hj : j < ts.length) (hl : xs.length = ts.length) : idxA (ts.take (j + 1)) (xs.take (j + 1)) 0 = idxA (ts.take j) (xs.take j) 0 * (ts[j]?.getD 0 + 1) + xs[j]?.getD 0 := by
  rw [take_snoc_int ts j hj, take_snoc_int xs j (by omega)]
  exact idxA_snoc _ _ _ _ _ (by simp only [List.length_take]; omega)
theorem idx_bd {ts xs : List Int} (hv : Valid ts) (hx : xs ∈ statesL ts) (j : Nat) (hj : j ≤ ts.length) : 0 ≤ idxA (ts.take j) (xs.take j) 0 ∧ idxA (ts.take j) (xs.take j) 0 + 1 ≤ 13 ^ j := by
  obtain ⟨hl, hb⟩ := (states_iff hv.nonneg).1 hx
  induction j with
  | zero => simp [idxA]
  | succ j ih =>
    have ih := ih (by omega)
    rw [idx_take (by omega) hl]
    have h1 := hb j (by omega)
    have h2 := hv.h12 j (by omega)
    generalize idxA (ts.take j) (xs.take j) 0 = a at *
    generalize ts[j]?.getD 0 = t at *
    generalize xs[j]?.getD 0 = x at *
    have e : (13 : Int) ^ (j + 1) = 13 ^ j * 13 := by rw [Int.pow_succ]
    rw [e]
    generalize (13 : Int) ^ j = q at *
    have e2 : a * (t + 1) + (t + 1) = (a + 1) * (t + 1) := by rw [Int.add_mul, Int.one_mul]
    have e3 : (a + 1) * (t + 1) ≤ q * 13 := Int.mul_le_mul ih.2 (by omega) (by omega) (by omega)
    have e4 : 0 ≤ a * (t + 1) := Int.mul_nonneg ih.1 (by omega)
    omega
theorem idx_bd5 {ts xs : List Int} (hv : Valid ts) (hx : xs ∈ statesL ts) (j : Nat) (hj : j ≤ ts.length) : 0 ≤ idxA (ts.take j) (xs.take j) 0 ∧ idxA (ts.take j) (xs.take j) 0 ≤ 371293 := by
  have h := idx_bd hv hx j hj
  have e : (13 : Int) ^ j ≤ 13 ^ 5 := by
    have : j = 0 ∨ j = 1 ∨ j = 2 ∨ j = 3 ∨ j = 4 ∨ j = 5 := by have := hv.h5; omega
    rcases this with rfl | rfl | rfl | rfl | rfl | rfl <;> decide
  have e5 : (13 : Int) ^ 5 = 371293 := by decide
  omega

set_option maxHeartbeats 1000000 in
theorem States_any (w : World) (B : Nat) (A : Option Addr) (n c : Nat) (ts : List Int) (hx : IntsAt w B A n ts) (hB : B ≤ w.heap.size) (hv : Valid ts) :
    Calls Tryz.prog 19 #[.agg #[.slice A n c]] w fun e w' => e = .returned (.int .i64 ((statesL ts).length : Int)) ∧ Below w.heap.size w w' := by
  have hm := hx.small
  have hx2 := hx.alloc hB (.cells #[.slice A n c] 24)
  have Hv := Lib.hid (And.intro hv (And.intro (prod_states hv) hx.len))
  have h5 := hv.h5
  rw [hx.len] at h5
  clear hv
  go_enter Tryz.func19, Tryz.ntmps19
  go_wp2
  go_loop [3, 4] (fun p i => ∃ k : Nat, k ≤ n ∧ i = .int .i64 k ∧ p = .int .i64 (prodF (ts.take k))) (fun _ i => n - (intOf i).toNat)
  case atStart => exact ⟨0, by omega, rfl, rfl⟩
  case round =>
    obtain ⟨k, hk, rfl, rfl⟩ := hrel
    have bd := prod_bd5 ts (by rw [hx.len]; exact h5) (fun j hj => Hv.out.1.h12 j hj) k (by rw [hx.len]; exact hk)
    by_cases hlt : k < n
    · obtain ⟨b, o, rfl, _, hc⟩ := hx2.cell hlt
      have xb := Hv.out.1.h12 k (by rw [hx.len]; exact hlt)
      have bd2 := prod_bd5 ts (by rw [hx.len]; exact h5) (fun j hj => Hv.out.1.h12 j hj) (k + 1) (by rw [hx.len]; omega)
      rw [prod_take ts k (by rw [hx.len]; exact hlt)] at bd2
      have Hp := Lib.hid (prod_take ts k (by rw [hx.len]; exact hlt))
      go_wp2
      go_round
      case rel => exact ⟨k + 1, by omega, by go_num, by rw [Hp.out]; try go_num⟩
      case measure => simp [intOf]; omega
    · go_wp2
      go_ret
      exact ⟨ret_int (by rw [← Hv.out.2.1, List.take_of_length_le (by have := Hv.out.2.2; omega)]), (Below.refl _ _).alloc (Nat.le_refl _) _⟩

set_option maxRecDepth 100000 in
set_option maxHeartbeats 4000000 in
theorem rindex_any (w : World) (B1 B2 : Nat) (A1 A2 : Option Addr) (n c d : Nat) (ts xs : List Int) (h1 : IntsAt w B1 A1 n ts) (hB1 : B1 ≤ w.heap.size) (h2 : IntsAt w B2 A2 n xs) (hB2 : B2 ≤ w.heap.size) (hv : Valid ts) (hxs : xs ∈ statesL ts) :
    Calls Tryz.prog 91 #[.agg #[.slice A1 n c], .slice A2 n d] w fun e w' => e = .returned (.int .i64 (idxA ts xs 0)) ∧ Below w.heap.size w w' := by
  have hb0 : Below w.heap.size w (w.alloc (.cells #[.slice A1 n c] 24)) := (Below.refl _ w).alloc (Nat.le_refl _) _
  have x0 := Boxed.new w 24 (.slice A1 n c)
  have hl := h1.len
  have hl2 := h2.len
  have h5 := hv.h5
  rw [hl] at h5
  have Hv := Lib.hid (And.intro hv (And.intro hxs (And.intro hl hl2)))
  clear hv hxs hl hl2
  go_enter Tryz.func91, Tryz.ntmps91
  go_wp2_with (fail)
  go_loopg [5, 6] n (fun g v5 v6 wr => ∃ (j : Nat) (a : Int), (j ≤ n ∧ g = n - j ∧ v6 = .int .i64 (j : Int) ∧ v5 = .int .i64 a) ∧ a = idxA (ts.take j) (xs.take j) 0 ∧ Boxed wr w.heap.size 24 (.slice A1 n c) ∧ Below w.heap.size w wr)
  case atStart => exact ⟨0, 0, ⟨Nat.zero_le _, rfl, rfl, rfl⟩, by simp [idxA], x0, hb0⟩
  case round =>
    clear x0 hb0
    obtain ⟨j, a, ⟨hjn, rfl, rfl, rfl⟩, ha, y0, hB⟩ := hrel
    have c0 := y0.cell
    have hz := y0.lt
    have hzw := hB.size
    have hab := idx_bd5 Hv.out.1 Hv.out.2.1 j (by rw [Hv.out.2.2.1]; exact hjn)
    rw [← ha] at hab
    by_cases hj : j < n
    · obtain ⟨b1, o1, rfl, hb1, hc1⟩ := (h1.below hB hB1).cell hj
      obtain ⟨b2, o2, rfl, hb2, hc2⟩ := (h2.below hB hB2).cell hj
      have hst := idx_take (ts := ts) (xs := xs) (j := j) (by rw [Hv.out.2.2.1]; exact hj) (by rw [Hv.out.2.2.1, Hv.out.2.2.2])
      have hnb := idx_bd5 Hv.out.1 Hv.out.2.1 (j + 1) (by rw [Hv.out.2.2.1]; omega)
      rw [hst, ← ha] at hnb
      have hxb := ((states_iff Hv.out.1.nonneg).1 Hv.out.2.1).2 j (by rw [Hv.out.2.2.1]; exact hj)
      have htb := Hv.out.1.h12 j (by rw [Hv.out.2.2.1]; exact hj)
      obtain ⟨t, ht⟩ : ∃ t, t = ts[j]?.getD 0 := ⟨_, rfl⟩
      obtain ⟨x, hx⟩ : ∃ x, x = xs[j]?.getD 0 := ⟨_, rfl⟩
      rw [← ht] at hc1 hst hnb hxb htb
      rw [← hx] at hc2 hst hnb hxb
      obtain ⟨p, hp⟩ : ∃ p, p = a * (t + 1) := ⟨_, rfl⟩
      rw [← hp] at hnb
      have hp0 : 0 ≤ p := by rw [hp]; exact Int.mul_nonneg hab.1 (by omega)
      have hwj : IntKind.i64.wrap ((j : Int) + 1) = (j : Int) + 1 := by rw [IntKind.wrap_i64]; omega
      have hwt : IntKind.i64.wrap (t + 1) = t + 1 := by rw [IntKind.wrap_i64]; omega
      have hwp : IntKind.i64.wrap (a * (t + 1)) = p := by rw [← hp, IntKind.wrap_i64]; omega
      have hws : IntKind.i64.wrap (p + x) = p + x := by rw [IntKind.wrap_i64]; omega
      have Ha := Lib.hid (And.intro ha (And.intro hst hp))
      clear ha hst hp ht hx
      go_wp2_with (fail)
      refine region_held_wp 1 (fun W' => W' = wr.drew) (fun _ => true) (by kernel_rfl) ?_
      intro KR hKR
      have hS : wr.drew = wr.drew := rfl
      refine wpAnyHI_takeE (i := 0) (v := .int .i64 a) (some 13) rfl rfl (by kernel_rfl) (by kernel_rfl) (by kernel_rfl) (by kernel_rfl) (by kernel_rfl) (fun _ _ _ h => h) hS (.inl ⟨by kernel_rfl, fun W' hS' => ?_⟩) ?_
      · subst hS'; go_simp
      refine wpAnyHI_takeE (i := 1) (v := .pointer (some ⟨w.heap.size, 0, none⟩)) (some 14) rfl rfl (by kernel_rfl) (by kernel_rfl) (by kernel_rfl) (by kernel_rfl) (by kernel_rfl) (fun _ _ _ h => h) hS (.inl ⟨by kernel_rfl, fun W' hS' => ?_⟩) ?_
      · subst hS'; go_simp
      refine wpAnyHI_takeE (i := 2) (v := .slice (some ⟨b1, o1, none⟩) n c) (some 15) rfl rfl (by kernel_rfl) (by kernel_rfl) (by kernel_rfl) (by kernel_rfl) (by kernel_rfl) (fun _ _ _ h => h) hS (.inl ⟨by kernel_rfl, fun W' hS' => ?_⟩) ?_
      · subst hS'; go_simp
      refine wpAnyHI_takeE (i := 3) (v := .int .i64 (j : Int)) (some 16) rfl rfl (by kernel_rfl) (by kernel_rfl) (by kernel_rfl) (by kernel_rfl) (by kernel_rfl) (fun _ _ _ h => h) hS (.inl ⟨by kernel_rfl, fun W' hS' => ?_⟩) ?_
      · subst hS'; go_simp
      refine wpAnyHI_takeE (i := 4) (v := .pointer (some ⟨b1, o1 + j, none⟩)) (some 17) rfl rfl (by kernel_rfl) (by kernel_rfl) (by kernel_rfl) (by kernel_rfl) (by kernel_rfl) (fun _ _ _ h => h) hS (.inl ⟨by kernel_rfl, fun W' hS' => ?_⟩) ?_
      · subst hS'; go_simp <;> omega
      refine wpAnyHI_takeE (i := 5) (v := .int .i64 t) (some 18) rfl rfl (by kernel_rfl) (by kernel_rfl) (by kernel_rfl) (by kernel_rfl) (by kernel_rfl) (fun _ _ _ h => h) hS (.inl ⟨by kernel_rfl, fun W' hS' => ?_⟩) ?_
      · subst hS'; go_simp
      refine wpAnyHI_takeE (i := 6) (v := .int .i64 (t + 1)) (some 19) rfl rfl (by kernel_rfl) (by kernel_rfl) (by kernel_rfl) (by kernel_rfl) (by kernel_rfl) (fun _ _ _ h => h) hS (.inl ⟨by kernel_rfl, fun W' hS' => ?_⟩) ?_
      · subst hS'; go_simp
      refine wpAnyHI_takeE (i := 7) (v := .int .i64 p) (some 20) rfl rfl (by kernel_rfl) (by kernel_rfl) (by kernel_rfl) (by kernel_rfl) (by kernel_rfl) (fun _ _ _ h => h) hS (.inl ⟨by kernel_rfl, fun W' hS' => ?_⟩) ?_
      · subst hS'; go_simp
      refine wpAnyHI_takeE (i := 8) (v := .slice (some ⟨b2, o2, none⟩) n d) (some 21) rfl rfl (by kernel_rfl) (by kernel_rfl) (by kernel_rfl) (by kernel_rfl) (by kernel_rfl) (fun _ _ _ h => h) hS (.inl ⟨by kernel_rfl, fun W' hS' => ?_⟩) ?_
      · subst hS'; go_simp
      refine wpAnyHI_takeE (i := 9) (v := .int .i64 (j : Int)) (some 22) rfl rfl (by kernel_rfl) (by kernel_rfl) (by kernel_rfl) (by kernel_rfl) (by kernel_rfl) (fun _ _ _ h => h) hS (.inl ⟨by kernel_rfl, fun W' hS' => ?_⟩) ?_
      · subst hS'; go_simp
      refine wpAnyHI_takeE (i := 10) (v := .pointer (some ⟨b2, o2 + j, none⟩)) (some 23) rfl rfl (by kernel_rfl) (by kernel_rfl) (by kernel_rfl) (by kernel_rfl) (by kernel_rfl) (fun _ _ _ h => h) hS (.inl ⟨by kernel_rfl, fun W' hS' => ?_⟩) ?_
      · subst hS'; go_simp <;> omega
      refine wpAnyHI_takeE (i := 11) (v := .int .i64 x) (some 24) rfl rfl (by kernel_rfl) (by kernel_rfl) (by kernel_rfl) (by kernel_rfl) (by kernel_rfl) (fun _ _ _ h => h) hS (.inl ⟨by kernel_rfl, fun W' hS' => ?_⟩) ?_
      · subst hS'; go_simp
      refine wpAnyHI_takeE (i := 12) (v := .int .i64 (p + x)) (some 25) rfl rfl (by kernel_rfl) (by kernel_rfl) (by kernel_rfl) (by kernel_rfl) (by kernel_rfl) (fun _ _ _ h => h) hS (.inl ⟨by kernel_rfl, fun W' hS' => ?_⟩) ?_
      · subst hS'; go_simp
      refine wpAnyHI_takeE (i := 13) (v := .int .i64 (p + x)) (some 5) rfl rfl (by kernel_rfl) (by kernel_rfl) (by kernel_rfl) (by kernel_rfl) (by kernel_rfl) (fun _ _ _ h => h) hS (.inl ⟨by kernel_rfl, fun W' hS' => ?_⟩) ?_
      · subst hS'; go_simp
      refine wpAnyHI_end (by kernel_rfl) ?_
      show KR _ _
      refine hKR _ _ ?_
      clear hKR KR
      go_wp2_with (fail)
      go_roundg (n - (j + 1))
      case measure => omega
      case rel =>
        refine ⟨j + 1, p + x, ⟨by omega, rfl, rfl, rfl⟩, ?_, y0, hB.trans ((below_drew _).mono hzw)⟩
        rw [Ha.out.2.1, ← Ha.out.1, ← Ha.out.2.2]
    · go_wp2_with (fail)
      go_ret
      exact ⟨ret_int (by rw [ha, List.take_of_length_le (by have := Hv.out.2.2.1; omega), List.take_of_length_le (by have := Hv.out.2.2.2; omega)]), hB⟩

set_option maxRecDepth 100000 in
set_option maxHeartbeats 4000000 in
theorem rState_any (w : World) (B : Nat) (A : Option Addr) (n c k : Nat) (ts xs : List Int) (hx : IntsAt w B A n ts) (hB : B ≤ w.heap.size) (hv : Valid ts) (hk : (statesL ts)[k]? = some xs) :
    Calls Tryz.prog 90 #[.agg #[.slice A n c], .int .i64 (k : Int)] w fun e w' => ∃ g, w.heap.size ≤ g ∧ e = .returned (.slice (some ⟨g, 0, none⟩) n n) ∧ w'.heap[g]? = some (.cells (xs.map (Value.int .i64)).toArray 3 (0, 0)) ∧ Below w.heap.size w w' := by
  have hb0 : Below w.heap.size w (w.alloc (.cells #[.slice A n c] 24)) := (Below.refl _ w).alloc (Nat.le_refl _) _
  have x0 := Boxed.new w 24 (.slice A n c)
  have c0 := x0.cell
  have hl := hx.len
  have h1 := hv.h1
  have h5 := hv.h5
  have hmem : xs ∈ statesL ts := List.mem_of_getElem? hk
  have hidx : idxA ts xs 0 = (k : Int) := by
    obtain ⟨hkl, hke⟩ := List.getElem?_eq_some_iff.1 hk
    rw [← hke]
    exact idx_get hv.nonneg hkl
  have Hv := Lib.hid (And.intro hv (And.intro hl (And.intro hmem (And.intro hidx ((states_iff hv.nonneg).1 hmem).1))))
  rw [hl] at h1 h5
  clear hl hv hk hmem hidx
  go_enter Tryz.func90, Tryz.ntmps90
  go_wp2_with (fail)
  refine (Empty_any _ A n c h1 h5).mono ?_
  rintro e w2 ⟨D, hD, rfl, hr, hb⟩
  have hB3 := hb0.trans (hb.mono hb0.size)
  have y0 := bxBelow x0 hb x0.lt
  simp only [World.size_alloc] at hD
  clear hb0 hb x0 c0
  have c0 := y0.cell
  have hwn : IntKind.i64.wrap ((n : Int) - 1) = (n : Int) - 1 := by rw [IntKind.wrap_i64]; omega
  go_wp2_with (fail)
  go_loopg [1, 6] n (fun g v1 v6 wr => ∃ (j : Nat) (a : Int) (zs : List Int), (j ≤ n ∧ j = g ∧ v6 = .int .i64 ((j : Int) - 1) ∧ v1 = .int .i64 a) ∧ (a = idxA (ts.take j) (xs.take j) 0) ∧ (Boxed wr w.heap.size 24 (.slice A n c) ∧ wr.heap[D]? = some (.cells (zs.map (Value.int .i64)).toArray 3 (0, 0))) ∧ (zs.length = n ∧ ∀ i : Nat, j ≤ i → i < n → zs[i]?.getD 0 = xs[i]?.getD 0) ∧ Below w.heap.size w wr)
  case atStart =>
    refine ⟨n, (k : Int), List.replicate n 0, ⟨Nat.le_refl _, rfl, rfl, rfl⟩, ?_, ⟨y0, hr⟩, ⟨by simp, fun i h h' => by omega⟩, hB3⟩
    rw [List.take_of_length_le (by have := Hv.out.2.1; omega), List.take_of_length_le (by have := Hv.out.2.2.2.2; have := Hv.out.2.1; omega)]
    exact Hv.out.2.2.2.1.symm
  case round =>
    clear y0 hr hB3 c0
    obtain ⟨j, a, zs, ⟨hjn, rfl, rfl, rfl⟩, ha, ⟨y0, hr⟩, ⟨hzl, hok⟩, hB3⟩ := hrel
    have c0 := y0.cell
    by_cases hj : 0 < j
    · obtain ⟨i, rfl⟩ : ∃ i, j = i + 1 := ⟨j - 1, by omega⟩
      have hin : i < n := by omega
      obtain ⟨b1, o1, rfl, hb1, hc1⟩ := (hx.below hB3 hB).cell hin
      have hst := idx_take (ts := ts) (xs := xs) (j := i) (by rw [Hv.out.2.1]; exact hin) (by have := Hv.out.2.2.2.2; omega)
      have hxb := ((states_iff Hv.out.1.nonneg).1 Hv.out.2.2.1).2 i (by rw [Hv.out.2.1]; exact hin)
      have htb := Hv.out.1.h12 i (by rw [Hv.out.2.1]; exact hin)
      have hab := idx_bd5 Hv.out.1 Hv.out.2.2.1 i (by rw [Hv.out.2.1]; omega)
      have hab1 := idx_bd5 Hv.out.1 Hv.out.2.2.1 (i + 1) (by rw [Hv.out.2.1]; omega)
      rw [← ha] at hst hab1
      obtain ⟨a', ha'⟩ : ∃ a', a' = idxA (ts.take i) (xs.take i) 0 := ⟨_, rfl⟩
      obtain ⟨t, ht⟩ : ∃ t, t = ts[i]?.getD 0 := ⟨_, rfl⟩
      obtain ⟨x, hx'⟩ : ∃ x, x = xs[i]?.getD 0 := ⟨_, rfl⟩
      rw [← ht] at hc1 hst hxb htb
      rw [← hx'] at hst hxb
      rw [← ha'] at hst hab
      have hq : a / (t + 1) = a' := by rw [hst, Int.mul_comm, Int.add_comm, Int.add_mul_ediv_left _ _ (by omega), Int.ediv_eq_zero_of_lt hxb.1 (by omega)]; omega
      have hrm : a % (t + 1) = x := by rw [hst, Int.mul_comm, Int.add_comm, Int.add_mul_emod_self_left, Int.emod_eq_of_lt hxb.1 (by omega)]
      have hji : ((i + 1 : Nat) : Int) - 1 = (i : Int) := by omega
      have hgej : ¬ (i : Int) < 0 := by omega
      have hwi : IntKind.i64.wrap ((i : Int) - 1) = (i : Int) - 1 := by rw [IntKind.wrap_i64]; omega
      have hwt : IntKind.i64.wrap (t + 1) = t + 1 := by rw [IntKind.wrap_i64]; omega
      have hwx : IntKind.i64.wrap x = x := by rw [IntKind.wrap_i64]; omega
      have hwa : IntKind.i64.wrap a' = a' := by rw [IntKind.wrap_i64]; omega
      have htm1 : a.tmod (t + 1) = x := by rw [Int.tmod_eq_emod_of_nonneg hab1.1]; exact hrm
      have htd1 : a.tdiv (t + 1) = a' := by rw [Int.tdiv_eq_ediv_of_nonneg hab1.1]; exact hq
      have ht0 : ¬ t + 1 = 0 := by omega
      have hcD : wr.cell? ⟨D, i, none⟩ = some (.int .i64 (zs[i]?.getD 0)) := by simp [World.cell?, hr, show i < zs.length by omega]
      have hfD : wr.frozen? ⟨D, i, none⟩ = false := by simp [World.frozen?, hr]
      have hset := setCell_heap wr D i (.int .i64 x) _ _ hr
      have hc1' : (wr.setCell ⟨D, i, none⟩ (.int .i64 x)).cell? ⟨b1, o1 + i, none⟩ = some (.int .i64 t) := (World.cell?_setCell_other _ _ _ _ (by intro e; have h := congrArg Addr.block e; simp at h; omega)).trans hc1
      have c0' : (wr.setCell ⟨D, i, none⟩ (.int .i64 x)).cell? ⟨w.heap.size, 0, none⟩ = some (.slice (some ⟨b1, o1, none⟩) n c) := (World.cell?_setCell_other _ _ _ _ (by intro e; have h := congrArg Addr.block e; simp at h; omega)).trans c0
      have yb : Boxed (wr.setCell ⟨D, i, none⟩ (.int .i64 x)) w.heap.size 24 (.slice (some ⟨b1, o1, none⟩) n c) := (Below.heap_setCell _ _ _ _ (show w.heap.size ≠ D by omega)).trans y0
      have hBs : Below w.heap.size w (wr.setCell ⟨D, i, none⟩ (.int .i64 x)) := hB3.setCell (by show w.heap.size ≤ D; omega) _
      have Hx := Lib.hid (And.intro ha' (And.intro hx' (And.intro hzl (And.intro hok (And.intro hset (And.intro yb hBs))))))
      have hji2 : ((i : Int) + 1) - 1 = (i : Int) := by omega
      rw [hji]
      clear ha' hx' hzl hok hset yb hBs hst ha ht hq hrm hr hxb htb hab hab1 y0
      go_wp2_with (fail)
      go_roundg i
      case measure => omega
      case rel =>
        obtain ⟨e1, e2, e3, e4, e5, e6, e7⟩ := Hx.out
        refine ⟨i, a', zs.set i x, ⟨by omega, rfl, rfl, rfl⟩, e1, ⟨e6, ?_⟩, ⟨by rw [List.length_set]; exact e3, fun i' hi1 hi2 => ?_⟩, e7⟩
        · rw [e5]
          simp [List.map_set]
        · rw [List.getElem?_set]
          by_cases hii : i = i'
          · subst hii
            rw [if_pos rfl, if_pos (by omega), Option.getD_some]
            exact e2
          · rw [if_neg hii]
            exact e4 i' (by omega) hi2
    · obtain rfl : j = 0 := by omega
      have hzx : zs = xs := by
        refine List.ext_getElem? fun i => ?_
        have e2 := Hv.out.2.2.2.2
        have e3 := Hv.out.2.1
        by_cases hi : i < n
        · have := hok i (by omega) hi
          rw [List.getElem?_eq_getElem (by omega), List.getElem?_eq_getElem (show i < xs.length by omega)] at this ⊢
          simpa using this
        · rw [List.getElem?_eq_none (by omega), List.getElem?_eq_none (by omega)]
      subst hzx
      go_wp2_with (fail)
      go_ret
      exact ⟨D, by omega, rfl, hr, hB3⟩
end Go.Proofs.YthjgecblkagelaaGreat
