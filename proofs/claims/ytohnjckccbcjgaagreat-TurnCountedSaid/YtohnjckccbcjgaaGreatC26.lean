/- Parts of a proof: CG CH. -/
import Derived.Test.YtohnjckccbcjgaaGreatC25

/- State: a state by numbers. -/
namespace Go.Proofs.YtohnjckccbcjgaaGreat
open Go.RowKit Go.Shelf

attribute [local go_sem] Oper.semAt_some

/-- A slice of bytes. -/
def U8At (w : World) (B : Nat) (A : Option Addr) (n : Nat) (bs : List Int) : Prop :=
  bs.length = n ∧ n ≤ 9223372036854775807 ∧ (0 < n → ∃ b off, A = some ⟨b, off, none⟩ ∧ b < B ∧ ∀ j, j < n → w.cell? ⟨b, off + j, none⟩ = some (.int .u8 (bs[j]?.getD 0)) ∧ 0 ≤ bs[j]?.getD 0 ∧ bs[j]?.getD 0 ≤ 255)
theorem U8At.below {w w' : World} {B D : Nat} {A : Option Addr} {n : Nat} {bs : List Int} (h : U8At w B A n bs) (hb : Below D w w') (hD : B ≤ D) : U8At w' B A n bs :=
  ⟨h.1, h.2.1, fun h0 => by
    obtain ⟨b, off, e, hlt, hc⟩ := h.2.2 h0
    exact ⟨b, off, e, hlt, fun j hj => ⟨(hb.cell (p := ⟨b, off + j, none⟩) (show b < D by omega)).trans (hc j hj).1, (hc j hj).2⟩⟩⟩

set_option maxRecDepth 100000 in
set_option maxHeartbeats 4000000 in
theorem State_any (w : World) (B B2 : Nat) (A A2 : Option Addr) (n c m d : Nat) (ts bs : List Int) (hx : IntsAt w B A n ts) (hB : B ≤ w.heap.size) (hb8 : U8At w B2 A2 m bs) (hB2 : B2 ≤ w.heap.size) (hv : Valid ts) :
    Calls Tryz.prog 14 #[.agg #[.slice A n c], .slice A2 m d] w fun e w' => ∃ g xs, w.heap.size ≤ g ∧ e = .returned (.slice (some ⟨g, 0, none⟩) n n) ∧ w'.heap[g]? = some (.cells (xs.map (Value.int .i64)).toArray 3 (0, 0)) ∧ (xs.length = n ∧ stateOk ts xs = true) ∧ Below w.heap.size w w' := by
  have hb0 : Below w.heap.size w (w.alloc (.cells #[.slice A n c] 24)) := (Below.refl _ w).alloc (Nat.le_refl _) _
  have x0 := Boxed.new w 24 (.slice A n c)
  have c0 := x0.cell
  have hl := hx.len
  have h1 := hv.h1
  have h5 := hv.h5
  have Hv := Lib.hid (And.intro hv hl)
  have hm8 := hb8.2.1
  rw [hl] at h1 h5
  clear hl hv
  go_enter Tryz.func14, Tryz.ntmps14
  go_wp2_with (fail)
  refine (Empty_any _ A n c h1 h5).mono ?_
  rintro e w2 ⟨D, hD, rfl, hr, hb⟩
  have hB3 := hb0.trans (hb.mono hb0.size)
  have y0 := bxBelow x0 hb x0.lt
  simp only [World.size_alloc] at hD
  clear hb0 hb x0 c0
  have c0 := y0.cell
  go_wp2_with (fail)
  go_loopg [6] n (fun g v6 wr => ∃ (j : Nat) (xs : List Int), (j ≤ n ∧ g = n - j ∧ v6 = .int .i64 (j : Int)) ∧ (Boxed wr w.heap.size 24 (.slice A n c) ∧ wr.heap[D]? = some (.cells (xs.map (Value.int .i64)).toArray 3 (0, 0))) ∧ (xs.length = n ∧ ∀ i : Nat, i < n → 0 ≤ xs[i]?.getD 0 ∧ xs[i]?.getD 0 ≤ ts[i]?.getD 0) ∧ Below w.heap.size w wr)
  case atStart =>
    refine ⟨0, List.replicate n 0, ⟨Nat.zero_le _, rfl, rfl⟩, ⟨y0, hr⟩, ⟨by simp, fun i hi => ?_⟩, hB3⟩
    have := Hv.out.1.h12 i (by have := Hv.out.2; omega)
    simp [hi]
    omega
  case round =>
    clear y0 hr hB3 c0
    obtain ⟨j, xs, ⟨hjn, rfl, rfl⟩, ⟨y0, hr⟩, ⟨hxl, hok⟩, hB3⟩ := hrel
    have c0 := y0.cell
    have Hx := Lib.hid (And.intro hxl (And.intro hok hr))
    clear hxl hok hr
    by_cases hj : j < n
    · by_cases hm : 0 < m
      · obtain ⟨b1, o1, rfl, hb1, hcj⟩ := (hx.below hB3 hB).cell hj
        obtain ⟨b2, o2, rfl, hb2, hc8⟩ := (hb8.below hB3 hB2).2.2 hm
        obtain ⟨q, hq⟩ : ∃ q, q = j % m := ⟨_, rfl⟩
        have hqm : q < m := by rw [hq]; exact Nat.mod_lt _ hm
        obtain ⟨hcq, h80, h81⟩ := hc8 q hqm
        obtain ⟨tj, htj⟩ : ∃ tj, tj = ts[j]?.getD 0 := ⟨_, rfl⟩
        obtain ⟨bq, hbq⟩ : ∃ bq, bq = bs[q]?.getD 0 := ⟨_, rfl⟩
        rw [← hbq] at hcq h80 h81
        rw [← htj] at hcj
        have ht12 : 1 ≤ tj ∧ tj ≤ 12 := by rw [htj]; exact Hv.out.1.h12 j (by have := Hv.out.2; omega)
        have hmod : (j : Int) % (m : Int) = (q : Int) := by rw [hq]; simp
        obtain ⟨z, hz⟩ : ∃ z, z = bq % (tj + 1) := ⟨_, rfl⟩
        have hz0 : 0 ≤ z ∧ z ≤ tj := by
          rw [hz]
          have h1 := Int.emod_nonneg bq (show tj + 1 ≠ 0 by omega)
          have h2 := Int.emod_lt_of_pos bq (show 0 < tj + 1 by omega)
          omega
        have hmod2 : bq % (tj + 1) = z := hz.symm
        have Hq := Lib.hid (And.intro hq (And.intro htj hbq))
        clear hc8 hq htj hbq hz
        have hm0 : ¬ (m : Int) = 0 := by omega
        have ht0 : ¬ tj + 1 = 0 := by omega
        have hwq : IntKind.i64.wrap (q : Int) = (q : Int) := by rw [IntKind.wrap_i64]; omega
        have hwz : IntKind.i64.wrap z = z := by rw [IntKind.wrap_i64]; omega
        have hwb : IntKind.i64.wrap bq = bq := by rw [IntKind.wrap_i64]; omega
        have hwt : IntKind.i64.wrap (tj + 1) = tj + 1 := by rw [IntKind.wrap_i64]; omega
        have hwj : IntKind.i64.wrap ((j : Int) + 1) = (j : Int) + 1 := by rw [IntKind.wrap_i64]; omega
        have htm1 : ((j : Int)).tmod (m : Int) = (q : Int) := by rw [Int.tmod_eq_emod_of_nonneg (by omega)]; exact hmod
        have htm2 : bq.tmod (tj + 1) = z := by rw [Int.tmod_eq_emod_of_nonneg h80]; exact hmod2
        have hcD : wr.cell? ⟨D, j, none⟩ = some (.int .i64 (xs[j]?.getD 0)) := by
          have := Hx.out.1
          simp [World.cell?, Hx.out.2.2, show j < xs.length by omega]
        have hfD : wr.frozen? ⟨D, j, none⟩ = false := by simp [World.frozen?, Hx.out.2.2]
        go_wp2_with (fail)
        refine region_held_wp 1 (fun W' => W' = wr.drew) (fun j => decide (j < 18)) (by kernel_rfl) ?_
        intro KR hKR
        have hS : wr.drew = wr.drew := rfl
        refine wpAnyHI_takeE (i := 0) (v := .slice (some ⟨D, 0, none⟩) n n) (some 20) rfl rfl (by kernel_rfl) (by kernel_rfl) (by kernel_rfl) (by kernel_rfl) (by kernel_rfl) (fun _ _ _ h => h) hS (.inl ⟨by kernel_rfl, fun W' hS' => ?_⟩) ?_
        · subst hS'; go_simp
        refine wpAnyHI_takeE (i := 1) (v := .int .i64 (j : Int)) (some 21) rfl rfl (by kernel_rfl) (by kernel_rfl) (by kernel_rfl) (by kernel_rfl) (by kernel_rfl) (fun _ _ _ h => h) hS (.inl ⟨by kernel_rfl, fun W' hS' => ?_⟩) ?_
        · subst hS'; go_simp
        refine wpAnyHI_takeE (i := 2) (v := .slice (some ⟨b2, o2, none⟩) m d) (some 22) rfl rfl (by kernel_rfl) (by kernel_rfl) (by kernel_rfl) (by kernel_rfl) (by kernel_rfl) (fun _ _ _ h => h) hS (.inl ⟨by kernel_rfl, fun W' hS' => ?_⟩) ?_
        · subst hS'; go_simp
        refine wpAnyHI_takeE (i := 3) (v := .int .i64 (j : Int)) (some 23) rfl rfl (by kernel_rfl) (by kernel_rfl) (by kernel_rfl) (by kernel_rfl) (by kernel_rfl) (fun _ _ _ h => h) hS (.inl ⟨by kernel_rfl, fun W' hS' => ?_⟩) ?_
        · subst hS'; go_simp
        refine wpAnyHI_takeE (i := 4) (v := .slice (some ⟨b2, o2, none⟩) m d) (some 24) rfl rfl (by kernel_rfl) (by kernel_rfl) (by kernel_rfl) (by kernel_rfl) (by kernel_rfl) (fun _ _ _ h => h) hS (.inl ⟨by kernel_rfl, fun W' hS' => ?_⟩) ?_
        · subst hS'; go_simp
        refine wpAnyHI_takeE (i := 5) (v := .int .i64 (m : Int)) (some 25) rfl rfl (by kernel_rfl) (by kernel_rfl) (by kernel_rfl) (by kernel_rfl) (by kernel_rfl) (fun _ _ _ h => h) hS (.inl ⟨by kernel_rfl, fun W' hS' => ?_⟩) ?_
        · subst hS'; go_simp
        refine wpAnyHI_takeE (i := 6) (v := .int .i64 (q : Int)) (some 26) rfl rfl (by kernel_rfl) (by kernel_rfl) (by kernel_rfl) (by kernel_rfl) (by kernel_rfl) (fun _ _ _ h => h) hS (.inl ⟨by kernel_rfl, fun W' hS' => ?_⟩) ?_
        · subst hS'; go_simp; omega
        refine wpAnyHI_takeE (i := 7) (v := .pointer (some ⟨b2, o2 + q, none⟩)) (some 27) rfl rfl (by kernel_rfl) (by kernel_rfl) (by kernel_rfl) (by kernel_rfl) (by kernel_rfl) (fun _ _ _ h => h) hS (.inl ⟨by kernel_rfl, fun W' hS' => ?_⟩) ?_
        · subst hS'; go_simp
        refine wpAnyHI_takeE (i := 8) (v := .int .u8 bq) (some 28) rfl rfl (by kernel_rfl) (by kernel_rfl) (by kernel_rfl) (by kernel_rfl) (by kernel_rfl) (fun _ _ _ h => h) hS (.inl ⟨by kernel_rfl, fun W' hS' => ?_⟩) ?_
        · subst hS'; go_simp
        refine wpAnyHI_takeE (i := 9) (v := .int .i64 bq) (some 29) rfl rfl (by kernel_rfl) (by kernel_rfl) (by kernel_rfl) (by kernel_rfl) (by kernel_rfl) (fun _ _ _ h => h) hS (.inl ⟨by kernel_rfl, fun W' hS' => ?_⟩) ?_
        · subst hS'; go_simp
        refine wpAnyHI_takeE (i := 10) (v := .pointer (some ⟨w.heap.size, 0, none⟩)) (some 30) rfl rfl (by kernel_rfl) (by kernel_rfl) (by kernel_rfl) (by kernel_rfl) (by kernel_rfl) (fun _ _ _ h => h) hS (.inl ⟨by kernel_rfl, fun W' hS' => ?_⟩) ?_
        · subst hS'; go_simp
        refine wpAnyHI_takeE (i := 11) (v := .slice (some ⟨b1, o1, none⟩) n c) (some 31) rfl rfl (by kernel_rfl) (by kernel_rfl) (by kernel_rfl) (by kernel_rfl) (by kernel_rfl) (fun _ _ _ h => h) hS (.inl ⟨by kernel_rfl, fun W' hS' => ?_⟩) ?_
        · subst hS'; go_simp
        refine wpAnyHI_takeE (i := 12) (v := .int .i64 (j : Int)) (some 32) rfl rfl (by kernel_rfl) (by kernel_rfl) (by kernel_rfl) (by kernel_rfl) (by kernel_rfl) (fun _ _ _ h => h) hS (.inl ⟨by kernel_rfl, fun W' hS' => ?_⟩) ?_
        · subst hS'; go_simp
        refine wpAnyHI_takeE (i := 13) (v := .pointer (some ⟨b1, o1 + j, none⟩)) (some 33) rfl rfl (by kernel_rfl) (by kernel_rfl) (by kernel_rfl) (by kernel_rfl) (by kernel_rfl) (fun _ _ _ h => h) hS (.inl ⟨by kernel_rfl, fun W' hS' => ?_⟩) ?_
        · subst hS'; go_simp
        refine wpAnyHI_takeE (i := 14) (v := .int .i64 tj) (some 34) rfl rfl (by kernel_rfl) (by kernel_rfl) (by kernel_rfl) (by kernel_rfl) (by kernel_rfl) (fun _ _ _ h => h) hS (.inl ⟨by kernel_rfl, fun W' hS' => ?_⟩) ?_
        · subst hS'; go_simp
        refine wpAnyHI_takeE (i := 15) (v := .int .i64 (tj + 1)) (some 35) rfl rfl (by kernel_rfl) (by kernel_rfl) (by kernel_rfl) (by kernel_rfl) (by kernel_rfl) (fun _ _ _ h => h) hS (.inl ⟨by kernel_rfl, fun W' hS' => ?_⟩) ?_
        · subst hS'; go_simp
        refine wpAnyHI_takeE (i := 16) (v := .int .i64 z) (some 36) rfl rfl (by kernel_rfl) (by kernel_rfl) (by kernel_rfl) (by kernel_rfl) (by kernel_rfl) (fun _ _ _ h => h) hS (.inl ⟨by kernel_rfl, fun W' hS' => ?_⟩) ?_
        · subst hS'; go_simp
        refine wpAnyHI_takeE (i := 17) (v := .pointer (some ⟨D, j, none⟩)) (some 37) rfl rfl (by kernel_rfl) (by kernel_rfl) (by kernel_rfl) (by kernel_rfl) (by kernel_rfl) (fun _ _ _ h => h) hS (.inl ⟨by kernel_rfl, fun W' hS' => ?_⟩) ?_
        · subst hS'; go_simp
        refine wpAnyHI_one (i := 18) rfl (by kernel_rfl) ?_
        intro K1 hK1
        go_simp
        refine hK1 _ _ ⟨fun h => absurd h (by decide), ?_⟩
        clear hK1 K1
        refine wpAnyHI_end (by kernel_rfl) ?_
        show KR _ _
        refine hKR _ _ ?_
        clear hKR KR
        have hset := setCell_heap wr D j (.int .i64 z) _ _ Hx.out.2.2
        have Hset := Lib.hid hset
        clear hset
        have yb : Boxed (wr.setCell ⟨D, j, none⟩ (.int .i64 z)) w.heap.size 24 (.slice (some ⟨b1, o1, none⟩) n c) := (Below.heap_setCell _ _ _ _ (show w.heap.size ≠ D by omega)).trans y0
        have hBs : Below w.heap.size w (wr.setCell ⟨D, j, none⟩ (.int .i64 z)) := hB3.setCell (by show w.heap.size ≤ D; omega) _
        have Hys := Lib.hid (And.intro yb hBs)
        clear yb hBs
        go_wp2_with (fail)
        go_roundg (n - (j + 1))
        case measure => omega
        case rel =>
          obtain ⟨hxl, hok, -⟩ := Hx.out
          refine ⟨j + 1, xs.set j z, ⟨by omega, rfl, rfl⟩, ⟨Hys.out.1, ?_⟩, ⟨by rw [List.length_set]; exact hxl, fun i hi => ?_⟩, Hys.out.2.trans ((below_drew _).mono Hys.out.2.size)⟩
          · show (wr.setCell ⟨D, j, none⟩ (.int .i64 z)).heap[D]? = _
            rw [Hset.out]
            simp [List.map_set]
          · rw [List.getElem?_set]
            by_cases hji : j = i
            · subst hji
              rw [if_pos rfl, if_pos (by omega), Option.getD_some, ← Hq.out.2.1]
              exact hz0
            · rw [if_neg hji]
              exact hok i hi
      · go_wp2_with (fail)
        go_ret
        exact ⟨D, xs, by omega, rfl, Hx.out.2.2, ⟨Hx.out.1, stateOk_true fun i hi => Hx.out.2.1 i (by have := Hv.out.2; omega)⟩, hB3⟩
    · go_wp2_with (fail)
      go_ret
      exact ⟨D, xs, by omega, rfl, Hx.out.2.2, ⟨Hx.out.1, stateOk_true fun i hi => Hx.out.2.1 i (by have := Hv.out.2; omega)⟩, hB3⟩
end Go.Proofs.YtohnjckccbcjgaaGreat

/- TurnCounted: the walk. -/
namespace Go.Proofs.YtohnjckccbcjgaaGreat
open Go.RowKit Go.Shelf

attribute [local go_sem] Oper.semAt_some

/-- A slice of pairs of bytes. -/
def U2At (w : World) (B : Nat) (A : Option Addr) (n : Nat) (xs ys : Nat → Int) : Prop :=
  n ≤ 9223372036854775807 ∧ (0 < n → ∃ b off, A = some ⟨b, off, none⟩ ∧ b < B ∧ ∀ j, j < n → w.cell? ⟨b, off + j * 2, none⟩ = some (.int .u8 (xs j)) ∧ w.cell? ⟨b, off + j * 2 + 1, none⟩ = some (.int .u8 (ys j)) ∧ (0 ≤ xs j ∧ xs j ≤ 255) ∧ 0 ≤ ys j ∧ ys j ≤ 255)
theorem U2At.below {w w' : World} {B D : Nat} {A : Option Addr} {n : Nat} {xs ys : Nat → Int} (h : U2At w B A n xs ys) (hb : Below D w w') (hD : B ≤ D) : U2At w' B A n xs ys :=
  ⟨h.1, fun h0 => by
    obtain ⟨b, off, e, hlt, hc⟩ := h.2 h0
    exact ⟨b, off, e, hlt, fun j hj => ⟨(hb.cell (p := ⟨b, off + j * 2, none⟩) (show b < D by omega)).trans (hc j hj).1, (hb.cell (p := ⟨b, off + j * 2 + 1, none⟩) (show b < D by omega)).trans (hc j hj).2.1, (hc j hj).2.2⟩⟩⟩
theorem pow_five {n : Nat} (h1 : 1 ≤ n) (h5 : n ≤ 5) : ∃ p : Nat, p = 2 ^ n ∧ 2 ≤ p ∧ p ≤ 32 := by
  have : n = 1 ∨ n = 2 ∨ n = 3 ∨ n = 4 ∨ n = 5 := by omega
  rcases this with rfl | rfl | rfl | rfl | rfl
  · exact ⟨2, rfl, by omega, by omega⟩
  · exact ⟨4, rfl, by omega, by omega⟩
  · exact ⟨8, rfl, by omega, by omega⟩
  · exact ⟨16, rfl, by omega, by omega⟩
  · exact ⟨32, rfl, by omega, by omega⟩
theorem wins_of {n : Nat} {ps : List Int} (h : ∀ p ∈ ps, 0 ≤ p ∧ p < (n : Int)) : winsF n ps = true :=
  List.all_eq_true.2 fun p hp => by
    have := h p hp
    simpa [isWinF] using this

set_option maxRecDepth 100000 in
set_option maxHeartbeats 8000000 in
theorem TurnCounted_any (w : World) (B1 B2 B3 : Nat) (A1 A2 A3 : Option Addr) (n c m d k f : Nat) (ts bs : List Int) (px py : Nat → Int) (h1 : IntsAt w B1 A1 n ts) (hB1 : B1 ≤ w.heap.size) (h2 : U8At w B2 A2 m bs) (hB2 : B2 ≤ w.heap.size) (h3 : U2At w B3 A3 k px py) (hB3 : B3 ≤ w.heap.size) :
    Calls Tryz.prog 4 #[.agg #[.slice A1 n c], .slice A2 m d, .slice A3 k f] w fun e w' => e = .returned (.bool true) ∧ Below w.heap.size w w' := by
  have hb0 : Below w.heap.size w (w.alloc (.cells #[.slice A1 n c] 24)) := (Below.refl _ w).alloc (Nat.le_refl _) _
  have x0 := Boxed.new w 24 (.slice A1 n c)
  have hm8 := h2.2.1
  have hk8 := h3.1
  go_enter Tryz.func4, Tryz.ntmps4
  go_wp2_with (fail)
  refine (fine_any _ B1 A1 n c ts (h1.below hb0 hB1) (by have := hb0.size; omega)).mono ?_
  rintro e w2 ⟨rfl, hb2⟩
  have hB2' := hb0.trans (hb2.mono hb0.size)
  have x2 := bxBelow x0 hb2 x0.lt
  have c2 := x2.cell
  have hz2 := hB2'.size
  clear hb0 hb2 x0
  by_cases hc : checkHallF ts = 0
  case neg =>
    rw [decide_eq_false hc]
    clear hc
    go_wp2_with (fail)
    refine (Works_any _).mono ?_
    rintro e w3 ⟨rfl, hb⟩
    go_wp2_with (fail)
    go_ret
    exact ⟨rfl, hB2'.trans (hb.mono hz2)⟩
  rw [decide_eq_true hc]
  have hv := valid_of hc
  have h1n : 1 ≤ n := by have := hv.h1; have := h1.len; omega
  have h5n : n ≤ 5 := by have := hv.h5; have := h1.len; omega
  have Hv := Lib.hid (And.intro hv (And.intro hc h1.len))
  clear hv hc
  by_cases hm : 20 < (m : Int)
  · go_wp2_with (fail)
    refine (Works_any _).mono ?_
    rintro e w3 ⟨rfl, hb⟩
    go_wp2_with (fail)
    go_ret
    exact ⟨rfl, hB2'.trans (hb.mono hz2)⟩
  by_cases hk : 60 < (k : Int)
  · go_wp2_with (fail)
    refine (Works_any _).mono ?_
    rintro e w3 ⟨rfl, hb⟩
    go_wp2_with (fail)
    go_ret
    exact ⟨rfl, hB2'.trans (hb.mono hz2)⟩
  go_wp2_with (fail)
  refine (State_any w2 B1 B2 A1 A2 n c m d ts bs (h1.below hB2' hB1) (by omega) (h2.below hB2' hB2) (by omega) Hv.out.1).mono ?_
  rintro e w3 hpost
  obtain ⟨g, s0, hg, rfl, hrow, ⟨hs0, hok⟩, hb3⟩ := hpost
  have hB3' := hB2'.trans (hb3.mono hz2)
  have x3 := bxBelow x2 hb3 x2.lt
  have hz3 := hB3'.size
  have hst : statedF ts s0 = 0 := by
    unfold statedF
    rw [if_neg (by rw [Hv.out.2.1]; simp), if_neg (by have := Hv.out.2.2; simp; omega), if_pos hok]
  have hi3 : IntsAt w3 w3.heap.size (some ⟨g, 0, none⟩) n s0 := by
    refine ⟨hs0, by omega, fun _ => ⟨g, 0, rfl, ?_, fun j hj => ?_⟩⟩
    · rcases Nat.lt_or_ge g w3.heap.size with h | h
      · exact h
      · rw [Array.getElem?_eq_none h] at hrow
        cases hrow
    · simp [World.cell?, hrow, show j < s0.length by omega]
  have H3 := Lib.hid (And.intro hst (And.intro hi3 hs0))
  have hsum : ∀ j : Nat, j ≤ n → 0 ≤ (s0.take j).sum ∧ (s0.take j).sum ≤ 60 := fun j hj => by
    have := sum_take_bounds s0 (stated_twelve hst) j (by omega)
    omega
  clear hst hi3 hrow hok hb3 x2 c2 hB2' hz2 hg
  have c3 := x3.cell
  go_wp2_with (fail)
  go_loopg [8, 9] n (fun gg v8 v9 wr => ∃ j : Nat, (j ≤ n ∧ gg = n - j ∧ v9 = .int .i64 (j : Int) ∧ v8 = .int .i64 (s0.take j).sum) ∧ w3 = wr)
  case atStart => exact ⟨0, ⟨Nat.zero_le _, rfl, rfl, rfl⟩, rfl⟩
  case round =>
    obtain ⟨j, ⟨hjn, rfl, rfl, rfl⟩, rfl⟩ := hrel
    by_cases hj : j < n
    · have hwj : IntKind.i64.wrap ((j : Int) + 1) = (j : Int) + 1 := by rw [IntKind.wrap_i64]; omega
      obtain ⟨b0, o0, e0, -, hcj⟩ := H3.out.2.1.cell hj
      cases e0
      rw [Nat.zero_add] at hcj
      obtain ⟨sj, hsj⟩ : ∃ sj, sj = s0[j]?.getD 0 := ⟨_, rfl⟩
      obtain ⟨tj, htj⟩ : ∃ tj, tj = (s0.take j).sum := ⟨_, rfl⟩
      rw [← hsj] at hcj
      rw [← htj]
      have hb1 := hsum j hjn
      have hb2 := hsum (j + 1) hj
      have hsucc := sum_take_succ s0 j (by omega)
      rw [← hsj, ← htj] at hsucc
      rw [hsucc] at hb2
      rw [← htj] at hb1
      have hws : IntKind.i64.wrap (tj + sj) = tj + sj := by rw [IntKind.wrap_i64]; omega
      have Hj := Lib.hid hsucc
      clear hsj htj hsucc hb1 hb2 hsum
      go_wp2_with (fail)
      go_roundg (n - (j + 1))
      case measure => omega
      case rel => exact ⟨j + 1, ⟨hj, rfl, rfl, by rw [Hj.out]⟩, rfl⟩
    · obtain rfl : n = j := by omega
      have hall : (s0.take n).sum = s0.sum := by rw [List.take_of_length_le (by omega)]
      rw [hall]
      clear hall
      have hlt : ¬ (n : Int) < (n : Int) := by omega
      go_wp2_with (fail)
      clear hlt hj
      go_loopg [7, 8, 10] k (fun gg v7 v8 v10 wr => ∃ (j : Nat) (A' : Option Addr) (d' : Nat) (ss : List Int), (j ≤ k ∧ gg = k - j ∧ v10 = .int .i64 (j : Int) ∧ v7 = .slice A' n d' ∧ v8 = .int .i64 ss.sum) ∧ (Boxed wr w.heap.size 24 (.slice A1 n c) ∧ Below w.heap.size w wr ∧ IntsAt wr wr.heap.size A' n ss) ∧ statedF ts ss = 0)
      case atStart => exact ⟨0, some ⟨g, 0, none⟩, n, s0, ⟨Nat.zero_le _, rfl, rfl, rfl, rfl⟩, ⟨x3, hB3', H3.out.2.1⟩, H3.out.1⟩
      case round =>
        clear x3 hB3' H3 hsum c3 hz3 hs0
        obtain ⟨j, A', d', ss, ⟨hjk, rfl, rfl, rfl, rfl⟩, ⟨y0, hB, hss⟩, hstated⟩ := hrel
        have Hs := Lib.hid (And.intro hstated hss)
        have hsb : 0 ≤ ss.sum ∧ ss.sum ≤ 60 := by
          have h := sum_take_bounds ss (stated_twelve hstated) ss.length (Nat.le_refl _)
          rw [List.take_length] at h
          have := hss.len
          omega
        clear hstated hss
        obtain ⟨sm, hsm⟩ : ∃ sm, sm = ss.sum := ⟨_, rfl⟩
        rw [← hsm] at hsb ⊢
        have Hm := Lib.hid hsm
        clear hsm
        have c0 := y0.cell
        have hz := y0.lt
        have hzw := hB.size
        by_cases hj : j < k
        · obtain ⟨b3, o3, rfl, hb3, hc3⟩ := (h3.below hB hB3).2 (by omega)
          obtain ⟨hcx, hcy, hxb, hyb⟩ := hc3 j hj
          obtain ⟨xj, hxj⟩ : ∃ xj, xj = px j := ⟨_, rfl⟩
          obtain ⟨yj, hyj⟩ : ∃ yj, yj = py j := ⟨_, rfl⟩
          rw [← hxj] at hcx hxb
          rw [← hyj] at hcy hyb
          clear hc3 hxj hyj
          obtain ⟨p, hp, hp2, hp32⟩ := pow_five h1n h5n
          obtain ⟨q, hq⟩ : ∃ q : Nat, (q : Int) = xj % (p : Int) := ⟨(xj % (p : Int)).toNat, by have := Int.emod_nonneg xj (show (p : Int) ≠ 0 by omega); omega⟩
          have hqp : q < p := by have := Int.emod_lt_of_pos xj (show 0 < (p : Int) by omega); omega
          obtain ⟨i, hi⟩ : ∃ i : Nat, (i : Int) = yj % (n : Int) := ⟨(yj % (n : Int)).toNat, by have := Int.emod_nonneg yj (show (n : Int) ≠ 0 by omega); omega⟩
          have hin : i < n := by have := Int.emod_lt_of_pos yj (show 0 < (n : Int) by omega); omega
          have htm1 : xj.tmod (p : Int) = (q : Int) := by rw [Int.tmod_eq_emod_of_nonneg hxb.1]; exact hq.symm
          have htm2 : yj.tmod (n : Int) = (i : Int) := by rw [Int.tmod_eq_emod_of_nonneg hyb.1]; exact hi.symm
          have hwx : IntKind.i64.wrap xj = xj := by rw [IntKind.wrap_i64]; omega
          have hwy : IntKind.i64.wrap yj = yj := by rw [IntKind.wrap_i64]; omega
          have hpi : (2 : Int) ^ n = (p : Int) := by rw [hp]; simp
          have hwp : IntKind.i64.wrap (2 ^ n) = (p : Int) := by rw [hpi, IntKind.wrap_i64]; omega
          have hwj : IntKind.i64.wrap ((j : Int) + 1) = (j : Int) + 1 := by rw [IntKind.wrap_i64]; omega
          have Hp := Lib.hid (And.intro hp (And.intro hqp hin))
          clear hp hq hi hpi
          go_wp2_with (fail)
          refine region_held_wp 1 (fun W' => W' = wr.drew) (fun j => decide (j < 11)) (by kernel_rfl) ?_
          intro KR hKR
          have hS : wr.drew = wr.drew := rfl
          refine wpAnyHI_takeE (i := 0) (v := .slice (some ⟨b3, o3, none⟩) k f) (some 54) rfl rfl (by kernel_rfl) (by kernel_rfl) (by kernel_rfl) (by kernel_rfl) (by kernel_rfl) (fun _ _ _ h => h) hS (.inl ⟨by kernel_rfl, fun W' hS' => ?_⟩) ?_
          · subst hS'; go_simp
          refine wpAnyHI_takeE (i := 1) (v := .int .i64 (j : Int)) (some 55) rfl rfl (by kernel_rfl) (by kernel_rfl) (by kernel_rfl) (by kernel_rfl) (by kernel_rfl) (fun _ _ _ h => h) hS (.inl ⟨by kernel_rfl, fun W' hS' => ?_⟩) ?_
          · subst hS'; go_simp
          refine wpAnyHI_takeE (i := 2) (v := .pointer (some ⟨b3, o3 + j * 2, none⟩)) (some 56) rfl rfl (by kernel_rfl) (by kernel_rfl) (by kernel_rfl) (by kernel_rfl) (by kernel_rfl) (fun _ _ _ h => h) hS (.inl ⟨by kernel_rfl, fun W' hS' => ?_⟩) ?_
          · subst hS'; go_simp
          refine wpAnyHI_takeE (i := 3) (v := .pointer (some ⟨b3, o3 + j * 2, none⟩)) (some 57) rfl rfl (by kernel_rfl) (by kernel_rfl) (by kernel_rfl) (by kernel_rfl) (by kernel_rfl) (fun _ _ _ h => h) hS (.inl ⟨by kernel_rfl, fun W' hS' => ?_⟩) ?_
          · subst hS'; go_simp
          refine wpAnyHI_takeE (i := 4) (v := .int .u8 xj) (some 58) rfl rfl (by kernel_rfl) (by kernel_rfl) (by kernel_rfl) (by kernel_rfl) (by kernel_rfl) (fun _ _ _ h => h) hS (.inl ⟨by kernel_rfl, fun W' hS' => ?_⟩) ?_
          · subst hS'; go_simp
          refine wpAnyHI_takeE (i := 5) (v := .int .i64 xj) (some 59) rfl rfl (by kernel_rfl) (by kernel_rfl) (by kernel_rfl) (by kernel_rfl) (by kernel_rfl) (fun _ _ _ h => h) hS (.inl ⟨by kernel_rfl, fun W' hS' => ?_⟩) ?_
          · subst hS'; go_simp
          refine wpAnyHI_takeE (i := 6) (v := .pointer (some ⟨w.heap.size, 0, none⟩)) (some 60) rfl rfl (by kernel_rfl) (by kernel_rfl) (by kernel_rfl) (by kernel_rfl) (by kernel_rfl) (fun _ _ _ h => h) hS (.inl ⟨by kernel_rfl, fun W' hS' => ?_⟩) ?_
          · subst hS'; go_simp
          refine wpAnyHI_takeE (i := 7) (v := .slice A1 n c) (some 61) rfl rfl (by kernel_rfl) (by kernel_rfl) (by kernel_rfl) (by kernel_rfl) (by kernel_rfl) (fun _ _ _ h => h) hS (.inl ⟨by kernel_rfl, fun W' hS' => ?_⟩) ?_
          · subst hS'; go_simp
          refine wpAnyHI_takeE (i := 8) (v := .int .i64 (n : Int)) (some 62) rfl rfl (by kernel_rfl) (by kernel_rfl) (by kernel_rfl) (by kernel_rfl) (by kernel_rfl) (fun _ _ _ h => h) hS (.inl ⟨by kernel_rfl, fun W' hS' => ?_⟩) ?_
          · subst hS'; go_simp
          refine wpAnyHI_takeE (i := 9) (v := .int .i64 (p : Int)) (some 63) rfl rfl (by kernel_rfl) (by kernel_rfl) (by kernel_rfl) (by kernel_rfl) (by kernel_rfl) (fun _ _ _ h => h) hS (.inl ⟨by kernel_rfl, fun W' hS' => ?_⟩) ?_
          · subst hS'; go_simp
          refine wpAnyHI_takeE (i := 10) (v := .int .i64 (q : Int)) (some 64) rfl rfl (by kernel_rfl) (by kernel_rfl) (by kernel_rfl) (by kernel_rfl) (by kernel_rfl) (fun _ _ _ h => h) hS (.inl ⟨by kernel_rfl, fun W' hS' => ?_⟩) ?_
          · subst hS'; go_simp; omega
          refine wpAnyHI_one (i := 11) rfl (by kernel_rfl) ?_
          intro K1 hK1
          go_simp
          refine ⟨trivial, (callsIn_wide.2 (Bits_any wr.drew q n (by rw [← Hp.out.1]; exact Hp.out.2.1) h5n)).mono ?_⟩
          rintro e w5 ⟨v5, ps, rfl, hrow5, hps, ⟨hlen, hinc⟩, hb5⟩
          have hbw5 : Below wr.heap.size wr w5 := (below_drew wr).trans hb5
          have hB5 : Below w.heap.size w w5 := hB.trans (hbw5.mono hzw)
          obtain ⟨A5, m5, c5, rfl, hi5⟩ := ListAt.of_row hrow5 (by omega)
          have hm5 := hi5.len
          have hm55 : m5 ≤ 5 := by omega
          have hwins := wins_of hps
          have H5 := Lib.hid (And.intro hi5 (And.intro hps (And.intro hinc (And.intro hwins hm5))))
          clear hrow5 hi5 hps hinc hwins hm5 hlen
          refine hK1 _ _ ⟨fun h => absurd h (by decide), ?_⟩
          clear hK1 K1
          refine wpAnyHI_takeW (i := 12) (v := .slice A5 m5 c5) (some 11) rfl rfl (by kernel_rfl) (by kernel_rfl) (by kernel_rfl) (by kernel_rfl) (fun _ _ _ h => h) (.inl ⟨by kernel_rfl, fun W' hS' => ?_⟩) ?_
          · go_simp
          refine wpAnyHI_end (by kernel_rfl) ?_
          show KR _ _
          refine hKR _ _ ?_
          clear hKR KR
          have y5 : Boxed w5 w.heap.size 24 (.slice A1 n c) := bxBelow y0 hbw5 y0.lt
          have c5' := y5.cell
          have hcy5 : w5.cell? ⟨b3, o3 + j * 2 + 1, none⟩ = some (.int .u8 yj) := (hbw5.cell (p := ⟨b3, o3 + j * 2 + 1, none⟩) (show b3 < wr.heap.size by omega)).trans hcy
          have hz5 := hB5.size
          have hss5 := Hs.out.2.below hbw5 (Nat.le_refl _)
          have hzw5 := hbw5.size
          have Hs5 := Lib.hid hss5
          clear hss5 y0 c0 hcx hcy hb5 htm1 hwx hwp hS
          go_wp2_with (fail)
          refine region_held_wp 1 (fun W' => W' = w5.drew) (fun j => decide (j < 13)) (by kernel_rfl) ?_
          intro KR hKR
          have hS : w5.drew = w5.drew := rfl
          refine wpAnyHI_takeE (i := 0) (v := .agg #[.slice A1 n c]) (some 67) rfl rfl (by kernel_rfl) (by kernel_rfl) (by kernel_rfl) (by kernel_rfl) (by kernel_rfl) (fun _ _ _ h => h) hS (.inl ⟨by kernel_rfl, fun W' hS' => ?_⟩) ?_
          · subst hS'; go_simp
          refine wpAnyHI_takeE (i := 1) (v := .slice A' n d') (some 68) rfl rfl (by kernel_rfl) (by kernel_rfl) (by kernel_rfl) (by kernel_rfl) (by kernel_rfl) (fun _ _ _ h => h) hS (.inl ⟨by kernel_rfl, fun W' hS' => ?_⟩) ?_
          · subst hS'; go_simp
          refine wpAnyHI_takeE (i := 2) (v := .slice A5 m5 c5) (some 69) rfl rfl (by kernel_rfl) (by kernel_rfl) (by kernel_rfl) (by kernel_rfl) (by kernel_rfl) (fun _ _ _ h => h) hS (.inl ⟨by kernel_rfl, fun W' hS' => ?_⟩) ?_
          · subst hS'; go_simp
          refine wpAnyHI_takeE (i := 3) (v := .slice (some ⟨b3, o3, none⟩) k f) (some 70) rfl rfl (by kernel_rfl) (by kernel_rfl) (by kernel_rfl) (by kernel_rfl) (by kernel_rfl) (fun _ _ _ h => h) hS (.inl ⟨by kernel_rfl, fun W' hS' => ?_⟩) ?_
          · subst hS'; go_simp
          refine wpAnyHI_takeE (i := 4) (v := .int .i64 (j : Int)) (some 71) rfl rfl (by kernel_rfl) (by kernel_rfl) (by kernel_rfl) (by kernel_rfl) (by kernel_rfl) (fun _ _ _ h => h) hS (.inl ⟨by kernel_rfl, fun W' hS' => ?_⟩) ?_
          · subst hS'; go_simp
          refine wpAnyHI_takeE (i := 5) (v := .pointer (some ⟨b3, o3 + j * 2, none⟩)) (some 72) rfl rfl (by kernel_rfl) (by kernel_rfl) (by kernel_rfl) (by kernel_rfl) (by kernel_rfl) (fun _ _ _ h => h) hS (.inl ⟨by kernel_rfl, fun W' hS' => ?_⟩) ?_
          · subst hS'; go_simp
          refine wpAnyHI_takeE (i := 6) (v := .pointer (some ⟨b3, o3 + j * 2 + 1, none⟩)) (some 73) rfl rfl (by kernel_rfl) (by kernel_rfl) (by kernel_rfl) (by kernel_rfl) (by kernel_rfl) (fun _ _ _ h => h) hS (.inl ⟨by kernel_rfl, fun W' hS' => ?_⟩) ?_
          · subst hS'; go_simp
          refine wpAnyHI_takeE (i := 7) (v := .int .u8 yj) (some 74) rfl rfl (by kernel_rfl) (by kernel_rfl) (by kernel_rfl) (by kernel_rfl) (by kernel_rfl) (fun _ _ _ h => h) hS (.inl ⟨by kernel_rfl, fun W' hS' => ?_⟩) ?_
          · subst hS'; go_simp
          refine wpAnyHI_takeE (i := 8) (v := .int .i64 yj) (some 75) rfl rfl (by kernel_rfl) (by kernel_rfl) (by kernel_rfl) (by kernel_rfl) (by kernel_rfl) (fun _ _ _ h => h) hS (.inl ⟨by kernel_rfl, fun W' hS' => ?_⟩) ?_
          · subst hS'; go_simp
          refine wpAnyHI_takeE (i := 9) (v := .pointer (some ⟨w.heap.size, 0, none⟩)) (some 76) rfl rfl (by kernel_rfl) (by kernel_rfl) (by kernel_rfl) (by kernel_rfl) (by kernel_rfl) (fun _ _ _ h => h) hS (.inl ⟨by kernel_rfl, fun W' hS' => ?_⟩) ?_
          · subst hS'; go_simp
          refine wpAnyHI_takeE (i := 10) (v := .slice A1 n c) (some 77) rfl rfl (by kernel_rfl) (by kernel_rfl) (by kernel_rfl) (by kernel_rfl) (by kernel_rfl) (fun _ _ _ h => h) hS (.inl ⟨by kernel_rfl, fun W' hS' => ?_⟩) ?_
          · subst hS'; go_simp
          refine wpAnyHI_takeE (i := 11) (v := .int .i64 (n : Int)) (some 78) rfl rfl (by kernel_rfl) (by kernel_rfl) (by kernel_rfl) (by kernel_rfl) (by kernel_rfl) (fun _ _ _ h => h) hS (.inl ⟨by kernel_rfl, fun W' hS' => ?_⟩) ?_
          · subst hS'; go_simp
          refine wpAnyHI_takeE (i := 12) (v := .int .i64 (i : Int)) (some 79) rfl rfl (by kernel_rfl) (by kernel_rfl) (by kernel_rfl) (by kernel_rfl) (by kernel_rfl) (fun _ _ _ h => h) hS (.inl ⟨by kernel_rfl, fun W' hS' => ?_⟩) ?_
          · subst hS'; go_simp; omega
          refine wpAnyHI_one (i := 13) rfl (by kernel_rfl) ?_
          intro K1 hK1
          go_simp
          have hBd5 : Below w.heap.size w w5.drew := hB5.trans ((below_drew w5).mono hz5)
          refine ⟨trivial, (callsIn_wide.2 (Turn_any w5.drew B1 wr.heap.size w5.heap.size A1 A' A5 n c n d' m5 c5 ts ss ps (i : Int) (h1.below hBd5 hB1) (by have := hBd5.size; omega) (Hs5.out.below (below_drew w5) hzw5) (by show wr.heap.size ≤ w5.heap.size; omega) (H5.out.1.below (below_drew w5) (Nat.le_refl _)) (Nat.le_refl _))).mono ?_⟩
          rintro e w6 ⟨v6, rfl, hl6, hb6⟩
          have hbw6 : Below w5.heap.size w5 w6 := (below_drew w5).trans hb6
          have hB6 : Below w.heap.size w w6 := hB5.trans (hbw6.mono hz5)
          obtain ⟨r, hr⟩ : ∃ r, r = turnR ts ss ps (i : Int) := ⟨_, rfl⟩
          rw [← hr] at hl6 ⊢
          obtain ⟨l, y, z⟩ := r
          have Hr := Lib.hid (hr.trans (rturn_of Hs.out.1 (by have := Hp.out.2.2; have := Hv.out.2.2; omega) H5.out.2.2.1 (by rw [Hv.out.2.2]; exact H5.out.2.2.2.1)))
          clear hr
          obtain ⟨A6, m6, c6, rfl, h6⟩ := hl6
          simp only at h6
          refine hK1 _ _ ⟨fun h => absurd h (by decide), ?_⟩
          clear hK1 K1
          refine wpAnyHI_takeW (i := 14) (v := .tuple #[.slice A6 m6 c6, .int .i64 y, .int .i64 z]) (some 66) rfl rfl (by kernel_rfl) (by kernel_rfl) (by kernel_rfl) (by kernel_rfl) (fun _ _ _ h => h) (.inl ⟨by kernel_rfl, fun W' hS' => ?_⟩) ?_
          · go_simp
          refine wpAnyHI_takeW (i := 15) (v := .slice A6 m6 c6) (some 81) rfl rfl (by kernel_rfl) (by kernel_rfl) (by kernel_rfl) (by kernel_rfl) (fun _ _ _ h => h) (.inl ⟨by kernel_rfl, fun W' hS' => ?_⟩) ?_
          · go_simp
          refine wpAnyHI_takeW (i := 16) (v := .int .i64 y) (some 82) rfl rfl (by kernel_rfl) (by kernel_rfl) (by kernel_rfl) (by kernel_rfl) (fun _ _ _ h => h) (.inl ⟨by kernel_rfl, fun W' hS' => ?_⟩) ?_
          · go_simp
          refine wpAnyHI_takeW (i := 17) (v := .int .i64 z) (some 83) rfl rfl (by kernel_rfl) (by kernel_rfl) (by kernel_rfl) (by kernel_rfl) (fun _ _ _ h => h) (.inl ⟨by kernel_rfl, fun W' hS' => ?_⟩) ?_
          · go_simp
          refine wpAnyHI_takeW (i := 18) (v := .slice A6 m6 c6) (some 12) rfl rfl (by kernel_rfl) (by kernel_rfl) (by kernel_rfl) (by kernel_rfl) (fun _ _ _ h => h) (.inl ⟨by kernel_rfl, fun W' hS' => ?_⟩) ?_
          · go_simp
          refine wpAnyHI_takeW (i := 19) (v := .int .i64 y) (some 13) rfl rfl (by kernel_rfl) (by kernel_rfl) (by kernel_rfl) (by kernel_rfl) (fun _ _ _ h => h) (.inl ⟨by kernel_rfl, fun W' hS' => ?_⟩) ?_
          · go_simp
          refine wpAnyHI_takeW (i := 20) (v := .int .i64 z) (some 14) rfl rfl (by kernel_rfl) (by kernel_rfl) (by kernel_rfl) (by kernel_rfl) (fun _ _ _ h => h) (.inl ⟨by kernel_rfl, fun W' hS' => ?_⟩) ?_
          · go_simp
          refine wpAnyHI_end (by kernel_rfl) ?_
          show KR _ _
          refine hKR _ _ ?_
          clear hKR KR
          have y6 : Boxed w6 w.heap.size 24 (.slice A1 n c) := bxBelow y5 hbw6 y5.lt
          have c6' := y6.cell
          have hcy6 : w6.cell? ⟨b3, o3 + j * 2 + 1, none⟩ = some (.int .u8 yj) := (hbw6.cell (p := ⟨b3, o3 + j * 2 + 1, none⟩) (show b3 < w5.heap.size by omega)).trans hcy5
          have hz6 := hB6.size
          have hzw6 := hbw6.size
          have H6 := Lib.hid h6
          clear h6 y5 c5' hcy5 hb6 hS
          go_wp2_with (fail)
          refine (Pulled_any w6 B1 wr.heap.size w5.heap.size A1 A' A5 n c d' m5 c5 ts ss ps (h1.below hB6 hB1) (by omega) (Hs5.out.below hbw6 hzw5) (by omega) (H5.out.1.below hbw6 (Nat.le_refl _)) (by omega) h1n (by omega) (by omega) H5.out.2.1 (fun i => by have := stated_twelve Hs.out.1 i; omega)).mono ?_
          intro e w7 hpp
          obtain ⟨v7, ok, rfl, hb7, hcase⟩ := pulled_form hpp
          clear hpp
          have hB7 : Below w.heap.size w w7 := hB6.trans (hb7.mono hz6)
          have y7 : Boxed w7 w.heap.size 24 (.slice A1 n c) := bxBelow y6 hb7 y6.lt
          have c7' := y7.cell
          have hz7 := hB7.size
          have hzw7 := hb7.size
          have hcy7 : w7.cell? ⟨b3, o3 + j * 2 + 1, none⟩ = some (.int .u8 yj) := (hb7.cell (p := ⟨b3, o3 + j * 2 + 1, none⟩) (show b3 < w6.heap.size by omega)).trans hcy6
          clear y6 c6' hcy6
          rcases hcase with ⟨rfl, ys, hys, hrow7⟩ | ⟨rfl, hnone⟩
          · have hrr := Hr.out
            rw [hys] at hrr
            obtain ⟨e1, e2, e3⟩ : l = ys.set i 0 ∧ y = ys[i]?.getD 0 ∧ z = 0 := by
              have h := Prod.mk.inj hrr
              exact ⟨h.1, Prod.mk.inj h.2⟩
            subst e3
            have hpo := pulls_ok (i := i) Hs.out.1 (by have := Hp.out.2.2; have := Hv.out.2.2; omega) H5.out.2.2.1 (by rw [Hv.out.2.2]; exact H5.out.2.2.2.1) hys
            have hyl : ys.length = n := by rw [hpo.2.2.1, Hv.out.2.2]
            obtain ⟨g7, c7, rfl⟩ := ownsRow_pos hrow7 (by omega)
            have hc7 : w7.cell? ⟨g7, i, none⟩ = some (.int .i64 y) := by rw [e2]; exact row_cell hrow7 Hp.out.2.2
            have hi7 := row_ints hrow7 (by omega)
            have hyb2 : 0 ≤ y ∧ y ≤ 12 := by rw [e2]; exact hpo.2.2.2 i
            have hsum2 : (ys.set i 0).sum = sm + (m5 : Int) - y := by
              have := hpo.2.1
              have := H5.out.2.2.2.2
              have := Hm.out
              omega
            have hin := Hp.out.2.2
            have hwd : IntKind.i64.wrap ((m5 : Int) - y) = (m5 : Int) - y := by rw [IntKind.wrap_i64]; omega
            have hwe : IntKind.i64.wrap (sm + ((m5 : Int) - y)) = sm + ((m5 : Int) - y) := by rw [IntKind.wrap_i64]; omega
            have H7 := Lib.hid (And.intro hpo.1 (And.intro hyl (And.intro hi7 (And.intro hsum2 e1))))
            clear hrr hys hrow7 e2 e1 hpo hyl hi7 hsum2
            go_wp2_with (fail)
            refine region_held_wp 1 (fun W' => W' = w7.drew) (fun _ => true) (by kernel_rfl) ?_
            intro KR hKR
            have hS : w7.drew = w7.drew := rfl
            refine wpAnyHI_takeE (i := 0) (v := .slice (some ⟨b3, o3, none⟩) k f) (some 104) rfl rfl (by kernel_rfl) (by kernel_rfl) (by kernel_rfl) (by kernel_rfl) (by kernel_rfl) (fun _ _ _ h => h) hS (.inl ⟨by kernel_rfl, fun W' hS' => ?_⟩) ?_
            · subst hS'; go_simp
            refine wpAnyHI_takeE (i := 1) (v := .int .i64 (j : Int)) (some 105) rfl rfl (by kernel_rfl) (by kernel_rfl) (by kernel_rfl) (by kernel_rfl) (by kernel_rfl) (fun _ _ _ h => h) hS (.inl ⟨by kernel_rfl, fun W' hS' => ?_⟩) ?_
            · subst hS'; go_simp
            refine wpAnyHI_takeE (i := 2) (v := .pointer (some ⟨b3, o3 + j * 2, none⟩)) (some 106) rfl rfl (by kernel_rfl) (by kernel_rfl) (by kernel_rfl) (by kernel_rfl) (by kernel_rfl) (fun _ _ _ h => h) hS (.inl ⟨by kernel_rfl, fun W' hS' => ?_⟩) ?_
            · subst hS'; go_simp
            refine wpAnyHI_takeE (i := 3) (v := .pointer (some ⟨b3, o3 + j * 2 + 1, none⟩)) (some 107) rfl rfl (by kernel_rfl) (by kernel_rfl) (by kernel_rfl) (by kernel_rfl) (by kernel_rfl) (fun _ _ _ h => h) hS (.inl ⟨by kernel_rfl, fun W' hS' => ?_⟩) ?_
            · subst hS'; go_simp
            refine wpAnyHI_takeE (i := 4) (v := .int .u8 yj) (some 108) rfl rfl (by kernel_rfl) (by kernel_rfl) (by kernel_rfl) (by kernel_rfl) (by kernel_rfl) (fun _ _ _ h => h) hS (.inl ⟨by kernel_rfl, fun W' hS' => ?_⟩) ?_
            · subst hS'; go_simp
            refine wpAnyHI_takeE (i := 5) (v := .int .i64 yj) (some 109) rfl rfl (by kernel_rfl) (by kernel_rfl) (by kernel_rfl) (by kernel_rfl) (by kernel_rfl) (fun _ _ _ h => h) hS (.inl ⟨by kernel_rfl, fun W' hS' => ?_⟩) ?_
            · subst hS'; go_simp
            refine wpAnyHI_takeE (i := 6) (v := .pointer (some ⟨w.heap.size, 0, none⟩)) (some 110) rfl rfl (by kernel_rfl) (by kernel_rfl) (by kernel_rfl) (by kernel_rfl) (by kernel_rfl) (fun _ _ _ h => h) hS (.inl ⟨by kernel_rfl, fun W' hS' => ?_⟩) ?_
            · subst hS'; go_simp
            refine wpAnyHI_takeE (i := 7) (v := .slice A1 n c) (some 111) rfl rfl (by kernel_rfl) (by kernel_rfl) (by kernel_rfl) (by kernel_rfl) (by kernel_rfl) (fun _ _ _ h => h) hS (.inl ⟨by kernel_rfl, fun W' hS' => ?_⟩) ?_
            · subst hS'; go_simp
            refine wpAnyHI_takeE (i := 8) (v := .int .i64 (n : Int)) (some 112) rfl rfl (by kernel_rfl) (by kernel_rfl) (by kernel_rfl) (by kernel_rfl) (by kernel_rfl) (fun _ _ _ h => h) hS (.inl ⟨by kernel_rfl, fun W' hS' => ?_⟩) ?_
            · subst hS'; go_simp
            refine wpAnyHI_takeE (i := 9) (v := .int .i64 (i : Int)) (some 113) rfl rfl (by kernel_rfl) (by kernel_rfl) (by kernel_rfl) (by kernel_rfl) (by kernel_rfl) (fun _ _ _ h => h) hS (.inl ⟨by kernel_rfl, fun W' hS' => ?_⟩) ?_
            · subst hS'; go_simp; omega
            refine wpAnyHI_takeE (i := 10) (v := .int .i64 (i : Int)) (some 17) rfl rfl (by kernel_rfl) (by kernel_rfl) (by kernel_rfl) (by kernel_rfl) (by kernel_rfl) (fun _ _ _ h => h) hS (.inl ⟨by kernel_rfl, fun W' hS' => ?_⟩) ?_
            · go_simp
            refine wpAnyHI_end (by kernel_rfl) ?_
            show KR _ _
            refine hKR _ _ ?_
            clear hKR KR
            go_wp2_with (fail)
            refine (Visited_any w7.drew w7.heap.size (some ⟨g7, 0, none⟩) n c7 ys (H7.out.2.2.1.below (below_drew w7) (Nat.le_refl _)) (Nat.le_refl _) i hin (by omega)).mono ?_
            rintro e w8 ⟨v8, rfl, hrow8, hb8⟩
            have hbw8 : Below w7.heap.size w7 w8 := (below_drew w7).trans hb8
            have hB8 : Below w.heap.size w w8 := hB7.trans (hbw8.mono hz7)
            obtain ⟨g8, c8, rfl⟩ := ownsRow_pos hrow8 (by omega)
            have hi8 := row_ints hrow8 (by omega)
            have hz8 := hB8.size
            have H8 := Lib.hid hi8
            clear hi8 hrow8 hb8 hS
            go_wp2_with (fail)
            have h68 : IntsAt w8 w7.heap.size A6 m6 (ys.set i 0) := by
              have h := (H6.out.below (hb7.trans (hbw8.mono hzw7)) (Nat.le_refl _)).more hzw7
              rw [H7.out.2.2.2.2] at h
              exact h
            refine (ints_any w8 _ _ A6 (some ⟨g8, 0, none⟩) m6 n c6 c8 (ys.set i 0) (ys.set i 0) h68 H8.out).mono ?_
            rintro e w9 ⟨rfl, q9, hw9⟩
            rw [decide_eq_true (rfl : ys.set i 0 = ys.set i 0)]
            have hb9 : Below w8.heap.size w8 w9 := by rw [hw9]; exact ⟨rfl, rfl, rfl, Nat.le_refl _, fun _ _ => rfl⟩
            have H9 := Lib.hid (And.intro h68 hb9)
            clear h68 hb9 hw9
            go_wp2_with (fail)
            go_roundg (k - (j + 1))
            case measure => omega
            case rel =>
              have hb9 := H9.out.2
              have hB9 := hB8.trans (hb9.mono hz8)
              have hy9 : Boxed w9 w.heap.size 24 (.slice A1 n c) := bxBelow y7 ((hbw8.trans (hb9.mono hbw8.size))) y7.lt
              obtain rfl : m6 = n := by have := H9.out.1.len; rw [List.length_set, H7.out.2.1] at this; omega
              refine ⟨j + 1, A6, c6, ys.set i 0, ⟨hj, rfl, rfl, rfl, ?_⟩, ⟨hy9, hB9, (H9.out.1.below hb9 hbw8.size).more (by have := hb9.size; have := hbw8.size; omega)⟩, H7.out.1⟩
              rw [H7.out.2.2.2.1, Int.add_sub_assoc]
          · have hrr := Hr.out
            rw [hnone] at hrr
            obtain ⟨e1, e2, e3⟩ : l = [] ∧ y = 0 ∧ z = 17 := by
              have h := Prod.mk.inj hrr
              exact ⟨h.1, Prod.mk.inj h.2⟩
            subst e1 e2 e3
            obtain rfl : m6 = 0 := by have := H6.out.len; simpa using this.symm
            clear hrr hnone
            go_wp2_with (fail)
            go_roundg (k - (j + 1))
            case measure => omega
            case rel =>
              exact ⟨j + 1, A', d', ss, ⟨hj, rfl, rfl, rfl, by rw [Hm.out]⟩, ⟨y7, hB7, (Hs5.out.below (hbw6.trans (hb7.mono hzw6)) hzw5).more (by omega)⟩, Hs.out.1⟩
        · obtain rfl : k = j := by omega
          have hlt : ¬ (k : Int) < (k : Int) := by omega
          obtain ⟨wo, rfl⟩ : ∃ wo, wo = wr := ⟨_, rfl⟩
          have hsl := Hs.out.2.len
          have hbs : ∀ j : Nat, j ≤ n → 0 ≤ (ss.take j).sum ∧ (ss.take j).sum ≤ 60 := fun j hj => by
            have := sum_take_bounds ss (stated_twelve Hs.out.1) j (by omega)
            omega
          have Hbs := Lib.hid hbs
          clear hbs
          go_wp2_with (fail)
          clear hlt hj
          go_loopg [8, 18] n (fun gg v8 v18 wr => ∃ j : Nat, (j ≤ n ∧ gg = n - j ∧ v18 = .int .i64 (j : Int) ∧ v8 = .int .i64 (sm - (ss.take j).sum)) ∧ wo = wr)
          case atStart => exact ⟨0, ⟨Nat.zero_le _, rfl, rfl, by simp⟩, rfl⟩
          case round =>
            obtain ⟨i, ⟨hin, rfl, rfl, rfl⟩, rfl⟩ := hrel
            by_cases hj : i < n
            · have hwj : IntKind.i64.wrap ((i : Int) + 1) = (i : Int) + 1 := by rw [IntKind.wrap_i64]; omega
              obtain ⟨b0, o0, rfl, -, hcj⟩ := Hs.out.2.cell hj
              obtain ⟨sj, hsj⟩ : ∃ sj, sj = ss[i]?.getD 0 := ⟨_, rfl⟩
              obtain ⟨tj, htj⟩ : ∃ tj, tj = (ss.take i).sum := ⟨_, rfl⟩
              rw [← hsj] at hcj
              rw [← htj]
              have hb1 := Hbs.out i hin
              have hb2 := Hbs.out (i + 1) hj
              have hsucc := sum_take_succ ss i (by omega)
              rw [← hsj, ← htj] at hsucc
              rw [hsucc] at hb2
              rw [← htj] at hb1
              have hws : IntKind.i64.wrap (sm - tj - sj) = sm - tj - sj := by rw [IntKind.wrap_i64]; omega
              have Hj := Lib.hid hsucc
              clear hsj htj hsucc hb1 hb2
              go_wp2_with (fail)
              go_roundg (n - (i + 1))
              case measure => omega
              case rel => exact ⟨i + 1, ⟨hj, rfl, rfl, by rw [Hj.out, Int.sub_sub]⟩, rfl⟩
            · obtain rfl : n = i := by omega
              have hall : sm - (ss.take n).sum = 0 := by
                rw [List.take_of_length_le (by omega)]
                have := Hm.out
                omega
              rw [hall]
              clear hall
              have hlt : ¬ (n : Int) < (n : Int) := by omega
              go_wp2_with (fail)
              refine (Works_any _).mono ?_
              rintro e w9 ⟨rfl, hb⟩
              go_wp2_with (fail)
              go_ret
              exact ⟨rfl, hB.trans (hb.mono hzw)⟩
end Go.Proofs.YtohnjckccbcjgaaGreat
