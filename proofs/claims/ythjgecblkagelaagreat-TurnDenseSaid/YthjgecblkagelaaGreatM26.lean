/- Parts of a proof: CG. -/
import Derived.Test.YthjgecblkagelaaGreatM25

/- State: a state by numbers. -/
namespace Go.Proofs.YthjgecblkagelaaGreat
open Go.RowKit Go.Shelf

attribute [local go_sem] Oper.semAt_some

/-- A slice of bytes. -/
def U8At (w : World) (B : Nat) (A : Option Addr) (n : Nat) (bs : List Int) : Prop :=
  bs.length = n ∧ n ≤ 9223372036854775807 ∧ (0 < n → ∃ b off, A = some ⟨b, off, none⟩ ∧ b < B ∧ ∀ j, j < n → w.cell? ⟨b, off + j, none⟩ = some (.int .u8 (bs[j]?.getD 0)) ∧ 0 ≤ bs[j]?.getD 0 ∧ bs[j]?.getD 0 ≤ 255)
theorem U8At.below {w w' : World} {B D : Nat} {A : Option Addr} {n : Nat} {bs : List Int} (h : U8At w B A n bs) (hb : Below D w w') (hD : B ≤ D) : U8At w' B A n bs :=
  ⟨h.1, h.2.1, fun h0 => by
    obtain ⟨b, off, e, hlt, hc⟩ := h.2.2 h0
    exact ⟨b, off, e, hlt, fun j hj => ⟨(hb.cell (p := ⟨b, off + j, none⟩) (show b < D by omega)).trans (hc j hj).1, (hc j hj).2⟩⟩⟩

set_option maxRecDepth 100000 in
set_option maxHeartbeats 4000000 in
theorem State_any (w : World) (B B2 : Nat) (A A2 : Option Addr) (n c m d : Nat) (ts bs : List Int) (hx : IntsAt w B A n ts) (hB : B ≤ w.heap.size) (hb8 : U8At w B2 A2 m bs) (hB2 : B2 ≤ w.heap.size) (hv : Valid ts) :
    Calls Tryz.prog 16 #[.agg #[.slice A n c], .slice A2 m d] w fun e w' => ∃ g xs, w.heap.size ≤ g ∧ e = .returned (.slice (some ⟨g, 0, none⟩) n n) ∧ w'.heap[g]? = some (.cells (xs.map (Value.int .i64)).toArray 3 (0, 0)) ∧ (xs.length = n ∧ stateOk ts xs = true) ∧ Below w.heap.size w w' := by
  have hb0 : Below w.heap.size w (w.alloc (.cells #[.slice A n c] 24)) := (Below.refl _ w).alloc (Nat.le_refl _) _
  have x0 := Boxed.new w 24 (.slice A n c)
  have c0 := x0.cell
  have hl := hx.len
  have h1 := hv.h1
  have h5 := hv.h5
  have Hv := Lib.hid (And.intro hv hl)
  have hm8 := hb8.2.1
  rw [hl] at h1 h5
  clear hl hv
  go_enter Tryz.func16, Tryz.ntmps16
  go_wp2_with (fail)
  refine (Empty_any _ A n c h1 h5).mono ?_
  rintro e w2 ⟨D, hD, rfl, hr, hb⟩
  have hB3 := hb0.trans (hb.mono hb0.size)
  have y0 := bxBelow x0 hb x0.lt
  simp only [World.size_alloc] at hD
  clear hb0 hb x0 c0
  have c0 := y0.cell
  go_wp2_with (fail)
  go_loopg [6] n (fun g v6 wr => ∃ (j : Nat) (xs : List Int), (j ≤ n ∧ g = n - j ∧ v6 = .int .i64 (j : Int)) ∧ (Boxed wr w.heap.size 24 (.slice A n c) ∧ wr.heap[D]? = some (.cells (xs.map (Value.int .i64)).toArray 3 (0, 0))) ∧ (xs.length = n ∧ ∀ i : Nat, i < n → 0 ≤ xs[i]?.getD 0 ∧ xs[i]?.getD 0 ≤ ts[i]?.getD 0) ∧ Below w.heap.size w wr)
  case atStart =>
    refine ⟨0, List.replicate n 0, ⟨Nat.zero_le _, rfl, rfl⟩, ⟨y0, hr⟩, ⟨by simp, fun i hi => ?_⟩, hB3⟩
    have := Hv.out.1.h12 i (by have := Hv.out.2; omega)
    simp [hi]
    omega
  case round =>
    clear y0 hr hB3 c0
    obtain ⟨j, xs, ⟨hjn, rfl, rfl⟩, ⟨y0, hr⟩, ⟨hxl, hok⟩, hB3⟩ := hrel
    have c0 := y0.cell
    have Hx := Lib.hid (And.intro hxl (And.intro hok hr))
    clear hxl hok hr
    by_cases hj : j < n
    · by_cases hm : 0 < m
      · obtain ⟨b1, o1, rfl, hb1, hcj⟩ := (hx.below hB3 hB).cell hj
        obtain ⟨b2, o2, rfl, hb2, hc8⟩ := (hb8.below hB3 hB2).2.2 hm
        obtain ⟨q, hq⟩ : ∃ q, q = j % m := ⟨_, rfl⟩
        have hqm : q < m := by rw [hq]; exact Nat.mod_lt _ hm
        obtain ⟨hcq, h80, h81⟩ := hc8 q hqm
        obtain ⟨tj, htj⟩ : ∃ tj, tj = ts[j]?.getD 0 := ⟨_, rfl⟩
        obtain ⟨bq, hbq⟩ : ∃ bq, bq = bs[q]?.getD 0 := ⟨_, rfl⟩
        rw [← hbq] at hcq h80 h81
        rw [← htj] at hcj
        have ht12 : 1 ≤ tj ∧ tj ≤ 12 := by rw [htj]; exact Hv.out.1.h12 j (by have := Hv.out.2; omega)
        have hmod : (j : Int) % (m : Int) = (q : Int) := by rw [hq]; simp
        obtain ⟨z, hz⟩ : ∃ z, z = bq % (tj + 1) := ⟨_, rfl⟩
        have hz0 : 0 ≤ z ∧ z ≤ tj := by
          rw [hz]
          have h1 := Int.emod_nonneg bq (show tj + 1 ≠ 0 by omega)
          have h2 := Int.emod_lt_of_pos bq (show 0 < tj + 1 by omega)
          omega
        have hmod2 : bq % (tj + 1) = z := hz.symm
        have Hq := Lib.hid (And.intro hq (And.intro htj hbq))
        clear hc8 hq htj hbq hz
        have hm0 : ¬ (m : Int) = 0 := by omega
        have ht0 : ¬ tj + 1 = 0 := by omega
        have hwq : IntKind.i64.wrap (q : Int) = (q : Int) := by rw [IntKind.wrap_i64]; omega
        have hwz : IntKind.i64.wrap z = z := by rw [IntKind.wrap_i64]; omega
        have hwb : IntKind.i64.wrap bq = bq := by rw [IntKind.wrap_i64]; omega
        have hwt : IntKind.i64.wrap (tj + 1) = tj + 1 := by rw [IntKind.wrap_i64]; omega
        have hwj : IntKind.i64.wrap ((j : Int) + 1) = (j : Int) + 1 := by rw [IntKind.wrap_i64]; omega
        have htm1 : ((j : Int)).tmod (m : Int) = (q : Int) := by rw [Int.tmod_eq_emod_of_nonneg (by omega)]; exact hmod
        have htm2 : bq.tmod (tj + 1) = z := by rw [Int.tmod_eq_emod_of_nonneg h80]; exact hmod2
        have hcD : wr.cell? ⟨D, j, none⟩ = some (.int .i64 (xs[j]?.getD 0)) := by
          have := Hx.out.1
          simp [World.cell?, Hx.out.2.2, show j < xs.length by omega]
        have hfD : wr.frozen? ⟨D, j, none⟩ = false := by simp [World.frozen?, Hx.out.2.2]
        go_wp2_with (fail)
        refine region_held_wp 1 (fun W' => W' = wr.drew) (fun j => decide (j < 18)) (by kernel_rfl) ?_
        intro KR hKR
        have hS : wr.drew = wr.drew := rfl
        refine wpAnyHI_takeE (i := 0) (v := .slice (some ⟨D, 0, none⟩) n n) (some 20) rfl rfl (by kernel_rfl) (by kernel_rfl) (by kernel_rfl) (by kernel_rfl) (by kernel_rfl) (fun _ _ _ h => h) hS (.inl ⟨by kernel_rfl, fun W' hS' => ?_⟩) ?_
        · subst hS'; go_simp
        refine wpAnyHI_takeE (i := 1) (v := .int .i64 (j : Int)) (some 21) rfl rfl (by kernel_rfl) (by kernel_rfl) (by kernel_rfl) (by kernel_rfl) (by kernel_rfl) (fun _ _ _ h => h) hS (.inl ⟨by kernel_rfl, fun W' hS' => ?_⟩) ?_
        · subst hS'; go_simp
        refine wpAnyHI_takeE (i := 2) (v := .slice (some ⟨b2, o2, none⟩) m d) (some 22) rfl rfl (by kernel_rfl) (by kernel_rfl) (by kernel_rfl) (by kernel_rfl) (by kernel_rfl) (fun _ _ _ h => h) hS (.inl ⟨by kernel_rfl, fun W' hS' => ?_⟩) ?_
        · subst hS'; go_simp
        refine wpAnyHI_takeE (i := 3) (v := .int .i64 (j : Int)) (some 23) rfl rfl (by kernel_rfl) (by kernel_rfl) (by kernel_rfl) (by kernel_rfl) (by kernel_rfl) (fun _ _ _ h => h) hS (.inl ⟨by kernel_rfl, fun W' hS' => ?_⟩) ?_
        · subst hS'; go_simp
        refine wpAnyHI_takeE (i := 4) (v := .slice (some ⟨b2, o2, none⟩) m d) (some 24) rfl rfl (by kernel_rfl) (by kernel_rfl) (by kernel_rfl) (by kernel_rfl) (by kernel_rfl) (fun _ _ _ h => h) hS (.inl ⟨by kernel_rfl, fun W' hS' => ?_⟩) ?_
        · subst hS'; go_simp
        refine wpAnyHI_takeE (i := 5) (v := .int .i64 (m : Int)) (some 25) rfl rfl (by kernel_rfl) (by kernel_rfl) (by kernel_rfl) (by kernel_rfl) (by kernel_rfl) (fun _ _ _ h => h) hS (.inl ⟨by kernel_rfl, fun W' hS' => ?_⟩) ?_
        · subst hS'; go_simp
        refine wpAnyHI_takeE (i := 6) (v := .int .i64 (q : Int)) (some 26) rfl rfl (by kernel_rfl) (by kernel_rfl) (by kernel_rfl) (by kernel_rfl) (by kernel_rfl) (fun _ _ _ h => h) hS (.inl ⟨by kernel_rfl, fun W' hS' => ?_⟩) ?_
        · subst hS'; go_simp; omega
        refine wpAnyHI_takeE (i := 7) (v := .pointer (some ⟨b2, o2 + q, none⟩)) (some 27) rfl rfl (by kernel_rfl) (by kernel_rfl) (by kernel_rfl) (by kernel_rfl) (by kernel_rfl) (fun _ _ _ h => h) hS (.inl ⟨by kernel_rfl, fun W' hS' => ?_⟩) ?_
        · subst hS'; go_simp
        refine wpAnyHI_takeE (i := 8) (v := .int .u8 bq) (some 28) rfl rfl (by kernel_rfl) (by kernel_rfl) (by kernel_rfl) (by kernel_rfl) (by kernel_rfl) (fun _ _ _ h => h) hS (.inl ⟨by kernel_rfl, fun W' hS' => ?_⟩) ?_
        · subst hS'; go_simp
        refine wpAnyHI_takeE (i := 9) (v := .int .i64 bq) (some 29) rfl rfl (by kernel_rfl) (by kernel_rfl) (by kernel_rfl) (by kernel_rfl) (by kernel_rfl) (fun _ _ _ h => h) hS (.inl ⟨by kernel_rfl, fun W' hS' => ?_⟩) ?_
        · subst hS'; go_simp
        refine wpAnyHI_takeE (i := 10) (v := .pointer (some ⟨w.heap.size, 0, none⟩)) (some 30) rfl rfl (by kernel_rfl) (by kernel_rfl) (by kernel_rfl) (by kernel_rfl) (by kernel_rfl) (fun _ _ _ h => h) hS (.inl ⟨by kernel_rfl, fun W' hS' => ?_⟩) ?_
        · subst hS'; go_simp
        refine wpAnyHI_takeE (i := 11) (v := .slice (some ⟨b1, o1, none⟩) n c) (some 31) rfl rfl (by kernel_rfl) (by kernel_rfl) (by kernel_rfl) (by kernel_rfl) (by kernel_rfl) (fun _ _ _ h => h) hS (.inl ⟨by kernel_rfl, fun W' hS' => ?_⟩) ?_
        · subst hS'; go_simp
        refine wpAnyHI_takeE (i := 12) (v := .int .i64 (j : Int)) (some 32) rfl rfl (by kernel_rfl) (by kernel_rfl) (by kernel_rfl) (by kernel_rfl) (by kernel_rfl) (fun _ _ _ h => h) hS (.inl ⟨by kernel_rfl, fun W' hS' => ?_⟩) ?_
        · subst hS'; go_simp
        refine wpAnyHI_takeE (i := 13) (v := .pointer (some ⟨b1, o1 + j, none⟩)) (some 33) rfl rfl (by kernel_rfl) (by kernel_rfl) (by kernel_rfl) (by kernel_rfl) (by kernel_rfl) (fun _ _ _ h => h) hS (.inl ⟨by kernel_rfl, fun W' hS' => ?_⟩) ?_
        · subst hS'; go_simp
        refine wpAnyHI_takeE (i := 14) (v := .int .i64 tj) (some 34) rfl rfl (by kernel_rfl) (by kernel_rfl) (by kernel_rfl) (by kernel_rfl) (by kernel_rfl) (fun _ _ _ h => h) hS (.inl ⟨by kernel_rfl, fun W' hS' => ?_⟩) ?_
        · subst hS'; go_simp
        refine wpAnyHI_takeE (i := 15) (v := .int .i64 (tj + 1)) (some 35) rfl rfl (by kernel_rfl) (by kernel_rfl) (by kernel_rfl) (by kernel_rfl) (by kernel_rfl) (fun _ _ _ h => h) hS (.inl ⟨by kernel_rfl, fun W' hS' => ?_⟩) ?_
        · subst hS'; go_simp
        refine wpAnyHI_takeE (i := 16) (v := .int .i64 z) (some 36) rfl rfl (by kernel_rfl) (by kernel_rfl) (by kernel_rfl) (by kernel_rfl) (by kernel_rfl) (fun _ _ _ h => h) hS (.inl ⟨by kernel_rfl, fun W' hS' => ?_⟩) ?_
        · subst hS'; go_simp
        refine wpAnyHI_takeE (i := 17) (v := .pointer (some ⟨D, j, none⟩)) (some 37) rfl rfl (by kernel_rfl) (by kernel_rfl) (by kernel_rfl) (by kernel_rfl) (by kernel_rfl) (fun _ _ _ h => h) hS (.inl ⟨by kernel_rfl, fun W' hS' => ?_⟩) ?_
        · subst hS'; go_simp
        refine wpAnyHI_one (i := 18) rfl (by kernel_rfl) ?_
        intro K1 hK1
        go_simp
        refine hK1 _ _ ⟨fun h => absurd h (by decide), ?_⟩
        clear hK1 K1
        refine wpAnyHI_end (by kernel_rfl) ?_
        show KR _ _
        refine hKR _ _ ?_
        clear hKR KR
        have hset := setCell_heap wr D j (.int .i64 z) _ _ Hx.out.2.2
        have Hset := Lib.hid hset
        clear hset
        have yb : Boxed (wr.setCell ⟨D, j, none⟩ (.int .i64 z)) w.heap.size 24 (.slice (some ⟨b1, o1, none⟩) n c) := (Below.heap_setCell _ _ _ _ (show w.heap.size ≠ D by omega)).trans y0
        have hBs : Below w.heap.size w (wr.setCell ⟨D, j, none⟩ (.int .i64 z)) := hB3.setCell (by show w.heap.size ≤ D; omega) _
        have Hys := Lib.hid (And.intro yb hBs)
        clear yb hBs
        go_wp2_with (fail)
        go_roundg (n - (j + 1))
        case measure => omega
        case rel =>
          obtain ⟨hxl, hok, -⟩ := Hx.out
          refine ⟨j + 1, xs.set j z, ⟨by omega, rfl, rfl⟩, ⟨Hys.out.1, ?_⟩, ⟨by rw [List.length_set]; exact hxl, fun i hi => ?_⟩, Hys.out.2.trans ((below_drew _).mono Hys.out.2.size)⟩
          · show (wr.setCell ⟨D, j, none⟩ (.int .i64 z)).heap[D]? = _
            rw [Hset.out]
            simp [List.map_set]
          · rw [List.getElem?_set]
            by_cases hji : j = i
            · subst hji
              rw [if_pos rfl, if_pos (by omega), Option.getD_some, ← Hq.out.2.1]
              exact hz0
            · rw [if_neg hji]
              exact hok i hi
      · go_wp2_with (fail)
        go_ret
        exact ⟨D, xs, by omega, rfl, Hx.out.2.2, ⟨Hx.out.1, stateOk_true fun i hi => Hx.out.2.1 i (by have := Hv.out.2; omega)⟩, hB3⟩
    · go_wp2_with (fail)
      go_ret
      exact ⟨D, xs, by omega, rfl, Hx.out.2.2, ⟨Hx.out.1, stateOk_true fun i hi => Hx.out.2.1 i (by have := Hv.out.2; omega)⟩, hB3⟩
end Go.Proofs.YthjgecblkagelaaGreat
