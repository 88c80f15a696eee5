/- Parts of a proof: CC. -/
import Derived.Test.YtohnjckccbcjgaaGreatM25

/- TurnRows: the walk. -/
namespace Go.Proofs.YtohnjckccbcjgaaGreat
open Go.RowKit Go.Shelf

attribute [local go_sem] Oper.semAt_some

def LongPost (w : World) (k : Nat) (e : Ending) (w' : World) : Prop := ∃ b, e = .returned (.bool b) ∧ w' = w ∧ (b = false → k ≤ 1010)
theorem long_any (w : World) (k : Nat) : Calls Tryz.prog 6 #[.int .i64 (k : Int)] w (LongPost w k) := by
  by_cases h1 : 60 < (k : Int)
  · by_cases h2 : (k : Int) ≤ 1000
    · go_enter Tryz.func6, Tryz.ntmps6
      go_wp2
      go_ret
      unfold LongPost
      exact ⟨_, rfl, rfl, fun _ => by omega⟩
    · by_cases h3 : 1010 < (k : Int)
      · go_enter Tryz.func6, Tryz.ntmps6
        go_wp2
        go_ret
        unfold LongPost
        exact ⟨true, rfl, rfl, fun h => by cases h⟩
      · go_enter Tryz.func6, Tryz.ntmps6
        go_wp2
        go_ret
        unfold LongPost
        exact ⟨_, rfl, rfl, fun _ => by omega⟩
  · by_cases h3 : 1010 < (k : Int)
    · omega
    · go_enter Tryz.func6, Tryz.ntmps6
      go_wp2
      go_ret
      unfold LongPost
      exact ⟨_, rfl, rfl, fun _ => by omega⟩

theorem TurnRows_any (w : World) (B1 B2 B3 : Nat) (A1 A2 A3 : Option Addr) (n c m d k f : Nat) (ts ss row : List Int) (h1 : IntsAt w B1 A1 n ts) (hB1 : B1 ≤ w.heap.size) (h2 : IntsAt w B2 A2 m ss) (hB2 : B2 ≤ w.heap.size) (h3 : IntsAt w B3 A3 k row) (hB3 : B3 ≤ w.heap.size) :
    Calls Tryz.prog 3 #[.agg #[.slice A1 n c], .slice A2 m d, .slice A3 k f] w fun e w' => e = .returned (.bool true) ∧ Below w.heap.size w w' := by
  have hb0 : Below w.heap.size w ((w.alloc (.cells #[.slice A1 n c] 24)).alloc (.cells #[.slice A1 n c] 24)) := ((Below.refl _ w).alloc (Nat.le_refl _) _).alloc (by simp) _
  have x0 := (Boxed.new w 24 (.slice A1 n c)).alloc (.cells #[.slice A1 n c] 24)
  have c0 := x0.cell
  go_enter Tryz.func3, Tryz.ntmps3
  go_wp2_with (fail)
  refine (great_any _ A1 n c).mono ?_
  rintro e w2 ⟨rfl, rfl⟩
  by_cases hn : 10 < (n : Int)
  · rw [decide_eq_true hn]
    have Hn := Lib.hid hn
    clear hn
    go_wp2_with (fail)
    refine (Works_any _).mono ?_
    rintro e w3 ⟨rfl, hb⟩
    go_wp2_with (fail)
    go_ret
    exact ⟨rfl, hb0.trans (hb.mono hb0.size)⟩
  rw [decide_eq_false hn]
  clear hn
  by_cases hm : 20 < (m : Int)
  · go_wp2_with (fail)
    refine (Works_any _).mono ?_
    rintro e w3 ⟨rfl, hb⟩
    go_wp2_with (fail)
    go_ret
    exact ⟨rfl, hb0.trans (hb.mono hb0.size)⟩
  go_wp2_with (fail)
  refine (long_any _ k).mono ?_
  rintro e w2 ⟨b, rfl, rfl, hk⟩
  cases b
  case true =>
    clear hk
    go_wp2_with (fail)
    refine (Works_any _).mono ?_
    rintro e w3 ⟨rfl, hb⟩
    go_wp2_with (fail)
    go_ret
    exact ⟨rfl, hb0.trans (hb.mono hb0.size)⟩
  have hk10 := hk rfl
  clear hk
  have hk6 : k ≤ 1000000 := by omega
  obtain ⟨w2, hw2⟩ : ∃ w2, w2 = (w.alloc (.cells #[.slice A1 n c] 24)).alloc (.cells #[.slice A1 n c] 24) := ⟨_, rfl⟩
  rw [← hw2] at hb0 x0 c0 ⊢
  clear hw2
  have hz := hb0.size
  go_wp2_with (fail)
  refine (Play_any w2 B1 B2 B3 A1 A2 A3 n c m d k f ts ss row (h1.below hb0 hB1) (by omega) (h2.below hb0 hB2) (by omega) (h3.below hb0 hB3) (by omega)).mono ?_
  rintro e w3 ⟨v3, rfl, hl3, hb3⟩
  have hB3' := hb0.trans (hb3.mono hz)
  have x3 := bxBelow x0 hb3 x0.lt
  have c3 := x3.cell
  obtain ⟨r, hr⟩ : ∃ r, r = playR ts ss row := ⟨_, rfl⟩
  have hr2 := hr.trans (play_same ts ss row)
  rw [← hr] at hl3 ⊢
  obtain ⟨l, y, z⟩ := r
  have Hr := Lib.hid hr2
  clear hr hr2
  obtain ⟨A4, m4, c4, rfl, h4⟩ := hl3
  simp only at h4
  clear hb0 hb3 c0 x0
  go_wp2_with (fail)
  refine (rPlay_any w3 B1 B2 B3 A1 A2 A3 n c m d k f ts ss row (h1.below hB3' hB1) (by have := hB3'.size; omega) (h2.below hB3' hB2) (by have := hB3'.size; omega) (h3.below hB3' hB3) (by have := hB3'.size; omega) hk6).mono ?_
  rintro e w4 ⟨v5, rfl, hl5, hb4⟩
  rw [← Hr.out] at hl5 ⊢
  obtain ⟨A5, m5, c5, rfl, h5⟩ := hl5
  simp only at h5
  have hB4 := hB3'.trans (hb4.mono hB3'.size)
  have h4' := h4.below hb4 (Nat.le_refl _)
  have x4 := bxBelow x3 hb4 x3.lt
  have c4' := x4.cell
  have hz4 := hB4.size
  have hcell : ∀ W, Below w4.heap.size w4.drew W → W.cell? ⟨w.heap.size, 0, none⟩ = some (.slice A1 n c) := fun W hb => (hb.cell (p := ⟨w.heap.size, 0, none⟩) x4.lt).trans c4'
  have hBd : Below w.heap.size w w4.drew := hB4.trans ((below_drew w4).mono hz4)
  have H4 := Lib.hid (And.intro h4 (And.intro h4' h5))
  clear h4 h4' h5 hB3' c3 x3
  go_wp2_with (fail)
  refine region_held_wp 1 (fun W' => Below w4.heap.size w4.drew W') (fun _ => true) (by kernel_rfl) ?_
  intro KR hKR
  have hS : Below w4.heap.size w4.drew w4.drew := Below.refl _ _
  refine wpAnyHI_takeE (i := 0) (v := .slice A4 m4 c4) (some 42) rfl rfl (by kernel_rfl) (by kernel_rfl) (by kernel_rfl) (by kernel_rfl) (by kernel_rfl) (fun _ _ _ h => h) hS (.inl ⟨by kernel_rfl, fun W' hS' => ?_⟩) ?_
  · go_simp
  refine wpAnyHI_takeE (i := 1) (v := .slice A5 m5 c5) (some 43) rfl rfl (by kernel_rfl) (by kernel_rfl) (by kernel_rfl) (by kernel_rfl) (by kernel_rfl) (fun _ _ _ h => h) hS (.inl ⟨by kernel_rfl, fun W' hS' => ?_⟩) ?_
  · go_simp
  refine wpAnyHI_one (i := 2) rfl (by kernel_rfl) ?_
  intro K1 hK1
  go_simp
  refine ⟨trivial, (callsIn_wide.2 (ints_any w4.drew _ _ A4 A5 m4 m5 c4 c5 l l ((H4.out.2.1.more hb4.size).below (below_drew w4) (Nat.le_refl _)) (H4.out.2.2.below (below_drew w4) (Nat.le_refl _)))).mono ?_⟩
  rintro e w7 ⟨rfl, q7, hw7⟩
  have hS7 : Below w4.heap.size w4.drew w7 := by rw [hw7]; exact hS.trans ⟨rfl, rfl, rfl, Nat.le_refl _, fun _ _ => rfl⟩
  have hB7 : Below w.heap.size w w7 := by rw [hw7]; exact hBd.trans ⟨rfl, rfl, rfl, Nat.le_refl _, fun _ _ => rfl⟩
  clear hw7
  refine hK1 _ _ ⟨fun _ => hS7, ?_⟩
  clear hK1 K1
  rw [decide_eq_true (rfl : l = l)]
  refine wpAnyHI_takeE (i := 3) (v := .bool true) (some 45) rfl rfl (by kernel_rfl) (by kernel_rfl) (by kernel_rfl) (by kernel_rfl) (by kernel_rfl) (fun _ _ _ h => h) hS7 (.inl ⟨by kernel_rfl, fun W' hS' => ?_⟩) ?_
  · go_simp
  refine wpAnyHI_takeE (i := 4) (v := .int .i64 y) (some 46) rfl rfl (by kernel_rfl) (by kernel_rfl) (by kernel_rfl) (by kernel_rfl) (by kernel_rfl) (fun _ _ _ h => h) hS7 (.inl ⟨by kernel_rfl, fun W' hS' => ?_⟩) ?_
  · go_simp
  refine wpAnyHI_takeE (i := 5) (v := .int .i64 y) (some 47) rfl rfl (by kernel_rfl) (by kernel_rfl) (by kernel_rfl) (by kernel_rfl) (by kernel_rfl) (fun _ _ _ h => h) hS7 (.inl ⟨by kernel_rfl, fun W' hS' => ?_⟩) ?_
  · go_simp
  refine wpAnyHI_takeE (i := 6) (v := .bool true) (some 48) rfl rfl (by kernel_rfl) (by kernel_rfl) (by kernel_rfl) (by kernel_rfl) (by kernel_rfl) (fun _ _ _ h => h) hS7 (.inl ⟨by kernel_rfl, fun W' hS' => ?_⟩) ?_
  · go_simp
  refine wpAnyHI_takeE (i := 7) (v := .bool true) (some 49) rfl rfl (by kernel_rfl) (by kernel_rfl) (by kernel_rfl) (by kernel_rfl) (by kernel_rfl) (fun _ _ _ h => h) hS7 (.inl ⟨by kernel_rfl, fun W' hS' => ?_⟩) ?_
  · go_simp
  refine wpAnyHI_takeE (i := 8) (v := .bool true) (some 50) rfl rfl (by kernel_rfl) (by kernel_rfl) (by kernel_rfl) (by kernel_rfl) (by kernel_rfl) (fun _ _ _ h => h) hS7 (.inl ⟨by kernel_rfl, fun W' hS' => ?_⟩) ?_
  · go_simp
  refine wpAnyHI_takeE (i := 9) (v := .int .i64 z) (some 51) rfl rfl (by kernel_rfl) (by kernel_rfl) (by kernel_rfl) (by kernel_rfl) (by kernel_rfl) (fun _ _ _ h => h) hS7 (.inl ⟨by kernel_rfl, fun W' hS' => ?_⟩) ?_
  · go_simp
  refine wpAnyHI_takeE (i := 10) (v := .int .i64 z) (some 52) rfl rfl (by kernel_rfl) (by kernel_rfl) (by kernel_rfl) (by kernel_rfl) (by kernel_rfl) (fun _ _ _ h => h) hS7 (.inl ⟨by kernel_rfl, fun W' hS' => ?_⟩) ?_
  · go_simp
  refine wpAnyHI_takeE (i := 11) (v := .bool true) (some 53) rfl rfl (by kernel_rfl) (by kernel_rfl) (by kernel_rfl) (by kernel_rfl) (by kernel_rfl) (fun _ _ _ h => h) hS7 (.inl ⟨by kernel_rfl, fun W' hS' => ?_⟩) ?_
  · go_simp
  refine wpAnyHI_takeE (i := 12) (v := .bool true) (some 54) rfl rfl (by kernel_rfl) (by kernel_rfl) (by kernel_rfl) (by kernel_rfl) (by kernel_rfl) (fun _ _ _ h => h) hS7 (.inl ⟨by kernel_rfl, fun W' hS' => ?_⟩) ?_
  · go_simp
  refine wpAnyHI_takeE (i := 13) (v := .bool true) (some 55) rfl rfl (by kernel_rfl) (by kernel_rfl) (by kernel_rfl) (by kernel_rfl) (by kernel_rfl) (fun _ _ _ h => h) hS7 (.inl ⟨by kernel_rfl, fun W' hS' => ?_⟩) ?_
  · go_simp
  refine wpAnyHI_takeE (i := 14) (v := .agg #[.slice A1 n c]) (some 56) rfl rfl (by kernel_rfl) (by kernel_rfl) (by kernel_rfl) (by kernel_rfl) (by kernel_rfl) (fun _ _ _ h => h) hS7 (.inl ⟨by kernel_rfl, fun W' hS' => ?_⟩) ?_
  · have q := hcell W' hS'; go_simp
  refine wpAnyHI_takeE (i := 15) (v := .slice A3 k f) (some 57) rfl rfl (by kernel_rfl) (by kernel_rfl) (by kernel_rfl) (by kernel_rfl) (by kernel_rfl) (fun _ _ _ h => h) hS7 (.inl ⟨by kernel_rfl, fun W' hS' => ?_⟩) ?_
  · go_simp
  refine wpAnyHI_takeE (i := 17) (v := .agg #[.slice A1 n c]) (some 59) rfl rfl (by kernel_rfl) (by kernel_rfl) (by kernel_rfl) (by kernel_rfl) (by kernel_rfl) (fun _ _ _ h => h) hS7 (.inl ⟨by kernel_rfl, fun W' hS' => ?_⟩) ?_
  · have q := hcell W' hS'; go_simp
  refine wpAnyHI_takeE (i := 18) (v := .slice A3 k f) (some 60) rfl rfl (by kernel_rfl) (by kernel_rfl) (by kernel_rfl) (by kernel_rfl) (by kernel_rfl) (fun _ _ _ h => h) hS7 (.inl ⟨by kernel_rfl, fun W' hS' => ?_⟩) ?_
  · go_simp
  refine wpAnyHI_one (i := 16) rfl (by kernel_rfl) ?_
  intro K1 hK1
  go_simp
  refine ⟨trivial, (callsIn_wide.2 (CheckCircle_any w7 B1 B3 A1 A3 n c k f ts row (h1.below hB7 hB1) (by have := hB7.size; omega) (h3.below hB7 hB3) (by have := hB7.size; omega))).mono ?_⟩
  rintro e w5 ⟨rfl, hb5⟩
  have hS5 : Below w4.heap.size w4.drew w5 := hS7.trans (hb5.mono hS7.size)
  have hB5 : Below w.heap.size w w5 := hB7.trans (hb5.mono hB7.size)
  refine hK1 _ _ ⟨fun _ => hS5, ?_⟩
  clear hK1 K1
  refine wpAnyHI_one (i := 19) rfl (by kernel_rfl) ?_
  intro K1 hK1
  go_simp
  refine ⟨trivial, (callsIn_wide.2 (rCheckCircle_any w5 B1 B3 A1 A3 n c k f ts row (h1.below hB5 hB1) (by have := hB5.size; omega) (h3.below hB5 hB3) (by have := hB5.size; omega))).mono ?_⟩
  rintro e w6 ⟨rfl, hb6⟩
  have hS6 : Below w4.heap.size w4.drew w6 := hS5.trans (hb6.mono hS5.size)
  have hB6 : Below w.heap.size w w6 := hB5.trans (hb6.mono hB5.size)
  rw [← checkCircle_same]
  refine hK1 _ _ ⟨fun _ => hS6, ?_⟩
  clear hK1 K1
  obtain ⟨ch, hch⟩ : ∃ ch, ch = checkCircleF ts row := ⟨_, rfl⟩
  rw [← hch]
  clear hch
  refine wpAnyHI_takeE (i := 20) (v := .bool true) (some 62) rfl rfl (by kernel_rfl) (by kernel_rfl) (by kernel_rfl) (by kernel_rfl) (by kernel_rfl) (fun _ _ _ h => h) hS6 (.inl ⟨by kernel_rfl, fun W' hS' => ?_⟩) ?_
  · go_simp
  refine wpAnyHI_takeE (i := 21) (v := .bool true) (some 63) rfl rfl (by kernel_rfl) (by kernel_rfl) (by kernel_rfl) (by kernel_rfl) (by kernel_rfl) (fun _ _ _ h => h) hS6 (.inl ⟨by kernel_rfl, fun W' hS' => ?_⟩) ?_
  · go_simp
  refine wpAnyHI_takeE (i := 22) (v := .bool true) (some 64) rfl rfl (by kernel_rfl) (by kernel_rfl) (by kernel_rfl) (by kernel_rfl) (by kernel_rfl) (fun _ _ _ h => h) hS6 (.inl ⟨by kernel_rfl, fun W' hS' => ?_⟩) ?_
  · go_simp
  refine wpAnyHI_one (i := 23) rfl (by kernel_rfl) ?_
  intro K1 hK1
  go_simp
  refine ⟨trivial, (callsIn_wide.2 (Works_any _)).mono ?_⟩
  rintro e w8 ⟨rfl, hb8⟩
  have hS8 : Below w4.heap.size w4.drew w8 := hS6.trans (hb8.mono hS6.size)
  have hB8 : Below w.heap.size w w8 := hB6.trans (hb8.mono hB6.size)
  refine hK1 _ _ ⟨fun _ => hS8, ?_⟩
  clear hK1 K1
  refine wpAnyHI_takeE (i := 24) (v := .bool true) (some 66) rfl rfl (by kernel_rfl) (by kernel_rfl) (by kernel_rfl) (by kernel_rfl) (by kernel_rfl) (fun _ _ _ h => h) hS8 (.inl ⟨by kernel_rfl, fun W' hS' => ?_⟩) ?_
  · go_simp
  refine wpAnyHI_takeE (i := 25) (v := .bool true) (some 6) rfl rfl (by kernel_rfl) (by kernel_rfl) (by kernel_rfl) (by kernel_rfl) (by kernel_rfl) (fun _ _ _ h => h) hS8 (.inl ⟨by kernel_rfl, fun W' hS' => ?_⟩) ?_
  · go_simp
  refine wpAnyHI_end (by kernel_rfl) ?_
  show KR _ _
  refine hKR _ _ ?_
  clear hKR KR
  go_wp2_with (fail)
  go_ret
  exact ⟨rfl, hB8⟩
end Go.Proofs.YtohnjckccbcjgaaGreat
