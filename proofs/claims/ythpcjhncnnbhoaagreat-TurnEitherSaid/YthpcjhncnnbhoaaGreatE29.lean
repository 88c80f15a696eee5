/- Parts of a proof: DE. -/
import Derived.Test.YthpcjhncnnbhoaaGreatM28

/- TurnEither: the walk. -/
namespace Go.Proofs.YthpcjhncnnbhoaaGreat
open Go.RowKit Go.Shelf

attribute [local go_sem] Oper.semAt_some

set_option maxRecDepth 100000 in
set_option maxHeartbeats 8000000 in
theorem TurnEither_any (w : World) (B1 B2 B3 : Nat) (A1 A2 A3 : Option Addr) (n c m d k f : Nat) (ts bs : List Int) (gs : List (List Int × Int)) (h1 : IntsAt w B1 A1 n ts) (hB1 : B1 ≤ w.heap.size) (h2 : U8At w B2 A2 m bs) (hB2 : B2 ≤ w.heap.size) (h3 : StepsAt w B3 A3 k gs) (hB3 : B3 ≤ w.heap.size) :
    Calls Tryz.prog 3 #[.agg #[.slice A1 n c], .slice A2 m d, .slice A3 k f] w fun e w' => e = .returned (.bool true) ∧ Below w.heap.size w w' := by
  have hb0 : Below w.heap.size w (w.alloc (.cells #[.slice A1 n c] 24)) := (Below.refl _ w).alloc (Nat.le_refl _) _
  have x0 := Boxed.new w 24 (.slice A1 n c)
  have hm8 := h2.2.1
  have hk8 := h3.2.1
  go_enter Tryz.func3, Tryz.ntmps3
  go_wp2_with (fail)
  refine (fine_any _ B1 A1 n c ts (h1.below hb0 hB1) (by have := hb0.size; omega)).mono ?_
  rintro e w2 ⟨rfl, hb2⟩
  have hB2' := hb0.trans (hb2.mono hb0.size)
  have x2 := bxBelow x0 hb2 x0.lt
  have c2 := x2.cell
  have hz2 := hB2'.size
  clear hb0 hb2 x0
  by_cases hc : checkHallF ts = 0
  case neg =>
    rw [decide_eq_false hc]
    clear hc
    go_wp2_with (fail)
    refine (Works_any _).mono ?_
    rintro e w3 ⟨rfl, hb⟩
    go_wp2_with (fail)
    go_ret
    exact ⟨rfl, hB2'.trans (hb.mono hz2)⟩
  rw [decide_eq_true hc]
  have hv := valid_of hc
  have h1n : 1 ≤ n := by have := hv.h1; have := h1.len; omega
  have h5n : n ≤ 5 := by have := hv.h5; have := h1.len; omega
  have Hv := Lib.hid (And.intro hv (And.intro hc h1.len))
  clear hv hc
  by_cases hm : 20 < (m : Int)
  · go_wp2_with (fail)
    refine (Works_any _).mono ?_
    rintro e w3 ⟨rfl, hb⟩
    go_wp2_with (fail)
    go_ret
    exact ⟨rfl, hB2'.trans (hb.mono hz2)⟩
  by_cases hk : 40 < (k : Int)
  · go_wp2_with (fail)
    refine (Works_any _).mono ?_
    rintro e w3 ⟨rfl, hb⟩
    go_wp2_with (fail)
    go_ret
    exact ⟨rfl, hB2'.trans (hb.mono hz2)⟩
  have hs2 := h3.below hB2' hB3
  have Hg := Lib.hid (And.intro hs2 h3.1)
  clear hs2
  go_wp2_with (fail)
  go_loopg [7] k (fun gg v7 wr => ∃ j : Nat, (j ≤ k ∧ gg = k - j ∧ v7 = .int .i64 (j : Int)) ∧ w2 = wr)
  case atStart => exact ⟨0, ⟨Nat.zero_le _, rfl, rfl⟩, rfl⟩
  case round =>
    obtain ⟨j, ⟨hjk, rfl, rfl⟩, rfl⟩ := hrel
    by_cases hj : j < k
    · have hwj : IntKind.i64.wrap ((j : Int) + 1) = (j : Int) + 1 := by rw [IntKind.wrap_i64]; omega
      obtain ⟨b3, o3, rfl, hb3, hcs⟩ := Hg.out.1.2.2 (by omega)
      have hjl : j < gs.length := by have := Hg.out.2; omega
      obtain ⟨A', m', c', hc0, -, -⟩ := hcs j gs[j] (List.getElem?_eq_getElem hjl)
      clear hcs hjl
      by_cases hl : 10 < (m' : Int)
      · go_wp2_with (fail)
        refine (Works_any _).mono ?_
        rintro e w3 ⟨rfl, hb⟩
        go_wp2_with (fail)
        go_ret
        exact ⟨rfl, hB2'.trans (hb.mono hz2)⟩
      · go_wp2_with (fail)
        go_roundg (k - (j + 1))
        case measure => omega
        case rel => exact ⟨j + 1, ⟨hj, rfl, by simp⟩, rfl⟩
    · obtain rfl : k = j := by omega
      have hlt : ¬ (k : Int) < (k : Int) := by omega
      go_wp2_with (fail)
      clear hlt hj
      refine (State_any w2 B1 B2 A1 A2 n c m d ts bs (h1.below hB2' hB1) (by omega) (h2.below hB2' hB2) (by omega) Hv.out.1).mono ?_
      rintro e w3 hpost
      obtain ⟨g, s0, hg, rfl, hrow, ⟨hs0, hok⟩, hb3⟩ := hpost
      have hB3' := hB2'.trans (hb3.mono hz2)
      have x3 := bxBelow x2 hb3 x2.lt
      have hz3 := hB3'.size
      have hst : statedF ts s0 = 0 := by
        unfold statedF
        rw [if_neg (by rw [Hv.out.2.1]; simp), if_neg (by have := Hv.out.2.2; simp; omega), if_pos hok]
      have hi3 : IntsAt w3 w3.heap.size (some ⟨g, 0, none⟩) n s0 := by
        refine ⟨hs0, by omega, fun _ => ⟨g, 0, rfl, ?_, fun j hj => ?_⟩⟩
        · rcases Nat.lt_or_ge g w3.heap.size with h | h
          · exact h
          · rw [Array.getElem?_eq_none h] at hrow
            cases hrow
        · simp [World.cell?, hrow, show j < s0.length by omega]
      have hs3 := h3.below hB3' hB3
      have H3 := Lib.hid (And.intro hst (And.intro hi3 hs3))
      clear hi3 hrow hok hb3 x2 c2 hB2' hz2 hg hs3 hs0
      have c3 := x3.cell
      have hB1' : B1 ≤ w3.heap.size := by omega
      have hB3'' : B3 ≤ w3.heap.size := by omega
      rcases Classical.em (plOf s0 ∈ dq ts) with hd | hd
      · obtain ⟨hd1, hd2⟩ := either_doomed hst hd
        have hgood := own_good hst hd
        obtain ⟨l4, hl4⟩ : ∃ l4, l4 = stepsF (tabE ts).2.1 (reachE ts (plOf s0)).1 := ⟨_, rfl⟩
        rw [← hl4] at hd1 hgood
        have Hd := Lib.hid (And.intro hd1 (And.intro hd2 hgood))
        clear hd1 hd2 hl4 hgood
        clear hst hd
        go_wp2_with (fail)
        refine (Doom_any w3 B1 w3.heap.size A1 (some ⟨g, 0, none⟩) n c n n ts s0 (h1.below hB3' hB1) hB1' H3.out.2.1 (Nat.le_refl _) (fun _ => ends_all Hv.out.1) (fun h => rends_all Hv.out.1 (nice_stated h))).mono ?_
        intro e w4 hd4
        rw [Hd.out.1] at hd4
        obtain ⟨A4, k4, c4, rfl, hl4, hb4⟩ := hd4
        have hB4 := hB3'.trans (hb4.mono hz3)
        have x4 := bxBelow x3 hb4 x3.lt
        have c4' := x4.cell
        have hz4 := hB4.size
        have hzz4 := hb4.size
        simp only at hl4
        have hk4 := hl4.1
        have Hk4 := Lib.hid hk4
        clear hk4
        have H4 := Lib.hid (And.intro hl4 hb4)
        clear hl4 hb4 x3 c3
        go_wp2_with (fail)
        refine (Next_any w4 B1 w3.heap.size A1 (some ⟨g, 0, none⟩) n c n n ts s0 (h1.below hB4 hB1) (by omega) (H3.out.2.1.below H4.out.2 (Nat.le_refl _)) hzz4 (fun _ => ends_all Hv.out.1)).mono ?_
        intro e w5 hd5
        rw [Hd.out.2.1] at hd5
        obtain ⟨v5, rfl, hrow5, hb5⟩ := hd5
        obtain ⟨A5, c5, rfl, -⟩ := ownsRow_slice hrow5
        clear hrow5
        simp only [List.length_nil]
        have hB5 := hB4.trans (hb5.mono hz4)
        have x5 := bxBelow x4 hb5 x4.lt
        have c5' := x5.cell
        have hz5 := hB5.size
        have hb35 : Below w3.heap.size w3 w5 := H4.out.2.trans (hb5.mono hzz4)
        have hzz5 := hb35.size
        have H5 := Lib.hid (And.intro hb5 hb35)
        clear hb5 hb35 x4 c4'
        go_wp2_with (fail)
        refine (CheckDoom_any w5 B1 w3.heap.size B3 A1 (some ⟨g, 0, none⟩) A3 n c n n k f ts s0 gs (h1.below hB5 hB1) (by omega) (H3.out.2.1.below H5.out.2 (Nat.le_refl _)) hzz5 (H3.out.2.2.below H5.out.2 hB3'') (by omega)).mono ?_
        rintro e w6 ⟨rfl, hb6⟩
        have hB6 := hB5.trans (hb6.mono hz5)
        have x6 := bxBelow x5 hb6 x5.lt
        have c6' := x6.cell
        have hz6 := hB6.size
        have hb36 := H5.out.2.trans (hb6.mono hzz5)
        have hzz6 := hb36.size
        obtain ⟨z6, hz6'⟩ : ∃ z6, z6 = checkDoomF ts s0 gs := ⟨_, rfl⟩
        rw [← hz6']
        have H6 := Lib.hid (And.intro hb6 hb36)
        clear hb6 hb36 x5 c5' hz6'
        go_wp2_with (fail)
        refine (CheckDoom_any w6 B1 w3.heap.size w4.heap.size A1 (some ⟨g, 0, none⟩) A4 n c n n k4 c4 ts s0 l4 (h1.below hB6 hB1) (by omega) (H3.out.2.1.below H6.out.2 (Nat.le_refl _)) hzz6 (H4.out.1.below (H5.out.1.trans (H6.out.1.mono H5.out.1.size)) (Nat.le_refl _)) (by have := H5.out.1.size; have := H6.out.1.size; omega)).mono ?_
        rintro e w7 ⟨rfl, hb7⟩
        rw [Hd.out.2.2.1]
        have hB7 := hB6.trans (hb7.mono hz6)
        have x7 := bxBelow x6 hb7 x6.lt
        have c7' := x7.cell
        have hz7 := hB7.size
        have hb37 := H6.out.2.trans (hb7.mono hzz6)
        have hzz7 := hb37.size
        have H7 := Lib.hid (And.intro hb7 hb37)
        clear hb7 hb37 x6 c6'
        go_wp2_with (fail)
        refine (rCheckDoom_any w7 B1 w3.heap.size w4.heap.size A1 (some ⟨g, 0, none⟩) A4 n c n n k4 c4 ts s0 l4 (h1.below hB7 hB1) (by omega) (H3.out.2.1.below H7.out.2 (Nat.le_refl _)) hzz7 (H4.out.1.below ((H5.out.1.trans (H6.out.1.mono H5.out.1.size)).trans (H7.out.1.mono (by have := H5.out.1.size; have := H6.out.1.size; omega))) (Nat.le_refl _)) (by have := H5.out.1.size; have := H6.out.1.size; have := H7.out.1.size; omega)).mono ?_
        rintro e w8 ⟨rfl, hb8⟩
        rw [Hd.out.2.2.2]
        have hB8 := hB7.trans (hb8.mono hz7)
        clear hb8 x7 c7'
        go_wp2_with (fail)
        refine (Works_any _).mono ?_
        rintro e w9 ⟨rfl, hb⟩
        go_wp2_with (fail)
        go_ret
        exact ⟨rfl, hB8.trans (hb.mono hB8.size)⟩
      · obtain ⟨hd1, y0, l0, hd2⟩ := either_safe hst hd
        have hgood := given_bad (gs := gs) hst hd
        have Hd := Lib.hid (And.intro hd1 (And.intro hd2 hgood))
        clear hd1 hd2 hgood
        clear hst hd
        go_wp2_with (fail)
        refine (Doom_any w3 B1 w3.heap.size A1 (some ⟨g, 0, none⟩) n c n n ts s0 (h1.below hB3' hB1) hB1' H3.out.2.1 (Nat.le_refl _) (fun _ => ends_all Hv.out.1) (fun h => rends_all Hv.out.1 (nice_stated h))).mono ?_
        intro e w4 hd4
        rw [Hd.out.1] at hd4
        obtain ⟨A4, k4, c4, rfl, hl4, hb4⟩ := hd4
        have hB4 := hB3'.trans (hb4.mono hz3)
        have x4 := bxBelow x3 hb4 x3.lt
        have c4' := x4.cell
        have hz4 := hB4.size
        have hzz4 := hb4.size
        simp only at hl4
        obtain rfl : k4 = 0 := by have := hl4.1; simpa using this.symm
        have H4 := Lib.hid (And.intro hl4 hb4)
        clear hl4 hb4 x3 c3
        go_wp2_with (fail)
        refine (Next_any w4 B1 w3.heap.size A1 (some ⟨g, 0, none⟩) n c n n ts s0 (h1.below hB4 hB1) (by omega) (H3.out.2.1.below H4.out.2 (Nat.le_refl _)) hzz4 (fun _ => ends_all Hv.out.1)).mono ?_
        intro e w5 hd5
        rw [Hd.out.2.1] at hd5
        obtain ⟨v5, rfl, hrow5, hb5⟩ := hd5
        obtain ⟨A5, c5, rfl, -⟩ := ownsRow_slice hrow5
        clear hrow5
        obtain ⟨m5, hm5⟩ : ∃ m5, m5 = (y0 :: l0).length := ⟨_, rfl⟩
        simp only [← hm5]
        have hm5p : 0 < (m5 : Int) := by rw [hm5]; simp
        clear hm5
        have hB5 := hB4.trans (hb5.mono hz4)
        have x5 := bxBelow x4 hb5 x4.lt
        have c5' := x5.cell
        have hz5 := hB5.size
        have hb35 : Below w3.heap.size w3 w5 := H4.out.2.trans (hb5.mono hzz4)
        have hzz5 := hb35.size
        have H5 := Lib.hid (And.intro hb5 hb35)
        clear hb5 hb35 x4 c4'
        go_wp2_with (fail)
        refine (CheckDoom_any w5 B1 w3.heap.size B3 A1 (some ⟨g, 0, none⟩) A3 n c n n k f ts s0 gs (h1.below hB5 hB1) (by omega) (H3.out.2.1.below H5.out.2 (Nat.le_refl _)) hzz5 (H3.out.2.2.below H5.out.2 hB3'') (by omega)).mono ?_
        rintro e w6 ⟨rfl, hb6⟩
        have hB6 := hB5.trans (hb6.mono hz5)
        have x6 := bxBelow x5 hb6 x5.lt
        have c6' := x6.cell
        have hz6 := hB6.size
        have hb36 := H5.out.2.trans (hb6.mono hzz5)
        have hzz6 := hb36.size
        obtain ⟨z6, hz6'⟩ : ∃ z6, z6 = checkDoomF ts s0 gs := ⟨_, rfl⟩
        rw [← hz6']
        have hne6 : (z6 != 0) = true := by rw [hz6']; simpa using Hd.out.2.2.1
        have H6 := Lib.hid (And.intro hb6 hb36)
        clear hb6 hb36 x5 c5' hz6'
        go_wp2_with (fail)
        refine (rCheckDoom_any w6 B1 w3.heap.size B3 A1 (some ⟨g, 0, none⟩) A3 n c n n k f ts s0 gs (h1.below hB6 hB1) (by omega) (H3.out.2.1.below H6.out.2 (Nat.le_refl _)) hzz6 (H3.out.2.2.below H6.out.2 hB3'') (by omega)).mono ?_
        rintro e w8 ⟨rfl, hb8⟩
        obtain ⟨z8, hz8'⟩ : ∃ z8, z8 = rcheckDoomF ts s0 gs := ⟨_, rfl⟩
        rw [← hz8']
        have hne8 : (z8 != 0) = true := by rw [hz8']; simpa using Hd.out.2.2.2
        have hB8 := hB6.trans (hb8.mono hz6)
        clear hb8 x6 c6' hz8'
        go_wp2_with (fail)
        refine (Works_any _).mono ?_
        rintro e w9 ⟨rfl, hb⟩
        go_wp2_with (fail)
        go_ret
        exact ⟨rfl, hB8.trans (hb.mono hB8.size)⟩
end Go.Proofs.YthpcjhncnnbhoaaGreat
