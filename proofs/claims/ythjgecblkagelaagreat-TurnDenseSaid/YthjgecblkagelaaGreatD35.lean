/- Parts of a proof: FK. -/
import Derived.Test.YthjgecblkagelaaGreatD34

/- TurnDense: the walk. -/
namespace Go.Proofs.YthjgecblkagelaaGreat
open Go.RowKit Go.Shelf

attribute [local go_sem] Oper.semAt_some

theorem sumD_bd {ts : List Int} (hv : Valid ts) : ∀ k, k ≤ ts.length → 0 ≤ sumD (ts.take k) ∧ sumD (ts.take k) ≤ 27720 * (k : Int) := by
  intro k
  induction k with
  | zero => intro _; simp [sumD]
  | succ k ih =>
    intro hk
    have h1 := ih (by omega)
    have h2 := hv.h12 k (by omega)
    have h3 := div_nonneg h2
    have h4 := divides_all h2
    rw [take_snoc_int ts k (by omega), sumD_snoc]
    generalize (27720 : Int).tdiv (ts[k]?.getD 0) = x at *
    generalize ts[k]?.getD 0 = t at *
    have h5 : 1 * x ≤ t * x := Int.mul_le_mul_of_nonneg_right (by omega) (by omega)
    omega

set_option maxRecDepth 100000 in
set_option maxHeartbeats 16000000 in
theorem TurnDense_any (w : World) (B1 B2 : Nat) (A1 A2 : Option Addr) (n c m d : Nat) (ts bs : List Int) (h1 : IntsAt w B1 A1 n ts) (hB1 : B1 ≤ w.heap.size) (h2 : U8At w B2 A2 m bs) (hB2 : B2 ≤ w.heap.size) :
    Calls Tryz.prog 4 #[.agg #[.slice A1 n c], .slice A2 m d] w fun e w' => e = .returned (.bool true) ∧ Below w.heap.size w w' := by
  have hb0 : Below w.heap.size w (w.alloc (.cells #[.slice A1 n c] 24)) := (Below.refl _ w).alloc (Nat.le_refl _) _
  have x0 := Boxed.new w 24 (.slice A1 n c)
  have hm8 := h2.2.1
  go_enter Tryz.func4, Tryz.ntmps4
  go_wp2_with (fail)
  refine (fine_any _ B1 A1 n c ts (h1.below hb0 hB1) (by have := hb0.size; omega)).mono ?_
  rintro e w2 ⟨rfl, hb2⟩
  have hB2' := hb0.trans (hb2.mono hb0.size)
  have x2 := bxBelow x0 hb2 x0.lt
  have c2 := x2.cell
  have hz2 := hB2'.size
  clear hb0 hb2 x0
  by_cases hc : checkHallF ts = 0
  case neg =>
    rw [decide_eq_false hc]
    clear hc
    go_wp2_with (fail)
    refine (Works_any _).mono ?_
    rintro e w3 ⟨rfl, hb⟩
    go_wp2_with (fail)
    go_ret
    exact ⟨rfl, hB2'.trans (hb.mono hz2)⟩
  rw [decide_eq_true hc]
  have hv := valid_of hc
  have h1n : 1 ≤ n := by have := hv.h1; have := h1.len; omega
  have h5n : n ≤ 5 := by have := hv.h5; have := h1.len; omega
  have Hv := Lib.hid (And.intro hv (And.intro hc h1.len))
  clear hv hc
  by_cases hml : 20 < (m : Int)
  · go_wp2_with (fail)
    refine (Works_any _).mono ?_
    rintro e w3 ⟨rfl, hb⟩
    go_wp2_with (fail)
    go_ret
    exact ⟨rfl, hB2'.trans (hb.mono hz2)⟩
  go_wp2_with (fail)
  go_loopg [5, 6] n (fun gg v5 v6 wr => ∃ (j : Nat) (s : Int), (j ≤ n ∧ gg = n - j ∧ v6 = .int .i64 (j : Int) ∧ v5 = .int .i64 s ∧ wr = w2) ∧ s = sumD (ts.take j))
  case atStart => exact ⟨0, 0, ⟨Nat.zero_le _, rfl, rfl, rfl, rfl⟩, by simp [sumD]⟩
  case round =>
    obtain ⟨j, s, ⟨hjn, rfl, rfl, rfl, rfl⟩, hs⟩ := hrel
    by_cases hj : j < n
    · obtain ⟨b1, o1, rfl, hb1, hc1⟩ := (h1.below hB2' hB1).cell hj
      have h12 := Hv.out.1.h12 j (by have := Hv.out.2.2; omega)
      have hsn : sumD (ts.take (j + 1)) = s + (27720 : Int).tdiv (ts[j]?.getD 0) := by rw [take_snoc_int ts j (by have := Hv.out.2.2; omega), sumD_snoc, hs]
      have hbd := sumD_bd Hv.out.1 (j + 1) (by have := Hv.out.2.2; omega)
      obtain ⟨t, ht⟩ : ∃ t, t = ts[j]?.getD 0 := ⟨_, rfl⟩
      rw [← ht] at hc1 h12 hsn
      have hdn := div_nonneg h12
      have hd4 := divides_all h12
      obtain ⟨x, hx⟩ : ∃ x, x = (27720 : Int).tdiv t := ⟨_, rfl⟩
      rw [← hx] at hsn hdn hd4
      have hx2 : x ≤ 27720 := by
        have h5 : 1 * x ≤ t * x := Int.mul_le_mul_of_nonneg_right (by omega) (by omega)
        omega
      have hwx : IntKind.i64.wrap ((27720 : Int).tdiv t) = x := by rw [← hx, IntKind.wrap_i64]; omega
      have hws : IntKind.i64.wrap (s + x) = s + x := by rw [IntKind.wrap_i64]; omega
      have hwj : IntKind.i64.wrap ((j : Int) + 1) = (j : Int) + 1 := by rw [IntKind.wrap_i64]; omega
      have ht0 : ¬ t = 0 := by omega
      have ht0b : (t == 0) = false := by simp; omega
      have ht1 : ¬ t = -1 := by omega
      have Hs := Lib.hid (And.intro hsn (And.intro ht hx))
      clear hs hsn ht hx hbd hdn hd4 hx2
      go_wp2_with (fail)
      go_roundg (n - (j + 1))
      case measure => omega
      case rel => exact ⟨j + 1, s + x, ⟨hj, rfl, rfl, rfl, rfl⟩, Hs.out.1.symm⟩
    · obtain rfl : j = n := by omega
      have hnj : ¬ (j : Int) < (j : Int) := by omega
      have hs : s = sumD ts := by rw [hs, List.take_of_length_le (by have := Hv.out.2.2; omega)]
      have hbd := sumD_bd Hv.out.1 ts.length (Nat.le_refl _)
      rw [List.take_length, ← hs] at hbd
      have hln := Hv.out.2.2
      have hs6 : 0 ≤ s ∧ s ≤ 200000 := by omega
      have Hs := Lib.hid hs
      clear hs hbd hln
      have hcellH : ∀ W', Boxed W' w.heap.size 24 (.slice A1 j c) → W'.cell? ⟨w.heap.size, 0, none⟩ = some (.slice A1 j c) := fun W' h => h.cell
      go_wp2_with (fail)
      refine region_held_wp 1 (fun W' => Boxed W' w.heap.size 24 (.slice A1 j c)) (fun j => decide (j = 3 ∨ j = 1)) (by kernel_rfl) ?_
      intro KR hKR
      have hS : Boxed wr.drew w.heap.size 24 (.slice A1 j c) := bxBelow x2 (below_drew _) x2.lt
      refine wpAnyHI_takeW (i := 2) (v := .slice A2 m d) (some 40) rfl rfl (by kernel_rfl) (by kernel_rfl) (by kernel_rfl) (by kernel_rfl) (fun _ _ _ h => h) (.inl ⟨by kernel_rfl, fun W' hS' => ?_⟩) ?_
      · go_simp
      refine wpAnyHI_takeE (i := 0) (v := .agg #[.slice A1 j c]) (some 38) rfl rfl (by kernel_rfl) (by kernel_rfl) (by kernel_rfl) (by kernel_rfl) (by kernel_rfl) (fun _ _ _ h => h) hS (.inl ⟨by kernel_rfl, fun W' hS' => ?_⟩) ?_
      · have q := hcellH W' hS'; go_simp
      refine wpAnyHI_takeE (i := 1) (v := .agg #[.slice A1 j c]) (some 39) rfl rfl (by kernel_rfl) (by kernel_rfl) (by kernel_rfl) (by kernel_rfl) (by kernel_rfl) (fun _ _ _ h => h) hS (.inl ⟨by kernel_rfl, fun W' hS' => ?_⟩) ?_
      · have q := hcellH W' hS'; go_simp
      have hB2d : Below w.heap.size w wr.drew := hB2'.trans ((below_drew wr).mono hz2)
      refine wpAnyHI_one (i := 3) rfl (by kernel_rfl) ?_
      intro K1 hK1
      go_simp
      refine ⟨trivial, (callsIn_wide.2 (State_any wr.drew B1 B2 A1 A2 j c m d ts bs (h1.below hB2d hB1) (Nat.le_trans hB1 hz2) (h2.below hB2d hB2) (Nat.le_trans hB2 hz2) Hv.out.1)).mono ?_⟩
      rintro e w3 hpost
      obtain ⟨g, s0, hg, rfl, hrow, ⟨hs0, hok⟩, hb3⟩ := hpost
      have hb23 : Below wr.heap.size wr w3 := (below_drew wr).trans hb3
      have hB3' := hB2'.trans (hb23.mono hz2)
      have x3 := bxBelow x2 hb23 x2.lt
      have hz3 := hB3'.size
      have hst : statedF ts s0 = 0 := by
        unfold statedF
        rw [if_neg (by rw [Hv.out.2.1]; simp), if_neg (by have := Hv.out.2.2; simp; omega), if_pos hok]
      have hi3 : IntsAt w3 w3.heap.size (some ⟨g, 0, none⟩) j s0 := by
        refine ⟨hs0, by omega, fun _ => ⟨g, 0, rfl, ?_, fun k hk => ?_⟩⟩
        · rcases Nat.lt_or_ge g w3.heap.size with h | h
          · exact h
          · rw [Array.getElem?_eq_none h] at hrow
            cases hrow
        · simp [World.cell?, hrow, show k < s0.length by omega]
      refine hK1 _ _ ⟨fun _ => x3, ?_⟩
      clear hK1 K1 hrow hok hb3 hS x2 c2 hg
      refine wpAnyHI_one (i := 4) rfl (by kernel_rfl) ?_
      intro K1 hK1
      go_simp
      refine ⟨trivial, (callsIn_wide.2 (Doom_any w3 B1 w3.heap.size A1 (some ⟨g, 0, none⟩) j c j j ts s0 (h1.below hB3' hB1) (by omega) hi3 (Nat.le_refl _) (fun _ => ends_all Hv.out.1) (fun h => rends_all Hv.out.1 (nice_stated h)))).mono ?_⟩
      intro e w4 hd4
      obtain ⟨D, hD⟩ : ∃ D, D = doomR ts s0 := ⟨_, rfl⟩
      rw [← hD] at hd4
      obtain ⟨A4, k4, c4, rfl, -, hb4⟩ := hd4
      have hB4 := hB3'.trans (hb4.mono hz3)
      have x4 := bxBelow x3 hb4 x3.lt
      refine hK1 _ _ ⟨fun h => absurd h (by decide), ?_⟩
      clear hK1 K1 hi3 hb4 hb23 x3 hB3'
      have Hd := Lib.hid (And.intro hD hst)
      clear hD hst
      refine wpAnyHI_takeW (i := 5) (v := .tuple #[.slice A4 k4 c4, .int .i64 D.2]) (some 37) rfl rfl (by kernel_rfl) (by kernel_rfl) (by kernel_rfl) (by kernel_rfl) (fun _ _ _ h => h) (.inl ⟨by kernel_rfl, fun W' hS' => ?_⟩) ?_
      · go_simp
      refine wpAnyHI_takeW (i := 6) (v := .slice A4 k4 c4) (some 43) rfl rfl (by kernel_rfl) (by kernel_rfl) (by kernel_rfl) (by kernel_rfl) (fun _ _ _ h => h) (.inl ⟨by kernel_rfl, fun W' hS' => ?_⟩) ?_
      · go_simp
      refine wpAnyHI_takeW (i := 7) (v := .int .i64 D.2) (some 44) rfl rfl (by kernel_rfl) (by kernel_rfl) (by kernel_rfl) (by kernel_rfl) (fun _ _ _ h => h) (.inl ⟨by kernel_rfl, fun W' hS' => ?_⟩) ?_
      · go_simp
      refine wpAnyHI_takeW (i := 8) (v := .slice A4 k4 c4) (some 7) rfl rfl (by kernel_rfl) (by kernel_rfl) (by kernel_rfl) (by kernel_rfl) (fun _ _ _ h => h) (.inl ⟨by kernel_rfl, fun W' hS' => ?_⟩) ?_
      · go_simp
      refine wpAnyHI_takeW (i := 9) (v := .int .i64 D.2) (some 8) rfl rfl (by kernel_rfl) (by kernel_rfl) (by kernel_rfl) (by kernel_rfl) (fun _ _ _ h => h) (.inl ⟨by kernel_rfl, fun W' hS' => ?_⟩) ?_
      · go_simp
      refine wpAnyHI_end (by kernel_rfl) ?_
      show KR _ _
      refine hKR _ _ ?_
      clear hKR KR hcellH hB2d hB2'
      have c4' := x4.cell
      have hz4 := hB4.size
      obtain ⟨win, hwin⟩ := win_exists ts (fun e => by have := Hv.out.1.h1; rw [e] at this; simp at this)
      go_wp2_with (fail)
      refine (Circle_any w4 B1 A1 j c ts (h1.below hB4 hB1) (by omega) win (fun _ => ⟨ends_all Hv.out.1, loop_ends Hv.out.1, hwin⟩)).mono ?_
      intro e w5 hd5
      obtain ⟨R, hR⟩ : ∃ R, R = circleR ts win := ⟨_, rfl⟩
      rw [← hR] at hd5
      obtain ⟨A5, m5, c5, rfl, hi5, hb5⟩ := hd5
      have hB5 := hB4.trans (hb5.mono hz4)
      have x5 := bxBelow x4 hb5 x4.lt
      have c5' := x5.cell
      have hz5 := hB5.size
      have hm5 := hi5.small
      have H5 := Lib.hid (And.intro hR (And.intro hwin hi5))
      clear hR hwin hi5 hb5 x4 c4' hB4
      go_wp2_with (fail)
      refine (count_any w5 B1 A1 j c ts (h1.below hB5 hB1) (by omega) (fun h => ends_all (valid_of h))).mono ?_
      rintro e w6 ⟨rfl, hb6⟩
      have hB6 := hB5.trans (hb6.mono hz5)
      have x6 := bxBelow x5 hb6 x5.lt
      have c6' := x6.cell
      have hz6 := hB6.size
      have hz56 := hb6.size
      have H6 := Lib.hid (H5.out.2.2.below hb6 (Nat.le_refl _))
      clear hb6 x5 c5' hB5
      have hcr : countR ts = ((((tabE ts).1.length : Nat) : Int), 0) := by unfold countR; rw [if_neg (by rw [Hv.out.2.1]; simp)]
      rw [hcr]
      clear hcr
      obtain ⟨N, hN⟩ : ∃ N, N = (tabE ts).1.length := ⟨_, rfl⟩
      obtain ⟨S, hS⟩ : ∃ S, S = (statesL ts).length := ⟨_, rfl⟩
      have hNS : N ≤ S := by rw [hN, hS]; exact safe_few Hv.out.1
      have hsome := safe_some Hv.out.1
      rw [← hN] at hsome ⊢
      have hNn : ¬ (N : Int) < 0 := by omega
      have HN := Lib.hid (And.intro hsome hS)
      clear hN hsome hS
      go_wp2_with (fail)
      refine (States_any w6 B1 A1 j c ts (h1.below hB6 hB1) (by omega) Hv.out.1).mono ?_
      rintro e w7 ⟨rfl, hb7⟩
      rw [← HN.out.2]
      have hB7 := hB6.trans (hb7.mono hz6)
      have x7 := bxBelow x6 hb7 x6.lt
      have c7' := x7.cell
      have hz7 := hB7.size
      have hz57 : w5.heap.size ≤ w7.heap.size := by have := hb7.size; omega
      have H7 := Lib.hid (H6.out.below (hb7.mono hz56) (Nat.le_refl _))
      have hSN : ¬ (S : Int) < (N : Int) := by omega
      clear hb7 x6 c6' hB6
      by_cases hdense : 27720 < s
      · have hall := fun (p : Pl) (hp : Nice ts p) => dense_doomed Hv.out.1 (by rw [← Hs.out]; exact hdense) hp
        have hde := hall _ (nice_empty Hv.out.1)
        have hR2 : R.2 = 17 := by rw [H5.out.1, circle_doomed Hv.out.2.1 hde]
        have hD2 : D.2 = 0 := by
          rw [Hd.out.1, (either_doomed Hd.out.2 (hall _ (nice_stated Hd.out.2))).1]
        have hN0 : N = 0 := by
          rcases Nat.eq_zero_or_pos N with h | h
          · exact h
          · exact absurd hde (HN.out.1.1 h)
        subst hN0
        rw [hR2, hD2]
        clear hR2 hD2 hall hde
        go_wp2_with (fail)
        refine (Works_any _).mono ?_
        rintro e wz ⟨rfl, hbz⟩
        go_wp2_with (fail)
        go_ret
        exact ⟨rfl, hB7.trans (hbz.mono hB7.size)⟩
      have hw6 : IntKind.i64.wrap (6 * s) = 6 * s := by rw [IntKind.wrap_i64]; omega
      by_cases hthin : 6 * s ≤ 138600
      · have hde := thin_safe Hv.out.2.1 (by rw [← Hs.out]; exact hthin)
        have hRe := H5.out.1.trans (circle_safe Hv.out.2.1 (win := win) hde)
        obtain ⟨p, hcyc, hcl, -⟩ := circ_spec Hv.out.1 H5.out.2.1 hde
        obtain ⟨cs, hcs⟩ : ∃ cs, cs = (circP ts (tabE ts).1 win ((statesL ts).map plOf)).1 := ⟨_, rfl⟩
        rw [← hcs] at hRe hcyc hcl
        have hcc := cc_ok Hv.out.2.1 hcyc hcl
        rw [checkCircle_same] at hcc
        have hR2 : R.2 = 0 := by rw [hRe]
        have hR1 : R.1 = cs := by rw [hRe]
        have hi7 := H7.out
        rw [hR1] at hi7
        have hNp : 0 < (N : Int) := by have := HN.out.1.2 hde; omega
        have Hc := Lib.hid (And.intro hcc hi7)
        rw [hR2]
        clear hR2 hR1 hi7 hcc hcyc hcl hcs hRe hde
        go_wp2_with (fail)
        refine (rCheckCircle_any w7 B1 w5.heap.size A1 A5 j c m5 c5 ts cs (h1.below hB7 hB1) (by omega) Hc.out.2 hz57).mono ?_
        rintro e w8 ⟨rfl, hb8⟩
        rw [Hc.out.1]
        have hB8 := hB7.trans (hb8.mono hz7)
        clear hb8 x7 c7' hB7
        go_wp2_with (fail)
        refine (Works_any _).mono ?_
        rintro e wz ⟨rfl, hbz⟩
        go_wp2_with (fail)
        go_ret
        exact ⟨rfl, hB8.trans (hbz.mono hB8.size)⟩
      rcases Classical.em (emptyP ts ∈ dq ts) with hde | hde
      · have hR2 : R.2 = 17 := by rw [H5.out.1, circle_doomed Hv.out.2.1 hde]
        have hN0 : N = 0 := by
          rcases Nat.eq_zero_or_pos N with h | h
          · exact h
          · exact absurd hde (HN.out.1.1 h)
        subst hN0
        rw [hR2]
        clear hR2 hde
        go_wp2_with (fail)
        refine (Works_any _).mono ?_
        rintro e wz ⟨rfl, hbz⟩
        go_wp2_with (fail)
        go_ret
        exact ⟨rfl, hB7.trans (hbz.mono hB7.size)⟩
      · have hR2 : R.2 = 0 := by rw [H5.out.1, circle_safe Hv.out.2.1 hde]
        have hNp : 0 < (N : Int) := by have := HN.out.1.2 hde; omega
        rw [hR2]
        clear hR2 hde
        go_wp2_with (fail)
        refine (Works_any _).mono ?_
        rintro e wz ⟨rfl, hbz⟩
        go_wp2_with (fail)
        go_ret
        exact ⟨rfl, hB7.trans (hbz.mono hB7.size)⟩
end Go.Proofs.YthjgecblkagelaaGreat
