/- Parts of a proof: DL. -/
import Derived.Test.YtdpehmdmgijcmaaGreatM29

/- TurnLasted: the walk. -/
namespace Go.Proofs.YtdpehmdmgijcmaaGreat
open Go.RowKit Go.Shelf

attribute [local go_sem] Oper.semAt_some

theorem ints_take {W : World} {B : Nat} {A : Option Addr} {m k : Nat} {xs : List Int} (h : IntsAt W B A m xs) (hk : k ≤ m) : IntsAt W B A k (xs.take k) := by
  have hl := h.len
  have hs := h.small
  refine ⟨by rw [List.length_take]; omega, by omega, fun h0 => ?_⟩
  obtain ⟨b, o, e, hb, hc⟩ := h.2.2 (by omega)
  exact ⟨b, o, e, hb, fun j hj => by rw [List.getElem?_take, if_pos hj]; exact hc j (by omega)⟩
theorem ints_drop {W : World} {B g o : Nat} {m k : Nat} {xs : List Int} (h : IntsAt W B (some ⟨g, o, none⟩) m xs) (hk : k ≤ m) : IntsAt W B (some ⟨g, o + k, none⟩) (m - k) (xs.drop k) := by
  have hl := h.len
  have hs := h.small
  refine ⟨by rw [List.length_drop]; omega, by omega, fun h0 => ?_⟩
  obtain ⟨b, o', e, hb, hc⟩ := h.2.2 (by omega)
  cases e
  exact ⟨g, o + k, rfl, hb, fun j hj => by rw [List.getElem?_drop, Nat.add_assoc]; exact hc (k + j) (by omega)⟩

set_option maxRecDepth 100000 in
set_option maxHeartbeats 16000000 in
theorem TurnLasted_any (w : World) (B1 B2 B3 : Nat) (A1 A2 A3 : Option Addr) (n c m d k f : Nat) (many : Int) (ts bs rs : List Int) (h1 : IntsAt w B1 A1 n ts) (hB1 : B1 ≤ w.heap.size) (h2 : U8At w B2 A2 m bs) (hB2 : B2 ≤ w.heap.size) (h3 : U8At w B3 A3 k rs) (hB3 : B3 ≤ w.heap.size) (hmany : 0 ≤ many ∧ many ≤ 255) :
    Calls Tryz.prog 11 #[.agg #[.slice A1 n c], .slice A2 m d, .slice A3 k f, .int .u8 many] w fun e w' => e = .returned (.bool true) ∧ Below w.heap.size w w' := by
  have hb0 : Below w.heap.size w (w.alloc (.cells #[.slice A1 n c] 24)) := (Below.refl _ w).alloc (Nat.le_refl _) _
  have x0 := Boxed.new w 24 (.slice A1 n c)
  have hm8 := h2.2.1
  have hk83 := h3.2.1
  go_enter Tryz.func11, Tryz.ntmps11
  go_wp2_with (fail)
  refine (fine_any _ B1 A1 n c ts (h1.below hb0 hB1) (by have := hb0.size; omega)).mono ?_
  rintro e w2 ⟨rfl, hb2⟩
  have hB2' := hb0.trans (hb2.mono hb0.size)
  have x2 := bxBelow x0 hb2 x0.lt
  have c2 := x2.cell
  have hz2 := hB2'.size
  clear hb0 hb2 x0
  by_cases hc : checkHallF ts = 0
  case neg =>
    rw [decide_eq_false hc]
    clear hc
    go_wp2_with (fail)
    refine (Works_any _).mono ?_
    rintro e w3 ⟨rfl, hb⟩
    go_wp2_with (fail)
    go_ret
    exact ⟨rfl, hB2'.trans (hb.mono hz2)⟩
  rw [decide_eq_true hc]
  have hv := valid_of hc
  have h1n : 1 ≤ n := by have := hv.h1; have := h1.len; omega
  have h5n : n ≤ 5 := by have := hv.h5; have := h1.len; omega
  have Hv := Lib.hid (And.intro hv (And.intro hc h1.len))
  clear hv hc
  by_cases hml : 20 < (m : Int)
  · go_wp2_with (fail)
    refine (Works_any _).mono ?_
    rintro e w3 ⟨rfl, hb⟩
    go_wp2_with (fail)
    go_ret
    exact ⟨rfl, hB2'.trans (hb.mono hz2)⟩
  by_cases hkl : 60 < (k : Int)
  · go_wp2_with (fail)
    refine (Works_any _).mono ?_
    rintro e w3 ⟨rfl, hb⟩
    go_wp2_with (fail)
    go_ret
    exact ⟨rfl, hB2'.trans (hb.mono hz2)⟩
  go_wp2_with (fail)
  refine (State_any w2 B1 B2 A1 A2 n c m d ts bs (h1.below hB2' hB1) (by omega) (h2.below hB2' hB2) (by omega) Hv.out.1).mono ?_
  rintro e w3 hpost
  obtain ⟨g, s0, hg, rfl, hrow, ⟨hs0, hok⟩, hb3⟩ := hpost
  have hB3' := hB2'.trans (hb3.mono hz2)
  have x3 := bxBelow x2 hb3 x2.lt
  have hz3 := hB3'.size
  have hst : statedF ts s0 = 0 := by
    unfold statedF
    rw [if_neg (by rw [Hv.out.2.1]; simp), if_neg (by have := Hv.out.2.2; simp; omega), if_pos hok]
  have hi3 : IntsAt w3 w3.heap.size (some ⟨g, 0, none⟩) n s0 := by
    refine ⟨hs0, by omega, fun _ => ⟨g, 0, rfl, ?_, fun j hj => ?_⟩⟩
    · rcases Nat.lt_or_ge g w3.heap.size with h | h
      · exact h
      · rw [Array.getElem?_eq_none h] at hrow
        cases hrow
    · simp [World.cell?, hrow, show j < s0.length by omega]
  have H3 := Lib.hid (And.intro hst (And.intro hi3 hs0))
  clear hi3 hrow hok hb3 x2 c2 hB2' hz2 hs0 hg
  have c3 := x3.cell
  have hB1' : B1 ≤ w3.heap.size := by omega
  rcases Classical.em (plOf s0 ∈ dq ts) with hd | hd
  case inr =>
    have hd2 := lasts_safe hst hd
    have Hd := Lib.hid hd2
    clear hd hd2 hst
    go_wp2_with (fail)
    refine (Lasts_any w3 B1 w3.heap.size A1 (some ⟨g, 0, none⟩) n c n n ts s0 (h1.below hB3' hB1) hB1' H3.out.2.1 (Nat.le_refl _) (fun _ => ends_all Hv.out.1)).mono ?_
    intro e w5 hd5
    rw [Hd.out] at hd5
    obtain ⟨v5, rfl, hrow5, hb5⟩ := hd5
    obtain ⟨A6, c6, rfl, -⟩ := ownsRow_slice hrow5
    clear hrow5
    simp only [List.length_nil]
    have hB5' := hB3'.trans (hb5.mono hz3)
    clear hb5 x3 c3
    go_wp2_with (fail)
    refine (Works_any _).mono ?_
    rintro e w9 ⟨rfl, hb⟩
    go_wp2_with (fail)
    go_ret
    exact ⟨rfl, hB5'.trans (hb.mono hB5'.size)⟩
  have hd2 := lasts_doomed hst hd
  have hlaz := la_nonneg Hv.out.1 (ts := ts) (plOf s0)
  have hlab := la_lt Hv.out.1 hd
  obtain ⟨m6, hm6⟩ : ∃ m6, m6 = (la ts (plOf s0)).toNat := ⟨_, rfl⟩
  have hla6 : la ts (plOf s0) = (m6 : Int) := by omega
  rw [← hm6] at hd2
  obtain ⟨hL1, hL2⟩ := lon_len Hv.out.1 m6 _ hd hla6
  have hm6b : m6 < 1000 := by omega
  obtain ⟨L, hL⟩ : ∃ L, L = lon ts m6 (plOf s0) := ⟨_, rfl⟩
  rw [← hL] at hd2 hL1 hL2
  have Hd := Lib.hid (And.intro hd (And.intro hla6 (And.intro hL (And.intro hd2 (And.intro hL1 hL2)))))
  clear hd hla6 hL hd2 hL1 hL2 hm6 hlaz hlab hst
  go_wp2_with (fail)
  refine (Lasts_any w3 B1 w3.heap.size A1 (some ⟨g, 0, none⟩) n c n n ts s0 (h1.below hB3' hB1) hB1' H3.out.2.1 (Nat.le_refl _) (fun _ => ends_all Hv.out.1)).mono ?_
  intro e w5 hd5
  rw [Hd.out.2.2.2.1] at hd5
  obtain ⟨v5, rfl, hrow5, hb5⟩ := hd5
  simp only at hrow5
  rw [Hd.out.2.2.2.2.1] at hrow5
  have hB5' := hB3'.trans (hb5.mono hz3)
  have x5 := bxBelow x3 hb5 x3.lt
  have c5 := x5.cell
  have hz5 := hB5'.size
  have hzz5 := hb5.size
  have H5 := Lib.hid hb5
  clear hb5 x3 c3
  have hsh : (v5 = .slice none 0 0 ∧ m6 = 0) ∨ ∃ g6 c6, v5 = .slice (some ⟨g6, 0, none⟩) m6 c6 ∧ m6 ≤ c6 ∧ g6 < w5.heap.size := by
    rcases Nat.eq_zero_or_pos m6 with h0 | h0
    · rcases hrow5.2 with ⟨he, -⟩ | ⟨g', cap', cur, he, hb, hgg, hle, -⟩
      · exact .inl ⟨he, h0⟩
      · exact .inr ⟨g', cap', he, hle, (Array.getElem?_eq_some_iff.1 hgg).1⟩
    · obtain ⟨g6, c6, rfl⟩ := ownsRow_pos hrow5 h0
      obtain ⟨A', c', e, hle⟩ := ownsRow_slice hrow5
      cases e
      exact .inr ⟨g6, c6, rfl, hle, ints_lt (row_ints hrow5 (by omega)) h0⟩
  have hwm : IntKind.i64.wrap many = many := by rw [IntKind.wrap_i64]; omega
  have hwl : IntKind.i64.wrap ((m6 : Int) + 1) = (m6 : Int) + 1 := by rw [IntKind.wrap_i64]; omega
  obtain ⟨kk, hkk⟩ : ∃ kk : Nat, (kk : Int) = many % ((m6 : Int) + 1) := ⟨(many % ((m6 : Int) + 1)).toNat, by have := Int.emod_nonneg many (show (m6 : Int) + 1 ≠ 0 by omega); omega⟩
  have hkm : kk ≤ m6 := by have := Int.emod_lt_of_pos many (show 0 < (m6 : Int) + 1 by omega); omega
  have htm : many.tmod ((m6 : Int) + 1) = (kk : Int) := by rw [Int.tmod_eq_emod_of_nonneg hmany.1]; exact hkk.symm
  have hm0 : ¬ (m6 : Int) + 1 = 0 := by omega
  clear hkk
  rcases hsh with ⟨rfl, hm60⟩ | ⟨g6, c6, rfl, hmc, hg6⟩
  · have hL0 : L = [] := List.eq_nil_of_length_eq_zero (by rw [Hd.out.2.2.2.2.1, hm60])
    have HL0 := Lib.hid hL0
    obtain rfl : kk = 0 := by omega
    subst hm60
    have hi6 : IntsAt w5 w5.heap.size none 0 L := by rw [hL0]; exact IntsAt.nil
    clear hL0 hrow5
    have Hi6 := Lib.hid hi6
    clear hi6
    go_wp2_with (fail)
    refine (Row_any w5 B3 A1 A3 n c k f rs (h3.below hB5' hB3) (by omega) h1n h5n (by omega)).mono ?_
    rintro e w6 hp6
    obtain ⟨v7, xs, rfl, hrow7, ⟨hxl, hxw⟩, hb6⟩ := hp6
    obtain ⟨A7, c7, rfl, -⟩ := ownsRow_slice hrow7
    have hi7 : IntsAt w6 w6.heap.size A7 k xs := by
      obtain ⟨A', m', c', e, h⟩ := ListAt.of_row (xs := xs) (by rw [hxl]; exact hrow7) (by omega)
      cases e
      exact h
    have hB6 := hB5'.trans (hb6.mono hz5)
    have x6 := bxBelow x5 hb6 x5.lt
    have c6' := x6.cell
    have hz6 := hB6.size
    have hzz6 := hb6.size
    have H6 := Lib.hid (And.intro hi7 (And.intro hb6 (And.intro hxl hxw)))
    clear hi7 hb6 hxl hxw hrow7 x5 c5
    go_wp2_with (fail)
    refine (isRow_any w6 w5.heap.size A1 none n c 0 0 L (Hi6.out.below H6.out.2.1 (Nat.le_refl _)) hzz6).mono ?_
    rintro e w7 ⟨rfl, hb7⟩
    have hrow0 : isRowF n L = 0 := by
      unfold isRowF
      rw [if_neg (by have := Hd.out.2.2.2.2.1; omega), ← Hv.out.2.2, if_pos Hd.out.2.2.2.2.2]
    rw [hrow0]
    clear hrow0
    have hB7 := hB6.trans (hb7.mono hz6)
    have x7 := bxBelow x6 hb7 x6.lt
    have c7' := x7.cell
    have hz7 := hB7.size
    have hzz7 := hb7.size
    have hb57 := H6.out.2.1.trans (hb7.mono hzz6)
    have H7 := Lib.hid (And.intro hb7 (And.intro hb57 (H5.out.trans (hb57.mono hzz5))))
    clear hb7 hb57 x6 c6'
    have hpr := play_of H3.out.1 (row := xs) (by have := H6.out.2.2.1; omega) (by rw [Hv.out.2.2]; exact H6.out.2.2.2)
    obtain ⟨hpn, hpl⟩ := play_len Hv.out.1 xs (plOf s0) (by rw [Hv.out.2.2]; exact H6.out.2.2.2) Hd.out.1
    have hfirst : k = 0 → playL ts xs (plOf s0) ≠ none → firstF xs L = false := fun e h => by
      rw [Hd.out.2.2.1]
      exact first_no Hv.out.1 0 xs (plOf s0) (by rw [Hv.out.2.2]; exact H6.out.2.2.2) Hd.out.1 Hd.out.2.1 (by rw [H6.out.2.2.1, e]) h
    have hla6 := Hd.out.2.1
    go_wp2_with (fail)
    refine (Play_any w7 B1 w3.heap.size w6.heap.size A1 (some ⟨g, 0, none⟩) A7 n c n n k c7 ts s0 xs (h1.below hB7 hB1) (by omega) (H3.out.2.1.below H7.out.2.2 (Nat.le_refl _)) (by omega) (H6.out.1.below H7.out.1 (Nat.le_refl _)) hzz7).mono ?_
    rintro e w8 ⟨v8, rfl, hl8, hb8⟩
    have hB8 := hB7.trans (hb8.mono hz7)
    have x8 := bxBelow x7 hb8 x7.lt
    have c8' := x8.cell
    have hz8 := hB8.size
    have H8 := Lib.hid (And.intro (H7.out.2.2.trans (hb8.mono H7.out.2.2.size)) (H7.out.2.1.trans (hb8.mono H7.out.2.1.size)))
    have hb68 := H7.out.1.trans (hb8.mono hzz7)
    have Hb68 := Lib.hid hb68
    clear hb8 hb68 x7 c7'
    obtain ⟨r8, hr8⟩ : ∃ r8, r8 = playR ts s0 xs := ⟨_, rfl⟩
    rw [← hr8] at hl8 ⊢
    rw [hpr] at hr8
    clear hpr
    obtain ⟨l8, y8, z8⟩ := r8
    obtain ⟨A8, m8, c8, rfl, -⟩ := hl8
    obtain ⟨po, hplay⟩ : ∃ po, po = playL ts xs (plOf s0) := ⟨_, rfl⟩
    rw [← hplay] at hr8 hpl hfirst
    clear hplay
    cases po with
    | none =>
      obtain ⟨N, hN⟩ : ∃ N, N = playN ts xs (plOf s0) := ⟨_, rfl⟩
      rw [← hN] at hpn hr8
      obtain ⟨e1, e2, e3⟩ : l8 = [] ∧ y8 = (N : Int) ∧ z8 = 17 := by
        have h := Prod.mk.inj hr8
        exact ⟨h.1, Prod.mk.inj h.2⟩
      subst e2 e3
      have hNm : ¬ (0 : Int) < (N : Int) := by omega
      clear hfirst hpl hN hla6 hpn hr8 e1
      obtain ⟨q, hq1, hq2, hq3, hq4⟩ := lon_take Hv.out.1 0 0 (plOf s0) hkm Hd.out.1 Hd.out.2.1
      rw [← Hd.out.2.2.1] at hq1 hq4
      have hqn := dq_nice Hv.out.1 hq2
      have hqs := stated_nice Hv.out.2.1 hqn
      have hqp := (nice_list Hv.out.1 hqn).2
      have hwk : winsF ts.length (L.take 0) = true := by
        have h := Hd.out.2.2.2.2.2
        unfold winsF at h ⊢
        rw [List.all_eq_true] at h ⊢
        exact fun x hx => h x (List.mem_of_mem_take hx)
      have hpk : playR ts s0 (L.take 0) = (plList q, (0 : Int), 0) := by
        rw [play_of H3.out.1 (by rw [List.length_take]; omega) hwk, hq1]
        refine Prod.ext rfl (Prod.ext ?_ rfl)
        have := Hd.out.2.2.2.2.1
        simp only [List.length_take]
        omega
      have hlq : lastsR ts (plList q) = (L.drop 0, 0) := by
        rw [lasts_doomed hqs (by rw [hqp]; exact hq2), hqp]
        have : (la ts q).toNat = 0 - 0 := by omega
        rw [this, hq4]
      have Hq := Lib.hid (And.intro hpk (And.intro hlq hqs))
      clear hq1 hq2 hq3 hq4 hqn hqp hwk hpk hlq hqs
      go_wp2_with (fail)
      refine region_held_wp 1 (fun W' => W' = w8.drew) (fun j => decide (j < 5)) (by kernel_rfl) ?_
      intro KR hKR
      have hS : w8.drew = w8.drew := rfl
      refine wpAnyHI_takeE (i := 0) (v := .agg #[.slice A1 n c]) (some 107) rfl rfl (by kernel_rfl) (by kernel_rfl) (by kernel_rfl) (by kernel_rfl) (by kernel_rfl) (fun _ _ _ h => h) hS (.inl ⟨by kernel_rfl, fun W' hS' => ?_⟩) ?_
      · subst hS'; go_simp
      refine wpAnyHI_takeE (i := 1) (v := .slice (some ⟨g, 0, none⟩) n n) (some 108) rfl rfl (by kernel_rfl) (by kernel_rfl) (by kernel_rfl) (by kernel_rfl) (by kernel_rfl) (fun _ _ _ h => h) hS (.inl ⟨by kernel_rfl, fun W' hS' => ?_⟩) ?_
      · subst hS'; go_simp
      refine wpAnyHI_takeE (i := 2) (v := .slice none 0 0) (some 109) rfl rfl (by kernel_rfl) (by kernel_rfl) (by kernel_rfl) (by kernel_rfl) (by kernel_rfl) (fun _ _ _ h => h) hS (.inl ⟨by kernel_rfl, fun W' hS' => ?_⟩) ?_
      · subst hS'; go_simp
      refine wpAnyHI_takeE (i := 3) (v := .int .i64 (0 : Int)) (some 110) rfl rfl (by kernel_rfl) (by kernel_rfl) (by kernel_rfl) (by kernel_rfl) (by kernel_rfl) (fun _ _ _ h => h) hS (.inl ⟨by kernel_rfl, fun W' hS' => ?_⟩) ?_
      · subst hS'; go_simp
      refine wpAnyHI_takeE (i := 4) (v := .slice none 0 0) (some 111) rfl rfl (by kernel_rfl) (by kernel_rfl) (by kernel_rfl) (by kernel_rfl) (by kernel_rfl) (fun _ _ _ h => h) hS (.inl ⟨by kernel_rfl, fun W' hS' => ?_⟩) ?_
      · subst hS'; go_simp
      refine wpAnyHI_one (i := 5) rfl (by kernel_rfl) ?_
      intro K1 hK1
      go_simp
      have hBd8 : Below w.heap.size w w8.drew := hB8.trans ((below_drew w8).mono hz8)
      have hb3d : Below w3.heap.size w3 w8.drew := H8.out.1.trans ((below_drew w8).mono H8.out.1.size)
      have hb5d : Below w5.heap.size w5 w8.drew := H8.out.2.trans ((below_drew w8).mono H8.out.2.size)
      refine ⟨trivial, (callsIn_wide.2 (Play_any w8.drew B1 w3.heap.size w5.heap.size A1 (some ⟨g, 0, none⟩) none n c n n 0 0 ts s0 (L.take 0) (h1.below hBd8 hB1) (by have := hBd8.size; omega) (H3.out.2.1.below hb3d (Nat.le_refl _)) hb3d.size (ints_take (Hi6.out.below hb5d (Nat.le_refl _)) hkm) hb5d.size)).mono ?_⟩
      rintro e w9 ⟨v9, rfl, hl9, hb9⟩
      rw [Hq.out.1] at hl9 ⊢
      obtain ⟨A9, m9, c9, rfl, h9⟩ := hl9
      simp only at h9 ⊢
      have hb89 : Below w8.heap.size w8 w9 := (below_drew w8).trans hb9
      refine hK1 _ _ ⟨fun h => absurd h (by decide), ?_⟩
      clear hK1 K1 hBd8 hb3d hb5d
      refine wpAnyHI_takeW (i := 6) (v := .tuple #[.slice A9 m9 c9, .int .i64 (0 : Int), .int .i64 0]) (some 106) rfl rfl (by kernel_rfl) (by kernel_rfl) (by kernel_rfl) (by kernel_rfl) (fun _ _ _ h => h) (.inl ⟨by kernel_rfl, fun W' hS' => ?_⟩) ?_
      · go_simp
      refine wpAnyHI_takeW (i := 7) (v := .slice A9 m9 c9) (some 113) rfl rfl (by kernel_rfl) (by kernel_rfl) (by kernel_rfl) (by kernel_rfl) (fun _ _ _ h => h) (.inl ⟨by kernel_rfl, fun W' hS' => ?_⟩) ?_
      · go_simp
      refine wpAnyHI_takeW (i := 8) (v := .int .i64 (0 : Int)) (some 114) rfl rfl (by kernel_rfl) (by kernel_rfl) (by kernel_rfl) (by kernel_rfl) (fun _ _ _ h => h) (.inl ⟨by kernel_rfl, fun W' hS' => ?_⟩) ?_
      · go_simp
      refine wpAnyHI_takeW (i := 9) (v := .int .i64 0) (some 115) rfl rfl (by kernel_rfl) (by kernel_rfl) (by kernel_rfl) (by kernel_rfl) (fun _ _ _ h => h) (.inl ⟨by kernel_rfl, fun W' hS' => ?_⟩) ?_
      · go_simp
      refine wpAnyHI_takeW (i := 10) (v := .slice A9 m9 c9) (some 17) rfl rfl (by kernel_rfl) (by kernel_rfl) (by kernel_rfl) (by kernel_rfl) (fun _ _ _ h => h) (.inl ⟨by kernel_rfl, fun W' hS' => ?_⟩) ?_
      · go_simp
      refine wpAnyHI_takeW (i := 11) (v := .int .i64 (0 : Int)) (some 14) rfl rfl (by kernel_rfl) (by kernel_rfl) (by kernel_rfl) (by kernel_rfl) (fun _ _ _ h => h) (.inl ⟨by kernel_rfl, fun W' hS' => ?_⟩) ?_
      · go_simp
      refine wpAnyHI_takeW (i := 12) (v := .int .i64 0) (some 15) rfl rfl (by kernel_rfl) (by kernel_rfl) (by kernel_rfl) (by kernel_rfl) (fun _ _ _ h => h) (.inl ⟨by kernel_rfl, fun W' hS' => ?_⟩) ?_
      · go_simp
      refine wpAnyHI_end (by kernel_rfl) ?_
      show KR _ _
      refine hKR _ _ ?_
      clear hKR KR
      have hB9 := hB8.trans (hb89.mono hz8)
      have x9 := bxBelow x8 hb89 x8.lt
      have c9' := x9.cell
      have hz9 := hB9.size
      have hb59 := H8.out.2.trans (hb89.mono H8.out.2.size)
      have hm9s := h9.small
      have H9 := Lib.hid (And.intro h9 hb59)
      clear h9 hb89 hb59 hb9 x8 c8' hS
      go_wp2_with (fail)
      refine (Stated_any w9 B1 w9.heap.size A1 A9 n c m9 c9 ts (plList q) (h1.below hB9 hB1) (by omega) H9.out.1 (Nat.le_refl _)).mono ?_
      rintro e w10 ⟨rfl, hb10⟩
      rw [Hq.out.2.2]
      have hB10 := hB9.trans (hb10.mono hz9)
      have x10 := bxBelow x9 hb10 x9.lt
      have c10' := x10.cell
      have hz10 := hB10.size
      have hz910 := hb10.size
      have H10 := Lib.hid (And.intro hb10 (H9.out.2.trans (hb10.mono H9.out.2.size)))
      clear hb10 x9 c9'
      go_wp2_with (fail)
      refine (Lasts_any w10 B1 w9.heap.size A1 A9 n c m9 c9 ts (plList q) (h1.below hB10 hB1) (by omega) (H9.out.1.below H10.out.1 (Nat.le_refl _)) hz910 (fun _ => ends_all Hv.out.1)).mono ?_
      intro e w11 hd11
      rw [Hq.out.2.1] at hd11
      obtain ⟨v11, rfl, hrow11, hb11⟩ := hd11
      obtain ⟨A11, m11, c11, rfl, hi11⟩ := ListAt.of_row hrow11 (by rw [List.length_drop]; have := Hd.out.2.2.2.2.1; omega)
      have hB11 := hB10.trans (hb11.mono hz10)
      have hz11 := hB11.size
      have H11 := Lib.hid (And.intro hi11 (H10.out.2.trans (hb11.mono H10.out.2.size)))
      have hm11s := hi11.small
      clear hi11 hrow11 hb11 x10 c10'
      have hdr : IntsAt w11 w5.heap.size none 0 (L.drop 0) := by
        rw [HL0.out]
        exact IntsAt.nil
      have Hdr := Lib.hid hdr
      clear hdr
      go_wp2_with (fail)
      refine (ints_any w11 _ _ A11 none m11 0 c11 0 (L.drop 0) (L.drop 0) H11.out.1 Hdr.out).mono ?_
      rintro e w12 ⟨rfl, q12, hw12⟩
      rw [decide_eq_true (rfl : L.drop 0 = L.drop 0)]
      have hB12 : Below w.heap.size w w12 := by rw [hw12]; exact hB11.trans ⟨rfl, rfl, rfl, Nat.le_refl _, fun _ _ => rfl⟩
      clear hw12
      go_wp2_with (fail)
      refine (Works_any _).mono ?_
      rintro e w13 ⟨rfl, hb⟩
      go_wp2_with (fail)
      go_ret
      exact ⟨rfl, hB12.trans (hb.mono hB12.size)⟩
    | some pq =>
      have hkl : k ≤ 0 := by have := hpl (by simp); have := H6.out.2.2.1; omega
      have hff := fun e => hfirst e (by simp)
      obtain ⟨e1, e2, e3⟩ : l8 = plList pq ∧ y8 = (xs.length : Int) ∧ z8 = 0 := by
        have h := Prod.mk.inj hr8
        exact ⟨h.1, Prod.mk.inj h.2⟩
      rw [H6.out.2.2.1] at e2
      subst e2 e3
      have hNm : ¬ (0 : Int) < (k : Int) := by omega
      clear hfirst hpl hla6 hpn hr8 e1
      by_cases hkeq : k = 0
      · have hf1 := hff hkeq
        have Hf := Lib.hid (And.intro hf1 hkeq)
        have hke : (k : Int) = (0 : Int) := by omega
        clear hff hf1 hkeq
        go_wp2_with (fail)
        refine (first_lists_any w8 w6.heap.size w5.heap.size A7 none k c7 0 0 xs L (H6.out.1.below Hb68.out (Nat.le_refl _)) Hb68.out.size (Hi6.out.below H8.out.2 (Nat.le_refl _)) H8.out.2.size Hf.out.2).mono ?_
        rintro e w8' ⟨rfl, hb8'⟩
        rw [Hf.out.1]
        have hB8' := hB8.trans (hb8'.mono hz8)
        have x8' := bxBelow x8 hb8' x8.lt
        have H8' := Lib.hid (And.intro (H8.out.1.trans (hb8'.mono H8.out.1.size)) (H8.out.2.trans (hb8'.mono H8.out.2.size)))
        clear hB8 x8 c8' H8 hz8 hb8' Hb68
        obtain ⟨w8, rfl⟩ : ∃ w8, w8 = w8' := ⟨_, rfl⟩
        have hB8 := hB8'
        have x8 := x8'
        have H8 := H8'
        have c8' := x8.cell
        have hz8 := hB8.size
        clear hB8' x8' H8'
        obtain ⟨q, hq1, hq2, hq3, hq4⟩ := lon_take Hv.out.1 0 0 (plOf s0) hkm Hd.out.1 Hd.out.2.1
        rw [← Hd.out.2.2.1] at hq1 hq4
        have hqn := dq_nice Hv.out.1 hq2
        have hqs := stated_nice Hv.out.2.1 hqn
        have hqp := (nice_list Hv.out.1 hqn).2
        have hwk : winsF ts.length (L.take 0) = true := by
          have h := Hd.out.2.2.2.2.2
          unfold winsF at h ⊢
          rw [List.all_eq_true] at h ⊢
          exact fun x hx => h x (List.mem_of_mem_take hx)
        have hpk : playR ts s0 (L.take 0) = (plList q, (0 : Int), 0) := by
          rw [play_of H3.out.1 (by rw [List.length_take]; omega) hwk, hq1]
          refine Prod.ext rfl (Prod.ext ?_ rfl)
          have := Hd.out.2.2.2.2.1
          simp only [List.length_take]
          omega
        have hlq : lastsR ts (plList q) = (L.drop 0, 0) := by
          rw [lasts_doomed hqs (by rw [hqp]; exact hq2), hqp]
          have : (la ts q).toNat = 0 - 0 := by omega
          rw [this, hq4]
        have Hq := Lib.hid (And.intro hpk (And.intro hlq hqs))
        clear hq1 hq2 hq3 hq4 hqn hqp hwk hpk hlq hqs
        go_wp2_with (fail)
        refine region_held_wp 1 (fun W' => W' = w8.drew) (fun j => decide (j < 5)) (by kernel_rfl) ?_
        intro KR hKR
        have hS : w8.drew = w8.drew := rfl
        refine wpAnyHI_takeE (i := 0) (v := .agg #[.slice A1 n c]) (some 107) rfl rfl (by kernel_rfl) (by kernel_rfl) (by kernel_rfl) (by kernel_rfl) (by kernel_rfl) (fun _ _ _ h => h) hS (.inl ⟨by kernel_rfl, fun W' hS' => ?_⟩) ?_
        · subst hS'; go_simp
        refine wpAnyHI_takeE (i := 1) (v := .slice (some ⟨g, 0, none⟩) n n) (some 108) rfl rfl (by kernel_rfl) (by kernel_rfl) (by kernel_rfl) (by kernel_rfl) (by kernel_rfl) (fun _ _ _ h => h) hS (.inl ⟨by kernel_rfl, fun W' hS' => ?_⟩) ?_
        · subst hS'; go_simp
        refine wpAnyHI_takeE (i := 2) (v := .slice none 0 0) (some 109) rfl rfl (by kernel_rfl) (by kernel_rfl) (by kernel_rfl) (by kernel_rfl) (by kernel_rfl) (fun _ _ _ h => h) hS (.inl ⟨by kernel_rfl, fun W' hS' => ?_⟩) ?_
        · subst hS'; go_simp
        refine wpAnyHI_takeE (i := 3) (v := .int .i64 (0 : Int)) (some 110) rfl rfl (by kernel_rfl) (by kernel_rfl) (by kernel_rfl) (by kernel_rfl) (by kernel_rfl) (fun _ _ _ h => h) hS (.inl ⟨by kernel_rfl, fun W' hS' => ?_⟩) ?_
        · subst hS'; go_simp
        refine wpAnyHI_takeE (i := 4) (v := .slice none 0 0) (some 111) rfl rfl (by kernel_rfl) (by kernel_rfl) (by kernel_rfl) (by kernel_rfl) (by kernel_rfl) (fun _ _ _ h => h) hS (.inl ⟨by kernel_rfl, fun W' hS' => ?_⟩) ?_
        · subst hS'; go_simp
        refine wpAnyHI_one (i := 5) rfl (by kernel_rfl) ?_
        intro K1 hK1
        go_simp
        have hBd8 : Below w.heap.size w w8.drew := hB8.trans ((below_drew w8).mono hz8)
        have hb3d : Below w3.heap.size w3 w8.drew := H8.out.1.trans ((below_drew w8).mono H8.out.1.size)
        have hb5d : Below w5.heap.size w5 w8.drew := H8.out.2.trans ((below_drew w8).mono H8.out.2.size)
        refine ⟨trivial, (callsIn_wide.2 (Play_any w8.drew B1 w3.heap.size w5.heap.size A1 (some ⟨g, 0, none⟩) none n c n n 0 0 ts s0 (L.take 0) (h1.below hBd8 hB1) (by have := hBd8.size; omega) (H3.out.2.1.below hb3d (Nat.le_refl _)) hb3d.size (ints_take (Hi6.out.below hb5d (Nat.le_refl _)) hkm) hb5d.size)).mono ?_⟩
        rintro e w9 ⟨v9, rfl, hl9, hb9⟩
        rw [Hq.out.1] at hl9 ⊢
        obtain ⟨A9, m9, c9, rfl, h9⟩ := hl9
        simp only at h9 ⊢
        have hb89 : Below w8.heap.size w8 w9 := (below_drew w8).trans hb9
        refine hK1 _ _ ⟨fun h => absurd h (by decide), ?_⟩
        clear hK1 K1 hBd8 hb3d hb5d
        refine wpAnyHI_takeW (i := 6) (v := .tuple #[.slice A9 m9 c9, .int .i64 (0 : Int), .int .i64 0]) (some 106) rfl rfl (by kernel_rfl) (by kernel_rfl) (by kernel_rfl) (by kernel_rfl) (fun _ _ _ h => h) (.inl ⟨by kernel_rfl, fun W' hS' => ?_⟩) ?_
        · go_simp
        refine wpAnyHI_takeW (i := 7) (v := .slice A9 m9 c9) (some 113) rfl rfl (by kernel_rfl) (by kernel_rfl) (by kernel_rfl) (by kernel_rfl) (fun _ _ _ h => h) (.inl ⟨by kernel_rfl, fun W' hS' => ?_⟩) ?_
        · go_simp
        refine wpAnyHI_takeW (i := 8) (v := .int .i64 (0 : Int)) (some 114) rfl rfl (by kernel_rfl) (by kernel_rfl) (by kernel_rfl) (by kernel_rfl) (fun _ _ _ h => h) (.inl ⟨by kernel_rfl, fun W' hS' => ?_⟩) ?_
        · go_simp
        refine wpAnyHI_takeW (i := 9) (v := .int .i64 0) (some 115) rfl rfl (by kernel_rfl) (by kernel_rfl) (by kernel_rfl) (by kernel_rfl) (fun _ _ _ h => h) (.inl ⟨by kernel_rfl, fun W' hS' => ?_⟩) ?_
        · go_simp
        refine wpAnyHI_takeW (i := 10) (v := .slice A9 m9 c9) (some 17) rfl rfl (by kernel_rfl) (by kernel_rfl) (by kernel_rfl) (by kernel_rfl) (fun _ _ _ h => h) (.inl ⟨by kernel_rfl, fun W' hS' => ?_⟩) ?_
        · go_simp
        refine wpAnyHI_takeW (i := 11) (v := .int .i64 (0 : Int)) (some 14) rfl rfl (by kernel_rfl) (by kernel_rfl) (by kernel_rfl) (by kernel_rfl) (fun _ _ _ h => h) (.inl ⟨by kernel_rfl, fun W' hS' => ?_⟩) ?_
        · go_simp
        refine wpAnyHI_takeW (i := 12) (v := .int .i64 0) (some 15) rfl rfl (by kernel_rfl) (by kernel_rfl) (by kernel_rfl) (by kernel_rfl) (fun _ _ _ h => h) (.inl ⟨by kernel_rfl, fun W' hS' => ?_⟩) ?_
        · go_simp
        refine wpAnyHI_end (by kernel_rfl) ?_
        show KR _ _
        refine hKR _ _ ?_
        clear hKR KR
        have hB9 := hB8.trans (hb89.mono hz8)
        have x9 := bxBelow x8 hb89 x8.lt
        have c9' := x9.cell
        have hz9 := hB9.size
        have hb59 := H8.out.2.trans (hb89.mono H8.out.2.size)
        have hm9s := h9.small
        have H9 := Lib.hid (And.intro h9 hb59)
        clear h9 hb89 hb59 hb9 x8 c8' hS
        go_wp2_with (fail)
        refine (Stated_any w9 B1 w9.heap.size A1 A9 n c m9 c9 ts (plList q) (h1.below hB9 hB1) (by omega) H9.out.1 (Nat.le_refl _)).mono ?_
        rintro e w10 ⟨rfl, hb10⟩
        rw [Hq.out.2.2]
        have hB10 := hB9.trans (hb10.mono hz9)
        have x10 := bxBelow x9 hb10 x9.lt
        have c10' := x10.cell
        have hz10 := hB10.size
        have hz910 := hb10.size
        have H10 := Lib.hid (And.intro hb10 (H9.out.2.trans (hb10.mono H9.out.2.size)))
        clear hb10 x9 c9'
        go_wp2_with (fail)
        refine (Lasts_any w10 B1 w9.heap.size A1 A9 n c m9 c9 ts (plList q) (h1.below hB10 hB1) (by omega) (H9.out.1.below H10.out.1 (Nat.le_refl _)) hz910 (fun _ => ends_all Hv.out.1)).mono ?_
        intro e w11 hd11
        rw [Hq.out.2.1] at hd11
        obtain ⟨v11, rfl, hrow11, hb11⟩ := hd11
        obtain ⟨A11, m11, c11, rfl, hi11⟩ := ListAt.of_row hrow11 (by rw [List.length_drop]; have := Hd.out.2.2.2.2.1; omega)
        have hB11 := hB10.trans (hb11.mono hz10)
        have hz11 := hB11.size
        have H11 := Lib.hid (And.intro hi11 (H10.out.2.trans (hb11.mono H10.out.2.size)))
        have hm11s := hi11.small
        clear hi11 hrow11 hb11 x10 c10'
        have hdr : IntsAt w11 w5.heap.size none 0 (L.drop 0) := by
          rw [HL0.out]
          exact IntsAt.nil
        have Hdr := Lib.hid hdr
        clear hdr
        go_wp2_with (fail)
        refine (ints_any w11 _ _ A11 none m11 0 c11 0 (L.drop 0) (L.drop 0) H11.out.1 Hdr.out).mono ?_
        rintro e w12 ⟨rfl, q12, hw12⟩
        rw [decide_eq_true (rfl : L.drop 0 = L.drop 0)]
        have hB12 : Below w.heap.size w w12 := by rw [hw12]; exact hB11.trans ⟨rfl, rfl, rfl, Nat.le_refl _, fun _ _ => rfl⟩
        clear hw12
        go_wp2_with (fail)
        refine (Works_any _).mono ?_
        rintro e w13 ⟨rfl, hb⟩
        go_wp2_with (fail)
        go_ret
        exact ⟨rfl, hB12.trans (hb.mono hB12.size)⟩
      · have hke : ¬ (k : Int) = (0 : Int) := by omega
        clear hff hkeq
        exfalso
        omega
  · have hi6 : IntsAt w5 w5.heap.size (some ⟨g6, 0, none⟩) m6 L := by
      rcases Nat.eq_zero_or_pos m6 with h0 | h0
      · have hL0 : L = [] := List.eq_nil_of_length_eq_zero (by rw [Hd.out.2.2.2.2.1, h0])
        rw [hL0, h0]
        exact ⟨rfl, by omega, fun h => absurd h (by omega)⟩
      · exact row_ints hrow5 (by omega)
    clear hrow5
    have Hi6 := Lib.hid hi6
    clear hi6
    go_wp2_with (fail)
    refine (Row_any w5 B3 A1 A3 n c k f rs (h3.below hB5' hB3) (by omega) h1n h5n (by omega)).mono ?_
    rintro e w6 hp6
    obtain ⟨v7, xs, rfl, hrow7, ⟨hxl, hxw⟩, hb6⟩ := hp6
    obtain ⟨A7, c7, rfl, -⟩ := ownsRow_slice hrow7
    have hi7 : IntsAt w6 w6.heap.size A7 k xs := by
      obtain ⟨A', m', c', e, h⟩ := ListAt.of_row (xs := xs) (by rw [hxl]; exact hrow7) (by omega)
      cases e
      exact h
    have hB6 := hB5'.trans (hb6.mono hz5)
    have x6 := bxBelow x5 hb6 x5.lt
    have c6' := x6.cell
    have hz6 := hB6.size
    have hzz6 := hb6.size
    have H6 := Lib.hid (And.intro hi7 (And.intro hb6 (And.intro hxl hxw)))
    clear hi7 hb6 hxl hxw hrow7 x5 c5
    go_wp2_with (fail)
    refine (isRow_any w6 w5.heap.size A1 (some ⟨g6, 0, none⟩) n c m6 c6 L (Hi6.out.below H6.out.2.1 (Nat.le_refl _)) hzz6).mono ?_
    rintro e w7 ⟨rfl, hb7⟩
    have hrow0 : isRowF n L = 0 := by
      unfold isRowF
      rw [if_neg (by have := Hd.out.2.2.2.2.1; omega), ← Hv.out.2.2, if_pos Hd.out.2.2.2.2.2]
    rw [hrow0]
    clear hrow0
    have hB7 := hB6.trans (hb7.mono hz6)
    have x7 := bxBelow x6 hb7 x6.lt
    have c7' := x7.cell
    have hz7 := hB7.size
    have hzz7 := hb7.size
    have hb57 := H6.out.2.1.trans (hb7.mono hzz6)
    have H7 := Lib.hid (And.intro hb7 (And.intro hb57 (H5.out.trans (hb57.mono hzz5))))
    clear hb7 hb57 x6 c6'
    have hpr := play_of H3.out.1 (row := xs) (by have := H6.out.2.2.1; omega) (by rw [Hv.out.2.2]; exact H6.out.2.2.2)
    obtain ⟨hpn, hpl⟩ := play_len Hv.out.1 xs (plOf s0) (by rw [Hv.out.2.2]; exact H6.out.2.2.2) Hd.out.1
    have hfirst : k = m6 → playL ts xs (plOf s0) ≠ none → firstF xs L = false := fun e h => by
      rw [Hd.out.2.2.1]
      exact first_no Hv.out.1 m6 xs (plOf s0) (by rw [Hv.out.2.2]; exact H6.out.2.2.2) Hd.out.1 Hd.out.2.1 (by rw [H6.out.2.2.1, e]) h
    have hla6 := Hd.out.2.1
    go_wp2_with (fail)
    refine (Play_any w7 B1 w3.heap.size w6.heap.size A1 (some ⟨g, 0, none⟩) A7 n c n n k c7 ts s0 xs (h1.below hB7 hB1) (by omega) (H3.out.2.1.below H7.out.2.2 (Nat.le_refl _)) (by omega) (H6.out.1.below H7.out.1 (Nat.le_refl _)) hzz7).mono ?_
    rintro e w8 ⟨v8, rfl, hl8, hb8⟩
    have hB8 := hB7.trans (hb8.mono hz7)
    have x8 := bxBelow x7 hb8 x7.lt
    have c8' := x8.cell
    have hz8 := hB8.size
    have H8 := Lib.hid (And.intro (H7.out.2.2.trans (hb8.mono H7.out.2.2.size)) (H7.out.2.1.trans (hb8.mono H7.out.2.1.size)))
    have hb68 := H7.out.1.trans (hb8.mono hzz7)
    have Hb68 := Lib.hid hb68
    clear hb8 hb68 x7 c7'
    obtain ⟨r8, hr8⟩ : ∃ r8, r8 = playR ts s0 xs := ⟨_, rfl⟩
    rw [← hr8] at hl8 ⊢
    rw [hpr] at hr8
    clear hpr
    obtain ⟨l8, y8, z8⟩ := r8
    obtain ⟨A8, m8, c8, rfl, -⟩ := hl8
    obtain ⟨po, hplay⟩ : ∃ po, po = playL ts xs (plOf s0) := ⟨_, rfl⟩
    rw [← hplay] at hr8 hpl hfirst
    clear hplay
    cases po with
    | none =>
      obtain ⟨N, hN⟩ : ∃ N, N = playN ts xs (plOf s0) := ⟨_, rfl⟩
      rw [← hN] at hpn hr8
      obtain ⟨e1, e2, e3⟩ : l8 = [] ∧ y8 = (N : Int) ∧ z8 = 17 := by
        have h := Prod.mk.inj hr8
        exact ⟨h.1, Prod.mk.inj h.2⟩
      subst e2 e3
      have hNm : ¬ (m6 : Int) < (N : Int) := by omega
      clear hfirst hpl hN hla6 hpn hr8 e1
      obtain ⟨q, hq1, hq2, hq3, hq4⟩ := lon_take Hv.out.1 kk m6 (plOf s0) hkm Hd.out.1 Hd.out.2.1
      rw [← Hd.out.2.2.1] at hq1 hq4
      have hqn := dq_nice Hv.out.1 hq2
      have hqs := stated_nice Hv.out.2.1 hqn
      have hqp := (nice_list Hv.out.1 hqn).2
      have hwk : winsF ts.length (L.take kk) = true := by
        have h := Hd.out.2.2.2.2.2
        unfold winsF at h ⊢
        rw [List.all_eq_true] at h ⊢
        exact fun x hx => h x (List.mem_of_mem_take hx)
      have hpk : playR ts s0 (L.take kk) = (plList q, (kk : Int), 0) := by
        rw [play_of H3.out.1 (by rw [List.length_take]; omega) hwk, hq1]
        refine Prod.ext rfl (Prod.ext ?_ rfl)
        have := Hd.out.2.2.2.2.1
        simp only [List.length_take]
        omega
      have hlq : lastsR ts (plList q) = (L.drop kk, 0) := by
        rw [lasts_doomed hqs (by rw [hqp]; exact hq2), hqp]
        have : (la ts q).toNat = m6 - kk := by omega
        rw [this, hq4]
      have Hq := Lib.hid (And.intro hpk (And.intro hlq hqs))
      clear hq1 hq2 hq3 hq4 hqn hqp hwk hpk hlq hqs
      go_wp2_with (fail)
      refine region_held_wp 1 (fun W' => W' = w8.drew) (fun j => decide (j < 5)) (by kernel_rfl) ?_
      intro KR hKR
      have hS : w8.drew = w8.drew := rfl
      refine wpAnyHI_takeE (i := 0) (v := .agg #[.slice A1 n c]) (some 107) rfl rfl (by kernel_rfl) (by kernel_rfl) (by kernel_rfl) (by kernel_rfl) (by kernel_rfl) (fun _ _ _ h => h) hS (.inl ⟨by kernel_rfl, fun W' hS' => ?_⟩) ?_
      · subst hS'; go_simp
      refine wpAnyHI_takeE (i := 1) (v := .slice (some ⟨g, 0, none⟩) n n) (some 108) rfl rfl (by kernel_rfl) (by kernel_rfl) (by kernel_rfl) (by kernel_rfl) (by kernel_rfl) (fun _ _ _ h => h) hS (.inl ⟨by kernel_rfl, fun W' hS' => ?_⟩) ?_
      · subst hS'; go_simp
      refine wpAnyHI_takeE (i := 2) (v := .slice (some ⟨g6, 0, none⟩) m6 c6) (some 109) rfl rfl (by kernel_rfl) (by kernel_rfl) (by kernel_rfl) (by kernel_rfl) (by kernel_rfl) (fun _ _ _ h => h) hS (.inl ⟨by kernel_rfl, fun W' hS' => ?_⟩) ?_
      · subst hS'; go_simp
      refine wpAnyHI_takeE (i := 3) (v := .int .i64 (kk : Int)) (some 110) rfl rfl (by kernel_rfl) (by kernel_rfl) (by kernel_rfl) (by kernel_rfl) (by kernel_rfl) (fun _ _ _ h => h) hS (.inl ⟨by kernel_rfl, fun W' hS' => ?_⟩) ?_
      · subst hS'; go_simp
      refine wpAnyHI_takeE (i := 4) (v := .slice (some ⟨g6, 0, none⟩) kk c6) (some 111) rfl rfl (by kernel_rfl) (by kernel_rfl) (by kernel_rfl) (by kernel_rfl) (by kernel_rfl) (fun _ _ _ h => h) hS (.inl ⟨by kernel_rfl, fun W' hS' => ?_⟩) ?_
      · subst hS'; go_simp; intro h; omega
      refine wpAnyHI_one (i := 5) rfl (by kernel_rfl) ?_
      intro K1 hK1
      go_simp
      have hBd8 : Below w.heap.size w w8.drew := hB8.trans ((below_drew w8).mono hz8)
      have hb3d : Below w3.heap.size w3 w8.drew := H8.out.1.trans ((below_drew w8).mono H8.out.1.size)
      have hb5d : Below w5.heap.size w5 w8.drew := H8.out.2.trans ((below_drew w8).mono H8.out.2.size)
      refine ⟨trivial, (callsIn_wide.2 (Play_any w8.drew B1 w3.heap.size w5.heap.size A1 (some ⟨g, 0, none⟩) (some ⟨g6, 0, none⟩) n c n n kk c6 ts s0 (L.take kk) (h1.below hBd8 hB1) (by have := hBd8.size; omega) (H3.out.2.1.below hb3d (Nat.le_refl _)) hb3d.size (ints_take (Hi6.out.below hb5d (Nat.le_refl _)) hkm) hb5d.size)).mono ?_⟩
      rintro e w9 ⟨v9, rfl, hl9, hb9⟩
      rw [Hq.out.1] at hl9 ⊢
      obtain ⟨A9, m9, c9, rfl, h9⟩ := hl9
      simp only at h9 ⊢
      have hb89 : Below w8.heap.size w8 w9 := (below_drew w8).trans hb9
      refine hK1 _ _ ⟨fun h => absurd h (by decide), ?_⟩
      clear hK1 K1 hBd8 hb3d hb5d
      refine wpAnyHI_takeW (i := 6) (v := .tuple #[.slice A9 m9 c9, .int .i64 (kk : Int), .int .i64 0]) (some 106) rfl rfl (by kernel_rfl) (by kernel_rfl) (by kernel_rfl) (by kernel_rfl) (fun _ _ _ h => h) (.inl ⟨by kernel_rfl, fun W' hS' => ?_⟩) ?_
      · go_simp
      refine wpAnyHI_takeW (i := 7) (v := .slice A9 m9 c9) (some 113) rfl rfl (by kernel_rfl) (by kernel_rfl) (by kernel_rfl) (by kernel_rfl) (fun _ _ _ h => h) (.inl ⟨by kernel_rfl, fun W' hS' => ?_⟩) ?_
      · go_simp
      refine wpAnyHI_takeW (i := 8) (v := .int .i64 (kk : Int)) (some 114) rfl rfl (by kernel_rfl) (by kernel_rfl) (by kernel_rfl) (by kernel_rfl) (fun _ _ _ h => h) (.inl ⟨by kernel_rfl, fun W' hS' => ?_⟩) ?_
      · go_simp
      refine wpAnyHI_takeW (i := 9) (v := .int .i64 0) (some 115) rfl rfl (by kernel_rfl) (by kernel_rfl) (by kernel_rfl) (by kernel_rfl) (fun _ _ _ h => h) (.inl ⟨by kernel_rfl, fun W' hS' => ?_⟩) ?_
      · go_simp
      refine wpAnyHI_takeW (i := 10) (v := .slice A9 m9 c9) (some 17) rfl rfl (by kernel_rfl) (by kernel_rfl) (by kernel_rfl) (by kernel_rfl) (fun _ _ _ h => h) (.inl ⟨by kernel_rfl, fun W' hS' => ?_⟩) ?_
      · go_simp
      refine wpAnyHI_takeW (i := 11) (v := .int .i64 (kk : Int)) (some 14) rfl rfl (by kernel_rfl) (by kernel_rfl) (by kernel_rfl) (by kernel_rfl) (fun _ _ _ h => h) (.inl ⟨by kernel_rfl, fun W' hS' => ?_⟩) ?_
      · go_simp
      refine wpAnyHI_takeW (i := 12) (v := .int .i64 0) (some 15) rfl rfl (by kernel_rfl) (by kernel_rfl) (by kernel_rfl) (by kernel_rfl) (fun _ _ _ h => h) (.inl ⟨by kernel_rfl, fun W' hS' => ?_⟩) ?_
      · go_simp
      refine wpAnyHI_end (by kernel_rfl) ?_
      show KR _ _
      refine hKR _ _ ?_
      clear hKR KR
      have hB9 := hB8.trans (hb89.mono hz8)
      have x9 := bxBelow x8 hb89 x8.lt
      have c9' := x9.cell
      have hz9 := hB9.size
      have hb59 := H8.out.2.trans (hb89.mono H8.out.2.size)
      have hm9s := h9.small
      have H9 := Lib.hid (And.intro h9 hb59)
      clear h9 hb89 hb59 hb9 x8 c8' hS
      go_wp2_with (fail)
      refine (Stated_any w9 B1 w9.heap.size A1 A9 n c m9 c9 ts (plList q) (h1.below hB9 hB1) (by omega) H9.out.1 (Nat.le_refl _)).mono ?_
      rintro e w10 ⟨rfl, hb10⟩
      rw [Hq.out.2.2]
      have hB10 := hB9.trans (hb10.mono hz9)
      have x10 := bxBelow x9 hb10 x9.lt
      have c10' := x10.cell
      have hz10 := hB10.size
      have hz910 := hb10.size
      have H10 := Lib.hid (And.intro hb10 (H9.out.2.trans (hb10.mono H9.out.2.size)))
      clear hb10 x9 c9'
      go_wp2_with (fail)
      refine (Lasts_any w10 B1 w9.heap.size A1 A9 n c m9 c9 ts (plList q) (h1.below hB10 hB1) (by omega) (H9.out.1.below H10.out.1 (Nat.le_refl _)) hz910 (fun _ => ends_all Hv.out.1)).mono ?_
      intro e w11 hd11
      rw [Hq.out.2.1] at hd11
      obtain ⟨v11, rfl, hrow11, hb11⟩ := hd11
      obtain ⟨A11, m11, c11, rfl, hi11⟩ := ListAt.of_row hrow11 (by rw [List.length_drop]; have := Hd.out.2.2.2.2.1; omega)
      have hB11 := hB10.trans (hb11.mono hz10)
      have hz11 := hB11.size
      have H11 := Lib.hid (And.intro hi11 (H10.out.2.trans (hb11.mono H10.out.2.size)))
      have hm11s := hi11.small
      clear hi11 hrow11 hb11 x10 c10'
      by_cases hck : c6 = kk
      · have hdr : IntsAt w11 w5.heap.size (some ⟨g6, 0, none⟩) (m6 - kk) (L.drop kk) := by
          have h0 : m6 - kk = 0 := by omega
          have hL0 : L.drop kk = [] := List.drop_eq_nil_of_le (by have := Hd.out.2.2.2.2.1; omega)
          rw [h0, hL0]
          exact ⟨rfl, by omega, fun h => absurd h (by omega)⟩
        have Hdr := Lib.hid hdr
        clear hdr
        go_wp2_with (fail)
        refine (ints_any w11 _ _ A11 (some ⟨g6, 0, none⟩) m11 (m6 - kk) c11 0 (L.drop kk) (L.drop kk) H11.out.1 Hdr.out).mono ?_
        rintro e w12 ⟨rfl, q12, hw12⟩
        rw [decide_eq_true (rfl : L.drop kk = L.drop kk)]
        have hB12 : Below w.heap.size w w12 := by rw [hw12]; exact hB11.trans ⟨rfl, rfl, rfl, Nat.le_refl _, fun _ _ => rfl⟩
        clear hw12
        go_wp2_with (fail)
        refine (Works_any _).mono ?_
        rintro e w13 ⟨rfl, hb⟩
        go_wp2_with (fail)
        go_ret
        exact ⟨rfl, hB12.trans (hb.mono hB12.size)⟩
      · have hdr : IntsAt w11 w5.heap.size (some ⟨g6, kk, none⟩) (m6 - kk) (L.drop kk) := by
          have h := ints_drop (Hi6.out.below H11.out.2 (Nat.le_refl _)) hkm
          rw [Nat.zero_add] at h
          exact h
        have Hdr := Lib.hid hdr
        clear hdr
        go_wp2_with (fail)
        refine (ints_any w11 _ _ A11 (some ⟨g6, kk, none⟩) m11 (m6 - kk) c11 (c6 - kk) (L.drop kk) (L.drop kk) H11.out.1 Hdr.out).mono ?_
        rintro e w12 ⟨rfl, q12, hw12⟩
        rw [decide_eq_true (rfl : L.drop kk = L.drop kk)]
        have hB12 : Below w.heap.size w w12 := by rw [hw12]; exact hB11.trans ⟨rfl, rfl, rfl, Nat.le_refl _, fun _ _ => rfl⟩
        clear hw12
        go_wp2_with (fail)
        refine (Works_any _).mono ?_
        rintro e w13 ⟨rfl, hb⟩
        go_wp2_with (fail)
        go_ret
        exact ⟨rfl, hB12.trans (hb.mono hB12.size)⟩
    | some pq =>
      have hkl : k ≤ m6 := by have := hpl (by simp); have := H6.out.2.2.1; omega
      have hff := fun e => hfirst e (by simp)
      obtain ⟨e1, e2, e3⟩ : l8 = plList pq ∧ y8 = (xs.length : Int) ∧ z8 = 0 := by
        have h := Prod.mk.inj hr8
        exact ⟨h.1, Prod.mk.inj h.2⟩
      rw [H6.out.2.2.1] at e2
      subst e2 e3
      have hNm : ¬ (m6 : Int) < (k : Int) := by omega
      clear hfirst hpl hla6 hpn hr8 e1
      by_cases hkeq : k = m6
      · have hf1 := hff hkeq
        have Hf := Lib.hid (And.intro hf1 hkeq)
        have hke : (k : Int) = (m6 : Int) := by omega
        clear hff hf1 hkeq
        go_wp2_with (fail)
        refine (first_lists_any w8 w6.heap.size w5.heap.size A7 (some ⟨g6, 0, none⟩) k c7 m6 c6 xs L (H6.out.1.below Hb68.out (Nat.le_refl _)) Hb68.out.size (Hi6.out.below H8.out.2 (Nat.le_refl _)) H8.out.2.size Hf.out.2).mono ?_
        rintro e w8' ⟨rfl, hb8'⟩
        rw [Hf.out.1]
        have hB8' := hB8.trans (hb8'.mono hz8)
        have x8' := bxBelow x8 hb8' x8.lt
        have H8' := Lib.hid (And.intro (H8.out.1.trans (hb8'.mono H8.out.1.size)) (H8.out.2.trans (hb8'.mono H8.out.2.size)))
        clear hB8 x8 c8' H8 hz8 hb8' Hb68
        obtain ⟨w8, rfl⟩ : ∃ w8, w8 = w8' := ⟨_, rfl⟩
        have hB8 := hB8'
        have x8 := x8'
        have H8 := H8'
        have c8' := x8.cell
        have hz8 := hB8.size
        clear hB8' x8' H8'
        obtain ⟨q, hq1, hq2, hq3, hq4⟩ := lon_take Hv.out.1 kk m6 (plOf s0) hkm Hd.out.1 Hd.out.2.1
        rw [← Hd.out.2.2.1] at hq1 hq4
        have hqn := dq_nice Hv.out.1 hq2
        have hqs := stated_nice Hv.out.2.1 hqn
        have hqp := (nice_list Hv.out.1 hqn).2
        have hwk : winsF ts.length (L.take kk) = true := by
          have h := Hd.out.2.2.2.2.2
          unfold winsF at h ⊢
          rw [List.all_eq_true] at h ⊢
          exact fun x hx => h x (List.mem_of_mem_take hx)
        have hpk : playR ts s0 (L.take kk) = (plList q, (kk : Int), 0) := by
          rw [play_of H3.out.1 (by rw [List.length_take]; omega) hwk, hq1]
          refine Prod.ext rfl (Prod.ext ?_ rfl)
          have := Hd.out.2.2.2.2.1
          simp only [List.length_take]
          omega
        have hlq : lastsR ts (plList q) = (L.drop kk, 0) := by
          rw [lasts_doomed hqs (by rw [hqp]; exact hq2), hqp]
          have : (la ts q).toNat = m6 - kk := by omega
          rw [this, hq4]
        have Hq := Lib.hid (And.intro hpk (And.intro hlq hqs))
        clear hq1 hq2 hq3 hq4 hqn hqp hwk hpk hlq hqs
        go_wp2_with (fail)
        refine region_held_wp 1 (fun W' => W' = w8.drew) (fun j => decide (j < 5)) (by kernel_rfl) ?_
        intro KR hKR
        have hS : w8.drew = w8.drew := rfl
        refine wpAnyHI_takeE (i := 0) (v := .agg #[.slice A1 n c]) (some 107) rfl rfl (by kernel_rfl) (by kernel_rfl) (by kernel_rfl) (by kernel_rfl) (by kernel_rfl) (fun _ _ _ h => h) hS (.inl ⟨by kernel_rfl, fun W' hS' => ?_⟩) ?_
        · subst hS'; go_simp
        refine wpAnyHI_takeE (i := 1) (v := .slice (some ⟨g, 0, none⟩) n n) (some 108) rfl rfl (by kernel_rfl) (by kernel_rfl) (by kernel_rfl) (by kernel_rfl) (by kernel_rfl) (fun _ _ _ h => h) hS (.inl ⟨by kernel_rfl, fun W' hS' => ?_⟩) ?_
        · subst hS'; go_simp
        refine wpAnyHI_takeE (i := 2) (v := .slice (some ⟨g6, 0, none⟩) m6 c6) (some 109) rfl rfl (by kernel_rfl) (by kernel_rfl) (by kernel_rfl) (by kernel_rfl) (by kernel_rfl) (fun _ _ _ h => h) hS (.inl ⟨by kernel_rfl, fun W' hS' => ?_⟩) ?_
        · subst hS'; go_simp
        refine wpAnyHI_takeE (i := 3) (v := .int .i64 (kk : Int)) (some 110) rfl rfl (by kernel_rfl) (by kernel_rfl) (by kernel_rfl) (by kernel_rfl) (by kernel_rfl) (fun _ _ _ h => h) hS (.inl ⟨by kernel_rfl, fun W' hS' => ?_⟩) ?_
        · subst hS'; go_simp
        refine wpAnyHI_takeE (i := 4) (v := .slice (some ⟨g6, 0, none⟩) kk c6) (some 111) rfl rfl (by kernel_rfl) (by kernel_rfl) (by kernel_rfl) (by kernel_rfl) (by kernel_rfl) (fun _ _ _ h => h) hS (.inl ⟨by kernel_rfl, fun W' hS' => ?_⟩) ?_
        · subst hS'; go_simp; intro h; omega
        refine wpAnyHI_one (i := 5) rfl (by kernel_rfl) ?_
        intro K1 hK1
        go_simp
        have hBd8 : Below w.heap.size w w8.drew := hB8.trans ((below_drew w8).mono hz8)
        have hb3d : Below w3.heap.size w3 w8.drew := H8.out.1.trans ((below_drew w8).mono H8.out.1.size)
        have hb5d : Below w5.heap.size w5 w8.drew := H8.out.2.trans ((below_drew w8).mono H8.out.2.size)
        refine ⟨trivial, (callsIn_wide.2 (Play_any w8.drew B1 w3.heap.size w5.heap.size A1 (some ⟨g, 0, none⟩) (some ⟨g6, 0, none⟩) n c n n kk c6 ts s0 (L.take kk) (h1.below hBd8 hB1) (by have := hBd8.size; omega) (H3.out.2.1.below hb3d (Nat.le_refl _)) hb3d.size (ints_take (Hi6.out.below hb5d (Nat.le_refl _)) hkm) hb5d.size)).mono ?_⟩
        rintro e w9 ⟨v9, rfl, hl9, hb9⟩
        rw [Hq.out.1] at hl9 ⊢
        obtain ⟨A9, m9, c9, rfl, h9⟩ := hl9
        simp only at h9 ⊢
        have hb89 : Below w8.heap.size w8 w9 := (below_drew w8).trans hb9
        refine hK1 _ _ ⟨fun h => absurd h (by decide), ?_⟩
        clear hK1 K1 hBd8 hb3d hb5d
        refine wpAnyHI_takeW (i := 6) (v := .tuple #[.slice A9 m9 c9, .int .i64 (kk : Int), .int .i64 0]) (some 106) rfl rfl (by kernel_rfl) (by kernel_rfl) (by kernel_rfl) (by kernel_rfl) (fun _ _ _ h => h) (.inl ⟨by kernel_rfl, fun W' hS' => ?_⟩) ?_
        · go_simp
        refine wpAnyHI_takeW (i := 7) (v := .slice A9 m9 c9) (some 113) rfl rfl (by kernel_rfl) (by kernel_rfl) (by kernel_rfl) (by kernel_rfl) (fun _ _ _ h => h) (.inl ⟨by kernel_rfl, fun W' hS' => ?_⟩) ?_
        · go_simp
        refine wpAnyHI_takeW (i := 8) (v := .int .i64 (kk : Int)) (some 114) rfl rfl (by kernel_rfl) (by kernel_rfl) (by kernel_rfl) (by kernel_rfl) (fun _ _ _ h => h) (.inl ⟨by kernel_rfl, fun W' hS' => ?_⟩) ?_
        · go_simp
        refine wpAnyHI_takeW (i := 9) (v := .int .i64 0) (some 115) rfl rfl (by kernel_rfl) (by kernel_rfl) (by kernel_rfl) (by kernel_rfl) (fun _ _ _ h => h) (.inl ⟨by kernel_rfl, fun W' hS' => ?_⟩) ?_
        · go_simp
        refine wpAnyHI_takeW (i := 10) (v := .slice A9 m9 c9) (some 17) rfl rfl (by kernel_rfl) (by kernel_rfl) (by kernel_rfl) (by kernel_rfl) (fun _ _ _ h => h) (.inl ⟨by kernel_rfl, fun W' hS' => ?_⟩) ?_
        · go_simp
        refine wpAnyHI_takeW (i := 11) (v := .int .i64 (kk : Int)) (some 14) rfl rfl (by kernel_rfl) (by kernel_rfl) (by kernel_rfl) (by kernel_rfl) (fun _ _ _ h => h) (.inl ⟨by kernel_rfl, fun W' hS' => ?_⟩) ?_
        · go_simp
        refine wpAnyHI_takeW (i := 12) (v := .int .i64 0) (some 15) rfl rfl (by kernel_rfl) (by kernel_rfl) (by kernel_rfl) (by kernel_rfl) (fun _ _ _ h => h) (.inl ⟨by kernel_rfl, fun W' hS' => ?_⟩) ?_
        · go_simp
        refine wpAnyHI_end (by kernel_rfl) ?_
        show KR _ _
        refine hKR _ _ ?_
        clear hKR KR
        have hB9 := hB8.trans (hb89.mono hz8)
        have x9 := bxBelow x8 hb89 x8.lt
        have c9' := x9.cell
        have hz9 := hB9.size
        have hb59 := H8.out.2.trans (hb89.mono H8.out.2.size)
        have hm9s := h9.small
        have H9 := Lib.hid (And.intro h9 hb59)
        clear h9 hb89 hb59 hb9 x8 c8' hS
        go_wp2_with (fail)
        refine (Stated_any w9 B1 w9.heap.size A1 A9 n c m9 c9 ts (plList q) (h1.below hB9 hB1) (by omega) H9.out.1 (Nat.le_refl _)).mono ?_
        rintro e w10 ⟨rfl, hb10⟩
        rw [Hq.out.2.2]
        have hB10 := hB9.trans (hb10.mono hz9)
        have x10 := bxBelow x9 hb10 x9.lt
        have c10' := x10.cell
        have hz10 := hB10.size
        have hz910 := hb10.size
        have H10 := Lib.hid (And.intro hb10 (H9.out.2.trans (hb10.mono H9.out.2.size)))
        clear hb10 x9 c9'
        go_wp2_with (fail)
        refine (Lasts_any w10 B1 w9.heap.size A1 A9 n c m9 c9 ts (plList q) (h1.below hB10 hB1) (by omega) (H9.out.1.below H10.out.1 (Nat.le_refl _)) hz910 (fun _ => ends_all Hv.out.1)).mono ?_
        intro e w11 hd11
        rw [Hq.out.2.1] at hd11
        obtain ⟨v11, rfl, hrow11, hb11⟩ := hd11
        obtain ⟨A11, m11, c11, rfl, hi11⟩ := ListAt.of_row hrow11 (by rw [List.length_drop]; have := Hd.out.2.2.2.2.1; omega)
        have hB11 := hB10.trans (hb11.mono hz10)
        have hz11 := hB11.size
        have H11 := Lib.hid (And.intro hi11 (H10.out.2.trans (hb11.mono H10.out.2.size)))
        have hm11s := hi11.small
        clear hi11 hrow11 hb11 x10 c10'
        by_cases hck : c6 = kk
        · have hdr : IntsAt w11 w5.heap.size (some ⟨g6, 0, none⟩) (m6 - kk) (L.drop kk) := by
            have h0 : m6 - kk = 0 := by omega
            have hL0 : L.drop kk = [] := List.drop_eq_nil_of_le (by have := Hd.out.2.2.2.2.1; omega)
            rw [h0, hL0]
            exact ⟨rfl, by omega, fun h => absurd h (by omega)⟩
          have Hdr := Lib.hid hdr
          clear hdr
          go_wp2_with (fail)
          refine (ints_any w11 _ _ A11 (some ⟨g6, 0, none⟩) m11 (m6 - kk) c11 0 (L.drop kk) (L.drop kk) H11.out.1 Hdr.out).mono ?_
          rintro e w12 ⟨rfl, q12, hw12⟩
          rw [decide_eq_true (rfl : L.drop kk = L.drop kk)]
          have hB12 : Below w.heap.size w w12 := by rw [hw12]; exact hB11.trans ⟨rfl, rfl, rfl, Nat.le_refl _, fun _ _ => rfl⟩
          clear hw12
          go_wp2_with (fail)
          refine (Works_any _).mono ?_
          rintro e w13 ⟨rfl, hb⟩
          go_wp2_with (fail)
          go_ret
          exact ⟨rfl, hB12.trans (hb.mono hB12.size)⟩
        · have hdr : IntsAt w11 w5.heap.size (some ⟨g6, kk, none⟩) (m6 - kk) (L.drop kk) := by
            have h := ints_drop (Hi6.out.below H11.out.2 (Nat.le_refl _)) hkm
            rw [Nat.zero_add] at h
            exact h
          have Hdr := Lib.hid hdr
          clear hdr
          go_wp2_with (fail)
          refine (ints_any w11 _ _ A11 (some ⟨g6, kk, none⟩) m11 (m6 - kk) c11 (c6 - kk) (L.drop kk) (L.drop kk) H11.out.1 Hdr.out).mono ?_
          rintro e w12 ⟨rfl, q12, hw12⟩
          rw [decide_eq_true (rfl : L.drop kk = L.drop kk)]
          have hB12 : Below w.heap.size w w12 := by rw [hw12]; exact hB11.trans ⟨rfl, rfl, rfl, Nat.le_refl _, fun _ _ => rfl⟩
          clear hw12
          go_wp2_with (fail)
          refine (Works_any _).mono ?_
          rintro e w13 ⟨rfl, hb⟩
          go_wp2_with (fail)
          go_ret
          exact ⟨rfl, hB12.trans (hb.mono hB12.size)⟩
      · have hke : ¬ (k : Int) = (m6 : Int) := by omega
        clear hff hkeq
        obtain ⟨q, hq1, hq2, hq3, hq4⟩ := lon_take Hv.out.1 kk m6 (plOf s0) hkm Hd.out.1 Hd.out.2.1
        rw [← Hd.out.2.2.1] at hq1 hq4
        have hqn := dq_nice Hv.out.1 hq2
        have hqs := stated_nice Hv.out.2.1 hqn
        have hqp := (nice_list Hv.out.1 hqn).2
        have hwk : winsF ts.length (L.take kk) = true := by
          have h := Hd.out.2.2.2.2.2
          unfold winsF at h ⊢
          rw [List.all_eq_true] at h ⊢
          exact fun x hx => h x (List.mem_of_mem_take hx)
        have hpk : playR ts s0 (L.take kk) = (plList q, (kk : Int), 0) := by
          rw [play_of H3.out.1 (by rw [List.length_take]; omega) hwk, hq1]
          refine Prod.ext rfl (Prod.ext ?_ rfl)
          have := Hd.out.2.2.2.2.1
          simp only [List.length_take]
          omega
        have hlq : lastsR ts (plList q) = (L.drop kk, 0) := by
          rw [lasts_doomed hqs (by rw [hqp]; exact hq2), hqp]
          have : (la ts q).toNat = m6 - kk := by omega
          rw [this, hq4]
        have Hq := Lib.hid (And.intro hpk (And.intro hlq hqs))
        clear hq1 hq2 hq3 hq4 hqn hqp hwk hpk hlq hqs
        go_wp2_with (fail)
        refine region_held_wp 1 (fun W' => W' = w8.drew) (fun j => decide (j < 5)) (by kernel_rfl) ?_
        intro KR hKR
        have hS : w8.drew = w8.drew := rfl
        refine wpAnyHI_takeE (i := 0) (v := .agg #[.slice A1 n c]) (some 107) rfl rfl (by kernel_rfl) (by kernel_rfl) (by kernel_rfl) (by kernel_rfl) (by kernel_rfl) (fun _ _ _ h => h) hS (.inl ⟨by kernel_rfl, fun W' hS' => ?_⟩) ?_
        · subst hS'; go_simp
        refine wpAnyHI_takeE (i := 1) (v := .slice (some ⟨g, 0, none⟩) n n) (some 108) rfl rfl (by kernel_rfl) (by kernel_rfl) (by kernel_rfl) (by kernel_rfl) (by kernel_rfl) (fun _ _ _ h => h) hS (.inl ⟨by kernel_rfl, fun W' hS' => ?_⟩) ?_
        · subst hS'; go_simp
        refine wpAnyHI_takeE (i := 2) (v := .slice (some ⟨g6, 0, none⟩) m6 c6) (some 109) rfl rfl (by kernel_rfl) (by kernel_rfl) (by kernel_rfl) (by kernel_rfl) (by kernel_rfl) (fun _ _ _ h => h) hS (.inl ⟨by kernel_rfl, fun W' hS' => ?_⟩) ?_
        · subst hS'; go_simp
        refine wpAnyHI_takeE (i := 3) (v := .int .i64 (kk : Int)) (some 110) rfl rfl (by kernel_rfl) (by kernel_rfl) (by kernel_rfl) (by kernel_rfl) (by kernel_rfl) (fun _ _ _ h => h) hS (.inl ⟨by kernel_rfl, fun W' hS' => ?_⟩) ?_
        · subst hS'; go_simp
        refine wpAnyHI_takeE (i := 4) (v := .slice (some ⟨g6, 0, none⟩) kk c6) (some 111) rfl rfl (by kernel_rfl) (by kernel_rfl) (by kernel_rfl) (by kernel_rfl) (by kernel_rfl) (fun _ _ _ h => h) hS (.inl ⟨by kernel_rfl, fun W' hS' => ?_⟩) ?_
        · subst hS'; go_simp; intro h; omega
        refine wpAnyHI_one (i := 5) rfl (by kernel_rfl) ?_
        intro K1 hK1
        go_simp
        have hBd8 : Below w.heap.size w w8.drew := hB8.trans ((below_drew w8).mono hz8)
        have hb3d : Below w3.heap.size w3 w8.drew := H8.out.1.trans ((below_drew w8).mono H8.out.1.size)
        have hb5d : Below w5.heap.size w5 w8.drew := H8.out.2.trans ((below_drew w8).mono H8.out.2.size)
        refine ⟨trivial, (callsIn_wide.2 (Play_any w8.drew B1 w3.heap.size w5.heap.size A1 (some ⟨g, 0, none⟩) (some ⟨g6, 0, none⟩) n c n n kk c6 ts s0 (L.take kk) (h1.below hBd8 hB1) (by have := hBd8.size; omega) (H3.out.2.1.below hb3d (Nat.le_refl _)) hb3d.size (ints_take (Hi6.out.below hb5d (Nat.le_refl _)) hkm) hb5d.size)).mono ?_⟩
        rintro e w9 ⟨v9, rfl, hl9, hb9⟩
        rw [Hq.out.1] at hl9 ⊢
        obtain ⟨A9, m9, c9, rfl, h9⟩ := hl9
        simp only at h9 ⊢
        have hb89 : Below w8.heap.size w8 w9 := (below_drew w8).trans hb9
        refine hK1 _ _ ⟨fun h => absurd h (by decide), ?_⟩
        clear hK1 K1 hBd8 hb3d hb5d
        refine wpAnyHI_takeW (i := 6) (v := .tuple #[.slice A9 m9 c9, .int .i64 (kk : Int), .int .i64 0]) (some 106) rfl rfl (by kernel_rfl) (by kernel_rfl) (by kernel_rfl) (by kernel_rfl) (fun _ _ _ h => h) (.inl ⟨by kernel_rfl, fun W' hS' => ?_⟩) ?_
        · go_simp
        refine wpAnyHI_takeW (i := 7) (v := .slice A9 m9 c9) (some 113) rfl rfl (by kernel_rfl) (by kernel_rfl) (by kernel_rfl) (by kernel_rfl) (fun _ _ _ h => h) (.inl ⟨by kernel_rfl, fun W' hS' => ?_⟩) ?_
        · go_simp
        refine wpAnyHI_takeW (i := 8) (v := .int .i64 (kk : Int)) (some 114) rfl rfl (by kernel_rfl) (by kernel_rfl) (by kernel_rfl) (by kernel_rfl) (fun _ _ _ h => h) (.inl ⟨by kernel_rfl, fun W' hS' => ?_⟩) ?_
        · go_simp
        refine wpAnyHI_takeW (i := 9) (v := .int .i64 0) (some 115) rfl rfl (by kernel_rfl) (by kernel_rfl) (by kernel_rfl) (by kernel_rfl) (fun _ _ _ h => h) (.inl ⟨by kernel_rfl, fun W' hS' => ?_⟩) ?_
        · go_simp
        refine wpAnyHI_takeW (i := 10) (v := .slice A9 m9 c9) (some 17) rfl rfl (by kernel_rfl) (by kernel_rfl) (by kernel_rfl) (by kernel_rfl) (fun _ _ _ h => h) (.inl ⟨by kernel_rfl, fun W' hS' => ?_⟩) ?_
        · go_simp
        refine wpAnyHI_takeW (i := 11) (v := .int .i64 (kk : Int)) (some 14) rfl rfl (by kernel_rfl) (by kernel_rfl) (by kernel_rfl) (by kernel_rfl) (fun _ _ _ h => h) (.inl ⟨by kernel_rfl, fun W' hS' => ?_⟩) ?_
        · go_simp
        refine wpAnyHI_takeW (i := 12) (v := .int .i64 0) (some 15) rfl rfl (by kernel_rfl) (by kernel_rfl) (by kernel_rfl) (by kernel_rfl) (fun _ _ _ h => h) (.inl ⟨by kernel_rfl, fun W' hS' => ?_⟩) ?_
        · go_simp
        refine wpAnyHI_end (by kernel_rfl) ?_
        show KR _ _
        refine hKR _ _ ?_
        clear hKR KR
        have hB9 := hB8.trans (hb89.mono hz8)
        have x9 := bxBelow x8 hb89 x8.lt
        have c9' := x9.cell
        have hz9 := hB9.size
        have hb59 := H8.out.2.trans (hb89.mono H8.out.2.size)
        have hm9s := h9.small
        have H9 := Lib.hid (And.intro h9 hb59)
        clear h9 hb89 hb59 hb9 x8 c8' hS
        go_wp2_with (fail)
        refine (Stated_any w9 B1 w9.heap.size A1 A9 n c m9 c9 ts (plList q) (h1.below hB9 hB1) (by omega) H9.out.1 (Nat.le_refl _)).mono ?_
        rintro e w10 ⟨rfl, hb10⟩
        rw [Hq.out.2.2]
        have hB10 := hB9.trans (hb10.mono hz9)
        have x10 := bxBelow x9 hb10 x9.lt
        have c10' := x10.cell
        have hz10 := hB10.size
        have hz910 := hb10.size
        have H10 := Lib.hid (And.intro hb10 (H9.out.2.trans (hb10.mono H9.out.2.size)))
        clear hb10 x9 c9'
        go_wp2_with (fail)
        refine (Lasts_any w10 B1 w9.heap.size A1 A9 n c m9 c9 ts (plList q) (h1.below hB10 hB1) (by omega) (H9.out.1.below H10.out.1 (Nat.le_refl _)) hz910 (fun _ => ends_all Hv.out.1)).mono ?_
        intro e w11 hd11
        rw [Hq.out.2.1] at hd11
        obtain ⟨v11, rfl, hrow11, hb11⟩ := hd11
        obtain ⟨A11, m11, c11, rfl, hi11⟩ := ListAt.of_row hrow11 (by rw [List.length_drop]; have := Hd.out.2.2.2.2.1; omega)
        have hB11 := hB10.trans (hb11.mono hz10)
        have hz11 := hB11.size
        have H11 := Lib.hid (And.intro hi11 (H10.out.2.trans (hb11.mono H10.out.2.size)))
        have hm11s := hi11.small
        clear hi11 hrow11 hb11 x10 c10'
        by_cases hck : c6 = kk
        · have hdr : IntsAt w11 w5.heap.size (some ⟨g6, 0, none⟩) (m6 - kk) (L.drop kk) := by
            have h0 : m6 - kk = 0 := by omega
            have hL0 : L.drop kk = [] := List.drop_eq_nil_of_le (by have := Hd.out.2.2.2.2.1; omega)
            rw [h0, hL0]
            exact ⟨rfl, by omega, fun h => absurd h (by omega)⟩
          have Hdr := Lib.hid hdr
          clear hdr
          go_wp2_with (fail)
          refine (ints_any w11 _ _ A11 (some ⟨g6, 0, none⟩) m11 (m6 - kk) c11 0 (L.drop kk) (L.drop kk) H11.out.1 Hdr.out).mono ?_
          rintro e w12 ⟨rfl, q12, hw12⟩
          rw [decide_eq_true (rfl : L.drop kk = L.drop kk)]
          have hB12 : Below w.heap.size w w12 := by rw [hw12]; exact hB11.trans ⟨rfl, rfl, rfl, Nat.le_refl _, fun _ _ => rfl⟩
          clear hw12
          go_wp2_with (fail)
          refine (Works_any _).mono ?_
          rintro e w13 ⟨rfl, hb⟩
          go_wp2_with (fail)
          go_ret
          exact ⟨rfl, hB12.trans (hb.mono hB12.size)⟩
        · have hdr : IntsAt w11 w5.heap.size (some ⟨g6, kk, none⟩) (m6 - kk) (L.drop kk) := by
            have h := ints_drop (Hi6.out.below H11.out.2 (Nat.le_refl _)) hkm
            rw [Nat.zero_add] at h
            exact h
          have Hdr := Lib.hid hdr
          clear hdr
          go_wp2_with (fail)
          refine (ints_any w11 _ _ A11 (some ⟨g6, kk, none⟩) m11 (m6 - kk) c11 (c6 - kk) (L.drop kk) (L.drop kk) H11.out.1 Hdr.out).mono ?_
          rintro e w12 ⟨rfl, q12, hw12⟩
          rw [decide_eq_true (rfl : L.drop kk = L.drop kk)]
          have hB12 : Below w.heap.size w w12 := by rw [hw12]; exact hB11.trans ⟨rfl, rfl, rfl, Nat.le_refl _, fun _ _ => rfl⟩
          clear hw12
          go_wp2_with (fail)
          refine (Works_any _).mono ?_
          rintro e w13 ⟨rfl, hb⟩
          go_wp2_with (fail)
          go_ret
          exact ⟨rfl, hB12.trans (hb.mono hB12.size)⟩
end Go.Proofs.YtdpehmdmgijcmaaGreat
