/- Parts of a proof: DH. -/
import Derived.Test.YthpcjhncnnbhoaaGreatK29

/- TurnKept: the walk. -/
namespace Go.Proofs.YthpcjhncnnbhoaaGreat
open Go.RowKit Go.Shelf

attribute [local go_sem] Oper.semAt_some

set_option maxRecDepth 100000 in
set_option maxHeartbeats 8000000 in
theorem TurnKept_any (w : World) (B1 B2 B4 B5 : Nat) (A1 A2 A4 A5 : Option Addr) (n c m d k4 f4 k5 f5 : Nat) (bits : Int) (ts bs ls ms : List Int) (h1 : IntsAt w B1 A1 n ts) (hB1 : B1 ≤ w.heap.size) (h2 : U8At w B2 A2 m bs) (hB2 : B2 ≤ w.heap.size) (hbits : 0 ≤ bits ∧ bits ≤ 255) (h4 : U8At w B4 A4 k4 ls) (hB4 : B4 ≤ w.heap.size) (h5 : U8At w B5 A5 k5 ms) (hB5 : B5 ≤ w.heap.size) :
    Calls Tryz.prog 4 #[.agg #[.slice A1 n c], .slice A2 m d, .int .u8 bits, .slice A4 k4 f4, .slice A5 k5 f5] w fun e w' => e = .returned (.bool true) ∧ Below w.heap.size w w' := by
  have hb0 : Below w.heap.size w (w.alloc (.cells #[.slice A1 n c] 24)) := (Below.refl _ w).alloc (Nat.le_refl _) _
  have x0 := Boxed.new w 24 (.slice A1 n c)
  have hm8 := h2.2.1
  have hk84 := h4.2.1
  have hk85 := h5.2.1
  go_enter Tryz.func4, Tryz.ntmps4
  go_wp2_with (fail)
  refine (fine_any _ B1 A1 n c ts (h1.below hb0 hB1) (by have := hb0.size; omega)).mono ?_
  rintro e w2 ⟨rfl, hb2⟩
  have hB2' := hb0.trans (hb2.mono hb0.size)
  have x2 := bxBelow x0 hb2 x0.lt
  have c2 := x2.cell
  have hz2 := hB2'.size
  clear hb0 hb2 x0
  by_cases hc : checkHallF ts = 0
  case neg =>
    rw [decide_eq_false hc]
    clear hc
    go_wp2_with (fail)
    refine (Works_any _).mono ?_
    rintro e w3 ⟨rfl, hb⟩
    go_wp2_with (fail)
    go_ret
    exact ⟨rfl, hB2'.trans (hb.mono hz2)⟩
  rw [decide_eq_true hc]
  have hv := valid_of hc
  have h1n : 1 ≤ n := by have := hv.h1; have := h1.len; omega
  have h5n : n ≤ 5 := by have := hv.h5; have := h1.len; omega
  have Hv := Lib.hid (And.intro hv (And.intro hc h1.len))
  clear hv hc
  by_cases hml : 20 < (m : Int)
  · go_wp2_with (fail)
    refine (Works_any _).mono ?_
    rintro e w3 ⟨rfl, hb⟩
    go_wp2_with (fail)
    go_ret
    exact ⟨rfl, hB2'.trans (hb.mono hz2)⟩
  by_cases hk4l : 20 < (k4 : Int)
  · go_wp2_with (fail)
    refine (Works_any _).mono ?_
    rintro e w3 ⟨rfl, hb⟩
    go_wp2_with (fail)
    go_ret
    exact ⟨rfl, hB2'.trans (hb.mono hz2)⟩
  by_cases hk5l : 20 < (k5 : Int)
  · go_wp2_with (fail)
    refine (Works_any _).mono ?_
    rintro e w3 ⟨rfl, hb⟩
    go_wp2_with (fail)
    go_ret
    exact ⟨rfl, hB2'.trans (hb.mono hz2)⟩
  go_wp2_with (fail)
  refine (State_any w2 B1 B2 A1 A2 n c m d ts bs (h1.below hB2' hB1) (by omega) (h2.below hB2' hB2) (by omega) Hv.out.1).mono ?_
  rintro e w3 hpost
  obtain ⟨g, s0, hg, rfl, hrow, ⟨hs0, hok⟩, hb3⟩ := hpost
  have hB3' := hB2'.trans (hb3.mono hz2)
  have x3 := bxBelow x2 hb3 x2.lt
  have hz3 := hB3'.size
  have hst : statedF ts s0 = 0 := by
    unfold statedF
    rw [if_neg (by rw [Hv.out.2.1]; simp), if_neg (by have := Hv.out.2.2; simp; omega), if_pos hok]
  have hi3 : IntsAt w3 w3.heap.size (some ⟨g, 0, none⟩) n s0 := by
    refine ⟨hs0, by omega, fun _ => ⟨g, 0, rfl, ?_, fun j hj => ?_⟩⟩
    · rcases Nat.lt_or_ge g w3.heap.size with h | h
      · exact h
      · rw [Array.getElem?_eq_none h] at hrow
        cases hrow
    · simp [World.cell?, hrow, show j < s0.length by omega]
  have H3 := Lib.hid (And.intro hst (And.intro hi3 hs0))
  have hgl : g < w3.heap.size := by
    rcases Nat.lt_or_ge g w3.heap.size with h | h
    · exact h
    · rw [Array.getElem?_eq_none h] at hrow
      cases hrow
  clear hi3 hrow hok hb3 x2 c2 hB2' hz2 hs0
  have c3 := x3.cell
  have hB1' : B1 ≤ w3.heap.size := by omega
  rcases Classical.em (plOf s0 ∈ dq ts) with hd | hd
  · obtain ⟨-, hd2⟩ := either_doomed hst hd
    have Hd := Lib.hid hd2
    clear hd hd2 hst
    go_wp2_with (fail)
    refine (Next_any w3 B1 w3.heap.size A1 (some ⟨g, 0, none⟩) n c n n ts s0 (h1.below hB3' hB1) hB1' H3.out.2.1 (Nat.le_refl _) (fun _ => ends_all Hv.out.1)).mono ?_
    intro e w5 hd5
    rw [Hd.out] at hd5
    obtain ⟨v5, rfl, hrow5, hb5⟩ := hd5
    obtain ⟨A6, c6, rfl, -⟩ := ownsRow_slice hrow5
    clear hrow5
    simp only [List.length_nil]
    have hB5' := hB3'.trans (hb5.mono hz3)
    clear hb5 x3 c3
    go_wp2_with (fail)
    refine (Works_any _).mono ?_
    rintro e w9 ⟨rfl, hb⟩
    go_wp2_with (fail)
    go_ret
    exact ⟨rfl, hB5'.trans (hb.mono hB5'.size)⟩
  obtain ⟨-, y0, l0, hd2⟩ := either_safe hst hd
  have hmem : ∀ x ∈ y0 :: l0, ∃ y ∈ visitsF ts (plOf s0), x = (y.1 : Int) ∧ y.2 ∉ dq ts := fun x hx => next_mem hst (by rw [hd2]; exact hx)
  have Hd := Lib.hid (And.intro hd (And.intro hd2 hmem))
  clear hd hd2 hmem hst
  go_wp2_with (fail)
  refine (Next_any w3 B1 w3.heap.size A1 (some ⟨g, 0, none⟩) n c n n ts s0 (h1.below hB3' hB1) hB1' H3.out.2.1 (Nat.le_refl _) (fun _ => ends_all Hv.out.1)).mono ?_
  intro e w5 hd5
  rw [Hd.out.2.1] at hd5
  obtain ⟨v5, rfl, hrow5, hb5⟩ := hd5
  obtain ⟨nx, hnx⟩ : ∃ nx, nx = y0 :: l0 := ⟨_, rfl⟩
  have hrow5 : w5.ownsRow w3.heap.size 3 1 v5 nx.length (nx.map (.int .i64)) := by rw [hnx]; exact hrow5
  have hnl : nx.length ≤ 5 := by
    have h := visitsF_len (ts := ts) (p := plOf s0)
    have h2 : nx = nextF (tabE ts).1 (visitsF ts (plOf s0)) ∨ nx = [] := by
      have h := Hd.out.2.1
      unfold nextR at h
      rw [if_neg (by simp [H3.out.1])] at h
      split at h
      · exact .inl (hnx.trans (Prod.mk.inj h).1.symm)
      · exact .inr (hnx.trans (Prod.mk.inj h).1.symm)
    have h3 := Hv.out.2.2
    rcases h2 with h2 | h2
    · rw [h2]
      unfold nextF
      rw [List.length_map]
      have := List.length_filter_le (fun x : Nat × Pl => decide (0 < mget 0 (tabE ts).1 x.2)) (visitsF ts (plOf s0))
      omega
    · rw [h2]; simp
  obtain ⟨A6, m6, c6, rfl, hi6⟩ := ListAt.of_row hrow5 (by omega)
  have hm6 := hi6.len
  have hB5' := hB3'.trans (hb5.mono hz3)
  have x5 := bxBelow x3 hb5 x3.lt
  have c5 := x5.cell
  have hz5 := hB5'.size
  have hzz5 := hb5.size
  have H5 := Lib.hid (And.intro hi6 (And.intro hb5 (And.intro hnx hm6)))
  have hm65 : m6 ≤ 5 := by omega
  clear hi6 hb5 hnx hm6 hrow5 x3 c3 hnl
  obtain ⟨p, hp, hp2, hp32⟩ := pow5 h1n h5n
  obtain ⟨q, hq⟩ : ∃ q : Nat, (q : Int) = bits % (p : Int) := ⟨(bits % (p : Int)).toNat, by have := Int.emod_nonneg bits (show (p : Int) ≠ 0 by omega); omega⟩
  have hqp : q < p := by have := Int.emod_lt_of_pos bits (show 0 < (p : Int) by omega); omega
  have htm1 : bits.tmod (p : Int) = (q : Int) := by rw [Int.tmod_eq_emod_of_nonneg hbits.1]; exact hq.symm
  have hwx : IntKind.i64.wrap bits = bits := by rw [IntKind.wrap_i64]; omega
  have hpi : (2 : Int) ^ n = (p : Int) := by rw [hp]; simp
  have hwp : IntKind.i64.wrap (2 ^ n) = (p : Int) := by rw [hpi, IntKind.wrap_i64]; omega
  have Hp := Lib.hid (And.intro hp (And.intro hqp hqp))
  clear hp hq hpi
  go_wp2_with (fail)
  refine (Bits_any w5 q n (by rw [← Hp.out.1]; exact Hp.out.2.1) h5n).mono ?_
  rintro e w6 ⟨v7, ps, rfl, hrow7, hps, ⟨hlen, hinc⟩, hb6⟩
  obtain ⟨A7, m7, c7, rfl, hi7⟩ := ListAt.of_row hrow7 (by omega)
  have hB6 := hB5'.trans (hb6.mono hz5)
  have x6 := bxBelow x5 hb6 x5.lt
  have hz6 := hB6.size
  have hb36 := H5.out.2.1.trans (hb6.mono hzz5)
  have hzz6 := hb36.size
  have hzz56 := hb6.size
  have hwins := wins_ok hps
  have H6 := Lib.hid (And.intro hi7 (And.intro hinc (And.intro hwins (And.intro hb6 hb36))))
  have hxl : w.heap.size < w6.heap.size := x6.lt
  clear hrow7 hi7 hinc hwins hb6 hb36 hps hlen x5 c5
  have c6' := x6.cell
  go_wp2_with (fail)
  go_loopg [15] m6 (fun gg v15 wr => ∃ j : Nat, (j ≤ m6 ∧ gg = m6 - j ∧ v15 = .int .i64 (j : Int)) ∧ Below w6.heap.size w6 wr)
  case atStart => exact ⟨0, ⟨Nat.zero_le _, rfl, rfl⟩, Below.refl _ _⟩
  case round =>
    obtain ⟨j, ⟨hjm, rfl, rfl⟩, hbr⟩ := hrel
    have xr := bxBelow x6 hbr x6.lt
    have cr := xr.cell
    have hBr := hB6.trans (hbr.mono hz6)
    have hzr := hBr.size
    have hz6r := hbr.size
    have Hr := Lib.hid hbr
    clear hbr
    by_cases hj : j < m6
    · have hwj : IntKind.i64.wrap ((j : Int) + 1) = (j : Int) + 1 := by rw [IntKind.wrap_i64]; omega
      have hi6r := (H5.out.1.below H6.out.2.2.2.1 (Nat.le_refl _)).below Hr.out hzz56
      obtain ⟨b6, o6, rfl, hb6l, hcj⟩ := hi6r.cell hj
      have hjl : j < nx.length := by have := H5.out.2.2.2; omega
      obtain ⟨y, hy, hxy, hyd⟩ := Hd.out.2.2 nx[j] (by rw [← H5.out.2.2.1]; exact List.getElem_mem hjl)
      rw [List.getElem?_eq_getElem hjl, hxy] at hcj
      simp only [Option.getD_some] at hcj
      obtain ⟨i, hi⟩ : ∃ i, i = y.1 := ⟨_, rfl⟩
      rw [← hi] at hcj
      have hin : i < n := by have := visit_fst hy; have := Hv.out.2.2; omega
      obtain ⟨xs, vv, ht1, ht2, ht3⟩ := kept_turn H3.out.1 hy hyd H6.out.2.1 (by rw [Hv.out.2.2]; exact H6.out.2.2.1)
      rw [← hi] at ht1
      have hdx := (either_safe ht2 ht3).1
      have Ht := Lib.hid (And.intro ht1 (And.intro ht2 (And.intro ht3 hdx)))
      clear hy hxy hyd hi ht1 ht2 ht3 hdx hi6r hjl
      have hbd : Below w6.heap.size w6 wr.drew := Hr.out.trans ((below_drew wr).mono hz6r)
      go_wp2_with (fail)
      refine region_held_wp 1 (fun W' => W' = wr.drew) (fun j => decide (j < 5)) (by kernel_rfl) ?_
      intro KR hKR
      have hS : wr.drew = wr.drew := rfl
      refine wpAnyHI_takeE (i := 0) (v := .agg #[.slice A1 n c]) (some 79) rfl rfl (by kernel_rfl) (by kernel_rfl) (by kernel_rfl) (by kernel_rfl) (by kernel_rfl) (fun _ _ _ h => h) hS (.inl ⟨by kernel_rfl, fun W' hS' => ?_⟩) ?_
      · subst hS'; go_simp
      refine wpAnyHI_takeE (i := 1) (v := .slice (some ⟨b6, o6, none⟩) m6 c6) (some 80) rfl rfl (by kernel_rfl) (by kernel_rfl) (by kernel_rfl) (by kernel_rfl) (by kernel_rfl) (fun _ _ _ h => h) hS (.inl ⟨by kernel_rfl, fun W' hS' => ?_⟩) ?_
      · subst hS'; go_simp
      refine wpAnyHI_takeE (i := 2) (v := .int .i64 (j : Int)) (some 81) rfl rfl (by kernel_rfl) (by kernel_rfl) (by kernel_rfl) (by kernel_rfl) (by kernel_rfl) (fun _ _ _ h => h) hS (.inl ⟨by kernel_rfl, fun W' hS' => ?_⟩) ?_
      · subst hS'; go_simp
      refine wpAnyHI_takeE (i := 3) (v := .pointer (some ⟨b6, o6 + j, none⟩)) (some 82) rfl rfl (by kernel_rfl) (by kernel_rfl) (by kernel_rfl) (by kernel_rfl) (by kernel_rfl) (fun _ _ _ h => h) hS (.inl ⟨by kernel_rfl, fun W' hS' => ?_⟩) ?_
      · subst hS'; go_simp
      refine wpAnyHI_takeE (i := 4) (v := .int .i64 (i : Int)) (some 83) rfl rfl (by kernel_rfl) (by kernel_rfl) (by kernel_rfl) (by kernel_rfl) (by kernel_rfl) (fun _ _ _ h => h) hS (.inl ⟨by kernel_rfl, fun W' hS' => ?_⟩) ?_
      · subst hS'; go_simp
      refine wpAnyHI_one (i := 5) rfl (by kernel_rfl) ?_
      intro K1 hK1
      go_simp
      refine ⟨trivial, (callsIn_wide.2 (isWindow_any wr.drew A1 n c (i : Int))).mono ?_⟩
      rintro e w7 ⟨rfl, hw7⟩
      have hwin : isWinF n (i : Int) = true := by simp [isWinF]; omega
      rw [hwin]
      have hb7 : Below wr.heap.size wr w7 := by rw [hw7]; exact (below_drew wr).trans ((Below.refl wr.heap.size wr.drew).alloc (Nat.le_refl _) _)
      clear hw7 hwin
      refine hK1 _ _ ⟨fun h => absurd h (by decide), ?_⟩
      clear hK1 K1
      refine wpAnyHI_takeW (i := 6) (v := .bool false) (some 85) rfl rfl (by kernel_rfl) (by kernel_rfl) (by kernel_rfl) (by kernel_rfl) (fun _ _ _ h => h) (.inl ⟨by kernel_rfl, fun W' hS' => ?_⟩) ?_
      · go_simp
      refine wpAnyHI_end (by kernel_rfl) ?_
      show KR _ _
      refine hKR _ _ ?_
      clear hKR KR
      have hB7 := hBr.trans (hb7.mono hzr)
      have x7 := bxBelow xr hb7 xr.lt
      have c7' := x7.cell
      have hz7 := hB7.size
      have hb67 := Hr.out.trans (hb7.mono hz6r)
      have hz67 := hb67.size
      have hcj7 : w7.cell? ⟨b6, o6 + j, none⟩ = some (.int .i64 (i : Int)) := (hb7.cell (p := ⟨b6, o6 + j, none⟩) (show b6 < wr.heap.size by omega)).trans hcj
      have H7 := Lib.hid hb67
      clear hb67 hb7 xr cr hcj hbd hS
      go_wp2_with (fail)
      refine region_held_wp 1 (fun W' => W' = w7.drew) (fun j => decide (j < 7)) (by kernel_rfl) ?_
      intro KR hKR
      have hS : w7.drew = w7.drew := rfl
      refine wpAnyHI_takeE (i := 0) (v := .agg #[.slice A1 n c]) (some 87) rfl rfl (by kernel_rfl) (by kernel_rfl) (by kernel_rfl) (by kernel_rfl) (by kernel_rfl) (fun _ _ _ h => h) hS (.inl ⟨by kernel_rfl, fun W' hS' => ?_⟩) ?_
      · subst hS'; go_simp
      refine wpAnyHI_takeE (i := 1) (v := .slice (some ⟨g, 0, none⟩) n n) (some 88) rfl rfl (by kernel_rfl) (by kernel_rfl) (by kernel_rfl) (by kernel_rfl) (by kernel_rfl) (fun _ _ _ h => h) hS (.inl ⟨by kernel_rfl, fun W' hS' => ?_⟩) ?_
      · subst hS'; go_simp
      refine wpAnyHI_takeE (i := 2) (v := .slice A7 m7 c7) (some 89) rfl rfl (by kernel_rfl) (by kernel_rfl) (by kernel_rfl) (by kernel_rfl) (by kernel_rfl) (fun _ _ _ h => h) hS (.inl ⟨by kernel_rfl, fun W' hS' => ?_⟩) ?_
      · subst hS'; go_simp
      refine wpAnyHI_takeE (i := 3) (v := .slice (some ⟨b6, o6, none⟩) m6 c6) (some 90) rfl rfl (by kernel_rfl) (by kernel_rfl) (by kernel_rfl) (by kernel_rfl) (by kernel_rfl) (fun _ _ _ h => h) hS (.inl ⟨by kernel_rfl, fun W' hS' => ?_⟩) ?_
      · subst hS'; go_simp
      refine wpAnyHI_takeE (i := 4) (v := .int .i64 (j : Int)) (some 91) rfl rfl (by kernel_rfl) (by kernel_rfl) (by kernel_rfl) (by kernel_rfl) (by kernel_rfl) (fun _ _ _ h => h) hS (.inl ⟨by kernel_rfl, fun W' hS' => ?_⟩) ?_
      · subst hS'; go_simp
      refine wpAnyHI_takeE (i := 5) (v := .pointer (some ⟨b6, o6 + j, none⟩)) (some 92) rfl rfl (by kernel_rfl) (by kernel_rfl) (by kernel_rfl) (by kernel_rfl) (by kernel_rfl) (fun _ _ _ h => h) hS (.inl ⟨by kernel_rfl, fun W' hS' => ?_⟩) ?_
      · subst hS'; go_simp
      refine wpAnyHI_takeE (i := 6) (v := .int .i64 (i : Int)) (some 93) rfl rfl (by kernel_rfl) (by kernel_rfl) (by kernel_rfl) (by kernel_rfl) (by kernel_rfl) (fun _ _ _ h => h) hS (.inl ⟨by kernel_rfl, fun W' hS' => ?_⟩) ?_
      · subst hS'; go_simp
      refine wpAnyHI_one (i := 7) rfl (by kernel_rfl) ?_
      intro K1 hK1
      go_simp
      have hBd7 : Below w.heap.size w w7.drew := hB7.trans ((below_drew w7).mono hz7)
      have hb3d : Below w3.heap.size w3 w7.drew := H6.out.2.2.2.2.trans ((H7.out.trans ((below_drew w7).mono hz67)).mono hzz6)
      have hb6d : Below w6.heap.size w6 w7.drew := H7.out.trans ((below_drew w7).mono hz67)
      refine ⟨trivial, (callsIn_wide.2 (Turn_any w7.drew B1 w3.heap.size w6.heap.size A1 (some ⟨g, 0, none⟩) A7 n c n n m7 c7 ts s0 ps (i : Int) (h1.below hBd7 hB1) (by have := hBd7.size; omega) (H3.out.2.1.below hb3d (Nat.le_refl _)) hb3d.size (H6.out.1.below hb6d (Nat.le_refl _)) hb6d.size)).mono ?_⟩
      rintro e w8 ⟨v8, rfl, hl8, hb8⟩
      rw [Ht.out.1] at hl8 ⊢
      obtain ⟨A8, m8, c8, rfl, h8⟩ := hl8
      simp only at h8 ⊢
      have hb78 : Below w7.heap.size w7 w8 := (below_drew w7).trans hb8
      refine hK1 _ _ ⟨fun h => absurd h (by decide), ?_⟩
      clear hK1 K1 hBd7 hb3d hb6d
      refine wpAnyHI_takeW (i := 8) (v := .tuple #[.slice A8 m8 c8, .int .i64 vv, .int .i64 0]) (some 86) rfl rfl (by kernel_rfl) (by kernel_rfl) (by kernel_rfl) (by kernel_rfl) (fun _ _ _ h => h) (.inl ⟨by kernel_rfl, fun W' hS' => ?_⟩) ?_
      · go_simp
      refine wpAnyHI_takeW (i := 9) (v := .slice A8 m8 c8) (some 95) rfl rfl (by kernel_rfl) (by kernel_rfl) (by kernel_rfl) (by kernel_rfl) (fun _ _ _ h => h) (.inl ⟨by kernel_rfl, fun W' hS' => ?_⟩) ?_
      · go_simp
      refine wpAnyHI_takeW (i := 10) (v := .int .i64 vv) (some 96) rfl rfl (by kernel_rfl) (by kernel_rfl) (by kernel_rfl) (by kernel_rfl) (fun _ _ _ h => h) (.inl ⟨by kernel_rfl, fun W' hS' => ?_⟩) ?_
      · go_simp
      refine wpAnyHI_takeW (i := 11) (v := .int .i64 0) (some 97) rfl rfl (by kernel_rfl) (by kernel_rfl) (by kernel_rfl) (by kernel_rfl) (fun _ _ _ h => h) (.inl ⟨by kernel_rfl, fun W' hS' => ?_⟩) ?_
      · go_simp
      refine wpAnyHI_takeW (i := 12) (v := .slice A8 m8 c8) (some 16) rfl rfl (by kernel_rfl) (by kernel_rfl) (by kernel_rfl) (by kernel_rfl) (fun _ _ _ h => h) (.inl ⟨by kernel_rfl, fun W' hS' => ?_⟩) ?_
      · go_simp
      refine wpAnyHI_takeW (i := 13) (v := .int .i64 vv) (some 17) rfl rfl (by kernel_rfl) (by kernel_rfl) (by kernel_rfl) (by kernel_rfl) (fun _ _ _ h => h) (.inl ⟨by kernel_rfl, fun W' hS' => ?_⟩) ?_
      · go_simp
      refine wpAnyHI_takeW (i := 14) (v := .int .i64 0) (some 18) rfl rfl (by kernel_rfl) (by kernel_rfl) (by kernel_rfl) (by kernel_rfl) (fun _ _ _ h => h) (.inl ⟨by kernel_rfl, fun W' hS' => ?_⟩) ?_
      · go_simp
      refine wpAnyHI_end (by kernel_rfl) ?_
      show KR _ _
      refine hKR _ _ ?_
      clear hKR KR
      have hB8 := hB7.trans (hb78.mono hz7)
      have x8 := bxBelow x7 hb78 x7.lt
      have c8' := x8.cell
      have hz8 := hB8.size
      have hb68 := H7.out.trans (hb78.mono hz67)
      have hz68 := hb68.size
      have hm8' := h8.len
      have H8 := Lib.hid (And.intro h8 (And.intro hb68 hm8'))
      have hm8s := h8.small
      clear h8 hb68 hb78 x7 c7' hcj7 hb8 hm8' hS
      go_wp2_with (fail)
      refine (Stated_any w8 B1 w8.heap.size A1 A8 n c m8 c8 ts xs (h1.below hB8 hB1) (by omega) H8.out.1 (Nat.le_refl _)).mono ?_
      rintro e w9 ⟨rfl, hb9⟩
      rw [Ht.out.2.1]
      have hB9 := hB8.trans (hb9.mono hz8)
      have x9 := bxBelow x8 hb9 x8.lt
      have c9' := x9.cell
      have hz9 := hB9.size
      have hz89 := hb9.size
      have H9 := Lib.hid hb9
      clear hb9 x8 c8'
      go_wp2_with (fail)
      refine (Doom_any w9 B1 w8.heap.size A1 A8 n c m8 c8 ts xs (h1.below hB9 hB1) (by omega) (H8.out.1.below H9.out (Nat.le_refl _)) hz89 (fun _ => ends_all Hv.out.1) (fun h => rends_all Hv.out.1 (nice_stated h))).mono ?_
      intro e w10 hd10
      rw [Ht.out.2.2.2] at hd10
      obtain ⟨A10, k10, c10, rfl, -, hb10⟩ := hd10
      have hb610 : Below w6.heap.size w6 w10 := H8.out.2.1.trans ((H9.out.trans (hb10.mono hz89)).mono hz68)
      have x10 := bxBelow x9 hb10 x9.lt
      have c10' := x10.cell
      have H10 := Lib.hid hb610
      clear hb10 hb610 x9 c9'
      go_wp2_with (fail)
      go_roundg (m6 - (j + 1))
      case measure => omega
      case rel => exact ⟨j + 1, ⟨hj, rfl, rfl⟩, H10.out⟩
    · obtain rfl : m6 = j := by omega
      have hlt : ¬ (m6 : Int) < (m6 : Int) := by omega
      obtain ⟨wo, rfl⟩ : ∃ wo, wo = wr := ⟨_, rfl⟩
      have his : IntsAt wo w3.heap.size (some ⟨g, 0, none⟩) n s0 := H3.out.2.1.below (H6.out.2.2.2.2.trans (Hr.out.mono hzz6)) (Nat.le_refl _)
      obtain ⟨b1, o1, rfl, hb1l, hct⟩ := h1.2.2 (by omega)
      obtain ⟨i0, hi0, hz0, hz1, hz2'⟩ := info_parts infoInt
      have hz36 : w3.heap.size ≤ wo.heap.size := by omega
      have hr0 := World.ownsRow_made (base := wo.heap.size) (e := 3) (size := 1) wo #[] 0 (Nat.le_refl _) (by simp [maxLen]) rfl
      have hsV := his.below ((Below.refl wo.heap.size wo).alloc (Nat.le_refl _) (.cells #[] 3)) hz36
      have hs0l := H3.out.2.2
      have htl := Hv.out.2.2
      go_wp2_with (at_builtin; first | (refine wpList_append_own_at _ rfl _ _ 22 rfl wo.heap.size 3 i0 (.int .i64 0) 1 8 Tryz.underlying22 hi0 hz0 hz1 hz2' rfl (by decide) (.slice (some ⟨wo.heap.size, 0, none⟩) 0 0) 0 [] rfl hr0 ⟨g, 0, none⟩ n n (s0.map (.int .i64)) rfl (by simp [hs0l]) (ints_cells hsV) (by simp [Value.oneCell']) (by simp only [maxLen]; omega) (by omega) (by simp) ?_; intro v' w1 hown1 hgrow1 _ hat1; rw [Nat.zero_add, List.nil_append] at hown1; obtain ⟨g1, cc1, rfl⟩ := ownsRow_pos hown1 h1n; have hbw1 : Below wo.heap.size wo w1 := ((Below.refl wo.heap.size wo).alloc (Nat.le_refl _) _).trans ((Below.refl _ _).grown hgrow1 (by simp) (fun r e => (hr0.lt r e).1)); have hr2 := World.ownsRow_made (base := w1.heap.size) (e := 3) (size := 1) w1 #[] 0 (Nat.le_refl _) (by simp [maxLen]) rfl; have hitV := (h1.below (hBr.trans (hbw1.mono hzr)) hB1).below ((Below.refl w1.heap.size w1).alloc (Nat.le_refl _) (.cells #[] 3)) (by have := hbw1.size; omega); have cw1 := (bxBelow xr hbw1 xr.lt).cell; have hlw1 : w.heap.size < w1.heap.size := (bxBelow xr hbw1 xr.lt).lt) | (refine wpList_append_own_at _ rfl _ _ 22 rfl w1.heap.size 3 i0 (.int .i64 0) 1 8 Tryz.underlying22 hi0 hz0 hz1 hz2' rfl (by decide) (.slice (some ⟨w1.heap.size, 0, none⟩) 0 0) 0 [] rfl hr2 ⟨b1, o1, none⟩ n c (ts.map (.int .i64)) rfl (by simp [htl]) (ints_cells hitV) (by simp [Value.oneCell']) (by simp only [maxLen]; omega) (by omega) (by simp) ?_; intro v' w10 hown3 hgrow3 _ hat3; rw [Nat.zero_add, List.nil_append] at hown3; obtain ⟨g3, cc3, rfl⟩ := ownsRow_pos hown3 h1n))
      have hg1 : wo.heap.size ≤ g1 := by
        rcases hown1.2 with ⟨he, -⟩ | ⟨g', cap', cur, he, hb, -⟩
        · cases he
        · cases he; exact hb
      have hg1l : g1 < w1.heap.size := ints_lt (row_ints hown1 (by omega)) (by omega)
      have hg3 : w1.heap.size ≤ g3 := by
        rcases hown3.2 with ⟨he, -⟩ | ⟨g', cap', cur, he, hb, -⟩
        · cases he
        · cases he; exact hb
      have hg3l : g3 < w10.heap.size := ints_lt (row_ints hown3 (by omega)) (by omega)
      have hbw10 : Below w1.heap.size w1 w10 := ((Below.refl w1.heap.size w1).alloc (Nat.le_refl _) _).trans ((Below.refl _ _).grown hgrow3 (by simp) (fun r e => (hr2.lt r e).1))
      obtain ⟨D, hD⟩ : ∃ D, D = w10.heap.size := ⟨_, rfl⟩
      obtain ⟨W0, hW0⟩ : ∃ W0, W0 = w10.alloc (.cells #[.slice (some ⟨g3, 0, none⟩) n cc3] 24) := ⟨_, rfl⟩
      have yD : Boxed W0 D 24 (.slice (some ⟨g3, 0, none⟩) n cc3) := by rw [hW0, hD]; exact Boxed.new w10 24 _
      have r1 : W0.ownsRow wo.heap.size 3 1 (.slice (some ⟨g1, 0, none⟩) n cc1) n (s0.map (.int .i64)) := row_keep hown1 (by rw [hW0]; exact (Below.heap_alloc _ _ _ (by omega)).trans (hbw10.block g1 hg1l))
      have r3 : W0.ownsRow w1.heap.size 3 1 (.slice (some ⟨g3, 0, none⟩) n cc3) n (ts.map (.int .i64)) := row_keep hown3 (by rw [hW0]; exact Below.heap_alloc _ _ _ hg3l)
      have hbW0 : Below wo.heap.size wo W0 := by rw [hW0]; exact (hbw1.trans (hbw10.mono hbw1.size)).alloc (by have := hbw1.size; have := hbw10.size; omega) _
      have hDl : w10.heap.size ≤ D := by omega
      rw [← hW0, ← hD]
      clear hW0 hD hbw10 hown1 hown3 hgrow1 hgrow3 hat1 hat3 hr0 hr2 hsV hitV cw1 hlw1
      have Hrow := Lib.hid (And.intro r1 (And.intro r3 (And.intro yD hbW0)))
      clear r1 r3 yD hbW0 hlt
      go_loopg [21] n (fun gg v21 wr => ∃ (j : Nat) (es ws : List Int), (j ≤ n ∧ gg = n - j ∧ v21 = .int .i64 (j : Int)) ∧ (wr.ownsRow wo.heap.size 3 1 (.slice (some ⟨g1, 0, none⟩) n cc1) n (es.map (.int .i64)) ∧ wr.ownsRow w1.heap.size 3 1 (.slice (some ⟨g3, 0, none⟩) n cc3) n (ws.map (.int .i64)) ∧ Boxed wr D 24 (.slice (some ⟨g3, 0, none⟩) n cc3)) ∧ ((∀ i, i < n → 0 ≤ es[i]?.getD 0 ∧ es[i]?.getD 0 ≤ s0[i]?.getD 0) ∧ ∀ i, i < n → ts[i]?.getD 0 ≤ ws[i]?.getD 0) ∧ Below wo.heap.size wo wr)
      case atStart =>
        refine ⟨0, s0, ts, ⟨Nat.zero_le _, rfl, rfl⟩, ⟨Hrow.out.1, Hrow.out.2.1, Hrow.out.2.2.1⟩, ⟨fun i hi => ?_, fun i _ => by omega⟩, Hrow.out.2.2.2⟩
        have h := (nice_stated H3.out.1).1.1 i (by omega)
        rw [nice_get H3.out.1] at h
        omega
      case round =>
        obtain ⟨j, es, ws, ⟨hjn, rfl, rfl⟩, ⟨r1, r3, yD⟩, ⟨hes, hws⟩, hbr⟩ := hrel
        have xq := bxBelow xr hbr xr.lt
        have cq := xq.cell
        have hBq := hBr.trans (hbr.mono hzr)
        have hzq := hBq.size
        have hzoq := hbr.size
        have cD := yD.cell
        have hDs := yD.lt
        have Hq := Lib.hid (And.intro r1 (And.intro r3 (And.intro hes (And.intro hws hbr))))
        clear r1 r3 hes hws hbr
        by_cases hj : j < n
        · have hwj : IntKind.i64.wrap ((j : Int) + 1) = (j : Int) + 1 := by rw [IntKind.wrap_i64]; omega
          have hss := his.below Hq.out.2.2.2.2 hz36
          have hcs : wr.cell? ⟨g, j, none⟩ = some (.int .i64 (s0[j]?.getD 0)) := by
            obtain ⟨b', o', e, -, h⟩ := hss.cell hj
            cases e
            rw [Nat.zero_add] at h
            exact h
          have hsb : 0 ≤ s0[j]?.getD 0 ∧ s0[j]?.getD 0 ≤ 12 := stated_twelve H3.out.1 j
          obtain ⟨sj, hsj⟩ : ∃ sj, sj = s0[j]?.getD 0 := ⟨_, rfl⟩
          rw [← hsj] at hcs hsb
          have hcT : wr.cell? ⟨b1, o1 + j, none⟩ = some (.int .i64 (ts[j]?.getD 0)) := (hBq.cell (p := ⟨b1, o1 + j, none⟩) (show b1 < w.heap.size by omega)).trans (hct j hj)
          have htb : 1 ≤ ts[j]?.getD 0 ∧ ts[j]?.getD 0 ≤ 12 := Hv.out.1.h12 j (by omega)
          obtain ⟨tj, htj⟩ : ∃ tj, tj = ts[j]?.getD 0 := ⟨_, rfl⟩
          rw [← htj] at hcT htb
          have Hj := Lib.hid (And.intro hsj htj)
          clear hsj htj hss
          by_cases hk4 : 0 < k4
          · obtain ⟨b4, o4, rfl, hb4l, hc4⟩ := (h4.below hBq hB4).2.2 hk4
            obtain ⟨q, hq⟩ : ∃ q, q = j % k4 := ⟨_, rfl⟩
            have hqk : q < k4 := by rw [hq]; exact Nat.mod_lt _ hk4
            obtain ⟨hcq, hl0, hl1⟩ := hc4 q hqk
            obtain ⟨lq, hlq⟩ : ∃ lq, lq = ls[q]?.getD 0 := ⟨_, rfl⟩
            rw [← hlq] at hcq hl0 hl1
            have hmod : ((j : Int)).tmod (k4 : Int) = (q : Int) := by rw [Int.tmod_eq_emod_of_nonneg (by omega), hq]; simp
            obtain ⟨rq, hrq⟩ : ∃ rq, rq = lq % 4 := ⟨_, rfl⟩
            have hrb : 0 ≤ rq ∧ rq ≤ 3 := by omega
            have hmod2 : lq.tmod 4 = rq := by rw [Int.tmod_eq_emod_of_nonneg hl0, hrq]
            clear hc4 hlq hq hrq
            have hwl : IntKind.i64.wrap lq = lq := by rw [IntKind.wrap_i64]; omega
            have hwq : IntKind.i64.wrap (q : Int) = (q : Int) := by rw [IntKind.wrap_i64]; omega
            have hwr : IntKind.i64.wrap rq = rq := by rw [IntKind.wrap_i64]; omega
            have hwd : IntKind.i64.wrap (sj - rq) = sj - rq := by rw [IntKind.wrap_i64]; omega
            obtain ⟨ev, hev⟩ : ∃ ev, (if rq < sj then sj - rq else 0) = ev := ⟨_, rfl⟩
            have hevb : 0 ≤ ev ∧ ev ≤ sj := by rw [← hev]; split <;> omega
            have hc1 : wr.cell? ⟨g1, j, none⟩ = some (.int .i64 (es[j]?.getD 0)) := row_cell Hq.out.1 hj
            have hf1 : wr.frozen? ⟨g1, j, none⟩ = false := row_frozen Hq.out.1 j
            have hel : es.length = n := by simpa using Hq.out.1.1
            go_wp2_with (fail)
            refine region_held_wp 1 (fun W' => W' = wr.drew) (fun j => decide (j < 18)) (by kernel_rfl) ?_
            intro KR hKR
            have hS : wr.drew = wr.drew := rfl
            refine wpAnyHI_takeE (i := 0) (v := .slice (some ⟨g1, 0, none⟩) n cc1) (some 131) rfl rfl (by kernel_rfl) (by kernel_rfl) (by kernel_rfl) (by kernel_rfl) (by kernel_rfl) (fun _ _ _ h => h) hS (.inl ⟨by kernel_rfl, fun W' hS' => ?_⟩) ?_
            · subst hS'; go_simp
            refine wpAnyHI_takeE (i := 1) (v := .int .i64 (j : Int)) (some 132) rfl rfl (by kernel_rfl) (by kernel_rfl) (by kernel_rfl) (by kernel_rfl) (by kernel_rfl) (fun _ _ _ h => h) hS (.inl ⟨by kernel_rfl, fun W' hS' => ?_⟩) ?_
            · subst hS'; go_simp
            refine wpAnyHI_takeE (i := 2) (v := .slice (some ⟨g, 0, none⟩) n n) (some 133) rfl rfl (by kernel_rfl) (by kernel_rfl) (by kernel_rfl) (by kernel_rfl) (by kernel_rfl) (fun _ _ _ h => h) hS (.inl ⟨by kernel_rfl, fun W' hS' => ?_⟩) ?_
            · subst hS'; go_simp
            refine wpAnyHI_takeE (i := 3) (v := .int .i64 (j : Int)) (some 134) rfl rfl (by kernel_rfl) (by kernel_rfl) (by kernel_rfl) (by kernel_rfl) (by kernel_rfl) (fun _ _ _ h => h) hS (.inl ⟨by kernel_rfl, fun W' hS' => ?_⟩) ?_
            · subst hS'; go_simp
            refine wpAnyHI_takeE (i := 4) (v := .pointer (some ⟨g, j, none⟩)) (some 135) rfl rfl (by kernel_rfl) (by kernel_rfl) (by kernel_rfl) (by kernel_rfl) (by kernel_rfl) (fun _ _ _ h => h) hS (.inl ⟨by kernel_rfl, fun W' hS' => ?_⟩) ?_
            · subst hS'; go_simp
            refine wpAnyHI_takeE (i := 5) (v := .int .i64 sj) (some 136) rfl rfl (by kernel_rfl) (by kernel_rfl) (by kernel_rfl) (by kernel_rfl) (by kernel_rfl) (fun _ _ _ h => h) hS (.inl ⟨by kernel_rfl, fun W' hS' => ?_⟩) ?_
            · subst hS'; go_simp
            refine wpAnyHI_takeE (i := 6) (v := .slice (some ⟨b4, o4, none⟩) k4 f4) (some 137) rfl rfl (by kernel_rfl) (by kernel_rfl) (by kernel_rfl) (by kernel_rfl) (by kernel_rfl) (fun _ _ _ h => h) hS (.inl ⟨by kernel_rfl, fun W' hS' => ?_⟩) ?_
            · subst hS'; go_simp
            refine wpAnyHI_takeE (i := 7) (v := .int .i64 (j : Int)) (some 138) rfl rfl (by kernel_rfl) (by kernel_rfl) (by kernel_rfl) (by kernel_rfl) (by kernel_rfl) (fun _ _ _ h => h) hS (.inl ⟨by kernel_rfl, fun W' hS' => ?_⟩) ?_
            · subst hS'; go_simp
            refine wpAnyHI_takeE (i := 8) (v := .slice (some ⟨b4, o4, none⟩) k4 f4) (some 139) rfl rfl (by kernel_rfl) (by kernel_rfl) (by kernel_rfl) (by kernel_rfl) (by kernel_rfl) (fun _ _ _ h => h) hS (.inl ⟨by kernel_rfl, fun W' hS' => ?_⟩) ?_
            · subst hS'; go_simp
            refine wpAnyHI_takeE (i := 9) (v := .int .i64 (k4 : Int)) (some 140) rfl rfl (by kernel_rfl) (by kernel_rfl) (by kernel_rfl) (by kernel_rfl) (by kernel_rfl) (fun _ _ _ h => h) hS (.inl ⟨by kernel_rfl, fun W' hS' => ?_⟩) ?_
            · subst hS'; go_simp
            refine wpAnyHI_takeE (i := 10) (v := .int .i64 (q : Int)) (some 141) rfl rfl (by kernel_rfl) (by kernel_rfl) (by kernel_rfl) (by kernel_rfl) (by kernel_rfl) (fun _ _ _ h => h) hS (.inl ⟨by kernel_rfl, fun W' hS' => ?_⟩) ?_
            · subst hS'; go_simp; omega
            refine wpAnyHI_takeE (i := 11) (v := .pointer (some ⟨b4, o4 + q, none⟩)) (some 142) rfl rfl (by kernel_rfl) (by kernel_rfl) (by kernel_rfl) (by kernel_rfl) (by kernel_rfl) (fun _ _ _ h => h) hS (.inl ⟨by kernel_rfl, fun W' hS' => ?_⟩) ?_
            · subst hS'; go_simp
            refine wpAnyHI_takeE (i := 12) (v := .int .u8 lq) (some 143) rfl rfl (by kernel_rfl) (by kernel_rfl) (by kernel_rfl) (by kernel_rfl) (by kernel_rfl) (fun _ _ _ h => h) hS (.inl ⟨by kernel_rfl, fun W' hS' => ?_⟩) ?_
            · subst hS'; go_simp
            refine wpAnyHI_takeE (i := 13) (v := .int .i64 lq) (some 144) rfl rfl (by kernel_rfl) (by kernel_rfl) (by kernel_rfl) (by kernel_rfl) (by kernel_rfl) (fun _ _ _ h => h) hS (.inl ⟨by kernel_rfl, fun W' hS' => ?_⟩) ?_
            · subst hS'; go_simp
            refine wpAnyHI_takeE (i := 14) (v := .int .i64 rq) (some 145) rfl rfl (by kernel_rfl) (by kernel_rfl) (by kernel_rfl) (by kernel_rfl) (by kernel_rfl) (fun _ _ _ h => h) hS (.inl ⟨by kernel_rfl, fun W' hS' => ?_⟩) ?_
            · subst hS'; go_simp
            refine wpAnyHI_takeE (i := 15) (v := .int .i64 (sj - rq)) (some 146) rfl rfl (by kernel_rfl) (by kernel_rfl) (by kernel_rfl) (by kernel_rfl) (by kernel_rfl) (fun _ _ _ h => h) hS (.inl ⟨by kernel_rfl, fun W' hS' => ?_⟩) ?_
            · subst hS'; go_simp
            refine wpAnyHI_takeE (i := 16) (v := .int .i64 ev) (some 147) rfl rfl (by kernel_rfl) (by kernel_rfl) (by kernel_rfl) (by kernel_rfl) (by kernel_rfl) (fun _ _ _ h => h) hS (.inl ⟨by kernel_rfl, fun W' hS' => ?_⟩) ?_
            · subst hS'; go_simp
            refine wpAnyHI_takeE (i := 17) (v := .pointer (some ⟨g1, j, none⟩)) (some 148) rfl rfl (by kernel_rfl) (by kernel_rfl) (by kernel_rfl) (by kernel_rfl) (by kernel_rfl) (fun _ _ _ h => h) hS (.inl ⟨by kernel_rfl, fun W' hS' => ?_⟩) ?_
            · subst hS'; go_simp
            refine wpAnyHI_one (i := 18) rfl (by kernel_rfl) ?_
            intro K1 hK1
            go_simp
            refine hK1 _ _ ⟨fun h => absurd h (by decide), ?_⟩
            clear hK1 K1
            refine wpAnyHI_end (by kernel_rfl) ?_
            show KR _ _
            refine hKR _ _ ?_
            clear hKR KR
            obtain ⟨U, hU⟩ : ∃ U, U = (wr.setCell ⟨g1, j, none⟩ (.int .i64 ev)).drew := ⟨_, rfl⟩
            obtain ⟨E, hE⟩ : ∃ E, E = es.set j ev := ⟨_, rfl⟩
            have r1 : U.ownsRow wo.heap.size 3 1 (.slice (some ⟨g1, 0, none⟩) n cc1) n (E.map (.int .i64)) := by
              rw [hU, hE, List.map_set]
              exact row_set Hq.out.1 hj _
            have r3 : U.ownsRow w1.heap.size 3 1 (.slice (some ⟨g3, 0, none⟩) n cc3) n (ws.map (.int .i64)) := row_keep Hq.out.2.1 (by rw [hU]; exact Below.heap_setCell _ _ _ _ (show g3 ≠ g1 by omega))
            have yU : Boxed U D 24 (.slice (some ⟨g3, 0, none⟩) n cc3) := by rw [hU]; exact (Below.heap_setCell _ _ _ _ (show D ≠ g1 by omega)).trans yD
            have hbU : Below wo.heap.size wo U := by rw [hU]; exact (Hq.out.2.2.2.2.setCell (by show wo.heap.size ≤ g1; omega) _).trans ⟨rfl, rfl, rfl, Nat.le_refl _, fun _ _ => rfl⟩
            have heU : ∀ i, i < n → 0 ≤ E[i]?.getD 0 ∧ E[i]?.getD 0 ≤ s0[i]?.getD 0 := fun i hi => by
              rw [hE, List.getElem?_set]
              by_cases hji : j = i
              · subst hji
                rw [if_pos rfl, if_pos (by omega), Option.getD_some, ← Hj.out.1]
                exact hevb
              · rw [if_neg hji]
                exact Hq.out.2.2.1 i hi
            have HU := Lib.hid (And.intro r1 (And.intro r3 (And.intro heU (And.intro Hq.out.2.2.2.1 hbU))))
            rw [← hU]
            clear hU hE r1 r3 hbU heU hc1 hf1 hcq hev hevb hS
            have xU := bxBelow xr HU.out.2.2.2.2 xr.lt
            have cU := xU.cell
            have hBU := hBr.trans (HU.out.2.2.2.2.mono hzr)
            have hcTU : U.cell? ⟨b1, o1 + j, none⟩ = some (.int .i64 tj) := by rw [Hj.out.2]; exact (hBU.cell (p := ⟨b1, o1 + j, none⟩) (show b1 < w.heap.size by omega)).trans (hct j hj)
            have cDU := yU.cell
            have hzU := hBU.size
            have hDU := yU.lt
            by_cases hk5 : 0 < k5
            · obtain ⟨b5, o5, rfl, hb5l, hc5⟩ := (h5.below hBU hB5).2.2 hk5
              obtain ⟨q5, hq5⟩ : ∃ q5, q5 = j % k5 := ⟨_, rfl⟩
              have hqk5 : q5 < k5 := by rw [hq5]; exact Nat.mod_lt _ hk5
              obtain ⟨hcq5, hl50, hl51⟩ := hc5 q5 hqk5
              obtain ⟨mq, hmq⟩ : ∃ mq, mq = ms[q5]?.getD 0 := ⟨_, rfl⟩
              rw [← hmq] at hcq5 hl50 hl51
              have hmod5 : ((j : Int)).tmod (k5 : Int) = (q5 : Int) := by rw [Int.tmod_eq_emod_of_nonneg (by omega), hq5]; simp
              obtain ⟨r5, hr5⟩ : ∃ r5, r5 = mq % 3 := ⟨_, rfl⟩
              have hrb5 : 0 ≤ r5 ∧ r5 ≤ 2 := by omega
              have hmod52 : mq.tmod 3 = r5 := by rw [Int.tmod_eq_emod_of_nonneg hl50, hr5]
              clear hc5 hmq hq5 hr5
              have hwl5 : IntKind.i64.wrap mq = mq := by rw [IntKind.wrap_i64]; omega
              have hwq5 : IntKind.i64.wrap (q5 : Int) = (q5 : Int) := by rw [IntKind.wrap_i64]; omega
              have hwr5 : IntKind.i64.wrap r5 = r5 := by rw [IntKind.wrap_i64]; omega
              have hwd5 : IntKind.i64.wrap (tj + r5) = tj + r5 := by rw [IntKind.wrap_i64]; omega
              obtain ⟨mv, hmv⟩ : ∃ mv, (if tj + r5 < 12 then tj + r5 else 12) = mv := ⟨_, rfl⟩
              have hmvb : tj ≤ mv := by rw [← hmv]; split <;> omega
              have hc3 : U.cell? ⟨g3, j, none⟩ = some (.int .i64 (ws[j]?.getD 0)) := row_cell HU.out.2.1 hj
              have hf3 : U.frozen? ⟨g3, j, none⟩ = false := row_frozen HU.out.2.1 j
              have hwl : ws.length = n := by simpa using HU.out.2.1.1
              go_wp2_with (fail)
              refine region_held_wp 1 (fun W' => W' = U.drew) (fun j => decide (j < 20)) (by kernel_rfl) ?_
              intro KR hKR
              have hS : U.drew = U.drew := rfl
              refine wpAnyHI_takeE (i := 0) (v := .pointer (some ⟨D, 0, none⟩)) (some 152) rfl rfl (by kernel_rfl) (by kernel_rfl) (by kernel_rfl) (by kernel_rfl) (by kernel_rfl) (fun _ _ _ h => h) hS (.inl ⟨by kernel_rfl, fun W' hS' => ?_⟩) ?_
              · subst hS'; go_simp
              refine wpAnyHI_takeE (i := 1) (v := .slice (some ⟨g3, 0, none⟩) n cc3) (some 153) rfl rfl (by kernel_rfl) (by kernel_rfl) (by kernel_rfl) (by kernel_rfl) (by kernel_rfl) (fun _ _ _ h => h) hS (.inl ⟨by kernel_rfl, fun W' hS' => ?_⟩) ?_
              · subst hS'; go_simp
              refine wpAnyHI_takeE (i := 2) (v := .int .i64 (j : Int)) (some 154) rfl rfl (by kernel_rfl) (by kernel_rfl) (by kernel_rfl) (by kernel_rfl) (by kernel_rfl) (fun _ _ _ h => h) hS (.inl ⟨by kernel_rfl, fun W' hS' => ?_⟩) ?_
              · subst hS'; go_simp
              refine wpAnyHI_takeE (i := 3) (v := .pointer (some ⟨w.heap.size, 0, none⟩)) (some 155) rfl rfl (by kernel_rfl) (by kernel_rfl) (by kernel_rfl) (by kernel_rfl) (by kernel_rfl) (fun _ _ _ h => h) hS (.inl ⟨by kernel_rfl, fun W' hS' => ?_⟩) ?_
              · subst hS'; go_simp
              refine wpAnyHI_takeE (i := 4) (v := .slice (some ⟨b1, o1, none⟩) n c) (some 156) rfl rfl (by kernel_rfl) (by kernel_rfl) (by kernel_rfl) (by kernel_rfl) (by kernel_rfl) (fun _ _ _ h => h) hS (.inl ⟨by kernel_rfl, fun W' hS' => ?_⟩) ?_
              · subst hS'; go_simp
              refine wpAnyHI_takeE (i := 5) (v := .int .i64 (j : Int)) (some 157) rfl rfl (by kernel_rfl) (by kernel_rfl) (by kernel_rfl) (by kernel_rfl) (by kernel_rfl) (fun _ _ _ h => h) hS (.inl ⟨by kernel_rfl, fun W' hS' => ?_⟩) ?_
              · subst hS'; go_simp
              refine wpAnyHI_takeE (i := 6) (v := .pointer (some ⟨b1, o1 + j, none⟩)) (some 158) rfl rfl (by kernel_rfl) (by kernel_rfl) (by kernel_rfl) (by kernel_rfl) (by kernel_rfl) (fun _ _ _ h => h) hS (.inl ⟨by kernel_rfl, fun W' hS' => ?_⟩) ?_
              · subst hS'; go_simp
              refine wpAnyHI_takeE (i := 7) (v := .int .i64 tj) (some 159) rfl rfl (by kernel_rfl) (by kernel_rfl) (by kernel_rfl) (by kernel_rfl) (by kernel_rfl) (fun _ _ _ h => h) hS (.inl ⟨by kernel_rfl, fun W' hS' => ?_⟩) ?_
              · subst hS'; go_simp
              refine wpAnyHI_takeE (i := 8) (v := .slice (some ⟨b5, o5, none⟩) k5 f5) (some 160) rfl rfl (by kernel_rfl) (by kernel_rfl) (by kernel_rfl) (by kernel_rfl) (by kernel_rfl) (fun _ _ _ h => h) hS (.inl ⟨by kernel_rfl, fun W' hS' => ?_⟩) ?_
              · subst hS'; go_simp
              refine wpAnyHI_takeE (i := 9) (v := .int .i64 (j : Int)) (some 161) rfl rfl (by kernel_rfl) (by kernel_rfl) (by kernel_rfl) (by kernel_rfl) (by kernel_rfl) (fun _ _ _ h => h) hS (.inl ⟨by kernel_rfl, fun W' hS' => ?_⟩) ?_
              · subst hS'; go_simp
              refine wpAnyHI_takeE (i := 10) (v := .slice (some ⟨b5, o5, none⟩) k5 f5) (some 162) rfl rfl (by kernel_rfl) (by kernel_rfl) (by kernel_rfl) (by kernel_rfl) (by kernel_rfl) (fun _ _ _ h => h) hS (.inl ⟨by kernel_rfl, fun W' hS' => ?_⟩) ?_
              · subst hS'; go_simp
              refine wpAnyHI_takeE (i := 11) (v := .int .i64 (k5 : Int)) (some 163) rfl rfl (by kernel_rfl) (by kernel_rfl) (by kernel_rfl) (by kernel_rfl) (by kernel_rfl) (fun _ _ _ h => h) hS (.inl ⟨by kernel_rfl, fun W' hS' => ?_⟩) ?_
              · subst hS'; go_simp
              refine wpAnyHI_takeE (i := 12) (v := .int .i64 (q5 : Int)) (some 164) rfl rfl (by kernel_rfl) (by kernel_rfl) (by kernel_rfl) (by kernel_rfl) (by kernel_rfl) (fun _ _ _ h => h) hS (.inl ⟨by kernel_rfl, fun W' hS' => ?_⟩) ?_
              · subst hS'; go_simp; omega
              refine wpAnyHI_takeE (i := 13) (v := .pointer (some ⟨b5, o5 + q5, none⟩)) (some 165) rfl rfl (by kernel_rfl) (by kernel_rfl) (by kernel_rfl) (by kernel_rfl) (by kernel_rfl) (fun _ _ _ h => h) hS (.inl ⟨by kernel_rfl, fun W' hS' => ?_⟩) ?_
              · subst hS'; go_simp
              refine wpAnyHI_takeE (i := 14) (v := .int .u8 mq) (some 166) rfl rfl (by kernel_rfl) (by kernel_rfl) (by kernel_rfl) (by kernel_rfl) (by kernel_rfl) (fun _ _ _ h => h) hS (.inl ⟨by kernel_rfl, fun W' hS' => ?_⟩) ?_
              · subst hS'; go_simp
              refine wpAnyHI_takeE (i := 15) (v := .int .i64 mq) (some 167) rfl rfl (by kernel_rfl) (by kernel_rfl) (by kernel_rfl) (by kernel_rfl) (by kernel_rfl) (fun _ _ _ h => h) hS (.inl ⟨by kernel_rfl, fun W' hS' => ?_⟩) ?_
              · subst hS'; go_simp
              refine wpAnyHI_takeE (i := 16) (v := .int .i64 r5) (some 168) rfl rfl (by kernel_rfl) (by kernel_rfl) (by kernel_rfl) (by kernel_rfl) (by kernel_rfl) (fun _ _ _ h => h) hS (.inl ⟨by kernel_rfl, fun W' hS' => ?_⟩) ?_
              · subst hS'; go_simp
              refine wpAnyHI_takeE (i := 17) (v := .int .i64 (tj + r5)) (some 169) rfl rfl (by kernel_rfl) (by kernel_rfl) (by kernel_rfl) (by kernel_rfl) (by kernel_rfl) (fun _ _ _ h => h) hS (.inl ⟨by kernel_rfl, fun W' hS' => ?_⟩) ?_
              · subst hS'; go_simp
              refine wpAnyHI_takeE (i := 18) (v := .int .i64 mv) (some 170) rfl rfl (by kernel_rfl) (by kernel_rfl) (by kernel_rfl) (by kernel_rfl) (by kernel_rfl) (fun _ _ _ h => h) hS (.inl ⟨by kernel_rfl, fun W' hS' => ?_⟩) ?_
              · subst hS'; go_simp
              refine wpAnyHI_takeE (i := 19) (v := .pointer (some ⟨g3, j, none⟩)) (some 171) rfl rfl (by kernel_rfl) (by kernel_rfl) (by kernel_rfl) (by kernel_rfl) (by kernel_rfl) (fun _ _ _ h => h) hS (.inl ⟨by kernel_rfl, fun W' hS' => ?_⟩) ?_
              · subst hS'; go_simp
              refine wpAnyHI_one (i := 20) rfl (by kernel_rfl) ?_
              intro K1 hK1
              go_simp
              refine hK1 _ _ ⟨fun h => absurd h (by decide), ?_⟩
              clear hK1 K1
              refine wpAnyHI_end (by kernel_rfl) ?_
              show KR _ _
              refine hKR _ _ ?_
              clear hKR KR
              have Hst := Lib.hid (And.intro hmvb (And.intro hwl yU))
              clear hc3 hf3 hcq5 hmv hmvb hS cDU cU hcTU
              go_wp2_with (fail)
              go_roundg (n - (j + 1))
              case measure => omega
              case rel =>
                refine ⟨j + 1, E, ws.set j mv, ⟨hj, rfl, rfl⟩, ⟨row_keep HU.out.1 (Below.heap_setCell _ _ _ _ (show g1 ≠ g3 by omega)), ?_, (Below.heap_setCell _ _ _ _ (show D ≠ g3 by omega)).trans Hst.out.2.2⟩, ⟨HU.out.2.2.1, fun i hi => ?_⟩, (HU.out.2.2.2.2.setCell (by show wo.heap.size ≤ g3; omega) _).trans ⟨rfl, rfl, rfl, Nat.le_refl _, fun _ _ => rfl⟩⟩
                · rw [List.map_set]
                  exact row_set HU.out.2.1 hj _
                · rw [List.getElem?_set]
                  by_cases hji : j = i
                  · subst hji
                    rw [if_pos rfl, if_pos (by have := Hst.out.2.1; omega), Option.getD_some, ← Hj.out.2]
                    exact Hst.out.1
                  · rw [if_neg hji]
                    exact HU.out.2.2.2.1 i hi
            · have HyU := Lib.hid yU
              go_wp2_with (fail)
              go_roundg (n - (j + 1))
              case measure => omega
              case rel => exact ⟨j + 1, E, ws, ⟨hj, rfl, rfl⟩, ⟨HU.out.1, HU.out.2.1, HyU.out⟩, ⟨HU.out.2.2.1, HU.out.2.2.2.1⟩, HU.out.2.2.2.2⟩
          · have hk40 : ¬ (0 : Int) < (k4 : Int) := by omega
            have xU := bxBelow xr Hq.out.2.2.2.2 xr.lt
            have cU := xU.cell
            have hBU := hBr.trans (Hq.out.2.2.2.2.mono hzr)
            have hcTU : wr.cell? ⟨b1, o1 + j, none⟩ = some (.int .i64 tj) := by rw [Hj.out.2]; exact (hBU.cell (p := ⟨b1, o1 + j, none⟩) (show b1 < w.heap.size by omega)).trans (hct j hj)
            have cDU := yD.cell
            have hzU := hBU.size
            have hDU := yD.lt
            by_cases hk5 : 0 < k5
            · obtain ⟨b5, o5, rfl, hb5l, hc5⟩ := (h5.below hBU hB5).2.2 hk5
              obtain ⟨q5, hq5⟩ : ∃ q5, q5 = j % k5 := ⟨_, rfl⟩
              have hqk5 : q5 < k5 := by rw [hq5]; exact Nat.mod_lt _ hk5
              obtain ⟨hcq5, hl50, hl51⟩ := hc5 q5 hqk5
              obtain ⟨mq, hmq⟩ : ∃ mq, mq = ms[q5]?.getD 0 := ⟨_, rfl⟩
              rw [← hmq] at hcq5 hl50 hl51
              have hmod5 : ((j : Int)).tmod (k5 : Int) = (q5 : Int) := by rw [Int.tmod_eq_emod_of_nonneg (by omega), hq5]; simp
              obtain ⟨r5, hr5⟩ : ∃ r5, r5 = mq % 3 := ⟨_, rfl⟩
              have hrb5 : 0 ≤ r5 ∧ r5 ≤ 2 := by omega
              have hmod52 : mq.tmod 3 = r5 := by rw [Int.tmod_eq_emod_of_nonneg hl50, hr5]
              clear hc5 hmq hq5 hr5
              have hwl5 : IntKind.i64.wrap mq = mq := by rw [IntKind.wrap_i64]; omega
              have hwq5 : IntKind.i64.wrap (q5 : Int) = (q5 : Int) := by rw [IntKind.wrap_i64]; omega
              have hwr5 : IntKind.i64.wrap r5 = r5 := by rw [IntKind.wrap_i64]; omega
              have hwd5 : IntKind.i64.wrap (tj + r5) = tj + r5 := by rw [IntKind.wrap_i64]; omega
              obtain ⟨mv, hmv⟩ : ∃ mv, (if tj + r5 < 12 then tj + r5 else 12) = mv := ⟨_, rfl⟩
              have hmvb : tj ≤ mv := by rw [← hmv]; split <;> omega
              have hc3 : wr.cell? ⟨g3, j, none⟩ = some (.int .i64 (ws[j]?.getD 0)) := row_cell Hq.out.2.1 hj
              have hf3 : wr.frozen? ⟨g3, j, none⟩ = false := row_frozen Hq.out.2.1 j
              have hwl : ws.length = n := by simpa using Hq.out.2.1.1
              go_wp2_with (fail)
              refine region_held_wp 1 (fun W' => W' = wr.drew) (fun j => decide (j < 20)) (by kernel_rfl) ?_
              intro KR hKR
              have hS : wr.drew = wr.drew := rfl
              refine wpAnyHI_takeE (i := 0) (v := .pointer (some ⟨D, 0, none⟩)) (some 152) rfl rfl (by kernel_rfl) (by kernel_rfl) (by kernel_rfl) (by kernel_rfl) (by kernel_rfl) (fun _ _ _ h => h) hS (.inl ⟨by kernel_rfl, fun W' hS' => ?_⟩) ?_
              · subst hS'; go_simp
              refine wpAnyHI_takeE (i := 1) (v := .slice (some ⟨g3, 0, none⟩) n cc3) (some 153) rfl rfl (by kernel_rfl) (by kernel_rfl) (by kernel_rfl) (by kernel_rfl) (by kernel_rfl) (fun _ _ _ h => h) hS (.inl ⟨by kernel_rfl, fun W' hS' => ?_⟩) ?_
              · subst hS'; go_simp
              refine wpAnyHI_takeE (i := 2) (v := .int .i64 (j : Int)) (some 154) rfl rfl (by kernel_rfl) (by kernel_rfl) (by kernel_rfl) (by kernel_rfl) (by kernel_rfl) (fun _ _ _ h => h) hS (.inl ⟨by kernel_rfl, fun W' hS' => ?_⟩) ?_
              · subst hS'; go_simp
              refine wpAnyHI_takeE (i := 3) (v := .pointer (some ⟨w.heap.size, 0, none⟩)) (some 155) rfl rfl (by kernel_rfl) (by kernel_rfl) (by kernel_rfl) (by kernel_rfl) (by kernel_rfl) (fun _ _ _ h => h) hS (.inl ⟨by kernel_rfl, fun W' hS' => ?_⟩) ?_
              · subst hS'; go_simp
              refine wpAnyHI_takeE (i := 4) (v := .slice (some ⟨b1, o1, none⟩) n c) (some 156) rfl rfl (by kernel_rfl) (by kernel_rfl) (by kernel_rfl) (by kernel_rfl) (by kernel_rfl) (fun _ _ _ h => h) hS (.inl ⟨by kernel_rfl, fun W' hS' => ?_⟩) ?_
              · subst hS'; go_simp
              refine wpAnyHI_takeE (i := 5) (v := .int .i64 (j : Int)) (some 157) rfl rfl (by kernel_rfl) (by kernel_rfl) (by kernel_rfl) (by kernel_rfl) (by kernel_rfl) (fun _ _ _ h => h) hS (.inl ⟨by kernel_rfl, fun W' hS' => ?_⟩) ?_
              · subst hS'; go_simp
              refine wpAnyHI_takeE (i := 6) (v := .pointer (some ⟨b1, o1 + j, none⟩)) (some 158) rfl rfl (by kernel_rfl) (by kernel_rfl) (by kernel_rfl) (by kernel_rfl) (by kernel_rfl) (fun _ _ _ h => h) hS (.inl ⟨by kernel_rfl, fun W' hS' => ?_⟩) ?_
              · subst hS'; go_simp
              refine wpAnyHI_takeE (i := 7) (v := .int .i64 tj) (some 159) rfl rfl (by kernel_rfl) (by kernel_rfl) (by kernel_rfl) (by kernel_rfl) (by kernel_rfl) (fun _ _ _ h => h) hS (.inl ⟨by kernel_rfl, fun W' hS' => ?_⟩) ?_
              · subst hS'; go_simp
              refine wpAnyHI_takeE (i := 8) (v := .slice (some ⟨b5, o5, none⟩) k5 f5) (some 160) rfl rfl (by kernel_rfl) (by kernel_rfl) (by kernel_rfl) (by kernel_rfl) (by kernel_rfl) (fun _ _ _ h => h) hS (.inl ⟨by kernel_rfl, fun W' hS' => ?_⟩) ?_
              · subst hS'; go_simp
              refine wpAnyHI_takeE (i := 9) (v := .int .i64 (j : Int)) (some 161) rfl rfl (by kernel_rfl) (by kernel_rfl) (by kernel_rfl) (by kernel_rfl) (by kernel_rfl) (fun _ _ _ h => h) hS (.inl ⟨by kernel_rfl, fun W' hS' => ?_⟩) ?_
              · subst hS'; go_simp
              refine wpAnyHI_takeE (i := 10) (v := .slice (some ⟨b5, o5, none⟩) k5 f5) (some 162) rfl rfl (by kernel_rfl) (by kernel_rfl) (by kernel_rfl) (by kernel_rfl) (by kernel_rfl) (fun _ _ _ h => h) hS (.inl ⟨by kernel_rfl, fun W' hS' => ?_⟩) ?_
              · subst hS'; go_simp
              refine wpAnyHI_takeE (i := 11) (v := .int .i64 (k5 : Int)) (some 163) rfl rfl (by kernel_rfl) (by kernel_rfl) (by kernel_rfl) (by kernel_rfl) (by kernel_rfl) (fun _ _ _ h => h) hS (.inl ⟨by kernel_rfl, fun W' hS' => ?_⟩) ?_
              · subst hS'; go_simp
              refine wpAnyHI_takeE (i := 12) (v := .int .i64 (q5 : Int)) (some 164) rfl rfl (by kernel_rfl) (by kernel_rfl) (by kernel_rfl) (by kernel_rfl) (by kernel_rfl) (fun _ _ _ h => h) hS (.inl ⟨by kernel_rfl, fun W' hS' => ?_⟩) ?_
              · subst hS'; go_simp; omega
              refine wpAnyHI_takeE (i := 13) (v := .pointer (some ⟨b5, o5 + q5, none⟩)) (some 165) rfl rfl (by kernel_rfl) (by kernel_rfl) (by kernel_rfl) (by kernel_rfl) (by kernel_rfl) (fun _ _ _ h => h) hS (.inl ⟨by kernel_rfl, fun W' hS' => ?_⟩) ?_
              · subst hS'; go_simp
              refine wpAnyHI_takeE (i := 14) (v := .int .u8 mq) (some 166) rfl rfl (by kernel_rfl) (by kernel_rfl) (by kernel_rfl) (by kernel_rfl) (by kernel_rfl) (fun _ _ _ h => h) hS (.inl ⟨by kernel_rfl, fun W' hS' => ?_⟩) ?_
              · subst hS'; go_simp
              refine wpAnyHI_takeE (i := 15) (v := .int .i64 mq) (some 167) rfl rfl (by kernel_rfl) (by kernel_rfl) (by kernel_rfl) (by kernel_rfl) (by kernel_rfl) (fun _ _ _ h => h) hS (.inl ⟨by kernel_rfl, fun W' hS' => ?_⟩) ?_
              · subst hS'; go_simp
              refine wpAnyHI_takeE (i := 16) (v := .int .i64 r5) (some 168) rfl rfl (by kernel_rfl) (by kernel_rfl) (by kernel_rfl) (by kernel_rfl) (by kernel_rfl) (fun _ _ _ h => h) hS (.inl ⟨by kernel_rfl, fun W' hS' => ?_⟩) ?_
              · subst hS'; go_simp
              refine wpAnyHI_takeE (i := 17) (v := .int .i64 (tj + r5)) (some 169) rfl rfl (by kernel_rfl) (by kernel_rfl) (by kernel_rfl) (by kernel_rfl) (by kernel_rfl) (fun _ _ _ h => h) hS (.inl ⟨by kernel_rfl, fun W' hS' => ?_⟩) ?_
              · subst hS'; go_simp
              refine wpAnyHI_takeE (i := 18) (v := .int .i64 mv) (some 170) rfl rfl (by kernel_rfl) (by kernel_rfl) (by kernel_rfl) (by kernel_rfl) (by kernel_rfl) (fun _ _ _ h => h) hS (.inl ⟨by kernel_rfl, fun W' hS' => ?_⟩) ?_
              · subst hS'; go_simp
              refine wpAnyHI_takeE (i := 19) (v := .pointer (some ⟨g3, j, none⟩)) (some 171) rfl rfl (by kernel_rfl) (by kernel_rfl) (by kernel_rfl) (by kernel_rfl) (by kernel_rfl) (fun _ _ _ h => h) hS (.inl ⟨by kernel_rfl, fun W' hS' => ?_⟩) ?_
              · subst hS'; go_simp
              refine wpAnyHI_one (i := 20) rfl (by kernel_rfl) ?_
              intro K1 hK1
              go_simp
              refine hK1 _ _ ⟨fun h => absurd h (by decide), ?_⟩
              clear hK1 K1
              refine wpAnyHI_end (by kernel_rfl) ?_
              show KR _ _
              refine hKR _ _ ?_
              clear hKR KR
              have Hst := Lib.hid (And.intro hmvb (And.intro hwl yD))
              clear hc3 hf3 hcq5 hmv hmvb hS cDU cU hcTU
              go_wp2_with (fail)
              go_roundg (n - (j + 1))
              case measure => omega
              case rel =>
                refine ⟨j + 1, es, ws.set j mv, ⟨hj, rfl, rfl⟩, ⟨row_keep Hq.out.1 (Below.heap_setCell _ _ _ _ (show g1 ≠ g3 by omega)), ?_, (Below.heap_setCell _ _ _ _ (show D ≠ g3 by omega)).trans Hst.out.2.2⟩, ⟨Hq.out.2.2.1, fun i hi => ?_⟩, (Hq.out.2.2.2.2.setCell (by show wo.heap.size ≤ g3; omega) _).trans ⟨rfl, rfl, rfl, Nat.le_refl _, fun _ _ => rfl⟩⟩
                · rw [List.map_set]
                  exact row_set Hq.out.2.1 hj _
                · rw [List.getElem?_set]
                  by_cases hji : j = i
                  · subst hji
                    rw [if_pos rfl, if_pos (by have := Hst.out.2.1; omega), Option.getD_some, ← Hj.out.2]
                    exact Hst.out.1
                  · rw [if_neg hji]
                    exact Hq.out.2.2.2.1 i hi
            · have HyU := Lib.hid yD
              go_wp2_with (fail)
              go_roundg (n - (j + 1))
              case measure => omega
              case rel => exact ⟨j + 1, es, ws, ⟨hj, rfl, rfl⟩, ⟨Hq.out.1, Hq.out.2.1, HyU.out⟩, ⟨Hq.out.2.2.1, Hq.out.2.2.2.1⟩, Hq.out.2.2.2.2⟩
        · obtain rfl : n = j := by omega
          have hlt : ¬ (n : Int) < (n : Int) := by omega
          have hie := row_ints Hq.out.1 (by omega)
          have hiw := row_ints Hq.out.2.1 (by omega)
          have hwl := hiw.len
          have hel := hie.len
          obtain ⟨hq1, hq2⟩ := kept_less H3.out.1 Hd.out.1 (xs := es) (by omega) (fun i hi => Hq.out.2.2.1 i (by omega))
          have hdE := (either_safe hq1 hq2).1
          have He := Lib.hid (And.intro hq1 (And.intro hdE (And.intro hie hiw)))
          have hDq := yD.lt
          clear hq1 hq2 hdE hie hiw
          obtain ⟨wp, rfl⟩ : ∃ wp, wp = wr := ⟨_, rfl⟩
          go_wp2_with (fail)
          refine (Doom_any wp B1 wp.heap.size (some ⟨b1, o1, none⟩) (some ⟨g1, 0, none⟩) n c n cc1 ts es (h1.below hBq hB1) (by omega) He.out.2.2.1 (Nat.le_refl _) (fun _ => ends_all Hv.out.1) (fun h => rends_all Hv.out.1 (nice_stated h))).mono ?_
          intro e w11 hd11
          rw [He.out.2.1] at hd11
          obtain ⟨A11, k11, c11, rfl, -, hb11⟩ := hd11
          have hB11 := hBq.trans (hb11.mono hzq)
          have hz11 := hB11.size
          have y11 := bxBelow yD hb11 hDq
          have c11' := y11.cell
          have x11 := bxBelow xq hb11 xq.lt
          have cx11 := x11.cell
          have hzp := hb11.size
          have hiw11 := He.out.2.2.2.below hb11 (Nat.le_refl _)
          have H11 := Lib.hid (And.intro hiw11 (Hq.out.2.2.2.2.trans (hb11.mono hzoq)))
          clear hb11 hiw11 cD cq
          go_wp2_with (fail)
          refine (fine_any w11 wp.heap.size (some ⟨g3, 0, none⟩) n cc3 ws H11.out.1 hzp).mono ?_
          rintro e w12 ⟨rfl, hb12⟩
          have hB12 := hB11.trans (hb12.mono hz11)
          have hz12 := hB12.size
          have y12 := bxBelow y11 hb12 y11.lt
          have c12' := y12.cell
          have hzp12 := hb12.size
          by_cases hcw : checkHallF ws = 0
          case neg =>
            rw [decide_eq_false hcw]
            clear hcw
            go_wp2_with (fail)
            refine (Works_any _).mono ?_
            rintro e w13 ⟨rfl, hb⟩
            go_wp2_with (fail)
            go_ret
            exact ⟨rfl, hB12.trans (hb.mono hz12)⟩
          rw [decide_eq_true hcw]
          obtain ⟨hw1, hw2⟩ := kept_wide H3.out.1 Hd.out.1 hcw (by omega) (fun i hi => Hq.out.2.2.2.1 i (by omega))
          have hdW := (either_safe hw1 hw2).1
          have Hw := Lib.hid (And.intro (valid_of hcw) (And.intro hdW hb12))
          clear hcw hw1 hw2 hdW hb12 c11' cx11 y11 x11
          go_wp2_with (fail)
          refine (Doom_any w12 wp.heap.size w3.heap.size (some ⟨g3, 0, none⟩) (some ⟨g, 0, none⟩) n cc3 n n ws s0 (H11.out.1.below Hw.out.2.2 hzp) (by omega) (his.below (H11.out.2.trans (Hw.out.2.2.mono (by have := H11.out.2.size; omega))) hz36) (by have := H11.out.2.size; omega) (fun _ => ends_all Hw.out.1) (fun h => rends_all Hw.out.1 (nice_stated h))).mono ?_
          intro e w13 hd13
          rw [Hw.out.2.1] at hd13
          obtain ⟨A13, k13, c13, rfl, -, hb13⟩ := hd13
          have hB13 := hB12.trans (hb13.mono hz12)
          clear hb13 c12' y12
          go_wp2_with (fail)
          refine (Works_any _).mono ?_
          rintro e w14 ⟨rfl, hb⟩
          go_wp2_with (fail)
          go_ret
          exact ⟨rfl, hB13.trans (hb.mono hB13.size)⟩
end Go.Proofs.YthpcjhncnnbhoaaGreat
