/- Parts of a proof: EH. -/
import Derived.Test.YtdpehmdmgijcmaaGreatS35

/- References: Shortest. -/
namespace Go.Proofs.YtdpehmdmgijcmaaGreat
open Go.RowKit Go.Shelf

attribute [local go_sem] Oper.semAt_some

theorem far_cell {W : World} {g j : Nat} {far : List Int} (h : W.heap[g]? = some (.cells (far.map (Value.int .i64)).toArray 3 (0, 0))) (hj : j < far.length) : W.cell? ⟨g, j, none⟩ = some (.int .i64 (farAt far j)) := by
  unfold farAt
  simp [World.cell?, h, hj]
theorem far_frozen {W : World} {g j : Nat} {far : List Int} (h : W.heap[g]? = some (.cells (far.map (Value.int .i64)).toArray 3 (0, 0))) : W.frozen? ⟨g, j, none⟩ = false := by simp [World.frozen?, h]
def nums (wait : List Nat) : List Int := wait.map fun j : Nat => (j : Int)
theorem nums_len (wait : List Nat) : (nums wait).length = wait.length := by simp [nums]
theorem nums_at {wait : List Nat} {i b : Nat} (h : wait[i]? = some b) : (nums wait)[i]?.getD 0 = (b : Int) := by simp [nums, h]
theorem nums_snoc (wait : List Nat) (j : Nat) : nums (wait ++ [j]) = nums wait ++ [(j : Int)] := by simp [nums]
theorem row_kept {W W' : World} {base g cap n : Nat} {e : TypeId} {xs : List Value} (h : W.ownsRow base e 1 (.slice (some ⟨g, 0, none⟩) n cap) n xs) (hh : W'.heap[g]? = W.heap[g]?) : W'.ownsRow base e 1 (.slice (some ⟨g, 0, none⟩) n cap) n xs := by
  refine ⟨h.1, ?_⟩
  rcases h.2 with ⟨he, -⟩ | ⟨g', cap', cur, he, hb, hg, hr⟩
  · cases he
  · cases he
    exact .inr ⟨g, cap, cur, rfl, hb, by rw [hh]; exact hg, hr⟩
theorem made_zero {W : World} {N : Nat} (hN : N ≤ 1000) : (Instr.makeSlice 22 (.int .i64 (N : Int)) (.int .i64 (N : Int))).run Tryz.prog W = .ok (.slice (some ⟨W.heap.size, 0, none⟩) N N) (W.alloc (.cells ((List.replicate N (0 : Int)).map (Value.int .i64)).toArray 3)) := by
  obtain ⟨i0, hi, hz0, hz1, hz2⟩ := info_parts infoInt
  have h := run_makeSlice (P := Tryz.prog) (w := W) 22 3 i0 (.int .i64 0) Tryz.underlying22 hi hz0 .i64 .i64 N N (by omega) (by omega) (by rw [hz1]; simp; omega) (by rw [hz2]; omega) (by omega)
  have e : madeCells (Value.int .i64 0).cells ((N : Int).toNat * i0.size) = ((List.replicate N (0 : Int)).map (Value.int .i64)).toArray := by
    rw [hz1]
    unfold madeCells
    apply Array.ext
    · simp
    · intro i h1 h2
      simp [Value.cells, Nat.mod_one]
  rw [e] at h
  exact h
theorem best_exit {ts : List Int} {k i : Nat} {far : List Int} {wait : List Nat} {best : Int} (hv : Valid ts) (hB : Best ts k best) (h : SAny ts k i far wait) (hx : wait.length ≤ i ∨ farAt far k ≠ 0) : (farAt far k = 0 ∧ Best ts (k + 1) best) ∨ (0 < farAt far k ∧ farAt far k ≤ 1000 ∧ Best ts (k + 1) (min best (farAt far k))) := by
  have hN := states_few hv
  rcases h with h | ⟨-, h, -⟩
  · rcases hx with hx | hx
    · exact .inl ⟨h.fs, hB.skip (h.none hv hx)⟩
    · exact absurd h.fs hx
  · exact .inr ⟨h.2.2.1, by have := h.2.2.2; omega, hB.found h⟩
theorem sany_facts {ts : List Int} {k i : Nat} {far : List Int} {wait : List Nat} (hv : Valid ts) (_hk : k < (statesL ts).length) (h : SAny ts k i far wait) : far.length = (statesL ts).length ∧ (farAt far k = 0 → SInv ts k i far wait) ∧ wait.length ≤ 2000 := by
  have hN := states_few hv
  rcases h with h | ⟨h1, h2, h3⟩
  · exact ⟨h.flen, fun _ => h, by have := h.toSMid.few; omega⟩
  · exact ⟨h1, fun e => by have := h2.2.2.1; omega, h3⟩

set_option maxRecDepth 100000 in
set_option maxHeartbeats 32000000 in
theorem Shortest_any (w : World) (B1 : Nat) (A1 : Option Addr) (n c : Nat) (ts : List Int) (h1 : IntsAt w B1 A1 n ts) (hB1 : B1 ≤ w.heap.size) (hv : Valid ts) :
    Calls Tryz.prog 18 #[.agg #[.slice A1 n c]] w fun e w' => ∃ best, e = .returned (.int .i64 best) ∧ Best ts (statesL ts).length best ∧ Below w.heap.size w w' := by
  obtain ⟨i0, hi, hz0, hz1, hz2⟩ := info_parts infoInt
  have hb0 : Below w.heap.size w (w.alloc (.cells #[.slice A1 n c] 24)) := (Below.refl _ w).alloc (Nat.le_refl _) _
  have x0 := Boxed.new w 24 (.slice A1 n c)
  have c0 := x0.cell
  have hn1 : 1 ≤ n ∧ n ≤ 5 := by have := hv.h1; have := hv.h5; have := h1.len; omega
  obtain ⟨N, hNe⟩ : ∃ N, N = (statesL ts).length := ⟨_, rfl⟩
  have hN := states_few hv
  have hN0 := rows_pos hv
  have hbz := best_zero ts
  have Hv := Lib.hid (And.intro hv (And.intro hNe (And.intro hbz h1.len)))
  rw [← hNe] at hN hN0
  clear hv hbz
  have hmks := fun W : World => made_zero (W := W) hN
  obtain ⟨mc, hmc⟩ : ∃ mc, mc = ((List.replicate N (0 : Int)).map (Value.int .i64)).toArray := ⟨_, rfl⟩
  rw [← hmc] at hmks
  have Hmc := Lib.hid hmc
  clear hmc
  go_enter Tryz.func18, Tryz.ntmps18
  go_wp2_with (fail)
  refine (States_any _ B1 A1 n c ts (h1.below hb0 hB1) (by have := hb0.size; omega) Hv.out.1).mono ?_
  rintro e w2 ⟨rfl, hb2⟩
  rw [← hNe]
  clear hNe
  have hB2 := hb0.trans (hb2.mono hb0.size)
  have x2 := bxBelow x0 hb2 x0.lt
  clear hb0 hb2 x0 c0
  have c2 := x2.cell
  have hwN : IntKind.i64.wrap ((N : Int) + 1) = (N : Int) + 1 := by rw [IntKind.wrap_i64]; omega
  go_wp2_with (fail)
  go_loopg [4, 5] N (fun g v4 v5 wr => ∃ (k : Nat) (best : Int), (k ≤ N ∧ g = N - k ∧ v5 = .int .i64 (k : Int) ∧ v4 = .int .i64 best) ∧ Best ts k best ∧ Boxed wr w.heap.size 24 (.slice A1 n c) ∧ Below w.heap.size w wr)
  case atStart => exact ⟨0, (N : Int) + 1, ⟨Nat.zero_le _, rfl, rfl, rfl⟩, by rw [Hv.out.2.1]; exact Hv.out.2.2.1, x2, hB2⟩
  case round =>
    clear x2 c2 hB2
    obtain ⟨k, best, ⟨hkN, rfl, rfl, rfl⟩, hbest, hx, hB⟩ := hrel
    have cx := hx.cell
    have Hb := Lib.hid hbest
    clear hbest
    by_cases hk : k < N
    case neg =>
      obtain rfl : k = N := by omega
      have hnk : ¬ (k : Int) < (k : Int) := by omega
      go_wp2_with (fail)
      refine bodyPost_ret (results_tmp rfl _ _ _) rfl ?_
      exact ⟨best, rfl, by rw [← Hv.out.2.1]; exact Hb.out, hB⟩
    have hwk : IntKind.i64.wrap ((k : Int) + 1) = (k : Int) + 1 := by rw [IntKind.wrap_i64]; omega
    obtain ⟨wo, rfl⟩ : ∃ wo, wo = wr := ⟨_, rfl⟩
    obtain ⟨gf, hgf⟩ : ∃ gf, gf = wo.heap.size := ⟨_, rfl⟩
    go_wp2_with (fail)
    obtain ⟨W1, hW1⟩ : ∃ W1, W1 = (wo.alloc (.cells mc 3)).alloc (.cells #[.int .i64 (k : Int)] 3) := ⟨_, rfl⟩
    have hfar0 : W1.heap[gf]? = some (.cells ((List.replicate N (0 : Int)).map (Value.int .i64)).toArray 3 (0, 0)) := by
      rw [hW1, hgf, Below.heap_alloc _ _ _ (by simp), World.alloc_heap_new, Hmc.out]
    have hwait0 : W1.ownsRow (gf + 1) 3 1 (.slice (some ⟨gf + 1, 0, none⟩) 1 1) 1 ((nums [k]).map (.int .i64)) := by
      have h := World.alloc_heap_new (wo.alloc (.cells mc 3)) (.cells #[.int .i64 (k : Int)] 3)
      rw [World.size_alloc, ← hgf, ← hW1] at h
      exact ⟨by simp [nums], .inr ⟨gf + 1, 1, _, rfl, Nat.le_refl _, h, Nat.le_refl _, by simp [maxLen], by simp, by simp [nums]⟩⟩
    have hB1' : Below w.heap.size w W1 := by rw [hW1]; exact (hB.alloc hB.size _).alloc (by have := hB.size; simp; omega) _
    have hx1 : Boxed W1 w.heap.size 24 (.slice A1 n c) := by rw [hW1]; exact (hx.alloc _).alloc _
    have hgw : w.heap.size < gf := by rw [hgf]; exact hx.lt
    have hgl : gf + 1 < W1.heap.size := by rw [hW1, hgf]; simp
    have hsi := sinv_zero (ts := ts) (start := k) (by rw [← Hv.out.2.1]; exact hk)
    have H1 := Lib.hid (And.intro hfar0 (And.intro hwait0 (And.intro hB1' (And.intro hx1 hsi))))
    rw [← hW1]
    first | rw [← hgf] | skip
    clear hfar0 hwait0 hB1' hx1 hsi hW1 hgf hx hB cx hmks
    go_loopg [7, 8] (N + 1) (fun g v7 v8 wr => ∃ (i : Nat) (far : List Int) (wait : List Nat), (i ≤ N ∧ g = N + 1 - i ∧ v8 = .int .i64 (i : Int)) ∧ SAny ts k i far wait ∧ (wr.heap[gf]? = some (.cells (far.map (Value.int .i64)).toArray 3 (0, 0)) ∧ wr.ownsRow (gf + 1) 3 1 v7 wait.length ((nums wait).map (.int .i64))) ∧ (Boxed wr w.heap.size 24 (.slice A1 n c) ∧ Below w.heap.size w wr))
    case atStart => exact ⟨0, _, [k], ⟨Nat.zero_le _, rfl, rfl⟩, .inl (by rw [Hv.out.2.1]; exact H1.out.2.2.2.2), ⟨H1.out.1, H1.out.2.1⟩, H1.out.2.2.2.1, H1.out.2.2.1⟩
    case round =>
      obtain ⟨i, far, wait, ⟨hiN, rfl, rfl⟩, hS, ⟨hfar, hwait⟩, hx, hB⟩ := hrel
      obtain ⟨hfl, hS0, hwl⟩ := sany_facts Hv.out.1 (by rw [← Hv.out.2.1]; exact hk) hS
      have cx := hx.cell
      have hz := hx.lt
      have hzw := hB.size
      rw [← Hv.out.2.1] at hfl
      have hfk := far_cell hfar (j := k) (by omega)
      obtain ⟨fk, hfke⟩ : ∃ fk, fk = farAt far k := ⟨_, rfl⟩
      rw [← hfke] at hfk
      have hext := fun hh => best_exit (i := i) (wait := wait) (far := far) Hv.out.1 Hb.out hS hh
      rw [← hfke] at hext hS0
      have HS := Lib.hid (And.intro hS0 (And.intro hext hfke))
      clear hS hS0 hext hfke
      obtain ⟨wq, rfl⟩ : ∃ wq, wq = wr := ⟨_, rfl⟩
      obtain ⟨A7, c7, rfl, hc7⟩ := ownsRow_slice hwait
      by_cases hil : i < wait.length
      case neg =>
        have hee := HS.out.2.1 (.inl (by omega))
        have hil2 : ¬ (i : Int) < (wait.length : Int) := by omega
        rcases hee with ⟨he0, hbn⟩ | ⟨he0, he1, hbn⟩
        · have Hbn := Lib.hid hbn
          clear hbn
          subst he0
          go_wp2_with (fail)
          go_roundg (N - (k + 1))
          case measure => omega
          case rel => exact ⟨k + 1, best, ⟨by omega, rfl, rfl, rfl⟩, Hbn.out, hx, hB⟩
        · have hf0 : ¬ fk = 0 := by omega
          by_cases hmn : best ≤ fk
          · have Hbn := Lib.hid (show Best ts (k + 1) best by rw [Int.min_eq_left hmn] at hbn; exact hbn)
            clear hbn
            go_wp2_with (fail)
            go_roundg (N - (k + 1))
            case measure => omega
            case rel => exact ⟨k + 1, best, ⟨by omega, rfl, rfl, rfl⟩, Hbn.out, hx, hB⟩
          · have Hbn := Lib.hid (show Best ts (k + 1) fk by rw [Int.min_eq_right (by omega)] at hbn; exact hbn)
            clear hbn
            have hmn2 : fk ≤ best := by omega
            go_wp2_with (fail)
            go_roundg (N - (k + 1))
            case measure => omega
            case rel => exact ⟨k + 1, fk, ⟨by omega, rfl, rfl, rfl⟩, Hbn.out, hx, hB⟩
      have hil2 : (i : Int) < (wait.length : Int) := by omega
      by_cases hfk0 : fk = 0
      case neg =>
        have hee := HS.out.2.1 (.inr hfk0)
        skip
        rcases hee with ⟨he0, hbn⟩ | ⟨he0, he1, hbn⟩
        · exact absurd he0 hfk0
        · have hf0 : ¬ fk = 0 := by omega
          by_cases hmn : best ≤ fk
          · have Hbn := Lib.hid (show Best ts (k + 1) best by rw [Int.min_eq_left hmn] at hbn; exact hbn)
            clear hbn
            go_wp2_with (fail)
            go_roundg (N - (k + 1))
            case measure => omega
            case rel => exact ⟨k + 1, best, ⟨by omega, rfl, rfl, rfl⟩, Hbn.out, hx, hB⟩
          · have Hbn := Lib.hid (show Best ts (k + 1) fk by rw [Int.min_eq_right (by omega)] at hbn; exact hbn)
            clear hbn
            have hmn2 : fk ≤ best := by omega
            go_wp2_with (fail)
            go_roundg (N - (k + 1))
            case measure => omega
            case rel => exact ⟨k + 1, fk, ⟨by omega, rfl, rfl, rfl⟩, Hbn.out, hx, hB⟩
      have hSI := HS.out.1 hfk0
      obtain ⟨g7, c7', e7⟩ := ownsRow_pos hwait (by omega)
      cases e7
      have hg7 := hwait.lt g7 rfl
      obtain ⟨b, hb⟩ : ∃ b, wait[i]? = some b := ⟨_, List.getElem?_eq_getElem hil⟩
      have hbN := hSI.wlt b (List.mem_of_getElem? hb)
      obtain ⟨xs, hxs⟩ : ∃ xs, (statesL ts)[b]? = some xs := ⟨_, List.getElem?_eq_getElem hbN⟩
      have hpb := plI_get hxs
      have hxm : xs ∈ statesL ts := List.mem_of_getElem? hxs
      have hwcell := row_cell (xs := nums wait) hwait (i := i) (by omega)
      rw [nums_at hb] at hwcell
      have Hq := Lib.hid (And.intro (hSI.begin hb) (And.intro hxs (And.intro hpb (And.intro hxm (And.intro hb hbN)))))
      clear hSI hb hbN hxs hpb hxm
      have hwi : IntKind.i64.wrap ((i : Int) + 1) = (i : Int) + 1 := by rw [IntKind.wrap_i64]; omega
      subst hfk0
      go_wp2_with (fail)
      have hBd : Below w.heap.size w wq.drew := hB.trans ((below_drew wq).mono hzw)
      refine region_held_wp 1 (fun W' => Boxed W' w.heap.size 24 (.slice A1 n c) ∧ W'.cell? ⟨g7, i, none⟩ = some (.int .i64 (b : Int))) (fun j => decide (j = 0 ∨ j = 1 ∨ j = 5 ∨ j = 6 ∨ j = 7 ∨ j = 8)) (by kernel_rfl) ?_
      intro KR hKR
      have hS : Boxed wq.drew w.heap.size 24 (.slice A1 n c) ∧ wq.drew.cell? ⟨g7, i, none⟩ = some (.int .i64 (b : Int)) := ⟨bxBelow hx (below_drew _) hx.lt, hwcell⟩
      have hcl : ∀ W' W'', Boxed W' w.heap.size 24 (.slice A1 n c) ∧ W'.cell? ⟨g7, i, none⟩ = some (.int .i64 (b : Int)) → wq.heap.size ≤ W'.heap.size → Below W'.heap.size W' W'' → Boxed W'' w.heap.size 24 (.slice A1 n c) ∧ W''.cell? ⟨g7, i, none⟩ = some (.int .i64 (b : Int)) := fun W' W'' hh hs hb => ⟨bxBelow hh.1 hb hh.1.lt, (hb.cell (p := ⟨g7, i, none⟩) (show g7 < W'.heap.size by omega)).trans hh.2⟩
      refine wpAnyHI_takeW (i := 2) (v := .slice (some ⟨g7, 0, none⟩) wait.length c7) (some 42) rfl rfl (by kernel_rfl) (by kernel_rfl) (by kernel_rfl) (by kernel_rfl) (fun _ _ _ h => h) (.inl ⟨by kernel_rfl, fun W' hS' => ?_⟩) ?_
      · go_simp
      refine wpAnyHI_takeW (i := 3) (v := .int .i64 (i : Int)) (some 43) rfl rfl (by kernel_rfl) (by kernel_rfl) (by kernel_rfl) (by kernel_rfl) (fun _ _ _ h => h) (.inl ⟨by kernel_rfl, fun W' hS' => ?_⟩) ?_
      · go_simp
      refine wpAnyHI_takeW (i := 4) (v := .pointer (some ⟨g7, i, none⟩)) (some 44) rfl rfl (by kernel_rfl) (by kernel_rfl) (by kernel_rfl) (by kernel_rfl) (fun _ _ _ h => h) (.inl ⟨by kernel_rfl, fun W' hS' => ?_⟩) ?_
      · go_simp <;> omega
      refine wpAnyHI_takeE (i := 5) (v := .int .i64 (b : Int)) (some 45) rfl rfl (by kernel_rfl) (by kernel_rfl) (by kernel_rfl) (by kernel_rfl) (by kernel_rfl) (fun _ _ _ h => h) hS (.inl ⟨by kernel_rfl, fun W' hS' => ?_⟩) ?_
      · have q := hS'.2; go_simp
      refine wpAnyHI_takeE (i := 0) (v := .agg #[.slice A1 n c]) (some 40) rfl rfl (by kernel_rfl) (by kernel_rfl) (by kernel_rfl) (by kernel_rfl) (by kernel_rfl) (fun _ _ _ h => h) hS (.inl ⟨by kernel_rfl, fun W' hS' => ?_⟩) ?_
      · have q := hS'.1.cell; go_simp
      refine wpAnyHI_takeE (i := 1) (v := .agg #[.slice A1 n c]) (some 41) rfl rfl (by kernel_rfl) (by kernel_rfl) (by kernel_rfl) (by kernel_rfl) (by kernel_rfl) (fun _ _ _ h => h) hS (.inl ⟨by kernel_rfl, fun W' hS' => ?_⟩) ?_
      · have q := hS'.1.cell; go_simp
      refine wpAnyHI_takeE (i := 7) (v := .agg #[.slice A1 n c]) (some 47) rfl rfl (by kernel_rfl) (by kernel_rfl) (by kernel_rfl) (by kernel_rfl) (by kernel_rfl) (fun _ _ _ h => h) hS (.inl ⟨by kernel_rfl, fun W' hS' => ?_⟩) ?_
      · have q := hS'.1.cell; go_simp
      refine wpAnyHI_one (i := 6) rfl (by kernel_rfl) ?_
      intro K1 hK1
      go_simp
      refine ⟨trivial, (callsIn_wide.2 (rState_any _ B1 A1 n c b ts xs (h1.below hBd hB1) (by have := hBd.size; omega) Hv.out.1 Hq.out.2.1)).mono ?_⟩
      rintro e w3 ⟨g3, hg3, rfl, hr3, hb3⟩
      have hb33 : Below wq.heap.size wq w3 := (below_drew wq).trans hb3
      have hB3 := hB.trans (hb33.mono hzw)
      have hS3 := hcl _ _ hS (Nat.le_refl _) hb3
      have hi3 := ints_laid hr3 ((states_length xs Hq.out.2.2.2.1).trans Hv.out.2.2.2) (by omega)
      have hz3 := hb33.size
      refine hK1 _ _ ⟨fun _ => hS3, ?_⟩
      clear hK1 K1 hr3 hS hBd hb3
      refine wpAnyHI_one (i := 8) rfl (by kernel_rfl) ?_
      intro K1 hK1
      go_simp
      refine ⟨trivial, (callsIn_wide.2 (All_any _ A1 n c (by omega))).mono ?_⟩
      rintro e wa ⟨va, rfl, hra, hba⟩
      obtain ⟨ga, ca, rfl⟩ := ownsRow_pos hra (by omega)
      have hia := row_ints hra (by omega)
      have hbaa := hb33.trans (hba.mono hz3)
      have hBa := hB.trans (hbaa.mono hzw)
      have hSa := hcl _ _ hS3 hz3 hba
      have hi3a := hi3.below hba (Nat.le_refl _)
      have hz3a := hba.size
      refine hK1 _ _ ⟨fun _ => hSa, ?_⟩
      clear hK1 K1 hra hS3 hi3 hba
      refine wpAnyHI_one (i := 9) rfl (by kernel_rfl) ?_
      intro K1 hK1
      go_simp
      refine ⟨trivial, (callsIn_wide.2 (Pulled_any _ B1 w3.heap.size wa.heap.size A1 (some ⟨g3, 0, none⟩) _ n c n n ca ts xs (allL n) (h1.below hBa hB1) (by have := hBa.size; omega) hi3a hz3a hia (Nat.le_refl _) (by omega) (by omega) (by omega) (fun p hp => allL_mem.1 hp) (state_bounds Hv.out.1 Hq.out.2.2.2.1))).mono ?_⟩
      intro e wp hpp
      obtain ⟨v4, ok, rfl, hbp, hcase⟩ := pulled_form hpp
      have hbqp := hbaa.trans (hbp.mono hbaa.size)
      have hBp := hB.trans (hbqp.mono hzw)
      have xp := bxBelow hx hbqp hx.lt
      have hzap := hbaa.size
      refine hK1 _ _ ⟨fun h => absurd h (by decide), ?_⟩
      clear hK1 K1 hia hi3a hSa hpp hbp hcl
      refine wpAnyHI_takeW (i := 10) (v := .tuple #[v4, .bool ok]) (some 39) rfl rfl (by kernel_rfl) (by kernel_rfl) (by kernel_rfl) (by kernel_rfl) (fun _ _ _ h => h) (.inl ⟨by kernel_rfl, fun W' hS' => ?_⟩) ?_
      · go_simp
      refine wpAnyHI_takeW (i := 11) (v := v4) (some 50) rfl rfl (by kernel_rfl) (by kernel_rfl) (by kernel_rfl) (by kernel_rfl) (fun _ _ _ h => h) (.inl ⟨by kernel_rfl, fun W' hS' => ?_⟩) ?_
      · go_simp
      refine wpAnyHI_takeW (i := 12) (v := .bool ok) (some 51) rfl rfl (by kernel_rfl) (by kernel_rfl) (by kernel_rfl) (by kernel_rfl) (fun _ _ _ h => h) (.inl ⟨by kernel_rfl, fun W' hS' => ?_⟩) ?_
      · go_simp
      refine wpAnyHI_takeW (i := 13) (v := v4) (some 9) rfl rfl (by kernel_rfl) (by kernel_rfl) (by kernel_rfl) (by kernel_rfl) (fun _ _ _ h => h) (.inl ⟨by kernel_rfl, fun W' hS' => ?_⟩) ?_
      · go_simp
      refine wpAnyHI_takeW (i := 14) (v := .bool ok) (some 10) rfl rfl (by kernel_rfl) (by kernel_rfl) (by kernel_rfl) (by kernel_rfl) (fun _ _ _ h => h) (.inl ⟨by kernel_rfl, fun W' hS' => ?_⟩) ?_
      · go_simp
      refine wpAnyHI_end (by kernel_rfl) ?_
      show KR _ _
      refine hKR _ _ ?_
      clear hKR KR
      have cp := xp.cell
      have hzp := hBp.size
      have hfarp : wp.heap[gf]? = some (.cells (far.map (Value.int .i64)).toArray 3 (0, 0)) := (hbqp.block gf (by omega)).trans hfar
      have hwaitp := row_below hwait hbqp
      have Hw := Lib.hid (And.intro hfarp (And.intro hwaitp (And.intro xp hBp)))
      have hzqp := hbqp.size
      clear hfarp hwaitp xp hBp hfar hwait hx hB cx hfk hwcell hbqp hbaa hBa hB3 hb33
      rcases hcase with ⟨rfl, ys, hys, hr4⟩ | ⟨rfl, hys⟩
      case inr =>
        have hnone : visitsF ts (plI ts b) = [] := by
          have hr := rvisit Hv.out.1 (nice_plOf Hv.out.1 Hq.out.2.2.2.1).1
          rw [(nice_plOf Hv.out.1 Hq.out.2.2.2.1).2, Hv.out.2.2.2, hys] at hr
          rw [Hq.out.2.2.1]
          rcases hr with ⟨_, e, -⟩ | ⟨-, e⟩
          · cases e
          · exact e
        have hnx : SAny ts k (i + 1) far wait := .inl (Hq.out.1.next fun z hz => by rw [hnone] at hz; cases hz)
        have Hnx := Lib.hid hnx
        clear hnx hnone hys
        go_wp2_with (fail)
        go_loopg [7, 11] 0 (fun g v7 v11 wr => (v7 = .slice (some ⟨g7, 0, none⟩) wait.length c7 ∧ v11 = .int .i64 0) ∧ wr = wp)
        case atStart => exact ⟨⟨rfl, rfl⟩, rfl⟩
        case round =>
          obtain ⟨⟨rfl, rfl⟩, rfl⟩ := hrel
          go_wp2_with (fail)
          go_roundg (N + 1 - (i + 1))
          case measure => omega
          case rel =>
            have hfew := Hq.out.1.toSMid.few
            exact ⟨i + 1, far, wait, ⟨by have := Hv.out.2.1; omega, rfl, rfl⟩, Hnx.out, ⟨Hw.out.1, Hw.out.2.1⟩, Hw.out.2.2.1, Hw.out.2.2.2⟩
      obtain ⟨g4, c4, rfl⟩ := ownsRow_pos hr4 (by omega)
      have hg4 := hr4.lt g4 rfl
      have hi4 := row_ints hr4 (by omega)
      have hys' : rpullF ts xs (allL ts.length) = some ys := by rw [Hv.out.2.2.2]; exact hys
      have Hy := Lib.hid (And.intro hys' hi4)
      clear hys' hi4 hys hr4
      go_wp2_with (fail)
      go_loopg [7, 11] n (fun g v7 v11 wr => ∃ (j : Nat) (far : List Int) (wait : List Nat), (j ≤ n ∧ g = n - j ∧ v11 = .int .i64 (j : Int)) ∧ WAny ts k i b j far wait ∧ (wr.heap[gf]? = some (.cells (far.map (Value.int .i64)).toArray 3 (0, 0)) ∧ wr.ownsRow (gf + 1) 3 1 v7 wait.length ((nums wait).map (.int .i64)) ∧ (∀ r, v7.ownBlock = some r → r ≠ g4) ∧ IntsAt wr wr.heap.size (some ⟨g4, 0, none⟩) n ys) ∧ (Boxed wr w.heap.size 24 (.slice A1 n c) ∧ Below w.heap.size w wr))
      case atStart => exact ⟨0, far, wait, ⟨Nat.zero_le _, rfl, rfl⟩, .inl Hq.out.1, ⟨Hw.out.1, Hw.out.2.1, fun r hr => by have : g7 = r := (by simpa [Value.ownBlock] using hr); omega, Hy.out.2⟩, Hw.out.2.2.1, Hw.out.2.2.2⟩
      case round =>
        clear cp hzp hzqp
        obtain ⟨fewi⟩ : Nonempty (i + 1 ≤ N) := ⟨by have := Hq.out.1.toSMid.few; have := Hv.out.2.1; omega⟩
        obtain ⟨j, far, wait, ⟨hjn, rfl, rfl⟩, hW, ⟨hfar, hwait, hne4, hiy⟩, hx, hB⟩ := hrel
        have cx := hx.cell
        have hz := hx.lt
        have hzw := hB.size
        obtain ⟨hfl, hwb, hfb, hwl'⟩ := hW.facts Hv.out.1 (by omega)
        rw [← Hv.out.2.1] at hfl
        have hil' := (List.getElem?_eq_some_iff.1 hwb).1
        obtain ⟨A7, c7'', rfl, hc7''⟩ := ownsRow_slice hwait
        obtain ⟨g8, c8', e8⟩ := ownsRow_pos hwait (by omega)
        cases e8
        have hg8 := hwait.lt g8 rfl
        have hg84 := hne4 g8 rfl
        by_cases hj : j < n
        case neg =>
          obtain rfl : j = n := by omega
          have hnj : ¬ (j : Int) < (j : Int) := by omega
          have hnx := hW.next Hv.out.1 (by omega) fun z hz => by have := visit_fst hz; rw [Hv.out.2.2.2] at this; exact this
          have Hnx := Lib.hid hnx
          clear hnx hW
          go_wp2_with (fail)
          go_roundg (N + 1 - (i + 1))
          case measure => omega
          case rel => exact ⟨i + 1, far, wait, ⟨fewi, rfl, rfl⟩, Hnx.out, ⟨hfar, hwait⟩, hx, hB⟩
        obtain ⟨y, hyv, -, -, hst, hpl⟩ := visited_state Hv.out.1 Hq.out.2.2.2.1 Hy.out.1 (i := j) (by rw [Hv.out.2.2.2]; exact hj)
        obtain ⟨to, hto, hqi, hqs⟩ := idx_mem Hv.out.1.nonneg hst
        have hzv : (j, plI ts to) ∈ visitsF ts (plI ts b) := by rw [plI_get hqs, hpl, Hq.out.2.2.1]; exact hyv
        have htoN : to < N := by rw [Hv.out.2.1]; exact hto
        have Hst := Lib.hid (And.intro hst (And.intro hqi (And.intro hzv (And.intro hto hW))))
        have Hm := Lib.hid (And.intro hfar (And.intro hwait (And.intro hx (And.intro hB hiy))))
        clear hyv hst hpl hqi hqs hzv hto hW hfar hwait hiy hne4
        have hwj : IntKind.i64.wrap ((j : Int) + 1) = (j : Int) + 1 := by rw [IntKind.wrap_i64]; omega
        have hxl := hx
        go_wp2_with (fail)
        have hcellH : ∀ W', Boxed W' w.heap.size 24 (.slice A1 n c) → W'.cell? ⟨w.heap.size, 0, none⟩ = some (.slice A1 n c) := fun W' h => h.cell
        refine region_held_wp 1 (fun W' => Boxed W' w.heap.size 24 (.slice A1 n c)) (fun j => decide (j = 3)) (by kernel_rfl) ?_
        intro KR hKR
        have hS : Boxed wr.drew w.heap.size 24 (.slice A1 n c) := bxBelow hxl (below_drew _) hxl.lt
        refine wpAnyHI_takeW (i := 1) (v := .slice (some ⟨g4, 0, none⟩) n c4) (some 63) rfl rfl (by kernel_rfl) (by kernel_rfl) (by kernel_rfl) (by kernel_rfl) (fun _ _ _ h => h) (.inl ⟨by kernel_rfl, fun W' hS' => ?_⟩) ?_
        · go_simp
        refine wpAnyHI_takeW (i := 2) (v := .int .i64 (j : Int)) (some 64) rfl rfl (by kernel_rfl) (by kernel_rfl) (by kernel_rfl) (by kernel_rfl) (fun _ _ _ h => h) (.inl ⟨by kernel_rfl, fun W' hS' => ?_⟩) ?_
        · go_simp
        refine wpAnyHI_takeE (i := 0) (v := .agg #[.slice A1 n c]) (some 62) rfl rfl (by kernel_rfl) (by kernel_rfl) (by kernel_rfl) (by kernel_rfl) (by kernel_rfl) (fun _ _ _ h => h) hS (.inl ⟨by kernel_rfl, fun W' hS' => ?_⟩) ?_
        · have q := hcellH W' hS'; go_simp
        refine wpAnyHI_one (i := 3) rfl (by kernel_rfl) ?_
        intro K1 hK1
        go_simp
        refine ⟨trivial, (callsIn_wide.2 (Visited_any _ wr.heap.size (some ⟨g4, 0, none⟩) n c4 ys (Hm.out.2.2.2.2.below (below_drew wr) (Nat.le_refl _)) (Nat.le_refl _) j hj (by omega))).mono ?_⟩
        rintro e w5 ⟨v5, rfl, hr5, hb5⟩
        obtain ⟨g5, c5, rfl⟩ := ownsRow_pos hr5 (by omega)
        have hi5 := row_ints hr5 (by omega)
        have hb55 : Below wr.heap.size wr w5 := (below_drew wr).trans hb5
        have hB5 := hB.trans (hb55.mono hzw)
        have hS5 := bxBelow hxl hb55 hxl.lt
        refine hK1 _ _ ⟨fun _ => hS5, ?_⟩
        clear hK1 K1 hr5 hS hb5
        refine wpAnyHI_one (i := 4) rfl (by kernel_rfl) ?_
        intro K1 hK1
        go_simp
        refine ⟨trivial, (callsIn_wide.2 (rindex_any _ B1 w5.heap.size A1 (some ⟨g5, 0, none⟩) n c c5 ts (ys.set j 0) (h1.below hB5 hB1) (by have := hB5.size; omega) hi5 (Nat.le_refl _) Hv.out.1 Hst.out.1)).mono ?_⟩
        rintro e w6 ⟨rfl, hb6⟩
        rw [Hst.out.2.1]
        have hb66 : Below wr.heap.size wr w6 := hb55.trans (hb6.mono hb55.size)
        refine hK1 _ _ ⟨fun h => absurd h (by decide), ?_⟩
        clear hK1 K1 hi5 hS5 hb6 hb55 hB5
        refine wpAnyHI_takeW (i := 5) (v := .int .i64 (to : Int)) (some 12) rfl rfl (by kernel_rfl) (by kernel_rfl) (by kernel_rfl) (by kernel_rfl) (fun _ _ _ h => h) (.inl ⟨by kernel_rfl, fun W' hS' => ?_⟩) ?_
        · go_simp
        refine wpAnyHI_end (by kernel_rfl) ?_
        show KR _ _
        refine hKR _ _ ?_
        clear hKR KR
        have hB6 := hB.trans (hb66.mono hzw)
        have x6 := bxBelow hxl hb66 hxl.lt
        have c6 := x6.cell
        have hz6 := hB6.size
        have hzz6 := hb66.size
        have hfar6 : w6.heap[gf]? = some (.cells (far.map (Value.int .i64)).toArray 3 (0, 0)) := (hb66.block gf (by omega)).trans Hm.out.1
        have hwait6 := row_below Hm.out.2.1 hb66
        have hi6 := (Hm.out.2.2.2.2.below hb66 (Nat.le_refl _)).more hzz6
        have hct := far_cell hfar6 (j := to) (by omega)
        have hcb := far_cell hfar6 (j := b) (by have := Hq.out.2.2.2.2.2; have := Hv.out.2.1; omega)
        have hft := far_frozen (j := to) hfar6
        have hcw := row_cell (xs := nums wait) hwait6 (i := i) hil'
        rw [nums_at hwb] at hcw
        obtain ⟨ft, hfte⟩ : ∃ ft, ft = farAt far to := ⟨_, rfl⟩
        obtain ⟨fb, hfbe⟩ : ∃ fb, fb = farAt far b := ⟨_, rfl⟩
        have hftb := hfb to
        have hfbb := hfb b
        rw [← hfte] at hct hftb
        rw [← hfbe] at hcb hfbb
        have Hf := Lib.hid (And.intro hfte (And.intro hfbe (And.intro hfar6 (And.intro hwait6 hi6))))
        have hbN' : b < N := by have := Hq.out.2.2.2.2.2; have := Hv.out.2.1; omega
        clear hfte hfbe hfar6 hi6 hx hB cx hxl hcellH hb66 hfb
        by_cases hft0 : ft = 0
        case neg =>
          have hne : (ft == 0) = false := by simp [hft0]
          clear hwait6
          go_wp2_with (fail)
          go_roundg (n - (j + 1))
          case measure => omega
          case rel =>
            obtain ⟨f1, f2, f3, f4, f5⟩ := Hf.out
            exact ⟨j + 1, far, wait, ⟨by omega, rfl, rfl⟩, Hst.out.2.2.2.2.keep Hv.out.1 Hst.out.2.2.1 Hst.out.2.2.2.1 (by omega), ⟨f3, f4, fun r hr => by have : g8 = r := (by simpa [Value.ownBlock] using hr); omega, f5⟩, x6, hB6⟩
        subst hft0
        have hwf : IntKind.i64.wrap (fb + 1) = fb + 1 := by rw [IntKind.wrap_i64]; omega
        obtain ⟨f1, f2, f3, f4, f5⟩ := Hf.out
        have hg46 := ints_lt f5 (by omega)
        have hset := setCell_heap w6 gf to (.int .i64 (fb + 1)) _ _ f3
        obtain ⟨W7, hW7⟩ : ∃ W7, W7 = w6.setCell ⟨gf, to, none⟩ (.int .i64 (fb + 1)) := ⟨_, rfl⟩
        have hoth : ∀ q : Nat, q ≠ gf → W7.heap[q]? = w6.heap[q]? := fun q hq => by rw [hW7]; exact Below.heap_setCell _ ⟨gf, to, none⟩ _ _ hq
        have hz7 : W7.heap.size = w6.heap.size := by rw [hW7]; simp [World.setCell]
        have hfar7 : W7.heap[gf]? = some (.cells ((far.set to (fb + 1)).map (Value.int .i64)).toArray 3 (0, 0)) := by rw [hW7, hset]; simp [List.map_set]
        have hwait7 := row_kept f4 (hoth g8 (by omega))
        have x7 : Boxed W7 w.heap.size 24 (.slice A1 n c) := (hoth _ (by omega)).trans x6
        have hB7 : Below w.heap.size w W7 := by rw [hW7]; exact hB6.setCell (by show w.heap.size ≤ gf; omega) _
        have hi7 : IntsAt W7 W7.heap.size (some ⟨g4, 0, none⟩) n ys := ints_stay f5 (hoth g4 (by omega)) (by rw [hz7]; omega)
        have H7 := Lib.hid (And.intro hfar7 (And.intro x7 (And.intro hB7 (And.intro hi7 (And.intro hW7 (And.intro f1 (And.intro f2 hoth)))))))
        clear hset hoth hfar7 x7 hB7 hi7 f1 f2 f3 f4 f5 hwait6 Hf
        rw [hW7] at hwait7
        have hz7' : (w6.setCell ⟨gf, to, none⟩ (.int .i64 (fb + 1))).heap.size = w6.heap.size := by simp [World.setCell]
        have hcn := cell_one_new (w6.setCell ⟨gf, to, none⟩ (.int .i64 (fb + 1))) (.int .i64 (to : Int)) 3
        rw [hz7'] at hcn
        clear hW7 hz7
        go_wp2_with (at_builtin; refine wpList_append_own_at _ rfl _ _ 22 rfl (gf + 1) 3 i0 (.int .i64 0) 1 8 Tryz.underlying22 hi hz0 hz1 hz2 rfl (by decide) (.slice (some ⟨g8, 0, none⟩) wait.length c7'') wait.length ((nums wait).map (.int .i64)) rfl (hwait7.alloc _) ⟨w6.heap.size, 0, none⟩ 1 1 [.int .i64 (to : Int)] rfl rfl hcn (by simp [Value.oneCell']) (by simp only [maxLen]; omega) (by omega) (by rw [World.size_alloc, hz7']; omega) ?_; intro v' w8 hown' hgrow _ hat)
        obtain ⟨k1, k2, k3, k4, k5, k6, k7, k8⟩ := H7.out
        rw [← k5] at hgrow hwait7 hat hz7'
        rw [World.size_alloc] at hat
        have hgs := hgrow.size
        rw [World.size_alloc] at hgs
        have hkeep : ∀ q : Nat, q < W7.heap.size → q ≠ g8 → w8.heap[q]? = W7.heap[q]? := fun q hq hne => (hgrow.block q (by rw [World.size_alloc]; omega) (fun e => hne (by simpa [Value.ownBlock] using e))).trans (Below.heap_alloc _ _ _ hq)
        have hfar8 := (hkeep gf (by rw [hz7']; omega) (by omega)).trans k1
        have x8 : Boxed w8 w.heap.size 24 (.slice A1 n c) := (hkeep _ (by rw [hz7']; omega) (by omega)).trans k2
        have hi8 : IntsAt w8 w8.heap.size (some ⟨g4, 0, none⟩) n ys := ints_stay k4 (hkeep g4 (by rw [hz7']; omega) (fun e => hg84 e.symm)) (by omega)
        have hB8 : Below w.heap.size w w8 := (k3.alloc k3.size _).trans ((Below.refl _ _).grown hgrow (by rw [World.size_alloc, hz7']; omega) (fun r e => by have : g8 = r := (by simpa [Value.ownBlock] using e); omega))
        have hWm := Hst.out.2.2.2.2.more Hv.out.1 Hst.out.2.2.1 Hst.out.2.2.2.1 k6.symm
        rw [← k7] at hWm
        have hg48 : ∀ r, v'.ownBlock = some r → r ≠ g4 := fun r hr => by
          rcases hat with e | e
          · rw [e] at hr
            have : g8 = r := by simpa [Value.ownBlock] using hr
            omega
          · rw [e] at hr
            have : W7.heap.size + 1 = r := by simpa using hr
            omega
        have Hz := Lib.hid (And.intro hWm (And.intro hfar8 (And.intro hown' (And.intro hg48 (And.intro hi8 (And.intro x8 hB8))))))
        clear hWm hfar8 hown' hg48 hi8 x8 hB8 hkeep hgrow hat k1 k2 k3 k4 k5 k6 k7 k8 hwait7
        go_wp2_with (fail)
        go_roundg (n - (j + 1))
        case measure => omega
        case rel =>
          obtain ⟨z1, z2, z3, z4, z5, z6, z7⟩ := Hz.out
          refine ⟨j + 1, _, _, ⟨by omega, rfl, rfl⟩, z1, ⟨z2, ?_, z4, z5⟩, z6, z7⟩
          rw [nums_snoc]
          simpa using z3
end Go.Proofs.YtdpehmdmgijcmaaGreat
