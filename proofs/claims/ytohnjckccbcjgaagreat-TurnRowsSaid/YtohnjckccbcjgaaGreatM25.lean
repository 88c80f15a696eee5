/- Parts of a proof: CB. -/
import Derived.Test.YtohnjckccbcjgaaGreatM24

/- References: Played and Play. -/
namespace Go.Proofs.YtohnjckccbcjgaaGreat
open Go.RowKit Go.Shelf

attribute [local go_sem] Oper.semAt_some

theorem rstep_ok {ts xs ys : List Int} {i : Nat} (h : statedF ts xs = 0) (hi : i < ts.length) (hp : rpullF ts xs (allL ts.length) = some ys) : statedF ts (ys.set i 0) = 0 := by
  obtain ⟨hv, hl, hg⟩ := stated_valid h
  have hc : checkHallF ts = 0 := by
    unfold statedF at h
    by_cases hc : checkHallF ts ≠ 0
    · rw [if_pos hc] at h; exact absurd h hc
    · simpa using hc
  have hpl := plList_of (ss := xs) (by have := hv.h5; omega)
  rcases step_same hv hg hi with ⟨q, x, zs, -, a2, a3, a4⟩ | ⟨-, a2⟩
  · rw [hpl, hp] at a2
    cases a2
    rw [a3]
    unfold statedF
    rw [if_neg (by simp [hc]), if_neg (by rw [plList_len a4.2 hv.h5]; simp), if_pos]
    refine stateOk_true fun j hj => ?_
    rw [plList_get a4.2 hv.h5 j hj]
    exact a4.1 j hj
  · rw [hpl, hp] at a2
    cases a2

/-- What Played answers. -/
def PlayedPost (w : World) (ts ss row : List Int) (e : Ending) (w' : World) : Prop := ∃ v x, e = .returned (.tuple #[v, .int .i64 x]) ∧ Below w.heap.size w w' ∧ ((∃ ys, rplayL ts row ss = some ys ∧ x = (row.length : Int) ∧ ListAt w' v ys) ∨ (rplayL ts row ss = none ∧ x = (rplayN ts row ss : Int) ∧ x < row.length))
theorem Played_results (W : World) (tmps : Array Value) (x y : Value) (t2 : tmps.getD 6 undef = x) (t3 : tmps.getD 7 undef = y) : (results Tryz.f36 tmps).run Tryz.prog W = .ok (.tuple #[x, y]) W := by
  simp only [Array.getD_eq_getD_getElem?] at t2 t3
  simp [results, Tryz.results36, go_sem, t2, t3]
theorem rPlay_results (W : World) (tmps : Array Value) (x y z : Value) (t2 : tmps.getD 6 undef = x) (t3 : tmps.getD 7 undef = y) (t4 : tmps.getD 8 undef = z) : (results Tryz.f9 tmps).run Tryz.prog W = .ok (.tuple #[x, y, z]) W := by
  simp only [Array.getD_eq_getD_getElem?] at t2 t3 t4
  simp [results, Tryz.results9, go_sem, t2, t3, t4]

set_option maxRecDepth 100000 in
set_option maxHeartbeats 4000000 in
theorem rPlayed_any (w : World) (B1 B2 B3 : Nat) (A1 A2 A3 : Option Addr) (n c d k f : Nat) (ts ss row : List Int) (h1 : IntsAt w B1 A1 n ts) (hB1 : B1 ≤ w.heap.size) (h2 : IntsAt w B2 A2 n ss) (hB2 : B2 ≤ w.heap.size) (h3 : IntsAt w B3 A3 k row) (hB3 : B3 ≤ w.heap.size) (hk6 : k ≤ 1000000) (hst : statedF ts ss = 0) (hw : winsF n row = true) :
    Calls Tryz.prog 36 #[.agg #[.slice A1 n c], .slice A2 n d, .slice A3 k f] w (PlayedPost w ts ss row) := by
  obtain ⟨i0, hi0, hz0, hz1, hz2⟩ := info_parts infoInt
  have hb0 : Below w.heap.size w (w.alloc (.cells #[.slice A1 n c] 24)) := (Below.refl _ w).alloc (Nat.le_refl _) _
  have x0 := Boxed.new w 24 (.slice A1 n c)
  have Hn := Lib.hid (And.intro h1.len (And.intro h2.len (And.intro h3.len hw)))
  obtain ⟨hv, -, -⟩ := stated_valid hst
  have hn1 : 1 ≤ n := by have := hv.h1; have := h1.len; omega
  have hn5 : n ≤ 5 := by have := hv.h5; have := h1.len; omega
  have hss : IntsAt (w.alloc (.cells #[.slice A1 n c] 24)) (w.alloc (.cells #[.slice A1 n c] 24)).heap.size A2 n ss := (h2.below hb0 hB2).more (by have := hb0.size; omega)
  have Hs := Lib.hid (And.intro hst hv)
  clear hst hv hw
  go_enter Tryz.func36, Tryz.ntmps36
  go_wp2_with (fail)
  go_loopg [1, 8] k (fun g v1 v8 wr => ∃ (j : Nat) (A' : Option Addr) (d' : Nat) (xs : List Int), (j ≤ k ∧ g = k - j ∧ v8 = .int .i64 (j : Int) ∧ v1 = .slice A' n d') ∧ (Boxed wr w.heap.size 24 (.slice A1 n c) ∧ Below w.heap.size w wr ∧ IntsAt wr wr.heap.size A' n xs) ∧ (statedF ts xs = 0 ∧ rplayL ts (row.drop j) xs = rplayL ts row ss ∧ rplayN ts (row.drop j) xs + j = rplayN ts row ss))
  case atStart => exact ⟨0, A2, d, ss, ⟨Nat.zero_le _, rfl, rfl, rfl⟩, ⟨x0, hb0, hss⟩, Hs.out.1, rfl, rfl⟩
  case round =>
    clear x0 hb0 hss
    obtain ⟨j, A', d', xs, ⟨hjk, rfl, rfl, rfl⟩, ⟨y0, hB, hxs⟩, hrel3⟩ := hrel
    have Hr := Lib.hid hrel3
    have c0 := y0.cell
    have hz := y0.lt
    have hzw := hB.size
    clear hrel3
    by_cases hj : j < k
    · obtain ⟨b3, o3, rfl, hb3, hc3⟩ := (h3.below hB hB3).cell hj
      have hlt : j < row.length := by have := Hn.out.2.2.1; omega
      have hpj : ∃ i : Nat, row[j] = (i : Int) ∧ i < n := by
        have h := (List.all_eq_true.1 Hn.out.2.2.2) row[j] (List.getElem_mem hlt)
        have h := (show 0 ≤ row[j] ∧ row[j] < (n : Int) by simpa [isWinF] using h)
        exact ⟨row[j].toNat, by omega, by omega⟩
      obtain ⟨i, hpi, hin⟩ := hpj
      rw [List.getElem?_eq_getElem hlt, hpi] at hc3
      simp only [Option.getD_some] at hc3
      have hdrop : row.drop j = (i : Int) :: row.drop (j + 1) := by rw [List.drop_eq_getElem_cons hlt, hpi]
      have Hd := Lib.hid hdrop
      clear hpi hdrop
      have hcell0 : ∀ W, Below wr.heap.size wr.drew W → W.cell? ⟨w.heap.size, 0, none⟩ = some (.slice A1 n c) := fun W hb => (hb.cell (p := ⟨w.heap.size, 0, none⟩) hz).trans c0
      have hBd : Below w.heap.size w wr.drew := hB.trans ((below_drew wr).mono hzw)
      have hjk' : (j : Int) < (k : Int) := by omega
      have hjj : IntKind.i64.wrap ((j : Int) + 1) = (j : Int) + 1 := by rw [IntKind.wrap_i64]; omega
      go_wp2_with (fail)
      refine region_held_wp 1 (fun W' => Below wr.heap.size wr.drew W') (fun _ => true) (by kernel_rfl) ?_
      intro KR hKR
      have hS : Below wr.heap.size wr.drew wr.drew := Below.refl _ _
      refine wpAnyHI_takeE (i := 0) (v := .agg #[.slice A1 n c]) (some 18) rfl rfl (by kernel_rfl) (by kernel_rfl) (by kernel_rfl) (by kernel_rfl) (by kernel_rfl) (fun _ _ _ h => h) hS (.inl ⟨by kernel_rfl, fun W' hS' => ?_⟩) ?_
      · have q := hcell0 W' hS'; go_simp
      refine wpAnyHI_takeE (i := 1) (v := .slice A' n d') (some 19) rfl rfl (by kernel_rfl) (by kernel_rfl) (by kernel_rfl) (by kernel_rfl) (by kernel_rfl) (fun _ _ _ h => h) hS (.inl ⟨by kernel_rfl, fun W' hS' => ?_⟩) ?_
      · go_simp
      refine wpAnyHI_takeE (i := 2) (v := .agg #[.slice A1 n c]) (some 20) rfl rfl (by kernel_rfl) (by kernel_rfl) (by kernel_rfl) (by kernel_rfl) (by kernel_rfl) (fun _ _ _ h => h) hS (.inl ⟨by kernel_rfl, fun W' hS' => ?_⟩) ?_
      · have q := hcell0 W' hS'; go_simp
      refine wpAnyHI_one (i := 3) rfl (by kernel_rfl) ?_
      intro K1 hK1
      go_simp
      refine ⟨trivial, (callsIn_wide.2 (All_any wr.drew A1 n c (by omega))).mono ?_⟩
      rintro e w4 ⟨v4, rfl, hrow4, hb4⟩
      have hS4 : Below wr.heap.size wr.drew w4 := hb4
      obtain ⟨g4, cap4, rfl⟩ := ownsRow_pos hrow4 (by omega)
      have hi4 := row_ints hrow4 (by omega)
      have hB4 : Below w.heap.size w w4 := hBd.trans (hb4.mono hBd.size)
      refine hK1 _ _ ⟨fun _ => hS4, ?_⟩
      clear hK1 K1
      refine wpAnyHI_one (i := 4) rfl (by kernel_rfl) ?_
      intro K1 hK1
      go_simp
      refine ⟨trivial, (callsIn_wide.2 (Pulled_any w4 B1 wr.heap.size w4.heap.size A1 A' (some ⟨g4, 0, none⟩) n c d' n cap4 ts xs (allL n) (h1.below hB4 hB1) (by have := hB4.size; omega) (hxs.below ((below_drew wr).trans hb4) (Nat.le_refl _)) hb4.size hi4 (Nat.le_refl _) hn1 (by omega) (by omega) (fun p hp => allL_mem.1 hp) (stated_bounds Hr.out.1))).mono ?_⟩
      intro e w5 hp
      obtain ⟨v5, ok, rfl, hb5, hcase⟩ := pulled_form hp
      clear hp
      have hS5 : Below wr.heap.size wr.drew w5 := hS4.trans (hb5.mono hS4.size)
      have hB5 : Below w.heap.size w w5 := hB4.trans (hb5.mono hB4.size)
      refine hK1 _ _ ⟨fun _ => hS5, ?_⟩
      clear hK1 K1
      refine wpAnyHI_takeE (i := 5) (v := .tuple #[v5, .bool ok]) (some 17) rfl rfl (by kernel_rfl) (by kernel_rfl) (by kernel_rfl) (by kernel_rfl) (by kernel_rfl) (fun _ _ _ h => h) hS5 (.inl ⟨by kernel_rfl, fun W' hS' => ?_⟩) ?_
      · go_simp
      refine wpAnyHI_takeE (i := 6) (v := v5) (some 23) rfl rfl (by kernel_rfl) (by kernel_rfl) (by kernel_rfl) (by kernel_rfl) (by kernel_rfl) (fun _ _ _ h => h) hS5 (.inl ⟨by kernel_rfl, fun W' hS' => ?_⟩) ?_
      · go_simp
      refine wpAnyHI_takeE (i := 7) (v := .bool ok) (some 24) rfl rfl (by kernel_rfl) (by kernel_rfl) (by kernel_rfl) (by kernel_rfl) (by kernel_rfl) (fun _ _ _ h => h) hS5 (.inl ⟨by kernel_rfl, fun W' hS' => ?_⟩) ?_
      · go_simp
      refine wpAnyHI_takeE (i := 8) (v := v5) (some 9) rfl rfl (by kernel_rfl) (by kernel_rfl) (by kernel_rfl) (by kernel_rfl) (by kernel_rfl) (fun _ _ _ h => h) hS5 (.inl ⟨by kernel_rfl, fun W' hS' => ?_⟩) ?_
      · go_simp
      refine wpAnyHI_takeE (i := 9) (v := .bool ok) (some 10) rfl rfl (by kernel_rfl) (by kernel_rfl) (by kernel_rfl) (by kernel_rfl) (by kernel_rfl) (fun _ _ _ h => h) hS5 (.inl ⟨by kernel_rfl, fun W' hS' => ?_⟩) ?_
      · go_simp
      refine wpAnyHI_end (by kernel_rfl) ?_
      show KR _ _
      refine act_eq (K := KR) (a' := { tmps := #[.agg #[.slice A1 n c], .slice A' n d', .slice (some ⟨b3, o3, none⟩) k f, .pointer (some ⟨w.heap.size, 0, none⟩), undef, undef, u6, u7, .int .i64 (j : Int), v5, .bool ok, .int .i64 (j : Int), .slice (some ⟨b3, o3, none⟩) k f, .int .i64 (k : Int), .bool true, u15, u16, .tuple #[v5, .bool ok], .agg #[.slice A1 n c], .slice A' n d', .agg #[.slice A1 n c], .slice (some ⟨g4, 0, none⟩) n cap4, .tuple #[v5, .bool ok], v5, .bool ok, u25, u26, u27, u28, u29, u30, u31, u32, u33, undef, undef, undef, undef, undef], defers := [] }) (by kernel_rfl) ?_
      refine hKR _ _ ?_
      clear hKR KR
      have y5 : Boxed w5 w.heap.size 24 (.slice A1 n c) := bxBelow y0 ((below_drew wr).trans hS5) y0.lt
      have hz5 := hB5.size
      have hc35 : w5.cell? ⟨b3, o3 + j, none⟩ = some (.int .i64 (i : Int)) := (((below_drew wr).trans hS5).cell (p := ⟨b3, o3 + j, none⟩) (show b3 < wr.heap.size by omega)).trans hc3
      rcases hcase with ⟨rfl, ys, hys, hrow5⟩ | ⟨rfl, hnone⟩
      · obtain ⟨g5, cap5, rfl⟩ := ownsRow_pos hrow5 (by omega)
        have hi5 := row_ints hrow5 (by omega)
        have Hy := Lib.hid (And.intro hys (And.intro hi5 (And.intro hS5 hB5)))
        clear hys hrow5 hi5 hS5 hS4
        go_wp2_with (fail)
        refine (Visited_any w5 w5.heap.size (some ⟨g5, 0, none⟩) n cap5 ys Hy.out.2.1 (Nat.le_refl _) i hin (by omega)).mono ?_
        rintro e w6 ⟨v6, rfl, hrow6, hb6⟩
        obtain ⟨g6, cap6, rfl⟩ := ownsRow_pos hrow6 (by omega)
        have hi6 := row_ints hrow6 (by omega)
        have H6 := Lib.hid hi6
        have y6 : Boxed w6 w.heap.size 24 (.slice A1 n c) := bxBelow y5 hb6 y5.lt
        clear hrow6 hi6
        go_wp2_with (fail)
        go_roundg (k - (j + 1))
        case measure => omega
        case rel =>
          have hnl : n = ts.length := Hn.out.1.symm
          have hys : rpullF ts xs (allL ts.length) = some ys := by rw [← hnl]; exact Hy.out.1
          obtain ⟨r1, r2, r3⟩ := Hr.out
          refine ⟨j + 1, some ⟨g6, 0, none⟩, cap6, ys.set i 0, ⟨hj, rfl, by simp, rfl⟩, ⟨y6, hB5.trans (hb6.mono hz5), H6.out⟩, rstep_ok r1 (by omega) hys, ?_, ?_⟩
          · rw [← r2, Hd.out, rplayL, hys]
            rfl
          · rw [← r3, Hd.out, rplayN, hys]
            show _ = rplayN ts (row.drop (j + 1)) (ys.set ((i : Int)).toNat 0) + 1 + j
            rw [Int.toNat_natCast]
            omega
      · have Hnone := Lib.hid hnone
        clear hnone
        go_wp2_with (fail)
        refine bodyPost_ret (v := .tuple #[.slice none 0 0, .int .i64 (j : Int)]) (Played_results _ _ _ _ (by simp) (by simp)) rfl ?_
        have hnl : n = ts.length := Hn.out.1.symm
        have hys : rpullF ts xs (allL ts.length) = none := by rw [← hnl]; exact Hnone.out
        obtain ⟨r1, r2, r3⟩ := Hr.out
        refine ⟨_, _, rfl, hB5, .inr ⟨?_, ?_, by omega⟩⟩
        · rw [← r2, Hd.out, rplayL, hys]
        · rw [← r3, Hd.out, rplayN, hys]
          simp
    · have hjk2 : j = k := by omega
      subst hjk2
      have hend : rplayL ts row ss = some xs := by
        rw [← Hr.out.2.1, List.drop_eq_nil_of_le (by have := Hn.out.2.2.1; omega)]
        rfl
      have hxl := hxs.len
      have He := Lib.hid (And.intro hend (And.intro y0 hB))
      clear hend
      obtain ⟨b, rfl⟩ : ∃ b, A' = some b := by
        obtain ⟨b, o, e, -⟩ := hxs.cell (k := 0) (by omega)
        exact ⟨_, e⟩
      have hr0 := World.ownsRow_made (base := w.heap.size) (e := 3) (size := 1) wr #[] 0 hzw (by simp [maxLen]) rfl
      have hb1 : Below w.heap.size w (wr.alloc (.cells #[] 3)) := hB.alloc hzw _
      have hxV := hxs.below ((Below.refl wr.heap.size wr).alloc (Nat.le_refl _) (.cells #[] 3)) (Nat.le_refl _)
      go_wp2_with (at_builtin; refine wpList_append_own_at _ rfl _ _ 22 rfl w.heap.size 3 i0 (.int .i64 0) 1 8 Tryz.underlying22 hi0 hz0 hz1 hz2 rfl (by decide) (.slice (some ⟨wr.heap.size, 0, none⟩) 0 0) 0 [] rfl hr0 b n d' (xs.map (.int .i64)) rfl (by simp [hxl]) (ints_cells hxV) (by simp [Value.oneCell']) (by simp only [maxLen]; omega) (by omega) (by simp; omega) ?_; intro v' w1 hown' hgrow _ hat; rw [Nat.zero_add, List.nil_append] at hown'; obtain ⟨g', c', rfl⟩ := ownsRow_pos hown' hn1)
      have hi9 := row_ints hown' (by omega)
      refine bodyPost_ret (v := .tuple #[.slice (some ⟨g', 0, none⟩) n c', .int .i64 (j : Int)]) (Played_results _ _ _ _ (by simp) (by simp)) rfl ?_
      refine ⟨_, _, rfl, hb1.trans ((Below.refl _ _).grown hgrow (by simp only [World.size_alloc]; omega) (fun r e => (hr0.lt r e).1)), .inl ⟨xs, He.out.1, by have := Hn.out.2.2.1; omega, ⟨_, _, _, rfl, hi9⟩⟩⟩

set_option maxRecDepth 100000 in
set_option maxHeartbeats 4000000 in
theorem rPlay_any (w : World) (B1 B2 B3 : Nat) (A1 A2 A3 : Option Addr) (n c m d k f : Nat) (ts ss row : List Int) (h1 : IntsAt w B1 A1 n ts) (hB1 : B1 ≤ w.heap.size) (h2 : IntsAt w B2 A2 m ss) (hB2 : B2 ≤ w.heap.size) (h3 : IntsAt w B3 A3 k row) (hB3 : B3 ≤ w.heap.size) (hk6 : k ≤ 1000000) :
    Calls Tryz.prog 9 #[.agg #[.slice A1 n c], .slice A2 m d, .slice A3 k f] w (TurnPost w (rplayR ts ss row)) := by
  have hb0 : Below w.heap.size w (w.alloc (.cells #[.slice A1 n c] 24)) := (Below.refl _ w).alloc (Nat.le_refl _) _
  have x0 := Boxed.new w 24 (.slice A1 n c)
  have Hn := Lib.hid (And.intro h1.len (And.intro h2.len h3.len))
  go_enter Tryz.func9, Tryz.ntmps9
  go_wp2_with (fail)
  refine (Stated_any _ B1 B2 A1 A2 n c m d ts ss (h1.below hb0 hB1) (by have := hb0.size; omega) (h2.below hb0 hB2) (by have := hb0.size; omega)).mono ?_
  rintro e w2 ⟨rfl, hb⟩
  have hB := hb0.trans (hb.mono hb0.size)
  have y0 := bxBelow x0 hb x0.lt
  have c0 := y0.cell
  have hzw := hB.size
  clear hb hb0 x0
  obtain ⟨r, hrr⟩ : ∃ r, r = statedF ts ss := ⟨_, rfl⟩
  by_cases h0 : r = 0
  case neg =>
    have Hr := Lib.hid (show rplayR ts ss row = ([], 0, r) by unfold rplayR; rw [if_pos (by rw [← hrr]; exact h0), hrr])
    rw [← hrr]
    have Hrr := Lib.hid hrr
    clear hrr
    go_wp2_with (fail)
    refine (Stated_any _ B1 B2 A1 A2 n c m d ts ss (h1.below hB hB1) (by omega) (h2.below hB hB2) (by omega)).mono ?_
    rintro e w3 ⟨rfl, hb⟩
    rw [← Hrr.out]
    have hB3' := hB.trans (hb.mono hB.size)
    go_wp2_with (fail)
    refine bodyPost_ret (v := .tuple #[.slice none 0 0, .int .i64 0, .int .i64 r]) (rPlay_results _ _ _ _ _ (by simp) (by simp) (by simp)) rfl ?_
    exact TurnPost.none Hr.out hB3'
  have hst : statedF ts ss = 0 := hrr.symm.trans h0
  obtain ⟨hv, hl, hg⟩ := stated_valid hst
  have hmn : m = n := by have := Hn.out; omega
  subst hmn
  have Hv := Lib.hid (And.intro hst hv)
  rw [← hrr, h0]
  clear hst hv hl hg hrr h0
  go_wp2_with (fail)
  refine (isRow_any _ B3 A1 A3 m c k f row (h3.below hB hB3) (by omega)).mono ?_
  rintro e w3 ⟨rfl, hb3⟩
  have hB3' := hB.trans (hb3.mono hB.size)
  have y3 := bxBelow y0 hb3 y0.lt
  have c3 := y3.cell
  have hz3 := hB3'.size
  clear y0 c0
  obtain ⟨q, hq⟩ : ∃ q, q = isRowF m row := ⟨_, rfl⟩
  by_cases hq0 : q = 0
  case neg =>
    have Hr := Lib.hid (show rplayR ts ss row = ([], 0, q) by unfold rplayR; rw [if_neg (by simp [Hv.out.1]), Hn.out.1, if_pos (by rw [← hq]; exact hq0), hq])
    rw [← hq]
    have Hq := Lib.hid hq
    clear hq
    go_wp2_with (fail)
    refine (isRow_any _ B3 A1 A3 m c k f row (h3.below hB3' hB3) (by omega)).mono ?_
    rintro e w4 ⟨rfl, hb⟩
    rw [← Hq.out]
    have hB4 := hB3'.trans (hb.mono hz3)
    go_wp2_with (fail)
    refine bodyPost_ret (v := .tuple #[.slice none 0 0, .int .i64 0, .int .i64 q]) (rPlay_results _ _ _ _ _ (by simp) (by simp) (by simp)) rfl ?_
    exact TurnPost.none Hr.out hB4
  have hq1 : isRowF m row = 0 := hq.symm.trans hq0
  have hw : winsF m row = true := by
    unfold isRowF at hq1
    split at hq1
    · cases hq1
    · split at hq1
      · assumption
      · cases hq1
  have hR : rplayR ts ss row = match rplayL ts row ss with | none => ([], rplayN ts row ss, 17) | some ys => (ys, row.length, 0) := by
    unfold rplayR
    rw [if_neg (by simp [Hv.out.1]), Hn.out.1, if_neg (by simp [hq1])] <;> rfl
  have HR := Lib.hid hR
  rw [← hq, hq0]
  clear hR hq1 hq hq0
  go_wp2_with (fail)
  refine (rPlayed_any w3 B1 B2 B3 A1 A2 A3 m c d k f ts ss row (h1.below hB3' hB1) (by omega) (h2.below hB3' hB2) (by omega) (h3.below hB3' hB3) (by omega) hk6 Hv.out.1 hw).mono ?_
  rintro e w4 ⟨v, x, rfl, hb4, hcase⟩
  have hB4 := hB3'.trans (hb4.mono hz3)
  have Hc := Lib.hid hcase
  clear hcase hw
  by_cases hx : x < (k : Int)
  · have Hx := Lib.hid hx
    go_wp2_with (fail)
    refine bodyPost_ret (v := .tuple #[.slice none 0 0, .int .i64 x, .int .i64 17]) (rPlay_results _ _ _ _ _ (by simp) (by simp) (by simp)) rfl ?_
    refine TurnPost.none ?_ hB4
    rcases Hc.out with ⟨ys, -, h5, -⟩ | ⟨h4, h5, -⟩
    · have := Hx.out; have := Hn.out.2.2; omega
    · rw [HR.out, h4, h5]
  · have Hx := Lib.hid hx
    go_wp2_with (fail)
    refine bodyPost_ret (v := .tuple #[v, .int .i64 x, .int .i64 0]) (rPlay_results _ _ _ _ _ (by simp) (by simp) (by simp)) rfl ?_
    rcases Hc.out with ⟨ys, h4, h5, h6⟩ | ⟨h4, h5, h6⟩
    · unfold TurnPost
      rw [HR.out, h4, h5]
      exact ⟨_, rfl, h6, hB4⟩
    · have := Hx.out; have := Hn.out.2.2; omega
end Go.Proofs.YtohnjckccbcjgaaGreat
