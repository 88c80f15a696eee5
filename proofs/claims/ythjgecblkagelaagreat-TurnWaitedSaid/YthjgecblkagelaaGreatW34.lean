/- Parts of a proof: FG FF. -/
import Derived.Test.YthjgecblkagelaaGreatM33

/- first (of the statements), for a seat without Row. -/
namespace Go.Proofs.YthjgecblkagelaaGreat
open Go.RowKit Go.Shelf

attribute [local go_sem] Oper.semAt_some

theorem firstF_eq : ∀ (us bs : List Int) (j : Nat), (∀ i, i < j → us[i]?.getD 0 = bs[i]?.getD 0) → j ≤ us.length → us.length = bs.length → firstF us bs = firstF (us.drop j) (bs.drop j)
  | us, bs, 0, _, _, _ => rfl
  | [], bs, j + 1, _, h, _ => by simp at h
  | a :: us, [], j + 1, _, _, h => by simp at h
  | a :: us, b :: bs, j + 1, he, h, hl => by
    have h0 : a = b := by simpa using he 0 (by omega)
    rw [firstF, if_pos h0]
    exact firstF_eq us bs j (fun i hi => by simpa using he (i + 1) (by omega)) (by simpa using h) (by simpa using hl)
set_option maxRecDepth 100000 in
set_option maxHeartbeats 4000000 in
theorem first_lists_any (w : World) (B1 B2 : Nat) (A1 A2 : Option Addr) (n c n2 d : Nat) (us bs : List Int) (h1 : IntsAt w B1 A1 n us) (hB1 : B1 ≤ w.heap.size) (h2 : IntsAt w B2 A2 n2 bs) (hB2 : B2 ≤ w.heap.size) (hnn : n = n2) :
    Calls Tryz.prog 24 #[.slice A1 n c, .slice A2 n2 d] w fun e w' => e = .returned (.bool (firstF us bs)) ∧ Below w.heap.size w w' := by
  subst hnn
  have hl := Lib.hid (And.intro h1.len h2.len)
  have hn := h1.small
  go_enter Tryz.func24, Tryz.ntmps24
  go_wp2_with (fail)
  go_loopg [5] n (fun g v5 wr => ∃ j : Nat, (j ≤ n ∧ g = n - j ∧ v5 = .int .i64 (j : Int)) ∧ (∀ i, i < j → us[i]?.getD 0 = bs[i]?.getD 0) ∧ Below w.heap.size w wr)
  case atStart => exact ⟨0, ⟨Nat.zero_le _, rfl, rfl⟩, fun i hi => by omega, Below.refl _ _⟩
  case round =>
    obtain ⟨j, ⟨hjn, rfl, rfl⟩, heq, hB⟩ := hrel
    have hzw := hB.size
    have Heq := Lib.hid heq
    clear heq
    by_cases hj : j < n
    · obtain ⟨b1, o1, rfl, hb1, hc1⟩ := (h1.below hB hB1).cell hj
      obtain ⟨b2, o2, rfl, hb2, hc2⟩ := (h2.below hB hB2).cell hj
      obtain ⟨x, hx⟩ : ∃ x, x = us[j]?.getD 0 := ⟨_, rfl⟩
      obtain ⟨y, hy⟩ : ∃ y, y = bs[j]?.getD 0 := ⟨_, rfl⟩
      rw [← hx] at hc1
      rw [← hy] at hc2
      have hfd : firstF us bs = if x = y then firstF (us.drop (j + 1)) (bs.drop (j + 1)) else decide (x < y) := by
        rw [firstF_eq us bs j Heq.out (by have := hl.out.1; omega) (by rw [hl.out.1, hl.out.2]), List.drop_eq_getElem_cons (show j < us.length by have := hl.out.1; omega), List.drop_eq_getElem_cons (show j < bs.length by have := hl.out.2; omega), firstF, hx, hy, List.getElem?_eq_getElem (show j < us.length by have := hl.out.1; omega), List.getElem?_eq_getElem (show j < bs.length by have := hl.out.2; omega)]
        rfl
      have Hxy := Lib.hid (And.intro hx (And.intro hy hfd))
      clear hx hy hfd
      have hwj : IntKind.i64.wrap ((j : Int) + 1) = (j : Int) + 1 := by rw [IntKind.wrap_i64]; omega
      clear hn
      by_cases hxy : x = y
      · have hne : (x != y) = false := by simp [hxy]
        have Hx2 := Lib.hid hxy
        clear hxy
        go_wp2_with (fail)
        refine region_held_wp 1 (fun W' => W' = wr.drew) (fun _ => true) (by kernel_rfl) ?_
        intro KR hKR
        have hS : wr.drew = wr.drew := rfl
        refine wpAnyHI_takeE (i := 0) (v := .slice (some ⟨b1, o1, none⟩) n c) (some 12) rfl rfl (by kernel_rfl) (by kernel_rfl) (by kernel_rfl) (by kernel_rfl) (by kernel_rfl) (fun _ _ _ h => h) hS (.inl ⟨by kernel_rfl, fun W' hS' => ?_⟩) ?_
        · subst hS'; go_simp
        refine wpAnyHI_takeE (i := 1) (v := .int .i64 (j : Int)) (some 13) rfl rfl (by kernel_rfl) (by kernel_rfl) (by kernel_rfl) (by kernel_rfl) (by kernel_rfl) (fun _ _ _ h => h) hS (.inl ⟨by kernel_rfl, fun W' hS' => ?_⟩) ?_
        · subst hS'; go_simp
        refine wpAnyHI_takeE (i := 2) (v := .pointer (some ⟨b1, o1 + j, none⟩)) (some 14) rfl rfl (by kernel_rfl) (by kernel_rfl) (by kernel_rfl) (by kernel_rfl) (by kernel_rfl) (fun _ _ _ h => h) hS (.inl ⟨by kernel_rfl, fun W' hS' => ?_⟩) ?_
        · subst hS'; go_simp
        refine wpAnyHI_takeE (i := 3) (v := .int .i64 x) (some 15) rfl rfl (by kernel_rfl) (by kernel_rfl) (by kernel_rfl) (by kernel_rfl) (by kernel_rfl) (fun _ _ _ h => h) hS (.inl ⟨by kernel_rfl, fun W' hS' => ?_⟩) ?_
        · subst hS'; go_simp
        refine wpAnyHI_takeE (i := 4) (v := .slice (some ⟨b2, o2, none⟩) n d) (some 16) rfl rfl (by kernel_rfl) (by kernel_rfl) (by kernel_rfl) (by kernel_rfl) (by kernel_rfl) (fun _ _ _ h => h) hS (.inl ⟨by kernel_rfl, fun W' hS' => ?_⟩) ?_
        · subst hS'; go_simp
        refine wpAnyHI_takeE (i := 5) (v := .int .i64 (j : Int)) (some 17) rfl rfl (by kernel_rfl) (by kernel_rfl) (by kernel_rfl) (by kernel_rfl) (by kernel_rfl) (fun _ _ _ h => h) hS (.inl ⟨by kernel_rfl, fun W' hS' => ?_⟩) ?_
        · subst hS'; go_simp
        refine wpAnyHI_takeE (i := 6) (v := .pointer (some ⟨b2, o2 + j, none⟩)) (some 18) rfl rfl (by kernel_rfl) (by kernel_rfl) (by kernel_rfl) (by kernel_rfl) (by kernel_rfl) (fun _ _ _ h => h) hS (.inl ⟨by kernel_rfl, fun W' hS' => ?_⟩) ?_
        · subst hS'; go_simp
        refine wpAnyHI_takeE (i := 7) (v := .int .i64 y) (some 19) rfl rfl (by kernel_rfl) (by kernel_rfl) (by kernel_rfl) (by kernel_rfl) (by kernel_rfl) (fun _ _ _ h => h) hS (.inl ⟨by kernel_rfl, fun W' hS' => ?_⟩) ?_
        · subst hS'; go_simp
        refine wpAnyHI_takeE (i := 8) (v := .bool false) (some 20) rfl rfl (by kernel_rfl) (by kernel_rfl) (by kernel_rfl) (by kernel_rfl) (by kernel_rfl) (fun _ _ _ h => h) hS (.inl ⟨by kernel_rfl, fun W' hS' => ?_⟩) ?_
        · subst hS'; go_simp
        refine wpAnyHI_end (by kernel_rfl) ?_
        show KR _ _
        refine act_eq (K := KR) (a' := { tmps := #[.slice (some ⟨b1, o1, none⟩) n c, .slice (some ⟨b2, o2, none⟩) n d, undef, undef, u4, .int .i64 (j : Int), .int .i64 (j : Int), .slice (some ⟨b1, o1, none⟩) n c, .int .i64 (n : Int), .bool true, u10, u11, .slice (some ⟨b1, o1, none⟩) n c, .int .i64 (j : Int), .pointer (some ⟨b1, o1 + j, none⟩), .int .i64 x, .slice (some ⟨b2, o2, none⟩) n d, .int .i64 (j : Int), .pointer (some ⟨b2, o2 + j, none⟩), .int .i64 y, .bool false, u21, u22, u23, u24, u25, u26, u27, u28, u29], defers := [] }) (by kernel_rfl) ?_
        refine hKR _ _ ?_
        clear hKR KR
        clear hS hne
        go_wp2_with (fail)
        go_roundg (n - (j + 1))
        case measure => omega
        case rel =>
          refine ⟨j + 1, ⟨hj, rfl, by simp⟩, fun i hi => ?_, hB.trans ((below_drew wr).mono hzw)⟩
          rcases Nat.lt_or_ge i j with h | h
          · exact Heq.out i h
          · obtain rfl : i = j := by omega
            rw [← Hxy.out.1, ← Hxy.out.2.1]
            exact Hx2.out
      · have hne : (x != y) = true := by simp [hxy]
        have Hx2 := Lib.hid hxy
        clear hxy
        go_wp2_with (fail)
        refine region_held_wp 1 (fun W' => W' = wr.drew) (fun _ => true) (by kernel_rfl) ?_
        intro KR hKR
        have hS : wr.drew = wr.drew := rfl
        refine wpAnyHI_takeE (i := 0) (v := .slice (some ⟨b1, o1, none⟩) n c) (some 12) rfl rfl (by kernel_rfl) (by kernel_rfl) (by kernel_rfl) (by kernel_rfl) (by kernel_rfl) (fun _ _ _ h => h) hS (.inl ⟨by kernel_rfl, fun W' hS' => ?_⟩) ?_
        · subst hS'; go_simp
        refine wpAnyHI_takeE (i := 1) (v := .int .i64 (j : Int)) (some 13) rfl rfl (by kernel_rfl) (by kernel_rfl) (by kernel_rfl) (by kernel_rfl) (by kernel_rfl) (fun _ _ _ h => h) hS (.inl ⟨by kernel_rfl, fun W' hS' => ?_⟩) ?_
        · subst hS'; go_simp
        refine wpAnyHI_takeE (i := 2) (v := .pointer (some ⟨b1, o1 + j, none⟩)) (some 14) rfl rfl (by kernel_rfl) (by kernel_rfl) (by kernel_rfl) (by kernel_rfl) (by kernel_rfl) (fun _ _ _ h => h) hS (.inl ⟨by kernel_rfl, fun W' hS' => ?_⟩) ?_
        · subst hS'; go_simp
        refine wpAnyHI_takeE (i := 3) (v := .int .i64 x) (some 15) rfl rfl (by kernel_rfl) (by kernel_rfl) (by kernel_rfl) (by kernel_rfl) (by kernel_rfl) (fun _ _ _ h => h) hS (.inl ⟨by kernel_rfl, fun W' hS' => ?_⟩) ?_
        · subst hS'; go_simp
        refine wpAnyHI_takeE (i := 4) (v := .slice (some ⟨b2, o2, none⟩) n d) (some 16) rfl rfl (by kernel_rfl) (by kernel_rfl) (by kernel_rfl) (by kernel_rfl) (by kernel_rfl) (fun _ _ _ h => h) hS (.inl ⟨by kernel_rfl, fun W' hS' => ?_⟩) ?_
        · subst hS'; go_simp
        refine wpAnyHI_takeE (i := 5) (v := .int .i64 (j : Int)) (some 17) rfl rfl (by kernel_rfl) (by kernel_rfl) (by kernel_rfl) (by kernel_rfl) (by kernel_rfl) (fun _ _ _ h => h) hS (.inl ⟨by kernel_rfl, fun W' hS' => ?_⟩) ?_
        · subst hS'; go_simp
        refine wpAnyHI_takeE (i := 6) (v := .pointer (some ⟨b2, o2 + j, none⟩)) (some 18) rfl rfl (by kernel_rfl) (by kernel_rfl) (by kernel_rfl) (by kernel_rfl) (by kernel_rfl) (fun _ _ _ h => h) hS (.inl ⟨by kernel_rfl, fun W' hS' => ?_⟩) ?_
        · subst hS'; go_simp
        refine wpAnyHI_takeE (i := 7) (v := .int .i64 y) (some 19) rfl rfl (by kernel_rfl) (by kernel_rfl) (by kernel_rfl) (by kernel_rfl) (by kernel_rfl) (fun _ _ _ h => h) hS (.inl ⟨by kernel_rfl, fun W' hS' => ?_⟩) ?_
        · subst hS'; go_simp
        refine wpAnyHI_takeE (i := 8) (v := .bool true) (some 20) rfl rfl (by kernel_rfl) (by kernel_rfl) (by kernel_rfl) (by kernel_rfl) (by kernel_rfl) (fun _ _ _ h => h) hS (.inl ⟨by kernel_rfl, fun W' hS' => ?_⟩) ?_
        · subst hS'; go_simp
        refine wpAnyHI_end (by kernel_rfl) ?_
        show KR _ _
        refine act_eq (K := KR) (a' := { tmps := #[.slice (some ⟨b1, o1, none⟩) n c, .slice (some ⟨b2, o2, none⟩) n d, undef, undef, u4, .int .i64 (j : Int), .int .i64 (j : Int), .slice (some ⟨b1, o1, none⟩) n c, .int .i64 (n : Int), .bool true, u10, u11, .slice (some ⟨b1, o1, none⟩) n c, .int .i64 (j : Int), .pointer (some ⟨b1, o1 + j, none⟩), .int .i64 x, .slice (some ⟨b2, o2, none⟩) n d, .int .i64 (j : Int), .pointer (some ⟨b2, o2 + j, none⟩), .int .i64 y, .bool true, u21, u22, u23, u24, u25, u26, u27, u28, u29], defers := [] }) (by kernel_rfl) ?_
        refine hKR _ _ ?_
        clear hKR KR
        clear hS hne
        obtain ⟨U, hU⟩ : ∃ U, U = wr.drew := ⟨_, rfl⟩
        have hcu1 : U.cell? ⟨b1, o1 + j, none⟩ = some (.int .i64 x) := by rw [hU]; exact hc1
        have hcu2 : U.cell? ⟨b2, o2 + j, none⟩ = some (.int .i64 y) := by rw [hU]; exact hc2
        have hBU : Below w.heap.size w U := by rw [hU]; exact hB.trans ((below_drew wr).mono hzw)
        rw [← hU]
        clear hU hc1 hc2
        go_wp2_with (fail)
        refine region_held_wp 1 (fun W' => W' = U.drew) (fun _ => true) (by kernel_rfl) ?_
        intro KR hKR
        have hS : U.drew = U.drew := rfl
        refine wpAnyHI_takeE (i := 0) (v := .slice (some ⟨b1, o1, none⟩) n c) (some 21) rfl rfl (by kernel_rfl) (by kernel_rfl) (by kernel_rfl) (by kernel_rfl) (by kernel_rfl) (fun _ _ _ h => h) hS (.inl ⟨by kernel_rfl, fun W' hS' => ?_⟩) ?_
        · subst hS'; go_simp
        refine wpAnyHI_takeE (i := 1) (v := .int .i64 (j : Int)) (some 22) rfl rfl (by kernel_rfl) (by kernel_rfl) (by kernel_rfl) (by kernel_rfl) (by kernel_rfl) (fun _ _ _ h => h) hS (.inl ⟨by kernel_rfl, fun W' hS' => ?_⟩) ?_
        · subst hS'; go_simp
        refine wpAnyHI_takeE (i := 2) (v := .pointer (some ⟨b1, o1 + j, none⟩)) (some 23) rfl rfl (by kernel_rfl) (by kernel_rfl) (by kernel_rfl) (by kernel_rfl) (by kernel_rfl) (fun _ _ _ h => h) hS (.inl ⟨by kernel_rfl, fun W' hS' => ?_⟩) ?_
        · subst hS'; go_simp
        refine wpAnyHI_takeE (i := 3) (v := .int .i64 x) (some 24) rfl rfl (by kernel_rfl) (by kernel_rfl) (by kernel_rfl) (by kernel_rfl) (by kernel_rfl) (fun _ _ _ h => h) hS (.inl ⟨by kernel_rfl, fun W' hS' => ?_⟩) ?_
        · subst hS'; go_simp
        refine wpAnyHI_takeE (i := 4) (v := .slice (some ⟨b2, o2, none⟩) n d) (some 25) rfl rfl (by kernel_rfl) (by kernel_rfl) (by kernel_rfl) (by kernel_rfl) (by kernel_rfl) (fun _ _ _ h => h) hS (.inl ⟨by kernel_rfl, fun W' hS' => ?_⟩) ?_
        · subst hS'; go_simp
        refine wpAnyHI_takeE (i := 5) (v := .int .i64 (j : Int)) (some 26) rfl rfl (by kernel_rfl) (by kernel_rfl) (by kernel_rfl) (by kernel_rfl) (by kernel_rfl) (fun _ _ _ h => h) hS (.inl ⟨by kernel_rfl, fun W' hS' => ?_⟩) ?_
        · subst hS'; go_simp
        refine wpAnyHI_takeE (i := 6) (v := .pointer (some ⟨b2, o2 + j, none⟩)) (some 27) rfl rfl (by kernel_rfl) (by kernel_rfl) (by kernel_rfl) (by kernel_rfl) (by kernel_rfl) (fun _ _ _ h => h) hS (.inl ⟨by kernel_rfl, fun W' hS' => ?_⟩) ?_
        · subst hS'; go_simp
        refine wpAnyHI_takeE (i := 7) (v := .int .i64 y) (some 28) rfl rfl (by kernel_rfl) (by kernel_rfl) (by kernel_rfl) (by kernel_rfl) (by kernel_rfl) (fun _ _ _ h => h) hS (.inl ⟨by kernel_rfl, fun W' hS' => ?_⟩) ?_
        · subst hS'; go_simp
        refine wpAnyHI_takeE (i := 8) (v := .bool (decide (x < y))) (some 29) rfl rfl (by kernel_rfl) (by kernel_rfl) (by kernel_rfl) (by kernel_rfl) (by kernel_rfl) (fun _ _ _ h => h) hS (.inl ⟨by kernel_rfl, fun W' hS' => ?_⟩) ?_
        · subst hS'; go_simp
        refine wpAnyHI_takeE (i := 9) (v := .bool (decide (x < y))) (some 4) rfl rfl (by kernel_rfl) (by kernel_rfl) (by kernel_rfl) (by kernel_rfl) (by kernel_rfl) (fun _ _ _ h => h) hS (.inl ⟨by kernel_rfl, fun W' hS' => ?_⟩) ?_
        · go_simp
        refine wpAnyHI_end (by kernel_rfl) ?_
        show KR _ _
        refine act_eq (K := KR) (a' := { tmps := #[.slice (some ⟨b1, o1, none⟩) n c, .slice (some ⟨b2, o2, none⟩) n d, undef, undef, .bool (decide (x < y)), .int .i64 (j : Int), .int .i64 (j : Int), .slice (some ⟨b1, o1, none⟩) n c, .int .i64 (n : Int), .bool true, u10, u11, .slice (some ⟨b1, o1, none⟩) n c, .int .i64 (j : Int), .pointer (some ⟨b1, o1 + j, none⟩), .int .i64 x, .slice (some ⟨b2, o2, none⟩) n d, .int .i64 (j : Int), .pointer (some ⟨b2, o2 + j, none⟩), .int .i64 y, .bool true, .slice (some ⟨b1, o1, none⟩) n c, .int .i64 (j : Int), .pointer (some ⟨b1, o1 + j, none⟩), .int .i64 x, .slice (some ⟨b2, o2, none⟩) n d, .int .i64 (j : Int), .pointer (some ⟨b2, o2 + j, none⟩), .int .i64 y, .bool (decide (x < y))], defers := [] }) (by kernel_rfl) ?_
        refine hKR _ _ ?_
        clear hKR KR
        clear hS
        go_wp2_with (fail)
        go_ret
        exact ⟨ret_bool (by rw [Hxy.out.2.2, if_neg Hx2.out]), hBU.trans ((below_drew U).mono hBU.size)⟩
    · obtain rfl : n = j := by omega
      have hlt : ¬ (n : Int) < (n : Int) := by omega
      go_wp2_with (fail)
      go_ret
      refine ⟨ret_bool ?_, hB⟩
      rw [firstF_eq us bs n Heq.out (by have := hl.out.1; omega) (by rw [hl.out.1, hl.out.2]), List.drop_eq_nil_of_le (by have := hl.out.1; omega)]
      rfl
end Go.Proofs.YthjgecblkagelaaGreat

/- TurnWaited: what leads to a safe state; the walk. -/
namespace Go.Proofs.YthjgecblkagelaaGreat
open Go.RowKit Go.Shelf

attribute [local go_sem] Oper.semAt_some

theorem leads_ne {ts ys : List Int} : leadsF ts ys ≠ [] ↔ ∃ i, i < ts.length ∧ safeF ts (ys.set i 0) = true := by
  unfold leadsF
  rw [Ne, List.map_eq_nil_iff, List.filter_eq_nil_iff]
  constructor
  · intro h
    refine Classical.byContradiction fun hn => h fun i hi hs => hn ⟨i, List.mem_range.1 hi, hs⟩
  · rintro ⟨i, hi, hd⟩ h
    exact h i (List.mem_range.2 hi) hd
theorem lacks_stated {ts ss ys : List Int} (h0 : statedF ts ss = 0) {b : Nat} (hb : b < 2 ^ ts.length) (h : rpullF ts ss (bitsL ts.length (2 ^ ts.length - 1 - b)) = some ys) : ∀ i, i < ts.length → statedF ts (ys.set i 0) = 0 := by
  obtain ⟨hv, -, -⟩ := stated_valid h0
  rcases pull_lacks h0 hb with ⟨q, -, h2, hq⟩ | ⟨-, h2⟩
  · rw [h] at h2
    cases h2
    intro i hi
    rw [list_set hv hq hi]
    exact stated_nice (stated_hall h0) (nice_set hv hq hi)
  · rw [h] at h2; cases h2
theorem doom_code {ts xs : List Int} (h : statedF ts xs = 0) : (doomR ts xs).2 = if safeF ts xs then 5 else 0 := by
  rw [doom_err]
  unfold doomErrF
  rw [if_neg (by simp [h])]

set_option maxRecDepth 100000 in
set_option maxHeartbeats 16000000 in
theorem lleads_any (w : World) (B1 B2 : Nat) (A1 A2 : Option Addr) (n c d : Nat) (ts ss : List Int) (h1 : IntsAt w B1 A1 n ts) (hB1 : B1 ≤ w.heap.size) (h2 : IntsAt w B2 A2 n ss) (hB2 : B2 ≤ w.heap.size) (hst : statedF ts ss = 0) (k : Nat) (hk : k < 2 ^ n) :
    Calls Tryz.prog 21 #[.agg #[.slice A1 n c], .slice A2 n d, .int .i64 (k : Int)] w fun e w' => e = .returned (.bool (goodB ts ss k)) ∧ Below w.heap.size w w' := by
  have hb0 : Below w.heap.size w (w.alloc (.cells #[.slice A1 n c] 24)) := (Below.refl _ w).alloc (Nat.le_refl _) _
  have x0 := Boxed.new w 24 (.slice A1 n c)
  have hl := h1.len
  obtain ⟨hv, hx⟩ := stated_states hst
  have hn1 : 1 ≤ n := by have := hv.h1; omega
  have hn5 : n ≤ 5 := by have := hv.h5; omega
  obtain ⟨p, hp, hp2, hp32⟩ := pow5 hn1 hn5
  have hpi : (2 : Int) ^ n = (p : Int) := by rw [hp]; simp
  have hwp : IntKind.i64.wrap (2 ^ n) = (p : Int) := by rw [hpi, IntKind.wrap_i64]; omega
  obtain ⟨b, hbb⟩ : ∃ b : Nat, b = 2 ^ n - 1 - k := ⟨_, rfl⟩
  have hb2n : b < 2 ^ n := by omega
  have hbp : (b : Int) = (p : Int) - 1 - (k : Int) := by omega
  have hq1 : IntKind.i64.wrap ((p : Int) - 1) = (p : Int) - 1 := by rw [IntKind.wrap_i64]; omega
  have hq2 : IntKind.i64.wrap ((p : Int) - 1 - (k : Int)) = (b : Int) := by rw [IntKind.wrap_i64]; omega
  have hbits := bitsL_len n b
  have hbin := bitsL_in (n := n) (b := b)
  have Hv := Lib.hid (And.intro hv (And.intro hx (And.intro hst (And.intro hl (And.intro hb2n (And.intro hbits (And.intro hbin (And.intro hbb (And.intro hk hb0)))))))))
  have hz0 := hb0.size
  have hx0 : Boxed (w.alloc (.cells #[.slice A1 n c] 24)) w.heap.size 24 (.slice A1 n c) := x0
  obtain ⟨w2, hw2⟩ : ∃ w2, w2 = w.alloc (.cells #[.slice A1 n c] 24) := ⟨_, rfl⟩
  rw [← hw2] at hb0 x0 hx0 hz0
  clear hv hx hst hl hp hpi hbb hb2n hbp hbits hbin hk x0
  go_enter Tryz.func21, Tryz.ntmps21
  go_wp2_with (fail)
  rw [← hw2]
  clear hw2
  have hB2' := hb0
  have hcellH : ∀ W', Boxed W' w.heap.size 24 (.slice A1 n c) → W'.cell? ⟨w.heap.size, 0, none⟩ = some (.slice A1 n c) := fun W' h => h.cell
  refine region_held_wp 1 (fun W' => Boxed W' w.heap.size 24 (.slice A1 n c)) (fun j => decide (j = 8)) (by kernel_rfl) ?_
  intro KR hKR
  have hS : Boxed w2.drew w.heap.size 24 (.slice A1 n c) := bxBelow hx0 (below_drew _) hx0.lt
  refine wpAnyHI_takeW (i := 1) (v := .slice A2 n d) (some 14) rfl rfl (by kernel_rfl) (by kernel_rfl) (by kernel_rfl) (by kernel_rfl) (fun _ _ _ h => h) (.inl ⟨by kernel_rfl, fun W' hS' => ?_⟩) ?_
  · go_simp
  refine wpAnyHI_takeW (i := 2) (v := .slice A2 n d) (some 15) rfl rfl (by kernel_rfl) (by kernel_rfl) (by kernel_rfl) (by kernel_rfl) (fun _ _ _ h => h) (.inl ⟨by kernel_rfl, fun W' hS' => ?_⟩) ?_
  · go_simp
  refine wpAnyHI_takeW (i := 3) (v := .int .i64 (n : Int)) (some 16) rfl rfl (by kernel_rfl) (by kernel_rfl) (by kernel_rfl) (by kernel_rfl) (fun _ _ _ h => h) (.inl ⟨by kernel_rfl, fun W' hS' => ?_⟩) ?_
  · go_simp
  refine wpAnyHI_takeW (i := 4) (v := .int .i64 (p : Int)) (some 17) rfl rfl (by kernel_rfl) (by kernel_rfl) (by kernel_rfl) (by kernel_rfl) (fun _ _ _ h => h) (.inl ⟨by kernel_rfl, fun W' hS' => ?_⟩) ?_
  · go_simp
  refine wpAnyHI_takeW (i := 5) (v := .int .i64 ((p : Int) - 1)) (some 18) rfl rfl (by kernel_rfl) (by kernel_rfl) (by kernel_rfl) (by kernel_rfl) (fun _ _ _ h => h) (.inl ⟨by kernel_rfl, fun W' hS' => ?_⟩) ?_
  · go_simp
  refine wpAnyHI_takeW (i := 6) (v := .int .i64 (k : Int)) (some 19) rfl rfl (by kernel_rfl) (by kernel_rfl) (by kernel_rfl) (by kernel_rfl) (fun _ _ _ h => h) (.inl ⟨by kernel_rfl, fun W' hS' => ?_⟩) ?_
  · go_simp
  refine wpAnyHI_takeW (i := 7) (v := .int .i64 (b : Int)) (some 20) rfl rfl (by kernel_rfl) (by kernel_rfl) (by kernel_rfl) (by kernel_rfl) (fun _ _ _ h => h) (.inl ⟨by kernel_rfl, fun W' hS' => ?_⟩) ?_
  · go_simp
  refine wpAnyHI_takeE (i := 0) (v := .agg #[.slice A1 n c]) (some 13) rfl rfl (by kernel_rfl) (by kernel_rfl) (by kernel_rfl) (by kernel_rfl) (by kernel_rfl) (fun _ _ _ h => h) hS (.inl ⟨by kernel_rfl, fun W' hS' => ?_⟩) ?_
  · have q := hcellH W' hS'; go_simp
  refine wpAnyHI_one (i := 8) rfl (by kernel_rfl) ?_
  intro K1 hK1
  go_simp
  refine ⟨trivial, (callsIn_wide.2 (BitsX_any _ b n Hv.out.2.2.2.2.1 hn5)).mono ?_⟩
  rintro e wa ⟨va, rfl, hra, hba⟩
  obtain ⟨Aa, ma, ca, rfl, hia⟩ := ListAt.of_row hra (by have := Hv.out.2.2.2.2.2.1; omega)
  have hma := hia.len
  have hbwa : Below w2.heap.size w2 wa := (below_drew w2).trans hba
  have hBa := hB2'.trans (hbwa.mono hz0)
  have hSa := bxBelow hx0 hbwa hx0.lt
  have hza := hBa.size
  have hzra := hbwa.size
  refine hK1 _ _ ⟨fun _ => hSa, ?_⟩
  clear hK1 K1 hra hS hba
  refine wpAnyHI_one (i := 9) rfl (by kernel_rfl) ?_
  intro K1 hK1
  go_simp
  refine ⟨trivial, (callsIn_wide.2 (Pulled_any _ B1 B2 wa.heap.size A1 A2 Aa n c d ma ca ts ss (bitsL n b) (h1.below hBa hB1) (by omega) (h2.below hBa hB2) (by omega) hia (Nat.le_refl _) hn1 (by omega) (by have := Hv.out.2.2.2.2.2.1; omega) Hv.out.2.2.2.2.2.2.1 (state_bounds Hv.out.1 Hv.out.2.1))).mono ?_⟩
  intro e wp hpp
  obtain ⟨v4, ok, rfl, hbp, hcase⟩ := pulled_form hpp
  have hbwp : Below w2.heap.size w2 wp := hbwa.trans (hbp.mono hzra)
  have hBp := hB2'.trans (hbwp.mono hz0)
  have xp := bxBelow hx0 hbwp hx0.lt
  refine hK1 _ _ ⟨fun h => absurd h (by decide), ?_⟩
  clear hK1 K1 hia hSa hpp hbp hma
  refine wpAnyHI_takeW (i := 10) (v := .tuple #[v4, .bool ok]) (some 12) rfl rfl (by kernel_rfl) (by kernel_rfl) (by kernel_rfl) (by kernel_rfl) (fun _ _ _ h => h) (.inl ⟨by kernel_rfl, fun W' hS' => ?_⟩) ?_
  · go_simp
  refine wpAnyHI_takeW (i := 11) (v := v4) (some 23) rfl rfl (by kernel_rfl) (by kernel_rfl) (by kernel_rfl) (by kernel_rfl) (fun _ _ _ h => h) (.inl ⟨by kernel_rfl, fun W' hS' => ?_⟩) ?_
  · go_simp
  refine wpAnyHI_takeW (i := 12) (v := .bool ok) (some 24) rfl rfl (by kernel_rfl) (by kernel_rfl) (by kernel_rfl) (by kernel_rfl) (fun _ _ _ h => h) (.inl ⟨by kernel_rfl, fun W' hS' => ?_⟩) ?_
  · go_simp
  refine wpAnyHI_takeW (i := 13) (v := v4) (some 7) rfl rfl (by kernel_rfl) (by kernel_rfl) (by kernel_rfl) (by kernel_rfl) (fun _ _ _ h => h) (.inl ⟨by kernel_rfl, fun W' hS' => ?_⟩) ?_
  · go_simp
  refine wpAnyHI_takeW (i := 14) (v := .bool ok) (some 8) rfl rfl (by kernel_rfl) (by kernel_rfl) (by kernel_rfl) (by kernel_rfl) (fun _ _ _ h => h) (.inl ⟨by kernel_rfl, fun W' hS' => ?_⟩) ?_
  · go_simp
  refine wpAnyHI_end (by kernel_rfl) ?_
  show KR _ _
  refine hKR _ _ ?_
  clear hKR KR
  have hzp := hBp.size
  have hn0' : Below wp.heap.size wp wp := Below.refl _ _
  clear hbwp hbwa hBa hcellH hx0 hB2' hb0
  rcases hcase with ⟨rfl, ys, hys, hr4⟩ | ⟨rfl, hys⟩
  case inr =>
    have hg : goodB ts ss k = false := good_none (by rw [Hv.out.2.2.2.1, ← Hv.out.2.2.2.2.2.2.2.1]; exact hys)
    have Hg := Lib.hid hg
    clear hg hys
    go_wp2_with (fail)
    go_loopg [9] 0 (fun g v9 wr => wr = wp)
    case atStart => rfl
    case round =>
      obtain rfl := hrel
      go_wp2_with (fail)
      go_ret
      exact ⟨ret_bool Hg.out.symm, hBp⟩
  obtain ⟨g4, c4', rfl⟩ := ownsRow_pos hr4 (by omega)
  have hi4 := row_ints hr4 (by omega)
  have hys' : rpullF ts ss (bitsL ts.length (2 ^ ts.length - 1 - k)) = some ys := by rw [Hv.out.2.2.2.1, ← Hv.out.2.2.2.2.2.2.2.1]; exact hys
  have hset := lacks_stated Hv.out.2.2.1 (b := k) (by rw [Hv.out.2.2.2.1]; exact Hv.out.2.2.2.2.2.2.2.2.1) hys'
  have hg := good_some hys'
  have Hy := Lib.hid (And.intro hg (And.intro hset hi4))
  clear hg hset hi4 hys hys' hr4
  go_wp2_with (fail)
  go_loopg [9] n (fun g v9 wr => ∃ j : Nat, (j ≤ n ∧ g = n - j ∧ v9 = .int .i64 (j : Int)) ∧ (∀ i, i < j → safeF ts (ys.set i 0) = false) ∧ Boxed wr w.heap.size 24 (.slice A1 n c) ∧ Below w.heap.size w wr ∧ Below wp.heap.size wp wr)
  case atStart => exact ⟨0, ⟨Nat.zero_le _, rfl, rfl⟩, fun i hi => by omega, xp, hBp, hn0'⟩
  case round =>
    clear xp hBp hn0'
    obtain ⟨j, ⟨hjn, rfl, rfl⟩, hall, y0, hB, hbpr⟩ := hrel
    have Hall := Lib.hid hall
    clear hall
    have hzw := hB.size
    have hzpr := hbpr.size
    have cr := y0.cell
    by_cases hj : j < n
    · have hwj : IntKind.i64.wrap ((j : Int) + 1) = (j : Int) + 1 := by rw [IntKind.wrap_i64]; omega
      have hst2 := Hy.out.2.1 j (by have := Hv.out.2.2.2.1; omega)
      have hc2 := doom_code hst2
      have H2 := Lib.hid (And.intro hst2 (And.intro hc2 (Hy.out.2.2.below hbpr (Nat.le_refl _))))
      clear hst2 hc2
      have hBd : Below w.heap.size w wr.drew := hB.trans ((below_drew wr).mono hzw)
      go_wp2_with (fail)
      have hcellH : ∀ W', Boxed W' w.heap.size 24 (.slice A1 n c) → W'.cell? ⟨w.heap.size, 0, none⟩ = some (.slice A1 n c) := fun W' h => h.cell
      refine region_held_wp 1 (fun W' => Boxed W' w.heap.size 24 (.slice A1 n c)) (fun j => decide (j = 3)) (by kernel_rfl) ?_
      intro KR hKR
      have hS : Boxed wr.drew w.heap.size 24 (.slice A1 n c) := bxBelow y0 (below_drew _) y0.lt
      refine wpAnyHI_takeW (i := 1) (v := .slice (some ⟨g4, 0, none⟩) n c4') (some 36) rfl rfl (by kernel_rfl) (by kernel_rfl) (by kernel_rfl) (by kernel_rfl) (fun _ _ _ h => h) (.inl ⟨by kernel_rfl, fun W' hS' => ?_⟩) ?_
      · go_simp
      refine wpAnyHI_takeW (i := 2) (v := .int .i64 (j : Int)) (some 37) rfl rfl (by kernel_rfl) (by kernel_rfl) (by kernel_rfl) (by kernel_rfl) (fun _ _ _ h => h) (.inl ⟨by kernel_rfl, fun W' hS' => ?_⟩) ?_
      · go_simp
      refine wpAnyHI_takeE (i := 0) (v := .agg #[.slice A1 n c]) (some 35) rfl rfl (by kernel_rfl) (by kernel_rfl) (by kernel_rfl) (by kernel_rfl) (by kernel_rfl) (fun _ _ _ h => h) hS (.inl ⟨by kernel_rfl, fun W' hS' => ?_⟩) ?_
      · have q := hcellH W' hS'; go_simp
      refine wpAnyHI_one (i := 3) rfl (by kernel_rfl) ?_
      intro K1 hK1
      go_simp
      refine ⟨trivial, (callsIn_wide.2 (Visited_any _ wp.heap.size _ n c4' ys (H2.out.2.2.below (below_drew wr) hzpr) (by have := (below_drew wr).size; omega) j hj (by omega))).mono ?_⟩
      rintro e w5 ⟨v5, rfl, hr5, hb5⟩
      obtain ⟨g5, c5', rfl⟩ := ownsRow_pos hr5 (by omega)
      have hi5 := row_ints hr5 (by omega)
      have hb55 : Below wr.heap.size wr w5 := (below_drew wr).trans hb5
      have hB5 := hB.trans (hb55.mono hzw)
      have hS5 := bxBelow y0 hb55 y0.lt
      refine hK1 _ _ ⟨fun _ => hS5, ?_⟩
      clear hK1 K1 hr5 hS hb5
      refine wpAnyHI_one (i := 4) rfl (by kernel_rfl) ?_
      intro K1 hK1
      go_simp
      refine ⟨trivial, (callsIn_wide.2 (Doom_any _ B1 w5.heap.size A1 (some ⟨g5, 0, none⟩) n c n c5' ts (ys.set j 0) (h1.below hB5 hB1) (by have := hB5.size; omega) hi5 (Nat.le_refl _) (fun _ => ends_all Hv.out.1) (fun h => rends_all Hv.out.1 (nice_stated h)))).mono ?_⟩
      intro e w6 hd6
      rw [StepRes, H2.out.2.1] at hd6
      obtain ⟨A6, k6, c6, rfl, -, hb6⟩ := hd6
      have hb6r : Below wr.heap.size wr w6 := hb55.trans (hb6.mono hb55.size)
      have hB6 := hB.trans (hb6r.mono hzw)
      have x6 := bxBelow y0 hb6r y0.lt
      have hbp6 := hbpr.trans (hb6r.mono hzpr)
      refine hK1 _ _ ⟨fun h => absurd h (by decide), ?_⟩
      clear hK1 K1 hi5 hS5 hb6 hb55 hB5 hb6r
      obtain ⟨s, hs⟩ : ∃ s, s = safeF ts (ys.set j 0) := ⟨_, rfl⟩
      rw [← hs]
      have Hs := Lib.hid hs
      clear hs
      obtain ⟨cd, hcd⟩ : ∃ cd : Int, cd = if s then 5 else 0 := ⟨_, rfl⟩
      have hcd' : (if s = true then (5 : Int) else 0) = cd := hcd.symm
      rw [hcd']
      clear hcd'
      have Hcd := Lib.hid hcd
      clear hcd
      refine wpAnyHI_takeW (i := 5) (v := .tuple #[.slice A6 k6 c6, .int .i64 cd]) (some 34) rfl rfl (by kernel_rfl) (by kernel_rfl) (by kernel_rfl) (by kernel_rfl) (fun _ _ _ h => h) (.inl ⟨by kernel_rfl, fun W' hS' => ?_⟩) ?_
      · go_simp
      refine wpAnyHI_takeW (i := 6) (v := .slice A6 k6 c6) (some 40) rfl rfl (by kernel_rfl) (by kernel_rfl) (by kernel_rfl) (by kernel_rfl) (fun _ _ _ h => h) (.inl ⟨by kernel_rfl, fun W' hS' => ?_⟩) ?_
      · go_simp
      refine wpAnyHI_takeW (i := 7) (v := .int .i64 cd) (some 41) rfl rfl (by kernel_rfl) (by kernel_rfl) (by kernel_rfl) (by kernel_rfl) (fun _ _ _ h => h) (.inl ⟨by kernel_rfl, fun W' hS' => ?_⟩) ?_
      · go_simp
      refine wpAnyHI_takeW (i := 8) (v := .slice A6 k6 c6) (some 10) rfl rfl (by kernel_rfl) (by kernel_rfl) (by kernel_rfl) (by kernel_rfl) (fun _ _ _ h => h) (.inl ⟨by kernel_rfl, fun W' hS' => ?_⟩) ?_
      · go_simp
      refine wpAnyHI_takeW (i := 9) (v := .int .i64 cd) (some 11) rfl rfl (by kernel_rfl) (by kernel_rfl) (by kernel_rfl) (by kernel_rfl) (fun _ _ _ h => h) (.inl ⟨by kernel_rfl, fun W' hS' => ?_⟩) ?_
      · go_simp
      refine wpAnyHI_end (by kernel_rfl) ?_
      show KR _ _
      refine hKR _ _ ?_
      clear hKR KR hB hbpr y0 cr hBd hcellH
      cases s with
      | true =>
        obtain rfl : cd = 5 := Hcd.out
        have hg : goodB ts ss k = true := by
          rw [Hy.out.1, decide_eq_true_iff, leads_ne]
          exact ⟨j, by have := Hv.out.2.2.2.1; omega, Hs.out.symm⟩
        have Hg := Lib.hid hg
        clear hg
        go_wp2_with (fail)
        go_ret
        exact ⟨ret_bool Hg.out.symm, hB6⟩
      | false =>
        obtain rfl : cd = 0 := Hcd.out
        go_wp2_with (fail)
        go_roundg (n - (j + 1))
        case measure => omega
        case rel =>
          refine ⟨j + 1, ⟨hj, rfl, rfl⟩, fun i hi => ?_, x6, hB6, hbp6⟩
          rcases Nat.lt_succ_iff_lt_or_eq.1 hi with h | rfl
          · exact Hall.out i h
          · exact Hs.out.symm
    · obtain rfl : j = n := by omega
      have hnj : ¬ (j : Int) < (j : Int) := by omega
      have hg : goodB ts ss k = false := by
        rw [Hy.out.1, decide_eq_false_iff_not, leads_ne]
        rintro ⟨i, hi, hs⟩
        rw [Hall.out i (by have := Hv.out.2.2.2.1; omega)] at hs
        cases hs
      have Hg := Lib.hid hg
      clear hg
      go_wp2_with (fail)
      go_ret
      exact ⟨ret_bool Hg.out.symm, hB⟩
end Go.Proofs.YthjgecblkagelaaGreat
