/- Parts of a proof: DJ DK. -/
import Derived.Test.YtdpehmdmgijcmaaGreatM28

/- The longest rows from doomed states: pure part of TurnLasted. -/
namespace Go.Proofs.YtdpehmdmgijcmaaGreat
open Go.RowKit Go.Shelf

structure Wit (ts : List Int) (s : CSt) : Prop where
  wit : ∀ x ∈ s.2.2, mget 0 s.2.1 x = 0 ∨ ∃ y ∈ visitsF ts x, mget 0 s.2.1 y.2 + 1 = mget 0 s.2.1 x
  idx : ∀ (i : Nat) (x : Pl), s.2.2[i]? = some x → mget 0 s.2.1 x ≤ (i : Int)
theorem wit_zero (ts : List Int) : Wit ts (tab0 ts) := by
  obtain ⟨-, i2, -, -⟩ := tab_fold ts (allP ts) ([], [], []) (by simp [Keys]) (fun _ => rfl)
  have e : tab0 ts = (allP ts).foldl (tabStep ts) ([], [], []) := rfl
  rw [← e] at i2
  exact ⟨fun x _ => .inl (i2 x), fun i x _ => by rw [i2]; omega⟩
theorem wit_more {ts : List Int} (hv : Valid ts) {k : Nat} {s : CSt} {p : Pl} (hI : Inv ts k s) (hW : Wit ts s) (hp : s.2.2[k]? = some p) : Wit ts (tabMore ts s p) := by
  have hpm : p ∈ s.2.2 := List.mem_of_getElem? hp
  have hpn := hI.nice p hpm
  have hk : k < s.2.2.length := (List.getElem?_eq_some_iff.1 hp).1
  have hM := mid_fold hv hI hp (beforeF ts p) [] (s.1, s.2.1, []) rfl ⟨by simp, fun x hx => (by cases hx), hI.keys, fun x hx hxs _ => (by
    have := hI.out x hx hxs
    simp only [List.not_mem_nil, if_false]
    exact ⟨by omega, by omega⟩), fun x hx => hx.elim (hI.inn x) (fun h => (by cases h)), fun x => (by simp)⟩
  obtain ⟨c, hc⟩ : ∃ c, c = condL p (s.1, s.2.1, []) (beforeF ts p) := ⟨_, rfl⟩
  have e : tabMore ts s p = (c.1, c.2.1, s.2.2 ++ c.2.2) := by rw [hc]; rfl
  rw [← hc] at hM
  rw [e]
  have hold : ∀ x ∈ s.2.2, mget 0 c.2.1 x = mget 0 s.2.1 x := fun x hx => by rw [hM.la x, if_neg (fun h => (hM.sub x h).2.1 hx)]
  have hnew : ∀ x ∈ c.2.2, mget 0 c.2.1 x = mget 0 s.2.1 p + 1 := fun x hx => by rw [hM.la x, if_pos hx]
  refine ⟨fun x hx => ?_, fun i x hi => ?_⟩
  · rcases List.mem_append.1 hx with h | h
    · rcases hW.wit x h with h0 | ⟨y, hy, e⟩
      · exact .inl (by rw [hold x h]; exact h0)
      · exact .inr ⟨y, hy, by rw [hold x h, hold _ (List.mem_of_mem_take (hI.suc x h y hy).1)]; exact e⟩
    · obtain ⟨-, i, hsu⟩ := (before_mem hv hpn).1 (hM.sub x h).1
      exact .inr ⟨(i, p), (visits_mem hv.h5).2 hsu, by rw [hnew x h]; simp only [hold p hpm]⟩
  · simp only at hi
    rcases Nat.lt_or_ge i s.2.2.length with h | h
    · rw [List.getElem?_append_left h] at hi
      rw [hold x (List.mem_of_getElem? hi)]
      exact hW.idx i x hi
    · rw [List.getElem?_append_right h] at hi
      rw [hnew x (List.mem_of_getElem? hi)]
      have := hW.idx k p hp
      omega
theorem wit_all {ts : List Int} (hv : Valid ts) : ∀ k, Wit ts (tabN ts k)
  | 0 => wit_zero ts
  | k + 1 => by
    have ih := wit_all hv k
    rcases Nat.lt_or_ge k (tabN ts k).2.2.length with h | h
    · rw [tabN_some (List.getElem?_eq_getElem h)]
      exact wit_more hv (inv_all hv k) ih (List.getElem?_eq_getElem h)
    · rw [tabN_none h]
      exact ih
theorem dq_wit {ts : List Int} (hv : Valid ts) {p : Pl} (hp : p ∈ dq ts) : la ts p = 0 ∨ ∃ y ∈ visitsF ts p, la ts y.2 + 1 = la ts p := by
  have h := (wit_all hv 1000).wit p
  rw [← tabE_eq] at h
  exact h hp
theorem la_lt {ts : List Int} (hv : Valid ts) {p : Pl} (hp : p ∈ dq ts) : la ts p < 1000 := by
  obtain ⟨i, hi, e⟩ := List.getElem_of_mem hp
  have h := (wit_all hv 1000).idx i p
  rw [← tabE_eq] at h
  have := h (by rw [← e]; exact List.getElem?_eq_getElem hi)
  have hl : (dq ts).length ≤ 1000 := ends_all hv
  unfold la
  omega
/-- The longest row. -/
noncomputable def lon (ts : List Int) (k : Nat) (p : Pl) : List Int := longF ts (tabE ts).2.1 k p
theorem lon_zero (ts : List Int) (p : Pl) : lon ts 0 p = [] := rfl
/-- Its first visit. -/
theorem lon_succ {ts : List Int} (hv : Valid ts) {p : Pl} {k : Nat} (hp : p ∈ dq ts) (hk : la ts p = (k : Int) + 1) :
    ∃ y ∈ visitsF ts p, la ts y.2 = (k : Int) ∧ y.2 ∈ dq ts ∧ lon ts (k + 1) p = (y.1 : Int) :: lon ts k y.2 ∧ ∀ z ∈ visitsF ts p, la ts z.2 = (k : Int) → y.1 ≤ z.1 := by
  have hw : ∃ y ∈ visitsF ts p, la ts y.2 = (k : Int) := by
    rcases dq_wit hv hp with h | ⟨y, hy, e⟩
    · omega
    · exact ⟨y, hy, by omega⟩
  unfold lon
  rw [longF]
  cases hf : (visitsF ts p).find? fun x => decide (mget 0 (tabE ts).2.1 x.2 = (k : Int)) with
  | none =>
    exfalso
    obtain ⟨y, hy, e⟩ := hw
    have := (List.find?_eq_none.1 hf) y hy
    exact this (by unfold la at e; simp [e])
  | some y =>
    have hy := List.mem_of_find?_eq_some hf
    have hye := List.find?_some hf
    have hye : la ts y.2 = (k : Int) := of_decide_eq_true hye
    refine ⟨y, hy, hye, (dq_suc hv hp hy).1, rfl, fun z hz hze => ?_⟩
    obtain ⟨-, pre, post, e, hpre⟩ := List.find?_eq_some_iff_append.1 hf
    have hord : (visitsF ts p).Pairwise fun a b => a.1 < b.1 := by
      unfold visitsF
      split
      · exact List.Pairwise.nil
      · exact List.pairwise_map.2 (List.pairwise_lt_range.imp fun h => h)
    rw [e] at hz hord
    rcases List.mem_append.1 hz with h | h
    · have := hpre z h
      unfold la at hze
      simp [hze] at this
    · rcases List.mem_cons.1 h with h | h
      · rw [h]
        exact Nat.le_refl _
      · exact Nat.le_of_lt ((List.pairwise_cons.1 (List.pairwise_append.1 hord).2.1).1 z h)
theorem lon_len {ts : List Int} (hv : Valid ts) : ∀ (k : Nat) (p : Pl), p ∈ dq ts → la ts p = (k : Int) → (lon ts k p).length = k ∧ winsF ts.length (lon ts k p) = true
  | 0, p, _, _ => ⟨rfl, rfl⟩
  | k + 1, p, hp, hk => by
    obtain ⟨y, hy, h1, h2, h3, -⟩ := lon_succ hv hp (k := k) (by omega)
    obtain ⟨a, b⟩ := lon_len hv k y.2 h2 h1
    rw [h3]
    refine ⟨by simp [a], ?_⟩
    have := visit_fst hy
    unfold winsF at b ⊢
    rw [List.all_cons, b, Bool.and_true]
    simp [isWinF]
    omega
theorem turn_visit {ts : List Int} {p q : Pl} {i : Nat} {x : Int} (hi : i < ts.length) (h : turnF ts allF p i = some (q, x)) : (i, q) ∈ visitsF ts p := by
  unfold turnF at h
  unfold visitsF
  cases hp : pullF ts allF p with
  | none => rw [hp] at h; cases h
  | some r =>
    rw [hp] at h
    simp only [Option.map_some, Option.some.injEq, Prod.mk.injEq] at h
    exact List.mem_map.2 ⟨i, List.mem_range.2 hi, by rw [← h.1]⟩
theorem visit_turn {ts : List Int} {p : Pl} {y : Nat × Pl} (h : y ∈ visitsF ts p) : ∃ x, turnF ts allF p y.1 = some (y.2, x) := by
  unfold turnF
  unfold visitsF at h
  cases hp : pullF ts allF p with
  | none => rw [hp] at h; cases h
  | some r =>
    rw [hp] at h
    obtain ⟨w, -, rfl⟩ := List.mem_map.1 h
    exact ⟨r.get w, rfl⟩
theorem playL_step (ts : List Int) (i : Int) (row : List Int) (p : Pl) : playL ts (i :: row) p = match turnF ts allF p i.toNat with | some (q, _) => playL ts row q | none => none := by
  unfold playL
  rw [List.foldl_cons]
  cases h : turnF ts allF p i.toNat with
  | none =>
    simp only [Option.bind_some, h, Option.map_none]
    induction row with
    | nil => rfl
    | cons j r ih => exact ih
  | some r => simp only [Option.bind_some, h, Option.map_some]
/-- No row lasts longer. -/
theorem play_len {ts : List Int} (hv : Valid ts) : ∀ (row : List Int) (p : Pl), winsF ts.length row = true → p ∈ dq ts → ((playN ts row p : Nat) : Int) ≤ la ts p ∧ (playL ts row p ≠ none → (row.length : Int) ≤ la ts p)
  | [], p, _, _ => ⟨by have := la_nonneg hv (ts := ts) p; simpa [playN] using this, fun _ => by have := la_nonneg hv (ts := ts) p; simpa using this⟩
  | i :: row, p, hw, hp => by
    unfold winsF at hw
    rw [List.all_cons] at hw
    obtain ⟨w1, w2⟩ := Bool.and_eq_true_iff.1 hw
    have hi : 0 ≤ i ∧ i < (ts.length : Int) := by simpa [isWinF] using w1
    rw [playL_step, playN]
    cases ht : turnF ts allF p i.toNat with
    | none => exact ⟨by have := la_nonneg hv (ts := ts) p; simpa using this, fun h => absurd rfl h⟩
    | some r =>
      obtain ⟨q, x⟩ := r
      have hvis := turn_visit (by omega) ht
      obtain ⟨a, b⟩ := dq_suc hv hp hvis
      obtain ⟨c, d⟩ := play_len hv row q w2 a
      simp only at b ⊢
      refine ⟨by omega, fun h => ?_⟩
      have := d h
      simp only [List.length_cons]
      omega
/-- Which list comes first. -/
def firstF : List Int → List Int → Bool
  | a :: r, b :: s => if a = b then firstF r s else decide (a < b)
  | _, _ => false
theorem first_no {ts : List Int} (hv : Valid ts) : ∀ (k : Nat) (row : List Int) (p : Pl), winsF ts.length row = true → p ∈ dq ts → la ts p = (k : Int) → row.length = k → playL ts row p ≠ none → firstF row (lon ts k p) = false
  | 0, row, p, _, _, _, hl, _ => by
    have : row = [] := List.eq_nil_of_length_eq_zero hl
    rw [this]
    rfl
  | k + 1, [], p, _, _, _, hl, _ => by simp at hl
  | k + 1, i :: row, p, hw, hp, hk, hl, hpl => by
    unfold winsF at hw
    rw [List.all_cons] at hw
    obtain ⟨w1, w2⟩ := Bool.and_eq_true_iff.1 hw
    have hi : 0 ≤ i ∧ i < (ts.length : Int) := by simpa [isWinF] using w1
    rw [playL_step] at hpl
    cases ht : turnF ts allF p i.toNat with
    | none => rw [ht] at hpl; exact absurd rfl hpl
    | some r =>
      obtain ⟨q, x⟩ := r
      rw [ht] at hpl
      simp only at hpl
      have hvis := turn_visit (by omega) ht
      obtain ⟨a, b⟩ := dq_suc hv hp hvis
      have hlen : row.length = k := by simpa using hl
      have hq := (play_len hv row q w2 a).2 hpl
      have hla : la ts q = (k : Int) := by simp only at b; omega
      obtain ⟨y, hy, h1, h2, h3, h4⟩ := lon_succ hv hp (k := k) (by omega)
      have hle := h4 _ hvis hla
      rw [h3]
      unfold firstF
      by_cases e : i = (y.1 : Int)
      · rw [if_pos e]
        have hyq : y.2 = q := by
          obtain ⟨x', hx'⟩ := visit_turn hy
          have : i.toNat = y.1 := by omega
          rw [this, hx'] at ht
          exact (Prod.mk.inj (Option.some.inj ht)).1
        rw [hyq]
        exact first_no hv k row q w2 a hla hlen hpl
      · rw [if_neg e]
        refine decide_eq_false ?_
        simp only at hle
        omega
/-- Along the longest row. -/
theorem lon_take {ts : List Int} (hv : Valid ts) : ∀ (m k : Nat) (p : Pl), m ≤ k → p ∈ dq ts → la ts p = (k : Int) → ∃ q, playL ts ((lon ts k p).take m) p = some q ∧ q ∈ dq ts ∧ la ts q = (k : Int) - m ∧ lon ts (k - m) q = (lon ts k p).drop m
  | 0, k, p, _, hp, hk => ⟨p, rfl, hp, by omega, rfl⟩
  | m + 1, 0, p, h, _, _ => by omega
  | m + 1, k + 1, p, h, hp, hk => by
    obtain ⟨y, hy, h1, h2, h3, -⟩ := lon_succ hv hp (k := k) (by omega)
    obtain ⟨q, a, b, c, d⟩ := lon_take hv m k y.2 (by omega) h2 h1
    obtain ⟨x, hx⟩ := visit_turn hy
    refine ⟨q, ?_, b, by omega, ?_⟩
    · rw [h3, List.take_succ_cons, playL_step, Int.toNat_natCast, hx]
      exact a
    · rw [h3, List.drop_succ_cons, ← d]
      congr 1
      omega
theorem lasts_safe {ts ss : List Int} (h : statedF ts ss = 0) (hd : plOf ss ∉ dq ts) : lastsR ts ss = ([], 5) := by
  have hv := valid_of (stated_hall h)
  unfold lastsR
  rw [if_neg (by simp [h]), if_pos ((dq_safe hv (nice_stated h)).2 hd)]
theorem lasts_doomed {ts ss : List Int} (h : statedF ts ss = 0) (hd : plOf ss ∈ dq ts) : lastsR ts ss = (lon ts (la ts (plOf ss)).toNat (plOf ss), 0) := by
  have hv := valid_of (stated_hall h)
  unfold lastsR
  rw [if_neg (by simp [h]), if_neg (fun h' => (dq_safe hv (nice_stated h)).1 h' hd)]
  rfl
theorem play_of {ts ss row : List Int} (h : statedF ts ss = 0) (hl : row.length ≤ 1000) (hw : winsF ts.length row = true) : playR ts ss row = match playL ts row (plOf ss) with | none => ([], playN ts row (plOf ss), 17) | some q => (plList q, row.length, 0) := by
  unfold playR
  rw [if_neg (by simp [h]), if_neg (by omega), if_neg (by rw [within_wins, hw]; simp)] <;> rfl
end Go.Proofs.YtdpehmdmgijcmaaGreat

/- Row, first. -/
namespace Go.Proofs.YtdpehmdmgijcmaaGreat
open Go.RowKit Go.Shelf

attribute [local go_sem] Oper.semAt_some

set_option maxRecDepth 100000 in
set_option maxHeartbeats 4000000 in
theorem Row_any (w : World) (B2 : Nat) (A1 A2 : Option Addr) (n c m d : Nat) (bs : List Int) (h2 : U8At w B2 A2 m bs) (hB2 : B2 ≤ w.heap.size) (h1n : 1 ≤ n) (h5n : n ≤ 5) (hm : m ≤ 60) :
    Calls Tryz.prog 34 #[.agg #[.slice A1 n c], .slice A2 m d] w fun e w' => ∃ v xs, e = .returned v ∧ w'.ownsRow w.heap.size 3 1 v m (xs.map (.int .i64)) ∧ (xs.length = m ∧ winsF n xs = true) ∧ Below w.heap.size w w' := by
  obtain ⟨i0, hi, hz0, hz1, hz2⟩ := info_parts infoInt
  have hb0 : Below w.heap.size w (w.alloc (.cells #[.slice A1 n c] 24)) := (Below.refl _ w).alloc (Nat.le_refl _) _
  have x0 := Boxed.new w 24 (.slice A1 n c)
  go_enter Tryz.func34, Tryz.ntmps34
  go_wp2_with (fail)
  go_loopg [5, 6] m (fun g v5 v6 wr => ∃ (j : Nat) (xs : List Int), (j ≤ m ∧ g = m - j ∧ v6 = .int .i64 (j : Int)) ∧ wr.ownsRow w.heap.size 3 1 v5 j (xs.map (.int .i64)) ∧ Boxed wr w.heap.size 24 (.slice A1 n c) ∧ (xs.length = j ∧ winsF n xs = true) ∧ Below w.heap.size w wr)
  case atStart => exact ⟨0, [], ⟨Nat.zero_le _, rfl, rfl⟩, World.ownsRow_nil _ _ _ _, x0, ⟨rfl, rfl⟩, hb0⟩
  case round =>
    clear x0 hb0
    obtain ⟨j, xs, ⟨hjm, rfl, rfl⟩, hrow, y0, ⟨hxl, hxw⟩, hB⟩ := hrel
    have c0 := y0.cell
    have hz := y0.lt
    have hzw := hB.size
    have Hx := Lib.hid (And.intro hxl hxw)
    clear hxl hxw
    by_cases hj : j < m
    · obtain ⟨b2, o2, rfl, hb2, hc8⟩ := (h2.below hB hB2).2.2 (by omega)
      obtain ⟨hcj, h80, h81⟩ := hc8 j hj
      obtain ⟨bj, hbj⟩ : ∃ bj, bj = bs[j]?.getD 0 := ⟨_, rfl⟩
      rw [← hbj] at hcj h80 h81
      clear hc8 hbj
      obtain ⟨i, hi'⟩ : ∃ i : Nat, (i : Int) = bj % (n : Int) := ⟨(bj % (n : Int)).toNat, by have := Int.emod_nonneg bj (show (n : Int) ≠ 0 by omega); omega⟩
      have hin : i < n := by have := Int.emod_lt_of_pos bj (show 0 < (n : Int) by omega); omega
      have htm : bj.tmod (n : Int) = (i : Int) := by rw [Int.tmod_eq_emod_of_nonneg h80]; exact hi'.symm
      have hwb : IntKind.i64.wrap bj = bj := by rw [IntKind.wrap_i64]; omega
      have hwj : IntKind.i64.wrap ((j : Int) + 1) = (j : Int) + 1 := by rw [IntKind.wrap_i64]; omega
      clear hi'
      obtain ⟨A5, c5, rfl, hle5⟩ := ownsRow_slice hrow
      have Hrow := Lib.hid hrow
      clear hrow
      go_wp2_with (fail)
      refine region_held_wp 1 (fun W' => W' = wr.drew) (fun j => decide (1 ≤ j ∧ j < 10)) (by kernel_rfl) ?_
      intro KR hKR
      have hS : wr.drew = wr.drew := rfl
      refine wpAnyHI_takeW (i := 0) (v := .slice A5 j c5) (some 13) rfl rfl (by kernel_rfl) (by kernel_rfl) (by kernel_rfl) (by kernel_rfl) (fun _ _ _ h => h) (.inl ⟨by kernel_rfl, fun W' hS' => ?_⟩) ?_
      · go_simp
      refine wpAnyHI_takeE (i := 1) (v := .slice (some ⟨b2, o2, none⟩) m d) (some 14) rfl rfl (by kernel_rfl) (by kernel_rfl) (by kernel_rfl) (by kernel_rfl) (by kernel_rfl) (fun _ _ _ h => h) hS (.inl ⟨by kernel_rfl, fun W' hS' => ?_⟩) ?_
      · subst hS'; go_simp
      refine wpAnyHI_takeE (i := 2) (v := .int .i64 (j : Int)) (some 15) rfl rfl (by kernel_rfl) (by kernel_rfl) (by kernel_rfl) (by kernel_rfl) (by kernel_rfl) (fun _ _ _ h => h) hS (.inl ⟨by kernel_rfl, fun W' hS' => ?_⟩) ?_
      · subst hS'; go_simp
      refine wpAnyHI_takeE (i := 3) (v := .pointer (some ⟨b2, o2 + j, none⟩)) (some 16) rfl rfl (by kernel_rfl) (by kernel_rfl) (by kernel_rfl) (by kernel_rfl) (by kernel_rfl) (fun _ _ _ h => h) hS (.inl ⟨by kernel_rfl, fun W' hS' => ?_⟩) ?_
      · subst hS'; go_simp
      refine wpAnyHI_takeE (i := 4) (v := .int .u8 bj) (some 17) rfl rfl (by kernel_rfl) (by kernel_rfl) (by kernel_rfl) (by kernel_rfl) (by kernel_rfl) (fun _ _ _ h => h) hS (.inl ⟨by kernel_rfl, fun W' hS' => ?_⟩) ?_
      · subst hS'; go_simp
      refine wpAnyHI_takeE (i := 5) (v := .int .i64 bj) (some 18) rfl rfl (by kernel_rfl) (by kernel_rfl) (by kernel_rfl) (by kernel_rfl) (by kernel_rfl) (fun _ _ _ h => h) hS (.inl ⟨by kernel_rfl, fun W' hS' => ?_⟩) ?_
      · subst hS'; go_simp
      refine wpAnyHI_takeE (i := 6) (v := .pointer (some ⟨w.heap.size, 0, none⟩)) (some 19) rfl rfl (by kernel_rfl) (by kernel_rfl) (by kernel_rfl) (by kernel_rfl) (by kernel_rfl) (fun _ _ _ h => h) hS (.inl ⟨by kernel_rfl, fun W' hS' => ?_⟩) ?_
      · subst hS'; go_simp
      refine wpAnyHI_takeE (i := 7) (v := .slice A1 n c) (some 20) rfl rfl (by kernel_rfl) (by kernel_rfl) (by kernel_rfl) (by kernel_rfl) (by kernel_rfl) (fun _ _ _ h => h) hS (.inl ⟨by kernel_rfl, fun W' hS' => ?_⟩) ?_
      · subst hS'; go_simp
      refine wpAnyHI_takeE (i := 8) (v := .int .i64 (n : Int)) (some 21) rfl rfl (by kernel_rfl) (by kernel_rfl) (by kernel_rfl) (by kernel_rfl) (by kernel_rfl) (fun _ _ _ h => h) hS (.inl ⟨by kernel_rfl, fun W' hS' => ?_⟩) ?_
      · subst hS'; go_simp
      refine wpAnyHI_takeE (i := 9) (v := .int .i64 (i : Int)) (some 22) rfl rfl (by kernel_rfl) (by kernel_rfl) (by kernel_rfl) (by kernel_rfl) (by kernel_rfl) (fun _ _ _ h => h) hS (.inl ⟨by kernel_rfl, fun W' hS' => ?_⟩) ?_
      · subst hS'; go_simp; omega
      refine wpAnyHI_tail (k := 10) rfl rfl (by kernel_rfl) (by kernel_rfl) ?_
      simp only [List.drop_succ_cons, List.drop_zero]
      have hrowd : (wr.drew).ownsRow w.heap.size 3 1 (.slice A5 j c5) j (xs.map (.int .i64)) := row_below Hrow.out (below_drew wr)
      gi_wp2_with (gi_at_builtin; refine wpListIn_append_own_at (F := Fence.wide) (nF := 1) _ rfl _ _ 22 rfl w.heap.size 3 i0 (.int .i64 0) 1 8 Tryz.underlying22 hi hz0 hz1 hz2 rfl (by decide) _ _ _ rfl (hrowd.alloc _) ⟨wr.drew.heap.size, 0, none⟩ 1 1 [.int .i64 (i : Int)] rfl rfl (cell_one_new _ _ _) (by simp [Value.oneCell']) (by simp only [maxLen]; omega) (by omega) (by show w.heap.size ≤ _; simp; omega) ?_; intro v' w1 hown' hgrow _ hat)
      have hB1 : Below w.heap.size w w1 := ((hB.trans ((below_drew wr).mono hzw)).alloc (by show w.heap.size ≤ wr.heap.size; omega) _).trans ((Below.refl _ _).grown hgrow (by simp; omega) (fun r e => (hrowd.lt r e).1))
      have y1 : Boxed w1 w.heap.size 24 (.slice A1 n c) := (hgrow.block _ (by simp; omega) (fun e => cells_not_row y0 Hrow.out (by decide) _ e.symm rfl)).trans ((Below.heap_alloc _ _ _ hz).trans y0)
      have Hf := Lib.hid (And.intro hown' (And.intro hB1 y1))
      clear hown' hB1 y1 hgrow hat hrowd y0 c0
      go_wp2_with (fail)
      go_roundg (m - (j + 1))
      case measure => omega
      case rel =>
        refine ⟨j + 1, xs ++ [(i : Int)], ⟨hj, rfl, by simp⟩, by simpa using Hf.out.1, Hf.out.2.2, ⟨by simp [Hx.out.1], ?_⟩, Hf.out.2.1⟩
        have h := Hx.out.2
        unfold winsF at h ⊢
        rw [List.all_append, h]
        simp [isWinF]
        omega
    · obtain rfl : m = j := by omega
      have hlt : ¬ (m : Int) < (m : Int) := by omega
      go_wp2_with (fail)
      refine bodyPost_ret (results_tmp rfl _ _ _) rfl ?_
      exact ⟨_, rfl, xs, hrow, ⟨Hx.out.1, Hx.out.2⟩, hB⟩

theorem firstF_eq : ∀ (us bs : List Int) (j : Nat), (∀ i, i < j → us[i]?.getD 0 = bs[i]?.getD 0) → j ≤ us.length → us.length = bs.length → firstF us bs = firstF (us.drop j) (bs.drop j)
  | us, bs, 0, _, _, _ => rfl
  | [], bs, j + 1, _, h, _ => by simp at h
  | a :: us, [], j + 1, _, _, h => by simp at h
  | a :: us, b :: bs, j + 1, he, h, hl => by
    have h0 : a = b := by simpa using he 0 (by omega)
    rw [firstF, if_pos h0]
    exact firstF_eq us bs j (fun i hi => by simpa using he (i + 1) (by omega)) (by simpa using h) (by simpa using hl)
set_option maxRecDepth 100000 in
set_option maxHeartbeats 4000000 in
theorem first_lists_any (w : World) (B1 B2 : Nat) (A1 A2 : Option Addr) (n c n2 d : Nat) (us bs : List Int) (h1 : IntsAt w B1 A1 n us) (hB1 : B1 ≤ w.heap.size) (h2 : IntsAt w B2 A2 n2 bs) (hB2 : B2 ≤ w.heap.size) (hnn : n = n2) :
    Calls Tryz.prog 44 #[.slice A1 n c, .slice A2 n2 d] w fun e w' => e = .returned (.bool (firstF us bs)) ∧ Below w.heap.size w w' := by
  subst hnn
  have hl := Lib.hid (And.intro h1.len h2.len)
  have hn := h1.small
  go_enter Tryz.func44, Tryz.ntmps44
  go_wp2_with (fail)
  go_loopg [5] n (fun g v5 wr => ∃ j : Nat, (j ≤ n ∧ g = n - j ∧ v5 = .int .i64 (j : Int)) ∧ (∀ i, i < j → us[i]?.getD 0 = bs[i]?.getD 0) ∧ Below w.heap.size w wr)
  case atStart => exact ⟨0, ⟨Nat.zero_le _, rfl, rfl⟩, fun i hi => by omega, Below.refl _ _⟩
  case round =>
    obtain ⟨j, ⟨hjn, rfl, rfl⟩, heq, hB⟩ := hrel
    have hzw := hB.size
    have Heq := Lib.hid heq
    clear heq
    by_cases hj : j < n
    · obtain ⟨b1, o1, rfl, hb1, hc1⟩ := (h1.below hB hB1).cell hj
      obtain ⟨b2, o2, rfl, hb2, hc2⟩ := (h2.below hB hB2).cell hj
      obtain ⟨x, hx⟩ : ∃ x, x = us[j]?.getD 0 := ⟨_, rfl⟩
      obtain ⟨y, hy⟩ : ∃ y, y = bs[j]?.getD 0 := ⟨_, rfl⟩
      rw [← hx] at hc1
      rw [← hy] at hc2
      have hfd : firstF us bs = if x = y then firstF (us.drop (j + 1)) (bs.drop (j + 1)) else decide (x < y) := by
        rw [firstF_eq us bs j Heq.out (by have := hl.out.1; omega) (by rw [hl.out.1, hl.out.2]), List.drop_eq_getElem_cons (show j < us.length by have := hl.out.1; omega), List.drop_eq_getElem_cons (show j < bs.length by have := hl.out.2; omega), firstF, hx, hy, List.getElem?_eq_getElem (show j < us.length by have := hl.out.1; omega), List.getElem?_eq_getElem (show j < bs.length by have := hl.out.2; omega)]
        rfl
      have Hxy := Lib.hid (And.intro hx (And.intro hy hfd))
      clear hx hy hfd
      have hwj : IntKind.i64.wrap ((j : Int) + 1) = (j : Int) + 1 := by rw [IntKind.wrap_i64]; omega
      clear hn
      by_cases hxy : x = y
      · have hne : (x != y) = false := by simp [hxy]
        have Hx2 := Lib.hid hxy
        clear hxy
        go_wp2_with (fail)
        refine region_held_wp 1 (fun W' => W' = wr.drew) (fun _ => true) (by kernel_rfl) ?_
        intro KR hKR
        have hS : wr.drew = wr.drew := rfl
        refine wpAnyHI_takeE (i := 0) (v := .slice (some ⟨b1, o1, none⟩) n c) (some 12) rfl rfl (by kernel_rfl) (by kernel_rfl) (by kernel_rfl) (by kernel_rfl) (by kernel_rfl) (fun _ _ _ h => h) hS (.inl ⟨by kernel_rfl, fun W' hS' => ?_⟩) ?_
        · subst hS'; go_simp
        refine wpAnyHI_takeE (i := 1) (v := .int .i64 (j : Int)) (some 13) rfl rfl (by kernel_rfl) (by kernel_rfl) (by kernel_rfl) (by kernel_rfl) (by kernel_rfl) (fun _ _ _ h => h) hS (.inl ⟨by kernel_rfl, fun W' hS' => ?_⟩) ?_
        · subst hS'; go_simp
        refine wpAnyHI_takeE (i := 2) (v := .pointer (some ⟨b1, o1 + j, none⟩)) (some 14) rfl rfl (by kernel_rfl) (by kernel_rfl) (by kernel_rfl) (by kernel_rfl) (by kernel_rfl) (fun _ _ _ h => h) hS (.inl ⟨by kernel_rfl, fun W' hS' => ?_⟩) ?_
        · subst hS'; go_simp
        refine wpAnyHI_takeE (i := 3) (v := .int .i64 x) (some 15) rfl rfl (by kernel_rfl) (by kernel_rfl) (by kernel_rfl) (by kernel_rfl) (by kernel_rfl) (fun _ _ _ h => h) hS (.inl ⟨by kernel_rfl, fun W' hS' => ?_⟩) ?_
        · subst hS'; go_simp
        refine wpAnyHI_takeE (i := 4) (v := .slice (some ⟨b2, o2, none⟩) n d) (some 16) rfl rfl (by kernel_rfl) (by kernel_rfl) (by kernel_rfl) (by kernel_rfl) (by kernel_rfl) (fun _ _ _ h => h) hS (.inl ⟨by kernel_rfl, fun W' hS' => ?_⟩) ?_
        · subst hS'; go_simp
        refine wpAnyHI_takeE (i := 5) (v := .int .i64 (j : Int)) (some 17) rfl rfl (by kernel_rfl) (by kernel_rfl) (by kernel_rfl) (by kernel_rfl) (by kernel_rfl) (fun _ _ _ h => h) hS (.inl ⟨by kernel_rfl, fun W' hS' => ?_⟩) ?_
        · subst hS'; go_simp
        refine wpAnyHI_takeE (i := 6) (v := .pointer (some ⟨b2, o2 + j, none⟩)) (some 18) rfl rfl (by kernel_rfl) (by kernel_rfl) (by kernel_rfl) (by kernel_rfl) (by kernel_rfl) (fun _ _ _ h => h) hS (.inl ⟨by kernel_rfl, fun W' hS' => ?_⟩) ?_
        · subst hS'; go_simp
        refine wpAnyHI_takeE (i := 7) (v := .int .i64 y) (some 19) rfl rfl (by kernel_rfl) (by kernel_rfl) (by kernel_rfl) (by kernel_rfl) (by kernel_rfl) (fun _ _ _ h => h) hS (.inl ⟨by kernel_rfl, fun W' hS' => ?_⟩) ?_
        · subst hS'; go_simp
        refine wpAnyHI_takeE (i := 8) (v := .bool false) (some 20) rfl rfl (by kernel_rfl) (by kernel_rfl) (by kernel_rfl) (by kernel_rfl) (by kernel_rfl) (fun _ _ _ h => h) hS (.inl ⟨by kernel_rfl, fun W' hS' => ?_⟩) ?_
        · subst hS'; go_simp
        refine wpAnyHI_end (by kernel_rfl) ?_
        show KR _ _
        refine act_eq (K := KR) (a' := { tmps := #[.slice (some ⟨b1, o1, none⟩) n c, .slice (some ⟨b2, o2, none⟩) n d, undef, undef, u4, .int .i64 (j : Int), .int .i64 (j : Int), .slice (some ⟨b1, o1, none⟩) n c, .int .i64 (n : Int), .bool true, u10, u11, .slice (some ⟨b1, o1, none⟩) n c, .int .i64 (j : Int), .pointer (some ⟨b1, o1 + j, none⟩), .int .i64 x, .slice (some ⟨b2, o2, none⟩) n d, .int .i64 (j : Int), .pointer (some ⟨b2, o2 + j, none⟩), .int .i64 y, .bool false, u21, u22, u23, u24, u25, u26, u27, u28, u29], defers := [] }) (by kernel_rfl) ?_
        refine hKR _ _ ?_
        clear hKR KR
        clear hS hne
        go_wp2_with (fail)
        go_roundg (n - (j + 1))
        case measure => omega
        case rel =>
          refine ⟨j + 1, ⟨hj, rfl, by simp⟩, fun i hi => ?_, hB.trans ((below_drew wr).mono hzw)⟩
          rcases Nat.lt_or_ge i j with h | h
          · exact Heq.out i h
          · obtain rfl : i = j := by omega
            rw [← Hxy.out.1, ← Hxy.out.2.1]
            exact Hx2.out
      · have hne : (x != y) = true := by simp [hxy]
        have Hx2 := Lib.hid hxy
        clear hxy
        go_wp2_with (fail)
        refine region_held_wp 1 (fun W' => W' = wr.drew) (fun _ => true) (by kernel_rfl) ?_
        intro KR hKR
        have hS : wr.drew = wr.drew := rfl
        refine wpAnyHI_takeE (i := 0) (v := .slice (some ⟨b1, o1, none⟩) n c) (some 12) rfl rfl (by kernel_rfl) (by kernel_rfl) (by kernel_rfl) (by kernel_rfl) (by kernel_rfl) (fun _ _ _ h => h) hS (.inl ⟨by kernel_rfl, fun W' hS' => ?_⟩) ?_
        · subst hS'; go_simp
        refine wpAnyHI_takeE (i := 1) (v := .int .i64 (j : Int)) (some 13) rfl rfl (by kernel_rfl) (by kernel_rfl) (by kernel_rfl) (by kernel_rfl) (by kernel_rfl) (fun _ _ _ h => h) hS (.inl ⟨by kernel_rfl, fun W' hS' => ?_⟩) ?_
        · subst hS'; go_simp
        refine wpAnyHI_takeE (i := 2) (v := .pointer (some ⟨b1, o1 + j, none⟩)) (some 14) rfl rfl (by kernel_rfl) (by kernel_rfl) (by kernel_rfl) (by kernel_rfl) (by kernel_rfl) (fun _ _ _ h => h) hS (.inl ⟨by kernel_rfl, fun W' hS' => ?_⟩) ?_
        · subst hS'; go_simp
        refine wpAnyHI_takeE (i := 3) (v := .int .i64 x) (some 15) rfl rfl (by kernel_rfl) (by kernel_rfl) (by kernel_rfl) (by kernel_rfl) (by kernel_rfl) (fun _ _ _ h => h) hS (.inl ⟨by kernel_rfl, fun W' hS' => ?_⟩) ?_
        · subst hS'; go_simp
        refine wpAnyHI_takeE (i := 4) (v := .slice (some ⟨b2, o2, none⟩) n d) (some 16) rfl rfl (by kernel_rfl) (by kernel_rfl) (by kernel_rfl) (by kernel_rfl) (by kernel_rfl) (fun _ _ _ h => h) hS (.inl ⟨by kernel_rfl, fun W' hS' => ?_⟩) ?_
        · subst hS'; go_simp
        refine wpAnyHI_takeE (i := 5) (v := .int .i64 (j : Int)) (some 17) rfl rfl (by kernel_rfl) (by kernel_rfl) (by kernel_rfl) (by kernel_rfl) (by kernel_rfl) (fun _ _ _ h => h) hS (.inl ⟨by kernel_rfl, fun W' hS' => ?_⟩) ?_
        · subst hS'; go_simp
        refine wpAnyHI_takeE (i := 6) (v := .pointer (some ⟨b2, o2 + j, none⟩)) (some 18) rfl rfl (by kernel_rfl) (by kernel_rfl) (by kernel_rfl) (by kernel_rfl) (by kernel_rfl) (fun _ _ _ h => h) hS (.inl ⟨by kernel_rfl, fun W' hS' => ?_⟩) ?_
        · subst hS'; go_simp
        refine wpAnyHI_takeE (i := 7) (v := .int .i64 y) (some 19) rfl rfl (by kernel_rfl) (by kernel_rfl) (by kernel_rfl) (by kernel_rfl) (by kernel_rfl) (fun _ _ _ h => h) hS (.inl ⟨by kernel_rfl, fun W' hS' => ?_⟩) ?_
        · subst hS'; go_simp
        refine wpAnyHI_takeE (i := 8) (v := .bool true) (some 20) rfl rfl (by kernel_rfl) (by kernel_rfl) (by kernel_rfl) (by kernel_rfl) (by kernel_rfl) (fun _ _ _ h => h) hS (.inl ⟨by kernel_rfl, fun W' hS' => ?_⟩) ?_
        · subst hS'; go_simp
        refine wpAnyHI_end (by kernel_rfl) ?_
        show KR _ _
        refine act_eq (K := KR) (a' := { tmps := #[.slice (some ⟨b1, o1, none⟩) n c, .slice (some ⟨b2, o2, none⟩) n d, undef, undef, u4, .int .i64 (j : Int), .int .i64 (j : Int), .slice (some ⟨b1, o1, none⟩) n c, .int .i64 (n : Int), .bool true, u10, u11, .slice (some ⟨b1, o1, none⟩) n c, .int .i64 (j : Int), .pointer (some ⟨b1, o1 + j, none⟩), .int .i64 x, .slice (some ⟨b2, o2, none⟩) n d, .int .i64 (j : Int), .pointer (some ⟨b2, o2 + j, none⟩), .int .i64 y, .bool true, u21, u22, u23, u24, u25, u26, u27, u28, u29], defers := [] }) (by kernel_rfl) ?_
        refine hKR _ _ ?_
        clear hKR KR
        clear hS hne
        obtain ⟨U, hU⟩ : ∃ U, U = wr.drew := ⟨_, rfl⟩
        have hcu1 : U.cell? ⟨b1, o1 + j, none⟩ = some (.int .i64 x) := by rw [hU]; exact hc1
        have hcu2 : U.cell? ⟨b2, o2 + j, none⟩ = some (.int .i64 y) := by rw [hU]; exact hc2
        have hBU : Below w.heap.size w U := by rw [hU]; exact hB.trans ((below_drew wr).mono hzw)
        rw [← hU]
        clear hU hc1 hc2
        go_wp2_with (fail)
        refine region_held_wp 1 (fun W' => W' = U.drew) (fun _ => true) (by kernel_rfl) ?_
        intro KR hKR
        have hS : U.drew = U.drew := rfl
        refine wpAnyHI_takeE (i := 0) (v := .slice (some ⟨b1, o1, none⟩) n c) (some 21) rfl rfl (by kernel_rfl) (by kernel_rfl) (by kernel_rfl) (by kernel_rfl) (by kernel_rfl) (fun _ _ _ h => h) hS (.inl ⟨by kernel_rfl, fun W' hS' => ?_⟩) ?_
        · subst hS'; go_simp
        refine wpAnyHI_takeE (i := 1) (v := .int .i64 (j : Int)) (some 22) rfl rfl (by kernel_rfl) (by kernel_rfl) (by kernel_rfl) (by kernel_rfl) (by kernel_rfl) (fun _ _ _ h => h) hS (.inl ⟨by kernel_rfl, fun W' hS' => ?_⟩) ?_
        · subst hS'; go_simp
        refine wpAnyHI_takeE (i := 2) (v := .pointer (some ⟨b1, o1 + j, none⟩)) (some 23) rfl rfl (by kernel_rfl) (by kernel_rfl) (by kernel_rfl) (by kernel_rfl) (by kernel_rfl) (fun _ _ _ h => h) hS (.inl ⟨by kernel_rfl, fun W' hS' => ?_⟩) ?_
        · subst hS'; go_simp
        refine wpAnyHI_takeE (i := 3) (v := .int .i64 x) (some 24) rfl rfl (by kernel_rfl) (by kernel_rfl) (by kernel_rfl) (by kernel_rfl) (by kernel_rfl) (fun _ _ _ h => h) hS (.inl ⟨by kernel_rfl, fun W' hS' => ?_⟩) ?_
        · subst hS'; go_simp
        refine wpAnyHI_takeE (i := 4) (v := .slice (some ⟨b2, o2, none⟩) n d) (some 25) rfl rfl (by kernel_rfl) (by kernel_rfl) (by kernel_rfl) (by kernel_rfl) (by kernel_rfl) (fun _ _ _ h => h) hS (.inl ⟨by kernel_rfl, fun W' hS' => ?_⟩) ?_
        · subst hS'; go_simp
        refine wpAnyHI_takeE (i := 5) (v := .int .i64 (j : Int)) (some 26) rfl rfl (by kernel_rfl) (by kernel_rfl) (by kernel_rfl) (by kernel_rfl) (by kernel_rfl) (fun _ _ _ h => h) hS (.inl ⟨by kernel_rfl, fun W' hS' => ?_⟩) ?_
        · subst hS'; go_simp
        refine wpAnyHI_takeE (i := 6) (v := .pointer (some ⟨b2, o2 + j, none⟩)) (some 27) rfl rfl (by kernel_rfl) (by kernel_rfl) (by kernel_rfl) (by kernel_rfl) (by kernel_rfl) (fun _ _ _ h => h) hS (.inl ⟨by kernel_rfl, fun W' hS' => ?_⟩) ?_
        · subst hS'; go_simp
        refine wpAnyHI_takeE (i := 7) (v := .int .i64 y) (some 28) rfl rfl (by kernel_rfl) (by kernel_rfl) (by kernel_rfl) (by kernel_rfl) (by kernel_rfl) (fun _ _ _ h => h) hS (.inl ⟨by kernel_rfl, fun W' hS' => ?_⟩) ?_
        · subst hS'; go_simp
        refine wpAnyHI_takeE (i := 8) (v := .bool (decide (x < y))) (some 29) rfl rfl (by kernel_rfl) (by kernel_rfl) (by kernel_rfl) (by kernel_rfl) (by kernel_rfl) (fun _ _ _ h => h) hS (.inl ⟨by kernel_rfl, fun W' hS' => ?_⟩) ?_
        · subst hS'; go_simp
        refine wpAnyHI_takeE (i := 9) (v := .bool (decide (x < y))) (some 4) rfl rfl (by kernel_rfl) (by kernel_rfl) (by kernel_rfl) (by kernel_rfl) (by kernel_rfl) (fun _ _ _ h => h) hS (.inl ⟨by kernel_rfl, fun W' hS' => ?_⟩) ?_
        · go_simp
        refine wpAnyHI_end (by kernel_rfl) ?_
        show KR _ _
        refine act_eq (K := KR) (a' := { tmps := #[.slice (some ⟨b1, o1, none⟩) n c, .slice (some ⟨b2, o2, none⟩) n d, undef, undef, .bool (decide (x < y)), .int .i64 (j : Int), .int .i64 (j : Int), .slice (some ⟨b1, o1, none⟩) n c, .int .i64 (n : Int), .bool true, u10, u11, .slice (some ⟨b1, o1, none⟩) n c, .int .i64 (j : Int), .pointer (some ⟨b1, o1 + j, none⟩), .int .i64 x, .slice (some ⟨b2, o2, none⟩) n d, .int .i64 (j : Int), .pointer (some ⟨b2, o2 + j, none⟩), .int .i64 y, .bool true, .slice (some ⟨b1, o1, none⟩) n c, .int .i64 (j : Int), .pointer (some ⟨b1, o1 + j, none⟩), .int .i64 x, .slice (some ⟨b2, o2, none⟩) n d, .int .i64 (j : Int), .pointer (some ⟨b2, o2 + j, none⟩), .int .i64 y, .bool (decide (x < y))], defers := [] }) (by kernel_rfl) ?_
        refine hKR _ _ ?_
        clear hKR KR
        clear hS
        go_wp2_with (fail)
        go_ret
        exact ⟨ret_bool (by rw [Hxy.out.2.2, if_neg Hx2.out]), hBU.trans ((below_drew U).mono hBU.size)⟩
    · obtain rfl : n = j := by omega
      have hlt : ¬ (n : Int) < (n : Int) := by omega
      go_wp2_with (fail)
      go_ret
      refine ⟨ret_bool ?_, hB⟩
      rw [firstF_eq us bs n Heq.out (by have := hl.out.1; omega) (by rw [hl.out.1, hl.out.2]), List.drop_eq_nil_of_le (by have := hl.out.1; omega)]
      rfl
end Go.Proofs.YtdpehmdmgijcmaaGreat
