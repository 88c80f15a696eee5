/- Parts of a proof: AT AU AV. -/
import Derived.Test.YthjgecblkagelaaGreatM14
import Derived.Deep.RegionWith

/- References: CheckDoom. -/
namespace Go.Proofs.YthjgecblkagelaaGreat
open Go.RowKit Go.Shelf

attribute [local go_sem] Oper.semAt_some

def stepBad (ts : List Int) (s : List Int × Int) : Bool := decide (statedF ts s.1 ≠ 0) || (decide (s.2 < 1) || decide (1099511627776 < s.2))
def stepWrong (ts : List Int) (ss : List (List Int × Int)) (s : List Int × Int) : Bool := match rpullF ts s.1 (allL ts.length) with
  | none => false
  | some ys => (List.range ts.length).any fun i => !belowF ss (ys.set i 0) s.2
def rcheckDoomF (ts xs : List Int) (ss : List (List Int × Int)) : Int :=
  if statedF ts xs ≠ 0 then statedF ts xs else if 1000 < ss.length then 6 else if ss.any (stepBad ts) then 3 else if ss.any (stepWrong ts ss) then 14 else if belowF ss xs 2199023255552 then 0 else 14
theorem any_at {α : Type} {p : α → Bool} {l : List α} {k : Nat} {x : α} (h : l[k]? = some x) (hp : p x = true) : l.any p = true := by
  rw [List.any_eq_true]
  exact ⟨x, List.mem_of_getElem? h, hp⟩
theorem any_none {α : Type} {p : α → Bool} {l : List α} (h : ∀ (k : Nat) (x : α), k < l.length → l[k]? = some x → p x = false) : l.any p = false := by
  rw [List.any_eq_false]
  intro x hx
  obtain ⟨k, hk, rfl⟩ := List.getElem_of_mem hx
  simp [h k _ hk (List.getElem?_eq_getElem hk)]

theorem below_drew (w : World) : Below w.heap.size w w.drew := ⟨rfl, rfl, rfl, Nat.le_refl _, fun _ _ => rfl⟩
theorem stated_bounds {ts xs : List Int} (h : statedF ts xs = 0) (i : Nat) : -1000000 ≤ xs[i]?.getD 0 ∧ xs[i]?.getD 0 ≤ 1000000 := by
  obtain ⟨hv, hl, hp, -⟩ := stated_valid h
  by_cases hi : i < ts.length
  · have h1 := hp i hi
    rw [plOf_get _ (by have := hv.h5; omega)] at h1
    have h2 := hv.h12 i hi
    omega
  · rw [List.getElem?_eq_none (by omega)]
    simp
theorem row_ints {W : World} {base g cap n : Nat} {e : TypeId} {xs : List Int} (h : W.ownsRow base e 1 (.slice (some ⟨g, 0, none⟩) n cap) n (xs.map (.int .i64))) (hn : n ≤ 1000000) : IntsAt W W.heap.size (some ⟨g, 0, none⟩) n xs := by
  refine ⟨by simpa using h.1, by omega, fun _ => ⟨g, 0, rfl, ?_, fun j hj => by simpa using row_cell h hj⟩⟩
  rcases h.2 with ⟨he, -⟩ | ⟨g', cap', cur, he, hb, hg, -⟩
  · cases he
  · cases he
    exact (Array.getElem?_eq_some_iff.1 hg).1
theorem bad_no {ts : List Int} {s : List Int × Int} (h : stepBad ts s = false) : statedF ts s.1 = 0 := by
  unfold stepBad at h
  simp at h
  exact h.1
theorem wrong_none {ts : List Int} {ss : List (List Int × Int)} {s : List Int × Int} (h : rpullF ts s.1 (allL ts.length) = none) : stepWrong ts ss s = false := by
  unfold stepWrong
  rw [h]
theorem wrong_no {ts : List Int} {ss : List (List Int × Int)} {s : List Int × Int} {ys : List Int} (h : rpullF ts s.1 (allL ts.length) = some ys) (hall : ∀ i, i < ts.length → belowF ss (ys.set i 0) s.2 = true) : stepWrong ts ss s = false := by
  unfold stepWrong
  rw [h]
  simp only [List.any_eq_false, List.mem_range, Bool.not_eq_true]
  intro i hi
  rw [hall i hi]
  rfl
theorem wrong_yes {ts : List Int} {ss : List (List Int × Int)} {s : List Int × Int} {ys : List Int} {i : Nat} (h : rpullF ts s.1 (allL ts.length) = some ys) (hi : i < ts.length) (hb : belowF ss (ys.set i 0) s.2 = false) : stepWrong ts ss s = true := by
  unfold stepWrong
  rw [h]
  simp only [List.any_eq_true, List.mem_range]
  exact ⟨i, hi, by rw [hb]; rfl⟩
theorem pulled_form {w w' : World} {n : Nat} {o : Option (List Int)} {e : Ending} (h : PulledPost w n o e w') : ∃ v ok, e = .returned (.tuple #[v, .bool ok]) ∧ Below w.heap.size w w' ∧ ((ok = true ∧ ∃ ys, o = some ys ∧ w'.ownsRow w.heap.size 3 1 v n (ys.map (.int .i64))) ∨ (ok = false ∧ o = none)) := by
  obtain ⟨hb, ⟨ys, v, ho, he, hr⟩ | ⟨ho, he⟩⟩ := h
  · exact ⟨v, true, he, hb, .inl ⟨rfl, ys, ho, hr⟩⟩
  · exact ⟨_, false, he, hb, .inr ⟨rfl, ho⟩⟩

set_option maxRecDepth 100000 in
set_option maxHeartbeats 8000000 in
theorem rCheckDoom_any (w : World) (B B2 B3 : Nat) (A A2 A3 : Option Addr) (n c m d k f : Nat) (ts xs : List Int) (ss : List (List Int × Int)) (hx : IntsAt w B A n ts) (hB : B ≤ w.heap.size) (hr : IntsAt w B2 A2 m xs) (hB2 : B2 ≤ w.heap.size) (hs : StepsAt w B3 A3 k ss) (hB3 : B3 ≤ w.heap.size) :
    Calls Tryz.prog 33 #[.agg #[.slice A n c], .slice A2 m d, .slice A3 k f] w fun e w' => e = .returned (.int .i64 (rcheckDoomF ts xs ss)) ∧ Below w.heap.size w w' := by
  have hb0 : Below w.heap.size w (w.alloc (.cells #[.slice A n c] 24)) := (Below.refl _ w).alloc (Nat.le_refl _) _
  have x0 := Boxed.new w 24 (.slice A n c)
  have Hn := Lib.hid (And.intro hx.len (And.intro hr.len hs.1))
  have hsk := hs.2.1
  go_enter Tryz.func33, Tryz.ntmps33
  go_wp2_with (fail)
  refine (Stated_any _ B B2 A A2 n c m d ts xs (hx.below hb0 hB) (by have := hb0.size; omega) (hr.below hb0 hB2) (by have := hb0.size; omega)).mono ?_
  rintro e w2 ⟨rfl, hb⟩
  have hB1 := hb0.trans (hb.mono hb0.size)
  have y0 := bxBelow x0 hb x0.lt
  have c0 := y0.cell
  clear hb hb0 x0
  obtain ⟨r, hrr⟩ : ∃ r, r = statedF ts xs := ⟨_, rfl⟩
  by_cases h0 : r = 0
  · obtain ⟨hv, hl, hg⟩ := stated_valid (hrr.symm.trans h0)
    have hcf : rcheckDoomF ts xs ss = if 1000 < k then 6 else if ss.any (stepBad ts) then 3 else if ss.any (stepWrong ts ss) then 14 else if belowF ss xs 2199023255552 then 0 else 14 := by
      unfold rcheckDoomF
      rw [if_neg (by rw [← hrr, h0]; simp), Hn.out.2.2]
    have Hv := Lib.hid (And.intro hcf (And.intro hv (And.intro hl hg)))
    rw [← hrr, h0]
    clear hcf hv hl hg hrr h0
    by_cases hk : 1000 < k
    · have hcf := Hv.out.1
      rw [if_pos hk] at hcf
      have Hcf := Lib.hid hcf
      clear hcf
      go_wp2_with (fail)
      go_ret
      exact ⟨ret_int Hcf.out.symm, hB1⟩
    · have hcf := Hv.out.1
      rw [if_neg hk] at hcf
      have Hcf := Lib.hid hcf
      clear hcf
      go_wp2_with (fail)
      go_loopg [7] k (fun g v7 wr => ∃ j : Nat, (j ≤ k ∧ g = k - j ∧ v7 = .int .i64 (j : Int)) ∧ Boxed wr w.heap.size 24 (.slice A n c) ∧ Below w.heap.size w wr ∧ ∀ (t : Nat) (s : List Int × Int), t < j → ss[t]? = some s → stepBad ts s = false)
      case atStart => exact ⟨0, ⟨Nat.zero_le _, rfl, rfl⟩, y0, hB1, fun t s h => by omega⟩
      case round =>
        clear y0 hB1 c0
        obtain ⟨j, ⟨hjk, rfl, rfl⟩, y0, hB1, hall⟩ := hrel
        have Hall := Lib.hid hall
        have c0 := y0.cell
        have hz := y0.lt
        clear hall
        by_cases hj : j < k
        · obtain ⟨b, off, rfl, hbB, hcs⟩ := (hs.below hB1 hB3).2.2 (by omega)
          obtain ⟨s, hsj⟩ : ∃ s, ss[j]? = some s := ⟨_, List.getElem?_eq_getElem (by have := Hn.out.2.2; omega)⟩
          obtain ⟨A', m', c', h1, h2, h3⟩ := hcs j s hsj
          have Hs := Lib.hid (And.intro hsj hcs)
          clear hsj hcs
          have hBd : Below w.heap.size w wr.drew := hB1.trans ⟨rfl, rfl, rfl, Nat.le_refl _, fun _ _ => rfl⟩
          have h3d : IntsAt wr.drew B3 A' m' s.1 := h3
          have hzw := hB1.size
          have hcell : ∀ W, Below wr.heap.size wr.drew W → W.cell? ⟨b, off + j * 2 + 1, none⟩ = some (.int .i64 s.2) := fun W hb => (hb.cell (p := ⟨b, off + j * 2 + 1, none⟩) (show b < wr.heap.size by omega)).trans h2
          have hcell1 : ∀ W, Below wr.heap.size wr.drew W → W.cell? ⟨b, off + j * 2, none⟩ = some (.slice A' m' c') := fun W hb => (hb.cell (p := ⟨b, off + j * 2, none⟩) (show b < wr.heap.size by omega)).trans h1
          have hcell0 : ∀ W, Below wr.heap.size wr.drew W → W.cell? ⟨w.heap.size, 0, none⟩ = some (.slice A n c) := fun W hb => (hb.cell (p := ⟨w.heap.size, 0, none⟩) hz).trans c0
          obtain ⟨r2, hr2⟩ : ∃ r2, r2 = statedF ts s.1 := ⟨_, rfl⟩
          have hjj : IntKind.i64.wrap ((j : Int) + 1) = (j : Int) + 1 := by rw [IntKind.wrap_i64]; omega
          have Hr2 := Lib.hid hr2
          clear hr2
          go_wp2_with (fail)
          refine region_held_wp 1 (fun W' => Below wr.heap.size wr.drew W') (fun j => decide (j ≤ 6)) (by kernel_rfl) ?_
          intro KR hKR
          have hS : Below wr.heap.size wr.drew wr.drew := Below.refl _ _
          refine wpAnyHI_takeE (i := 1) (v := .slice (some ⟨b, off, none⟩) k f) (some 29) rfl rfl (by kernel_rfl) (by kernel_rfl) (by kernel_rfl) (by kernel_rfl) (by kernel_rfl) (fun _ _ _ h => h) hS (.inl ⟨by kernel_rfl, fun W' hS' => ?_⟩) ?_
          · go_simp
          refine wpAnyHI_takeE (i := 2) (v := .int .i64 (j : Int)) (some 30) rfl rfl (by kernel_rfl) (by kernel_rfl) (by kernel_rfl) (by kernel_rfl) (by kernel_rfl) (fun _ _ _ h => h) hS (.inl ⟨by kernel_rfl, fun W' hS' => ?_⟩) ?_
          · go_simp
          refine wpAnyHI_takeE (i := 3) (v := .pointer (some ⟨b, off + j * 2, none⟩)) (some 31) rfl rfl (by kernel_rfl) (by kernel_rfl) (by kernel_rfl) (by kernel_rfl) (by kernel_rfl) (fun _ _ _ h => h) hS (.inl ⟨by kernel_rfl, fun W' hS' => ?_⟩) ?_
          · go_simp
          refine wpAnyHI_takeE (i := 4) (v := .pointer (some ⟨b, off + j * 2, none⟩)) (some 32) rfl rfl (by kernel_rfl) (by kernel_rfl) (by kernel_rfl) (by kernel_rfl) (by kernel_rfl) (fun _ _ _ h => h) hS (.inl ⟨by kernel_rfl, fun W' hS' => ?_⟩) ?_
          · go_simp
          refine wpAnyHI_takeE (i := 0) (v := .agg #[.slice A n c]) (some 28) rfl rfl (by kernel_rfl) (by kernel_rfl) (by kernel_rfl) (by kernel_rfl) (by kernel_rfl) (fun _ _ _ h => h) hS (.inl ⟨by kernel_rfl, fun W' hS' => ?_⟩) ?_
          · have q := hcell0 W' hS'; go_simp
          refine wpAnyHI_takeE (i := 5) (v := .slice A' m' c') (some 33) rfl rfl (by kernel_rfl) (by kernel_rfl) (by kernel_rfl) (by kernel_rfl) (by kernel_rfl) (fun _ _ _ h => h) hS (.inl ⟨by kernel_rfl, fun W' hS' => ?_⟩) ?_
          · have q := hcell1 W' hS'; go_simp
          refine wpAnyHI_one (i := 6) rfl (by kernel_rfl) ?_
          intro K1 hK1
          go_simp
          refine ⟨trivial, (callsIn_wide.2 (Stated_any _ B B3 A A' n c m' c' ts s.1 (hx.below hBd hB) (by have := hBd.size; omega) h3d (by have := hBd.size; omega))).mono ?_⟩
          rintro e w4 ⟨rfl, hb4⟩
          rw [← Hr2.out]
          have hS4 : Below wr.heap.size wr.drew w4 := hb4
          refine hK1 _ _ ⟨fun _ => hS4, ?_⟩
          clear hK1 K1
          have hB4 : Below w.heap.size w w4 := hBd.trans (hb4.mono hBd.size)
          clear hBd h3d
          by_cases h20 : r2 = 0
          · subst h20
            by_cases hlt : s.2 < 1
            · have Hbad := Lib.hid (show (3 : Int) = rcheckDoomF ts xs ss by rw [Hcf.out, if_pos (any_at Hs.out.1 (show stepBad ts s = true by unfold stepBad; simp [hlt]))])
              refine wpAnyHI_takeE (i := 7) (v := .bool false) (some 35) rfl rfl (by kernel_rfl) (by kernel_rfl) (by kernel_rfl) (by kernel_rfl) (by kernel_rfl) (fun _ _ _ h => h) hS4 (.inl ⟨by kernel_rfl, fun W' hS' => ?_⟩) ?_
              · go_simp
              refine wpAnyHI_takeE (i := 8) (v := .bool false) (some 36) rfl rfl (by kernel_rfl) (by kernel_rfl) (by kernel_rfl) (by kernel_rfl) (by kernel_rfl) (fun _ _ _ h => h) hS4 (.inl ⟨by kernel_rfl, fun W' hS' => ?_⟩) ?_
              · go_simp
              refine wpAnyHI_takeW (i := 9) (v := .slice (some ⟨b, off, none⟩) k f) (some 37) rfl rfl (by kernel_rfl) (by kernel_rfl) (by kernel_rfl) (by kernel_rfl) (fun _ _ _ h => h) (.inl ⟨by kernel_rfl, fun W' hS' => ?_⟩) ?_
              · go_simp
              refine wpAnyHI_takeE (i := 10) (v := .int .i64 (j : Int)) (some 38) rfl rfl (by kernel_rfl) (by kernel_rfl) (by kernel_rfl) (by kernel_rfl) (by kernel_rfl) (fun _ _ _ h => h) hS4 (.inl ⟨by kernel_rfl, fun W' hS' => ?_⟩) ?_
              · go_simp
              refine wpAnyHI_takeE (i := 11) (v := .pointer (some ⟨b, off + j * 2, none⟩)) (some 39) rfl rfl (by kernel_rfl) (by kernel_rfl) (by kernel_rfl) (by kernel_rfl) (by kernel_rfl) (fun _ _ _ h => h) hS4 (.inl ⟨by kernel_rfl, fun W' hS' => ?_⟩) ?_
              · go_simp
              refine wpAnyHI_takeE (i := 12) (v := .pointer (some ⟨b, off + j * 2 + 1, none⟩)) (some 40) rfl rfl (by kernel_rfl) (by kernel_rfl) (by kernel_rfl) (by kernel_rfl) (by kernel_rfl) (fun _ _ _ h => h) hS4 (.inl ⟨by kernel_rfl, fun W' hS' => ?_⟩) ?_
              · go_simp
              refine wpAnyHI_takeE (i := 13) (v := .int .i64 s.2) (some 41) rfl rfl (by kernel_rfl) (by kernel_rfl) (by kernel_rfl) (by kernel_rfl) (by kernel_rfl) (fun _ _ _ h => h) hS4 (.inl ⟨by kernel_rfl, fun W' hS' => ?_⟩) ?_
              · have q := hcell W' hS'; go_simp
              refine wpAnyHI_takeE (i := 14) (v := .bool true) (some 42) rfl rfl (by kernel_rfl) (by kernel_rfl) (by kernel_rfl) (by kernel_rfl) (by kernel_rfl) (fun _ _ _ h => h) hS4 (.inl ⟨by kernel_rfl, fun W' hS' => ?_⟩) ?_
              · go_simp
              refine wpAnyHI_takeE (i := 15) (v := .bool true) (some 43) rfl rfl (by kernel_rfl) (by kernel_rfl) (by kernel_rfl) (by kernel_rfl) (by kernel_rfl) (fun _ _ _ h => h) hS4 (.inl ⟨by kernel_rfl, fun W' hS' => ?_⟩) ?_
              · go_simp
              refine wpAnyHI_takeE (i := 16) (v := .bool true) (some 44) rfl rfl (by kernel_rfl) (by kernel_rfl) (by kernel_rfl) (by kernel_rfl) (by kernel_rfl) (fun _ _ _ h => h) hS4 (.inl ⟨by kernel_rfl, fun W' hS' => ?_⟩) ?_
              · go_simp
              refine wpAnyHI_takeW (i := 17) (v := undef) (some 45) rfl rfl (by kernel_rfl) (by kernel_rfl) (by kernel_rfl) (by kernel_rfl) (fun _ _ _ h => h) (.inr ⟨by kernel_rfl, rfl⟩) ?_
              refine wpAnyHI_takeE (i := 18) (v := undef) (some 46) rfl rfl (by kernel_rfl) (by kernel_rfl) (by kernel_rfl) (by kernel_rfl) (by kernel_rfl) (fun _ _ _ h => h) hS4 (.inr ⟨by kernel_rfl, rfl⟩) ?_
              refine wpAnyHI_takeE (i := 19) (v := undef) (some 47) rfl rfl (by kernel_rfl) (by kernel_rfl) (by kernel_rfl) (by kernel_rfl) (by kernel_rfl) (fun _ _ _ h => h) hS4 (.inr ⟨by kernel_rfl, rfl⟩) ?_
              refine wpAnyHI_takeE (i := 20) (v := undef) (some 48) rfl rfl (by kernel_rfl) (by kernel_rfl) (by kernel_rfl) (by kernel_rfl) (by kernel_rfl) (fun _ _ _ h => h) hS4 (.inr ⟨by kernel_rfl, rfl⟩) ?_
              refine wpAnyHI_takeE (i := 21) (v := undef) (some 49) rfl rfl (by kernel_rfl) (by kernel_rfl) (by kernel_rfl) (by kernel_rfl) (by kernel_rfl) (fun _ _ _ h => h) hS4 (.inr ⟨by kernel_rfl, rfl⟩) ?_
              refine wpAnyHI_takeE (i := 22) (v := undef) (some 50) rfl rfl (by kernel_rfl) (by kernel_rfl) (by kernel_rfl) (by kernel_rfl) (by kernel_rfl) (fun _ _ _ h => h) hS4 (.inr ⟨by kernel_rfl, rfl⟩) ?_
              refine wpAnyHI_takeE (i := 23) (v := .bool true) (some 51) rfl rfl (by kernel_rfl) (by kernel_rfl) (by kernel_rfl) (by kernel_rfl) (by kernel_rfl) (fun _ _ _ h => h) hS4 (.inl ⟨by kernel_rfl, fun W' hS' => ?_⟩) ?_
              · go_simp
              refine wpAnyHI_end (by kernel_rfl) ?_
              show KR _ _
              refine act_eq (K := KR) (a' := { tmps := #[.agg #[.slice A n c], .slice A2 m d, .slice (some ⟨b, off, none⟩) k f, .pointer (some ⟨w.heap.size, 0, none⟩), undef, undef, u6, .int .i64 (j : Int), undef, undef, undef, undef, .agg #[.slice A n c], .slice A2 m d, .int .i64 0, .bool false, undef, undef, undef, .slice (some ⟨b, off, none⟩) k f, .int .i64 (k : Int), .bool (decide (1000 < (k : Int))), .int .i64 (j : Int), .slice (some ⟨b, off, none⟩) k f, .int .i64 (k : Int), .bool true, u26, u27, .agg #[.slice A n c], .slice (some ⟨b, off, none⟩) k f, .int .i64 (j : Int), .pointer (some ⟨b, off + j * 2, none⟩), .pointer (some ⟨b, off + j * 2, none⟩), .slice A' m' c', .int .i64 0, .bool false, .bool false, .slice (some ⟨b, off, none⟩) k f, .int .i64 (j : Int), .pointer (some ⟨b, off + j * 2, none⟩), .pointer (some ⟨b, off + j * 2 + 1, none⟩), .int .i64 s.2, .bool true, .bool true, .bool true, undef, undef, undef, undef, undef, undef, .bool true, undef, undef, undef, undef, undef, undef, undef, undef, undef, undef, undef, undef, undef, undef, undef, undef, undef, undef, undef, undef, undef, undef, undef, undef, undef, undef, undef, undef, undef, undef, undef, undef, undef, undef, undef, undef, undef, undef, undef, undef, undef, undef, undef], defers := [] }) (by kernel_rfl) ?_
              refine hKR _ _ ?_
              go_wp2_with (fail)
              go_ret
              exact ⟨ret_int Hbad.out, hB4⟩
            · by_cases hgt : 1099511627776 < s.2
              · have Hbad := Lib.hid (show (3 : Int) = rcheckDoomF ts xs ss by rw [Hcf.out, if_pos (any_at Hs.out.1 (show stepBad ts s = true by unfold stepBad; simp [hgt]))])
                refine wpAnyHI_takeE (i := 7) (v := .bool false) (some 35) rfl rfl (by kernel_rfl) (by kernel_rfl) (by kernel_rfl) (by kernel_rfl) (by kernel_rfl) (fun _ _ _ h => h) hS4 (.inl ⟨by kernel_rfl, fun W' hS' => ?_⟩) ?_
                · go_simp
                refine wpAnyHI_takeE (i := 8) (v := .bool false) (some 36) rfl rfl (by kernel_rfl) (by kernel_rfl) (by kernel_rfl) (by kernel_rfl) (by kernel_rfl) (fun _ _ _ h => h) hS4 (.inl ⟨by kernel_rfl, fun W' hS' => ?_⟩) ?_
                · go_simp
                refine wpAnyHI_takeW (i := 9) (v := .slice (some ⟨b, off, none⟩) k f) (some 37) rfl rfl (by kernel_rfl) (by kernel_rfl) (by kernel_rfl) (by kernel_rfl) (fun _ _ _ h => h) (.inl ⟨by kernel_rfl, fun W' hS' => ?_⟩) ?_
                · go_simp
                refine wpAnyHI_takeE (i := 10) (v := .int .i64 (j : Int)) (some 38) rfl rfl (by kernel_rfl) (by kernel_rfl) (by kernel_rfl) (by kernel_rfl) (by kernel_rfl) (fun _ _ _ h => h) hS4 (.inl ⟨by kernel_rfl, fun W' hS' => ?_⟩) ?_
                · go_simp
                refine wpAnyHI_takeE (i := 11) (v := .pointer (some ⟨b, off + j * 2, none⟩)) (some 39) rfl rfl (by kernel_rfl) (by kernel_rfl) (by kernel_rfl) (by kernel_rfl) (by kernel_rfl) (fun _ _ _ h => h) hS4 (.inl ⟨by kernel_rfl, fun W' hS' => ?_⟩) ?_
                · go_simp
                refine wpAnyHI_takeE (i := 12) (v := .pointer (some ⟨b, off + j * 2 + 1, none⟩)) (some 40) rfl rfl (by kernel_rfl) (by kernel_rfl) (by kernel_rfl) (by kernel_rfl) (by kernel_rfl) (fun _ _ _ h => h) hS4 (.inl ⟨by kernel_rfl, fun W' hS' => ?_⟩) ?_
                · go_simp
                refine wpAnyHI_takeE (i := 13) (v := .int .i64 s.2) (some 41) rfl rfl (by kernel_rfl) (by kernel_rfl) (by kernel_rfl) (by kernel_rfl) (by kernel_rfl) (fun _ _ _ h => h) hS4 (.inl ⟨by kernel_rfl, fun W' hS' => ?_⟩) ?_
                · have q := hcell W' hS'; go_simp
                refine wpAnyHI_takeE (i := 14) (v := .bool false) (some 42) rfl rfl (by kernel_rfl) (by kernel_rfl) (by kernel_rfl) (by kernel_rfl) (by kernel_rfl) (fun _ _ _ h => h) hS4 (.inl ⟨by kernel_rfl, fun W' hS' => ?_⟩) ?_
                · go_simp
                refine wpAnyHI_takeE (i := 15) (v := .bool false) (some 43) rfl rfl (by kernel_rfl) (by kernel_rfl) (by kernel_rfl) (by kernel_rfl) (by kernel_rfl) (fun _ _ _ h => h) hS4 (.inl ⟨by kernel_rfl, fun W' hS' => ?_⟩) ?_
                · go_simp
                refine wpAnyHI_takeE (i := 16) (v := .bool false) (some 44) rfl rfl (by kernel_rfl) (by kernel_rfl) (by kernel_rfl) (by kernel_rfl) (by kernel_rfl) (fun _ _ _ h => h) hS4 (.inl ⟨by kernel_rfl, fun W' hS' => ?_⟩) ?_
                · go_simp
                refine wpAnyHI_takeW (i := 17) (v := .slice (some ⟨b, off, none⟩) k f) (some 45) rfl rfl (by kernel_rfl) (by kernel_rfl) (by kernel_rfl) (by kernel_rfl) (fun _ _ _ h => h) (.inl ⟨by kernel_rfl, fun W' hS' => ?_⟩) ?_
                · go_simp
                refine wpAnyHI_takeE (i := 18) (v := .int .i64 (j : Int)) (some 46) rfl rfl (by kernel_rfl) (by kernel_rfl) (by kernel_rfl) (by kernel_rfl) (by kernel_rfl) (fun _ _ _ h => h) hS4 (.inl ⟨by kernel_rfl, fun W' hS' => ?_⟩) ?_
                · go_simp
                refine wpAnyHI_takeE (i := 19) (v := .pointer (some ⟨b, off + j * 2, none⟩)) (some 47) rfl rfl (by kernel_rfl) (by kernel_rfl) (by kernel_rfl) (by kernel_rfl) (by kernel_rfl) (fun _ _ _ h => h) hS4 (.inl ⟨by kernel_rfl, fun W' hS' => ?_⟩) ?_
                · go_simp
                refine wpAnyHI_takeE (i := 20) (v := .pointer (some ⟨b, off + j * 2 + 1, none⟩)) (some 48) rfl rfl (by kernel_rfl) (by kernel_rfl) (by kernel_rfl) (by kernel_rfl) (by kernel_rfl) (fun _ _ _ h => h) hS4 (.inl ⟨by kernel_rfl, fun W' hS' => ?_⟩) ?_
                · go_simp
                refine wpAnyHI_takeE (i := 21) (v := .int .i64 s.2) (some 49) rfl rfl (by kernel_rfl) (by kernel_rfl) (by kernel_rfl) (by kernel_rfl) (by kernel_rfl) (fun _ _ _ h => h) hS4 (.inl ⟨by kernel_rfl, fun W' hS' => ?_⟩) ?_
                · have q := hcell W' hS'; go_simp
                refine wpAnyHI_takeE (i := 22) (v := .bool true) (some 50) rfl rfl (by kernel_rfl) (by kernel_rfl) (by kernel_rfl) (by kernel_rfl) (by kernel_rfl) (fun _ _ _ h => h) hS4 (.inl ⟨by kernel_rfl, fun W' hS' => ?_⟩) ?_
                · go_simp
                refine wpAnyHI_takeE (i := 23) (v := .bool true) (some 51) rfl rfl (by kernel_rfl) (by kernel_rfl) (by kernel_rfl) (by kernel_rfl) (by kernel_rfl) (fun _ _ _ h => h) hS4 (.inl ⟨by kernel_rfl, fun W' hS' => ?_⟩) ?_
                · go_simp
                refine wpAnyHI_end (by kernel_rfl) ?_
                show KR _ _
                refine act_eq (K := KR) (a' := { tmps := #[.agg #[.slice A n c], .slice A2 m d, .slice (some ⟨b, off, none⟩) k f, .pointer (some ⟨w.heap.size, 0, none⟩), undef, undef, u6, .int .i64 (j : Int), undef, undef, undef, undef, .agg #[.slice A n c], .slice A2 m d, .int .i64 0, .bool false, undef, undef, undef, .slice (some ⟨b, off, none⟩) k f, .int .i64 (k : Int), .bool (decide (1000 < (k : Int))), .int .i64 (j : Int), .slice (some ⟨b, off, none⟩) k f, .int .i64 (k : Int), .bool true, u26, u27, .agg #[.slice A n c], .slice (some ⟨b, off, none⟩) k f, .int .i64 (j : Int), .pointer (some ⟨b, off + j * 2, none⟩), .pointer (some ⟨b, off + j * 2, none⟩), .slice A' m' c', .int .i64 0, .bool false, .bool false, .slice (some ⟨b, off, none⟩) k f, .int .i64 (j : Int), .pointer (some ⟨b, off + j * 2, none⟩), .pointer (some ⟨b, off + j * 2 + 1, none⟩), .int .i64 s.2, .bool false, .bool false, .bool false, .slice (some ⟨b, off, none⟩) k f, .int .i64 (j : Int), .pointer (some ⟨b, off + j * 2, none⟩), .pointer (some ⟨b, off + j * 2 + 1, none⟩), .int .i64 s.2, .bool true, .bool true, undef, undef, undef, undef, undef, undef, undef, undef, undef, undef, undef, undef, undef, undef, undef, undef, undef, undef, undef, undef, undef, undef, undef, undef, undef, undef, undef, undef, undef, undef, undef, undef, undef, undef, undef, undef, undef, undef, undef, undef, undef, undef, undef], defers := [] }) (by kernel_rfl) ?_
                refine hKR _ _ ?_
                go_wp2_with (fail)
                go_ret
                exact ⟨ret_int Hbad.out, hB4⟩
              · have Hok := Lib.hid (show stepBad ts s = false by unfold stepBad; rw [← Hr2.out]; simp; omega)
                refine wpAnyHI_takeE (i := 7) (v := .bool false) (some 35) rfl rfl (by kernel_rfl) (by kernel_rfl) (by kernel_rfl) (by kernel_rfl) (by kernel_rfl) (fun _ _ _ h => h) hS4 (.inl ⟨by kernel_rfl, fun W' hS' => ?_⟩) ?_
                · go_simp
                refine wpAnyHI_takeE (i := 8) (v := .bool false) (some 36) rfl rfl (by kernel_rfl) (by kernel_rfl) (by kernel_rfl) (by kernel_rfl) (by kernel_rfl) (fun _ _ _ h => h) hS4 (.inl ⟨by kernel_rfl, fun W' hS' => ?_⟩) ?_
                · go_simp
                refine wpAnyHI_takeW (i := 9) (v := .slice (some ⟨b, off, none⟩) k f) (some 37) rfl rfl (by kernel_rfl) (by kernel_rfl) (by kernel_rfl) (by kernel_rfl) (fun _ _ _ h => h) (.inl ⟨by kernel_rfl, fun W' hS' => ?_⟩) ?_
                · go_simp
                refine wpAnyHI_takeE (i := 10) (v := .int .i64 (j : Int)) (some 38) rfl rfl (by kernel_rfl) (by kernel_rfl) (by kernel_rfl) (by kernel_rfl) (by kernel_rfl) (fun _ _ _ h => h) hS4 (.inl ⟨by kernel_rfl, fun W' hS' => ?_⟩) ?_
                · go_simp
                refine wpAnyHI_takeE (i := 11) (v := .pointer (some ⟨b, off + j * 2, none⟩)) (some 39) rfl rfl (by kernel_rfl) (by kernel_rfl) (by kernel_rfl) (by kernel_rfl) (by kernel_rfl) (fun _ _ _ h => h) hS4 (.inl ⟨by kernel_rfl, fun W' hS' => ?_⟩) ?_
                · go_simp
                refine wpAnyHI_takeE (i := 12) (v := .pointer (some ⟨b, off + j * 2 + 1, none⟩)) (some 40) rfl rfl (by kernel_rfl) (by kernel_rfl) (by kernel_rfl) (by kernel_rfl) (by kernel_rfl) (fun _ _ _ h => h) hS4 (.inl ⟨by kernel_rfl, fun W' hS' => ?_⟩) ?_
                · go_simp
                refine wpAnyHI_takeE (i := 13) (v := .int .i64 s.2) (some 41) rfl rfl (by kernel_rfl) (by kernel_rfl) (by kernel_rfl) (by kernel_rfl) (by kernel_rfl) (fun _ _ _ h => h) hS4 (.inl ⟨by kernel_rfl, fun W' hS' => ?_⟩) ?_
                · have q := hcell W' hS'; go_simp
                refine wpAnyHI_takeE (i := 14) (v := .bool false) (some 42) rfl rfl (by kernel_rfl) (by kernel_rfl) (by kernel_rfl) (by kernel_rfl) (by kernel_rfl) (fun _ _ _ h => h) hS4 (.inl ⟨by kernel_rfl, fun W' hS' => ?_⟩) ?_
                · go_simp
                refine wpAnyHI_takeE (i := 15) (v := .bool false) (some 43) rfl rfl (by kernel_rfl) (by kernel_rfl) (by kernel_rfl) (by kernel_rfl) (by kernel_rfl) (fun _ _ _ h => h) hS4 (.inl ⟨by kernel_rfl, fun W' hS' => ?_⟩) ?_
                · go_simp
                refine wpAnyHI_takeE (i := 16) (v := .bool false) (some 44) rfl rfl (by kernel_rfl) (by kernel_rfl) (by kernel_rfl) (by kernel_rfl) (by kernel_rfl) (fun _ _ _ h => h) hS4 (.inl ⟨by kernel_rfl, fun W' hS' => ?_⟩) ?_
                · go_simp
                refine wpAnyHI_takeW (i := 17) (v := .slice (some ⟨b, off, none⟩) k f) (some 45) rfl rfl (by kernel_rfl) (by kernel_rfl) (by kernel_rfl) (by kernel_rfl) (fun _ _ _ h => h) (.inl ⟨by kernel_rfl, fun W' hS' => ?_⟩) ?_
                · go_simp
                refine wpAnyHI_takeE (i := 18) (v := .int .i64 (j : Int)) (some 46) rfl rfl (by kernel_rfl) (by kernel_rfl) (by kernel_rfl) (by kernel_rfl) (by kernel_rfl) (fun _ _ _ h => h) hS4 (.inl ⟨by kernel_rfl, fun W' hS' => ?_⟩) ?_
                · go_simp
                refine wpAnyHI_takeE (i := 19) (v := .pointer (some ⟨b, off + j * 2, none⟩)) (some 47) rfl rfl (by kernel_rfl) (by kernel_rfl) (by kernel_rfl) (by kernel_rfl) (by kernel_rfl) (fun _ _ _ h => h) hS4 (.inl ⟨by kernel_rfl, fun W' hS' => ?_⟩) ?_
                · go_simp
                refine wpAnyHI_takeE (i := 20) (v := .pointer (some ⟨b, off + j * 2 + 1, none⟩)) (some 48) rfl rfl (by kernel_rfl) (by kernel_rfl) (by kernel_rfl) (by kernel_rfl) (by kernel_rfl) (fun _ _ _ h => h) hS4 (.inl ⟨by kernel_rfl, fun W' hS' => ?_⟩) ?_
                · go_simp
                refine wpAnyHI_takeE (i := 21) (v := .int .i64 s.2) (some 49) rfl rfl (by kernel_rfl) (by kernel_rfl) (by kernel_rfl) (by kernel_rfl) (by kernel_rfl) (fun _ _ _ h => h) hS4 (.inl ⟨by kernel_rfl, fun W' hS' => ?_⟩) ?_
                · have q := hcell W' hS'; go_simp
                refine wpAnyHI_takeE (i := 22) (v := .bool false) (some 50) rfl rfl (by kernel_rfl) (by kernel_rfl) (by kernel_rfl) (by kernel_rfl) (by kernel_rfl) (fun _ _ _ h => h) hS4 (.inl ⟨by kernel_rfl, fun W' hS' => ?_⟩) ?_
                · go_simp
                refine wpAnyHI_takeE (i := 23) (v := .bool false) (some 51) rfl rfl (by kernel_rfl) (by kernel_rfl) (by kernel_rfl) (by kernel_rfl) (by kernel_rfl) (fun _ _ _ h => h) hS4 (.inl ⟨by kernel_rfl, fun W' hS' => ?_⟩) ?_
                · go_simp
                refine wpAnyHI_end (by kernel_rfl) ?_
                show KR _ _
                refine act_eq (K := KR) (a' := { tmps := #[.agg #[.slice A n c], .slice A2 m d, .slice (some ⟨b, off, none⟩) k f, .pointer (some ⟨w.heap.size, 0, none⟩), undef, undef, u6, .int .i64 (j : Int), undef, undef, undef, undef, .agg #[.slice A n c], .slice A2 m d, .int .i64 0, .bool false, undef, undef, undef, .slice (some ⟨b, off, none⟩) k f, .int .i64 (k : Int), .bool (decide (1000 < (k : Int))), .int .i64 (j : Int), .slice (some ⟨b, off, none⟩) k f, .int .i64 (k : Int), .bool true, u26, u27, .agg #[.slice A n c], .slice (some ⟨b, off, none⟩) k f, .int .i64 (j : Int), .pointer (some ⟨b, off + j * 2, none⟩), .pointer (some ⟨b, off + j * 2, none⟩), .slice A' m' c', .int .i64 0, .bool false, .bool false, .slice (some ⟨b, off, none⟩) k f, .int .i64 (j : Int), .pointer (some ⟨b, off + j * 2, none⟩), .pointer (some ⟨b, off + j * 2 + 1, none⟩), .int .i64 s.2, .bool false, .bool false, .bool false, .slice (some ⟨b, off, none⟩) k f, .int .i64 (j : Int), .pointer (some ⟨b, off + j * 2, none⟩), .pointer (some ⟨b, off + j * 2 + 1, none⟩), .int .i64 s.2, .bool false, .bool false, undef, undef, undef, undef, undef, undef, undef, undef, undef, undef, undef, undef, undef, undef, undef, undef, undef, undef, undef, undef, undef, undef, undef, undef, undef, undef, undef, undef, undef, undef, undef, undef, undef, undef, undef, undef, undef, undef, undef, undef, undef, undef, undef], defers := [] }) (by kernel_rfl) ?_
                refine hKR _ _ ?_
                go_wp2_with (fail)
                go_roundg (k - (j + 1))
                case measure => omega
                case rel =>
                  refine ⟨j + 1, ⟨by omega, rfl, by simp⟩, (bxBelow y0 ((below_drew wr).trans hS4) y0.lt), hB4, fun t s' ht hs' => ?_⟩
                  rcases Nat.lt_or_ge t j with h | h
                  · exact Hall.out t s' h hs'
                  · obtain rfl : t = j := by omega
                    obtain rfl : s = s' := by have := Hs.out.1; rw [hs'] at this; exact (Option.some.inj this).symm
                    exact Hok.out
          · have hn2 : (r2 != 0) = true := by simp [h20]
            have Hbad := Lib.hid (show (3 : Int) = rcheckDoomF ts xs ss by rw [Hcf.out, if_pos (any_at Hs.out.1 (show stepBad ts s = true by unfold stepBad; rw [← Hr2.out]; simp [h20]))])
            refine wpAnyHI_takeE (i := 7) (v := .bool true) (some 35) rfl rfl (by kernel_rfl) (by kernel_rfl) (by kernel_rfl) (by kernel_rfl) (by kernel_rfl) (fun _ _ _ h => h) hS4 (.inl ⟨by kernel_rfl, fun W' hS' => ?_⟩) ?_
            · go_simp
            refine wpAnyHI_takeE (i := 8) (v := .bool true) (some 36) rfl rfl (by kernel_rfl) (by kernel_rfl) (by kernel_rfl) (by kernel_rfl) (by kernel_rfl) (fun _ _ _ h => h) hS4 (.inl ⟨by kernel_rfl, fun W' hS' => ?_⟩) ?_
            · go_simp
            refine wpAnyHI_takeW (i := 9) (v := undef) (some 37) rfl rfl (by kernel_rfl) (by kernel_rfl) (by kernel_rfl) (by kernel_rfl) (fun _ _ _ h => h) (.inr ⟨by kernel_rfl, rfl⟩) ?_
            refine wpAnyHI_takeE (i := 10) (v := undef) (some 38) rfl rfl (by kernel_rfl) (by kernel_rfl) (by kernel_rfl) (by kernel_rfl) (by kernel_rfl) (fun _ _ _ h => h) hS4 (.inr ⟨by kernel_rfl, rfl⟩) ?_
            refine wpAnyHI_takeE (i := 11) (v := undef) (some 39) rfl rfl (by kernel_rfl) (by kernel_rfl) (by kernel_rfl) (by kernel_rfl) (by kernel_rfl) (fun _ _ _ h => h) hS4 (.inr ⟨by kernel_rfl, rfl⟩) ?_
            refine wpAnyHI_takeE (i := 12) (v := undef) (some 40) rfl rfl (by kernel_rfl) (by kernel_rfl) (by kernel_rfl) (by kernel_rfl) (by kernel_rfl) (fun _ _ _ h => h) hS4 (.inr ⟨by kernel_rfl, rfl⟩) ?_
            refine wpAnyHI_takeE (i := 13) (v := undef) (some 41) rfl rfl (by kernel_rfl) (by kernel_rfl) (by kernel_rfl) (by kernel_rfl) (by kernel_rfl) (fun _ _ _ h => h) hS4 (.inr ⟨by kernel_rfl, rfl⟩) ?_
            refine wpAnyHI_takeE (i := 14) (v := undef) (some 42) rfl rfl (by kernel_rfl) (by kernel_rfl) (by kernel_rfl) (by kernel_rfl) (by kernel_rfl) (fun _ _ _ h => h) hS4 (.inr ⟨by kernel_rfl, rfl⟩) ?_
            refine wpAnyHI_takeE (i := 15) (v := .bool true) (some 43) rfl rfl (by kernel_rfl) (by kernel_rfl) (by kernel_rfl) (by kernel_rfl) (by kernel_rfl) (fun _ _ _ h => h) hS4 (.inl ⟨by kernel_rfl, fun W' hS' => ?_⟩) ?_
            · go_simp
            refine wpAnyHI_takeE (i := 16) (v := .bool true) (some 44) rfl rfl (by kernel_rfl) (by kernel_rfl) (by kernel_rfl) (by kernel_rfl) (by kernel_rfl) (fun _ _ _ h => h) hS4 (.inl ⟨by kernel_rfl, fun W' hS' => ?_⟩) ?_
            · go_simp
            refine wpAnyHI_takeW (i := 17) (v := undef) (some 45) rfl rfl (by kernel_rfl) (by kernel_rfl) (by kernel_rfl) (by kernel_rfl) (fun _ _ _ h => h) (.inr ⟨by kernel_rfl, rfl⟩) ?_
            refine wpAnyHI_takeE (i := 18) (v := undef) (some 46) rfl rfl (by kernel_rfl) (by kernel_rfl) (by kernel_rfl) (by kernel_rfl) (by kernel_rfl) (fun _ _ _ h => h) hS4 (.inr ⟨by kernel_rfl, rfl⟩) ?_
            refine wpAnyHI_takeE (i := 19) (v := undef) (some 47) rfl rfl (by kernel_rfl) (by kernel_rfl) (by kernel_rfl) (by kernel_rfl) (by kernel_rfl) (fun _ _ _ h => h) hS4 (.inr ⟨by kernel_rfl, rfl⟩) ?_
            refine wpAnyHI_takeE (i := 20) (v := undef) (some 48) rfl rfl (by kernel_rfl) (by kernel_rfl) (by kernel_rfl) (by kernel_rfl) (by kernel_rfl) (fun _ _ _ h => h) hS4 (.inr ⟨by kernel_rfl, rfl⟩) ?_
            refine wpAnyHI_takeE (i := 21) (v := undef) (some 49) rfl rfl (by kernel_rfl) (by kernel_rfl) (by kernel_rfl) (by kernel_rfl) (by kernel_rfl) (fun _ _ _ h => h) hS4 (.inr ⟨by kernel_rfl, rfl⟩) ?_
            refine wpAnyHI_takeE (i := 22) (v := undef) (some 50) rfl rfl (by kernel_rfl) (by kernel_rfl) (by kernel_rfl) (by kernel_rfl) (by kernel_rfl) (fun _ _ _ h => h) hS4 (.inr ⟨by kernel_rfl, rfl⟩) ?_
            refine wpAnyHI_takeE (i := 23) (v := .bool true) (some 51) rfl rfl (by kernel_rfl) (by kernel_rfl) (by kernel_rfl) (by kernel_rfl) (by kernel_rfl) (fun _ _ _ h => h) hS4 (.inl ⟨by kernel_rfl, fun W' hS' => ?_⟩) ?_
            · go_simp
            refine wpAnyHI_end (by kernel_rfl) ?_
            show KR _ _
            refine act_eq (K := KR) (a' := { tmps := #[.agg #[.slice A n c], .slice A2 m d, .slice (some ⟨b, off, none⟩) k f, .pointer (some ⟨w.heap.size, 0, none⟩), undef, undef, u6, .int .i64 (j : Int), undef, undef, undef, undef, .agg #[.slice A n c], .slice A2 m d, .int .i64 0, .bool false, undef, undef, undef, .slice (some ⟨b, off, none⟩) k f, .int .i64 (k : Int), .bool (decide (1000 < (k : Int))), .int .i64 (j : Int), .slice (some ⟨b, off, none⟩) k f, .int .i64 (k : Int), .bool true, u26, u27, .agg #[.slice A n c], .slice (some ⟨b, off, none⟩) k f, .int .i64 (j : Int), .pointer (some ⟨b, off + j * 2, none⟩), .pointer (some ⟨b, off + j * 2, none⟩), .slice A' m' c', .int .i64 r2, .bool true, .bool true, undef, undef, undef, undef, undef, undef, .bool true, .bool true, undef, undef, undef, undef, undef, undef, .bool true, undef, undef, undef, undef, undef, undef, undef, undef, undef, undef, undef, undef, undef, undef, undef, undef, undef, undef, undef, undef, undef, undef, undef, undef, undef, undef, undef, undef, undef, undef, undef, undef, undef, undef, undef, undef, undef, undef, undef, undef, undef, undef, undef], defers := [] }) (by kernel_rfl) ?_
            refine hKR _ _ ?_
            go_wp2_with (fail)
            go_ret
            exact ⟨ret_int Hbad.out, hB4⟩
        · obtain rfl : k = j := by omega
          have hnj : ¬ (k : Int) < (k : Int) := by omega
          have hok : ss.any (stepBad ts) = false := any_none (fun t s ht hs => Hall.out t s (by have := Hn.out.2.2; omega) hs)
          have hst : ∀ s ∈ ss, statedF ts s.1 = 0 := fun s hs => by
            obtain ⟨t, ht, rfl⟩ := List.getElem_of_mem hs
            exact bad_no (Hall.out t _ (by have := Hn.out.2.2; omega) (List.getElem?_eq_getElem ht))
          have hcf : rcheckDoomF ts xs ss = if ss.any (stepWrong ts ss) then 14 else if belowF ss xs 2199023255552 then 0 else 14 := by rw [Hcf.out, if_neg (by rw [hok]; simp)]
          have Hc2 := Lib.hid (And.intro hcf hst)
          clear hcf hst hok Hcf Hall
          have hn5 : 1 ≤ n ∧ n ≤ 5 := by have := Hv.out.2.1.h1; have := Hv.out.2.1.h5; have := Hn.out.1; omega
          go_wp2_with (fail)
          go_loopg [8] k (fun g v8 wr => ∃ j : Nat, (j ≤ k ∧ g = k - j ∧ v8 = .int .i64 (j : Int)) ∧ Boxed wr w.heap.size 24 (.slice A n c) ∧ Below w.heap.size w wr ∧ ∀ (t : Nat) (s : List Int × Int), t < j → ss[t]? = some s → stepWrong ts ss s = false)
          case atStart => exact ⟨0, ⟨Nat.zero_le _, rfl, rfl⟩, y0, hB1, fun t s h => by omega⟩
          case round =>
            clear y0 hB1 c0 hz hnj
            obtain ⟨j, ⟨hjk, rfl, rfl⟩, y0, hB1, hall⟩ := hrel
            have Hall := Lib.hid hall
            have c0 := y0.cell
            have hz := y0.lt
            clear hall
            by_cases hj : j < k
            · obtain ⟨b, off, rfl, hbB, hcs⟩ := (hs.below hB1 hB3).2.2 (by omega)
              obtain ⟨s, hsj⟩ : ∃ s, ss[j]? = some s := ⟨_, List.getElem?_eq_getElem (by have := Hn.out.2.2; omega)⟩
              obtain ⟨A', m', c', h1, h2, h3⟩ := hcs j s hsj
              have hs0 := Hc2.out.2 s (List.mem_of_getElem? hsj)
              obtain rfl : m' = n := by have e1 := h3.len; have e2 := (stated_valid hs0).2.1; have e3 := Hn.out.1; omega
              have Hs := Lib.hid (And.intro hsj (And.intro hcs hs0))
              clear hsj hcs hs0
              have hBd : Below w.heap.size w wr.drew := hB1.trans ⟨rfl, rfl, rfl, Nat.le_refl _, fun _ _ => rfl⟩
              have h3d : IntsAt wr.drew B3 A' m' s.1 := h3
              have hzw := hB1.size
              have hcell : ∀ W, Below wr.heap.size wr.drew W → W.cell? ⟨b, off + j * 2 + 1, none⟩ = some (.int .i64 s.2) := fun W hb => (hb.cell (p := ⟨b, off + j * 2 + 1, none⟩) (show b < wr.heap.size by omega)).trans h2
              have hcell1 : ∀ W, Below wr.heap.size wr.drew W → W.cell? ⟨b, off + j * 2, none⟩ = some (.slice A' m' c') := fun W hb => (hb.cell (p := ⟨b, off + j * 2, none⟩) (show b < wr.heap.size by omega)).trans h1
              have hcell0 : ∀ W, Below wr.heap.size wr.drew W → W.cell? ⟨w.heap.size, 0, none⟩ = some (.slice A m' c) := fun W hb => (hb.cell (p := ⟨w.heap.size, 0, none⟩) hz).trans c0
              have hjj : IntKind.i64.wrap ((j : Int) + 1) = (j : Int) + 1 := by rw [IntKind.wrap_i64]; omega
              go_wp2_with (fail)
              refine region_held_wp 1 (fun W' => Below wr.heap.size wr.drew W') (fun j => decide (j ≤ 8)) (by kernel_rfl) ?_
              intro KR hKR
              have hS : Below wr.heap.size wr.drew wr.drew := Below.refl _ _
              refine wpAnyHI_takeE (i := 1) (v := .slice (some ⟨b, off, none⟩) k f) (some 60) rfl rfl (by kernel_rfl) (by kernel_rfl) (by kernel_rfl) (by kernel_rfl) (by kernel_rfl) (fun _ _ _ h => h) hS (.inl ⟨by kernel_rfl, fun W' hS' => ?_⟩) ?_
              · go_simp
              refine wpAnyHI_takeE (i := 2) (v := .int .i64 (j : Int)) (some 61) rfl rfl (by kernel_rfl) (by kernel_rfl) (by kernel_rfl) (by kernel_rfl) (by kernel_rfl) (fun _ _ _ h => h) hS (.inl ⟨by kernel_rfl, fun W' hS' => ?_⟩) ?_
              · go_simp
              refine wpAnyHI_takeE (i := 3) (v := .pointer (some ⟨b, off + j * 2, none⟩)) (some 62) rfl rfl (by kernel_rfl) (by kernel_rfl) (by kernel_rfl) (by kernel_rfl) (by kernel_rfl) (fun _ _ _ h => h) hS (.inl ⟨by kernel_rfl, fun W' hS' => ?_⟩) ?_
              · go_simp
              refine wpAnyHI_takeE (i := 4) (v := .pointer (some ⟨b, off + j * 2, none⟩)) (some 63) rfl rfl (by kernel_rfl) (by kernel_rfl) (by kernel_rfl) (by kernel_rfl) (by kernel_rfl) (fun _ _ _ h => h) hS (.inl ⟨by kernel_rfl, fun W' hS' => ?_⟩) ?_
              · go_simp
              refine wpAnyHI_takeE (i := 0) (v := .agg #[.slice A m' c]) (some 59) rfl rfl (by kernel_rfl) (by kernel_rfl) (by kernel_rfl) (by kernel_rfl) (by kernel_rfl) (fun _ _ _ h => h) hS (.inl ⟨by kernel_rfl, fun W' hS' => ?_⟩) ?_
              · have q := hcell0 W' hS'; go_simp
              refine wpAnyHI_takeE (i := 6) (v := .agg #[.slice A m' c]) (some 65) rfl rfl (by kernel_rfl) (by kernel_rfl) (by kernel_rfl) (by kernel_rfl) (by kernel_rfl) (fun _ _ _ h => h) hS (.inl ⟨by kernel_rfl, fun W' hS' => ?_⟩) ?_
              · have q := hcell0 W' hS'; go_simp
              refine wpAnyHI_takeE (i := 5) (v := .slice A' m' c') (some 64) rfl rfl (by kernel_rfl) (by kernel_rfl) (by kernel_rfl) (by kernel_rfl) (by kernel_rfl) (fun _ _ _ h => h) hS (.inl ⟨by kernel_rfl, fun W' hS' => ?_⟩) ?_
              · have q := hcell1 W' hS'; go_simp
              refine wpAnyHI_one (i := 7) rfl (by kernel_rfl) ?_
              intro K1 hK1
              go_simp
              refine ⟨trivial, (callsIn_wide.2 (All_any wr.drew A m' c (by omega))).mono ?_⟩
              rintro e w4 ⟨v4, rfl, hrow4, hb4⟩
              have hS4 : Below wr.heap.size wr.drew w4 := hb4
              obtain ⟨g4, cap4, rfl⟩ := ownsRow_pos hrow4 (by omega)
              have hi4 := row_ints hrow4 (by omega)
              have hB4 : Below w.heap.size w w4 := hBd.trans (hb4.mono hBd.size)
              refine hK1 _ _ ⟨fun _ => hS4, ?_⟩
              clear hK1 K1
              refine wpAnyHI_one (i := 8) rfl (by kernel_rfl) ?_
              intro K1 hK1
              go_simp
              refine ⟨trivial, (callsIn_wide.2 (Pulled_any w4 B B3 w4.heap.size A A' (some ⟨g4, 0, none⟩) m' c c' m' cap4 ts s.1 (allL m') (hx.below hB4 hB) (by have := hB4.size; omega) (h3d.below hb4 (by have := hBd.size; omega)) (by have := hB4.size; omega) hi4 (Nat.le_refl _) (by omega) (by omega) (by omega) (fun p hp => by unfold allL at hp; obtain ⟨q, hq, rfl⟩ := List.mem_map.1 hp; have := List.mem_range.1 hq; omega) (stated_bounds Hs.out.2.2))).mono ?_⟩
              intro e w5 hp
              obtain ⟨v5, ok, rfl, hb5, hcase⟩ := pulled_form hp
              clear hp
              have hS5 : Below wr.heap.size wr.drew w5 := hS4.trans (hb5.mono hS4.size)
              have hB5 : Below w.heap.size w w5 := hB4.trans (hb5.mono hB4.size)
              refine hK1 _ _ ⟨fun _ => hS5, ?_⟩
              clear hK1 K1
              refine wpAnyHI_takeW (i := 9) (v := .tuple #[v5, .bool ok]) (some 58) rfl rfl (by kernel_rfl) (by kernel_rfl) (by kernel_rfl) (by kernel_rfl) (fun _ _ _ h => h) (.inl ⟨by kernel_rfl, fun W' hS' => ?_⟩) ?_
              · go_simp
              refine wpAnyHI_takeW (i := 10) (v := v5) (some 68) rfl rfl (by kernel_rfl) (by kernel_rfl) (by kernel_rfl) (by kernel_rfl) (fun _ _ _ h => h) (.inl ⟨by kernel_rfl, fun W' hS' => ?_⟩) ?_
              · go_simp
              refine wpAnyHI_takeW (i := 11) (v := .bool ok) (some 69) rfl rfl (by kernel_rfl) (by kernel_rfl) (by kernel_rfl) (by kernel_rfl) (fun _ _ _ h => h) (.inl ⟨by kernel_rfl, fun W' hS' => ?_⟩) ?_
              · go_simp
              refine wpAnyHI_takeW (i := 12) (v := v5) (some 9) rfl rfl (by kernel_rfl) (by kernel_rfl) (by kernel_rfl) (by kernel_rfl) (fun _ _ _ h => h) (.inl ⟨by kernel_rfl, fun W' hS' => ?_⟩) ?_
              · go_simp
              refine wpAnyHI_takeW (i := 13) (v := .bool ok) (some 10) rfl rfl (by kernel_rfl) (by kernel_rfl) (by kernel_rfl) (by kernel_rfl) (fun _ _ _ h => h) (.inl ⟨by kernel_rfl, fun W' hS' => ?_⟩) ?_
              · go_simp
              refine wpAnyHI_end (by kernel_rfl) ?_
              show KR _ _
              refine act_eq (K := KR) (a' := { tmps := #[.agg #[.slice A m' c], .slice A2 m d, .slice (some ⟨b, off, none⟩) k f, .pointer (some ⟨w.heap.size, 0, none⟩), undef, undef, u6, .int .i64 (k : Int), .int .i64 (j : Int), v5, .bool ok, u11, .agg #[.slice A m' c], .slice A2 m d, .int .i64 0, .bool false, undef, undef, undef, .slice (some ⟨b, off, none⟩) k f, .int .i64 (k : Int), .bool (decide (1000 < (k : Int))), .int .i64 (k : Int), .slice (some ⟨b, off, none⟩) k f, .int .i64 (k : Int), .bool false, u26, u27, u28, u29, u30, u31, u32, u33, u34, u35, u36, u37, u38, u39, u40, u41, u42, u43, u44, u45, u46, u47, u48, u49, u50, u51, .int .i64 (j : Int), .slice (some ⟨b, off, none⟩) k f, .int .i64 (k : Int), .bool true, u56, u57, .tuple #[v5, .bool ok], .agg #[.slice A m' c], .slice (some ⟨b, off, none⟩) k f, .int .i64 (j : Int), .pointer (some ⟨b, off + j * 2, none⟩), .pointer (some ⟨b, off + j * 2, none⟩), .slice A' m' c', .agg #[.slice A m' c], .slice (some ⟨g4, 0, none⟩) m' cap4, .tuple #[v5, .bool ok], v5, .bool ok, u70, u71, u72, u73, u74, u75, u76, u77, u78, u79, u80, u81, u82, u83, u84, u85, u86, u87, u88, u89, u90, undef, undef, undef, undef], defers := [] }) (by kernel_rfl) ?_
              refine hKR _ _ ?_
              clear hKR KR
              have y5 : Boxed w5 w.heap.size 24 (.slice A m' c) := bxBelow y0 ((below_drew wr).trans hS5) y0.lt
              have hz5 := hB5.size
              obtain ⟨wo, rfl⟩ : ∃ wo, wo = wr := ⟨_, rfl⟩
              rcases hcase with ⟨rfl, ys, hys, hrow5⟩ | ⟨rfl, hnone⟩
              · obtain ⟨g5, cap5, rfl⟩ := ownsRow_pos hrow5 (by omega)
                have hi5 := row_ints hrow5 (by omega)
                have hle : s.2 = s.2 := rfl
                have Hy := Lib.hid (And.intro hys (And.intro hi5 (And.intro hS5 hB5)))
                clear hys hi5 hrow5 hS5 hS4 hrow4 hi4 hb4 hb5 hB4 hle hS
                go_wp2_with (fail)
                go_loopg [11] m' (fun g v11 wr => ∃ i : Nat, (i ≤ m' ∧ g = m' - i ∧ v11 = .int .i64 (i : Int)) ∧ Below w5.heap.size w5 wr ∧ ∀ i' : Nat, i' < i → belowF ss (ys.set i' 0) s.2 = true)
                case atStart => exact ⟨0, ⟨Nat.zero_le _, rfl, rfl⟩, Below.refl _ _, fun i' h => by omega⟩
                case round =>
                  clear c0
                  obtain ⟨i, ⟨hin, rfl, rfl⟩, hbi, hyall⟩ := hrel
                  have yi := bxBelow y5 hbi y5.lt
                  have ci := yi.cell
                  have hzi := hbi.size
                  have Hyall := Lib.hid hyall
                  clear hyall
                  by_cases hii : i < m'
                  · have hBi : Below w.heap.size w wr.drew := (Hy.out.2.2.2.trans (hbi.mono hz5)).trans ((below_drew wr).mono (by omega))
                    have hbi5 : Below w5.heap.size w5 wr.drew := hbi.trans ((below_drew wr).mono hzi)
                    have hSi : Below wo.heap.size wo.drew wr.drew := Hy.out.2.2.1.trans (hbi5.mono Hy.out.2.2.1.size)
                    have hiy : IntsAt wr.drew w5.heap.size (some ⟨g5, 0, none⟩) m' ys := Hy.out.2.1.below hbi5 (Nat.le_refl _)
                    have hci : ∀ W, Below wr.heap.size wr.drew W → W.cell? ⟨b, off + j * 2 + 1, none⟩ = some (.int .i64 s.2) := fun W hb => hcell W (hSi.trans (hb.mono hSi.size))
                    have hwi : IntKind.i64.wrap ((i : Int) + 1) = (i : Int) + 1 := by rw [IntKind.wrap_i64]; omega
                    have HB := Lib.hid (And.intro hBi (And.intro hSi hiy))
                    clear hBi hSi hiy hbi5
                    go_wp2
                    refine region_held_wp 1 (fun W' => Below wr.heap.size wr.drew W') (fun j => decide (j ≤ 9)) (by kernel_rfl) ?_
                    intro KR2 hKR2
                    have hS : Below wr.heap.size wr.drew wr.drew := Below.refl _ _
                    refine wpAnyHI_takeE (i := 0) (v := .slice (some ⟨b, off, none⟩) k f) (some 80) rfl rfl (by kernel_rfl) (by kernel_rfl) (by kernel_rfl) (by kernel_rfl) (by kernel_rfl) (fun _ _ _ h => h) hS (.inl ⟨by kernel_rfl, fun W' hS' => ?_⟩) ?_
                    · go_simp
                    refine wpAnyHI_takeE (i := 1) (v := .slice (some ⟨g5, 0, none⟩) m' cap5) (some 81) rfl rfl (by kernel_rfl) (by kernel_rfl) (by kernel_rfl) (by kernel_rfl) (by kernel_rfl) (fun _ _ _ h => h) hS (.inl ⟨by kernel_rfl, fun W' hS' => ?_⟩) ?_
                    · go_simp
                    refine wpAnyHI_takeE (i := 2) (v := .int .i64 (i : Int)) (some 82) rfl rfl (by kernel_rfl) (by kernel_rfl) (by kernel_rfl) (by kernel_rfl) (by kernel_rfl) (fun _ _ _ h => h) hS (.inl ⟨by kernel_rfl, fun W' hS' => ?_⟩) ?_
                    · go_simp
                    refine wpAnyHI_takeE (i := 4) (v := .slice (some ⟨b, off, none⟩) k f) (some 84) rfl rfl (by kernel_rfl) (by kernel_rfl) (by kernel_rfl) (by kernel_rfl) (by kernel_rfl) (fun _ _ _ h => h) hS (.inl ⟨by kernel_rfl, fun W' hS' => ?_⟩) ?_
                    · go_simp
                    refine wpAnyHI_takeE (i := 5) (v := .int .i64 (j : Int)) (some 85) rfl rfl (by kernel_rfl) (by kernel_rfl) (by kernel_rfl) (by kernel_rfl) (by kernel_rfl) (fun _ _ _ h => h) hS (.inl ⟨by kernel_rfl, fun W' hS' => ?_⟩) ?_
                    · go_simp
                    refine wpAnyHI_takeE (i := 6) (v := .pointer (some ⟨b, off + j * 2, none⟩)) (some 86) rfl rfl (by kernel_rfl) (by kernel_rfl) (by kernel_rfl) (by kernel_rfl) (by kernel_rfl) (fun _ _ _ h => h) hS (.inl ⟨by kernel_rfl, fun W' hS' => ?_⟩) ?_
                    · go_simp
                    refine wpAnyHI_takeE (i := 7) (v := .pointer (some ⟨b, off + j * 2 + 1, none⟩)) (some 87) rfl rfl (by kernel_rfl) (by kernel_rfl) (by kernel_rfl) (by kernel_rfl) (by kernel_rfl) (fun _ _ _ h => h) hS (.inl ⟨by kernel_rfl, fun W' hS' => ?_⟩) ?_
                    · go_simp
                    refine wpAnyHI_takeE (i := 8) (v := .int .i64 s.2) (some 88) rfl rfl (by kernel_rfl) (by kernel_rfl) (by kernel_rfl) (by kernel_rfl) (by kernel_rfl) (fun _ _ _ h => h) hS (.inl ⟨by kernel_rfl, fun W' hS' => ?_⟩) ?_
                    · have q := hci W' hS'; go_simp
                    refine wpAnyHI_one (i := 3) rfl (by kernel_rfl) ?_
                    intro K1 hK1
                    go_simp
                    refine ⟨trivial, (callsIn_wide.2 (Visited_any wr.drew w5.heap.size (some ⟨g5, 0, none⟩) m' cap5 ys HB.out.2.2 hzi i hii (by omega))).mono ?_⟩
                    rintro e w6 ⟨v6, rfl, hrow6, hb6⟩
                    obtain ⟨g6, cap6, rfl⟩ := ownsRow_pos hrow6 (by omega)
                    have hi6 := row_ints hrow6 (by omega)
                    have hB6 : Below w.heap.size w w6 := HB.out.1.trans (hb6.mono HB.out.1.size)
                    have hS6 : Below wr.heap.size wr.drew w6 := hb6
                    refine hK1 _ _ ⟨fun _ => hS6, ?_⟩
                    clear hK1 K1
                    refine wpAnyHI_one (i := 9) rfl (by kernel_rfl) ?_
                    intro K1 hK1
                    go_simp
                    refine ⟨trivial, (callsIn_wide.2 (below_any w6 B3 w6.heap.size (some ⟨b, off, none⟩) (some ⟨g6, 0, none⟩) k f m' cap6 ss (ys.set i 0) s.2 (hs.below hB6 hB3) hi6 (fun s' h => by have e1 := (stated_valid (Hc2.out.2 s' h)).2.1; have := Hn.out.1; omega))).mono ?_⟩
                    rintro e w7 ⟨rfl, q7, rfl⟩
                    obtain ⟨bl, hbl⟩ : ∃ bl, bl = belowF ss (ys.set i 0) s.2 := ⟨_, rfl⟩
                    rw [← hbl]
                    have hS7 : Below wr.heap.size wr.drew (w6.drewN q7) := hS6.trans ⟨rfl, rfl, rfl, Nat.le_refl _, fun _ _ => rfl⟩
                    have hB7 : Below w.heap.size w (w6.drewN q7) := hB6.trans ⟨rfl, rfl, rfl, Nat.le_refl _, fun _ _ => rfl⟩
                    refine hK1 _ _ ⟨fun _ => hS7, ?_⟩
                    clear hK1 K1
                    refine wpAnyHI_takeW (i := 10) (v := .bool (!bl)) (some 90) rfl rfl (by kernel_rfl) (by kernel_rfl) (by kernel_rfl) (by kernel_rfl) (fun _ _ _ h => h) (.inl ⟨by kernel_rfl, fun W' hS' => ?_⟩) ?_
                    · go_simp
                    refine wpAnyHI_end (by kernel_rfl) ?_
                    show KR2 _ _
                    refine act_eq (K := KR2) (a' := { tmps := #[.agg #[.slice A m' c], .slice A2 m d, .slice (some ⟨b, off, none⟩) k f, .pointer (some ⟨w.heap.size, 0, none⟩), undef, undef, u6, .int .i64 (k : Int), .int .i64 (j : Int), .slice (some ⟨g5, 0, none⟩) m' cap5, .bool true, .int .i64 (i : Int), .agg #[.slice A m' c], .slice A2 m d, .int .i64 0, .bool false, undef, undef, undef, .slice (some ⟨b, off, none⟩) k f, .int .i64 (k : Int), .bool (decide (1000 < (k : Int))), .int .i64 (k : Int), .slice (some ⟨b, off, none⟩) k f, .int .i64 (k : Int), .bool false, u26, u27, u28, u29, u30, u31, u32, u33, u34, u35, u36, u37, u38, u39, u40, u41, u42, u43, u44, u45, u46, u47, u48, u49, u50, u51, .int .i64 (j : Int), .slice (some ⟨b, off, none⟩) k f, .int .i64 (k : Int), .bool true, u56, u57, .tuple #[.slice (some ⟨g5, 0, none⟩) m' cap5, .bool true], .agg #[.slice A m' c], .slice (some ⟨b, off, none⟩) k f, .int .i64 (j : Int), .pointer (some ⟨b, off + j * 2, none⟩), .pointer (some ⟨b, off + j * 2, none⟩), .slice A' m' c', .agg #[.slice A m' c], .slice (some ⟨g4, 0, none⟩) m' cap4, .tuple #[.slice (some ⟨g5, 0, none⟩) m' cap5, .bool true], .slice (some ⟨g5, 0, none⟩) m' cap5, .bool true, .bool true, .bool true, .int .i64 (i : Int), .pointer (some ⟨w.heap.size, 0, none⟩), .slice A m' c, .int .i64 (m' : Int), .bool true, .bool true, u78, u79, .slice (some ⟨b, off, none⟩) k f, .slice (some ⟨g5, 0, none⟩) m' cap5, .int .i64 (i : Int), .slice (some ⟨g6, 0, none⟩) m' cap6, .slice (some ⟨b, off, none⟩) k f, .int .i64 (j : Int), .pointer (some ⟨b, off + j * 2, none⟩), .pointer (some ⟨b, off + j * 2 + 1, none⟩), .int .i64 s.2, .bool bl, .bool (!bl), undef, undef, undef, undef], defers := [] }) (by kernel_rfl) ?_
                    refine hKR2 _ _ ?_
                    clear hKR2 KR2
                    have Hbl := Lib.hid hbl
                    have HS7 := Lib.hid (And.intro hS7 (And.intro hB7 hbi))
                    clear hbl hS7 hB7 hB6 hS6 hi6 hrow6 hb6 hS
                    cases bl with
                    | false =>
                      have Hres := Lib.hid (show (14 : Int) = rcheckDoomF ts xs ss by rw [Hc2.out.1, if_pos (any_at Hs.out.1 (wrong_yes (i := i) (Hn.out.1 ▸ Hy.out.1) (by have := Hn.out.1; omega) Hbl.out.symm))])
                      go_wp2
                      go_ret
                      exact ⟨ret_int Hres.out, HS7.out.2.1⟩
                    | true =>
                      go_wp2
                      go_roundg (m' - (i + 1))
                      case measure => omega
                      case rel =>
                        refine ⟨i + 1, ⟨by omega, rfl, by simp⟩, HS7.out.2.2.trans (((below_drew wr).trans HS7.out.1).mono hzi), fun i' hi' => ?_⟩
                        rcases Nat.lt_or_ge i' i with h | h
                        · exact Hyall.out i' h
                        · obtain rfl : i' = i := by omega
                          exact Hbl.out.symm
                  · obtain rfl : i = m' := by omega
                    have hni : ¬ (i : Int) < (i : Int) := by omega
                    have Hw := Lib.hid (show stepWrong ts ss s = false from wrong_no (Hn.out.1 ▸ Hy.out.1) (fun i' h => Hyall.out i' (by have := Hn.out.1; omega)))
                    go_wp2
                    go_roundg (k - (j + 1))
                    case measure => omega
                    case rel =>
                      refine ⟨j + 1, ⟨by omega, rfl, by simp⟩, yi, Hy.out.2.2.2.trans (hbi.mono hz5), fun t s' ht hs' => ?_⟩
                      rcases Nat.lt_or_ge t j with h | h
                      · exact Hall.out t s' h hs'
                      · obtain rfl : t = j := by omega
                        obtain rfl : s = s' := by have := Hs.out.1; rw [hs'] at this; exact (Option.some.inj this).symm
                        exact Hw.out
              · have Hy := Lib.hid (And.intro hnone hB5)
                clear hnone hS5 hS4 hrow4 hi4 hb4 hb5 hB4 hS
                go_wp2_with (fail)
                go_loopg [11] 0 (fun g v11 wr => (g = 0 ∧ v11 = .int .i64 0) ∧ Below w5.heap.size w5 wr)
                case atStart => exact ⟨⟨rfl, rfl⟩, Below.refl _ _⟩
                case round =>
                  obtain ⟨⟨rfl, rfl⟩, hbi⟩ := hrel
                  have Hw := Lib.hid (show stepWrong ts ss s = false from wrong_none (Hn.out.1 ▸ Hy.out.1))
                  go_wp2
                  go_roundg (k - (j + 1))
                  case measure => omega
                  case rel =>
                    refine ⟨j + 1, ⟨by omega, rfl, by simp⟩, bxBelow y5 hbi y5.lt, Hy.out.2.trans (hbi.mono hz5), fun t s' ht hs' => ?_⟩
                    rcases Nat.lt_or_ge t j with h | h
                    · exact Hall.out t s' h hs'
                    · obtain rfl : t = j := by omega
                      obtain rfl : s = s' := by have := Hs.out.1; rw [hs'] at this; exact (Option.some.inj this).symm
                      exact Hw.out
            · obtain rfl : k = j := by omega
              have hnj : ¬ (k : Int) < (k : Int) := by omega
              have hno : ss.any (stepWrong ts ss) = false := any_none (fun t s ht hs => Hall.out t s (by have := Hn.out.2.2; omega) hs)
              have hcf : rcheckDoomF ts xs ss = if belowF ss xs 2199023255552 then 0 else 14 := by rw [Hc2.out.1, if_neg (by rw [hno]; simp)]
              have Hcf := Lib.hid hcf
              clear hcf hno Hall
              have hr1 := hr.below hB1 hB2
              have hs1 := hs.below hB1 hB3
              go_wp2_with (fail)
              refine (below_any _ B3 B2 A3 A2 k f m d ss xs 2199023255552 hs1 hr1 (fun s' h => by have e1 := (stated_valid (Hc2.out.2 s' h)).2.1; have := Hn.out.2.1; have := Hv.out.2.2.1; omega)).mono ?_
              rintro e w9 ⟨rfl, q9, rfl⟩
              have hB9 : Below w.heap.size w (wr.drewN q9) := hB1.trans ⟨rfl, rfl, rfl, Nat.le_refl _, fun _ _ => rfl⟩
              obtain ⟨bl, hbl⟩ : ∃ bl, bl = belowF ss xs 2199023255552 := ⟨_, rfl⟩
              rw [← hbl]
              cases bl with
              | false =>
                have Hres := Lib.hid (show (14 : Int) = rcheckDoomF ts xs ss by rw [Hcf.out, if_neg (by rw [← hbl]; simp)])
                clear hbl
                go_wp2_with (fail)
                go_ret
                exact ⟨ret_int Hres.out, hB9⟩
              | true =>
                have Hres := Lib.hid (show (0 : Int) = rcheckDoomF ts xs ss by rw [Hcf.out, if_pos hbl.symm])
                clear hbl
                go_wp2_with (fail)
                go_ret
                exact ⟨ret_int Hres.out, hB9⟩
  · have hcf : rcheckDoomF ts xs ss = r := by unfold rcheckDoomF; rw [← hrr, if_pos h0]
    rw [← hrr]
    have Hs := Lib.hid (And.intro hcf hrr)
    clear hcf hrr
    go_wp2_with (fail)
    refine (Stated_any _ B B2 A A2 n c m d ts xs (hx.below hB1 hB) (by have := hB1.size; omega) (hr.below hB1 hB2) (by have := hB1.size; omega)).mono ?_
    rintro e w3 ⟨rfl, hb⟩
    have hB3 := hB1.trans (hb.mono hB1.size)
    go_wp2_with (fail)
    go_ret
    exact ⟨ret_int (by rw [Hs.out.1, Hs.out.2]), hB3⟩
end Go.Proofs.YthjgecblkagelaaGreat

/- groups$1 (the order of groups) and first. -/
namespace Go.Proofs.YthjgecblkagelaaGreat
open Go.RowKit Go.Shelf

def gcmpF (xs ys : List Int) : Int := orF [cmpF (xs.length : Int) (ys.length : Int), scmpF xs ys]

set_option maxRecDepth 100000 in
set_option maxHeartbeats 4000000 in
theorem gcmp_any (w : World) (B B2 : Nat) (A A2 : Option Addr) (n c m d : Nat) (xs ys : List Int) (hx : IntsAt w B A n xs) (hy : IntsAt w B2 A2 m ys) :
    Calls Tryz.prog 93 #[.slice A n c, .slice A2 m d] w fun e w' => e = .returned (.int .i64 (gcmpF xs ys)) ∧ Below w.heap.size w w' := by
  have Hn := Lib.hid (And.intro hx.len hy.len)
  go_enter Tryz.func93, Tryz.ntmps93
  go_wp2_with (fail)
  refine (cmp_any w (n : Int) (m : Int)).mono ?_
  rintro e w2 ⟨rfl, rfl⟩
  go_wp2_with (fail)
  refine (scmp_any _ B B2 A A2 n c m d xs ys hx hy).mono ?_
  rintro e w3 ⟨rfl, rfl⟩
  go_wp2_with (fail)
  have hb1 : Below w3.heap.size w3 (w3.alloc (.cells #[.int .i64 (cmpF n m), .int .i64 (scmpF xs ys)] 3)) := (Below.refl _ _).alloc (Nat.le_refl _) _
  have hnew : IntsAt (w3.alloc (.cells #[.int .i64 (cmpF n m), .int .i64 (scmpF xs ys)] 3)) (w3.heap.size + 1) (some ⟨w3.heap.size, 0, none⟩) 2 [cmpF n m, scmpF xs ys] :=
    ⟨rfl, by omega, fun _ => ⟨w3.heap.size, 0, rfl, by omega, fun j hj => by
      rcases (by omega : j = 0 ∨ j = 1) with rfl | rfl
      · simp
      · simp⟩⟩
  refine (or_any _ (w3.heap.size + 1) _ 2 2 [cmpF n m, scmpF xs ys] hnew).mono ?_
  rintro e w4 ⟨rfl, rfl⟩
  go_wp2_with (fail)
  go_ret
  exact ⟨ret_int (by unfold gcmpF; rw [Hn.out.1, Hn.out.2]), hb1⟩

def GroupsAt (w : World) (B : Nat) (A : Option Addr) (k : Nat) (gs : List (List Int)) : Prop :=
  gs.length = k ∧ k ≤ 9223372036854775807 ∧ (0 < k → ∃ b off, A = some ⟨b, off, none⟩ ∧ b < B ∧ ∀ (j : Nat) (g : List Int), gs[j]? = some g → ∃ A' m c, w.cell? ⟨b, off + j, none⟩ = some (.slice A' m c) ∧ IntsAt w B A' m g)
theorem GroupsAt.below {w w' : World} {B D : Nat} {A : Option Addr} {k : Nat} {gs : List (List Int)} (h : GroupsAt w B A k gs) (hb : Below D w w') (hD : B ≤ D) : GroupsAt w' B A k gs := by
  refine ⟨h.1, h.2.1, fun h0 => ?_⟩
  obtain ⟨b, off, e, hB, hs⟩ := h.2.2 h0
  refine ⟨b, off, e, hB, fun j g hj => ?_⟩
  obtain ⟨A', m, c, h1, h2⟩ := hs j g hj
  exact ⟨A', m, c, (hb.cell (p := ⟨b, off + j, none⟩) (show b < D by omega)).trans h1, h2.below hb hD⟩
/-- A function value that says of each group whether it is good. -/
def GoodFn (W0 : World) (B : Nat) (g : Nat) (cs : Array Value) (gs : List (List Int)) (f : List Int → Bool) : Prop :=
  (∀ args w, (callFunc g args).run Tryz.prog w = .ok (.enter g args) w) ∧
  ∀ (W : World) (x : List Int) (A : Option Addr) (n c : Nat), x ∈ gs → Below B W0 W → IntsAt W B A n x → Calls Tryz.prog g (#[.slice A n c] ++ cs) W fun e w' => e = .returned (.bool (f x)) ∧ Below W.heap.size W w'
def FirstPost (w : World) (B : Nat) (gs : List (List Int)) (f : List Int → Bool) (e : Ending) (w' : World) : Prop :=
  Below w.heap.size w w' ∧ ((∃ (j : Nat) (x : List Int) (A : Option Addr) (n c : Nat), gs[j]? = some x ∧ f x = true ∧ (∀ (t : Nat) (y : List Int), t < j → gs[t]? = some y → f y = false) ∧ e = .returned (.tuple #[.slice A n c, .bool true]) ∧ IntsAt w' B A n x) ∨
    ((∀ y ∈ gs, f y = false) ∧ e = .returned (.tuple #[.slice none 0 0, .bool false])))
theorem first_results (W : World) (tmps : Array Value) (x y : Value) (t2 : tmps.getD 4 undef = x) (t3 : tmps.getD 5 undef = y) : (results Tryz.f69 tmps).run Tryz.prog W = .ok (.tuple #[x, y]) W := by
  simp only [Array.getD_eq_getD_getElem?] at t2 t3
  simp [results, Tryz.results69, go_sem, t2, t3]

set_option maxRecDepth 100000 in
set_option maxHeartbeats 4000000 in
theorem first_any (w : World) (B : Nat) (A : Option Addr) (k c : Nat) (gs : List (List Int)) (g : Nat) (cs : Array Value) (f : List Int → Bool) (hg : GroupsAt w B A k gs) (hB : B ≤ w.heap.size) (hf : GoodFn w B g cs gs f) :
    Calls Tryz.prog 69 #[.slice A k c, .func (.func g) #[] cs] w (FirstPost w B gs f) := by
  obtain ⟨hf1, hf2⟩ := hf
  have Hn := Lib.hid hg.1
  have hk := hg.2.1
  have Hf := Lib.hid hf2
  clear hf2
  go_enter Tryz.func69, Tryz.ntmps69
  go_wp2_with (fail)
  go_loopg [11] k (fun gk v11 wr => ∃ j : Nat, (j ≤ k ∧ gk = k - j ∧ v11 = .int .i64 (j : Int)) ∧ Below w.heap.size w wr ∧ ∀ (t : Nat) (y : List Int), t < j → gs[t]? = some y → f y = false)
  case atStart => exact ⟨0, ⟨Nat.zero_le _, rfl, rfl⟩, Below.refl _ _, fun t y h => by omega⟩
  case round =>
    obtain ⟨j, ⟨hjk, rfl, rfl⟩, hbr, hall⟩ := hrel
    have Hall := Lib.hid hall
    clear hall
    by_cases hj : j < k
    · obtain ⟨b, off, rfl, hbB, hcs⟩ := (hg.below hbr hB).2.2 (by omega)
      obtain ⟨x, hx⟩ : ∃ x, gs[j]? = some x := ⟨_, List.getElem?_eq_getElem (by have := Hn.out; omega)⟩
      obtain ⟨A', m, c', h1, h2⟩ := hcs j x hx
      have Hs := Lib.hid (And.intro hx h2)
      clear hcs hx
      have hjj : IntKind.i64.wrap ((j : Int) + 1) = (j : Int) + 1 := by rw [IntKind.wrap_i64]; omega
      go_wp2_with (fail)
      refine (Hf.out wr x A' m c' (List.mem_of_getElem? Hs.out.1) (hbr.mono hB) Hs.out.2).mono ?_
      rintro e w4 ⟨rfl, hb4⟩
      obtain ⟨r, hr⟩ : ∃ r, r = f x := ⟨_, rfl⟩
      rw [← hr]
      have Hr := Lib.hid hr
      have hB4 := hbr.trans (hb4.mono hbr.size)
      clear hr
      have hzw := hbr.size
      cases r with
      | true =>
        go_wp2_with (fail)
        refine bodyPost_ret (v := .tuple #[.slice A' m c', .bool true]) (first_results _ _ _ _ (by simp) (by simp)) rfl ?_
        exact ⟨hB4, .inl ⟨j, x, A', m, c', Hs.out.1, Hr.out.symm, Hall.out, rfl, Hs.out.2.below hb4 (by omega)⟩⟩
      | false =>
        go_wp2_with (fail)
        go_roundg (k - (j + 1))
        case measure => omega
        case rel =>
          refine ⟨j + 1, ⟨hj, rfl, by simp⟩, hB4, fun t y ht hy => ?_⟩
          rcases Nat.lt_or_ge t j with h | h
          · exact Hall.out t y h hy
          · obtain rfl : t = j := by omega
            have hx := Hs.out.1
            rw [hy] at hx
            obtain rfl := Option.some.inj hx
            exact Hr.out.symm
    · obtain rfl : k = j := by omega
      have hnj : ¬ (k : Int) < (k : Int) := by omega
      go_wp2_with (fail)
      refine bodyPost_ret (v := .tuple #[.slice none 0 0, .bool false]) (first_results _ _ _ _ (by simp) (by simp)) rfl ?_
      refine ⟨hbr, .inr ⟨fun y hy => ?_, rfl⟩⟩
      obtain ⟨t, ht, rfl⟩ := List.getElem_of_mem hy
      exact Hall.out t _ (by have := Hn.out; omega) (List.getElem?_eq_getElem ht)
end Go.Proofs.YthjgecblkagelaaGreat

/- bits.Len of few; the insertion sort of groups. -/
namespace Go.Proofs.YthjgecblkagelaaGreat
open Go.RowKit Go.Shelf

attribute [local go_sem] Oper.semAt_some

set_option maxRecDepth 100000 in
set_option maxHeartbeats 4000000 in
theorem len64_any (w : World) (x : Nat) (hx : x ≤ 12) : Calls Tryz.prog 121 #[.int .u64 (x : Int)] w fun e w' => (∃ y, e = .returned (.int .i64 y)) ∧ w' = w := by
  rcases (by omega : x = 0 ∨ x = 1 ∨ x = 2 ∨ x = 3 ∨ x = 4 ∨ x = 5 ∨ x = 6 ∨ x = 7 ∨ x = 8 ∨ x = 9 ∨ x = 10 ∨ x = 11 ∨ x = 12) with rfl | rfl | rfl | rfl | rfl | rfl | rfl | rfl | rfl | rfl | rfl | rfl | rfl
  all_goals
    go_enter Tryz.func121, Tryz.ntmps121
    go_wp2
    go_ret
    exact ⟨⟨_, rfl⟩, rfl⟩
set_option maxHeartbeats 4000000 in
theorem len_any (w : World) (x : Nat) (hx : x ≤ 12) : Calls Tryz.prog 106 #[.int .u64 (x : Int)] w fun e w' => (∃ y, e = .returned (.int .i64 y)) ∧ w' = w := by
  go_enter Tryz.func106, Tryz.ntmps106
  go_wp2_with (fail)
  refine (len64_any w x hx).mono ?_
  rintro e w2 ⟨⟨y, rfl⟩, rfl⟩
  go_wp2_with (fail)
  go_ret
  exact ⟨⟨y, rfl⟩, rfl⟩
end Go.Proofs.YthjgecblkagelaaGreat
