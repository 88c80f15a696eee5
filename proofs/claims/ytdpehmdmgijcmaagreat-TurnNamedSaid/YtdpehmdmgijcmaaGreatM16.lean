/- Parts of a proof: AW AX AY AZ. -/
import Derived.Test.YtdpehmdmgijcmaaGreatM15

/- The insertion sort of groups. -/
namespace Go.Proofs.YtdpehmdmgijcmaaGreat
open Go.RowKit Go.Shelf

attribute [local go_sem] Oper.semAt_some

abbrev GZ := Value × List Int
def gzAt (zs : List GZ) (j : Nat) : GZ := zs[j]?.getD (undef, [])
def swapZ (zs : List GZ) (j : Nat) : List GZ := (zs.set (j + 1) (gzAt zs j)).set j (gzAt zs (j + 1))
def insZ : List GZ → Nat → List GZ
  | zs, 0 => zs
  | zs, j + 1 => if gcmpF (gzAt zs (j + 1)).2 (gzAt zs j).2 < 0 then insZ (swapZ zs j) j else zs
def sortZ (zs : List GZ) : Nat → List GZ
  | 0 => zs
  | i + 1 => insZ (sortZ zs i) i
theorem ints_but {W W' : World} {D g : Nat} {A : Option Addr} {m : Nat} {xs : List Int} (h : IntsAt W D A m xs) (hne : ∀ a : Addr, A = some a → 0 < m → a.block ≠ g) (hb : BelowBut D (fun k => k = g) W W') : IntsAt W' D A m xs := by
  refine ⟨h.1, h.2.1, fun h0 => ?_⟩
  obtain ⟨b, off, e, hbD, hc⟩ := h.2.2 h0
  refine ⟨b, off, e, hbD, fun j hj => ?_⟩
  rw [← hc j hj]
  simp only [World.cell?, hb.same b hbD (fun e' => hne _ e h0 e')]
theorem but_set (D g j : Nat) (W : World) (x : Value) : BelowBut D (fun k => k = g) W (W.setCell ⟨g, j, none⟩ x) := by
  refine ⟨⟨rfl, rfl, rfl, ?_, fun _ h => absurd h (Nat.not_lt_zero _)⟩, fun k _ hk => ?_⟩
  · simp [World.setCell]
  · simp only [World.setCell, Array.getElem?_modify]
    rw [if_neg (fun e => hk e.symm)]
structure GRow (W : World) (D base g n cap : Nat) (zs : List GZ) : Prop where
  own : W.ownsRow base 89 1 (.slice (some ⟨g, 0, none⟩) n cap) n (zs.map (fun z => z.1))
  el : ∀ z ∈ zs, ∃ A m c, z.1 = .slice A m c ∧ IntsAt W D A m z.2 ∧ ∀ a : Addr, A = some a → 0 < m → a.block ≠ g
theorem GRow.len {W : World} {D base g n cap : Nat} {zs : List GZ} (h : GRow W D base g n cap zs) : zs.length = n := by simpa using h.own.1
theorem gz_mem {zs : List GZ} {j : Nat} (h : j < zs.length) : gzAt zs j ∈ zs := by
  unfold gzAt
  rw [List.getElem?_eq_getElem h]
  exact List.getElem_mem h
theorem GRow.cell {W : World} {D base g n cap : Nat} {zs : List GZ} (h : GRow W D base g n cap zs) {j : Nat} (hj : j < n) : W.cell? ⟨g, j, none⟩ = some (gzAt zs j).1 := by
  have hl := h.len
  have := h.own.cells (g := g) rfl j (gzAt zs j).1 (by rw [List.getElem?_map, gzAt, List.getElem?_eq_getElem (by omega)]; rfl)
  have ha : (⟨g, 0, none⟩ : Addr).add j = ⟨g, j, none⟩ := by simp [Addr.add]; omega
  rwa [ha] at this
theorem GRow.block {W : World} {D base g n cap : Nat} {zs : List GZ} (h : GRow W D base g n cap zs) : base ≤ g ∧ g < W.heap.size := by
  rcases h.own.2 with ⟨he, -⟩ | ⟨g', cap', cur, he, hb, hg, -⟩
  · cases he
  · cases he
    exact ⟨hb, (Array.getElem?_eq_some_iff.1 hg).1⟩
theorem GRow.below {W W' : World} {D base g n cap : Nat} {zs : List GZ} (h : GRow W D base g n cap zs) (hb : Below W.heap.size W W') (hD : D ≤ W.heap.size) : GRow W' D base g n cap zs :=
  ⟨row_below h.own hb, fun z hz => by
    obtain ⟨A, m, c, e, h1, h2⟩ := h.el z hz
    exact ⟨A, m, c, e, h1.below hb hD, h2⟩⟩
theorem GRow.swap {W : World} {D base g n cap : Nat} {zs : List GZ} (h : GRow W D base g n cap zs) {j : Nat} (hj : j + 1 < n) :
    GRow ((W.setCell ⟨g, j + 1, none⟩ (gzAt zs j).1).setCell ⟨g, j, none⟩ (gzAt zs (j + 1)).1) D base g n cap (swapZ zs j) := by
  have hl := h.len
  have hb : BelowBut D (fun k => k = g) W ((W.setCell ⟨g, j + 1, none⟩ (gzAt zs j).1).setCell ⟨g, j, none⟩ (gzAt zs (j + 1)).1) := (but_set D g (j + 1) W _).trans (but_set D g j _ _)
  refine ⟨?_, fun z hz => ?_⟩
  · have h1 := row_set (row_set h.own hj (gzAt zs j).1) (i := j) (by omega) (gzAt zs (j + 1)).1
    unfold swapZ
    rw [List.map_set, List.map_set]
    exact h1
  · have hm : z ∈ zs := by
      unfold swapZ at hz
      rcases List.mem_or_eq_of_mem_set hz with hz | rfl
      · rcases List.mem_or_eq_of_mem_set hz with hz | rfl
        · exact hz
        · exact gz_mem (by omega)
      · exact gz_mem (by omega)
    obtain ⟨A, m, c, e, h1, h2⟩ := h.el z hm
    exact ⟨A, m, c, e, ints_but h1 h2 hb, h2⟩

set_option maxRecDepth 100000 in
set_option maxHeartbeats 8000000 in
theorem isort_any (w : World) (D base g n cap : Nat) (zs : List GZ) (h : GRow w D base g n cap zs) (hD : D ≤ w.heap.size) (hn : 1 ≤ n) (hn2 : n ≤ 1000000) :
    Calls Tryz.prog 125 #[.slice (some ⟨g, 0, none⟩) n cap, .int .i64 0, .int .i64 (n : Int), .func (.func 111) #[] #[]] w fun e w' => e = .returned (.tuple #[]) ∧ GRow w' D base g n cap (sortZ zs n) ∧ BelowBut w.heap.size (fun k => k = g) w w' := by
  go_enter Tryz.func125, Tryz.ntmps125
  go_wp2_with (fail)
  go_loopg [8] (n - 1) (fun gk v8 wr => ∃ i : Nat, (1 ≤ i ∧ i ≤ n ∧ gk = n - i ∧ v8 = .int .i64 (i : Int)) ∧ GRow wr D base g n cap (sortZ zs i) ∧ BelowBut w.heap.size (fun k => k = g) w wr)
  case atStart => exact ⟨1, ⟨Nat.le_refl _, hn, rfl, rfl⟩, h, BelowBut.refl _ _ _⟩
  case round =>
    obtain ⟨i, ⟨hi1, hin, rfl, rfl⟩, hrow, hbr⟩ := hrel
    by_cases hi : i < n
    · go_wp2_with (fail)
      obtain ⟨wo, rfl⟩ : ∃ wo, wo = wr := ⟨_, rfl⟩
      obtain ⟨T, hT⟩ : ∃ T, T = insZ (sortZ zs i) i := ⟨_, rfl⟩
      have HT := Lib.hid hT
      go_loopg [9] i (fun gk v9 wr => ∃ (j : Nat) (ys : List GZ), (j ≤ i ∧ j = gk ∧ v9 = .int .i64 (j : Int)) ∧ insZ ys j = T ∧ GRow wr D base g n cap ys ∧ BelowBut w.heap.size (fun k => k = g) w wr)
      case atStart => exact ⟨i, sortZ zs i, ⟨Nat.le_refl _, rfl, rfl⟩, hT.symm, hrow, hbr⟩
      case round =>
        clear hT hrow hbr
        obtain ⟨j, ys, ⟨hji, rfl, rfl⟩, hys, hrow, hbr⟩ := hrel
        have hii : IntKind.i64.wrap ((i : Int) + 1) = (i : Int) + 1 := by rw [IntKind.wrap_i64]; omega
        have hlen := hrow.len
        cases j with
        | zero =>
          go_wp2_with (fail)
          refine region_held_wp 1 (fun _ => True) (fun _ => false) (by kernel_rfl) ?_
          intro KR hKR
          refine wpAnyHI_takeW (i := 0) (v := .int .i64 0) (some 18) rfl rfl (by kernel_rfl) (by kernel_rfl) (by kernel_rfl) (by kernel_rfl) (fun _ _ _ h => h) (.inl ⟨by kernel_rfl, fun W' hS' => ?_⟩) ?_
          · go_simp
          refine wpAnyHI_takeW (i := 1) (v := .int .i64 0) (some 19) rfl rfl (by kernel_rfl) (by kernel_rfl) (by kernel_rfl) (by kernel_rfl) (fun _ _ _ h => h) (.inl ⟨by kernel_rfl, fun W' hS' => ?_⟩) ?_
          · go_simp
          refine wpAnyHI_takeW (i := 2) (v := .bool false) (some 20) rfl rfl (by kernel_rfl) (by kernel_rfl) (by kernel_rfl) (by kernel_rfl) (fun _ _ _ h => h) (.inl ⟨by kernel_rfl, fun W' hS' => ?_⟩) ?_
          · go_simp
          refine wpAnyHI_takeW (i := 3) (v := .bool false) (some 21) rfl rfl (by kernel_rfl) (by kernel_rfl) (by kernel_rfl) (by kernel_rfl) (fun _ _ _ h => h) (.inl ⟨by kernel_rfl, fun W' hS' => ?_⟩) ?_
          · go_simp
          refine wpAnyHI_takeW (i := 4) (v := undef) (some 22) rfl rfl (by kernel_rfl) (by kernel_rfl) (by kernel_rfl) (by kernel_rfl) (fun _ _ _ h => h) (.inr ⟨by kernel_rfl, rfl⟩) ?_
          refine wpAnyHI_takeW (i := 5) (v := undef) (some 23) rfl rfl (by kernel_rfl) (by kernel_rfl) (by kernel_rfl) (by kernel_rfl) (fun _ _ _ h => h) (.inr ⟨by kernel_rfl, rfl⟩) ?_
          refine wpAnyHI_takeW (i := 6) (v := undef) (some 24) rfl rfl (by kernel_rfl) (by kernel_rfl) (by kernel_rfl) (by kernel_rfl) (fun _ _ _ h => h) (.inr ⟨by kernel_rfl, rfl⟩) ?_
          refine wpAnyHI_takeW (i := 7) (v := undef) (some 25) rfl rfl (by kernel_rfl) (by kernel_rfl) (by kernel_rfl) (by kernel_rfl) (fun _ _ _ h => h) (.inr ⟨by kernel_rfl, rfl⟩) ?_
          refine wpAnyHI_takeW (i := 8) (v := undef) (some 26) rfl rfl (by kernel_rfl) (by kernel_rfl) (by kernel_rfl) (by kernel_rfl) (fun _ _ _ h => h) (.inr ⟨by kernel_rfl, rfl⟩) ?_
          refine wpAnyHI_takeW (i := 9) (v := undef) (some 27) rfl rfl (by kernel_rfl) (by kernel_rfl) (by kernel_rfl) (by kernel_rfl) (fun _ _ _ h => h) (.inr ⟨by kernel_rfl, rfl⟩) ?_
          refine wpAnyHI_takeW (i := 10) (v := undef) (some 28) rfl rfl (by kernel_rfl) (by kernel_rfl) (by kernel_rfl) (by kernel_rfl) (fun _ _ _ h => h) (.inr ⟨by kernel_rfl, rfl⟩) ?_
          refine wpAnyHI_takeW (i := 11) (v := undef) (some 29) rfl rfl (by kernel_rfl) (by kernel_rfl) (by kernel_rfl) (by kernel_rfl) (fun _ _ _ h => h) (.inr ⟨by kernel_rfl, rfl⟩) ?_
          refine wpAnyHI_takeW (i := 12) (v := undef) (some 30) rfl rfl (by kernel_rfl) (by kernel_rfl) (by kernel_rfl) (by kernel_rfl) (fun _ _ _ h => h) (.inr ⟨by kernel_rfl, rfl⟩) ?_
          refine wpAnyHI_takeW (i := 13) (v := undef) (some 31) rfl rfl (by kernel_rfl) (by kernel_rfl) (by kernel_rfl) (by kernel_rfl) (fun _ _ _ h => h) (.inr ⟨by kernel_rfl, rfl⟩) ?_
          refine wpAnyHI_takeW (i := 14) (v := undef) (some 32) rfl rfl (by kernel_rfl) (by kernel_rfl) (by kernel_rfl) (by kernel_rfl) (fun _ _ _ h => h) (.inr ⟨by kernel_rfl, rfl⟩) ?_
          refine wpAnyHI_takeW (i := 15) (v := undef) (some 33) rfl rfl (by kernel_rfl) (by kernel_rfl) (by kernel_rfl) (by kernel_rfl) (fun _ _ _ h => h) (.inr ⟨by kernel_rfl, rfl⟩) ?_
          refine wpAnyHI_takeW (i := 16) (v := .bool false) (some 34) rfl rfl (by kernel_rfl) (by kernel_rfl) (by kernel_rfl) (by kernel_rfl) (fun _ _ _ h => h) (.inl ⟨by kernel_rfl, fun W' hS' => ?_⟩) ?_
          · go_simp
          refine wpAnyHI_end (by kernel_rfl) ?_
          show KR _ _
          refine act_eq (K := KR) (a' := { tmps := #[.slice (some ⟨g, 0, none⟩) n cap, .int .i64 0, .int .i64 (n : Int), .func (.func 111) #[] #[], undef, undef, undef, undef, .int .i64 (i : Int), .int .i64 0, .int .i64 0, .int .i64 1, .int .i64 (i : Int), .int .i64 (n : Int), .bool true, u15, u16, .int .i64 (i : Int), .int .i64 0, .int .i64 0, .bool false, .bool false, undef, undef, undef, undef, undef, undef, undef, undef, undef, undef, undef, undef, .bool false, u35, u36, u37, u38, u39, u40, u41, u42, u43, u44, u45, u46, u47, u48, u49, u50, u51, u52], defers := [] }) (by kernel_rfl) ?_
          refine hKR _ _ ?_
          clear hKR KR
          go_wp2
          go_roundg (n - (i + 1))
          case measure => omega
          case rel =>
            refine ⟨i + 1, ⟨by omega, by omega, rfl, by simp⟩, ?_, hbr.trans (BelowBut.of ((below_drew wr).mono hbr.base.size))⟩
            have e : sortZ zs (i + 1) = ys := by
              show insZ (sortZ zs i) i = ys
              rw [← HT.out, ← hys, insZ]
            rw [e]
            exact hrow.below (below_drew wr) (by have := hbr.base.size; omega)
        | succ j =>
          have hgb := hrow.block.2
          have hcc1 := hrow.cell (j := j + 1) (by omega)
          have hcc2 := hrow.cell (j := j) (by omega)
          obtain ⟨A1, m1, c1, f1, e1, -⟩ := hrow.el _ (gz_mem (zs := ys) (j := j + 1) (by omega))
          obtain ⟨A2, m2, c2, f2, e2, -⟩ := hrow.el _ (gz_mem (zs := ys) (j := j) (by omega))
          rw [f1] at hcc1
          rw [f2] at hcc2
          have Hf := Lib.hid (And.intro f1 f2)
          clear f1 f2
          have hc1 : ∀ W, Below wr.heap.size wr.drew W → W.cell? ⟨g, j + 1, none⟩ = some (.slice A1 m1 c1) := fun W hb => (hb.cell (p := ⟨g, j + 1, none⟩) hgb).trans hcc1
          have hc2 : ∀ W, Below wr.heap.size wr.drew W → W.cell? ⟨g, j, none⟩ = some (.slice A2 m2 c2) := fun W hb => (hb.cell (p := ⟨g, j, none⟩) hgb).trans hcc2
          have hjw : IntKind.i64.wrap (((j + 1 : Nat) : Int) - 1) = (j : Int) := by rw [IntKind.wrap_i64]; omega
          have hjw' : IntKind.i64.wrap (j : Int) = (j : Int) := by rw [IntKind.wrap_i64]; omega
          have Hys := Lib.hid hys
          go_wp2_with (fail)
          refine region_held_wp 1 (fun W' => Below wr.heap.size wr.drew W') (fun k => decide (k ≤ 14)) (by kernel_rfl) ?_
          intro KR hKR
          have hS : Below wr.heap.size wr.drew wr.drew := Below.refl _ _
          refine wpAnyHI_takeE (i := 0) (v := .int .i64 ((j + 1 : Nat) : Int)) (some 18) rfl rfl (by kernel_rfl) (by kernel_rfl) (by kernel_rfl) (by kernel_rfl) (by kernel_rfl) (fun _ _ _ h => h) hS (.inl ⟨by kernel_rfl, fun W' hS' => ?_⟩) ?_
          · go_simp
          refine wpAnyHI_takeE (i := 1) (v := .int .i64 0) (some 19) rfl rfl (by kernel_rfl) (by kernel_rfl) (by kernel_rfl) (by kernel_rfl) (by kernel_rfl) (fun _ _ _ h => h) hS (.inl ⟨by kernel_rfl, fun W' hS' => ?_⟩) ?_
          · go_simp
          refine wpAnyHI_takeE (i := 2) (v := .bool true) (some 20) rfl rfl (by kernel_rfl) (by kernel_rfl) (by kernel_rfl) (by kernel_rfl) (by kernel_rfl) (fun _ _ _ h => h) hS (.inl ⟨by kernel_rfl, fun W' hS' => ?_⟩) ?_
          · go_simp
          refine wpAnyHI_takeE (i := 3) (v := .bool true) (some 21) rfl rfl (by kernel_rfl) (by kernel_rfl) (by kernel_rfl) (by kernel_rfl) (by kernel_rfl) (fun _ _ _ h => h) hS (.inl ⟨by kernel_rfl, fun W' hS' => ?_⟩) ?_
          · go_simp
          refine wpAnyHI_takeE (i := 5) (v := .slice (some ⟨g, 0, none⟩) n cap) (some 23) rfl rfl (by kernel_rfl) (by kernel_rfl) (by kernel_rfl) (by kernel_rfl) (by kernel_rfl) (fun _ _ _ h => h) hS (.inl ⟨by kernel_rfl, fun W' hS' => ?_⟩) ?_
          · go_simp
          refine wpAnyHI_takeE (i := 6) (v := .int .i64 ((j + 1 : Nat) : Int)) (some 24) rfl rfl (by kernel_rfl) (by kernel_rfl) (by kernel_rfl) (by kernel_rfl) (by kernel_rfl) (fun _ _ _ h => h) hS (.inl ⟨by kernel_rfl, fun W' hS' => ?_⟩) ?_
          · go_simp
          refine wpAnyHI_takeE (i := 7) (v := .pointer (some ⟨g, j + 1, none⟩)) (some 25) rfl rfl (by kernel_rfl) (by kernel_rfl) (by kernel_rfl) (by kernel_rfl) (by kernel_rfl) (fun _ _ _ h => h) hS (.inl ⟨by kernel_rfl, fun W' hS' => ?_⟩) ?_
          · go_simp; intro hx; exfalso; omega
          refine wpAnyHI_takeE (i := 9) (v := .slice (some ⟨g, 0, none⟩) n cap) (some 27) rfl rfl (by kernel_rfl) (by kernel_rfl) (by kernel_rfl) (by kernel_rfl) (by kernel_rfl) (fun _ _ _ h => h) hS (.inl ⟨by kernel_rfl, fun W' hS' => ?_⟩) ?_
          · go_simp
          refine wpAnyHI_takeE (i := 10) (v := .int .i64 ((j + 1 : Nat) : Int)) (some 28) rfl rfl (by kernel_rfl) (by kernel_rfl) (by kernel_rfl) (by kernel_rfl) (by kernel_rfl) (fun _ _ _ h => h) hS (.inl ⟨by kernel_rfl, fun W' hS' => ?_⟩) ?_
          · go_simp
          refine wpAnyHI_takeE (i := 11) (v := .int .i64 (j : Int)) (some 29) rfl rfl (by kernel_rfl) (by kernel_rfl) (by kernel_rfl) (by kernel_rfl) (by kernel_rfl) (fun _ _ _ h => h) hS (.inl ⟨by kernel_rfl, fun W' hS' => ?_⟩) ?_
          · go_simp
          refine wpAnyHI_takeE (i := 12) (v := .pointer (some ⟨g, j, none⟩)) (some 30) rfl rfl (by kernel_rfl) (by kernel_rfl) (by kernel_rfl) (by kernel_rfl) (by kernel_rfl) (fun _ _ _ h => h) hS (.inl ⟨by kernel_rfl, fun W' hS' => ?_⟩) ?_
          · go_simp; intro hx; exfalso; omega
          refine wpAnyHI_takeE (i := 4) (v := .func (.func 111) #[] #[]) (some 22) rfl rfl (by kernel_rfl) (by kernel_rfl) (by kernel_rfl) (by kernel_rfl) (by kernel_rfl) (fun _ _ _ h => h) hS (.inl ⟨by kernel_rfl, fun W' hS' => ?_⟩) ?_
          · go_simp
          refine wpAnyHI_takeE (i := 8) (v := .slice A1 m1 c1) (some 26) rfl rfl (by kernel_rfl) (by kernel_rfl) (by kernel_rfl) (by kernel_rfl) (by kernel_rfl) (fun _ _ _ h => h) hS (.inl ⟨by kernel_rfl, fun W' hS' => ?_⟩) ?_
          · have q := hc1 W' hS'; go_simp
          refine wpAnyHI_takeE (i := 13) (v := .slice A2 m2 c2) (some 31) rfl rfl (by kernel_rfl) (by kernel_rfl) (by kernel_rfl) (by kernel_rfl) (by kernel_rfl) (fun _ _ _ h => h) hS (.inl ⟨by kernel_rfl, fun W' hS' => ?_⟩) ?_
          · have q := hc2 W' hS'; go_simp
          refine wpAnyHI_one (i := 14) rfl (by kernel_rfl) ?_
          intro K1 hK1
          go_simp
          refine ⟨trivial, (callsIn_wide.2 (gcmp_any wr.drew D D A1 A2 m1 c1 m2 c2 (gzAt ys (j + 1)).2 (gzAt ys j).2 e1 e2)).mono ?_⟩
          rintro e w4 ⟨rfl, hb4⟩
          have hS4 : Below wr.heap.size wr.drew w4 := hb4
          obtain ⟨r, hr⟩ : ∃ r, r = gcmpF (gzAt ys (j + 1)).2 (gzAt ys j).2 := ⟨_, rfl⟩
          rw [← hr]
          refine hK1 _ _ ⟨fun _ => hS4, ?_⟩
          clear hK1 K1
          have Hr := Lib.hid hr
          clear hr
          have hrow4 : GRow w4 D base g n cap ys := hrow.below ((below_drew wr).trans hS4) (by have := hbr.base.size; omega)
          have hbr4 : BelowBut w.heap.size (fun k => k = g) w w4 := hbr.trans (BelowBut.of (((below_drew wr).trans hS4).mono hbr.base.size))
          by_cases hlt : r < 0
          · refine wpAnyHI_takeW (i := 15) (v := .bool true) (some 33) rfl rfl (by kernel_rfl) (by kernel_rfl) (by kernel_rfl) (by kernel_rfl) (fun _ _ _ h => h) (.inl ⟨by kernel_rfl, fun W' hS' => ?_⟩) ?_
            · go_simp
            refine wpAnyHI_takeW (i := 16) (v := .bool true) (some 34) rfl rfl (by kernel_rfl) (by kernel_rfl) (by kernel_rfl) (by kernel_rfl) (fun _ _ _ h => h) (.inl ⟨by kernel_rfl, fun W' hS' => ?_⟩) ?_
            · go_simp
            refine wpAnyHI_end (by kernel_rfl) ?_
            show KR _ _
            refine act_eq (K := KR) (a' := { tmps := #[.slice (some ⟨g, 0, none⟩) n cap, .int .i64 0, .int .i64 (n : Int), .func (.func 111) #[] #[], undef, undef, undef, undef, .int .i64 (i : Int), .int .i64 ((j + 1 : Nat) : Int), .int .i64 0, .int .i64 1, .int .i64 (i : Int), .int .i64 (n : Int), .bool true, u15, u16, .int .i64 (i : Int), .int .i64 ((j + 1 : Nat) : Int), .int .i64 0, .bool true, .bool true, .func (.func 111) #[] #[], .slice (some ⟨g, 0, none⟩) n cap, .int .i64 ((j + 1 : Nat) : Int), .pointer (some ⟨g, j + 1, none⟩), .slice A1 m1 c1, .slice (some ⟨g, 0, none⟩) n cap, .int .i64 ((j + 1 : Nat) : Int), .int .i64 (j : Int), .pointer (some ⟨g, j, none⟩), .slice A2 m2 c2, .int .i64 r, .bool true, .bool true, u35, u36, u37, u38, u39, u40, u41, u42, u43, u44, u45, u46, u47, u48, u49, u50, u51, u52], defers := [] }) (by kernel_rfl) ?_
            refine hKR _ _ ?_
            clear hKR KR
            have hz4 : wr.heap.size ≤ w4.heap.size := hS4.size
            have k1 := hrow4.cell (j := j + 1) (by omega)
            have k2 := hrow4.cell (j := j) (by omega)
            rw [Hf.out.1] at k1
            rw [Hf.out.2] at k2
            have hg4 := hrow4.block.2
            have hd1 : ∀ W, Below w4.heap.size w4.drew W → W.cell? ⟨g, j + 1, none⟩ = some (.slice A1 m1 c1) := fun W hb => (hb.cell (p := ⟨g, j + 1, none⟩) hg4).trans k1
            have hd2 : ∀ W, Below w4.heap.size w4.drew W → W.cell? ⟨g, j, none⟩ = some (.slice A2 m2 c2) := fun W hb => (hb.cell (p := ⟨g, j, none⟩) hg4).trans k2
            go_wp2
            refine region_held_wp 1 (fun W' => Below w4.heap.size w4.drew W') (fun k => decide (k ≤ 13) && !(k == 2 || k == 3 || k == 4)) (by kernel_rfl) ?_
            intro KR hKR
            have hS : Below w4.heap.size w4.drew w4.drew := Below.refl _ _
            refine wpAnyHI_takeW (i := 2) (v := .slice (some ⟨g, 0, none⟩) n cap) (some 39) rfl rfl (by kernel_rfl) (by kernel_rfl) (by kernel_rfl) (by kernel_rfl) (fun _ _ _ h => h) (.inl ⟨by kernel_rfl, fun W' hS' => ?_⟩) ?_
            · go_simp
            refine wpAnyHI_takeW (i := 3) (v := .int .i64 ((j + 1 : Nat) : Int)) (some 40) rfl rfl (by kernel_rfl) (by kernel_rfl) (by kernel_rfl) (by kernel_rfl) (fun _ _ _ h => h) (.inl ⟨by kernel_rfl, fun W' hS' => ?_⟩) ?_
            · go_simp
            refine wpAnyHI_takeW (i := 4) (v := .int .i64 (j : Int)) (some 41) rfl rfl (by kernel_rfl) (by kernel_rfl) (by kernel_rfl) (by kernel_rfl) (fun _ _ _ h => h) (.inl ⟨by kernel_rfl, fun W' hS' => ?_⟩) ?_
            · go_simp
            refine wpAnyHI_takeE (i := 5) (v := .slice (some ⟨g, 0, none⟩) n cap) (some 42) rfl rfl (by kernel_rfl) (by kernel_rfl) (by kernel_rfl) (by kernel_rfl) (by kernel_rfl) (fun _ _ _ h => h) hS (.inl ⟨by kernel_rfl, fun W' hS' => ?_⟩) ?_
            · go_simp
            refine wpAnyHI_takeE (i := 6) (v := .int .i64 ((j + 1 : Nat) : Int)) (some 43) rfl rfl (by kernel_rfl) (by kernel_rfl) (by kernel_rfl) (by kernel_rfl) (by kernel_rfl) (fun _ _ _ h => h) hS (.inl ⟨by kernel_rfl, fun W' hS' => ?_⟩) ?_
            · go_simp
            refine wpAnyHI_takeE (i := 7) (v := .int .i64 (j : Int)) (some 44) rfl rfl (by kernel_rfl) (by kernel_rfl) (by kernel_rfl) (by kernel_rfl) (by kernel_rfl) (fun _ _ _ h => h) hS (.inl ⟨by kernel_rfl, fun W' hS' => ?_⟩) ?_
            · go_simp
            refine wpAnyHI_takeE (i := 8) (v := .pointer (some ⟨g, j, none⟩)) (some 45) rfl rfl (by kernel_rfl) (by kernel_rfl) (by kernel_rfl) (by kernel_rfl) (by kernel_rfl) (fun _ _ _ h => h) hS (.inl ⟨by kernel_rfl, fun W' hS' => ?_⟩) ?_
            · go_simp; intro hx; exfalso; omega
            refine wpAnyHI_takeE (i := 10) (v := .slice (some ⟨g, 0, none⟩) n cap) (some 47) rfl rfl (by kernel_rfl) (by kernel_rfl) (by kernel_rfl) (by kernel_rfl) (by kernel_rfl) (fun _ _ _ h => h) hS (.inl ⟨by kernel_rfl, fun W' hS' => ?_⟩) ?_
            · go_simp
            refine wpAnyHI_takeE (i := 11) (v := .int .i64 ((j + 1 : Nat) : Int)) (some 48) rfl rfl (by kernel_rfl) (by kernel_rfl) (by kernel_rfl) (by kernel_rfl) (by kernel_rfl) (fun _ _ _ h => h) hS (.inl ⟨by kernel_rfl, fun W' hS' => ?_⟩) ?_
            · go_simp
            refine wpAnyHI_takeE (i := 12) (v := .pointer (some ⟨g, j + 1, none⟩)) (some 49) rfl rfl (by kernel_rfl) (by kernel_rfl) (by kernel_rfl) (by kernel_rfl) (by kernel_rfl) (fun _ _ _ h => h) hS (.inl ⟨by kernel_rfl, fun W' hS' => ?_⟩) ?_
            · go_simp; intro hx; exfalso; omega
            refine wpAnyHI_takeE (i := 0) (v := .slice (some ⟨g, 0, none⟩) n cap) (some 37) rfl rfl (by kernel_rfl) (by kernel_rfl) (by kernel_rfl) (by kernel_rfl) (by kernel_rfl) (fun _ _ _ h => h) hS (.inl ⟨by kernel_rfl, fun W' hS' => ?_⟩) ?_
            · go_simp
            refine wpAnyHI_takeE (i := 1) (v := .int .i64 ((j + 1 : Nat) : Int)) (some 38) rfl rfl (by kernel_rfl) (by kernel_rfl) (by kernel_rfl) (by kernel_rfl) (by kernel_rfl) (fun _ _ _ h => h) hS (.inl ⟨by kernel_rfl, fun W' hS' => ?_⟩) ?_
            · go_simp
            refine wpAnyHI_takeE (i := 9) (v := .slice A2 m2 c2) (some 46) rfl rfl (by kernel_rfl) (by kernel_rfl) (by kernel_rfl) (by kernel_rfl) (by kernel_rfl) (fun _ _ _ h => h) hS (.inl ⟨by kernel_rfl, fun W' hS' => ?_⟩) ?_
            · have q := hd2 W' hS'; go_simp
            refine wpAnyHI_takeE (i := 13) (v := .slice A1 m1 c1) (some 50) rfl rfl (by kernel_rfl) (by kernel_rfl) (by kernel_rfl) (by kernel_rfl) (by kernel_rfl) (fun _ _ _ h => h) hS (.inl ⟨by kernel_rfl, fun W' hS' => ?_⟩) ?_
            · have q := hd1 W' hS'; go_simp
            refine wpAnyHI_takeW (i := 14) (v := .pointer (some ⟨g, j + 1, none⟩)) (some 51) rfl rfl (by kernel_rfl) (by kernel_rfl) (by kernel_rfl) (by kernel_rfl) (fun _ _ _ h => h) (.inl ⟨by kernel_rfl, fun W' hS' => ?_⟩) ?_
            · go_simp; intro hx; exfalso; omega
            have hrow5 := hrow4.below (below_drew w4) (by have := hbr4.base.size; omega)
            have k3 : w4.drew.cell? ⟨g, j + 1, none⟩ = some (.slice A1 m1 c1) := k1
            have k4 : w4.drew.frozen? ⟨g, j + 1, none⟩ = false := row_frozen hrow5.own _
            refine wpAnyHI_one (i := 15) rfl (by kernel_rfl) ?_
            intro K1 hK1
            go_simp
            refine hK1 _ _ ⟨fun h => absurd h (by simp), ?_⟩
            clear hK1 K1
            refine wpAnyHI_takeW (i := 16) (v := .pointer (some ⟨g, j, none⟩)) (some 52) rfl rfl (by kernel_rfl) (by kernel_rfl) (by kernel_rfl) (by kernel_rfl) (fun _ _ _ h => h) (.inl ⟨by kernel_rfl, fun W' hS' => ?_⟩) ?_
            · go_simp; intro hx; exfalso; omega
            have hsw0 := hrow4.swap (j := j) (by omega)
            have hlast0 : BelowBut w.heap.size (fun k => k = g) w ((w4.setCell ⟨g, j + 1, none⟩ (gzAt ys j).1).setCell ⟨g, j, none⟩ (gzAt ys (j + 1)).1) := (hbr4.trans (but_set _ g (j + 1) _ _)).trans (but_set _ g j _ _)
            rw [Hf.out.1, Hf.out.2] at hsw0 hlast0
            have hsz := hlast0.base.size
            have hsw := hsw0.below (below_drew _) (by omega)
            have hlast := hlast0.trans (BelowBut.of ((below_drew _).mono hsz))
            clear hsw0 hlast0
            have k5 : (w4.setCell ⟨g, j + 1, none⟩ (.slice A2 m2 c2)).drew.cell? ⟨g, j, none⟩ = some (.slice A2 m2 c2) := (World.cell?_setCell_other w4 _ _ _ (fun e => by have := congrArg Addr.off e; simp at this)).trans k2
            have k6 : (w4.setCell ⟨g, j + 1, none⟩ (.slice A2 m2 c2)).drew.frozen? ⟨g, j, none⟩ = false := row_frozen (row_set hrow4.own (i := j + 1) (by omega) (.slice A2 m2 c2)) _
            refine wpAnyHI_one (i := 17) rfl (by kernel_rfl) ?_
            intro K1 hK1
            go_simp
            refine hK1 _ _ ⟨fun h => absurd h (by simp), ?_⟩
            clear hK1 K1
            refine wpAnyHI_end (by kernel_rfl) ?_
            show KR _ _
            refine act_eq (K := KR) (a' := { tmps := #[.slice (some ⟨g, 0, none⟩) n cap, .int .i64 0, .int .i64 (n : Int), .func (.func 111) #[] #[], undef, undef, undef, undef, .int .i64 (i : Int), .int .i64 ((j + 1 : Nat) : Int), .int .i64 0, .int .i64 1, .int .i64 (i : Int), .int .i64 (n : Int), .bool true, u15, u16, .int .i64 (i : Int), .int .i64 ((j + 1 : Nat) : Int), .int .i64 0, .bool true, .bool true, .func (.func 111) #[] #[], .slice (some ⟨g, 0, none⟩) n cap, .int .i64 ((j + 1 : Nat) : Int), .pointer (some ⟨g, j + 1, none⟩), .slice A1 m1 c1, .slice (some ⟨g, 0, none⟩) n cap, .int .i64 ((j + 1 : Nat) : Int), .int .i64 (j : Int), .pointer (some ⟨g, j, none⟩), .slice A2 m2 c2, .int .i64 r, .bool true, .bool true, u35, u36, .slice (some ⟨g, 0, none⟩) n cap, .int .i64 ((j + 1 : Nat) : Int), .slice (some ⟨g, 0, none⟩) n cap, .int .i64 ((j + 1 : Nat) : Int), .int .i64 (j : Int), .slice (some ⟨g, 0, none⟩) n cap, .int .i64 ((j + 1 : Nat) : Int), .int .i64 (j : Int), .pointer (some ⟨g, j, none⟩), .slice A2 m2 c2, .slice (some ⟨g, 0, none⟩) n cap, .int .i64 ((j + 1 : Nat) : Int), .pointer (some ⟨g, j + 1, none⟩), .slice A1 m1 c1, .pointer (some ⟨g, j + 1, none⟩), .pointer (some ⟨g, j, none⟩)], defers := [] }) (by kernel_rfl) ?_
            refine hKR _ _ ?_
            clear hKR KR
            go_wp2
            go_roundg j
            case measure => omega
            case rel =>
              refine ⟨j, swapZ ys j, ⟨by omega, rfl, by simp⟩, ?_, hsw, hlast⟩
              have e := Hys.out
              rw [insZ, if_pos (by rw [← Hr.out]; exact hlt)] at e
              exact e
          · refine wpAnyHI_takeW (i := 15) (v := .bool false) (some 33) rfl rfl (by kernel_rfl) (by kernel_rfl) (by kernel_rfl) (by kernel_rfl) (fun _ _ _ h => h) (.inl ⟨by kernel_rfl, fun W' hS' => ?_⟩) ?_
            · go_simp
            refine wpAnyHI_takeW (i := 16) (v := .bool false) (some 34) rfl rfl (by kernel_rfl) (by kernel_rfl) (by kernel_rfl) (by kernel_rfl) (fun _ _ _ h => h) (.inl ⟨by kernel_rfl, fun W' hS' => ?_⟩) ?_
            · go_simp
            refine wpAnyHI_end (by kernel_rfl) ?_
            show KR _ _
            refine act_eq (K := KR) (a' := { tmps := #[.slice (some ⟨g, 0, none⟩) n cap, .int .i64 0, .int .i64 (n : Int), .func (.func 111) #[] #[], undef, undef, undef, undef, .int .i64 (i : Int), .int .i64 ((j + 1 : Nat) : Int), .int .i64 0, .int .i64 1, .int .i64 (i : Int), .int .i64 (n : Int), .bool true, u15, u16, .int .i64 (i : Int), .int .i64 ((j + 1 : Nat) : Int), .int .i64 0, .bool true, .bool true, .func (.func 111) #[] #[], .slice (some ⟨g, 0, none⟩) n cap, .int .i64 ((j + 1 : Nat) : Int), .pointer (some ⟨g, j + 1, none⟩), .slice A1 m1 c1, .slice (some ⟨g, 0, none⟩) n cap, .int .i64 ((j + 1 : Nat) : Int), .int .i64 (j : Int), .pointer (some ⟨g, j, none⟩), .slice A2 m2 c2, .int .i64 r, .bool false, .bool false, u35, u36, u37, u38, u39, u40, u41, u42, u43, u44, u45, u46, u47, u48, u49, u50, u51, u52], defers := [] }) (by kernel_rfl) ?_
            refine hKR _ _ ?_
            clear hKR KR
            go_wp2
            go_roundg (n - (i + 1))
            case measure => omega
            case rel =>
              refine ⟨i + 1, ⟨by omega, by omega, rfl, by simp⟩, ?_, hbr4⟩
              have e : sortZ zs (i + 1) = ys := by
                show insZ (sortZ zs i) i = ys
                rw [← HT.out, ← Hys.out, insZ, if_neg (by rw [← Hr.out]; omega)]
              rw [e]
              exact hrow4
    · obtain rfl : n = i := by omega
      have hni : ¬ (n : Int) < (n : Int) := by omega
      go_wp2_with (fail)
      exact bodyPost_end (v := .tuple #[]) (results_none rfl _ _ _) rfl ⟨rfl, hrow, hbr⟩
end Go.Proofs.YtdpehmdmgijcmaaGreat

/- SortFunc of at most 12 groups. -/
namespace Go.Proofs.YtdpehmdmgijcmaaGreat
open Go.RowKit Go.Shelf

attribute [local go_sem] Oper.semAt_some

set_option maxRecDepth 100000 in
set_option maxHeartbeats 4000000 in
theorem pdq_any (w : World) (D base g n cap : Nat) (l : Int) (zs : List GZ) (h : GRow w D base g n cap zs) (hD : D ≤ w.heap.size) (hn : 1 ≤ n) (hn2 : n ≤ 12) :
    Calls Tryz.prog 121 #[.slice (some ⟨g, 0, none⟩) n cap, .int .i64 0, .int .i64 (n : Int), .int .i64 l, .func (.func 111) #[] #[]] w fun e w' => e = .returned (.tuple #[]) ∧ GRow w' D base g n cap (sortZ zs n) ∧ BelowBut w.heap.size (fun k => k = g) w w' := by
  have hw0 : IntKind.i64.wrap (n : Int) = (n : Int) := by rw [IntKind.wrap_i64]; omega
  have hle : (n : Int) ≤ 12 := by omega
  have hgt : ¬ (12 : Int) < (n : Int) := by omega
  go_enter Tryz.func121, Tryz.ntmps121
  go_wp2_with (fail)
  go_loopg [1, 2] 0 (fun gk v1 v2 wr => v1 = .int .i64 0 ∧ v2 = .int .i64 (n : Int) ∧ wr = w)
  case atStart => exact ⟨rfl, rfl, rfl⟩
  case round =>
    obtain ⟨rfl, rfl, rfl⟩ := hrel
    go_wp2_with (fail)
    refine (isort_any _ D base g n cap zs h hD hn (by omega)).mono ?_
    rintro e w3 ⟨rfl, hrow, hbr⟩
    go_wp2_with (fail)
    exact bodyPost_ret (v := .tuple #[]) (results_none rfl _ _ _) rfl ⟨rfl, hrow, hbr⟩
set_option maxRecDepth 100000 in
set_option maxHeartbeats 4000000 in
theorem sortFunc_any (w : World) (D base g n cap : Nat) (zs : List GZ) (h : GRow w D base g n cap zs) (hD : D ≤ w.heap.size) (hn : 1 ≤ n) (hn2 : n ≤ 12) :
    Calls Tryz.prog 110 #[.slice (some ⟨g, 0, none⟩) n cap, .func (.func 111) #[] #[]] w fun e w' => e = .returned (.tuple #[]) ∧ GRow w' D base g n cap (sortZ zs n) ∧ BelowBut w.heap.size (fun k => k = g) w w' := by
  have hw0 : IntKind.u64.wrap (n : Int) = (n : Int) := by rw [IntKind.wrap_u64]; omega
  go_enter Tryz.func110, Tryz.ntmps110
  go_wp2_with (fail)
  refine (len_any w n hn2).mono ?_
  rintro e w2 ⟨⟨y, rfl⟩, rfl⟩
  go_wp2_with (fail)
  refine (pdq_any _ D base g n cap y zs h hD hn hn2).mono ?_
  rintro e w3 ⟨rfl, hrow, hbr⟩
  go_wp2_with (fail)
  exact bodyPost_end (v := .tuple #[]) (results_none rfl _ _ _) rfl ⟨rfl, hrow, hbr⟩
end Go.Proofs.YtdpehmdmgijcmaaGreat

/- wait$1. -/
namespace Go.Proofs.YtdpehmdmgijcmaaGreat
open Go.RowKit Go.Shelf

attribute [local go_sem] Oper.semAt_some

def waitF (ts : List Int) (m : List (Pl × Int)) (p : Pl) (xs : List Int) : Bool := match pullF ts (lacksF xs) p with
  | none => false
  | some q => (List.range ts.length).any fun i => decide (0 < mget 0 m (q.set i 0))

theorem waitF_no {ts : List Int} {m : List (Pl × Int)} {p q : Pl} {xs : List Int} (h : pullF ts (lacksF xs) p = some q) (hn : ∀ i, i < ts.length → decide (0 < mget 0 m (q.set i 0)) = false) : waitF ts m p xs = false := by
  unfold waitF
  rw [h]
  simp only [List.any_eq_false, List.mem_range, Bool.not_eq_true]
  exact hn
theorem waitF_yes {ts : List Int} {m : List (Pl × Int)} {p q : Pl} {xs : List Int} {i : Nat} (h : pullF ts (lacksF xs) p = some q) (hi : i < ts.length) (hd : decide (0 < mget 0 m (q.set i 0)) = true) : waitF ts m p xs = true := by
  unfold waitF
  rw [h]
  simp only [List.any_eq_true, List.mem_range]
  exact ⟨i, hi, hd⟩
theorem wait1_results (W : World) (tmps : Array Value) (b : Nat) (x : Bool) (h : Boxed W b 4 (.bool x)) (t : tmps.getD 4 undef = .pointer (some ⟨b, 0, none⟩)) : (results Tryz.f97 tmps).run Tryz.prog W = .ok (.bool x) W := by
  have d := h.cell
  simp only [Array.getD_eq_getD_getElem?] at t
  simp [results, Tryz.results97, go_sem, t, d]

set_option maxRecDepth 100000 in
set_option maxHeartbeats 4000000 in
theorem wait1_any (w : World) (B B2 : Nat) (A A2 : Option Addr) (n c k d ms ml Bt Bp : Nat) (ts xs : List Int) (m : List (Pl × Int)) (p : Pl) (hx : IntsAt w B A n ts) (hB : B ≤ w.heap.size) (h5 : n ≤ 5) (h12 : ∀ i, i < n → 1 ≤ ts[i]?.getD 0 ∧ ts[i]?.getD 0 ≤ 12)
    (hp : PlOk ts p) (ht : TbAt w Bt A n c ms ml) (hpl : PlAt w Bp p) (hm : MapAt Int encI w ms m) (hw : IntsAt w B2 A2 k xs) (hB2 : B2 ≤ w.heap.size) :
    Calls Tryz.prog 97 #[.slice A2 k d, .pointer (some ⟨Bt, 0, none⟩), .pointer (some ⟨Bp, 0, none⟩)] w fun e w' => e = .returned (.bool (waitF ts m p xs)) ∧ Below w.heap.size w w' := by
  have hb0 : Below w.heap.size w (w.alloc (.cells #[.bool false] 4)) := (Below.refl _ w).alloc (Nat.le_refl _) _
  have x1 := Boxed.new w 4 (.bool false)
  have ht0 := ht.below hb0 ht.lt
  have hp0 := hpl.below hb0 hpl.lt
  obtain ⟨t0, t1, t2⟩ := ht0.cells
  obtain ⟨p0, p1, p2, p3, p4, p5⟩ := hp0.cells
  refine (callsIn_wide (n := 3)).1 ?_
  refine callsIn_of_wp_marks Tryz.func97 rfl trivial ?_ rfl
  simp only [Tryz.ntmps97, List.size_toArray, List.length_cons, List.length_nil, Nat.reduceAdd, Nat.reduceSub, Array.replicate_succ, Array.replicate_zero, List.push_toArray, List.append_toArray, List.nil_append, List.cons_append]
  gi_wp2_with (fail)
  refine ⟨trivial, ?_⟩
  refine (callsIn_wide.2 (pull_any _ B A n c ts (hx.below hb0 hB) (by have := hb0.size; omega) h5 h12 p hp 98 #[.slice A2 k d] (lacksF xs) (pullFn_lacks _ _ B2 A2 k d xs (hw.below hb0 hB2) (by have := hb0.size; omega)))).mono ?_
  rintro e w2 ⟨rfl, hb⟩
  have hB2' := hb0.trans (hb.mono hb0.size)
  have y1 := bxBelow x1 hb x1.lt
  have d1 := y1.cell
  have e1 := y1.frozen
  have z1 := y1.lt
  have ht2 := ht.below hB2' ht.lt
  obtain ⟨s0, s1, s2⟩ := ht2.cells
  have hlt2 := ht2.lt
  clear hb x1 hb0
  cases hq : pullF ts (lacksF xs) p with
  | none =>
    have Hw := Lib.hid (show waitF ts m p xs = false by unfold waitF; rw [hq])
    clear hq
    simp only [pullRes]
    gi_wp2_with (fail)
    refine ⟨.bool false, wait1_results _ _ w.heap.size false ((y1.set _).alloc _) (by simp), by rw [Hw.out], ?_⟩
    exact (hB2'.setCell (p := ⟨w.heap.size, 0, none⟩) (by simp) _).alloc (by simp [World.setCell]; omega) _
  | some q =>
    have Hq := Lib.hid hq
    clear hq
    simp only [pullRes]
    gi_wp2_with (fail)
    refine ⟨trivial, (callsIn_wide.2 (screws_box _ _ _ _)).mono ?_⟩
    rintro e w3 ⟨Bs, rfl, hBs, hb3⟩
    have hb2 : Below w2.heap.size w2 (w2.alloc (.cells (plc q) 71)) := (Below.refl _ _).alloc (Nat.le_refl _) _
    have hq2 := (PlAt.new w2 q).below hb3 (by simp)
    have y3 := bxBelow y1 (hb2.trans (hb3.mono hb2.size)) y1.lt
    have hB3 : Below w.heap.size w w3 := hB2'.trans ((hb2.trans (hb3.mono hb2.size)).mono hB2'.size)
    have hz3 := hq2.lt
    have hz2 := hB2'.size
    clear hb2 hb3 y1 d1 e1 s0 s1 s2 ht2 ht0 hp0 t0 t1 t2 p0 p1 p2 p3 p4 p5
    gi_wp2_with (fail)
    refine range_all (n₀ := w.heap.size) (ts := ts) (Bs := Bs) (A := A) (cap := c) rfl hBs.lt hB3.size hBs.cell ((hx.below hB3 hB).more hB) rfl
      (fun pre W => (Boxed W w.heap.size 4 (.bool false) ∧ PlAt W w2.heap.size q ∧ ∀ y ∈ pre, decide (0 < mget 0 m (q.set y.1 0)) = false) ∧ Below w.heap.size w W)
      (fun c' pre W => (c' = .ret ∧ Boxed W w.heap.size 4 (.bool true) ∧ ∃ y ∈ pre, decide (0 < mget 0 m (q.set y.1 0)) = true) ∧ Below w.heap.size w W)
      ?hI ?hIx ?h0 ?a1 ?assign ?body ?done ?stop
    case assign =>
      intro l x W K hK
      gi_wp2
      exact hK
    case hI => exact OwnFrom.and (Own.from (fun s A B row hs hg hr => ⟨bxOwn hs.1 hg hr, hs.2.1.own hg hr, hs.2.2⟩) _) (ownFrom_below (Nat.le_refl _) hB3.size)
    case hIx => exact fun c => OwnFrom.and (Own.from (fun s A B row hs hg hr => ⟨hs.1, bxOwn hs.2.1 hg hr, hs.2.2⟩) _) (ownFrom_below (Nat.le_refl _) hB3.size)
    case h0 => exact ⟨⟨y3, hq2, fun y h => by cases h⟩, hB3⟩
    case body =>
      rintro l pre x W ⟨⟨z1, z2, z3⟩, hBW⟩
      have hx5 : x.1 < 5 := Nat.lt_of_lt_of_le x.2 h5
      have Hz := Lib.hid z3
      clear z3
      obtain ⟨c0, c1, c2, c3, c4, c5⟩ := z2.cells
      gi_wp2_with (fail)
      refine ⟨trivial, (CallsIn.inRound l (callsIn_wide.2 (visited_any W q x.1 hx5))).mono ?_⟩
      rintro e W2 ⟨rfl, hb⟩
      have hB4 := hBW.trans (hb.mono hBW.size)
      have ht4 := ht.below hB4 ht.lt
      have hm4 := hm.below hB4 hm.lt
      obtain ⟨s0, s1, s2⟩ := ht4.cells
      have hlt4 := ht4.lt
      gi_wp2_with (fail)
      refine ⟨trivial, (CallsIn.inRound l (callsIn_wide.2 (isSafe_any _ A n c ms ml m (hm4.alloc _) (q.set x.1 0)))).mono ?_⟩
      rintro e W4 ⟨rfl, hb6⟩
      obtain ⟨r, hr⟩ : ∃ r, r = decide (0 < mget 0 m (q.set x.1 0)) := ⟨_, rfl⟩
      rw [← hr]
      have Hr := Lib.hid hr
      clear hr
      have hb5 : Below W2.heap.size W2 (W2.alloc (.cells (plc (q.set x.1 0)) 71)) := (Below.refl _ _).alloc (Nat.le_refl _) _
      have hb7 : Below W2.heap.size W2 W4 := hb5.trans (hb6.mono hb5.size)
      have hk : Below W.heap.size W W4 := hb.trans (hb7.mono hb.size)
      have hB6 := hBW.trans (hk.mono hBW.size)
      have y1 := bxBelow z1 hk z1.lt
      have y2 := z2.below hk z2.lt
      have d4 := y1.cell
      have f4 := y1.frozen
      clear hb5 hb6 hb7 hb z1 z2 c0 c1 c2 c3 c4 c5 s0 s1 s2
      cases r with
      | false =>
        gi_wp2
        refine ⟨KeepsFrom.of_below hk, hk.mono hBW.size, ⟨y1, y2, fun y hy => ?_⟩, hB6⟩
        rcases List.mem_append.1 hy with hy | hy
        · exact Hz.out y hy
        · obtain rfl := List.mem_singleton.1 hy
          exact Hr.out.symm
      | true =>
        gi_wp2_with (fail)
        exact ⟨(KeepsFrom.of_below hk).trans ((KeepsOthers.setCell _ _ _).from _), ⟨rfl, y1.set _, x, by simp, Hr.out.symm⟩, hB6.setCell (p := ⟨w.heap.size, 0, none⟩) (by simp) _⟩
    case done =>
      rintro D W hD ⟨⟨z1, z2, z3⟩, hBW⟩ hK
      have Hz := Lib.hid z3
      clear z3
      have d4 := z1.cell
      have h4 := z1.frozen
      gi_wp2_with (fail)
      have hK' := (KeepsOthers.setCell W ⟨w.heap.size, 0, none⟩ (.bool false)).same D _ hK rfl
      refine ⟨by simp, .inl ⟨_, _, rfl, run_takeDeferred hK', ?_⟩⟩
      refine ⟨.bool false, wait1_results _ _ w.heap.size false (bxPut (z1.set _) hK') (by simp), ?_, below_put (hBW.setCell (p := ⟨w.heap.size, 0, none⟩) (by simp) _) hK' (by omega)⟩
      rw [waitF_no Hq.out (fun i hi => Hz.out ⟨i, by have := hx.len; omega⟩ (List.mem_finRange _))]
    case stop =>
      rintro D c' pre W hD ⟨rest, hrest⟩ ⟨⟨rfl, z1, z2⟩, hBW⟩ hK
      gi_wp2
      refine ⟨by simp, .inl ⟨_, _, rfl, run_takeDeferred hK, ?_⟩⟩
      obtain ⟨y, hy, hy2⟩ := z2
      refine ⟨.bool true, wait1_results _ _ w.heap.size true (bxPut z1 hK) (by simp), ?_, below_put hBW hK (by omega)⟩
      rw [waitF_yes Hq.out (i := y.1) (by have := hx.len; have := y.2; omega) hy2]
end Go.Proofs.YtdpehmdmgijcmaaGreat

/- groups: how they grow, in memory. -/
namespace Go.Proofs.YtdpehmdmgijcmaaGreat
open Go.RowKit Go.Shelf

attribute [local go_sem] Oper.semAt_some

def groupsL (ws : List Int) : List (List Int) := ws.foldl (fun gs w => gs ++ gs.map (· ++ [w])) [[]]
theorem groupsL_snoc (ws : List Int) (w : Int) : groupsL (ws ++ [w]) = groupsL ws ++ (groupsL ws).map (· ++ [w]) := by simp [groupsL]
theorem groupsL_len (ws : List Int) : (groupsL ws).length = 2 ^ ws.length := by
  have : ∀ (ws : List Int) (gs : List (List Int)), (ws.foldl (fun gs w => gs ++ gs.map (· ++ [w])) gs).length = gs.length * 2 ^ ws.length := by
    intro ws
    induction ws with
    | nil => intro gs; simp
    | cons x ws ih =>
      intro gs
      rw [List.foldl_cons, ih, List.length_append, List.length_map, List.length_cons, Nat.pow_succ, ← Nat.two_mul, Nat.mul_comm 2 gs.length, Nat.mul_assoc, Nat.mul_comm 2]
  simpa [groupsL] using this ws [[]]
theorem groupsL_short (ws : List Int) : ∀ g ∈ groupsL ws, g.length ≤ ws.length := by
  have : ∀ (ws : List Int) (gs : List (List Int)) (L : Nat), (∀ g ∈ gs, g.length ≤ L) → ∀ g ∈ ws.foldl (fun gs w => gs ++ gs.map (· ++ [w])) gs, g.length ≤ L + ws.length := by
    intro ws
    induction ws with
    | nil => intro gs L h g hg; exact h g hg
    | cons x ws ih =>
      intro gs L h g hg
      have := ih (gs ++ gs.map (· ++ [x])) (L + 1) (fun g hg => by
        rcases List.mem_append.1 hg with hg | hg
        · have := h g hg; omega
        · obtain ⟨g', hg', rfl⟩ := List.mem_map.1 hg
          have := h g' hg'
          simp; omega) g hg
      simp
      omega
  intro g hg
  simpa using this ws [[]] 0 (fun g hg => by simp at hg; simp [hg]) g (by simpa [groupsL] using hg)

/-- Each slice within its capacity, and of at most L. -/
def CapOk (L : Nat) (zs : List GZ) : Prop := ∀ z ∈ zs, ∃ A m c, z.1 = .slice A m c ∧ m ≤ c ∧ (A = none → c = 0) ∧ m ≤ L
theorem CapOk.mono {L L' : Nat} {zs : List GZ} (h : CapOk L zs) (hL : L ≤ L') : CapOk L' zs := fun z hz => by
  obtain ⟨A, m, c, e, h1, h2, h3⟩ := h z hz
  exact ⟨A, m, c, e, h1, h2, by omega⟩
theorem CapOk.snoc {L : Nat} {zs : List GZ} {z : GZ} (h : CapOk L zs) (hz : ∃ A m c, z.1 = .slice A m c ∧ m ≤ c ∧ (A = none → c = 0) ∧ m ≤ L) : CapOk L (zs ++ [z]) := fun y hy => by
  rcases List.mem_append.1 hy with hy | hy
  · exact h y hy
  · obtain rfl := List.mem_singleton.1 hy; exact hz

theorem ints_kept {W W' : World} {D D' : Nat} {A : Option Addr} {m : Nat} {xs : List Int} (h : IntsAt W D A m xs) (hD : D ≤ D') (hk : ∀ (k : Nat) (o : Obj), W.heap[k]? = some o → o.isCells = true → W'.heap[k]? = W.heap[k]?) : IntsAt W' D' A m xs := by
  refine ⟨h.1, h.2.1, fun h0 => ?_⟩
  obtain ⟨b, off, e, hb, hc⟩ := h.2.2 h0
  refine ⟨b, off, e, by omega, fun j hj => ?_⟩
  have := hc j hj
  obtain ⟨o, ho, hoc⟩ := cells_of_cell this
  exact (World.cell?_of_block (hk b o ho hoc)).trans this
theorem GRow.kept {W W' : World} {D D' base g n cap : Nat} {zs : List GZ} (h : GRow W D base g n cap zs) (hD : D ≤ D') (hk : ∀ (k : Nat) (o : Obj), W.heap[k]? = some o → o.isCells = true → W'.heap[k]? = W.heap[k]?) : GRow W' D' base g n cap zs := by
  refine ⟨?_, fun z hz => ?_⟩
  · refine row_heap h.own fun g' hg' => ?_
    rcases h.own.2 with ⟨he, -⟩ | ⟨g2, cap', cur, he, hb, hg, -⟩
    · cases he
    · cases he
      cases hg'
      exact hk _ _ hg rfl
  · obtain ⟨A, m, c, e, h1, h2⟩ := h.el z hz
    exact ⟨A, m, c, e, ints_kept h1 hD hk, h2⟩
theorem GRow.own' {W W' : World} {D D' base g n cap : Nat} {zs : List GZ} (h : GRow W D base g n cap zs) (hD : D ≤ D') {row : Option Nat} (hg : W.grownBy W' row) (hrow : ∀ r, row = some r → ∃ o : Obj, W.heap[r]? = some o ∧ o.isCells = false) : GRow W' D' base g n cap zs :=
  h.kept hD fun _ _ hk hc => grownBy_keeps_cells hg hrow hk hc
theorem GRow.put {W : World} {D base g n cap l : Nat} {zs : List GZ} (h : GRow W D base g n cap zs) (hl : W.heap[l]? = some (.deferred (some []))) (o : Obj) : GRow (W.putObj l o) D base g n cap zs :=
  h.kept (Nat.le_refl _) fun k ob hk hc => World.putObj_heap_other (by rintro rfl; rw [hl] at hk; cases hk; cases hc)

/-- An append to a row of the call's own: in place, or in a new block, and then the old one lies as it lay. -/
theorem wpListIn_append_keep {F : Fence} {nF : Nat} {P : Program} (w : World) {ops : Array Oper} {rest : List Oper} {o : Oper} {a : Act} {Q : Exit → Act → World → Prop}
    (hg : o.guard = none) (s x : Operand) (t : TypeId) (hop : o.op = Op.call { callee := Callee.builtin Builtin.append, args := #[s, x], argTypes := #[t, t] })
    (base : Nat) (e : TypeId) (i : TypeInfo) (z : Value) (size bytes : Nat) (h1 : P.underlying t = some (.slice e)) (h2 : P.info? e = some i) (h3 : i.zero = some z) (h4 : i.size = size) (h5 : i.bytes = bytes) (h6 : z.cells.size = size) (h7 : 0 < size)
    (g n cap : Nat) (olds : List Value) (hs : a.eval s = .slice (some ⟨g, 0, none⟩) n cap) (hown : w.ownsRow base e size (.slice (some ⟨g, 0, none⟩) n cap) n olds)
    (ad : Addr) (m c : Nat) (news : List Value) (hx : a.eval x = .slice (some ad) m c) (hn : news.length = m * size) (hc : ∀ j u, news[j]? = some u → w.cell? (ad.add j) = some u) (h1c : ∀ u ∈ news, u.oneCell' = true)
    (b1 : n + m ≤ maxLen) (b2 : (n + m) * bytes ≤ 140737488355328) (hnm : 0 < n + m) (hbase : base ≤ w.heap.size)
    (hK : ∀ g' cap' w', w'.ownsRow base e size (.slice (some ⟨g', 0, none⟩) (n + m) cap') (n + m) (olds ++ news) → ((g' = g ∧ w.grownBy w' (some g)) ∨ (w.heap.size ≤ g' ∧ w.grownBy w' none)) → wpListIn F nF P ops Q rest (a.put o.dst (.slice (some ⟨g', 0, none⟩) (n + m) cap')) w') :
    wpListIn F nF P ops Q (o :: rest) a w := by
  by_cases hroom : n + m ≤ cap
  · exact wpListIn_append_fits w hg s x t hop base e i size h1 h2 h4 g n cap olds hs hown ad m c news hx hn hc h1c hroom fun w' r1 r2 => hK g cap w' r1 (.inl ⟨rfl, r2⟩)
  · refine wpListIn_append_grows w hg s x t hop e i z size bytes h1 h2 h3 h4 h5 h6 h7 (some ⟨g, 0, none⟩) n cap olds hs (by intro h; cases h) hown.1 (fun b hb j u hj => by cases hb; exact hown.cells rfl j u hj) ad m c news hx hn hc h1c (by omega) b1 b2 fun v' w' r1 r2 => ?_
    obtain ⟨g', cap', rfl⟩ := ownsRow_pos r1 hnm
    have hb := (r1.lt g' rfl).1
    exact hK g' cap' w' (row_mono r1 hbase) (.inr ⟨hb, r2⟩)

/-- One group more. -/
theorem GRow.step {W W' : World} {base g n cap g' cap' : Nat} {zs : List GZ} {v : Value} {A : Option Addr} {m c : Nat} {xs : List Int} {D : Nat} (h : GRow W D base g n cap zs) (hD : D ≤ W.heap.size)
    (hv : v = .slice A m c) (hx : IntsAt W D A m xs) (hA : ∀ a : Addr, A = some a → 0 < m → a.block ≠ g)
    (hown : W'.ownsRow base 89 1 (.slice (some ⟨g', 0, none⟩) (n + 1) cap') (n + 1) (zs.map (fun z => z.1) ++ [v]))
    (hg : (g' = g ∧ W.grownBy W' (some g)) ∨ (W.heap.size ≤ g' ∧ W.grownBy W' none)) : GRow W' D base g' (n + 1) cap' (zs ++ [(v, xs)]) := by
  have key : ∀ (A : Option Addr) (m : Nat) (xs : List Int), IntsAt W D A m xs → (∀ a : Addr, A = some a → 0 < m → a.block ≠ g) → IntsAt W' D A m xs ∧ ∀ a : Addr, A = some a → 0 < m → a.block ≠ g' := by
    intro A m xs hx hA
    refine ⟨⟨hx.1, hx.2.1, fun h0 => ?_⟩, fun a ha h0 => ?_⟩
    · obtain ⟨b, off, e, hb, hc⟩ := hx.2.2 h0
      refine ⟨b, off, e, hb, fun j hj => ?_⟩
      have hne := hA _ e h0
      refine (World.cell?_of_block ?_).trans (hc j hj)
      rcases hg with ⟨-, hg⟩ | ⟨-, hg⟩
      · exact hg.block b (by omega) (by simpa using hne)
      · exact hg.block b (by omega) (by simp)
    · rcases hg with ⟨rfl, -⟩ | ⟨hb, -⟩
      · exact hA a ha h0
      · obtain ⟨b, off, e, hbD, -⟩ := hx.2.2 h0
        rw [ha] at e
        cases e
        show b ≠ g'
        omega
  refine ⟨by simpa using hown, fun z hz => ?_⟩
  rcases List.mem_append.1 hz with hz | hz
  · obtain ⟨A, m, c, e, h1, h2⟩ := h.el z hz
    obtain ⟨k1, k2⟩ := key A m z.2 h1 h2
    exact ⟨A, m, c, e, k1, k2⟩
  · obtain rfl := List.mem_singleton.1 hz
    obtain ⟨k1, k2⟩ := key A m xs hx hA
    exact ⟨A, m, c, hv, k1, k2⟩
/-- The old cells of the row lie as they lay. -/
theorem old_cells {W W' : World} {base g n g' cap' g0 M : Nat} {zs : List GZ} {v : Value} (hM : M ≤ n) (hl : zs.length = n) (hold : ∀ j, j < M → W.cell? ⟨g0, j, none⟩ = some (gzAt zs j).1)
    (hown : W'.ownsRow base 89 1 (.slice (some ⟨g', 0, none⟩) (n + 1) cap') (n + 1) (zs.map (fun z => z.1) ++ [v]))
    (hg : (g' = g ∧ W.grownBy W' (some g)) ∨ (W.heap.size ≤ g' ∧ W.grownBy W' none)) (xs : List Int) : ∀ j, j < M → W'.cell? ⟨g0, j, none⟩ = some (gzAt (zs ++ [(v, xs)]) j).1 := by
  intro j hj
  have e1 : gzAt (zs ++ [(v, xs)]) j = gzAt zs j := by unfold gzAt; rw [List.getElem?_append_left (by omega)]
  have hlt : g0 < W.heap.size := by
    obtain ⟨o, ho, -⟩ := cells_of_cell (hold j hj)
    exact (Array.getElem?_eq_some_iff.1 ho).1
  have stay : W'.heap[g0]? = W.heap[g0]? → W'.cell? ⟨g0, j, none⟩ = some (gzAt (zs ++ [(v, xs)]) j).1 := fun h => by
    rw [e1]
    exact (World.cell?_of_block h).trans (hold j hj)
  rcases hg with ⟨rfl, hg⟩ | ⟨-, hg⟩
  · by_cases hgg : g0 = g'
    · subst hgg
      have h1 : (zs.map (fun z => z.1) ++ [v])[j]? = some (gzAt (zs ++ [(v, xs)]) j).1 := by
        rw [List.getElem?_append_left (by simp; omega), List.getElem?_map, e1, gzAt, List.getElem?_eq_getElem (by omega)]
        rfl
      have := hown.cells (g := g0) rfl j _ h1
      have ha : (⟨g0, 0, none⟩ : Addr).add j = ⟨g0, j, none⟩ := by simp [Addr.add]; omega
      rwa [ha] at this
    · exact stay (hg.block g0 hlt (by simpa using hgg))
  · exact stay (hg.block g0 hlt (by simp))
end Go.Proofs.YtdpehmdmgijcmaaGreat
