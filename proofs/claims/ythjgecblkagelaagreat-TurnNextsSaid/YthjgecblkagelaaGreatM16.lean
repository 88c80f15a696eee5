/- Parts of a proof: AW AX AY AZ. -/
import Derived.Test.YthjgecblkagelaaGreatM15
import Derived.Shelf.SlSortCmp.Whole1

/- The insertion sort of groups. -/
namespace Go.Proofs.YthjgecblkagelaaGreat
open Go.RowKit Go.Shelf

attribute [local go_sem] Oper.semAt_some

abbrev GZ := Value × List Int
def gzAt (zs : List GZ) (j : Nat) : GZ := zs[j]?.getD (undef, [])
def swapZ (zs : List GZ) (j : Nat) : List GZ := (zs.set (j + 1) (gzAt zs j)).set j (gzAt zs (j + 1))
def insZ : List GZ → Nat → List GZ
  | zs, 0 => zs
  | zs, j + 1 => if gcmpF (gzAt zs (j + 1)).2 (gzAt zs j).2 < 0 then insZ (swapZ zs j) j else zs
def sortZ (zs : List GZ) : Nat → List GZ
  | 0 => zs
  | i + 1 => insZ (sortZ zs i) i
theorem ints_but {W W' : World} {D g : Nat} {A : Option Addr} {m : Nat} {xs : List Int} (h : IntsAt W D A m xs) (hne : ∀ a : Addr, A = some a → 0 < m → a.block ≠ g) (hb : BelowBut D (fun k => k = g) W W') : IntsAt W' D A m xs := by
  refine ⟨h.1, h.2.1, fun h0 => ?_⟩
  obtain ⟨b, off, e, hbD, hc⟩ := h.2.2 h0
  refine ⟨b, off, e, hbD, fun j hj => ?_⟩
  rw [← hc j hj]
  simp only [World.cell?, hb.same b hbD (fun e' => hne _ e h0 e')]
theorem but_set (D g j : Nat) (W : World) (x : Value) : BelowBut D (fun k => k = g) W (W.setCell ⟨g, j, none⟩ x) := by
  refine ⟨⟨rfl, rfl, rfl, ?_, fun _ h => absurd h (Nat.not_lt_zero _)⟩, fun k _ hk => ?_⟩
  · simp [World.setCell]
  · simp only [World.setCell, Array.getElem?_modify]
    rw [if_neg (fun e => hk e.symm)]
structure GRow (W : World) (D base g n cap : Nat) (zs : List GZ) : Prop where
  own : W.ownsRow base 73 1 (.slice (some ⟨g, 0, none⟩) n cap) n (zs.map (fun z => z.1))
  el : ∀ z ∈ zs, ∃ A m c, z.1 = .slice A m c ∧ IntsAt W D A m z.2 ∧ ∀ a : Addr, A = some a → 0 < m → a.block ≠ g
theorem GRow.len {W : World} {D base g n cap : Nat} {zs : List GZ} (h : GRow W D base g n cap zs) : zs.length = n := by simpa using h.own.1
theorem gz_mem {zs : List GZ} {j : Nat} (h : j < zs.length) : gzAt zs j ∈ zs := by
  unfold gzAt
  rw [List.getElem?_eq_getElem h]
  exact List.getElem_mem h
theorem GRow.cell {W : World} {D base g n cap : Nat} {zs : List GZ} (h : GRow W D base g n cap zs) {j : Nat} (hj : j < n) : W.cell? ⟨g, j, none⟩ = some (gzAt zs j).1 := by
  have hl := h.len
  have := h.own.cells (g := g) rfl j (gzAt zs j).1 (by rw [List.getElem?_map, gzAt, List.getElem?_eq_getElem (by omega)]; rfl)
  have ha : (⟨g, 0, none⟩ : Addr).add j = ⟨g, j, none⟩ := by simp [Addr.add]; omega
  rwa [ha] at this
theorem GRow.block {W : World} {D base g n cap : Nat} {zs : List GZ} (h : GRow W D base g n cap zs) : base ≤ g ∧ g < W.heap.size := by
  rcases h.own.2 with ⟨he, -⟩ | ⟨g', cap', cur, he, hb, hg, -⟩
  · cases he
  · cases he
    exact ⟨hb, (Array.getElem?_eq_some_iff.1 hg).1⟩
theorem GRow.below {W W' : World} {D base g n cap : Nat} {zs : List GZ} (h : GRow W D base g n cap zs) (hb : Below W.heap.size W W') (hD : D ≤ W.heap.size) : GRow W' D base g n cap zs :=
  ⟨row_below h.own hb, fun z hz => by
    obtain ⟨A, m, c, e, h1, h2⟩ := h.el z hz
    exact ⟨A, m, c, e, h1.below hb hD, h2⟩⟩
theorem GRow.swap {W : World} {D base g n cap : Nat} {zs : List GZ} (h : GRow W D base g n cap zs) {j : Nat} (hj : j + 1 < n) :
    GRow ((W.setCell ⟨g, j + 1, none⟩ (gzAt zs j).1).setCell ⟨g, j, none⟩ (gzAt zs (j + 1)).1) D base g n cap (swapZ zs j) := by
  have hl := h.len
  have hb : BelowBut D (fun k => k = g) W ((W.setCell ⟨g, j + 1, none⟩ (gzAt zs j).1).setCell ⟨g, j, none⟩ (gzAt zs (j + 1)).1) := (but_set D g (j + 1) W _).trans (but_set D g j _ _)
  refine ⟨?_, fun z hz => ?_⟩
  · have h1 := row_set (row_set h.own hj (gzAt zs j).1) (i := j) (by omega) (gzAt zs (j + 1)).1
    unfold swapZ
    rw [List.map_set, List.map_set]
    exact h1
  · have hm : z ∈ zs := by
      unfold swapZ at hz
      rcases List.mem_or_eq_of_mem_set hz with hz | rfl
      · rcases List.mem_or_eq_of_mem_set hz with hz | rfl
        · exact hz
        · exact gz_mem (by omega)
      · exact gz_mem (by omega)
    obtain ⟨A, m, c, e, h1, h2⟩ := h.el z hm
    exact ⟨A, m, c, e, ints_but h1 h2 hb, h2⟩

set_option maxRecDepth 100000 in
set_option maxHeartbeats 8000000 in
theorem isort_any (w : World) (D base g n cap : Nat) (zs : List GZ) (h : GRow w D base g n cap zs) (hD : D ≤ w.heap.size) (hn : 1 ≤ n) (hn2 : n ≤ 1000000) :
    Calls Tryz.prog 112 #[.slice (some ⟨g, 0, none⟩) n cap, .int .i64 0, .int .i64 (n : Int), .func (.func 93) #[] #[]] w fun e w' => e = .returned (.tuple #[]) ∧ GRow w' D base g n cap (sortZ zs n) ∧ BelowBut w.heap.size (fun k => k = g) w w' := by
  go_enter Tryz.func112, Tryz.ntmps112
  go_wp2_with (fail)
  go_loopg [8] (n - 1) (fun gk v8 wr => ∃ i : Nat, (1 ≤ i ∧ i ≤ n ∧ gk = n - i ∧ v8 = .int .i64 (i : Int)) ∧ GRow wr D base g n cap (sortZ zs i) ∧ BelowBut w.heap.size (fun k => k = g) w wr)
  case atStart => exact ⟨1, ⟨Nat.le_refl _, hn, rfl, rfl⟩, h, BelowBut.refl _ _ _⟩
  case round =>
    obtain ⟨i, ⟨hi1, hin, rfl, rfl⟩, hrow, hbr⟩ := hrel
    by_cases hi : i < n
    · go_wp2_with (fail)
      obtain ⟨wo, rfl⟩ : ∃ wo, wo = wr := ⟨_, rfl⟩
      obtain ⟨T, hT⟩ : ∃ T, T = insZ (sortZ zs i) i := ⟨_, rfl⟩
      have HT := Lib.hid hT
      go_loopg [9] i (fun gk v9 wr => ∃ (j : Nat) (ys : List GZ), (j ≤ i ∧ j = gk ∧ v9 = .int .i64 (j : Int)) ∧ insZ ys j = T ∧ GRow wr D base g n cap ys ∧ BelowBut w.heap.size (fun k => k = g) w wr)
      case atStart => exact ⟨i, sortZ zs i, ⟨Nat.le_refl _, rfl, rfl⟩, hT.symm, hrow, hbr⟩
      case round =>
        clear hT hrow hbr
        obtain ⟨j, ys, ⟨hji, rfl, rfl⟩, hys, hrow, hbr⟩ := hrel
        have hii : IntKind.i64.wrap ((i : Int) + 1) = (i : Int) + 1 := by rw [IntKind.wrap_i64]; omega
        have hlen := hrow.len
        cases j with
        | zero =>
          go_wp2_with (fail)
          refine region_held_wp 1 (fun _ => True) (fun _ => false) (by kernel_rfl) ?_
          intro KR hKR
          refine wpAnyHI_takeW (i := 0) (v := .int .i64 0) (some 18) rfl rfl (by kernel_rfl) (by kernel_rfl) (by kernel_rfl) (by kernel_rfl) (fun _ _ _ h => h) (.inl ⟨by kernel_rfl, fun W' hS' => ?_⟩) ?_
          · go_simp
          refine wpAnyHI_takeW (i := 1) (v := .int .i64 0) (some 19) rfl rfl (by kernel_rfl) (by kernel_rfl) (by kernel_rfl) (by kernel_rfl) (fun _ _ _ h => h) (.inl ⟨by kernel_rfl, fun W' hS' => ?_⟩) ?_
          · go_simp
          refine wpAnyHI_takeW (i := 2) (v := .bool false) (some 20) rfl rfl (by kernel_rfl) (by kernel_rfl) (by kernel_rfl) (by kernel_rfl) (fun _ _ _ h => h) (.inl ⟨by kernel_rfl, fun W' hS' => ?_⟩) ?_
          · go_simp
          refine wpAnyHI_takeW (i := 3) (v := .bool false) (some 21) rfl rfl (by kernel_rfl) (by kernel_rfl) (by kernel_rfl) (by kernel_rfl) (fun _ _ _ h => h) (.inl ⟨by kernel_rfl, fun W' hS' => ?_⟩) ?_
          · go_simp
          refine wpAnyHI_takeW (i := 4) (v := undef) (some 22) rfl rfl (by kernel_rfl) (by kernel_rfl) (by kernel_rfl) (by kernel_rfl) (fun _ _ _ h => h) (.inr ⟨by kernel_rfl, rfl⟩) ?_
          refine wpAnyHI_takeW (i := 5) (v := undef) (some 23) rfl rfl (by kernel_rfl) (by kernel_rfl) (by kernel_rfl) (by kernel_rfl) (fun _ _ _ h => h) (.inr ⟨by kernel_rfl, rfl⟩) ?_
          refine wpAnyHI_takeW (i := 6) (v := undef) (some 24) rfl rfl (by kernel_rfl) (by kernel_rfl) (by kernel_rfl) (by kernel_rfl) (fun _ _ _ h => h) (.inr ⟨by kernel_rfl, rfl⟩) ?_
          refine wpAnyHI_takeW (i := 7) (v := undef) (some 25) rfl rfl (by kernel_rfl) (by kernel_rfl) (by kernel_rfl) (by kernel_rfl) (fun _ _ _ h => h) (.inr ⟨by kernel_rfl, rfl⟩) ?_
          refine wpAnyHI_takeW (i := 8) (v := undef) (some 26) rfl rfl (by kernel_rfl) (by kernel_rfl) (by kernel_rfl) (by kernel_rfl) (fun _ _ _ h => h) (.inr ⟨by kernel_rfl, rfl⟩) ?_
          refine wpAnyHI_takeW (i := 9) (v := undef) (some 27) rfl rfl (by kernel_rfl) (by kernel_rfl) (by kernel_rfl) (by kernel_rfl) (fun _ _ _ h => h) (.inr ⟨by kernel_rfl, rfl⟩) ?_
          refine wpAnyHI_takeW (i := 10) (v := undef) (some 28) rfl rfl (by kernel_rfl) (by kernel_rfl) (by kernel_rfl) (by kernel_rfl) (fun _ _ _ h => h) (.inr ⟨by kernel_rfl, rfl⟩) ?_
          refine wpAnyHI_takeW (i := 11) (v := undef) (some 29) rfl rfl (by kernel_rfl) (by kernel_rfl) (by kernel_rfl) (by kernel_rfl) (fun _ _ _ h => h) (.inr ⟨by kernel_rfl, rfl⟩) ?_
          refine wpAnyHI_takeW (i := 12) (v := undef) (some 30) rfl rfl (by kernel_rfl) (by kernel_rfl) (by kernel_rfl) (by kernel_rfl) (fun _ _ _ h => h) (.inr ⟨by kernel_rfl, rfl⟩) ?_
          refine wpAnyHI_takeW (i := 13) (v := undef) (some 31) rfl rfl (by kernel_rfl) (by kernel_rfl) (by kernel_rfl) (by kernel_rfl) (fun _ _ _ h => h) (.inr ⟨by kernel_rfl, rfl⟩) ?_
          refine wpAnyHI_takeW (i := 14) (v := undef) (some 32) rfl rfl (by kernel_rfl) (by kernel_rfl) (by kernel_rfl) (by kernel_rfl) (fun _ _ _ h => h) (.inr ⟨by kernel_rfl, rfl⟩) ?_
          refine wpAnyHI_takeW (i := 15) (v := undef) (some 33) rfl rfl (by kernel_rfl) (by kernel_rfl) (by kernel_rfl) (by kernel_rfl) (fun _ _ _ h => h) (.inr ⟨by kernel_rfl, rfl⟩) ?_
          refine wpAnyHI_takeW (i := 16) (v := .bool false) (some 34) rfl rfl (by kernel_rfl) (by kernel_rfl) (by kernel_rfl) (by kernel_rfl) (fun _ _ _ h => h) (.inl ⟨by kernel_rfl, fun W' hS' => ?_⟩) ?_
          · go_simp
          refine wpAnyHI_end (by kernel_rfl) ?_
          show KR _ _
          refine act_eq (K := KR) (a' := { tmps := #[.slice (some ⟨g, 0, none⟩) n cap, .int .i64 0, .int .i64 (n : Int), .func (.func 93) #[] #[], undef, undef, undef, undef, .int .i64 (i : Int), .int .i64 0, .int .i64 0, .int .i64 1, .int .i64 (i : Int), .int .i64 (n : Int), .bool true, u15, u16, .int .i64 (i : Int), .int .i64 0, .int .i64 0, .bool false, .bool false, undef, undef, undef, undef, undef, undef, undef, undef, undef, undef, undef, undef, .bool false, u35, u36, u37, u38, u39, u40, u41, u42, u43, u44, u45, u46, u47, u48, u49, u50, u51, u52], defers := [] }) (by kernel_rfl) ?_
          refine hKR _ _ ?_
          clear hKR KR
          go_wp2
          go_roundg (n - (i + 1))
          case measure => omega
          case rel =>
            refine ⟨i + 1, ⟨by omega, by omega, rfl, by simp⟩, ?_, hbr.trans (BelowBut.of ((below_drew wr).mono hbr.base.size))⟩
            have e : sortZ zs (i + 1) = ys := by
              show insZ (sortZ zs i) i = ys
              rw [← HT.out, ← hys, insZ]
            rw [e]
            exact hrow.below (below_drew wr) (by have := hbr.base.size; omega)
        | succ j =>
          have hgb := hrow.block.2
          have hcc1 := hrow.cell (j := j + 1) (by omega)
          have hcc2 := hrow.cell (j := j) (by omega)
          obtain ⟨A1, m1, c1, f1, e1, -⟩ := hrow.el _ (gz_mem (zs := ys) (j := j + 1) (by omega))
          obtain ⟨A2, m2, c2, f2, e2, -⟩ := hrow.el _ (gz_mem (zs := ys) (j := j) (by omega))
          rw [f1] at hcc1
          rw [f2] at hcc2
          have Hf := Lib.hid (And.intro f1 f2)
          clear f1 f2
          have hc1 : ∀ W, Below wr.heap.size wr.drew W → W.cell? ⟨g, j + 1, none⟩ = some (.slice A1 m1 c1) := fun W hb => (hb.cell (p := ⟨g, j + 1, none⟩) hgb).trans hcc1
          have hc2 : ∀ W, Below wr.heap.size wr.drew W → W.cell? ⟨g, j, none⟩ = some (.slice A2 m2 c2) := fun W hb => (hb.cell (p := ⟨g, j, none⟩) hgb).trans hcc2
          have hjw : IntKind.i64.wrap (((j + 1 : Nat) : Int) - 1) = (j : Int) := by rw [IntKind.wrap_i64]; omega
          have hjw' : IntKind.i64.wrap (j : Int) = (j : Int) := by rw [IntKind.wrap_i64]; omega
          have Hys := Lib.hid hys
          go_wp2_with (fail)
          refine region_held_wp 1 (fun W' => Below wr.heap.size wr.drew W') (fun k => decide (k ≤ 14)) (by kernel_rfl) ?_
          intro KR hKR
          have hS : Below wr.heap.size wr.drew wr.drew := Below.refl _ _
          refine wpAnyHI_takeE (i := 0) (v := .int .i64 ((j + 1 : Nat) : Int)) (some 18) rfl rfl (by kernel_rfl) (by kernel_rfl) (by kernel_rfl) (by kernel_rfl) (by kernel_rfl) (fun _ _ _ h => h) hS (.inl ⟨by kernel_rfl, fun W' hS' => ?_⟩) ?_
          · go_simp
          refine wpAnyHI_takeE (i := 1) (v := .int .i64 0) (some 19) rfl rfl (by kernel_rfl) (by kernel_rfl) (by kernel_rfl) (by kernel_rfl) (by kernel_rfl) (fun _ _ _ h => h) hS (.inl ⟨by kernel_rfl, fun W' hS' => ?_⟩) ?_
          · go_simp
          refine wpAnyHI_takeE (i := 2) (v := .bool true) (some 20) rfl rfl (by kernel_rfl) (by kernel_rfl) (by kernel_rfl) (by kernel_rfl) (by kernel_rfl) (fun _ _ _ h => h) hS (.inl ⟨by kernel_rfl, fun W' hS' => ?_⟩) ?_
          · go_simp
          refine wpAnyHI_takeE (i := 3) (v := .bool true) (some 21) rfl rfl (by kernel_rfl) (by kernel_rfl) (by kernel_rfl) (by kernel_rfl) (by kernel_rfl) (fun _ _ _ h => h) hS (.inl ⟨by kernel_rfl, fun W' hS' => ?_⟩) ?_
          · go_simp
          refine wpAnyHI_takeE (i := 5) (v := .slice (some ⟨g, 0, none⟩) n cap) (some 23) rfl rfl (by kernel_rfl) (by kernel_rfl) (by kernel_rfl) (by kernel_rfl) (by kernel_rfl) (fun _ _ _ h => h) hS (.inl ⟨by kernel_rfl, fun W' hS' => ?_⟩) ?_
          · go_simp
          refine wpAnyHI_takeE (i := 6) (v := .int .i64 ((j + 1 : Nat) : Int)) (some 24) rfl rfl (by kernel_rfl) (by kernel_rfl) (by kernel_rfl) (by kernel_rfl) (by kernel_rfl) (fun _ _ _ h => h) hS (.inl ⟨by kernel_rfl, fun W' hS' => ?_⟩) ?_
          · go_simp
          refine wpAnyHI_takeE (i := 7) (v := .pointer (some ⟨g, j + 1, none⟩)) (some 25) rfl rfl (by kernel_rfl) (by kernel_rfl) (by kernel_rfl) (by kernel_rfl) (by kernel_rfl) (fun _ _ _ h => h) hS (.inl ⟨by kernel_rfl, fun W' hS' => ?_⟩) ?_
          · go_simp; intro hx; exfalso; omega
          refine wpAnyHI_takeE (i := 9) (v := .slice (some ⟨g, 0, none⟩) n cap) (some 27) rfl rfl (by kernel_rfl) (by kernel_rfl) (by kernel_rfl) (by kernel_rfl) (by kernel_rfl) (fun _ _ _ h => h) hS (.inl ⟨by kernel_rfl, fun W' hS' => ?_⟩) ?_
          · go_simp
          refine wpAnyHI_takeE (i := 10) (v := .int .i64 ((j + 1 : Nat) : Int)) (some 28) rfl rfl (by kernel_rfl) (by kernel_rfl) (by kernel_rfl) (by kernel_rfl) (by kernel_rfl) (fun _ _ _ h => h) hS (.inl ⟨by kernel_rfl, fun W' hS' => ?_⟩) ?_
          · go_simp
          refine wpAnyHI_takeE (i := 11) (v := .int .i64 (j : Int)) (some 29) rfl rfl (by kernel_rfl) (by kernel_rfl) (by kernel_rfl) (by kernel_rfl) (by kernel_rfl) (fun _ _ _ h => h) hS (.inl ⟨by kernel_rfl, fun W' hS' => ?_⟩) ?_
          · go_simp
          refine wpAnyHI_takeE (i := 12) (v := .pointer (some ⟨g, j, none⟩)) (some 30) rfl rfl (by kernel_rfl) (by kernel_rfl) (by kernel_rfl) (by kernel_rfl) (by kernel_rfl) (fun _ _ _ h => h) hS (.inl ⟨by kernel_rfl, fun W' hS' => ?_⟩) ?_
          · go_simp; intro hx; exfalso; omega
          refine wpAnyHI_takeE (i := 4) (v := .func (.func 93) #[] #[]) (some 22) rfl rfl (by kernel_rfl) (by kernel_rfl) (by kernel_rfl) (by kernel_rfl) (by kernel_rfl) (fun _ _ _ h => h) hS (.inl ⟨by kernel_rfl, fun W' hS' => ?_⟩) ?_
          · go_simp
          refine wpAnyHI_takeE (i := 8) (v := .slice A1 m1 c1) (some 26) rfl rfl (by kernel_rfl) (by kernel_rfl) (by kernel_rfl) (by kernel_rfl) (by kernel_rfl) (fun _ _ _ h => h) hS (.inl ⟨by kernel_rfl, fun W' hS' => ?_⟩) ?_
          · have q := hc1 W' hS'; go_simp
          refine wpAnyHI_takeE (i := 13) (v := .slice A2 m2 c2) (some 31) rfl rfl (by kernel_rfl) (by kernel_rfl) (by kernel_rfl) (by kernel_rfl) (by kernel_rfl) (fun _ _ _ h => h) hS (.inl ⟨by kernel_rfl, fun W' hS' => ?_⟩) ?_
          · have q := hc2 W' hS'; go_simp
          refine wpAnyHI_one (i := 14) rfl (by kernel_rfl) ?_
          intro K1 hK1
          go_simp
          refine ⟨trivial, (callsIn_wide.2 (gcmp_any wr.drew D D A1 A2 m1 c1 m2 c2 (gzAt ys (j + 1)).2 (gzAt ys j).2 e1 e2)).mono ?_⟩
          rintro e w4 ⟨rfl, hb4⟩
          have hS4 : Below wr.heap.size wr.drew w4 := hb4
          obtain ⟨r, hr⟩ : ∃ r, r = gcmpF (gzAt ys (j + 1)).2 (gzAt ys j).2 := ⟨_, rfl⟩
          rw [← hr]
          refine hK1 _ _ ⟨fun _ => hS4, ?_⟩
          clear hK1 K1
          have Hr := Lib.hid hr
          clear hr
          have hrow4 : GRow w4 D base g n cap ys := hrow.below ((below_drew wr).trans hS4) (by have := hbr.base.size; omega)
          have hbr4 : BelowBut w.heap.size (fun k => k = g) w w4 := hbr.trans (BelowBut.of (((below_drew wr).trans hS4).mono hbr.base.size))
          by_cases hlt : r < 0
          · refine wpAnyHI_takeW (i := 15) (v := .bool true) (some 33) rfl rfl (by kernel_rfl) (by kernel_rfl) (by kernel_rfl) (by kernel_rfl) (fun _ _ _ h => h) (.inl ⟨by kernel_rfl, fun W' hS' => ?_⟩) ?_
            · go_simp
            refine wpAnyHI_takeW (i := 16) (v := .bool true) (some 34) rfl rfl (by kernel_rfl) (by kernel_rfl) (by kernel_rfl) (by kernel_rfl) (fun _ _ _ h => h) (.inl ⟨by kernel_rfl, fun W' hS' => ?_⟩) ?_
            · go_simp
            refine wpAnyHI_end (by kernel_rfl) ?_
            show KR _ _
            refine act_eq (K := KR) (a' := { tmps := #[.slice (some ⟨g, 0, none⟩) n cap, .int .i64 0, .int .i64 (n : Int), .func (.func 93) #[] #[], undef, undef, undef, undef, .int .i64 (i : Int), .int .i64 ((j + 1 : Nat) : Int), .int .i64 0, .int .i64 1, .int .i64 (i : Int), .int .i64 (n : Int), .bool true, u15, u16, .int .i64 (i : Int), .int .i64 ((j + 1 : Nat) : Int), .int .i64 0, .bool true, .bool true, .func (.func 93) #[] #[], .slice (some ⟨g, 0, none⟩) n cap, .int .i64 ((j + 1 : Nat) : Int), .pointer (some ⟨g, j + 1, none⟩), .slice A1 m1 c1, .slice (some ⟨g, 0, none⟩) n cap, .int .i64 ((j + 1 : Nat) : Int), .int .i64 (j : Int), .pointer (some ⟨g, j, none⟩), .slice A2 m2 c2, .int .i64 r, .bool true, .bool true, u35, u36, u37, u38, u39, u40, u41, u42, u43, u44, u45, u46, u47, u48, u49, u50, u51, u52], defers := [] }) (by kernel_rfl) ?_
            refine hKR _ _ ?_
            clear hKR KR
            have hz4 : wr.heap.size ≤ w4.heap.size := hS4.size
            have k1 := hrow4.cell (j := j + 1) (by omega)
            have k2 := hrow4.cell (j := j) (by omega)
            rw [Hf.out.1] at k1
            rw [Hf.out.2] at k2
            have hg4 := hrow4.block.2
            have hd1 : ∀ W, Below w4.heap.size w4.drew W → W.cell? ⟨g, j + 1, none⟩ = some (.slice A1 m1 c1) := fun W hb => (hb.cell (p := ⟨g, j + 1, none⟩) hg4).trans k1
            have hd2 : ∀ W, Below w4.heap.size w4.drew W → W.cell? ⟨g, j, none⟩ = some (.slice A2 m2 c2) := fun W hb => (hb.cell (p := ⟨g, j, none⟩) hg4).trans k2
            go_wp2
            refine region_held_wp 1 (fun W' => Below w4.heap.size w4.drew W') (fun k => decide (k ≤ 13) && !(k == 2 || k == 3 || k == 4)) (by kernel_rfl) ?_
            intro KR hKR
            have hS : Below w4.heap.size w4.drew w4.drew := Below.refl _ _
            refine wpAnyHI_takeW (i := 2) (v := .slice (some ⟨g, 0, none⟩) n cap) (some 39) rfl rfl (by kernel_rfl) (by kernel_rfl) (by kernel_rfl) (by kernel_rfl) (fun _ _ _ h => h) (.inl ⟨by kernel_rfl, fun W' hS' => ?_⟩) ?_
            · go_simp
            refine wpAnyHI_takeW (i := 3) (v := .int .i64 ((j + 1 : Nat) : Int)) (some 40) rfl rfl (by kernel_rfl) (by kernel_rfl) (by kernel_rfl) (by kernel_rfl) (fun _ _ _ h => h) (.inl ⟨by kernel_rfl, fun W' hS' => ?_⟩) ?_
            · go_simp
            refine wpAnyHI_takeW (i := 4) (v := .int .i64 (j : Int)) (some 41) rfl rfl (by kernel_rfl) (by kernel_rfl) (by kernel_rfl) (by kernel_rfl) (fun _ _ _ h => h) (.inl ⟨by kernel_rfl, fun W' hS' => ?_⟩) ?_
            · go_simp
            refine wpAnyHI_takeE (i := 5) (v := .slice (some ⟨g, 0, none⟩) n cap) (some 42) rfl rfl (by kernel_rfl) (by kernel_rfl) (by kernel_rfl) (by kernel_rfl) (by kernel_rfl) (fun _ _ _ h => h) hS (.inl ⟨by kernel_rfl, fun W' hS' => ?_⟩) ?_
            · go_simp
            refine wpAnyHI_takeE (i := 6) (v := .int .i64 ((j + 1 : Nat) : Int)) (some 43) rfl rfl (by kernel_rfl) (by kernel_rfl) (by kernel_rfl) (by kernel_rfl) (by kernel_rfl) (fun _ _ _ h => h) hS (.inl ⟨by kernel_rfl, fun W' hS' => ?_⟩) ?_
            · go_simp
            refine wpAnyHI_takeE (i := 7) (v := .int .i64 (j : Int)) (some 44) rfl rfl (by kernel_rfl) (by kernel_rfl) (by kernel_rfl) (by kernel_rfl) (by kernel_rfl) (fun _ _ _ h => h) hS (.inl ⟨by kernel_rfl, fun W' hS' => ?_⟩) ?_
            · go_simp
            refine wpAnyHI_takeE (i := 8) (v := .pointer (some ⟨g, j, none⟩)) (some 45) rfl rfl (by kernel_rfl) (by kernel_rfl) (by kernel_rfl) (by kernel_rfl) (by kernel_rfl) (fun _ _ _ h => h) hS (.inl ⟨by kernel_rfl, fun W' hS' => ?_⟩) ?_
            · go_simp; intro hx; exfalso; omega
            refine wpAnyHI_takeE (i := 10) (v := .slice (some ⟨g, 0, none⟩) n cap) (some 47) rfl rfl (by kernel_rfl) (by kernel_rfl) (by kernel_rfl) (by kernel_rfl) (by kernel_rfl) (fun _ _ _ h => h) hS (.inl ⟨by kernel_rfl, fun W' hS' => ?_⟩) ?_
            · go_simp
            refine wpAnyHI_takeE (i := 11) (v := .int .i64 ((j + 1 : Nat) : Int)) (some 48) rfl rfl (by kernel_rfl) (by kernel_rfl) (by kernel_rfl) (by kernel_rfl) (by kernel_rfl) (fun _ _ _ h => h) hS (.inl ⟨by kernel_rfl, fun W' hS' => ?_⟩) ?_
            · go_simp
            refine wpAnyHI_takeE (i := 12) (v := .pointer (some ⟨g, j + 1, none⟩)) (some 49) rfl rfl (by kernel_rfl) (by kernel_rfl) (by kernel_rfl) (by kernel_rfl) (by kernel_rfl) (fun _ _ _ h => h) hS (.inl ⟨by kernel_rfl, fun W' hS' => ?_⟩) ?_
            · go_simp; intro hx; exfalso; omega
            refine wpAnyHI_takeE (i := 0) (v := .slice (some ⟨g, 0, none⟩) n cap) (some 37) rfl rfl (by kernel_rfl) (by kernel_rfl) (by kernel_rfl) (by kernel_rfl) (by kernel_rfl) (fun _ _ _ h => h) hS (.inl ⟨by kernel_rfl, fun W' hS' => ?_⟩) ?_
            · go_simp
            refine wpAnyHI_takeE (i := 1) (v := .int .i64 ((j + 1 : Nat) : Int)) (some 38) rfl rfl (by kernel_rfl) (by kernel_rfl) (by kernel_rfl) (by kernel_rfl) (by kernel_rfl) (fun _ _ _ h => h) hS (.inl ⟨by kernel_rfl, fun W' hS' => ?_⟩) ?_
            · go_simp
            refine wpAnyHI_takeE (i := 9) (v := .slice A2 m2 c2) (some 46) rfl rfl (by kernel_rfl) (by kernel_rfl) (by kernel_rfl) (by kernel_rfl) (by kernel_rfl) (fun _ _ _ h => h) hS (.inl ⟨by kernel_rfl, fun W' hS' => ?_⟩) ?_
            · have q := hd2 W' hS'; go_simp
            refine wpAnyHI_takeE (i := 13) (v := .slice A1 m1 c1) (some 50) rfl rfl (by kernel_rfl) (by kernel_rfl) (by kernel_rfl) (by kernel_rfl) (by kernel_rfl) (fun _ _ _ h => h) hS (.inl ⟨by kernel_rfl, fun W' hS' => ?_⟩) ?_
            · have q := hd1 W' hS'; go_simp
            refine wpAnyHI_takeW (i := 14) (v := .pointer (some ⟨g, j + 1, none⟩)) (some 51) rfl rfl (by kernel_rfl) (by kernel_rfl) (by kernel_rfl) (by kernel_rfl) (fun _ _ _ h => h) (.inl ⟨by kernel_rfl, fun W' hS' => ?_⟩) ?_
            · go_simp; intro hx; exfalso; omega
            have hrow5 := hrow4.below (below_drew w4) (by have := hbr4.base.size; omega)
            have k3 : w4.drew.cell? ⟨g, j + 1, none⟩ = some (.slice A1 m1 c1) := k1
            have k4 : w4.drew.frozen? ⟨g, j + 1, none⟩ = false := row_frozen hrow5.own _
            refine wpAnyHI_one (i := 15) rfl (by kernel_rfl) ?_
            intro K1 hK1
            go_simp
            refine hK1 _ _ ⟨fun h => absurd h (by simp), ?_⟩
            clear hK1 K1
            refine wpAnyHI_takeW (i := 16) (v := .pointer (some ⟨g, j, none⟩)) (some 52) rfl rfl (by kernel_rfl) (by kernel_rfl) (by kernel_rfl) (by kernel_rfl) (fun _ _ _ h => h) (.inl ⟨by kernel_rfl, fun W' hS' => ?_⟩) ?_
            · go_simp; intro hx; exfalso; omega
            have hsw0 := hrow4.swap (j := j) (by omega)
            have hlast0 : BelowBut w.heap.size (fun k => k = g) w ((w4.setCell ⟨g, j + 1, none⟩ (gzAt ys j).1).setCell ⟨g, j, none⟩ (gzAt ys (j + 1)).1) := (hbr4.trans (but_set _ g (j + 1) _ _)).trans (but_set _ g j _ _)
            rw [Hf.out.1, Hf.out.2] at hsw0 hlast0
            have hsz := hlast0.base.size
            have hsw := hsw0.below (below_drew _) (by omega)
            have hlast := hlast0.trans (BelowBut.of ((below_drew _).mono hsz))
            clear hsw0 hlast0
            have k5 : (w4.setCell ⟨g, j + 1, none⟩ (.slice A2 m2 c2)).drew.cell? ⟨g, j, none⟩ = some (.slice A2 m2 c2) := (World.cell?_setCell_other w4 _ _ _ (fun e => by have := congrArg Addr.off e; simp at this)).trans k2
            have k6 : (w4.setCell ⟨g, j + 1, none⟩ (.slice A2 m2 c2)).drew.frozen? ⟨g, j, none⟩ = false := row_frozen (row_set hrow4.own (i := j + 1) (by omega) (.slice A2 m2 c2)) _
            refine wpAnyHI_one (i := 17) rfl (by kernel_rfl) ?_
            intro K1 hK1
            go_simp
            refine hK1 _ _ ⟨fun h => absurd h (by simp), ?_⟩
            clear hK1 K1
            refine wpAnyHI_end (by kernel_rfl) ?_
            show KR _ _
            refine act_eq (K := KR) (a' := { tmps := #[.slice (some ⟨g, 0, none⟩) n cap, .int .i64 0, .int .i64 (n : Int), .func (.func 93) #[] #[], undef, undef, undef, undef, .int .i64 (i : Int), .int .i64 ((j + 1 : Nat) : Int), .int .i64 0, .int .i64 1, .int .i64 (i : Int), .int .i64 (n : Int), .bool true, u15, u16, .int .i64 (i : Int), .int .i64 ((j + 1 : Nat) : Int), .int .i64 0, .bool true, .bool true, .func (.func 93) #[] #[], .slice (some ⟨g, 0, none⟩) n cap, .int .i64 ((j + 1 : Nat) : Int), .pointer (some ⟨g, j + 1, none⟩), .slice A1 m1 c1, .slice (some ⟨g, 0, none⟩) n cap, .int .i64 ((j + 1 : Nat) : Int), .int .i64 (j : Int), .pointer (some ⟨g, j, none⟩), .slice A2 m2 c2, .int .i64 r, .bool true, .bool true, u35, u36, .slice (some ⟨g, 0, none⟩) n cap, .int .i64 ((j + 1 : Nat) : Int), .slice (some ⟨g, 0, none⟩) n cap, .int .i64 ((j + 1 : Nat) : Int), .int .i64 (j : Int), .slice (some ⟨g, 0, none⟩) n cap, .int .i64 ((j + 1 : Nat) : Int), .int .i64 (j : Int), .pointer (some ⟨g, j, none⟩), .slice A2 m2 c2, .slice (some ⟨g, 0, none⟩) n cap, .int .i64 ((j + 1 : Nat) : Int), .pointer (some ⟨g, j + 1, none⟩), .slice A1 m1 c1, .pointer (some ⟨g, j + 1, none⟩), .pointer (some ⟨g, j, none⟩)], defers := [] }) (by kernel_rfl) ?_
            refine hKR _ _ ?_
            clear hKR KR
            go_wp2
            go_roundg j
            case measure => omega
            case rel =>
              refine ⟨j, swapZ ys j, ⟨by omega, rfl, by simp⟩, ?_, hsw, hlast⟩
              have e := Hys.out
              rw [insZ, if_pos (by rw [← Hr.out]; exact hlt)] at e
              exact e
          · refine wpAnyHI_takeW (i := 15) (v := .bool false) (some 33) rfl rfl (by kernel_rfl) (by kernel_rfl) (by kernel_rfl) (by kernel_rfl) (fun _ _ _ h => h) (.inl ⟨by kernel_rfl, fun W' hS' => ?_⟩) ?_
            · go_simp
            refine wpAnyHI_takeW (i := 16) (v := .bool false) (some 34) rfl rfl (by kernel_rfl) (by kernel_rfl) (by kernel_rfl) (by kernel_rfl) (fun _ _ _ h => h) (.inl ⟨by kernel_rfl, fun W' hS' => ?_⟩) ?_
            · go_simp
            refine wpAnyHI_end (by kernel_rfl) ?_
            show KR _ _
            refine act_eq (K := KR) (a' := { tmps := #[.slice (some ⟨g, 0, none⟩) n cap, .int .i64 0, .int .i64 (n : Int), .func (.func 93) #[] #[], undef, undef, undef, undef, .int .i64 (i : Int), .int .i64 ((j + 1 : Nat) : Int), .int .i64 0, .int .i64 1, .int .i64 (i : Int), .int .i64 (n : Int), .bool true, u15, u16, .int .i64 (i : Int), .int .i64 ((j + 1 : Nat) : Int), .int .i64 0, .bool true, .bool true, .func (.func 93) #[] #[], .slice (some ⟨g, 0, none⟩) n cap, .int .i64 ((j + 1 : Nat) : Int), .pointer (some ⟨g, j + 1, none⟩), .slice A1 m1 c1, .slice (some ⟨g, 0, none⟩) n cap, .int .i64 ((j + 1 : Nat) : Int), .int .i64 (j : Int), .pointer (some ⟨g, j, none⟩), .slice A2 m2 c2, .int .i64 r, .bool false, .bool false, u35, u36, u37, u38, u39, u40, u41, u42, u43, u44, u45, u46, u47, u48, u49, u50, u51, u52], defers := [] }) (by kernel_rfl) ?_
            refine hKR _ _ ?_
            clear hKR KR
            go_wp2
            go_roundg (n - (i + 1))
            case measure => omega
            case rel =>
              refine ⟨i + 1, ⟨by omega, by omega, rfl, by simp⟩, ?_, hbr4⟩
              have e : sortZ zs (i + 1) = ys := by
                show insZ (sortZ zs i) i = ys
                rw [← HT.out, ← Hys.out, insZ, if_neg (by rw [← Hr.out]; omega)]
              rw [e]
              exact hrow4
    · obtain rfl : n = i := by omega
      have hni : ¬ (n : Int) < (n : Int) := by omega
      go_wp2_with (fail)
      exact bodyPost_end (v := .tuple #[]) (results_none rfl _ _ _) rfl ⟨rfl, hrow, hbr⟩
end Go.Proofs.YthjgecblkagelaaGreat

/- SortFunc of groups, of whatever length: the library's contract. -/
namespace Go.Proofs
open Go.Shelf
def Tryz.sortG_ren : Go.Shelf.Ren := ⟨fun | 6 => 92 | 15 => 106 | 14 => 105 | 28 => 120 | 29 => 121 | 20 => 112 | 21 => 113 | 22 => 114 | 23 => 115 | 24 => 116 | 25 => 117 | 26 => 118 | 27 => 119 | 46 => 123 | 47 => 124 | 48 => 125 | 49 => 126 | 50 => 127 | 57 => 128 | n => n, fun | 22 => 99 | 24 => 73 | 25 => 130 | 3 => 3 | 39 => 144 | 0 => 0 | 53 => 156 | 55 => 158 | 4 => 4 | 46 => 149 | 45 => 148 | 50 => 153 | 5 => 5 | 9 => 9 | 66 => 159 | 70 => 163 | 76 => 165 | 77 => 166 | n => n, fun | n => n⟩
theorem Tryz.sortG : Go.Proofs.SlLaysF.n6 Tryz.prog Tryz.sortG_ren := {
  mixed := by kernel_rfl
  f6 := ⟨Tryz.f92.name, by decide, Tryz.func92.trans (congrArg some (by kernel_rfl))⟩
  f14 := ⟨Tryz.f105.name, by decide, Tryz.func105.trans (congrArg some (by kernel_rfl))⟩
  f15 := Tryz.func106.trans (congrArg some (by kernel_rfl))
  f20 := ⟨Tryz.f112.name, by decide, Tryz.func112.trans (congrArg some (by kernel_rfl))⟩
  f21 := ⟨Tryz.f113.name, by decide, Tryz.func113.trans (congrArg some (by kernel_rfl))⟩
  f22 := ⟨Tryz.f114.name, by decide, Tryz.func114.trans (congrArg some (by kernel_rfl))⟩
  f23 := ⟨Tryz.f115.name, by decide, Tryz.func115.trans (congrArg some (by kernel_rfl))⟩
  f24 := ⟨Tryz.f116.name, by decide, Tryz.func116.trans (congrArg some (by kernel_rfl))⟩
  f25 := ⟨Tryz.f117.name, by decide, Tryz.func117.trans (congrArg some (by kernel_rfl))⟩
  f26 := ⟨Tryz.f118.name, by decide, Tryz.func118.trans (congrArg some (by kernel_rfl))⟩
  f27 := ⟨Tryz.f119.name, by decide, Tryz.func119.trans (congrArg some (by kernel_rfl))⟩
  f28 := Tryz.func120.trans (congrArg some (by kernel_rfl))
  f29 := Tryz.func121.trans (congrArg some (by kernel_rfl))
  f46 := ⟨Tryz.f123.name, by decide, Tryz.func123.trans (congrArg some (by kernel_rfl))⟩
  f47 := Tryz.func124.trans (congrArg some (by kernel_rfl))
  f48 := Tryz.func125.trans (congrArg some (by kernel_rfl))
  f49 := ⟨Tryz.f126.name, by decide, Tryz.func126.trans (congrArg some (by kernel_rfl))⟩
  f50 := ⟨Tryz.f127.name, by decide, Tryz.func127.trans (congrArg some (by kernel_rfl))⟩
  f57 := ⟨Tryz.f128.name, by decide, Tryz.func128.trans (congrArg some (by kernel_rfl))⟩
  t0 := Tryz.underlying0
  a0 := Tryz.isAgg0
  z0 := Tryz.sizeOf0
  v0 := Tryz.zeroValue0
  t3 := Tryz.underlying3
  a3 := Tryz.isAgg3
  z3 := Tryz.sizeOf3
  v3 := Tryz.zeroValue3
  t4 := Tryz.underlying4
  a4 := Tryz.isAgg4
  z4 := Tryz.sizeOf4
  v4 := Tryz.zeroValue4
  t5 := Tryz.underlying5
  a5 := Tryz.isAgg5
  z5 := Tryz.sizeOf5
  v5 := Tryz.zeroValue5
  t9 := Tryz.underlying9
  a9 := Tryz.isAgg9
  z9 := Tryz.sizeOf9
  v9 := Tryz.zeroValue9
  t22 := Tryz.underlying99
  a22 := Tryz.isAgg99
  z22 := Tryz.sizeOf99
  v22 := Tryz.zeroValue99
  a24 := Tryz.isAgg73
  z24 := Tryz.sizeOf73
  t25 := Tryz.underlying130
  a25 := Tryz.isAgg130
  z25 := Tryz.sizeOf130
  v25 := Tryz.zeroValue130
  t39 := Tryz.underlying144
  a39 := Tryz.isAgg144
  z39 := Tryz.sizeOf144
  v39 := Tryz.zeroValue144
  t45 := Tryz.underlying148
  a45 := Tryz.isAgg148
  z45 := Tryz.sizeOf148
  v45 := Tryz.zeroValue148
  t46 := Tryz.underlying149
  a46 := Tryz.isAgg149
  z46 := Tryz.sizeOf149
  v46 := Tryz.zeroValue149
  t50 := Tryz.underlying153
  a50 := Tryz.isAgg153
  z50 := Tryz.sizeOf153
  v50 := Tryz.zeroValue153
  t53 := Tryz.underlying156
  a53 := Tryz.isAgg156
  z53 := Tryz.sizeOf156
  v53 := Tryz.zeroValue156
  t55 := Tryz.underlying158
  a55 := Tryz.isAgg158
  z55 := Tryz.sizeOf158
  v55 := Tryz.zeroValue158
  t66 := Tryz.underlying159
  a66 := Tryz.isAgg159
  z66 := Tryz.sizeOf159
  v66 := Tryz.zeroValue159
  t70 := Tryz.underlying163
  a70 := Tryz.isAgg163
  z70 := Tryz.sizeOf163
  v70 := Tryz.zeroValue163
  t76 := Tryz.underlying165
  a76 := Tryz.isAgg165
  z76 := Tryz.sizeOf165
  v76 := Tryz.zeroValue165
  t77 := Tryz.underlying166
  a77 := Tryz.isAgg166
  z77 := Tryz.sizeOf166
  v77 := Tryz.zeroValue166 }
end Go.Proofs
namespace Go.Proofs.YthjgecblkagelaaGreat
open Go.RowKit Go.Shelf

/-! ### the order -/
theorem scmpF_cases : ∀ xs ys : List Int, scmpF xs ys = -1 ∨ scmpF xs ys = 0 ∨ scmpF xs ys = 1
  | [], [] => .inr (.inl rfl)
  | [], _ :: _ => .inl rfl
  | _ :: _, [] => .inr (.inr rfl)
  | x :: xs, y :: ys => by
    unfold scmpF cmpF
    by_cases h1 : x < y
    · simp [h1]
    · by_cases h2 : x > y
      · simp [h1, h2]
      · simp [h1, h2]
        exact scmpF_cases xs ys
theorem scmpF_zero : ∀ xs ys : List Int, scmpF xs ys = 0 → xs = ys
  | [], [], _ => rfl
  | [], _ :: _, h => by simp [scmpF] at h
  | _ :: _, [], h => by simp [scmpF] at h
  | x :: xs, y :: ys, h => by
    unfold scmpF cmpF at h
    by_cases h1 : x < y
    · simp [h1] at h
    · by_cases h2 : x > y
      · simp [h1, h2] at h
      · simp [h1, h2] at h
        rw [scmpF_zero xs ys h, show x = y by omega]
theorem scmpF_neg : ∀ xs ys : List Int, scmpF ys xs = -scmpF xs ys
  | [], [] => rfl
  | [], _ :: _ => rfl
  | _ :: _, [] => rfl
  | x :: xs, y :: ys => by
    unfold scmpF cmpF
    by_cases h1 : x < y
    · have : ¬ y < x := by omega
      simp [h1, this]
    · by_cases h2 : y < x
      · simp [h1, h2]
      · simp [h1, h2]
        exact scmpF_neg xs ys
theorem scmpF_trans : ∀ xs ys zs : List Int, scmpF xs ys ≤ 0 → scmpF ys zs ≤ 0 → scmpF xs zs ≤ 0
  | [], ys, [], _, _ => by simp [scmpF]
  | [], ys, _ :: _, _, _ => by simp [scmpF]
  | _ :: _, [], _, h, _ => by simp [scmpF] at h
  | x :: xs, y :: ys, [], _, h => by simp [scmpF] at h
  | x :: xs, y :: ys, z :: zs, h1, h2 => by
    unfold scmpF cmpF at *
    by_cases a1 : x < y
    · by_cases a2 : y < z
      · simp [show x < z by omega]
      · by_cases a3 : z < y
        · simp [a2, a3] at h2
        · simp [show x < z by omega]
    · by_cases b1 : y < x
      · simp [a1, b1] at h1
      · simp [a1, b1] at h1
        obtain rfl : x = y := by omega
        by_cases a2 : x < z
        · simp [a2]
        · by_cases a3 : z < x
          · simp [a2, a3] at h2
          · simp [a2, a3] at h2 ⊢
            exact scmpF_trans xs ys zs h1 h2
def gle (xs ys : List Int) : Prop := xs.length < ys.length ∨ (xs.length = ys.length ∧ scmpF xs ys ≤ 0)
theorem gcmpF_lt (xs ys : List Int) : gcmpF xs ys < 0 ↔ (xs.length < ys.length ∨ (xs.length = ys.length ∧ scmpF xs ys < 0)) := by
  unfold gcmpF orF orF orF cmpF
  by_cases h1 : (xs.length : Int) < ys.length
  · simp [h1]
    left; omega
  · by_cases h2 : (xs.length : Int) > ys.length
    · simp [h1, h2]; omega
    · simp [h1, h2]
      have : xs.length = ys.length := by omega
      simp [this]
      by_cases h3 : scmpF xs ys = 0
      · simp [h3]
      · simp [h3]
theorem gcmpF_ge (xs ys : List Int) : ¬ gcmpF ys xs < 0 ↔ gle xs ys := by
  rw [gcmpF_lt]
  unfold gle
  have := scmpF_neg ys xs
  omega
theorem gle_trans {xs ys zs : List Int} (h1 : gle xs ys) (h2 : gle ys zs) : gle xs zs := by
  unfold gle at *
  rcases h1 with h1 | ⟨h1, k1⟩
  · left; omega
  · rcases h2 with h2 | ⟨h2, k2⟩
    · left; omega
    · right; exact ⟨by omega, scmpF_trans _ _ _ k1 k2⟩
theorem gle_total (xs ys : List Int) : gle xs ys ∨ gle ys xs := by
  unfold gle
  have := scmpF_neg xs ys
  omega
theorem gle_anti {xs ys : List Int} (h1 : gle xs ys) (h2 : gle ys xs) : xs = ys := by
  unfold gle at *
  have := scmpF_neg xs ys
  exact scmpF_zero _ _ (by omega)

/-! ### the elements -/
/-- A slice that lies in the world, in no cell of the row, with what it holds. -/
abbrev GE (w : World) (g : Nat) : Type := { z : GZ // ∃ A m c, z.1 = .slice A m c ∧ IntsAt w w.heap.size A m z.2 ∧ ∀ a : Addr, A = some a → 0 < m → a.block ≠ g }
instance (w : World) (g : Nat) : Inhabited (GE w g) := ⟨⟨(.slice none 0 0, []), none, 0, 0, rfl, IntsAt.nil, fun _ h => by cases h⟩⟩
def geV {w : World} {g : Nat} (x : GE w g) : Value := x.1.1
def geC {w : World} {g : Nat} (x y : GE w g) : Int := gcmpF x.1.2 y.1.2
theorem geV_one {w : World} {g : Nat} : OneCell (geV (w := w) (g := g)) := fun x => by
  obtain ⟨A, m, c, e, -⟩ := x.2
  unfold geV
  rw [e]
  rfl
theorem ge_swo {w : World} {g : Nat} : Sort.SWO (ltOf (geC (w := w) (g := g))) where
  irrefl x := by
    unfold ltOf geC
    rw [decide_eq_false_iff_not, gcmpF_ge]
    rcases gle_total x.1.2 x.1.2 with h | h <;> exact h
  trans x y z h1 h2 := by
    unfold ltOf geC at *
    simp only [decide_eq_true_eq] at *
    have n1 : ¬ gle y.1.2 x.1.2 := fun h => (gcmpF_ge _ _).2 h h1
    have n2 : ¬ gle z.1.2 y.1.2 := fun h => (gcmpF_ge _ _).2 h h2
    refine Classical.byContradiction fun h => ?_
    have h3 := (gcmpF_ge z.1.2 x.1.2).1 h
    rcases gle_total y.1.2 z.1.2 with k | k
    · exact n1 (gle_trans k h3)
    · exact n2 k
  ntrans x y z h1 h2 := by
    unfold ltOf geC at *
    simp only [decide_eq_false_iff_not, gcmpF_ge] at *
    exact gle_trans h2 h1

set_option maxRecDepth 100000 in
set_option maxHeartbeats 4000000 in
theorem gcmp_world (w : World) (B B2 : Nat) (A A2 : Option Addr) (n c m d : Nat) (xs ys : List Int) (hx : IntsAt w B A n xs) (hy : IntsAt w B2 A2 m ys) :
    Calls Tryz.prog 93 #[.slice A n c, .slice A2 m d] w fun e w' => e = .returned (.int .i64 (gcmpF xs ys)) ∧ ∃ q os', w' = Sort.grow (w.drewN q) os' := by
  have Hn := Lib.hid (And.intro hx.len hy.len)
  go_enter Tryz.func93, Tryz.ntmps93
  go_wp2_with (fail)
  refine (cmp_any w (n : Int) (m : Int)).mono ?_
  rintro e w2 ⟨rfl, rfl⟩
  go_wp2_with (fail)
  refine (scmp_any _ B B2 A A2 n c m d xs ys hx hy).mono ?_
  rintro e w3 ⟨rfl, rfl⟩
  go_wp2_with (fail)
  have hnew : IntsAt (w3.alloc (.cells #[.int .i64 (cmpF n m), .int .i64 (scmpF xs ys)] 3)) (w3.heap.size + 1) (some ⟨w3.heap.size, 0, none⟩) 2 [cmpF n m, scmpF xs ys] :=
    ⟨rfl, by omega, fun _ => ⟨w3.heap.size, 0, rfl, by omega, fun j hj => by
      rcases (by omega : j = 0 ∨ j = 1) with rfl | rfl
      · simp
      · simp⟩⟩
  refine (or_any _ (w3.heap.size + 1) _ 2 2 [cmpF n m, scmpF xs ys] hnew).mono ?_
  rintro e w4 ⟨rfl, rfl⟩
  go_wp2_with (fail)
  go_ret
  exact ⟨ret_int (by unfold gcmpF; rw [Hn.out.1, Hn.out.2]), 0, #[.cells #[.int .i64 (cmpF n m), .int .i64 (scmpF xs ys)] 3 (0, 0)], by rw [Sort.alloc_eq_grow]; rfl⟩

theorem ints_sort {w : World} {g : Nat} {d : Array (GE w g)} {k : Nat} {os : Array Obj} {A : Option Addr} {m : Nat} {xs : List Int} (h : IntsAt w w.heap.size A m xs) (hne : ∀ a : Addr, A = some a → 0 < m → a.block ≠ g) :
    IntsAt (sortWorld geV w g 0 k d os) w.heap.size A m xs := by
  refine ⟨h.1, h.2.1, fun h0 => ?_⟩
  obtain ⟨b, off, e, hb, hc⟩ := h.2.2 h0
  have hg := hne _ e h0
  refine ⟨b, off, e, hb, fun j hj => ?_⟩
  rw [← hc j hj]
  unfold sortWorld
  rw [Sort.cell?_grow _ _ _ (by rw [Sort.size_putRow]; exact hb), Sort.cell?_putRow_other _ _ _ _ _ _ (.inl (show (⟨b, off + j, none⟩ : Addr).block ≠ g from hg))]
  rfl
theorem ge_cmp (w : World) (g n : Nat) : CmpLays1 Tryz.prog 93 #[] (geV (w := w) (g := g)) geC g 0 n w := by
  intro m os dk _ x y
  obtain ⟨⟨xv, xs⟩, A1, m1, c1, e1, h1, k1⟩ := x
  obtain ⟨⟨yv, ys⟩, A2, m2, c2, e2, h2, k2⟩ := y
  simp only at e1 e2
  subst e1
  subst e2
  exact gcmp_world _ w.heap.size w.heap.size A1 A2 m1 c1 m2 c2 xs ys (ints_sort h1 k1) (ints_sort h2 k2)

/-- The elements of a row, each with what it holds. -/
def geD (w : World) (g : Nat) (zs : List GZ) (h : ∀ z ∈ zs, ∃ A m c, z.1 = .slice A m c ∧ IntsAt w w.heap.size A m z.2 ∧ ∀ a : Addr, A = some a → 0 < m → a.block ≠ g) : Array (GE w g) := (zs.attach.map fun z => (⟨z.1, h z.1 z.2⟩ : GE w g)).toArray
theorem geD_size {w : World} {g : Nat} {zs : List GZ} {h} : (geD w g zs h).size = zs.length := by simp [geD]
theorem geD_list {w : World} {g : Nat} {zs : List GZ} {h} : (geD w g zs h).toList.map (fun x => x.1) = zs := by
  simp only [geD, List.map_map]
  exact (List.map_congr_left fun x _ => rfl).trans (List.attach_map_subtype_val zs)
theorem get_bang {α : Type} [Inhabited α] (d : Array α) (j : Nat) (hj : j < d.size) : d[j]! = d.toList[j]'(by simpa using hj) := by
  rw [getElem!_pos d j hj]
  simp
theorem geD_get {w : World} {g : Nat} {zs : List GZ} {h} {j : Nat} (hj : j < zs.length) : ((geD w g zs h)[j]!).1 = gzAt zs j := by
  have e : (geD w g zs h).toList.map (fun x => x.1) = zs := geD_list
  rw [get_bang _ _ (by rw [geD_size]; exact hj)]
  unfold gzAt
  rw [List.getElem?_eq_getElem hj]
  have := congrArg (fun l => l[j]?) e
  simp only [List.getElem?_map] at this
  rw [List.getElem?_eq_getElem (by simpa [geD] using hj), List.getElem?_eq_getElem hj] at this
  simpa using this
theorem sort_heap {w : World} {g k : Nat} {d : Array (GE w g)} {os : Array Obj} {cur : Array Value} {e : TypeId} (h : w.heap[g]? = some (.cells cur e (0, 0))) :
    (sortWorld geV w g 0 k d os).heap[g]? = some (.cells (Sort.putCells geV 0 d cur) e (0, 0)) := by
  have hlt := (Array.getElem?_eq_some_iff.1 h).1
  unfold sortWorld Sort.grow Sort.putRow Sort.mapBlock
  simp only [Sort.heap_ahead]
  rw [Array.getElem?_append_left (by simpa using hlt), Array.getElem?_modify, if_pos rfl, h]
  rfl
theorem sort_cells {w : World} {g : Nat} {d : Array (GE w g)} {cur : Array Value} {n : Nat} (hd : d.size = n) (hn : n ≤ cur.size) : (Sort.putCells geV 0 d cur).toList.take n = d.toList.map geV := by
  apply List.ext_getElem?
  intro j
  rw [List.getElem?_take, List.getElem?_map]
  by_cases hj : j < n
  · rw [if_pos hj]
    unfold Sort.putCells
    rw [Array.getElem?_toList, Array.getElem?_mapIdx, Array.getElem?_eq_getElem (show j < cur.size by omega), Array.getElem?_toList, Array.getElem?_eq_getElem (show j < d.size by omega)]
    simp only [Option.map_some]
    rw [if_pos ⟨Nat.zero_le _, by omega⟩, Nat.sub_zero, getElem!_pos d j (by omega)]
  · rw [if_neg hj, List.getElem?_eq_none (by simp; omega)]
    rfl

set_option maxRecDepth 100000 in
set_option maxHeartbeats 4000000 in
theorem sortFunc_any (w : World) (base g n cap : Nat) (zs : List GZ) (h : GRow w w.heap.size base g n cap zs) (hn2 : n ≤ 1000000) :
    Calls Tryz.prog 92 #[.slice (some ⟨g, 0, none⟩) n cap, .func (.func 93) #[] #[]] w fun e w' => e = .returned (.tuple #[]) ∧ ∃ zs' : List GZ, (zs'.map fun z => z.2).Perm (zs.map fun z => z.2) ∧ (zs'.map fun z => z.2).Pairwise gle ∧
      GRow w' w.heap.size base g n cap zs' ∧ BelowBut w.heap.size (fun k => k = g) w w' := by
  have hl := h.len
  obtain ⟨hb1, hb2⟩ := h.block
  obtain ⟨d, hd⟩ : ∃ d, d = geD w g zs h.el := ⟨_, rfl⟩
  have hds : d.size = n := by rw [hd, geD_size, hl]
  have hH : Sort.Holds geV w g 0 d := fun j hj => by
    rw [Nat.zero_add]
    refine ⟨?_, row_frozen h.own _⟩
    rw [h.cell (by omega), hd]
    unfold geV
    rw [geD_get (by omega)]
  have key := Any.slices_SortFunc Tryz.sortG geV geV_one geC ge_swo 93 #[] g 0 cap d w (enters_of Tryz.func93 (by kernel_rfl) rfl) (ge_cmp w g d.size) hH hb2 (by omega)
  rw [hds] at key
  refine key.mono ?_
  rintro e w' ⟨rfl, d', k, os, hp, hs, rfl⟩
  have hds' : d'.size = n := by rw [hp.1, hds]
  have hperm : d'.toList.Perm d.toList := by
    have := hp.2.2
    rwa [show d'.extract 0 n = d' by rw [← hds']; simp, show d.extract 0 n = d by rw [← hds]; simp] at this
  refine ⟨rfl, d'.toList.map fun x => x.1, ?_, ?_, ⟨?_, ?_⟩, ?_⟩
  · have := (hperm.map fun x => x.1).map fun (z : GZ) => z.2
    rw [hd, geD_list] at this
    exact this
  · rw [List.map_map, List.pairwise_map, List.pairwise_iff_getElem]
    intro i j hi hj hij
    have := hs i j (Nat.zero_le _) hij (by simpa [hds'] using hj)
    rw [get_bang _ _ (by simpa using hj), get_bang _ _ (by simpa using hi)] at this
    unfold ltOf geC at this
    rw [decide_eq_false_iff_not, gcmpF_ge] at this
    exact this
  · refine ⟨by simp [hds'], ?_⟩
    rcases h.own.2 with ⟨he, -⟩ | ⟨g', cap', cur, he, hb, hg, hle, hmx, hcs, htk⟩
    · cases he
    · cases he
      refine .inr ⟨g, cap, _, rfl, hb, sort_heap hg, hle, hmx, by simpa [Sort.putCells] using hcs, ?_⟩
      rw [Nat.mul_one, sort_cells hds' (by omega), List.map_map]
      rfl
  · intro z hz
    obtain ⟨x, -, rfl⟩ := List.mem_map.1 hz
    obtain ⟨A, m, c, e, h1, h2⟩ := x.2
    exact ⟨A, m, c, e, ints_sort h1 h2, h2⟩
  · refine ⟨⟨rfl, rfl, rfl, by simp [sortWorld], fun _ h => absurd h (Nat.not_lt_zero _)⟩, fun j hj hjg => ?_⟩
    unfold sortWorld Sort.grow Sort.putRow Sort.mapBlock
    simp only [Sort.heap_ahead]
    rw [Array.getElem?_append_left (by simpa using hj), Array.getElem?_modify, if_neg (fun e => hjg e.symm)]
end Go.Proofs.YthjgecblkagelaaGreat

/- wait$1. -/
namespace Go.Proofs.YthjgecblkagelaaGreat
open Go.RowKit Go.Shelf

attribute [local go_sem] Oper.semAt_some

def waitF (ts : List Int) (m : List (Pl × Int)) (p : Pl) (xs : List Int) : Bool := match pullF ts (lacksF xs) p with
  | none => false
  | some q => (List.range ts.length).any fun i => decide (0 < mget 0 m (q.set i 0))

theorem waitF_no {ts : List Int} {m : List (Pl × Int)} {p q : Pl} {xs : List Int} (h : pullF ts (lacksF xs) p = some q) (hn : ∀ i, i < ts.length → decide (0 < mget 0 m (q.set i 0)) = false) : waitF ts m p xs = false := by
  unfold waitF
  rw [h]
  simp only [List.any_eq_false, List.mem_range, Bool.not_eq_true]
  exact hn
theorem waitF_yes {ts : List Int} {m : List (Pl × Int)} {p q : Pl} {xs : List Int} {i : Nat} (h : pullF ts (lacksF xs) p = some q) (hi : i < ts.length) (hd : decide (0 < mget 0 m (q.set i 0)) = true) : waitF ts m p xs = true := by
  unfold waitF
  rw [h]
  simp only [List.any_eq_true, List.mem_range]
  exact ⟨i, hi, hd⟩
theorem wait1_results (W : World) (tmps : Array Value) (b : Nat) (x : Bool) (h : Boxed W b 4 (.bool x)) (t : tmps.getD 4 undef = .pointer (some ⟨b, 0, none⟩)) : (results Tryz.f71 tmps).run Tryz.prog W = .ok (.bool x) W := by
  have d := h.cell
  simp only [Array.getD_eq_getD_getElem?] at t
  simp [results, Tryz.results71, go_sem, t, d]

set_option maxRecDepth 100000 in
set_option maxHeartbeats 4000000 in
theorem wait1_any (w : World) (B B2 : Nat) (A A2 : Option Addr) (n c k d ms ml Bt Bp : Nat) (ts xs : List Int) (m : List (Pl × Int)) (p : Pl) (hx : IntsAt w B A n ts) (hB : B ≤ w.heap.size) (h5 : n ≤ 5) (h12 : ∀ i, i < n → 1 ≤ ts[i]?.getD 0 ∧ ts[i]?.getD 0 ≤ 12)
    (hp : PlOk ts p) (ht : TbAt w Bt A n c ms ml) (hpl : PlAt w Bp p) (hm : MapAt Int encI w ms m) (hw : IntsAt w B2 A2 k xs) (hB2 : B2 ≤ w.heap.size) :
    Calls Tryz.prog 71 #[.slice A2 k d, .pointer (some ⟨Bt, 0, none⟩), .pointer (some ⟨Bp, 0, none⟩)] w fun e w' => e = .returned (.bool (waitF ts m p xs)) ∧ Below w.heap.size w w' := by
  have hb0 : Below w.heap.size w (w.alloc (.cells #[.bool false] 4)) := (Below.refl _ w).alloc (Nat.le_refl _) _
  have x1 := Boxed.new w 4 (.bool false)
  have ht0 := ht.below hb0 ht.lt
  have hp0 := hpl.below hb0 hpl.lt
  obtain ⟨t0, t1, t2⟩ := ht0.cells
  obtain ⟨p0, p1, p2, p3, p4, p5⟩ := hp0.cells
  refine (callsIn_wide (n := 3)).1 ?_
  refine callsIn_of_wp_marks Tryz.func71 rfl trivial ?_ rfl
  simp only [Tryz.ntmps71, List.size_toArray, List.length_cons, List.length_nil, Nat.reduceAdd, Nat.reduceSub, Array.replicate_succ, Array.replicate_zero, List.push_toArray, List.append_toArray, List.nil_append, List.cons_append]
  gi_wp2_with (fail)
  refine ⟨trivial, ?_⟩
  refine (callsIn_wide.2 (pull_any _ B A n c ts (hx.below hb0 hB) (by have := hb0.size; omega) h5 h12 p hp 73 #[.slice A2 k d] (lacksF xs) (pullFn_lacks _ _ B2 A2 k d xs (hw.below hb0 hB2) (by have := hb0.size; omega)))).mono ?_
  rintro e w2 ⟨rfl, hb⟩
  have hB2' := hb0.trans (hb.mono hb0.size)
  have y1 := bxBelow x1 hb x1.lt
  have d1 := y1.cell
  have e1 := y1.frozen
  have z1 := y1.lt
  have ht2 := ht.below hB2' ht.lt
  obtain ⟨s0, s1, s2⟩ := ht2.cells
  have hlt2 := ht2.lt
  clear hb x1 hb0
  cases hq : pullF ts (lacksF xs) p with
  | none =>
    have Hw := Lib.hid (show waitF ts m p xs = false by unfold waitF; rw [hq])
    clear hq
    simp only [pullRes]
    gi_wp2_with (fail)
    refine ⟨.bool false, wait1_results _ _ w.heap.size false ((y1.set _).alloc _) (by simp), by rw [Hw.out], ?_⟩
    exact (hB2'.setCell (p := ⟨w.heap.size, 0, none⟩) (by simp) _).alloc (by simp [World.setCell]; omega) _
  | some q =>
    have Hq := Lib.hid hq
    clear hq
    simp only [pullRes]
    gi_wp2_with (fail)
    refine ⟨trivial, (callsIn_wide.2 (screws_box _ _ _ _)).mono ?_⟩
    rintro e w3 ⟨Bs, rfl, hBs, hb3⟩
    have hb2 : Below w2.heap.size w2 (w2.alloc (.cells (plc q) 64)) := (Below.refl _ _).alloc (Nat.le_refl _) _
    have hq2 := (PlAt.new w2 q).below hb3 (by simp)
    have y3 := bxBelow y1 (hb2.trans (hb3.mono hb2.size)) y1.lt
    have hB3 : Below w.heap.size w w3 := hB2'.trans ((hb2.trans (hb3.mono hb2.size)).mono hB2'.size)
    have hz3 := hq2.lt
    have hz2 := hB2'.size
    clear hb2 hb3 y1 d1 e1 s0 s1 s2 ht2 ht0 hp0 t0 t1 t2 p0 p1 p2 p3 p4 p5
    gi_wp2_with (fail)
    refine range_all (n₀ := w.heap.size) (ts := ts) (Bs := Bs) (A := A) (cap := c) rfl hBs.lt hB3.size hBs.cell ((hx.below hB3 hB).more hB) rfl
      (fun pre W => (Boxed W w.heap.size 4 (.bool false) ∧ PlAt W w2.heap.size q ∧ ∀ y ∈ pre, decide (0 < mget 0 m (q.set y.1 0)) = false) ∧ Below w.heap.size w W)
      (fun c' pre W => (c' = .ret ∧ Boxed W w.heap.size 4 (.bool true) ∧ ∃ y ∈ pre, decide (0 < mget 0 m (q.set y.1 0)) = true) ∧ Below w.heap.size w W)
      ?hI ?hIx ?h0 ?a1 ?assign ?body ?done ?stop
    case assign =>
      intro l x W K hK
      gi_wp2
      exact hK
    case hI => exact OwnFrom.and (Own.from (fun s A B row hs hg hr => ⟨bxOwn hs.1 hg hr, hs.2.1.own hg hr, hs.2.2⟩) _) (ownFrom_below (Nat.le_refl _) hB3.size)
    case hIx => exact fun c => OwnFrom.and (Own.from (fun s A B row hs hg hr => ⟨hs.1, bxOwn hs.2.1 hg hr, hs.2.2⟩) _) (ownFrom_below (Nat.le_refl _) hB3.size)
    case h0 => exact ⟨⟨y3, hq2, fun y h => by cases h⟩, hB3⟩
    case body =>
      rintro l pre x W ⟨⟨z1, z2, z3⟩, hBW⟩
      have hx5 : x.1 < 5 := Nat.lt_of_lt_of_le x.2 h5
      have Hz := Lib.hid z3
      clear z3
      obtain ⟨c0, c1, c2, c3, c4, c5⟩ := z2.cells
      gi_wp2_with (fail)
      refine ⟨trivial, (CallsIn.inRound l (callsIn_wide.2 (visited_any W q x.1 hx5))).mono ?_⟩
      rintro e W2 ⟨rfl, hb⟩
      have hB4 := hBW.trans (hb.mono hBW.size)
      have ht4 := ht.below hB4 ht.lt
      have hm4 := hm.below hB4 hm.lt
      obtain ⟨s0, s1, s2⟩ := ht4.cells
      have hlt4 := ht4.lt
      gi_wp2_with (fail)
      refine ⟨trivial, (CallsIn.inRound l (callsIn_wide.2 (isSafe_any _ A n c ms ml m (hm4.alloc _) (q.set x.1 0)))).mono ?_⟩
      rintro e W4 ⟨rfl, hb6⟩
      obtain ⟨r, hr⟩ : ∃ r, r = decide (0 < mget 0 m (q.set x.1 0)) := ⟨_, rfl⟩
      rw [← hr]
      have Hr := Lib.hid hr
      clear hr
      have hb5 : Below W2.heap.size W2 (W2.alloc (.cells (plc (q.set x.1 0)) 64)) := (Below.refl _ _).alloc (Nat.le_refl _) _
      have hb7 : Below W2.heap.size W2 W4 := hb5.trans (hb6.mono hb5.size)
      have hk : Below W.heap.size W W4 := hb.trans (hb7.mono hb.size)
      have hB6 := hBW.trans (hk.mono hBW.size)
      have y1 := bxBelow z1 hk z1.lt
      have y2 := z2.below hk z2.lt
      have d4 := y1.cell
      have f4 := y1.frozen
      clear hb5 hb6 hb7 hb z1 z2 c0 c1 c2 c3 c4 c5 s0 s1 s2
      cases r with
      | false =>
        gi_wp2
        refine ⟨KeepsFrom.of_below hk, hk.mono hBW.size, ⟨y1, y2, fun y hy => ?_⟩, hB6⟩
        rcases List.mem_append.1 hy with hy | hy
        · exact Hz.out y hy
        · obtain rfl := List.mem_singleton.1 hy
          exact Hr.out.symm
      | true =>
        gi_wp2_with (fail)
        exact ⟨(KeepsFrom.of_below hk).trans ((KeepsOthers.setCell _ _ _).from _), ⟨rfl, y1.set _, x, by simp, Hr.out.symm⟩, hB6.setCell (p := ⟨w.heap.size, 0, none⟩) (by simp) _⟩
    case done =>
      rintro D W hD ⟨⟨z1, z2, z3⟩, hBW⟩ hK
      have Hz := Lib.hid z3
      clear z3
      have d4 := z1.cell
      have h4 := z1.frozen
      gi_wp2_with (fail)
      have hK' := (KeepsOthers.setCell W ⟨w.heap.size, 0, none⟩ (.bool false)).same D _ hK rfl
      refine ⟨by simp, .inl ⟨_, _, rfl, run_takeDeferred hK', ?_⟩⟩
      refine ⟨.bool false, wait1_results _ _ w.heap.size false (bxPut (z1.set _) hK') (by simp), ?_, below_put (hBW.setCell (p := ⟨w.heap.size, 0, none⟩) (by simp) _) hK' (by omega)⟩
      rw [waitF_no Hq.out (fun i hi => Hz.out ⟨i, by have := hx.len; omega⟩ (List.mem_finRange _))]
    case stop =>
      rintro D c' pre W hD ⟨rest, hrest⟩ ⟨⟨rfl, z1, z2⟩, hBW⟩ hK
      gi_wp2
      refine ⟨by simp, .inl ⟨_, _, rfl, run_takeDeferred hK, ?_⟩⟩
      obtain ⟨y, hy, hy2⟩ := z2
      refine ⟨.bool true, wait1_results _ _ w.heap.size true (bxPut z1 hK) (by simp), ?_, below_put hBW hK (by omega)⟩
      rw [waitF_yes Hq.out (i := y.1) (by have := hx.len; have := y.2; omega) hy2]
end Go.Proofs.YthjgecblkagelaaGreat

/- groups: how they grow, in memory. -/
namespace Go.Proofs.YthjgecblkagelaaGreat
open Go.RowKit Go.Shelf

attribute [local go_sem] Oper.semAt_some

def groupsL (ws : List Int) : List (List Int) := ws.foldl (fun gs w => gs ++ gs.map (· ++ [w])) [[]]
theorem groupsL_snoc (ws : List Int) (w : Int) : groupsL (ws ++ [w]) = groupsL ws ++ (groupsL ws).map (· ++ [w]) := by simp [groupsL]
theorem groupsL_len (ws : List Int) : (groupsL ws).length = 2 ^ ws.length := by
  have : ∀ (ws : List Int) (gs : List (List Int)), (ws.foldl (fun gs w => gs ++ gs.map (· ++ [w])) gs).length = gs.length * 2 ^ ws.length := by
    intro ws
    induction ws with
    | nil => intro gs; simp
    | cons x ws ih =>
      intro gs
      rw [List.foldl_cons, ih, List.length_append, List.length_map, List.length_cons, Nat.pow_succ, ← Nat.two_mul, Nat.mul_comm 2 gs.length, Nat.mul_assoc, Nat.mul_comm 2]
  simpa [groupsL] using this ws [[]]
theorem groupsL_short (ws : List Int) : ∀ g ∈ groupsL ws, g.length ≤ ws.length := by
  have : ∀ (ws : List Int) (gs : List (List Int)) (L : Nat), (∀ g ∈ gs, g.length ≤ L) → ∀ g ∈ ws.foldl (fun gs w => gs ++ gs.map (· ++ [w])) gs, g.length ≤ L + ws.length := by
    intro ws
    induction ws with
    | nil => intro gs L h g hg; exact h g hg
    | cons x ws ih =>
      intro gs L h g hg
      have := ih (gs ++ gs.map (· ++ [x])) (L + 1) (fun g hg => by
        rcases List.mem_append.1 hg with hg | hg
        · have := h g hg; omega
        · obtain ⟨g', hg', rfl⟩ := List.mem_map.1 hg
          have := h g' hg'
          simp; omega) g hg
      simp
      omega
  intro g hg
  simpa using this ws [[]] 0 (fun g hg => by simp at hg; simp [hg]) g (by simpa [groupsL] using hg)

/-- Each slice within its capacity, and of at most L. -/
def CapOk (L : Nat) (zs : List GZ) : Prop := ∀ z ∈ zs, ∃ A m c, z.1 = .slice A m c ∧ m ≤ c ∧ (A = none → c = 0) ∧ m ≤ L
theorem CapOk.mono {L L' : Nat} {zs : List GZ} (h : CapOk L zs) (hL : L ≤ L') : CapOk L' zs := fun z hz => by
  obtain ⟨A, m, c, e, h1, h2, h3⟩ := h z hz
  exact ⟨A, m, c, e, h1, h2, by omega⟩
theorem CapOk.snoc {L : Nat} {zs : List GZ} {z : GZ} (h : CapOk L zs) (hz : ∃ A m c, z.1 = .slice A m c ∧ m ≤ c ∧ (A = none → c = 0) ∧ m ≤ L) : CapOk L (zs ++ [z]) := fun y hy => by
  rcases List.mem_append.1 hy with hy | hy
  · exact h y hy
  · obtain rfl := List.mem_singleton.1 hy; exact hz

theorem ints_kept {W W' : World} {D D' : Nat} {A : Option Addr} {m : Nat} {xs : List Int} (h : IntsAt W D A m xs) (hD : D ≤ D') (hk : ∀ (k : Nat) (o : Obj), W.heap[k]? = some o → o.isCells = true → W'.heap[k]? = W.heap[k]?) : IntsAt W' D' A m xs := by
  refine ⟨h.1, h.2.1, fun h0 => ?_⟩
  obtain ⟨b, off, e, hb, hc⟩ := h.2.2 h0
  refine ⟨b, off, e, by omega, fun j hj => ?_⟩
  have := hc j hj
  obtain ⟨o, ho, hoc⟩ := cells_of_cell this
  exact (World.cell?_of_block (hk b o ho hoc)).trans this
theorem GRow.kept {W W' : World} {D D' base g n cap : Nat} {zs : List GZ} (h : GRow W D base g n cap zs) (hD : D ≤ D') (hk : ∀ (k : Nat) (o : Obj), W.heap[k]? = some o → o.isCells = true → W'.heap[k]? = W.heap[k]?) : GRow W' D' base g n cap zs := by
  refine ⟨?_, fun z hz => ?_⟩
  · refine row_heap h.own fun g' hg' => ?_
    rcases h.own.2 with ⟨he, -⟩ | ⟨g2, cap', cur, he, hb, hg, -⟩
    · cases he
    · cases he
      cases hg'
      exact hk _ _ hg rfl
  · obtain ⟨A, m, c, e, h1, h2⟩ := h.el z hz
    exact ⟨A, m, c, e, ints_kept h1 hD hk, h2⟩
theorem GRow.own' {W W' : World} {D D' base g n cap : Nat} {zs : List GZ} (h : GRow W D base g n cap zs) (hD : D ≤ D') {row : Option Nat} (hg : W.grownBy W' row) (hrow : ∀ r, row = some r → ∃ o : Obj, W.heap[r]? = some o ∧ o.isCells = false) : GRow W' D' base g n cap zs :=
  h.kept hD fun _ _ hk hc => grownBy_keeps_cells hg hrow hk hc
theorem GRow.put {W : World} {D base g n cap l : Nat} {zs : List GZ} (h : GRow W D base g n cap zs) (hl : W.heap[l]? = some (.deferred (some []))) (o : Obj) : GRow (W.putObj l o) D base g n cap zs :=
  h.kept (Nat.le_refl _) fun k ob hk hc => World.putObj_heap_other (by rintro rfl; rw [hl] at hk; cases hk; cases hc)

/-- An append to a row of the call's own: in place, or in a new block, and then the old one lies as it lay. -/
theorem wpListIn_append_keep {F : Fence} {nF : Nat} {P : Program} (w : World) {ops : Array Oper} {rest : List Oper} {o : Oper} {a : Act} {Q : Exit → Act → World → Prop}
    (hg : o.guard = none) (s x : Operand) (t : TypeId) (hop : o.op = Op.call { callee := Callee.builtin Builtin.append, args := #[s, x], argTypes := #[t, t] })
    (base : Nat) (e : TypeId) (i : TypeInfo) (z : Value) (size bytes : Nat) (h1 : P.underlying t = some (.slice e)) (h2 : P.info? e = some i) (h3 : i.zero = some z) (h4 : i.size = size) (h5 : i.bytes = bytes) (h6 : z.cells.size = size) (h7 : 0 < size)
    (g n cap : Nat) (olds : List Value) (hs : a.eval s = .slice (some ⟨g, 0, none⟩) n cap) (hown : w.ownsRow base e size (.slice (some ⟨g, 0, none⟩) n cap) n olds)
    (ad : Addr) (m c : Nat) (news : List Value) (hx : a.eval x = .slice (some ad) m c) (hn : news.length = m * size) (hc : ∀ j u, news[j]? = some u → w.cell? (ad.add j) = some u) (h1c : ∀ u ∈ news, u.oneCell' = true)
    (b1 : n + m ≤ maxLen) (b2 : (n + m) * bytes ≤ 140737488355328) (hnm : 0 < n + m) (hbase : base ≤ w.heap.size)
    (hK : ∀ g' cap' w', w'.ownsRow base e size (.slice (some ⟨g', 0, none⟩) (n + m) cap') (n + m) (olds ++ news) → ((g' = g ∧ w.grownBy w' (some g)) ∨ (w.heap.size ≤ g' ∧ w.grownBy w' none)) → wpListIn F nF P ops Q rest (a.put o.dst (.slice (some ⟨g', 0, none⟩) (n + m) cap')) w') :
    wpListIn F nF P ops Q (o :: rest) a w := by
  by_cases hroom : n + m ≤ cap
  · exact wpListIn_append_fits w hg s x t hop base e i size h1 h2 h4 g n cap olds hs hown ad m c news hx hn hc h1c hroom fun w' r1 r2 => hK g cap w' r1 (.inl ⟨rfl, r2⟩)
  · refine wpListIn_append_grows w hg s x t hop e i z size bytes h1 h2 h3 h4 h5 h6 h7 (some ⟨g, 0, none⟩) n cap olds hs (by intro h; cases h) hown.1 (fun b hb j u hj => by cases hb; exact hown.cells rfl j u hj) ad m c news hx hn hc h1c (by omega) b1 b2 fun v' w' r1 r2 => ?_
    obtain ⟨g', cap', rfl⟩ := ownsRow_pos r1 hnm
    have hb := (r1.lt g' rfl).1
    exact hK g' cap' w' (row_mono r1 hbase) (.inr ⟨hb, r2⟩)

/-- One group more. -/
theorem GRow.step {W W' : World} {base g n cap g' cap' : Nat} {zs : List GZ} {v : Value} {A : Option Addr} {m c : Nat} {xs : List Int} {D : Nat} (h : GRow W D base g n cap zs) (hD : D ≤ W.heap.size)
    (hv : v = .slice A m c) (hx : IntsAt W D A m xs) (hA : ∀ a : Addr, A = some a → 0 < m → a.block ≠ g)
    (hown : W'.ownsRow base 73 1 (.slice (some ⟨g', 0, none⟩) (n + 1) cap') (n + 1) (zs.map (fun z => z.1) ++ [v]))
    (hg : (g' = g ∧ W.grownBy W' (some g)) ∨ (W.heap.size ≤ g' ∧ W.grownBy W' none)) : GRow W' D base g' (n + 1) cap' (zs ++ [(v, xs)]) := by
  have key : ∀ (A : Option Addr) (m : Nat) (xs : List Int), IntsAt W D A m xs → (∀ a : Addr, A = some a → 0 < m → a.block ≠ g) → IntsAt W' D A m xs ∧ ∀ a : Addr, A = some a → 0 < m → a.block ≠ g' := by
    intro A m xs hx hA
    refine ⟨⟨hx.1, hx.2.1, fun h0 => ?_⟩, fun a ha h0 => ?_⟩
    · obtain ⟨b, off, e, hb, hc⟩ := hx.2.2 h0
      refine ⟨b, off, e, hb, fun j hj => ?_⟩
      have hne := hA _ e h0
      refine (World.cell?_of_block ?_).trans (hc j hj)
      rcases hg with ⟨-, hg⟩ | ⟨-, hg⟩
      · exact hg.block b (by omega) (by simpa using hne)
      · exact hg.block b (by omega) (by simp)
    · rcases hg with ⟨rfl, -⟩ | ⟨hb, -⟩
      · exact hA a ha h0
      · obtain ⟨b, off, e, hbD, -⟩ := hx.2.2 h0
        rw [ha] at e
        cases e
        show b ≠ g'
        omega
  refine ⟨by simpa using hown, fun z hz => ?_⟩
  rcases List.mem_append.1 hz with hz | hz
  · obtain ⟨A, m, c, e, h1, h2⟩ := h.el z hz
    obtain ⟨k1, k2⟩ := key A m z.2 h1 h2
    exact ⟨A, m, c, e, k1, k2⟩
  · obtain rfl := List.mem_singleton.1 hz
    obtain ⟨k1, k2⟩ := key A m xs hx hA
    exact ⟨A, m, c, hv, k1, k2⟩
/-- The old cells of the row lie as they lay. -/
theorem old_cells {W W' : World} {base g n g' cap' g0 M : Nat} {zs : List GZ} {v : Value} (hM : M ≤ n) (hl : zs.length = n) (hold : ∀ j, j < M → W.cell? ⟨g0, j, none⟩ = some (gzAt zs j).1)
    (hown : W'.ownsRow base 73 1 (.slice (some ⟨g', 0, none⟩) (n + 1) cap') (n + 1) (zs.map (fun z => z.1) ++ [v]))
    (hg : (g' = g ∧ W.grownBy W' (some g)) ∨ (W.heap.size ≤ g' ∧ W.grownBy W' none)) (xs : List Int) : ∀ j, j < M → W'.cell? ⟨g0, j, none⟩ = some (gzAt (zs ++ [(v, xs)]) j).1 := by
  intro j hj
  have e1 : gzAt (zs ++ [(v, xs)]) j = gzAt zs j := by unfold gzAt; rw [List.getElem?_append_left (by omega)]
  have hlt : g0 < W.heap.size := by
    obtain ⟨o, ho, -⟩ := cells_of_cell (hold j hj)
    exact (Array.getElem?_eq_some_iff.1 ho).1
  have stay : W'.heap[g0]? = W.heap[g0]? → W'.cell? ⟨g0, j, none⟩ = some (gzAt (zs ++ [(v, xs)]) j).1 := fun h => by
    rw [e1]
    exact (World.cell?_of_block h).trans (hold j hj)
  rcases hg with ⟨rfl, hg⟩ | ⟨-, hg⟩
  · by_cases hgg : g0 = g'
    · subst hgg
      have h1 : (zs.map (fun z => z.1) ++ [v])[j]? = some (gzAt (zs ++ [(v, xs)]) j).1 := by
        rw [List.getElem?_append_left (by simp; omega), List.getElem?_map, e1, gzAt, List.getElem?_eq_getElem (by omega)]
        rfl
      have := hown.cells (g := g0) rfl j _ h1
      have ha : (⟨g0, 0, none⟩ : Addr).add j = ⟨g0, j, none⟩ := by simp [Addr.add]; omega
      rwa [ha] at this
    · exact stay (hg.block g0 hlt (by simpa using hgg))
  · exact stay (hg.block g0 hlt (by simp))
end Go.Proofs.YthjgecblkagelaaGreat
