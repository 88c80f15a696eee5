/- Parts of a proof: BA BB BC. -/
import Derived.Test.YthjgecblkagelaaGreatM16

/- groups. -/
namespace Go.Proofs.YthjgecblkagelaaGreat
open Go.RowKit Go.Shelf

attribute [local go_sem] Oper.semAt_some

theorem infoGroup : (Tryz.prog.info? 73).map (fun i => (i.zero, i.size, i.bytes)) = some (some (.slice none 0 0), 1, 24) := by kernel_rfl
/-! ### all groups, sorted -/
def gAt (gs : List (List Int)) (j : Nat) : List Int := gs[j]?.getD []
def swapL (gs : List (List Int)) (j : Nat) : List (List Int) := (gs.set (j + 1) (gAt gs j)).set j (gAt gs (j + 1))
def insL : List (List Int) → Nat → List (List Int)
  | gs, 0 => gs
  | gs, j + 1 => if gcmpF (gAt gs (j + 1)) (gAt gs j) < 0 then insL (swapL gs j) j else gs
def sortL (gs : List (List Int)) : Nat → List (List Int)
  | 0 => gs
  | i + 1 => insL (sortL gs i) i
theorem gzAt_snd (zs : List GZ) (j : Nat) : (gzAt zs j).2 = gAt (zs.map fun z => z.2) j := by
  unfold gzAt gAt
  rw [List.getElem?_map]
  cases zs[j]? <;> rfl
/-- All groups of n windows, sorted. -/
def groupsS (n : Nat) : List (List Int) := sortL (groupsL ((List.finRange n).map fun i => (i.1 : Int))) (2 ^ n)
def gleB (xs ys : List Int) : Bool := decide (xs.length < ys.length) || (decide (xs.length = ys.length) && decide (scmpF xs ys ≤ 0))
theorem gleB_iff (xs ys : List Int) : gleB xs ys = true ↔ gle xs ys := by simp [gleB, gle]
def pairB : List (List Int) → Bool
  | [] => true
  | x :: xs => xs.all (gleB x) && pairB xs
theorem pairB_iff : ∀ xs : List (List Int), pairB xs = true → xs.Pairwise gle
  | [], _ => List.Pairwise.nil
  | x :: xs, h => by
    simp only [pairB, Bool.and_eq_true, List.all_eq_true] at h
    exact List.Pairwise.cons (fun y hy => (gleB_iff x y).1 (h.1 y hy)) (pairB_iff xs h.2)
def groupsOk (n : Nat) : Bool := (groupsS n).isPerm (groupsL ((List.finRange n).map fun i => (i.1 : Int))) && pairB (groupsS n)
theorem groupsOk0 : groupsOk 0 = true := by kernel_rfl
theorem groupsOk1 : groupsOk 1 = true := by kernel_rfl
theorem groupsOk2 : groupsOk 2 = true := by kernel_rfl
theorem groupsOk3 : groupsOk 3 = true := by kernel_rfl
theorem groupsOk4 : groupsOk 4 = true := by kernel_rfl
theorem groupsOk5 : groupsOk 5 = true := by kernel_rfl
theorem groupsS_ok {n : Nat} (h : n ≤ 5) : (groupsS n).Perm (groupsL ((List.finRange n).map fun i => (i.1 : Int))) ∧ (groupsS n).Pairwise gle := by
  have key : groupsOk n = true := by
    rcases (by omega : n = 0 ∨ n = 1 ∨ n = 2 ∨ n = 3 ∨ n = 4 ∨ n = 5) with rfl | rfl | rfl | rfl | rfl | rfl
    · exact groupsOk0
    · exact groupsOk1
    · exact groupsOk2
    · exact groupsOk3
    · exact groupsOk4
    · exact groupsOk5
  unfold groupsOk at key
  rw [Bool.and_eq_true] at key
  exact ⟨List.isPerm_iff.1 key.1, pairB_iff _ key.2⟩
theorem sorted_unique : ∀ {xs ys : List (List Int)}, xs.Perm ys → xs.Pairwise gle → ys.Pairwise gle → xs = ys
  | [], ys, hp, _, _ => (List.nil_perm.1 hp).symm
  | x :: xs, [], hp, _, _ => by simpa using hp.length_eq
  | x :: xs, y :: ys, hp, h1, h2 => by
    have hxy : x = y := by
      have hx : x ∈ y :: ys := hp.mem_iff.1 (List.mem_cons_self ..)
      have hy : y ∈ x :: xs := hp.mem_iff.2 (List.mem_cons_self ..)
      rcases List.mem_cons.1 hx with rfl | hx
      · rfl
      · rcases List.mem_cons.1 hy with rfl | hy
        · rfl
        · exact gle_anti ((List.pairwise_cons.1 h1).1 y hy) ((List.pairwise_cons.1 h2).1 x hx)
    subst hxy
    rw [sorted_unique (List.Perm.cons_inv hp) (List.pairwise_cons.1 h1).2 (List.pairwise_cons.1 h2).2]
theorem groupsS_is {n : Nat} (h : n ≤ 5) {gs : List (List Int)} (hp : gs.Perm (groupsL ((List.finRange n).map fun i => (i.1 : Int)))) (hs : gs.Pairwise gle) : gs = groupsS n :=
  sorted_unique (hp.trans (groupsS_ok h).1.symm) hs (groupsS_ok h).2
theorem take_snoc_map {gs : List (List Int)} {j : Nat} {xs : List Int} (h : gs[j]? = some xs) (f : List Int → List Int) : (gs.take (j + 1)).map f = (gs.take j).map f ++ [f xs] := by
  rw [List.take_add_one, h]
  simp
theorem KeepsFrom.row {B : Nat} {W W' : World} {base : Nat} {e : TypeId} {size g n cap : Nat} {xs : List Value} (hr : W.ownsRow base e size (.slice (some ⟨g, 0, none⟩) n cap) n xs) {g' : Nat} {s : Nat}
    (hg : (g' = g ∧ W.grownBy W' (some g)) ∨ (s ≤ g' ∧ W.grownBy W' none)) : KeepsFrom B W W' := by
  rcases hg with ⟨-, hg⟩ | ⟨-, hg⟩
  · refine ⟨hg.size, fun k o _ hk ho => (hg.block k (Array.getElem?_eq_some_iff.1 hk).1 ?_).trans hk⟩
    intro h
    cases h
    rcases hr.2 with ⟨he, -⟩ | ⟨g2, cap', cur, he, hb, hgg, -⟩
    · cases he
    · cases he
      rw [hgg] at hk
      cases hk
      cases ho
  · exact ⟨hg.size, fun k o _ hk ho => (hg.block k (Array.getElem?_eq_some_iff.1 hk).1 (by simp)).trans hk⟩
theorem Below.row {D : Nat} {w W W' : World} {base : Nat} {e : TypeId} {size g n cap : Nat} {xs : List Value} (h : Below D w W) (hD : D ≤ W.heap.size) (hr : W.ownsRow base e size (.slice (some ⟨g, 0, none⟩) n cap) n xs) (hb : D ≤ base) {g' : Nat} {s : Nat}
    (hg : (g' = g ∧ W.grownBy W' (some g)) ∨ (s ≤ g' ∧ W.grownBy W' none)) : Below D w W' := by
  have h1 := (hr.lt g rfl).1
  rcases hg with ⟨-, hg⟩ | ⟨-, hg⟩
  · exact h.grown hg hD (fun r e => by cases e; omega)
  · exact h.grown hg hD (fun r e => by cases e)
theorem row_other {W W' : World} {base : Nat} {e : TypeId} {size g n cap : Nat} {xs : List Value} (hr : W.ownsRow base e size (.slice (some ⟨g, 0, none⟩) n cap) n xs) {g' : Nat} {s b : Nat} {cs : Array Value} {t : TypeId} {fr : Nat × Nat}
    (hg : (g' = g ∧ W.grownBy W' (some g)) ∨ (s ≤ g' ∧ W.grownBy W' none)) (hb : W.heap[b]? = some (.cells cs t fr)) (hte : t ≠ e) : W'.heap[b]? = some (.cells cs t fr) := by
  have hne := cells_not_row hb hr hte g rfl
  have hlt := (Array.getElem?_eq_some_iff.1 hb).1
  rcases hg with ⟨-, hg⟩ | ⟨-, hg⟩
  · exact (hg.block b hlt (by simpa using fun h : b = g => hne h.symm)).trans hb
  · exact (hg.block b hlt (by simp)).trans hb

theorem GRow.mono {W : World} {D D' base g n cap : Nat} {zs : List GZ} (h : GRow W D base g n cap zs) (hD : D ≤ D') : GRow W D' base g n cap zs := h.kept hD fun _ _ _ _ => rfl

theorem ints_not_box {W : World} {D b m : Nat} {A : Option Addr} {xs : List Int} {t : TypeId} {X : Option Addr} {Y Z : Nat} (h : IntsAt W D A m xs) (hb : Boxed W b t (.slice X Y Z)) : ∀ a : Addr, A = some a → 0 < m → a.block ≠ b := by
  rintro a ha h0 rfl
  obtain ⟨b, off, e, -, hc⟩ := h.2.2 h0
  rw [ha] at e
  cases e
  have h1 := hc 0 h0
  have h2 : W.heap[b]? = some (.cells #[.slice X Y Z] t (0, 0)) := hb
  simp only [World.cell?, h2, Nat.add_zero] at h1
  cases off with
  | zero => simp at h1
  | succ o => simp at h1
theorem GRow.box {W : World} {D base g n cap b : Nat} {zs : List GZ} {t : TypeId} {X : Option Addr} {Y Z : Nat} (h : GRow W D base g n cap zs) (hb : Boxed W b t (.slice X Y Z)) (hte : t ≠ 73) (u : Value) : GRow (W.setCell ⟨b, 0, none⟩ u) D base g n cap zs := by
  have hgb := cells_not_row hb h.own hte g rfl
  refine ⟨row_heap h.own fun g' hg' => by cases hg'; exact Below.heap_setCell _ ⟨b, 0, none⟩ _ _ hgb, fun z hz => ?_⟩
  obtain ⟨A, m, c, e, h1, h2⟩ := h.el z hz
  refine ⟨A, m, c, e, ⟨h1.1, h1.2.1, fun h0 => ?_⟩, h2⟩
  obtain ⟨b1, off, e1, hb1, hc⟩ := h1.2.2 h0
  have hne := ints_not_box h1 hb _ e1 h0
  exact ⟨b1, off, e1, hb1, fun j hj => (World.cell?_setCell_other W _ _ _ (fun h => hne (congrArg Addr.block h).symm)).trans (hc j hj)⟩

set_option maxRecDepth 100000 in
set_option maxHeartbeats 8000000 in
theorem groups_any (w : World) (B : Nat) (A : Option Addr) (n c : Nat) (ts : List Int) (hx : IntsAt w B A n ts) (hB : B ≤ w.heap.size) (h5 : n ≤ 5) :
    Calls Tryz.prog 70 #[.agg #[.slice A n c]] w fun e w' => ∃ (g cap : Nat) (us : List GZ), e = .returned (.slice (some ⟨g, 0, none⟩) (2 ^ n) cap) ∧ us.map (fun z => z.2) = groupsS n ∧
      GRow w' w'.heap.size w.heap.size g (2 ^ n) cap us ∧ Below w.heap.size w w' := by
  obtain ⟨i0, hi, hz0, hz1, hz2⟩ := info_parts infoInt
  obtain ⟨i1, hi1, hy0, hy1, hy2⟩ := info_parts infoGroup
  obtain ⟨V, hV⟩ : ∃ V, V = ((w.alloc (.cells #[.slice A n c] 57)).alloc (.cells #[.slice none 0 0] 73)).alloc (.cells #[.slice (some ⟨w.heap.size + 1, 0, none⟩) 1 1] 99) := ⟨_, rfl⟩
  have hzV : V.heap.size = w.heap.size + 3 := by rw [hV]; simp
  have hb0 : Below w.heap.size w V := by rw [hV]; exact (((Below.refl _ w).alloc (Nat.le_refl _) _).alloc (by simp) _).alloc (by simp; omega) _
  have x0 : Boxed V w.heap.size 57 (.slice A n c) := by rw [hV]; exact ((Boxed.new w 57 (.slice A n c)).alloc _).alloc _
  have x2 : Boxed V (w.heap.size + 1 + 1) 99 (.slice (some ⟨w.heap.size + 1, 0, none⟩) 1 1) := by
    rw [hV]
    have := Boxed.new ((w.alloc (.cells #[.slice A n c] 57)).alloc (.cells #[.slice none 0 0] 73)) 99 (.slice (some ⟨w.heap.size + 1, 0, none⟩) 1 1)
    simpa using this
  have x1 : V.heap[w.heap.size + 1]? = some (.cells #[.slice none 0 0] 73 (0, 0)) := by
    rw [hV]
    have := World.alloc_heap_new (w.alloc (.cells #[.slice A n c] 57)) (.cells #[.slice none 0 0] 73)
    rw [World.size_alloc] at this
    exact (Below.heap_alloc _ _ _ (by simp)).trans this
  refine (callsIn_wide (n := 3)).1 ?_
  refine callsIn_of_wp_marks Tryz.func70 rfl trivial ?_ rfl
  simp only [Tryz.ntmps70, List.size_toArray, List.length_cons, List.length_nil, Nat.reduceAdd, Nat.reduceSub, Array.replicate_succ, Array.replicate_zero, List.push_toArray, List.append_toArray, List.nil_append, List.cons_append]
  gi_wp2_with (fail)
  rw [← hV]
  refine ⟨trivial, (callsIn_wide.2 (screws_box _ _ _ _)).mono ?_⟩
  rintro e w2 ⟨Bs, rfl, hBs, hb2⟩
  have hB2 : Below w.heap.size w w2 := hb0.trans (hb2.mono hb0.size)
  have y2 := bxBelow x2 hb2 x2.lt
  have y1 := (hb2.block (w.heap.size + 1) (by omega)).trans x1
  have hzw2 : w.heap.size + 3 ≤ w2.heap.size := by have := hb2.size; omega
  have hr0 : GRow w2 w2.heap.size w.heap.size (w.heap.size + 1) 1 1 [(.slice none 0 0, [])] :=
    ⟨⟨rfl, .inr ⟨w.heap.size + 1, 1, _, rfl, by omega, y1, Nat.le_refl _, by decide, rfl, rfl⟩⟩, fun z hz => by
      obtain rfl := List.mem_singleton.1 hz
      exact ⟨none, 0, 0, rfl, IntsAt.nil, fun a h => by cases h⟩⟩
  have hc0 : CapOk 1000 ([(.slice none 0 0, [])] : List GZ) := fun z hz => by
    obtain rfl := List.mem_singleton.1 hz
    exact ⟨none, 0, 0, rfl, Nat.le_refl _, fun _ => rfl, by omega⟩
  clear hb0 hb2 x0 x1 x2 y1 hV hzV
  clear V
  gi_wp2_with (fail)
  refine range_allL (lv := 3) (by omega) (n₀ := w.heap.size) (ts := ts) (Bs := Bs) (A := A) (cap := c) rfl hBs.lt hB2.size hBs.cell ((hx.below hB2 hB).more hB) rfl
    (fun pre W => (∃ (g cap : Nat) (zs : List GZ), Boxed W (w.heap.size + 1 + 1) 99 (.slice (some ⟨g, 0, none⟩) (2 ^ pre.length) cap) ∧ GRow W W.heap.size w.heap.size g (2 ^ pre.length) cap zs ∧ CapOk 1000 zs ∧ zs.map (fun z => z.2) = groupsL (pre.map fun i => (i.1 : Int))) ∧ Below w.heap.size w W)
    (fun _ _ _ => False)
    ?hI (fun _ _ _ _ _ h => h.elim) ?h0 ?a1 ?assign ?body ?done ?stop
  case assign =>
    intro l x W K hK
    gi_wp2
    exact hK
  case hI => exact OwnFrom.and (Own.from (fun s W W' row hs hg hr => by
      obtain ⟨g, cap, zs, h1, h2, h4, h5⟩ := hs
      exact ⟨g, cap, zs, bxOwn h1 hg hr, h2.own' hg.size hg hr, h4, h5⟩) _) (ownFrom_below (Nat.le_refl _) hB2.size)
  case h0 => exact ⟨⟨w.heap.size + 1, 1, _, y2, hr0, hc0, rfl⟩, hB2⟩
  case stop => exact fun _ _ _ _ _ _ h => h.elim
  case body =>
    rintro l pre x W ⟨⟨g, cap, zs, hbox, hrow, hcap, hgs⟩, hBW⟩ hlen
    obtain ⟨M, hM⟩ : ∃ M, M = 2 ^ pre.length := ⟨_, rfl⟩
    obtain ⟨gs, hgs'⟩ : ∃ gs, gs = groupsL (pre.map fun i => (i.1 : Int)) := ⟨_, rfl⟩
    have hM4 : M ≤ 16 := by
      rw [hM]
      exact Nat.le_trans (Nat.pow_le_pow_right (by omega) (show pre.length ≤ 4 by omega)) (by decide)
    have hgl : gs.length = M := by rw [hgs', groupsL_len, hM]; simp
    have hsh : ∀ g ∈ gs, g.length ≤ 4 := fun g hg => Nat.le_trans (groupsL_short _ g (hgs' ▸ hg)) (by simp; omega)
    rw [← hM] at hbox hrow
    rw [← hgs'] at hgs
    have Hg := Lib.hid (And.intro hgl (And.intro hsh (And.intro hgs' hM)))
    clear hgl hsh hgs' hM
    have Hlen := Lib.hid hlen
    clear hlen
    have hzW := hBW.size
    have hc := hbox.cell
    have hgne : g ≠ w.heap.size + 1 + 1 := cells_not_row hbox hrow.own (by decide) g rfl
    gi_wp2_with (fail)
    gi_loopg [14] M (fun gk v14 wr => ∃ (j g' cap' : Nat) (zs' : List GZ), (j ≤ M ∧ gk = M - j ∧ v14 = .int .i64 (j : Int)) ∧ Boxed wr (w.heap.size + 1 + 1) 99 (.slice (some ⟨g', 0, none⟩) (M + j) cap') ∧ GRow wr wr.heap.size w.heap.size g' (M + j) cap' zs' ∧ CapOk 1000 zs' ∧
      zs'.map (fun z => z.2) = gs ++ (gs.take j).map (· ++ [(x.1 : Int)]) ∧ (∀ t, t < M → wr.cell? ⟨g, t, none⟩ = some (gzAt zs' t).1) ∧ Below w.heap.size w wr ∧ Below w.heap.size W wr ∧ KeepsFrom w2.heap.size W wr)
    case atStart => exact ⟨0, g, cap, zs, ⟨Nat.zero_le _, rfl, rfl⟩, hbox, hrow, hcap, by simpa using hgs, fun t ht => hrow.cell ht, hBW, Below.refl _ _, KeepsFrom.refl _ _⟩
    case round =>
      clear hbox hrow hcap hgs hc
      obtain ⟨j, g', cap', zs', ⟨hj, rfl, rfl⟩, hbox, hrow, hcap, hgs, hold, hBr, hBWr, hKr⟩ := hrel
      have hzr := hBr.size
      have hgb := hrow.block
      by_cases hjM : j < M
      · have hl := hrow.len
        have hmem : gzAt zs' j ∈ zs' := gz_mem (by omega)
        obtain ⟨A1, m1, c1, e1, h1, h2⟩ := hrow.el _ hmem
        obtain ⟨A2, m2, c2, e2, h5, h6, -⟩ := hcap _ hmem
        rw [e1] at e2
        cases e2
        have hcj := hold j hjM
        rw [e1] at hcj
        obtain ⟨xs, hxs⟩ : ∃ xs, xs = (gzAt zs' j).2 := ⟨_, rfl⟩
        rw [← hxs] at h1
        have hgj : gs[j]? = some xs := by
          have h := congrArg (fun (y : List (List Int)) => y[j]?) hgs
          simp only [List.getElem?_map] at h
          rw [List.getElem?_append_left (by have := Hg.out.1; omega)] at h
          rw [← h, hxs, gzAt, List.getElem?_eq_getElem (by omega)]
          rfl
        have hm2 : m1 ≤ 4 := by rw [← h1.len]; exact Hg.out.2.1 xs (List.mem_of_getElem? hgj)
        have hgj' := take_snoc_map hgj (· ++ [(x.1 : Int)])
        have hsl := slice_full A1 m1 c1 h5
        have hsl := fun w => hsl w h6
        have hwj : IntKind.i64.wrap ((j : Int) + 1) = (j : Int) + 1 := by rw [IntKind.wrap_i64]; omega
        have Hx := Lib.hid (And.intro hgs (And.intro hgj' (And.intro hl (And.intro hmem (And.intro hcap hold)))))
        clear hgs hgj hgj' hl hmem hcap hold hxs e1
        gi_wp2_with (fail)
        refine region_held_round (fun W' => Boxed W' (w.heap.size + 1 + 1) 99 (.slice (some ⟨g', 0, none⟩) (M + j) cap')) (fun t => decide (8 ≤ t ∧ t ≤ 10)) (by kernel_rfl) (by kernel_rfl) ?_
        intro KR hKR
        refine wpAnyHI_takeW (i := 1) (v := .slice A1 m1 c1) (some 19) rfl rfl (by kernel_rfl) (by kernel_rfl) (by kernel_rfl) (by kernel_rfl) (fun _ _ _ h => h) (.inl ⟨by kernel_rfl, fun W' hS' => ?_⟩) ?_
        · go_simp
        refine wpAnyHI_takeW (i := 2) (v := .slice A1 m1 c1) (some 20) rfl rfl (by kernel_rfl) (by kernel_rfl) (by kernel_rfl) (by kernel_rfl) (fun _ _ _ h => h) (.inl ⟨by kernel_rfl, fun W' hS' => ?_⟩) ?_
        · go_simp
        refine wpAnyHI_takeW (i := 3) (v := .int .i64 (m1 : Int)) (some 21) rfl rfl (by kernel_rfl) (by kernel_rfl) (by kernel_rfl) (by kernel_rfl) (fun _ _ _ h => h) (.inl ⟨by kernel_rfl, fun W' hS' => ?_⟩) ?_
        · go_simp
        refine wpAnyHI_takeW (i := 4) (v := .slice A1 m1 c1) (some 22) rfl rfl (by kernel_rfl) (by kernel_rfl) (by kernel_rfl) (by kernel_rfl) (fun _ _ _ h => h) (.inl ⟨by kernel_rfl, fun W' hS' => ?_⟩) ?_
        · go_simp
        refine wpAnyHI_takeW (i := 5) (v := .int .i64 (m1 : Int)) (some 23) rfl rfl (by kernel_rfl) (by kernel_rfl) (by kernel_rfl) (by kernel_rfl) (fun _ _ _ h => h) (.inl ⟨by kernel_rfl, fun W' hS' => ?_⟩) ?_
        · go_simp
        refine wpAnyHI_takeW (i := 6) (v := .slice A1 m1 m1) (some 24) rfl rfl (by kernel_rfl) (by kernel_rfl) (by kernel_rfl) (by kernel_rfl) (fun _ _ _ h => h) (.inl ⟨by kernel_rfl, fun W' hS' => ?_⟩) ?_
        · go_simp
        refine wpAnyHI_takeW (i := 7) (v := .int .i64 (x.1 : Int)) (some 25) rfl rfl (by kernel_rfl) (by kernel_rfl) (by kernel_rfl) (by kernel_rfl) (fun _ _ _ h => h) (.inl ⟨by kernel_rfl, fun W' hS' => ?_⟩) ?_
        · go_simp
        refine wpAnyHI_takeE (i := 0) (v := .slice (some ⟨g', 0, none⟩) (M + j) cap') (some 18) rfl rfl (by kernel_rfl) (by kernel_rfl) (by kernel_rfl) (by kernel_rfl) (by kernel_rfl) (fun _ _ _ h => h) (bxDrew hbox) (.inl ⟨by kernel_rfl, fun W' hS' => ?_⟩) ?_
        · have a0 := hS'.cell
          go_simp
        refine wpAnyHI_one (i := 8) rfl (by kernel_rfl) ?_
        intro K1 hK1
        go_simp
        have hcU := cells_new wr #[.int .i64 (x.1 : Int)] 3
        have hbU : Below wr.heap.size wr (wr.alloc (.cells #[.int .i64 (x.1 : Int)] 3)).drew := ((Below.refl _ wr).alloc (Nat.le_refl _) _).trans ⟨rfl, rfl, rfl, Nat.le_refl _, fun _ _ => rfl⟩
        have hzU : (wr.alloc (.cells #[.int .i64 (x.1 : Int)] 3)).drew.heap.size = wr.heap.size + 1 := by simp
        have hcU : ∀ t u, ([.int .i64 (x.1 : Int)] : List Value)[t]? = some u → (wr.alloc (.cells #[.int .i64 (x.1 : Int)] 3)).drew.cell? ((⟨wr.heap.size, 0, none⟩ : Addr).add t) = some u := hcU
        obtain ⟨U, hU⟩ : ∃ U, U = (wr.alloc (.cells #[.int .i64 (x.1 : Int)] 3)).drew := ⟨_, rfl⟩
        rw [← hU] at hbU hzU hcU ⊢
        clear hU
        have hboxU := bxBelow hbox hbU hbox.lt
        have hrowU := hrow.below hbU (Nat.le_refl _)
        have hxU := h1.below hbU (Nat.le_refl _)
        refine hK1 _ _ ⟨fun _ => hboxU, ?_⟩
        clear hK1 K1
        refine wpAnyHI_one (i := 9) rfl (by kernel_rfl) ?_
        intro K1 hK1
        refine oneIn_append_grows U rfl (.tmp 24) (.tmp 26) 73 rfl 3 i0 (.int .i64 0) 1 8 Tryz.underlying73 hi hz0 hz1 hz2 rfl (by decide) A1 m1 m1 (xs.map (.int .i64)) rfl ?_ (by simp [h1.len]) ?_ ⟨wr.heap.size, 0, none⟩ 1 1 [.int .i64 (x.1 : Int)] rfl rfl hcU (by simp [Value.oneCell']) (by omega) (by simp only [maxLen]; omega) (by omega) ?_
        · intro h
          have := h6 h
          omega
        · rintro b hb t u hu
          exact ints_cells (b := b) (hb ▸ hxU) t u hu
        intro v' w3 hown3 hgrow3
        obtain ⟨q, cq, rfl⟩ := ownsRow_succ hown3
        have hb3 : Below U.heap.size U w3 := (Below.refl _ U).grown hgrow3 (Nat.le_refl _) (fun r e => by cases e)
        have hbox3 := bxBelow hboxU hb3 hboxU.lt
        have hrow3 := hrowU.below hb3 (by omega)
        obtain ⟨hq1, hq2⟩ := hown3.lt q rfl
        have hz3 := hb3.size
        refine hK1 _ _ ⟨fun _ => hbox3, ?_⟩
        clear hK1 K1
        refine wpAnyHI_one (i := 10) rfl (by kernel_rfl) ?_
        intro K1 hK1
        go_simp
        have hcV := cells_new w3 #[.slice (some ⟨q, 0, none⟩) (m1 + 1) cq] 73
        have hbV : Below w3.heap.size w3 (w3.alloc (.cells #[.slice (some ⟨q, 0, none⟩) (m1 + 1) cq] 73)) := (Below.refl _ w3).alloc (Nat.le_refl _) _
        have hzV : (w3.alloc (.cells #[.slice (some ⟨q, 0, none⟩) (m1 + 1) cq] 73)).heap.size = w3.heap.size + 1 := by simp
        obtain ⟨V, hV⟩ : ∃ V, V = w3.alloc (.cells #[.slice (some ⟨q, 0, none⟩) (m1 + 1) cq] 73) := ⟨_, rfl⟩
        rw [← hV] at hbV hzV hcV ⊢
        clear hV
        have hboxV := bxBelow hbox3 hbV hbox3.lt
        have hrowV := (hrow3.below hbV (by omega)).mono (show wr.heap.size ≤ V.heap.size by omega)
        have hbrV : Below wr.heap.size wr V := hbU.trans ((hb3.mono (by omega)).trans (hbV.mono (by omega)))
        have hownq := row_below hown3 hbV
        refine hK1 _ _ ⟨fun _ => hboxV, ?_⟩
        clear hK1 K1
        refine wpAnyHI_tail (k := 11) rfl rfl (by kernel_rfl) (by kernel_rfl) ?_
        simp only [List.drop_succ_cons, List.drop_zero]
        refine wpListIn_append_keep (F := Fence.wide) (nF := 1) V rfl (.tmp 18) (.tmp 28) 99 rfl w.heap.size 73 i1 (.slice none 0 0) 1 24 Tryz.underlying99 hi1 hy0 hy1 hy2 rfl (by decide) g' (M + j) cap' _ rfl hrowV.own ⟨w3.heap.size, 0, none⟩ 1 1 [.slice (some ⟨q, 0, none⟩) (m1 + 1) cq] rfl rfl hcV (by simp [Value.oneCell']) (by simp only [maxLen]; omega) (by omega) (by omega) (by omega) ?_
        intro g2 cap2 w4 hown4 hg4
        have hbox4 : Boxed w4 (w.heap.size + 1 + 1) 99 (.slice (some ⟨g', 0, none⟩) (M + j) cap') := row_other hrowV.own hg4 hboxV (by decide)
        have hc4 := Boxed.cell hbox4
        have hf4 := Boxed.frozen hbox4
        gi_wp2_with (fail)
        have hiq : IntsAt V V.heap.size (some ⟨q, 0, none⟩) (m1 + 1) (xs ++ [(x.1 : Int)]) := row_ints (by simpa using hownq) (by omega)
        have hrow5 := hrowV.step (Nat.le_refl _) (A := some ⟨q, 0, none⟩) (m := m1 + 1) (c := cq) rfl hiq (fun a ha _ => by cases ha; show q ≠ g'; omega) hown4 hg4
        have hold5 := old_cells (by omega) Hx.out.2.2.1 (fun t ht => (hbrV.cell (p := ⟨g, t, none⟩) (by
            obtain ⟨o, ho, -⟩ := cells_of_cell (Hx.out.2.2.2.2.2 t ht)
            exact (Array.getElem?_eq_some_iff.1 ho).1)).trans (Hx.out.2.2.2.2.2 t ht)) hown4 hg4 (xs ++ [(x.1 : Int)])
        obtain ⟨_, cq', eq', hle⟩ := ownsRow_slice hownq
        cases eq'
        have hBV : Below w.heap.size w V := hBr.trans (hbrV.mono hBr.size)
        have hBWV : Below w.heap.size W V := hBWr.trans (hbrV.mono hBr.size)
        gi_roundg (M - (j + 1))
        case measure => omega
        case rel =>
          refine ⟨j + 1, g2, cap2, _, ⟨hjM, rfl, by simp⟩, hbox4.set _, (hrow5.box hbox4 (by decide) _).mono ?_, Hx.out.2.2.2.2.1.snoc ⟨_, _, _, rfl, hle, fun h => (by cases h), by omega⟩, ?_, ?_, ?_, ?_, ?_⟩
          · have h1 := hg4
            have h2 : V.heap.size ≤ w4.heap.size := by rcases hg4 with ⟨-, h⟩ | ⟨-, h⟩ <;> exact h.size
            simpa [World.setCell] using h2
          · rw [List.map_append, Hx.out.1, Hx.out.2.1]
            simp
          · intro t ht
            exact (World.cell?_setCell_other w4 _ _ _ (fun h => hgne (congrArg Addr.block h).symm)).trans (hold5 t ht)
          · exact (Below.row hBV (by omega) hrowV.own (Nat.le_refl _) hg4).setCell (p := ⟨w.heap.size + 1 + 1, 0, none⟩) (by show w.heap.size ≤ w.heap.size + 1 + 1; omega) _
          · exact (Below.row hBWV (by omega) hrowV.own (Nat.le_refl _) hg4).setCell (p := ⟨w.heap.size + 1 + 1, 0, none⟩) (by show w.heap.size ≤ w.heap.size + 1 + 1; omega) _
          · exact ((hKr.trans (KeepsFrom.of_below hbrV)).trans (KeepsFrom.row hrowV.own hg4)).trans ((KeepsOthers.setCell _ _ _).from _)
      · obtain rfl : M = j := by omega
        have hnj : ¬ (M : Int) < (M : Int) := by omega
        have Hx := Lib.hid (And.intro hgs (And.intro hcap hold))
        clear hgs hcap hold
        gi_wp2_with (fail)
        have hp : 2 ^ (pre ++ [x]).length = M + M := by rw [List.length_append, List.length_singleton, Nat.pow_succ, ← Hg.out.2.2.2]; omega
        refine ⟨hKr, hBWr, ⟨g', cap', by rw [hp]; exact hbox, zs', by rw [hp]; exact hrow, Hx.out.2.1, ?_⟩, hBr⟩
        rw [Hx.out.1, List.take_of_length_le (by rw [Hg.out.1]; exact Nat.le_refl _), List.map_append, List.map_singleton, groupsL_snoc, ← Hg.out.2.2.1]
  case done =>
    rintro D W hD ⟨⟨g, cap, zs, hbox, hrow, hcap, hgs⟩, hBW⟩ hK
    rw [List.length_finRange] at hbox hrow
    obtain ⟨N, hN⟩ : ∃ N, N = 2 ^ n := ⟨_, rfl⟩
    have hN8 : N ≤ 32 := by
      rw [hN]
      exact Nat.le_trans (Nat.pow_le_pow_right (by omega) h5) (by decide)
    have hN1 : 1 ≤ N := by rw [hN]; exact Nat.one_le_two_pow
    rw [← hN] at hbox hrow
    have Hx := Lib.hid (And.intro hgs (And.intro hcap hN))
    clear hgs hcap hN
    have hc := hbox.cell
    have hzW := hBW.size
    gi_wp2_with (fail)
    refine ⟨trivial, (callsIn_wide.2 (sortFunc_any W w.heap.size g N cap zs hrow (by omega))).mono ?_⟩
    rintro e w5 ⟨rfl, us, hperm, hsorted, hrow5, hbut5⟩
    have Hu := Lib.hid (And.intro hperm hsorted)
    clear hperm hsorted
    have hgb := hrow.block
    have hbox5 : Boxed w5 (w.heap.size + 1 + 1) 99 (.slice (some ⟨g, 0, none⟩) N cap) := (hbut5.same _ hbox.lt (cells_not_row hbox hrow.own (by decide) g rfl).symm).trans hbox
    have hK5 : w5.heap[D]? = some (.deferred (some [])) := (hbut5.same _ (Array.getElem?_eq_some_iff.1 hK).1 (row_cells hrow.own hK g rfl).symm).trans hK
    have hB5 : Below w.heap.size w w5 := hBW.trans (hbut5.below hzW (fun k hk => by subst hk; exact hgb.1))
    have hz5 := hbut5.base.size
    have hc5 := hbox5.cell
    gi_wp2_with (fail)
    refine ⟨by simp, .inl ⟨_, _, rfl, run_takeDeferred hK5, ?_⟩⟩
    rw [← Hx.out.2.2]
    exact ⟨_, results_tmp rfl _ _ _, g, cap, us, rfl, groupsS_is h5 (Hx.out.1 ▸ Hu.out.1) Hu.out.2, (hrow5.put hK5 _).mono (by simpa using hz5), below_put hB5 hK5 (by omega)⟩
end Go.Proofs.YthjgecblkagelaaGreat

/- wait, Wait. -/
namespace Go.Proofs.YthjgecblkagelaaGreat
open Go.RowKit Go.Shelf

attribute [local go_sem] Oper.semAt_some

def waitG (ts : List Int) (m : List (Pl × Int)) (p : Pl) : Option (List Int) := (groupsS ts.length).find? (waitF ts m p)
theorem find_at {gs : List (List Int)} {f : List Int → Bool} {j : Nat} {x : List Int} (hj : gs[j]? = some x) (hx : f x = true) (hb : ∀ (t : Nat) (y : List Int), t < j → gs[t]? = some y → f y = false) : gs.find? f = some x := by
  induction gs generalizing j with
  | nil => simp at hj
  | cons g gs ih =>
    cases j with
    | zero =>
      obtain rfl : g = x := by simpa using hj
      rw [List.find?_cons, hx]
    | succ j =>
      have h0 := hb 0 g (by omega) (by simp)
      rw [List.find?_cons, h0]
      exact ih (by simpa using hj) fun t y ht hy => hb (t + 1) y (by omega) (by simpa using hy)
theorem GRow.groups {W : World} {D base g n cap : Nat} {zs : List GZ} (h : GRow W D base g n cap zs) (hD : D ≤ W.heap.size) (hn : n ≤ 1000000) : GroupsAt W W.heap.size (some ⟨g, 0, none⟩) n (zs.map fun z => z.2) := by
  have hl := h.len
  refine ⟨by simpa using hl, by omega, fun h0 => ⟨g, 0, rfl, h.block.2, fun j x hj => ?_⟩⟩
  have hjn : j < n := by have := (List.getElem?_eq_some_iff.1 hj).1; simp at this; omega
  obtain ⟨A, m, c, e, h1, -⟩ := h.el _ (gz_mem (zs := zs) (j := j) (by omega))
  have hx : x = (gzAt zs j).2 := by
    rw [gzAt_snd, gAt, hj]
    rfl
  refine ⟨A, m, c, ?_, ?_⟩
  · rw [Nat.zero_add, h.cell hjn, e]
  · rw [hx]; exact h1.more hD

def WaitPost (ts : List Int) (m : List (Pl × Int)) (p : Pl) (w : World) (e : Ending) (w' : World) : Prop :=
  Below w.heap.size w w' ∧ ((∃ (x : List Int) (A : Option Addr) (n c : Nat), waitG ts m p = some x ∧ e = .returned (.tuple #[.slice A n c, .bool true]) ∧ IntsAt w' w'.heap.size A n x) ∨ (waitG ts m p = none ∧ e = .returned (.tuple #[.slice none 0 0, .bool false])))
theorem wait_results (W : World) (tmps : Array Value) (x y : Value) (t2 : tmps.getD 4 undef = x) (t3 : tmps.getD 5 undef = y) : (results Tryz.f42 tmps).run Tryz.prog W = .ok (.tuple #[x, y]) W := by
  simp only [Array.getD_eq_getD_getElem?] at t2 t3
  simp [results, Tryz.results42, go_sem, t2, t3]

set_option maxRecDepth 100000 in
set_option maxHeartbeats 4000000 in
theorem wait_any (w : World) (B : Nat) (A : Option Addr) (n c ms ml : Nat) (ts : List Int) (hx : IntsAt w B A n ts) (hB : B ≤ w.heap.size) (h5 : n ≤ 5) (h12 : ∀ i, i < n → 1 ≤ ts[i]?.getD 0 ∧ ts[i]?.getD 0 ≤ 12)
    (m : List (Pl × Int)) (hm : MapAt Int encI w ms m) (p : Pl) (hp : PlOk ts p) :
    Calls Tryz.prog 42 #[.agg (tbc A n c ms ml), plv p] w (WaitPost ts m p w) := by
  have x0 := (TbAt.new w A n c ms ml).alloc (.cells (plc p) 64)
  have x1 := PlAt.new (w.alloc (.cells (tbc A n c ms ml) 60)) p
  simp only [World.size_alloc] at x1
  have hb0 : Below w.heap.size w ((w.alloc (.cells (tbc A n c ms ml) 60)).alloc (.cells (plc p) 64)) := ((Below.refl _ w).alloc (Nat.le_refl _) _).alloc (by simp) _
  obtain ⟨t0, t1, t2⟩ := x0.cells
  go_enter Tryz.func42, Tryz.ntmps42
  go_wp2_with (fail)
  refine (groups_any _ B A n c ts (hx.below hb0 hB) (by have := hb0.size; omega) h5).mono ?_
  rintro e w2 ⟨g, cap, us, rfl, hus, hrow, hb2⟩
  have hB2 := hb0.trans (hb2.mono hb0.size)
  have y0 := x0.below hb2 x0.lt
  have y1 := x1.below hb2 x1.lt
  have hl := hx.len
  have hN : 2 ^ n ≤ 32 := Nat.le_trans (Nat.pow_le_pow_right (by omega) h5) (by decide)
  have hgr := hrow.groups (Nat.le_refl _) (by omega)
  rw [hus] at hgr
  have hG : groupsS ts.length = groupsS n := by rw [hl]
  rw [← hG] at hgr
  obtain ⟨N, hNN⟩ : ∃ N, N = 2 ^ n := ⟨_, rfl⟩
  rw [← hNN] at hgr ⊢
  have hz2 := hB2.size
  have ht1 := x1.lt
  have hgood : GoodFn w2 w2.heap.size 71 #[.pointer (some ⟨w.heap.size, 0, none⟩), .pointer (some ⟨w.heap.size + 1, 0, none⟩)] (groupsS ts.length) (waitF ts m p) := by
    refine ⟨fun args W => enters_of Tryz.func71 (by kernel_rfl) rfl args W, fun W x A' n' c' hxm hbW hiW => ?_⟩
    have hBW := hB2.trans (hbW.mono hz2)
    exact wait1_any W B w2.heap.size A A' n c n' c' ms ml w.heap.size (w.heap.size + 1) ts x m p (hx.below hBW hB) (by have := hBW.size; omega) (by omega) h12 hp (y0.below hbW y0.lt) (y1.below hbW y1.lt) (hm.below hBW hm.lt) hiW hbW.size
  clear hrow hus hNN hG
  go_wp2_with (fail)
  refine (first_any w2 w2.heap.size _ N cap (groupsS ts.length) 71 #[.pointer (some ⟨w.heap.size, 0, none⟩), .pointer (some ⟨w.heap.size + 1, 0, none⟩)] (waitF ts m p) hgr (Nat.le_refl _) hgood).mono ?_
  rintro e w3 ⟨hb3, ⟨j, x, A', n', c', hj, hfx, hbf, rfl, hi3⟩ | ⟨hall, rfl⟩⟩
  · have hB3 := hB2.trans (hb3.mono hz2)
    go_wp2_with (fail)
    refine bodyPost_ret (v := .tuple #[.slice A' n' c', .bool true]) (wait_results _ _ _ _ (by simp) (by simp)) rfl ?_
    exact ⟨hB3, .inl ⟨x, A', n', c', find_at hj hfx hbf, rfl, hi3.more hb3.size⟩⟩
  · have hB3 := hB2.trans (hb3.mono hz2)
    go_wp2_with (fail)
    refine bodyPost_ret (v := .tuple #[.slice none 0 0, .bool false]) (wait_results _ _ _ _ (by simp) (by simp)) rfl ?_
    refine ⟨hB3, .inr ⟨?_, rfl⟩⟩
    unfold waitG
    rw [List.find?_eq_none]
    intro y hy
    simp [hall y hy]

/-- A list and an error are returned; the list lies somewhere. -/
def ListIn (w : World) (r : List Int × Int) (e : Ending) (w' : World) : Prop := ∃ (A : Option Addr) (n c : Nat), e = .returned (.tuple #[.slice A n c, .int .i64 r.2]) ∧ IntsAt w' w'.heap.size A n r.1 ∧ Below w.heap.size w w'
theorem ListIn.none {w w' : World} {r : List Int × Int} {x : Int} (h : r = ([], x)) (hb : Below w.heap.size w w') : ListIn w r (.returned (.tuple #[.slice none 0 0, .int .i64 x])) w' := by
  subst h
  exact ⟨_, _, _, rfl, IntsAt.nil, hb⟩
def waitV (o : Option (List Int)) : List Int × Int := match o with | some x => (x, 0) | none => ([], 17)
noncomputable def waitR (ts ss : List Int) : List Int × Int := if statedF ts ss ≠ 0 then ([], statedF ts ss) else waitV (waitG ts (tabE ts).1 (plOf ss))
theorem Wait_results (W : World) (tmps : Array Value) (x y : Value) (t2 : tmps.getD 4 undef = x) (t3 : tmps.getD 5 undef = y) : (results Tryz.f11 tmps).run Tryz.prog W = .ok (.tuple #[x, y]) W := by
  simp only [Array.getD_eq_getD_getElem?] at t2 t3
  simp [results, Tryz.results11, go_sem, t2, t3]

set_option maxRecDepth 100000 in
set_option maxHeartbeats 4000000 in
theorem Wait_any (w : World) (B1 B2 : Nat) (A1 A2 : Option Addr) (n c m d : Nat) (ts ss : List Int) (h1 : IntsAt w B1 A1 n ts) (hB1 : B1 ≤ w.heap.size) (h2 : IntsAt w B2 A2 m ss) (hB2 : B2 ≤ w.heap.size) (he : statedF ts ss = 0 → Ends ts ∧ n ≤ 5) :
    Calls Tryz.prog 11 #[.agg #[.slice A1 n c], .slice A2 m d] w (ListIn w (waitR ts ss)) := by
  have hb0 : Below w.heap.size w (w.alloc (.cells #[.slice A1 n c] 24)) := (Below.refl _ w).alloc (Nat.le_refl _) _
  go_enter Tryz.func11, Tryz.ntmps11
  go_wp2_with (fail)
  refine (tableAt_any _ B1 B2 A1 A2 n c m d ts ss (h1.below hb0 hB1) (by have := hb0.size; omega) (h2.below hb0 hB2) (by have := hb0.size; omega) (fun h => (he h).1)).mono ?_
  rintro e w2 ⟨hb, ⟨hr, ms, ml, rfl, hT⟩ | ⟨hr, rfl⟩⟩
  · have hB := hb0.trans (hb.mono hb0.size)
    obtain ⟨hv, hl, hg⟩ := stated_valid hr
    have hn5 := (he hr).2
    obtain ⟨p, hp⟩ : ∃ p, p = plOf ss := ⟨_, rfl⟩
    rw [← hp] at hg ⊢
    have hr1 : waitR ts ss = waitV (waitG ts (tabE ts).1 p) := by unfold waitR; rw [if_neg (by simp [hr]), hp]
    have Hr := Lib.hid hr1
    clear hr hr1 hp hb hb0
    have x0 := (TbAt.new w2 A1 n c ms ml).alloc (.cells (plc p) 64)
    have x1 := PlAt.new (w2.alloc (.cells (tbc A1 n c ms ml) 60)) p
    simp only [World.size_alloc] at x1
    have hb0 : Below w2.heap.size w2 ((w2.alloc (.cells (tbc A1 n c ms ml) 60)).alloc (.cells (plc p) 64)) := ((Below.refl _ w2).alloc (Nat.le_refl _) _).alloc (by simp) _
    obtain ⟨t0, t1, t2⟩ := x0.cells
    obtain ⟨c0, c1, c2, c3, c4, c5⟩ := x1.cells
    have hT1 := hT.later hb0
    have hB1' := hB.trans (hb0.mono hB.size)
    go_wp2_with (fail)
    refine (wait_any _ B1 A1 n c ms ml ts (h1.below hB1' hB1) (by have := hB1'.size; omega) hn5 (fun i hi => hv.h12 i (by have := h1.len; omega)) (tabE ts).1 hT1.safe p hg.1).mono ?_
    rintro e w3 ⟨hb3, ⟨x, A', n', c', hwx, rfl, hi3⟩ | ⟨hwx, rfl⟩⟩
    · have hB3 := hB1'.trans (hb3.mono hB1'.size)
      have Hw := Lib.hid hwx
      clear hwx
      go_wp2_with (fail)
      refine bodyPost_ret (v := .tuple #[.slice A' n' c', .int .i64 0]) (Wait_results _ _ _ _ (by simp) (by simp)) rfl ?_
      unfold ListIn
      rw [Hr.out, Hw.out]
      exact ⟨A', n', c', rfl, hi3, hB3⟩
    · have hB3 := hB1'.trans (hb3.mono hB1'.size)
      have Hw := Lib.hid hwx
      clear hwx
      go_wp2_with (fail)
      refine bodyPost_ret (v := .tuple #[.slice none 0 0, .int .i64 17]) (Wait_results _ _ _ _ (by simp) (by simp)) rfl ?_
      exact ListIn.none (by rw [Hr.out, Hw.out]; rfl) hB3
  · have hB := hb0.trans (hb.mono hb0.size)
    have hr1 : waitR ts ss = ([], statedF ts ss) := by unfold waitR; rw [if_pos hr]
    obtain ⟨r, hrr⟩ : ∃ r, r = statedF ts ss := ⟨_, rfl⟩
    rw [← hrr] at hr hr1 ⊢
    have Hr := Lib.hid (And.intro hrr hr1)
    clear hrr hr1
    have hr' : (r != 0) = true := by simp [hr]
    go_wp2_with (fail)
    refine bodyPost_ret (v := .tuple #[.slice none 0 0, .int .i64 r]) (Wait_results _ _ _ _ (by simp) (by simp)) rfl ?_
    exact ListIn.none Hr.out.2 ((hB.alloc hB.size _).alloc (by have := hB.size; simp; omega) _)
end Go.Proofs.YthjgecblkagelaaGreat

/- The search of a circle: what it computes; a row of walks in memory. -/
namespace Go.Proofs.YthjgecblkagelaaGreat
open Go.RowKit Go.Shelf

attribute [local go_sem] Oper.semAt_some

abbrev WSt := List (Pl × List Int) × List (Pl × Bool)
def wkStep (m : List (Pl × Int)) (q : Pl × List Int) (s : WSt) (x : Nat × Pl) : WSt := if 0 < mget 0 m x.2 ∧ mget false s.2 x.2 = false then (s.1 ++ [(x.2, q.2 ++ [(x.1 : Int)])], mset x.2 true s.2) else s
def wkP (m : List (Pl × Int)) (q : Pl × List Int) (s : WSt) (l : List (Nat × Pl)) : WSt := l.foldl (wkStep m q) s
def wkL (m : List (Pl × Int)) (start : Pl) (q : Pl × List Int) : List (Nat × Pl) → WSt → WSt ⊕ List Int
  | [], s => .inl s
  | x :: l, s => if x.2 = start then .inr (q.2 ++ [(x.1 : Int)]) else wkL m start q l (wkStep m q s x)
def wkR : WSt ⊕ List Int → WSt ⊕ (List Int × Bool)
  | .inl s => .inl s
  | .inr row => .inr (row, true)
def loopStep (ts : List Int) (m : List (Pl × Int)) (start : Pl) (limit : Int) (k : Nat) : WSt ⊕ (List Int × Bool) → WSt ⊕ (List Int × Bool)
  | .inr r => .inr r
  | .inl s => match s.1[k]? with
    | none => .inr ([], false)
    | some q => if limit ≤ (q.2.length : Int) then .inr ([], false) else wkR (wkL m start q (visitsF ts q.1) s)
def loopN (ts : List Int) (m : List (Pl × Int)) (start : Pl) (limit : Int) : Nat → WSt ⊕ (List Int × Bool)
  | 0 => .inl ([(start, [])], [])
  | k + 1 => loopStep ts m start limit k (loopN ts m start limit k)
section
variable {ts : List Int} {m : List (Pl × Int)} {start : Pl} {limit : Int} {q : Pl × List Int}
theorem wkP_snoc (s : WSt) (l : List (Nat × Pl)) (x : Nat × Pl) : wkP m q s (l ++ [x]) = wkStep m q (wkP m q s l) x := by simp [wkP]
theorem wkL_pre : ∀ (l r : List (Nat × Pl)) (s : WSt), (∀ x ∈ l, x.2 ≠ start) → wkL m start q (l ++ r) s = wkL m start q r (wkP m q s l)
  | [], _, _, _ => rfl
  | x :: l, r, s, h => by
    have h0 := h x (by simp)
    have e : wkL m start q (x :: (l ++ r)) s = wkL m start q (l ++ r) (wkStep m q s x) := by
      rw [wkL, if_neg h0]
    rw [List.cons_append, e, wkL_pre l r _ (fun y hy => h y (by simp [hy]))]
    rfl
theorem wkL_all {l : List (Nat × Pl)} {s : WSt} (h : ∀ x ∈ l, x.2 ≠ start) : wkL m start q l s = .inl (wkP m q s l) := by
  have := wkL_pre (m := m) (q := q) l [] s h
  rw [List.append_nil] at this
  exact this
theorem wkL_hit {l r : List (Nat × Pl)} {s : WSt} {x : Nat × Pl} (h : ∀ y ∈ l, y.2 ≠ start) (hx : x.2 = start) : wkL m start q (l ++ [x] ++ r) s = .inr (q.2 ++ [(x.1 : Int)]) := by
  rw [List.append_assoc, wkL_pre l _ s h]
  simp [wkL, hx]
theorem loopN_stay {r : List Int × Bool} {k : Nat} (h : loopN ts m start limit k = .inr r) : ∀ j, k ≤ j → loopN ts m start limit j = .inr r := by
  intro j hj
  induction j with
  | zero =>
    obtain rfl : k = 0 := by omega
    exact h
  | succ j ih =>
    by_cases hk : k = j + 1
    · rw [← hk]; exact h
    · have := ih (by omega)
      unfold loopN
      rw [this]
      rfl
theorem loopN_is {r r' : List Int × Bool} {k N : Nat} {s : WSt} (hN : loopN ts m start limit N = .inr r) (hk : loopN ts m start limit k = .inl s) (h : loopN ts m start limit (k + 1) = .inr r') : k < N ∧ r' = r := by
  have hkN : k < N := by
    rcases Nat.lt_or_ge k N with h | h
    · exact h
    · rw [loopN_stay hN k h] at hk; cases hk
  refine ⟨hkN, ?_⟩
  rw [loopN_stay h N hkN] at hN
  exact (Sum.inr.inj hN)
theorem loopN_lt {r : List Int × Bool} {k N : Nat} {s : WSt} (hN : loopN ts m start limit N = .inr r) (hk : loopN ts m start limit k = .inl s) : k < N := by
  rcases Nat.lt_or_ge k N with h | h
  · exact h
  · rw [loopN_stay hN k h] at hk; cases hk
theorem wkStep_mem {s : WSt} {x : Nat × Pl} {y : Pl × List Int} (h : y ∈ (wkStep m q s x).1) : y ∈ s.1 ∨ y.1 = x.2 := by
  unfold wkStep at h
  split at h
  · simp at h
    rcases h with h | h
    · exact .inl h
    · rw [h]; exact .inr rfl
  · exact .inl h
theorem wkStep_len (s : WSt) (x : Nat × Pl) : (wkStep m q s x).1.length ≤ s.1.length + 1 := by unfold wkStep; split <;> simp
theorem wkP_mem : ∀ (l : List (Nat × Pl)) (s : WSt) (y : Pl × List Int), y ∈ (wkP m q s l).1 → y ∈ s.1 ∨ ∃ x ∈ l, y.1 = x.2
  | [], _, _, h => .inl h
  | x :: l, s, y, h => by
    rcases wkP_mem l (wkStep m q s x) y h with h | ⟨z, hz, e⟩
    · rcases wkStep_mem h with h | h
      · exact .inl h
      · exact .inr ⟨x, by simp, h⟩
    · exact .inr ⟨z, by simp [hz], e⟩
theorem wkP_len : ∀ (l : List (Nat × Pl)) (s : WSt), (wkP m q s l).1.length ≤ s.1.length + l.length
  | [], _ => by simp [wkP]
  | x :: l, s => by
    have h1 := wkP_len l (wkStep m q s x)
    have h2 := wkStep_len (m := m) (q := q) s x
    have e : wkP m q s (x :: l) = wkP m q (wkStep m q s x) l := rfl
    rw [e]
    simp
    omega
theorem wkL_inl : ∀ (l : List (Nat × Pl)) (s s' : WSt), wkL m start q l s = .inl s' → s' = wkP m q s l
  | [], s, s', h => by cases h; rfl
  | x :: l, s, s', h => by
    unfold wkL at h
    split at h
    · cases h
    · exact wkL_inl l _ _ h
theorem loopN_good (hv : Valid ts) (hp : PlGood ts start) : ∀ (k : Nat) (s : WSt), loopN ts m start limit k = .inl s → (∀ y ∈ s.1, PlGood ts y.1) ∧ s.1.length ≤ 1 + 5 * k
  | 0, s, h => by
    cases h
    refine ⟨fun y hy => ?_, by simp⟩
    obtain rfl := List.mem_singleton.1 hy
    exact hp
  | k + 1, s, h => by
    unfold loopN at h
    cases hk : loopN ts m start limit k with
    | inr r => rw [hk] at h; cases h
    | inl s0 =>
      rw [hk] at h
      obtain ⟨i1, i2⟩ := loopN_good hv hp k s0 hk
      unfold loopStep at h
      dsimp only at h
      split at h
      · cases h
      · rename_i q hq
        split at h
        · cases h
        · cases hw : wkL m start q (visitsF ts q.1) s0 with
          | inr r => rw [hw] at h; cases h
          | inl s1 =>
            rw [hw] at h
            cases h
            have e := wkL_inl _ _ _ hw
            have hg := i1 q (List.mem_of_getElem? hq)
            refine ⟨fun y hy => ?_, ?_⟩
            · rw [e] at hy
              rcases wkP_mem _ _ y hy with h | ⟨x, hx, e'⟩
              · exact i1 y h
              · rw [e']; exact visitsF_good hv hg hx
            · rw [e]
              have h1 := wkP_len (m := m) (q := q) (visitsF ts q.1) s0
              have h2 := visitsF_len (ts := ts) (p := q.1)
              have h3 := hv.h5
              omega
end

/-- A walk in memory: its place, its slice, what the slice holds. -/
abbrev WZ := Pl × Value × List Int
def wc (z : WZ) : List Value := [.int .i64 z.1.n, .int .i64 z.1.a, .int .i64 z.1.b, .int .i64 z.1.c, .int .i64 z.1.d, .int .i64 z.1.e, z.2.1]
def wflat (zs : List WZ) : List Value := zs.flatMap wc
theorem wflat_snoc (zs : List WZ) (z : WZ) : wflat (zs ++ [z]) = wflat zs ++ wc z := by simp [wflat]
theorem wflat_get : ∀ (zs : List WZ) (k : Nat) (z : WZ), zs[k]? = some z → ∀ i u, (wc z)[i]? = some u → (wflat zs)[k * 7 + i]? = some u
  | [], k, z, h, _, _, _ => by simp at h
  | y :: zs, 0, z, h, i, u, hu => by
    simp only [List.getElem?_cons_zero, Option.some.injEq] at h
    subst h
    have hi : i < (wc y).length := (List.getElem?_eq_some_iff.1 hu).1
    simp only [wflat, List.flatMap_cons]
    rw [List.getElem?_append_left (by simpa using hi)]
    simpa using hu
  | y :: zs, k + 1, z, h, i, u, hu => by
    have ih := wflat_get zs k z (by simpa using h) i u hu
    simp only [wflat, List.flatMap_cons] at ih ⊢
    rw [List.getElem?_append_right (by simp [wc]; omega)]
    rw [show (k + 1) * 7 + i - (wc y).length = k * 7 + i by simp [wc]; omega]
    exact ih

theorem ints_at {W W' : World} {D D' : Nat} {A : Option Addr} {m : Nat} {xs : List Int} (h : IntsAt W D A m xs) (hD : D ≤ D') (hk : ∀ a : Addr, A = some a → 0 < m → W'.heap[a.block]? = W.heap[a.block]?) : IntsAt W' D' A m xs := by
  refine ⟨h.1, h.2.1, fun h0 => ?_⟩
  obtain ⟨b, off, e, hb, hc⟩ := h.2.2 h0
  exact ⟨b, off, e, by omega, fun j hj => (World.cell?_of_block (a := ⟨b, off + j, none⟩) (show W'.heap[b]? = W.heap[b]? from hk ⟨b, off, none⟩ e h0)).trans (hc j hj)⟩
theorem ints_block {W : World} {D : Nat} {a : Addr} {m : Nat} {xs : List Int} (h : IntsAt W D (some a) m xs) (h0 : 0 < m) : ∃ o : Obj, W.heap[a.block]? = some o ∧ o.isCells = true := by
  obtain ⟨b, off, e, hb, hc⟩ := h.2.2 h0
  cases e
  exact cells_of_cell (hc 0 h0)

structure WRow (W : World) (base g cap : Nat) (zs : List WZ) (ws : List (Pl × List Int)) (X : Nat → Prop) : Prop where
  own : W.ownsRow base 135 7 (.slice (some ⟨g, 0, none⟩) zs.length cap) zs.length (wflat zs)
  eq : zs.map (fun z => (z.1, z.2.2)) = ws
  el : ∀ z ∈ zs, ∃ A m c, z.2.1 = .slice A m c ∧ m ≤ c ∧ (A = none → c = 0) ∧ IntsAt W W.heap.size A m z.2.2 ∧ ∀ a : Addr, A = some a → 0 < m → ¬ X a.block ∧ a.block ≠ g
section
variable {W W' : World} {base g cap : Nat} {zs : List WZ} {ws : List (Pl × List Int)} {X X' : Nat → Prop}
theorem WRow.lt (h : WRow W base g cap zs ws X) : base ≤ g ∧ g < W.heap.size := h.own.lt g rfl
theorem WRow.kept (h : WRow W base g cap zs ws X) (hz : W.heap.size ≤ W'.heap.size) (hg : ¬ X g) (hgr : Grows X X' W) (hk : ∀ (k : Nat) (o : Obj), W.heap[k]? = some o → o.isCells = true → ¬ X k → W'.heap[k]? = W.heap[k]?) : WRow W' base g cap zs ws X' := by
  refine ⟨row_heap h.own fun g' hg' => ?_, h.eq, fun z hz' => ?_⟩
  · cases hg'
    rcases h.own.2 with ⟨he, -⟩ | ⟨g2, cap', cur, he, hb, hh, -⟩
    · cases he
    · cases he
      exact hk _ _ hh rfl hg
  · obtain ⟨A, m, c, e, h1, h2, h3, h4⟩ := h.el z hz'
    refine ⟨A, m, c, e, h1, h2, ints_at h3 hz fun a ha h0 => ?_, fun a ha h0 => ?_⟩
    · subst ha
      obtain ⟨o, ho, hc⟩ := ints_block h3 h0
      exact hk _ o ho hc (h4 a rfl h0).1
    · have h5 := h4 a ha h0
      subst ha
      obtain ⟨o, ho, -⟩ := ints_block h3 h0
      exact ⟨hgr.not h5.1 (Array.getElem?_eq_some_iff.1 ho).1, h5.2⟩
theorem WRow.st {B : Nat} (h : WRow W base g cap zs ws X) (hg : ¬ X g) (hst : St B X W W') (hgr : Grows X X' W) : WRow W' base g cap zs ws X' :=
  h.kept hst.base.size hg hgr fun k o hk hc hX => (hst.same k o hk hX (.inl hc)).trans hk.symm
theorem WRow.below (h : WRow W base g cap zs ws X) (hg : ¬ X g) (hb : Below W.heap.size W W') : WRow W' base g cap zs ws X :=
  h.kept hb.size hg (Grows.refl _ _) fun k _ hk _ _ => hb.block k (Array.getElem?_eq_some_iff.1 hk).1
theorem WRow.put {l : Nat} {ob : Obj} (h : WRow W base g cap zs ws X) (hg : ¬ X g) (hl : W.heap[l]? = some ob) (hob : ob.isCells = false) (o : Obj) : WRow (W.putObj l o) base g cap zs ws X :=
  h.kept (by simp) hg (Grows.refl _ _) fun k o' hk hc _ => World.putObj_heap_other (by rintro rfl; rw [hl] at hk; cases hk; rw [hob] at hc; cases hc)
theorem WRow.free (h : WRow W base g cap zs ws X) : WRow W base g cap zs ws noBlock := ⟨h.own, h.eq, fun z hz => by
  obtain ⟨A, m, c, e, h1, h2, h3, h4⟩ := h.el z hz
  exact ⟨A, m, c, e, h1, h2, h3, fun a ha h0 => ⟨fun h => h.elim, (h4 a ha h0).2⟩⟩⟩
theorem WRow.box {b : Nat} {t : TypeId} {A : Option Addr} {Y Z : Nat} (h : WRow W base g cap zs ws X) (hb : Boxed W b t (.slice A Y Z)) (hte : t ≠ 135) (u : Value) : WRow (W.setCell ⟨b, 0, none⟩ u) base g cap zs ws X := by
  have hgb := cells_not_row hb h.own hte g rfl
  refine ⟨row_heap h.own fun g' hg' => by cases hg'; exact Below.heap_setCell _ ⟨b, 0, none⟩ _ _ hgb, h.eq, fun z hz => ?_⟩
  obtain ⟨A, m, c, e, h1, h2, h3, h4⟩ := h.el z hz
  exact ⟨A, m, c, e, h1, h2, ints_at h3 (by simp [World.setCell]) fun a ha h0 => Below.heap_setCell _ ⟨b, 0, none⟩ _ _ (ints_not_box h3 hb a ha h0), h4⟩
/-- One walk more. -/
theorem WRow.step {g' cap' : Nat} {z : WZ} {q m c : Nat} (h : WRow W base g cap zs ws X) (hz : z.2.1 = .slice (some ⟨q, 0, none⟩) m c) (hmc : m ≤ c) (hi : IntsAt W W.heap.size (some ⟨q, 0, none⟩) m z.2.2) (hqX : ¬ X q) (hqg : q ≠ g) (hqz : q < W.heap.size)
    (hown : W'.ownsRow base 135 7 (.slice (some ⟨g', 0, none⟩) (zs.length + 1) cap') (zs.length + 1) (wflat zs ++ wc z))
    (hg : (g' = g ∧ W.grownBy W' (some g)) ∨ (W.heap.size ≤ g' ∧ W.grownBy W' none)) : WRow W' base g' cap' (zs ++ [z]) (ws ++ [(z.1, z.2.2)]) X := by
  have hsz : W.heap.size ≤ W'.heap.size := by rcases hg with ⟨-, h⟩ | ⟨-, h⟩ <;> exact h.size
  have key : ∀ b, b < W.heap.size → b ≠ g → W'.heap[b]? = W.heap[b]? ∧ b ≠ g' := by
    intro b hb hne
    rcases hg with ⟨rfl, h⟩ | ⟨h1, h⟩
    · exact ⟨h.block b hb (by simpa using hne), hne⟩
    · exact ⟨h.block b hb (by simp), by omega⟩
  refine ⟨by simpa [wflat_snoc] using hown, by rw [List.map_append, h.eq]; rfl, fun y hy => ?_⟩
  rcases List.mem_append.1 hy with hy | hy
  · obtain ⟨A, m, c, e, h1, h2, h3, h4⟩ := h.el y hy
    have hkey : ∀ a : Addr, A = some a → 0 < m → W'.heap[a.block]? = W.heap[a.block]? ∧ a.block ≠ g' := fun a ha h0 => by
      have h5 := h4 a ha h0
      subst ha
      obtain ⟨o, ho, -⟩ := ints_block h3 h0
      exact key _ (Array.getElem?_eq_some_iff.1 ho).1 h5.2
    exact ⟨A, m, c, e, h1, h2, ints_at h3 hsz fun a ha h0 => (hkey a ha h0).1, fun a ha h0 => ⟨(h4 a ha h0).1, (hkey a ha h0).2⟩⟩
  · obtain rfl := List.mem_singleton.1 hy
    obtain ⟨k1, k2⟩ := key q hqz hqg
    exact ⟨some ⟨q, 0, none⟩, m, c, hz, hmc, fun h => (by cases h), ints_at hi hsz fun a ha _ => by cases ha; exact k1, fun a ha _ => by cases ha; exact ⟨hqX, k2⟩⟩
theorem WRow.cells (h : WRow W base g cap zs ws X) {k : Nat} {z : WZ} (hk : zs[k]? = some z) :
    W.cell? ⟨g, k * 7, none⟩ = some (.int .i64 z.1.n) ∧ W.cell? ⟨g, k * 7 + 1, none⟩ = some (.int .i64 z.1.a) ∧ W.cell? ⟨g, k * 7 + 2, none⟩ = some (.int .i64 z.1.b) ∧ W.cell? ⟨g, k * 7 + 3, none⟩ = some (.int .i64 z.1.c) ∧
      W.cell? ⟨g, k * 7 + 4, none⟩ = some (.int .i64 z.1.d) ∧ W.cell? ⟨g, k * 7 + 5, none⟩ = some (.int .i64 z.1.e) ∧ W.cell? ⟨g, k * 7 + 6, none⟩ = some z.2.1 := by
  have H : ∀ i u, (wc z)[i]? = some u → W.cell? ⟨g, k * 7 + i, none⟩ = some u := by
    intro i u hu
    have := h.own.cells (g := g) rfl (k * 7 + i) u (wflat_get zs k z hk i u hu)
    have ha : (⟨g, 0, none⟩ : Addr).add (k * 7 + i) = ⟨g, k * 7 + i, none⟩ := by simp [Addr.add]; omega
    rwa [ha] at this
  exact ⟨H 0 _ rfl, H 1 _ rfl, H 2 _ rfl, H 3 _ rfl, H 4 _ rfl, H 5 _ rfl, H 6 _ rfl⟩
end
end Go.Proofs.YthjgecblkagelaaGreat
