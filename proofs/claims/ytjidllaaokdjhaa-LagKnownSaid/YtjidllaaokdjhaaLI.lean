/- lag: least sums. -/
import Derived.Test.YtjidllaaokdjhaaLH
namespace Go.Proofs.Ytjidllaaokdjhaa
open Go.RowKit Go.Shelf

attribute [local go_sem] Oper.semAt_some

/-! ### the best one -/
theorem bestO_mem {α V : Type} (f : α → V) (better : V → V → Bool) : ∀ (l : List α) (o : Option V) (v : V), l.foldl (bestStep f better) o = some v → o = some v ∨ ∃ x ∈ l, v = f x
  | [], _, _, h => .inl h
  | x :: l, o, v, h => by
    rw [List.foldl_cons] at h
    rcases bestO_mem f better l _ v h with h1 | ⟨y, hy, rfl⟩
    · cases o with
      | none =>
        simp only [bestStep, Option.some.injEq] at h1
        exact .inr ⟨x, List.mem_cons_self .., h1.symm⟩
      | some b =>
        simp only [bestStep] at h1
        split at h1
        · simp only [Option.some.injEq] at h1
          exact .inr ⟨x, List.mem_cons_self .., h1.symm⟩
        · exact .inl h1
    · exact .inr ⟨y, List.mem_cons_of_mem _ hy, rfl⟩
theorem bestO_some {α V : Type} (f : α → V) (better : V → V → Bool) : ∀ (l : List α) (o : Option V), (l ≠ [] ∨ o ≠ none) → ∃ v, l.foldl (bestStep f better) o = some v
  | [], o, h => by
    rcases h with h | h
    · exact absurd rfl h
    · cases o with
      | none => exact absurd rfl h
      | some v => exact ⟨v, rfl⟩
  | x :: l, o, _ => by
    rw [List.foldl_cons]
    refine bestO_some f better l _ (.inr ?_)
    cases o with
    | none => simp [bestStep]
    | some b => simp only [bestStep]; split <;> simp

/-! ### a row of numbers in a block of its own -/
abbrev RowZ (W : World) (g : Nat) (row : List Int) : Prop := W.heap[g]? = some (.cells (row.map (Value.int .i64)).toArray 2 (0, 0))
theorem RowZ.cell {W : World} {g j : Nat} {row : List Int} (h : RowZ W g row) (hj : j < row.length) : W.cell? ⟨g, j, none⟩ = some (.int .i64 (row[j]?.getD 0)) := by
  simp [World.cell?, h, hj]
theorem RowZ.frozen {W : World} {g j : Nat} {row : List Int} (h : RowZ W g row) : W.frozen? ⟨g, j, none⟩ = false := by simp [World.frozen?, h]
theorem RowZ.lt {W : World} {g : Nat} {row : List Int} (h : RowZ W g row) : g < W.heap.size := (Array.getElem?_eq_some_iff.1 h).1
theorem RowZ.below {W W' : World} {g D : Nat} {row : List Int} (h : RowZ W g row) (hb : Below D W W') (hD : g < D) : RowZ W' g row := (hb.block g hD).trans h
theorem RowZ.alloc {W : World} {g : Nat} {row : List Int} (h : RowZ W g row) (o : Obj) : RowZ (W.alloc o) g row := (Below.heap_alloc _ _ _ h.lt).trans h
theorem RowZ.other {W : World} {g b : Nat} {row : List Int} (h : RowZ W g row) (hne : g ≠ b) (o : Nat) (u : Value) : RowZ (W.setCell ⟨b, o, none⟩ u) g row := (Below.heap_setCell W ⟨b, o, none⟩ u g hne).trans h
theorem RowZ.set {W : World} {g : Nat} {row : List Int} (h : RowZ W g row) (j : Nat) (x : Int) : RowZ (W.setCell ⟨g, j, none⟩ (.int .i64 x)) g (row.set j x) := by
  show (W.setCell ⟨g, j, none⟩ (.int .i64 x)).heap[g]? = _
  simp [World.setCell, Array.getElem?_modify, h, List.map_set]
theorem RowZ.ints {W : World} {g n : Nat} {row : List Int} (h : RowZ W g row) (hn : row.length = n) (hm : n ≤ 1000000) : IntsAt W W.heap.size (some ⟨g, 0, none⟩) n row :=
  ⟨hn, by omega, fun _ => ⟨g, 0, rfl, h.lt, fun j hj => by rw [Nat.zero_add]; exact h.cell (by omega)⟩⟩
theorem infoI64 : (Try.prog.info? 2).map (fun i => (i.zero, i.size, i.bytes)) = some (some (.int .i64 0), 1, 8) := by kernel_rfl
theorem made_row {W : World} {N : Nat} (hN : N ≤ 1000000) : (Instr.makeSlice 77 (.int .i64 (N : Int)) (.int .i64 (N : Int))).run Try.prog W = .ok (.slice (some ⟨W.heap.size, 0, none⟩) N N) (W.alloc (.cells ((List.replicate N (0 : Int)).map (Value.int .i64)).toArray 2)) := by
  obtain ⟨i0, hi, hz0, hz1, hz2⟩ := info_parts infoI64
  have h := run_makeSlice (P := Try.prog) (w := W) 77 2 i0 (.int .i64 0) Try.underlying77 hi hz0 .i64 .i64 N N (by omega) (by omega) (by rw [hz1]; simp; omega) (by rw [hz2]; omega) (by omega)
  have e : madeCells (Value.int .i64 0).cells ((N : Int).toNat * i0.size) = ((List.replicate N (0 : Int)).map (Value.int .i64)).toArray := by
    rw [hz1]
    unfold madeCells
    apply Array.ext
    · simp
    · intro i h1 h2
      simp [Value.cells, Nat.mod_one]
  rw [e] at h
  exact h

/-! ### least sums -/
def sumAt (xs tab : List Int) (t p : Nat) : Int := xs[p - 1]?.getD 0 + tab[t - p]?.getD 0
def nextSum (xs tab : List Int) (t : Nat) : Int := (bestO (fun p : Part 1 (min xs.length t) => sumAt xs tab t p.1) ltI (partsS 1 (min xs.length t))).getD 0
/-- The least sums for 0, 1, .., k turns. -/
def sumsT (xs : List Int) : Nat → List Int
  | 0 => [0]
  | k + 1 => sumsT xs k ++ [nextSum xs (sumsT xs k) (k + 1)]
theorem sumsT_len (xs : List Int) : ∀ k, (sumsT xs k).length = k + 1
  | 0 => rfl
  | k + 1 => by rw [sumsT, List.length_append, sumsT_len xs k]; rfl
def Nums (xs : List Int) : Prop := 1 ≤ xs.length ∧ xs.length ≤ 1000 ∧ ∀ j, j < xs.length → 0 ≤ xs[j]?.getD 0 ∧ xs[j]?.getD 0 ≤ 10000
theorem sumAt_bound {xs : List Int} (hx : Nums xs) {tab : List Int} {t : Nat} (h : ∀ j, j < t → 0 ≤ tab[j]?.getD 0 ∧ tab[j]?.getD 0 ≤ 10000 * j) {p : Nat} (h1 : 1 ≤ p) (h2 : p ≤ min xs.length t) :
    0 ≤ sumAt xs tab t p ∧ sumAt xs tab t p ≤ 10000 * t := by
  have a := hx.2.2 (p - 1) (by omega)
  have b := h (t - p) (by omega)
  unfold sumAt
  omega
theorem nextSum_mem {xs : List Int} (hx : Nums xs) (tab : List Int) {t : Nat} (ht : 1 ≤ t) : ∃ p, 1 ≤ p ∧ p ≤ min xs.length t ∧ nextSum xs tab t = sumAt xs tab t p := by
  have hne : partsS 1 (min xs.length t) ≠ [] := by
    intro e
    have h0 := partsS_len 1 (min xs.length t)
    rw [e, List.length_nil] at h0
    have := hx.1
    omega
  obtain ⟨v, hv⟩ := bestO_some (fun p : Part 1 (min xs.length t) => sumAt xs tab t p.1) ltI _ none (.inl hne)
  rcases bestO_mem _ _ _ _ _ hv with h | ⟨p, -, hp⟩
  · cases h
  · have hm := parts_mem.1 p.2
    exact ⟨p.1, hm.1, hm.2, by unfold nextSum bestO; rw [hv]; exact hp⟩
theorem sumsT_bound {xs : List Int} (hx : Nums xs) : ∀ (k j : Nat), j ≤ k → 0 ≤ (sumsT xs k)[j]?.getD 0 ∧ (sumsT xs k)[j]?.getD 0 ≤ 10000 * j
  | 0, j, hj => by
    have : j = 0 := by omega
    subst this
    simp [sumsT]
  | k + 1, j, hj => by
    rw [sumsT]
    by_cases h : j ≤ k
    · rw [List.getElem?_append_left (by rw [sumsT_len]; omega)]
      exact sumsT_bound hx k j h
    · have : j = k + 1 := by omega
      subst this
      rw [List.getElem?_append_right (by rw [sumsT_len]; omega), sumsT_len]
      simp only [Nat.sub_self, List.getElem?_cons_zero, Option.getD_some]
      obtain ⟨p, h1, h2, e⟩ := nextSum_mem hx (sumsT xs k) (t := k + 1) (by omega)
      rw [e]
      exact sumAt_bound hx (fun j hj => sumsT_bound hx k j (by omega)) h1 h2
/-- The row in memory: what is known so far, and zeros. -/
def sumsRow (xs : List Int) (k last : Nat) : List Int := sumsT xs k ++ List.replicate (last - k) 0
theorem sumsRow_len {xs : List Int} {k last : Nat} (h : k ≤ last) : (sumsRow xs k last).length = last + 1 := by
  unfold sumsRow
  rw [List.length_append, sumsT_len, List.length_replicate]
  omega
theorem sumsRow_get {xs : List Int} {k last j : Nat} (h : j ≤ k) : (sumsRow xs k last)[j]?.getD 0 = (sumsT xs k)[j]?.getD 0 := by
  unfold sumsRow
  rw [List.getElem?_append_left (by rw [sumsT_len]; omega)]
theorem sumsRow_set {xs : List Int} {k last : Nat} (h : k < last) : (sumsRow xs k last).set (k + 1) (nextSum xs (sumsT xs k) (k + 1)) = sumsRow xs (k + 1) last := by
  unfold sumsRow
  rw [List.set_append_right _ _ (by rw [sumsT_len]; omega), sumsT_len, Nat.sub_self, sumsT, List.append_assoc]
  obtain ⟨m, hm⟩ : ∃ m, last - k = m + 1 := ⟨last - k - 1, by omega⟩
  rw [hm, show last - (k + 1) = m by omega, List.replicate_succ]
  rfl
theorem sumsRow_zero (xs : List Int) (last : Nat) : sumsRow xs 0 last = List.replicate (last + 1) 0 := by
  simp [sumsRow, sumsT, List.replicate_succ]
theorem sumsRow_last (xs : List Int) (last : Nat) : sumsRow xs last last = sumsT xs last := by simp [sumsRow]

set_option maxHeartbeats 1000000 in
theorem sum1_any (w : World) (b1 b2 B B' : Nat) (A A' : Option Addr) (n c n' c' : Nat) (xs row : List Int) (p k r : Nat) (h1 : Boxed w b1 22 (.slice A n c)) (h2 : Boxed w b2 77 (.slice A' n' c'))
    (hx : IntsAt w B A n xs) (hr : IntsAt w B' A' n' row) (hB : B ≤ w.heap.size) (hB' : B' ≤ w.heap.size) (hn : n ≤ 1000000) (hp : p = k + 1) (hk : k < n) (hrr : r < n') (_hn' : n' ≤ 1000000)
    (hv : 0 ≤ xs[k]?.getD 0 + row[r]?.getD 0 ∧ xs[k]?.getD 0 + row[r]?.getD 0 ≤ 1000000000000) :
    Calls Try.prog 112 #[cutV ((p : Int), (r : Int)), .pointer (some ⟨b1, 0, none⟩), .pointer (some ⟨b2, 0, none⟩)] w fun e W' => e = .returned (encI (xs[p - 1]?.getD 0 + row[r]?.getD 0)) ∧ Below w.heap.size w W' := by
  obtain ⟨b3, o3, rfl, l3, e3⟩ := hx.cell hk
  obtain ⟨b4, o4, rfl, l4, e4⟩ := hr.cell hrr
  have l3' : b3 < w.heap.size := by omega
  have l4' : b4 < w.heap.size := by omega
  have c1 := h1.cell
  have c2 := h2.cell
  have l1 := h1.lt
  have l2 := h2.lt
  have hpp : p - 1 = k := by omega
  rw [hpp]
  have e5 : IntKind.i64.wrap ((p : Int) - 1) = (k : Int) := by rw [IntKind.wrap_i64]; omega
  have e6 : IntKind.i64.wrap (xs[k]?.getD 0 + row[r]?.getD 0) = xs[k]?.getD 0 + row[r]?.getD 0 := by rw [IntKind.wrap_i64]; omega
  obtain ⟨x, hxe⟩ : ∃ x, x = xs[k]?.getD 0 := ⟨_, rfl⟩
  obtain ⟨y, hye⟩ : ∃ y, y = row[r]?.getD 0 := ⟨_, rfl⟩
  rw [← hxe] at e3 e6 ⊢
  rw [← hye] at e4 e6 ⊢
  clear hxe hye hv hp hpp h1 h2 hx hr
  unfold cutV encI
  go_enter Try.func112, Try.ntmps112
  go_wp2
  go_quiet (fail)
  go_wp2
  go_ret
  exact ⟨by simp, ((Below.refl _ w).alloc (Nat.le_refl _) _).trans (below_drewN _ _)⟩

set_option maxRecDepth 100000 in
set_option maxHeartbeats 8000000 in
theorem leastSums_any (w : World) (B : Nat) (A : Option Addr) (n c last : Nat) (xs : List Int) (hx : IntsAt w B A n xs) (hB : B ≤ w.heap.size) (hv : Nums xs) (hl : last ≤ 1000) :
    Calls Try.prog 92 #[.slice A n c, .int .i64 (last : Int)] w fun e w' => ∃ g, w.heap.size ≤ g ∧ e = .returned (.slice (some ⟨g, 0, none⟩) (last + 1) (last + 1)) ∧ RowZ w' g (sumsT xs last) ∧ Below w.heap.size w w' := by
  have hn := hx.len
  have hn1 := hv.1
  have hn2 := hv.2.1
  have hmks : ∀ W : World, (Instr.makeSlice 77 (.int .i64 ((last : Int) + 1)) (.int .i64 ((last : Int) + 1))).run Try.prog W = .ok (.slice (some ⟨W.heap.size, 0, none⟩) (last + 1) (last + 1)) (W.alloc (.cells ((List.replicate (last + 1) (0 : Int)).map (Value.int .i64)).toArray 2)) := fun W => by
    have := made_row (W := W) (N := last + 1) (by omega)
    rwa [show ((last + 1 : Nat) : Int) = (last : Int) + 1 by simp] at this
  obtain ⟨mc, hmc⟩ : ∃ mc, mc = ((List.replicate (last + 1) (0 : Int)).map (Value.int .i64)).toArray := ⟨_, rfl⟩
  rw [← hmc] at hmks
  obtain ⟨V, hV⟩ : ∃ V, V = ((w.alloc (.cells #[.slice A n c] 22)).alloc (.cells mc 2)).alloc (.cells #[.slice (some ⟨w.heap.size + 1, 0, none⟩) (last + 1) (last + 1)] 77) := ⟨_, rfl⟩
  have hb0 : Below w.heap.size w V := by rw [hV]; exact (((Below.refl _ w).alloc (Nat.le_refl _) _).alloc (by simp) _).alloc (by simp; omega) _
  have x2 : Boxed V w.heap.size 22 (.slice A n c) := by rw [hV]; exact ((Boxed.new w 22 (.slice A n c)).alloc _).alloc _
  have x5 : Boxed V (w.heap.size + 1 + 1) 77 (.slice (some ⟨w.heap.size + 1, 0, none⟩) (last + 1) (last + 1)) := by
    rw [hV]
    have := Boxed.new ((w.alloc (.cells #[.slice A n c] 22)).alloc (.cells mc 2)) 77 (.slice (some ⟨w.heap.size + 1, 0, none⟩) (last + 1) (last + 1))
    simpa using this
  have xr : RowZ V (w.heap.size + 1) (sumsRow xs 0 last) := by
    rw [hV, sumsRow_zero]
    have := (World.alloc_heap_new (w.alloc (.cells #[.slice A n c] 22)) (.cells mc 2))
    rw [World.size_alloc] at this
    rw [RowZ, Below.heap_alloc _ _ _ (by simp), this, hmc]
  have hwl : IntKind.i64.wrap ((last : Int) + 1) = (last : Int) + 1 := by rw [IntKind.wrap_i64]; omega
  have Hm := Lib.hid hmc
  clear hmc
  go_enter Try.func92, Try.ntmps92
  go_wp2_with (fail)
  rw [← hV]
  clear hV hmks hwl
  have hn3 : n ≤ 1000 := by omega
  have Hv := Lib.hid hv
  have Hn := Lib.hid hn
  clear hv hn
  go_loopw [6] (fun i wr => ∃ t : Nat, (1 ≤ t ∧ t ≤ last + 1) ∧ i = .int .i64 (t : Int) ∧ Boxed wr w.heap.size 22 (.slice A n c) ∧ Boxed wr (w.heap.size + 1 + 1) 77 (.slice (some ⟨w.heap.size + 1, 0, none⟩) (last + 1) (last + 1)) ∧ RowZ wr (w.heap.size + 1) (sumsRow xs (t - 1) last) ∧ Below w.heap.size w wr) (fun i _ => last + 1 - (intOf i).toNat)
  case atStart => exact ⟨1, ⟨by omega, by omega⟩, rfl, x2, x5, xr, hb0⟩
  case round =>
    clear x2 x5 xr hb0
    obtain ⟨t, ⟨ht1, ht2⟩, rfl, y2, y5, yr, hb⟩ := hrel
    have c2 := y2.cell
    have c5 := y5.cell
    have l2 := y2.lt
    have l5 := y5.lt
    have lr := yr.lt
    by_cases hlt : t ≤ last
    case neg =>
      have hnl : ¬ (t : Int) ≤ (last : Int) := by omega
      have htl : t - 1 = last := by omega
      rw [htl, sumsRow_last] at yr
      clear htl
      go_wp2_with (fail)
      refine bodyPost_ret (results_tmp rfl _ _ _) rfl ?_
      exact ⟨w.heap.size + 1, by omega, rfl, yr, hb⟩
    case pos =>
      have hle : (t : Int) ≤ (last : Int) := by omega
      have hwt : IntKind.i64.wrap ((t : Int) + 1) = (t : Int) + 1 := by rw [IntKind.wrap_i64]; omega
      have d2 : ∀ W, Below wr.heap.size wr.drew W → W.cell? ⟨w.heap.size, 0, none⟩ = some (.slice A n c) := fun W h => (h.cell (p := ⟨w.heap.size, 0, none⟩) l2).trans c2
      have d5 : ∀ W, Below wr.heap.size wr.drew W → W.cell? ⟨w.heap.size + 1 + 1, 0, none⟩ = some (.slice (some ⟨w.heap.size + 1, 0, none⟩) (last + 1) (last + 1)) := fun W h => (h.cell (p := ⟨w.heap.size + 1 + 1, 0, none⟩) l5).trans c5
      go_wp2_with (fail)
      refine region_held_wp 1 (fun W' => Below wr.heap.size wr.drew W') (fun j => decide (j ≤ 7)) (by kernel_rfl) ?_
      intro KR hKR
      have hS : Below wr.heap.size wr.drew wr.drew := Below.refl _ _
      refine wpAnyHI_takeE (i := 1) (v := .int .i64 (t : Int)) (some 16) rfl rfl (by kernel_rfl) (by kernel_rfl) (by kernel_rfl) (by kernel_rfl) (by kernel_rfl) (fun _ _ _ h => h) hS (.inl ⟨by kernel_rfl, fun W' hS' => ?_⟩) ?_
      · go_simp
      refine wpAnyHI_takeE (i := 2) (v := .int .i64 (t : Int)) (some 17) rfl rfl (by kernel_rfl) (by kernel_rfl) (by kernel_rfl) (by kernel_rfl) (by kernel_rfl) (fun _ _ _ h => h) hS (.inl ⟨by kernel_rfl, fun W' hS' => ?_⟩) ?_
      · go_simp
      refine wpAnyHI_takeE (i := 6) (v := .func (.func 112) #[] #[.pointer (some ⟨w.heap.size, 0, none⟩), .pointer (some ⟨w.heap.size + 1 + 1, 0, none⟩)]) (some 21) rfl rfl (by kernel_rfl) (by kernel_rfl) (by kernel_rfl) (by kernel_rfl) (by kernel_rfl) (fun _ _ _ h => h) hS (.inl ⟨by kernel_rfl, fun W' hS' => ?_⟩) ?_
      · go_simp
      refine wpAnyHI_takeE (i := 0) (v := .slice (some ⟨w.heap.size + 1, 0, none⟩) (last + 1) (last + 1)) (some 15) rfl rfl (by kernel_rfl) (by kernel_rfl) (by kernel_rfl) (by kernel_rfl) (by kernel_rfl) (fun _ _ _ h => h) hS (.inl ⟨by kernel_rfl, fun W' hS' => ?_⟩) ?_
      · have q := d5 W' hS'; go_simp
      refine wpAnyHI_takeE (i := 3) (v := .slice A n c) (some 18) rfl rfl (by kernel_rfl) (by kernel_rfl) (by kernel_rfl) (by kernel_rfl) (by kernel_rfl) (fun _ _ _ h => h) hS (.inl ⟨by kernel_rfl, fun W' hS' => ?_⟩) ?_
      · have q := d2 W' hS'; go_simp
      refine wpAnyHI_takeE (i := 4) (v := .int .i64 (n : Int)) (some 19) rfl rfl (by kernel_rfl) (by kernel_rfl) (by kernel_rfl) (by kernel_rfl) (by kernel_rfl) (fun _ _ _ h => h) hS (.inl ⟨by kernel_rfl, fun W' hS' => ?_⟩) ?_
      · go_simp
      refine wpAnyHI_one (i := 5) rfl (by kernel_rfl) ?_
      intro K1 hK1
      go_simp
      refine ⟨trivial, (callsIn_wide.2 (cuts_box (t : Int) 1 (n : Int) _)).mono ?_⟩
      rintro e W1 ⟨bl, bh, bt, rfl, hbl, hbh, hbt, hb1⟩
      have hS1 : Below wr.heap.size wr.drew W1 := hb1
      refine hK1 _ _ ⟨fun _ => hS1, ?_⟩
      clear hK1 K1
      have hB1 : Below w.heap.size w W1 := (hb.trans (below_drew wr)).trans (hb1.mono hb.size)
      have hz1 := hb1.size
      have z2 := bxBelow (bxDrew y2) hb1 y2.lt
      have z5 := bxBelow (bxDrew y5) hb1 y5.lt
      have zr : RowZ W1 (w.heap.size + 1) (sumsRow xs (t - 1) last) := RowZ.below (show RowZ wr.drew (w.heap.size + 1) _ from yr) hb1 yr.lt
      have hM : min xs.length t = min n t := by rw [Hn.out]
      have hmn : min n t ≤ n ∧ min n t ≤ t := ⟨Nat.min_le_left .., Nat.min_le_right ..⟩
      obtain ⟨M, hMe⟩ : ∃ M, M = min n t := ⟨_, rfl⟩
      have hit := cuts1_any W1 bl bh bt W1.heap.size 1 n t (by simpa using hbl) hbh hbt (Nat.le_refl _) (by omega) (by omega) (by omega) M hMe
      have hval : ValFn W1 112 #[] #[.pointer (some ⟨w.heap.size, 0, none⟩), .pointer (some ⟨w.heap.size + 1 + 1, 0, none⟩)] (fun x : Part 1 M => cutV ((x.1 : Int), (t : Int) - (x.1 : Int))) encI (fun x => sumAt xs (sumsT xs (t - 1)) t x.1) := by
        refine ⟨enters_of Try.func112 (by kernel_rfl) rfl, fun W x hW => ?_⟩
        have hm := parts_mem.1 x.2
        obtain ⟨q, hq⟩ : ∃ q, x.1 = q + 1 := ⟨x.1 - 1, by omega⟩
        have hrt : (t : Int) - (x.1 : Int) = ((t - x.1 : Nat) : Int) := by omega
        have hW1 := hB1.size
        have hget : (sumsRow xs (t - 1) last)[t - x.1]?.getD 0 = (sumsT xs (t - 1))[t - x.1]?.getD 0 := sumsRow_get (by omega)
        have hbd := sumAt_bound Hv.out (tab := sumsT xs (t - 1)) (t := t) (fun j hj => sumsT_bound Hv.out (t - 1) j (by omega)) (p := x.1) hm.1 (by rw [hM]; omega)
        have hq1 : x.1 - 1 = q := by omega
        have key := sum1_any W w.heap.size (w.heap.size + 1 + 1) B W.heap.size A (some ⟨w.heap.size + 1, 0, none⟩) n c (last + 1) (last + 1) xs (sumsRow xs (t - 1) last) x.1 q (t - x.1) (bxBelow z2 hW z2.lt) (bxBelow z5 hW z5.lt)
          ((hx.below hB1 hB).below hW (by omega)) ((zr.below hW zr.lt).ints (sumsRow_len (by omega)) (by omega)) (by have := hW.size; omega) (Nat.le_refl _) (by omega) hq (by omega) (by omega) (by omega)
          (by rw [hget, ← hq1]; unfold sumAt at hbd; omega)
        rw [hget, ← hrt] at key
        exact key
      refine wpAnyHI_one (i := 7) rfl (by kernel_rfl) ?_
      intro K1 hK1
      go_simp
      refine ⟨trivial, (callsIn_wide.2 (bestCut_any W1 113 _ (fun x : Part 1 M => ((x.1 : Int), (t : Int) - (x.1 : Int))) _ _ _ _ _ _ _ _ _ ltI (enters_of Try.func113 (by kernel_rfl) rfl) hit (by
        rintro k ((rfl | rfl) | rfl)
        · exact hbl.lt
        · exact hbh.lt
        · exact hbt.lt) hval less_fn)).mono ?_⟩
      rintro e W2 ⟨rfl, hb2⟩
      have hS2 : Below wr.heap.size wr.drew W2 := hb1.trans (hb2.mono hz1)
      refine hK1 _ _ ⟨fun _ => hS2, ?_⟩
      clear hK1 K1 hit hval
      have hB2 : Below w.heap.size w W2 := hB1.trans (hb2.mono hB1.size)
      have v2 := bxBelow z2 hb2 z2.lt
      have v5 := bxBelow z5 hb2 z5.lt
      have vr := zr.below hb2 zr.lt
      have hnx : bestV (bestO (fun x : Part 1 M => sumAt xs (sumsT xs (t - 1)) t x.1) ltI (partsS 1 M)) = .int .i64 (nextSum xs (sumsT xs (t - 1)) t) := by
        rw [hMe, ← hM]; rfl
      rw [hnx]
      clear hnx z2 z5 zr hb1 hb2 hS hS1 hS2 hbl hbh hbt d2 d5 c2 c5 y2 y5 yr
      obtain ⟨nx, hnx⟩ : ∃ nx, nx = nextSum xs (sumsT xs (t - 1)) t := ⟨_, rfl⟩
      rw [← hnx]
      have hset := sumsRow_set (xs := xs) (k := t - 1) (last := last) (by omega)
      rw [show t - 1 + 1 = t by omega, ← hnx] at hset
      have Hset := Lib.hid hset
      clear hset hnx
      have k1 := vr.cell (j := t) (by rw [sumsRow_len (by omega)]; omega)
      have k2 := vr.frozen (j := t)
      refine wpAnyHI_takeW (i := 8) (v := .pointer (some ⟨w.heap.size + 1, t, none⟩)) (some 23) rfl rfl (by kernel_rfl) (by kernel_rfl) (by kernel_rfl) (by kernel_rfl) (fun _ _ _ h => h) (.inl ⟨by kernel_rfl, fun W' hS' => ?_⟩) ?_
      · go_simp; intro hx; exfalso; omega
      refine wpAnyHI_one (i := 9) rfl (by kernel_rfl) ?_
      intro K1 hK1
      go_simp
      refine hK1 _ _ ⟨fun h => absurd h (by simp), ?_⟩
      clear hK1 K1
      refine wpAnyHI_end (by kernel_rfl) ?_
      show KR _ _
      go_simp
      have u2 := bxOther v2 (b := w.heap.size + 1) (by omega) t (.int .i64 nx)
      have u5 := bxOther v5 (b := w.heap.size + 1) (by omega) t (.int .i64 nx)
      have ur := vr.set t nx
      have hBu : Below w.heap.size w (W2.setCell ⟨w.heap.size + 1, t, none⟩ (.int .i64 nx)) := hB2.setCell (p := ⟨w.heap.size + 1, t, none⟩) (by show w.heap.size ≤ w.heap.size + 1; omega) _
      rw [Hset.out] at ur
      refine hKR _ _ ?_
      clear k1 k2 v2 v5 vr hB2
      obtain ⟨W3, hW3⟩ : ∃ W3, W3 = W2.setCell ⟨w.heap.size + 1, t, none⟩ (.int .i64 nx) := ⟨_, rfl⟩
      rw [← hW3] at u2 u5 ur hBu ⊢
      clear hW3
      go_wp2_with (fail)
      go_roundw
      case rel => exact ⟨t + 1, ⟨by omega, by omega⟩, by go_num, u2, u5, by rw [show t + 1 - 1 = t by omega]; exact ur, hBu⟩
      case measure => simp [intOf]; omega
end Go.Proofs.Ytjidllaaokdjhaa
