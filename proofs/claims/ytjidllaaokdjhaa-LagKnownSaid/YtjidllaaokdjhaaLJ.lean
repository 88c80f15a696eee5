/- lag: sources. -/
import Derived.Test.YtjidllaaokdjhaaLI
import Derived.Laws.CopyRow
import Derived.Laws.CopyOwn
namespace Go.Proofs.Ytjidllaaokdjhaa
open Go.RowKit Go.Shelf

attribute [local go_sem] Oper.semAt_some

@[reducible] def srcC (A : Option Addr) (n c : Nat) (q : Nat → Int) : Array Value := #[.slice A n c, .int .i64 (q 0), .int .i64 (q 1), .int .i64 (q 2), .int .i64 (q 3), .int .i64 (q 4), .int .i64 (q 5), .int .i64 (q 6)]
@[reducible] def srcV (A : Option Addr) (n c : Nat) (q : Nat → Int) : Value := .agg (srcC A n c q)
abbrev SrcAt (W : World) (b : Nat) (A : Option Addr) (n c : Nat) (q : Nat → Int) : Prop := W.heap[b]? = some (.cells (srcC A n c q) 81 (0, 0))
section
variable {W W' : World} {b : Nat} {A : Option Addr} {n c : Nat} {q : Nat → Int}
theorem SrcAt.lt (h : SrcAt W b A n c q) : b < W.heap.size := (Array.getElem?_eq_some_iff.1 h).1
theorem SrcAt.cells (h : SrcAt W b A n c q) : W.cell? ⟨b, 0, none⟩ = some (.slice A n c) ∧ W.cell? ⟨b, 1, none⟩ = some (.int .i64 (q 0)) ∧ W.cell? ⟨b, 2, none⟩ = some (.int .i64 (q 1)) ∧ W.cell? ⟨b, 3, none⟩ = some (.int .i64 (q 2)) ∧ W.cell? ⟨b, 4, none⟩ = some (.int .i64 (q 3)) ∧ W.cell? ⟨b, 5, none⟩ = some (.int .i64 (q 4)) ∧ W.cell? ⟨b, 6, none⟩ = some (.int .i64 (q 5)) ∧ W.cell? ⟨b, 7, none⟩ = some (.int .i64 (q 6)) := by
  simp [World.cell?, h]
theorem SrcAt.frozen (h : SrcAt W b A n c q) (i : Nat) : W.frozen? ⟨b, i, none⟩ = false := by simp [World.frozen?, h]
theorem SrcAt.frozens (h : SrcAt W b A n c q) : W.frozen? ⟨b, 0, none⟩ = false ∧ W.frozen? ⟨b, 1, none⟩ = false ∧ W.frozen? ⟨b, 2, none⟩ = false ∧ W.frozen? ⟨b, 3, none⟩ = false ∧ W.frozen? ⟨b, 4, none⟩ = false ∧ W.frozen? ⟨b, 5, none⟩ = false ∧ W.frozen? ⟨b, 6, none⟩ = false ∧ W.frozen? ⟨b, 7, none⟩ = false := ⟨h.frozen 0, h.frozen 1, h.frozen 2, h.frozen 3, h.frozen 4, h.frozen 5, h.frozen 6, h.frozen 7⟩
theorem SrcAt.new (W : World) (A : Option Addr) (n c : Nat) (q : Nat → Int) : SrcAt (W.alloc (.cells (srcC A n c q) 81)) W.heap.size A n c q := World.alloc_heap_new W _
theorem SrcAt.alloc (h : SrcAt W b A n c q) (o : Obj) : SrcAt (W.alloc o) b A n c q := (Below.heap_alloc _ _ _ h.lt).trans h
theorem SrcAt.below {D : Nat} (h : SrcAt W b A n c q) (hb : Below D W W') (hD : b < D) : SrcAt W' b A n c q := (hb.block b hD).trans h
theorem SrcAt.get (h : SrcAt W b A n c q) {i : Nat} (hi : i < 7) : W.cell? ⟨b, 1 + i, none⟩ = some (.int .i64 (q i)) := by
  have : i = 0 ∨ i = 1 ∨ i = 2 ∨ i = 3 ∨ i = 4 ∨ i = 5 ∨ i = 6 := by omega
  rcases this with rfl | rfl | rfl | rfl | rfl | rfl | rfl <;> simp [World.cell?, h]
end
/-- Eight cells of a block are stored. -/
@[reducible] def st8 (W : World) (b : Nat) (x0 x1 x2 x3 x4 x5 x6 x7 : Value) : World := ((((((((W).setCell ⟨b, 0, none⟩ x0).setCell ⟨b, 1, none⟩ x1).setCell ⟨b, 2, none⟩ x2).setCell ⟨b, 3, none⟩ x3).setCell ⟨b, 4, none⟩ x4).setCell ⟨b, 5, none⟩ x5).setCell ⟨b, 6, none⟩ x6).setCell ⟨b, 7, none⟩ x7
theorem st8_below {w0 W : World} {b D : Nat} {x0 x1 x2 x3 x4 x5 x6 x7 : Value} (hb : Below D w0 W) (hD : D ≤ b) : Below D w0 (st8 W b x0 x1 x2 x3 x4 x5 x6 x7) :=
  (((((((hb.setCell hD _).setCell hD _).setCell hD _).setCell hD _).setCell hD _).setCell hD _).setCell hD _).setCell hD _
theorem SrcAt.st8 {W : World} {b : Nat} {A A' : Option Addr} {n c n' c' : Nat} {q q' : Nat → Int} (h : SrcAt W b A' n' c' q') : SrcAt (st8 W b (.slice A n c) (.int .i64 (q 0)) (.int .i64 (q 1)) (.int .i64 (q 2)) (.int .i64 (q 3)) (.int .i64 (q 4)) (.int .i64 (q 5)) (.int .i64 (q 6))) b A n c q := by
  show (World.heap _)[b]? = _
  simp [World.setCell, Array.getElem?_modify, h]
theorem seven {l : List Int} (h : l.length = 7) : l = [l[0]?.getD 0, l[1]?.getD 0, l[2]?.getD 0, l[3]?.getD 0, l[4]?.getD 0, l[5]?.getD 0, l[6]?.getD 0] := by
  match l, h with
  | [_, _, _, _, _, _, _], _ => rfl
/-- The most for 0, 1, .., 6 turns. -/
def fewQ (xs : List Int) (i : Nat) : Int := (sumsT xs 6)[i]?.getD 0
theorem few_list (xs : List Int) : sumsT xs 6 = [fewQ xs 0, fewQ xs 1, fewQ xs 2, fewQ xs 3, fewQ xs 4, fewQ xs 5, fewQ xs 6] := seven (sumsT_len xs 6)
theorem sourceOf_results (W : World) (tmps : Array Value) (b : Nat) (A : Option Addr) (n c : Nat) (q : Nat → Int) (h : SrcAt W b A n c q) (t : tmps.getD 2 undef = .pointer (some ⟨b, 0, none⟩)) :
    (results Try.f63 tmps).run Try.prog W = .ok (srcV A n c q) W := by
  obtain ⟨c0, c1, c2, c3, c4, c5, c6, c7⟩ := h.cells
  simp only [Array.getD_eq_getD_getElem?] at t
  simp [results, Try.results63, go_sem, t, c0, c1, c2, c3, c4, c5, c6, c7]
set_option maxRecDepth 100000 in
set_option maxHeartbeats 8000000 in
theorem sourceOf_any (w : World) (B : Nat) (A : Option Addr) (n c : Nat) (xs : List Int) (hx : IntsAt w B A n xs) (hB : B ≤ w.heap.size) (hv : Nums xs) :
    Calls Try.prog 63 #[.slice A n c] w fun e w' => e = .returned (srcV A n c (fewQ xs)) ∧ Below w.heap.size w w' := by
  have hsz : (Try.prog.info? 2).map (·.size) = some 1 := by kernel_rfl
  obtain ⟨V, hV⟩ : ∃ V, V = (w.alloc (.cells #[.slice none 0 0, .int .i64 0, .int .i64 0, .int .i64 0, .int .i64 0, .int .i64 0, .int .i64 0, .int .i64 0] 81)).alloc (.cells #[.slice A n c, .int .i64 0, .int .i64 0, .int .i64 0, .int .i64 0, .int .i64 0, .int .i64 0, .int .i64 0] 81) := ⟨_, rfl⟩
  have hb0 : Below w.heap.size w V := by rw [hV]; exact ((Below.refl _ w).alloc (Nat.le_refl _) _).alloc (by simp) _
  have x2 : SrcAt V w.heap.size none 0 0 (fun _ => 0) := by rw [hV]; exact (SrcAt.new w none 0 0 (fun _ => 0)).alloc _
  have x3 : SrcAt V (w.heap.size + 1) A n c (fun _ => 0) := by
    rw [hV]
    have := SrcAt.new (w.alloc (.cells #[.slice none 0 0, .int .i64 0, .int .i64 0, .int .i64 0, .int .i64 0, .int .i64 0, .int .i64 0, .int .i64 0] 81)) A n c (fun _ => 0)
    simpa using this
  have Hsz := Lib.hid hsz
  have Hv := Lib.hid hv
  obtain ⟨q, hq⟩ : ∃ q, q = fewQ xs := ⟨_, rfl⟩
  rw [← hq]
  have Hq := Lib.hid hq
  clear hsz hv hq
  go_enter Try.func63, Try.ntmps63
  go_wp2_with (fail)
  rw [← hV]
  clear hV
  refine region_held_wp 1 (fun _ => True) (fun _ => false) (by kernel_rfl) ?_
  intro KR hKR
  refine wpAnyHI_takeW (i := 0) (v := .pointer (some ⟨w.heap.size + 1, 1, none⟩)) (some 6) rfl rfl (by kernel_rfl) (by kernel_rfl) (by kernel_rfl) (by kernel_rfl) (fun _ _ _ h => h) (.inl ⟨by kernel_rfl, fun W' hS' => ?_⟩) ?_
  · go_simp
  refine wpAnyHI_takeW (i := 1) (v := .slice (some ⟨w.heap.size + 1, 1, none⟩) 7 7) (some 7) rfl rfl (by kernel_rfl) (by kernel_rfl) (by kernel_rfl) (by kernel_rfl) (fun _ _ _ h => h) (.inl ⟨by kernel_rfl, fun W' hS' => ?_⟩) ?_
  · go_simp
  refine wpAnyHI_takeW (i := 2) (v := .slice A n c) (some 8) rfl rfl (by kernel_rfl) (by kernel_rfl) (by kernel_rfl) (by kernel_rfl) (fun _ _ _ h => h) (.inl ⟨by kernel_rfl, fun W' hS' => ?_⟩) ?_
  · go_simp
  refine wpAnyHI_one (i := 3) rfl (by kernel_rfl) ?_
  intro K1 hK1
  have hbV : Below w.heap.size w V.drew := hb0.trans (below_drew V)
  have key : Calls Try.prog 92 #[.slice A n c, .int .i64 6] V.drew fun e w' => ∃ g, V.drew.heap.size ≤ g ∧ e = .returned (.slice (some ⟨g, 0, none⟩) 7 7) ∧ RowZ w' g (sumsT xs 6) ∧ Below V.drew.heap.size V.drew w' :=
    leastSums_any V.drew B A n c 6 xs (hx.below hbV hB) (by have := hbV.size; omega) Hv.out (by omega)
  go_simp
  refine ⟨trivial, (callsIn_wide.2 key).mono ?_⟩
  rintro e W1 ⟨g, hg, rfl, hr, hb1⟩
  refine hK1 _ _ ⟨fun h => absurd h (by simp), ?_⟩
  clear hK1 K1 key
  have z2 : SrcAt W1 w.heap.size none 0 0 (fun _ => 0) := SrcAt.below (W := V.drew) x2 hb1 x2.lt
  have z3 : SrcAt W1 (w.heap.size + 1) A n c (fun _ => 0) := SrcAt.below (W := V.drew) x3 hb1 x3.lt
  have hB1 : Below w.heap.size w W1 := hbV.trans (hb1.mono hbV.size)
  have l3 : w.heap.size + 1 < g := Nat.lt_of_lt_of_le x3.lt hg
  rw [few_list, ← Hq.out] at hr
  clear x2 x3 hb0 hb1 hbV hg
  have hsrc : ∀ j v, [Value.int .i64 (q 0), Value.int .i64 (q 1), Value.int .i64 (q 2), Value.int .i64 (q 3), Value.int .i64 (q 4), Value.int .i64 (q 5), Value.int .i64 (q 6)][j]? = some v → W1.cell? ((⟨g, 0, none⟩ : Addr).add j) = some v := by
    intro j v hj
    have hj7 : j < 7 := (List.getElem?_eq_some_iff.1 hj).1
    have : j = 0 ∨ j = 1 ∨ j = 2 ∨ j = 3 ∨ j = 4 ∨ j = 5 ∨ j = 6 := by omega
    rcases this with rfl | rfl | rfl | rfl | rfl | rfl | rfl <;> (simp at hj; subst hj; simp [World.cell?, Addr.add, hr])
  have hcp := run_copy_row (P := Try.prog) W1 22 77 3 2 (w.heap.size + 1) 1 7 7 ⟨g, 0, none⟩ 7 7 (srcC A n c (fun _ => 0)) 81 [Value.int .i64 (q 0), Value.int .i64 (q 1), Value.int .i64 (q 2), Value.int .i64 (q 3), Value.int .i64 (q 4), Value.int .i64 (q 5), Value.int .i64 (q 6)] Try.underlying22 Hsz.out z3 rfl hsrc (by simp) (by simp [Value.oneCell'])
  have hst := setRow_heap W1 (w.heap.size + 1) _ ((srcC A n c (fun _ => 0)).toList.take 1 ++ [Value.int .i64 (q 0), Value.int .i64 (q 1), Value.int .i64 (q 2), Value.int .i64 (q 3), Value.int .i64 (q 4), Value.int .i64 (q 5), Value.int .i64 (q 6)] ++ (srcC A n c (fun _ => 0)).toList.drop (1 + 7)).toArray _ _ z3
  have hB2 : Below w.heap.size w (W1.setRow (w.heap.size + 1) ((srcC A n c (fun _ => 0)).toList.take 1 ++ [Value.int .i64 (q 0), Value.int .i64 (q 1), Value.int .i64 (q 2), Value.int .i64 (q 3), Value.int .i64 (q 4), Value.int .i64 (q 5), Value.int .i64 (q 6)] ++ (srcC A n c (fun _ => 0)).toList.drop (1 + 7)).toArray) := below_setRow hB1 (by omega) _
  have u2 := (setRow_other W1 (w.heap.size + 1) w.heap.size ((srcC A n c (fun _ => 0)).toList.take 1 ++ [Value.int .i64 (q 0), Value.int .i64 (q 1), Value.int .i64 (q 2), Value.int .i64 (q 3), Value.int .i64 (q 4), Value.int .i64 (q 5), Value.int .i64 (q 6)] ++ (srcC A n c (fun _ => 0)).toList.drop (1 + 7)).toArray (by omega)).trans z2
  simp only [List.length_cons, List.length_nil, Nat.zero_add, Nat.reduceAdd] at hcp
  obtain ⟨W2, hW2⟩ : ∃ W2, W2 = W1.setRow (w.heap.size + 1) ((srcC A n c (fun _ => 0)).toList.take 1 ++ [Value.int .i64 (q 0), Value.int .i64 (q 1), Value.int .i64 (q 2), Value.int .i64 (q 3), Value.int .i64 (q 4), Value.int .i64 (q 5), Value.int .i64 (q 6)] ++ (srcC A n c (fun _ => 0)).toList.drop (1 + 7)).toArray := ⟨_, rfl⟩
  simp only [Nat.reduceAdd] at hW2 hst hB2 u2
  rw [← hW2] at hcp hst hB2 u2
  have u3 : SrcAt W2 (w.heap.size + 1) A n c q := hst
  clear hW2 hst hsrc hr z2 z3 hB1
  refine wpAnyHI_one (i := 4) rfl (by kernel_rfl) ?_
  intro K1 hK1
  go_simp
  refine hK1 _ _ ⟨fun h => absurd h (by simp), ?_⟩
  clear hK1 K1 hcp
  refine wpAnyHI_end (by kernel_rfl) ?_
  show KR _ _
  go_simp
  refine hKR _ _ ?_
  have u2' : SrcAt W2 w.heap.size none 0 0 (fun _ => 0) := u2
  have fin := u2'.st8 (A := A) (n := n) (c := c) (q := q)
  have hBf := st8_below (b := w.heap.size) (x0 := .slice A n c) (x1 := .int .i64 (q 0)) (x2 := .int .i64 (q 1)) (x3 := .int .i64 (q 2)) (x4 := .int .i64 (q 3)) (x5 := .int .i64 (q 4)) (x6 := .int .i64 (q 5)) (x7 := .int .i64 (q 6)) hB2 (Nat.le_refl _)
  obtain ⟨p0, p1, p2, p3, p4, p5, p6, p7⟩ := u3.cells
  obtain ⟨r0, r1, r2, r3, r4, r5, r6, r7⟩ := u2'.cells
  obtain ⟨f0, f1, f2, f3, f4, f5, f6, f7⟩ := u2'.frozens
  clear u2 u2' u3 hB2
  go_wp2_with (fail)
  exact bodyPost_ret (v := srcV A n c q) (sourceOf_results _ _ w.heap.size A n c q fin (by simp)) rfl ⟨rfl, hBf⟩

/-- The numbers of the most for 1, .., 6 turns. -/
def fewL (q : Nat → Int) : List Int := [q 1, q 2, q 3, q 4, q 5, q 6]
set_option maxRecDepth 100000 in
set_option maxHeartbeats 4000000 in
theorem most_any (w : World) (A : Option Addr) (n c last : Nat) (q : Nat → Int) (hv : Nums (fewL q)) (hl : last ≤ 1000) :
    Calls Try.prog 64 #[srcV A n c q, .int .i64 (last : Int)] w fun e w' => ∃ g, w.heap.size ≤ g ∧ e = .returned (.slice (some ⟨g, 0, none⟩) (last + 1) (last + 1)) ∧ RowZ w' g (sumsT (fewL q) last) ∧ Below w.heap.size w w' := by
  obtain ⟨V, hV⟩ : ∃ V, V = w.alloc (.cells (srcC A n c q) 81) := ⟨_, rfl⟩
  have hb0 : Below w.heap.size w V := by rw [hV]; exact (Below.refl _ w).alloc (Nat.le_refl _) _
  have x2 : SrcAt V w.heap.size A n c q := by rw [hV]; exact SrcAt.new w A n c q
  have Hv := Lib.hid hv
  clear hv
  go_enter Try.func64, Try.ntmps64
  go_wp2_with (fail)
  rw [← hV]
  clear hV
  have hi : IntsAt V (w.heap.size + 1) (some ⟨w.heap.size, 2, none⟩) 6 (fewL q) := ⟨rfl, by omega, fun _ => ⟨_, _, rfl, by omega, fun j hj => by
    have h := x2.get (i := 1 + j) (by omega)
    rw [show 2 + j = 1 + (1 + j) by omega, h]
    have : j = 0 ∨ j = 1 ∨ j = 2 ∨ j = 3 ∨ j = 4 ∨ j = 5 := by omega
    rcases this with rfl | rfl | rfl | rfl | rfl | rfl <;> rfl⟩⟩
  refine (leastSums_any V (w.heap.size + 1) _ 6 6 last (fewL q) hi (by have := x2.lt; omega) Hv.out hl).mono ?_
  rintro e W1 ⟨g, hg, rfl, hr, hb1⟩
  have hz := hb0.size
  have hB1 := hb0.trans (hb1.mono hz)
  clear hb1
  go_wp2_with (fail)
  refine bodyPost_ret (results_tmp rfl _ _ _) rfl ?_
  exact ⟨g, by omega, rfl, hr, hB1⟩
end Go.Proofs.Ytjidllaaokdjhaa
