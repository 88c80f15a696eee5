/- Parts of a proof: LJ LK LL LM LN. -/
import Derived.Test.YtlgibckhkdggdaaH3
import Derived.Laws.CopyRow
import Derived.Laws.CopyOwn

/- lag: sources. -/
namespace Go.Proofs.Ytlgibckhkdggdaa
open Go.RowKit Go.Shelf

attribute [local go_sem] Oper.semAt_some

@[reducible] def srcC (A : Option Addr) (n c : Nat) (q : Nat → Int) : Array Value := #[.slice A n c, .int .i64 (q 0), .int .i64 (q 1), .int .i64 (q 2), .int .i64 (q 3), .int .i64 (q 4), .int .i64 (q 5), .int .i64 (q 6)]
@[reducible] def srcV (A : Option Addr) (n c : Nat) (q : Nat → Int) : Value := .agg (srcC A n c q)
abbrev SrcAt (W : World) (b : Nat) (A : Option Addr) (n c : Nat) (q : Nat → Int) : Prop := W.heap[b]? = some (.cells (srcC A n c q) 81 (0, 0))
section
variable {W W' : World} {b : Nat} {A : Option Addr} {n c : Nat} {q : Nat → Int}
theorem SrcAt.lt (h : SrcAt W b A n c q) : b < W.heap.size := (Array.getElem?_eq_some_iff.1 h).1
theorem SrcAt.cells (h : SrcAt W b A n c q) : W.cell? ⟨b, 0, none⟩ = some (.slice A n c) ∧ W.cell? ⟨b, 1, none⟩ = some (.int .i64 (q 0)) ∧ W.cell? ⟨b, 2, none⟩ = some (.int .i64 (q 1)) ∧ W.cell? ⟨b, 3, none⟩ = some (.int .i64 (q 2)) ∧ W.cell? ⟨b, 4, none⟩ = some (.int .i64 (q 3)) ∧ W.cell? ⟨b, 5, none⟩ = some (.int .i64 (q 4)) ∧ W.cell? ⟨b, 6, none⟩ = some (.int .i64 (q 5)) ∧ W.cell? ⟨b, 7, none⟩ = some (.int .i64 (q 6)) := by
  simp [World.cell?, h]
theorem SrcAt.frozen (h : SrcAt W b A n c q) (i : Nat) : W.frozen? ⟨b, i, none⟩ = false := by simp [World.frozen?, h]
theorem SrcAt.frozens (h : SrcAt W b A n c q) : W.frozen? ⟨b, 0, none⟩ = false ∧ W.frozen? ⟨b, 1, none⟩ = false ∧ W.frozen? ⟨b, 2, none⟩ = false ∧ W.frozen? ⟨b, 3, none⟩ = false ∧ W.frozen? ⟨b, 4, none⟩ = false ∧ W.frozen? ⟨b, 5, none⟩ = false ∧ W.frozen? ⟨b, 6, none⟩ = false ∧ W.frozen? ⟨b, 7, none⟩ = false := ⟨h.frozen 0, h.frozen 1, h.frozen 2, h.frozen 3, h.frozen 4, h.frozen 5, h.frozen 6, h.frozen 7⟩
theorem SrcAt.new (W : World) (A : Option Addr) (n c : Nat) (q : Nat → Int) : SrcAt (W.alloc (.cells (srcC A n c q) 81)) W.heap.size A n c q := World.alloc_heap_new W _
theorem SrcAt.alloc (h : SrcAt W b A n c q) (o : Obj) : SrcAt (W.alloc o) b A n c q := (Below.heap_alloc _ _ _ h.lt).trans h
theorem SrcAt.below {D : Nat} (h : SrcAt W b A n c q) (hb : Below D W W') (hD : b < D) : SrcAt W' b A n c q := (hb.block b hD).trans h
theorem SrcAt.get (h : SrcAt W b A n c q) {i : Nat} (hi : i < 7) : W.cell? ⟨b, 1 + i, none⟩ = some (.int .i64 (q i)) := by
  have : i = 0 ∨ i = 1 ∨ i = 2 ∨ i = 3 ∨ i = 4 ∨ i = 5 ∨ i = 6 := by omega
  rcases this with rfl | rfl | rfl | rfl | rfl | rfl | rfl <;> simp [World.cell?, h]
end
/-- Eight cells of a block are stored. -/
@[reducible] def st8 (W : World) (b : Nat) (x0 x1 x2 x3 x4 x5 x6 x7 : Value) : World := ((((((((W).setCell ⟨b, 0, none⟩ x0).setCell ⟨b, 1, none⟩ x1).setCell ⟨b, 2, none⟩ x2).setCell ⟨b, 3, none⟩ x3).setCell ⟨b, 4, none⟩ x4).setCell ⟨b, 5, none⟩ x5).setCell ⟨b, 6, none⟩ x6).setCell ⟨b, 7, none⟩ x7
theorem st8_below {w0 W : World} {b D : Nat} {x0 x1 x2 x3 x4 x5 x6 x7 : Value} (hb : Below D w0 W) (hD : D ≤ b) : Below D w0 (st8 W b x0 x1 x2 x3 x4 x5 x6 x7) :=
  (((((((hb.setCell hD _).setCell hD _).setCell hD _).setCell hD _).setCell hD _).setCell hD _).setCell hD _).setCell hD _
theorem SrcAt.st8 {W : World} {b : Nat} {A A' : Option Addr} {n c n' c' : Nat} {q q' : Nat → Int} (h : SrcAt W b A' n' c' q') : SrcAt (st8 W b (.slice A n c) (.int .i64 (q 0)) (.int .i64 (q 1)) (.int .i64 (q 2)) (.int .i64 (q 3)) (.int .i64 (q 4)) (.int .i64 (q 5)) (.int .i64 (q 6))) b A n c q := by
  show (World.heap _)[b]? = _
  simp [World.setCell, Array.getElem?_modify, h]
theorem seven {l : List Int} (h : l.length = 7) : l = [l[0]?.getD 0, l[1]?.getD 0, l[2]?.getD 0, l[3]?.getD 0, l[4]?.getD 0, l[5]?.getD 0, l[6]?.getD 0] := by
  match l, h with
  | [_, _, _, _, _, _, _], _ => rfl
/-- The most for 0, 1, .., 6 turns. -/
def fewQ (xs : List Int) (i : Nat) : Int := (sumsT xs 6)[i]?.getD 0
theorem few_list (xs : List Int) : sumsT xs 6 = [fewQ xs 0, fewQ xs 1, fewQ xs 2, fewQ xs 3, fewQ xs 4, fewQ xs 5, fewQ xs 6] := seven (sumsT_len xs 6)
theorem sourceOf_results (W : World) (tmps : Array Value) (b : Nat) (A : Option Addr) (n c : Nat) (q : Nat → Int) (h : SrcAt W b A n c q) (t : tmps.getD 2 undef = .pointer (some ⟨b, 0, none⟩)) :
    (results Try.f63 tmps).run Try.prog W = .ok (srcV A n c q) W := by
  obtain ⟨c0, c1, c2, c3, c4, c5, c6, c7⟩ := h.cells
  simp only [Array.getD_eq_getD_getElem?] at t
  simp [results, Try.results63, go_sem, t, c0, c1, c2, c3, c4, c5, c6, c7]
set_option maxRecDepth 100000 in
set_option maxHeartbeats 8000000 in
theorem sourceOf_any (w : World) (B : Nat) (A : Option Addr) (n c : Nat) (xs : List Int) (hx : IntsAt w B A n xs) (hB : B ≤ w.heap.size) (hv : Nums xs) :
    Calls Try.prog 63 #[.slice A n c] w fun e w' => e = .returned (srcV A n c (fewQ xs)) ∧ Below w.heap.size w w' := by
  have hsz : (Try.prog.info? 2).map (·.size) = some 1 := by kernel_rfl
  obtain ⟨V, hV⟩ : ∃ V, V = (w.alloc (.cells #[.slice none 0 0, .int .i64 0, .int .i64 0, .int .i64 0, .int .i64 0, .int .i64 0, .int .i64 0, .int .i64 0] 81)).alloc (.cells #[.slice A n c, .int .i64 0, .int .i64 0, .int .i64 0, .int .i64 0, .int .i64 0, .int .i64 0, .int .i64 0] 81) := ⟨_, rfl⟩
  have hb0 : Below w.heap.size w V := by rw [hV]; exact ((Below.refl _ w).alloc (Nat.le_refl _) _).alloc (by simp) _
  have x2 : SrcAt V w.heap.size none 0 0 (fun _ => 0) := by rw [hV]; exact (SrcAt.new w none 0 0 (fun _ => 0)).alloc _
  have x3 : SrcAt V (w.heap.size + 1) A n c (fun _ => 0) := by
    rw [hV]
    have := SrcAt.new (w.alloc (.cells #[.slice none 0 0, .int .i64 0, .int .i64 0, .int .i64 0, .int .i64 0, .int .i64 0, .int .i64 0, .int .i64 0] 81)) A n c (fun _ => 0)
    simpa using this
  have Hsz := Lib.hid hsz
  have Hv := Lib.hid hv
  obtain ⟨q, hq⟩ : ∃ q, q = fewQ xs := ⟨_, rfl⟩
  rw [← hq]
  have Hq := Lib.hid hq
  clear hsz hv hq
  go_enter Try.func63, Try.ntmps63
  go_wp2_with (fail)
  rw [← hV]
  clear hV
  refine region_held_wp 1 (fun _ => True) (fun _ => false) (by kernel_rfl) ?_
  intro KR hKR
  refine wpAnyHI_takeW (i := 0) (v := .pointer (some ⟨w.heap.size + 1, 1, none⟩)) (some 6) rfl rfl (by kernel_rfl) (by kernel_rfl) (by kernel_rfl) (by kernel_rfl) (fun _ _ _ h => h) (.inl ⟨by kernel_rfl, fun W' hS' => ?_⟩) ?_
  · go_simp
  refine wpAnyHI_takeW (i := 1) (v := .slice (some ⟨w.heap.size + 1, 1, none⟩) 7 7) (some 7) rfl rfl (by kernel_rfl) (by kernel_rfl) (by kernel_rfl) (by kernel_rfl) (fun _ _ _ h => h) (.inl ⟨by kernel_rfl, fun W' hS' => ?_⟩) ?_
  · go_simp
  refine wpAnyHI_takeW (i := 2) (v := .slice A n c) (some 8) rfl rfl (by kernel_rfl) (by kernel_rfl) (by kernel_rfl) (by kernel_rfl) (fun _ _ _ h => h) (.inl ⟨by kernel_rfl, fun W' hS' => ?_⟩) ?_
  · go_simp
  refine wpAnyHI_one (i := 3) rfl (by kernel_rfl) ?_
  intro K1 hK1
  have hbV : Below w.heap.size w V.drew := hb0.trans (below_drew V)
  have key : Calls Try.prog 92 #[.slice A n c, .int .i64 6] V.drew fun e w' => ∃ g, V.drew.heap.size ≤ g ∧ e = .returned (.slice (some ⟨g, 0, none⟩) 7 7) ∧ RowZ w' g (sumsT xs 6) ∧ Below V.drew.heap.size V.drew w' :=
    leastSums_any V.drew B A n c 6 xs (hx.below hbV hB) (by have := hbV.size; omega) Hv.out (by omega)
  go_simp
  refine ⟨trivial, (callsIn_wide.2 key).mono ?_⟩
  rintro e W1 ⟨g, hg, rfl, hr, hb1⟩
  refine hK1 _ _ ⟨fun h => absurd h (by simp), ?_⟩
  clear hK1 K1 key
  have z2 : SrcAt W1 w.heap.size none 0 0 (fun _ => 0) := SrcAt.below (W := V.drew) x2 hb1 x2.lt
  have z3 : SrcAt W1 (w.heap.size + 1) A n c (fun _ => 0) := SrcAt.below (W := V.drew) x3 hb1 x3.lt
  have hB1 : Below w.heap.size w W1 := hbV.trans (hb1.mono hbV.size)
  have l3 : w.heap.size + 1 < g := Nat.lt_of_lt_of_le x3.lt hg
  rw [few_list, ← Hq.out] at hr
  clear x2 x3 hb0 hb1 hbV hg
  have hsrc : ∀ j v, [Value.int .i64 (q 0), Value.int .i64 (q 1), Value.int .i64 (q 2), Value.int .i64 (q 3), Value.int .i64 (q 4), Value.int .i64 (q 5), Value.int .i64 (q 6)][j]? = some v → W1.cell? ((⟨g, 0, none⟩ : Addr).add j) = some v := by
    intro j v hj
    have hj7 : j < 7 := (List.getElem?_eq_some_iff.1 hj).1
    have : j = 0 ∨ j = 1 ∨ j = 2 ∨ j = 3 ∨ j = 4 ∨ j = 5 ∨ j = 6 := by omega
    rcases this with rfl | rfl | rfl | rfl | rfl | rfl | rfl <;> (simp at hj; subst hj; simp [World.cell?, Addr.add, hr])
  have hcp := run_copy_row (P := Try.prog) W1 22 77 3 2 (w.heap.size + 1) 1 7 7 ⟨g, 0, none⟩ 7 7 (srcC A n c (fun _ => 0)) 81 [Value.int .i64 (q 0), Value.int .i64 (q 1), Value.int .i64 (q 2), Value.int .i64 (q 3), Value.int .i64 (q 4), Value.int .i64 (q 5), Value.int .i64 (q 6)] Try.underlying22 Hsz.out z3 rfl hsrc (by simp) (by simp [Value.oneCell'])
  have hst := setRow_heap W1 (w.heap.size + 1) _ ((srcC A n c (fun _ => 0)).toList.take 1 ++ [Value.int .i64 (q 0), Value.int .i64 (q 1), Value.int .i64 (q 2), Value.int .i64 (q 3), Value.int .i64 (q 4), Value.int .i64 (q 5), Value.int .i64 (q 6)] ++ (srcC A n c (fun _ => 0)).toList.drop (1 + 7)).toArray _ _ z3
  have hB2 : Below w.heap.size w (W1.setRow (w.heap.size + 1) ((srcC A n c (fun _ => 0)).toList.take 1 ++ [Value.int .i64 (q 0), Value.int .i64 (q 1), Value.int .i64 (q 2), Value.int .i64 (q 3), Value.int .i64 (q 4), Value.int .i64 (q 5), Value.int .i64 (q 6)] ++ (srcC A n c (fun _ => 0)).toList.drop (1 + 7)).toArray) := below_setRow hB1 (by omega) _
  have u2 := (setRow_other W1 (w.heap.size + 1) w.heap.size ((srcC A n c (fun _ => 0)).toList.take 1 ++ [Value.int .i64 (q 0), Value.int .i64 (q 1), Value.int .i64 (q 2), Value.int .i64 (q 3), Value.int .i64 (q 4), Value.int .i64 (q 5), Value.int .i64 (q 6)] ++ (srcC A n c (fun _ => 0)).toList.drop (1 + 7)).toArray (by omega)).trans z2
  simp only [List.length_cons, List.length_nil, Nat.zero_add, Nat.reduceAdd] at hcp
  obtain ⟨W2, hW2⟩ : ∃ W2, W2 = W1.setRow (w.heap.size + 1) ((srcC A n c (fun _ => 0)).toList.take 1 ++ [Value.int .i64 (q 0), Value.int .i64 (q 1), Value.int .i64 (q 2), Value.int .i64 (q 3), Value.int .i64 (q 4), Value.int .i64 (q 5), Value.int .i64 (q 6)] ++ (srcC A n c (fun _ => 0)).toList.drop (1 + 7)).toArray := ⟨_, rfl⟩
  simp only [Nat.reduceAdd] at hW2 hst hB2 u2
  rw [← hW2] at hcp hst hB2 u2
  have u3 : SrcAt W2 (w.heap.size + 1) A n c q := hst
  clear hW2 hst hsrc hr z2 z3 hB1
  refine wpAnyHI_one (i := 4) rfl (by kernel_rfl) ?_
  intro K1 hK1
  go_simp
  refine hK1 _ _ ⟨fun h => absurd h (by simp), ?_⟩
  clear hK1 K1 hcp
  refine wpAnyHI_end (by kernel_rfl) ?_
  show KR _ _
  go_simp
  refine hKR _ _ ?_
  have u2' : SrcAt W2 w.heap.size none 0 0 (fun _ => 0) := u2
  have fin := u2'.st8 (A := A) (n := n) (c := c) (q := q)
  have hBf := st8_below (b := w.heap.size) (x0 := .slice A n c) (x1 := .int .i64 (q 0)) (x2 := .int .i64 (q 1)) (x3 := .int .i64 (q 2)) (x4 := .int .i64 (q 3)) (x5 := .int .i64 (q 4)) (x6 := .int .i64 (q 5)) (x7 := .int .i64 (q 6)) hB2 (Nat.le_refl _)
  obtain ⟨p0, p1, p2, p3, p4, p5, p6, p7⟩ := u3.cells
  obtain ⟨r0, r1, r2, r3, r4, r5, r6, r7⟩ := u2'.cells
  obtain ⟨f0, f1, f2, f3, f4, f5, f6, f7⟩ := u2'.frozens
  clear u2 u2' u3 hB2
  go_wp2_with (fail)
  exact bodyPost_ret (v := srcV A n c q) (sourceOf_results _ _ w.heap.size A n c q fin (by simp)) rfl ⟨rfl, hBf⟩

/-- The numbers of the most for 1, .., 6 turns. -/
def fewL (q : Nat → Int) : List Int := [q 1, q 2, q 3, q 4, q 5, q 6]
set_option maxRecDepth 100000 in
set_option maxHeartbeats 4000000 in
theorem most_any (w : World) (A : Option Addr) (n c last : Nat) (q : Nat → Int) (hv : Nums (fewL q)) (hl : last ≤ 1000) :
    Calls Try.prog 64 #[srcV A n c q, .int .i64 (last : Int)] w fun e w' => ∃ g, w.heap.size ≤ g ∧ e = .returned (.slice (some ⟨g, 0, none⟩) (last + 1) (last + 1)) ∧ RowZ w' g (sumsT (fewL q) last) ∧ Below w.heap.size w w' := by
  obtain ⟨V, hV⟩ : ∃ V, V = w.alloc (.cells (srcC A n c q) 81) := ⟨_, rfl⟩
  have hb0 : Below w.heap.size w V := by rw [hV]; exact (Below.refl _ w).alloc (Nat.le_refl _) _
  have x2 : SrcAt V w.heap.size A n c q := by rw [hV]; exact SrcAt.new w A n c q
  have Hv := Lib.hid hv
  clear hv
  go_enter Try.func64, Try.ntmps64
  go_wp2_with (fail)
  rw [← hV]
  clear hV
  have hi : IntsAt V (w.heap.size + 1) (some ⟨w.heap.size, 2, none⟩) 6 (fewL q) := ⟨rfl, by omega, fun _ => ⟨_, _, rfl, by omega, fun j hj => by
    have h := x2.get (i := 1 + j) (by omega)
    rw [show 2 + j = 1 + (1 + j) by omega, h]
    have : j = 0 ∨ j = 1 ∨ j = 2 ∨ j = 3 ∨ j = 4 ∨ j = 5 := by omega
    rcases this with rfl | rfl | rfl | rfl | rfl | rfl <;> rfl⟩⟩
  refine (leastSums_any V (w.heap.size + 1) _ 6 6 last (fewL q) hi (by have := x2.lt; omega) Hv.out hl).mono ?_
  rintro e W1 ⟨g, hg, rfl, hr, hb1⟩
  have hz := hb0.size
  have hB1 := hb0.trans (hb1.mono hz)
  clear hb1
  go_wp2_with (fail)
  refine bodyPost_ret (results_tmp rfl _ _ _) rfl ?_
  exact ⟨g, by omega, rfl, hr, hB1⟩
end Go.Proofs.Ytlgibckhkdggdaa

/- lag: ratio, the rates. -/
namespace Go.Proofs.Ytlgibckhkdggdaa
open Go.RowKit Go.Shelf

attribute [local go_sem] Oper.semAt_some

def ratR (N D : Nat) : Int × Int := (((N / Nat.gcd D N : Nat) : Int), ((D / Nat.gcd D N : Nat) : Int))
theorem ratio_results (W : World) (tmps : Array Value) (b : Nat) (x : Int × Int) (h : RatAt W b x) (t : tmps.getD 4 undef = .pointer (some ⟨b, 0, none⟩)) :
    (results Try.f100 tmps).run Try.prog W = .ok (encR x) W := by
  obtain ⟨c0, c1⟩ := h.cells
  simp only [Array.getD_eq_getD_getElem?] at t
  unfold encR
  simp [results, Try.results100, go_sem, t, c0, c1]
set_option maxRecDepth 100000 in
set_option maxHeartbeats 4000000 in
theorem ratio_any (w : World) (N D : Nat) (hN : N ≤ 1000000) (hD1 : 1 ≤ D) (hD : D ≤ 1000000) :
    Calls Try.prog 100 #[.int .i64 (N : Int), .int .i64 (D : Int)] w fun e w' => e = .returned (encR (ratR N D)) ∧ Below w.heap.size w w' := by
  obtain ⟨V, hV⟩ : ∃ V, V = w.alloc (.cells #[.int .i64 0, .int .i64 0] 32) := ⟨_, rfl⟩
  have hb0 : Below w.heap.size w V := by rw [hV]; exact (Below.refl _ w).alloc (Nat.le_refl _) _
  have x4 : RatAt V w.heap.size (0, 0) := by rw [hV]; exact RatAt.new w (0, 0)
  go_enter Try.func100, Try.ntmps100
  go_wp2_with (fail)
  rw [← hV]
  clear hV
  go_loopw [5, 6] (fun v5 v6 wr => ∃ a b q : Nat, (1 ≤ a ∧ a ≤ 1000000 ∧ b ≤ 1000000) ∧ v5 = .int .i64 (a : Int) ∧ v6 = .int .i64 (b : Int) ∧ wr = V.drewN q ∧ Hid (Nat.gcd a b = Nat.gcd D N)) (fun _ v6 _ => (intOf v6).toNat)
  case atStart => exact ⟨D, N, 0, ⟨hD1, hD, hN⟩, rfl, rfl, rfl, Lib.hid rfl⟩
  case round =>
    obtain ⟨a, b, q, ⟨ha1, ha2, hb2⟩, rfl, rfl, rfl, hg⟩ := hrel
    have hbq : Below w.heap.size w (V.drewN q) := hb0.trans (below_drewN _ _)
    have y4 : RatAt (V.drewN q) w.heap.size (0, 0) := x4
    clear hb0 x4
    by_cases hb : b = 0
    · have hga : Nat.gcd D N = a := by rw [← hg.out, hb, Nat.gcd_zero_right]
      have hb' : ((b : Int) != 0) = false := by rw [hb]; rfl
      have q1 : (N : Int).tdiv (a : Int) = ((N / a : Nat) : Int) := (Int.ofNat_tdiv N a).symm
      have q2 : (D : Int).tdiv (a : Int) = ((D / a : Nat) : Int) := (Int.ofNat_tdiv D a).symm
      have n1 := Nat.div_le_self N a
      have n2 := Nat.div_le_self D a
      obtain ⟨N', hN'⟩ : ∃ N', N' = N / a := ⟨_, rfl⟩
      obtain ⟨D', hD'⟩ : ∃ D', D' = D / a := ⟨_, rfl⟩
      rw [← hN'] at q1 n1
      rw [← hD'] at q2 n2
      have hr : ratR N D = ((N' : Int), (D' : Int)) := by unfold ratR; rw [hga, ← hN', ← hD']
      have Hr := Lib.hid hr
      clear hr hga hb hN' hD' hg
      have w1 : IntKind.i64.wrap (N' : Int) = (N' : Int) := by rw [IntKind.wrap_i64]; omega
      have w2 : IntKind.i64.wrap (D' : Int) = (D' : Int) := by rw [IntKind.wrap_i64]; omega
      have ha0 : ¬ a = 0 := by omega
      obtain ⟨W, hW⟩ : ∃ W, W = V.drewN q := ⟨_, rfl⟩
      rw [← hW] at y4 hbq ⊢
      clear hW
      obtain ⟨k0, k1⟩ := y4.cells
      have f0 := y4.frozen 0
      have f1 := y4.frozen 1
      go_wp2
      refine region_held_wp 1 (fun _ => True) (fun _ => false) (by kernel_rfl) ?_
      intro KR hKR
      refine wpAnyHI_takeW (i := 0) (v := .int .i64 (N : Int)) (some 15) rfl rfl (by kernel_rfl) (by kernel_rfl) (by kernel_rfl) (by kernel_rfl) (fun _ _ _ h => h) (.inl ⟨by kernel_rfl, fun W' hS' => ?_⟩) ?_
      · go_simp
      refine wpAnyHI_takeW (i := 1) (v := .int .i64 (a : Int)) (some 16) rfl rfl (by kernel_rfl) (by kernel_rfl) (by kernel_rfl) (by kernel_rfl) (fun _ _ _ h => h) (.inl ⟨by kernel_rfl, fun W' hS' => ?_⟩) ?_
      · go_simp
      refine wpAnyHI_takeW (i := 2) (v := .int .i64 (N' : Int)) (some 17) rfl rfl (by kernel_rfl) (by kernel_rfl) (by kernel_rfl) (by kernel_rfl) (fun _ _ _ h => h) (.inl ⟨by kernel_rfl, fun W' hS' => ?_⟩) ?_
      · go_simp
      refine wpAnyHI_takeW (i := 3) (v := .int .i64 (D : Int)) (some 18) rfl rfl (by kernel_rfl) (by kernel_rfl) (by kernel_rfl) (by kernel_rfl) (fun _ _ _ h => h) (.inl ⟨by kernel_rfl, fun W' hS' => ?_⟩) ?_
      · go_simp
      refine wpAnyHI_takeW (i := 4) (v := .int .i64 (a : Int)) (some 19) rfl rfl (by kernel_rfl) (by kernel_rfl) (by kernel_rfl) (by kernel_rfl) (fun _ _ _ h => h) (.inl ⟨by kernel_rfl, fun W' hS' => ?_⟩) ?_
      · go_simp
      refine wpAnyHI_takeW (i := 5) (v := .int .i64 (D' : Int)) (some 20) rfl rfl (by kernel_rfl) (by kernel_rfl) (by kernel_rfl) (by kernel_rfl) (fun _ _ _ h => h) (.inl ⟨by kernel_rfl, fun W' hS' => ?_⟩) ?_
      · go_simp
      refine wpAnyHI_takeW (i := 6) (v := .agg #[.int .i64 (N' : Int), .int .i64 (D' : Int)]) (some 21) rfl rfl (by kernel_rfl) (by kernel_rfl) (by kernel_rfl) (by kernel_rfl) (fun _ _ _ h => h) (.inl ⟨by kernel_rfl, fun W' hS' => ?_⟩) ?_
      · go_simp
      have k0' : W.drew.cell? ⟨w.heap.size, 0, none⟩ = _ := k0
      have k1' : W.drew.cell? ⟨w.heap.size, 1, none⟩ = _ := k1
      have f0' : W.drew.frozen? ⟨w.heap.size, 0, none⟩ = false := f0
      have f1' : W.drew.frozen? ⟨w.heap.size, 1, none⟩ = false := f1
      have y4' : RatAt W.drew w.heap.size (0, 0) := y4
      have hbd : Below w.heap.size w W.drew := hbq.trans (below_drew W)
      refine wpAnyHI_one (i := 7) rfl (by kernel_rfl) ?_
      intro K1 hK1
      go_simp
      refine hK1 _ _ ⟨fun h => absurd h (by simp), ?_⟩
      clear hK1 K1
      refine wpAnyHI_end (by kernel_rfl) ?_
      show KR _ _
      go_simp
      refine hKR _ _ ?_
      clear k0 k1 f0 f1 k0' k1' f0' f1' y4 hbq
      have fin := y4'.set ((N' : Int), (D' : Int))
      have hBf := (hbd.setCell (p := ⟨w.heap.size, 0, none⟩) (Nat.le_refl _) (.int .i64 (N' : Int))).setCell (p := ⟨w.heap.size, 1, none⟩) (Nat.le_refl _) (.int .i64 (D' : Int))
      go_wp2_with (fail)
      exact bodyPost_ret (v := encR ((N' : Int), (D' : Int))) (ratio_results _ _ w.heap.size _ fin (by simp)) rfl ⟨by rw [Hr.out], hBf⟩
    · have hb' : ((b : Int) != 0) = true := by rw [bne_iff_ne]; omega
      have hm : (a : Int).tmod (b : Int) = ((a % b : Nat) : Int) := (Int.ofNat_tmod a b).symm
      have hlt := Nat.mod_lt a (show 0 < b by omega)
      have hgg : Nat.gcd b (a % b) = Nat.gcd D N := by rw [← hg.out, Nat.gcd_comm, ← Nat.gcd_rec, Nat.gcd_comm]
      obtain ⟨r, hr⟩ : ∃ r, r = a % b := ⟨_, rfl⟩
      rw [← hr] at hm hlt hgg
      have Hg := Lib.hid hgg
      clear hr hgg hg
      have hb0 : ¬ (b : Int) = 0 := by omega
      go_wp2
      go_quiet (fail)
      go_wp2
      go_roundw
      case rel => exact ⟨b, r, _, ⟨by omega, by omega, by omega⟩, rfl, rfl, World.drewN_drewN _ _ _, Hg⟩
      case measure => simp [intOf]; omega
end Go.Proofs.Ytlgibckhkdggdaa

/- lag: the rates. -/
namespace Go.Proofs.Ytlgibckhkdggdaa
open Go.RowKit Go.Shelf

attribute [local go_sem] Oper.semAt_some

def shaftRate (xs : List Int) : Int × Int := ratR (xs[xs.length - 1]?.getD 0).toNat xs.length
theorem shaftRate_results (W : World) (tmps : Array Value) (b : Nat) (x : Int × Int) (h : RatAt W b x) (t : tmps.getD 2 undef = .pointer (some ⟨b, 0, none⟩)) :
    (results Try.f68 tmps).run Try.prog W = .ok (encR x) W := by
  obtain ⟨c0, c1⟩ := h.cells
  simp only [Array.getD_eq_getD_getElem?] at t
  unfold encR
  simp [results, Try.results68, go_sem, t, c0, c1]
set_option maxRecDepth 100000 in
set_option maxHeartbeats 4000000 in
theorem shaftRate_any (w : World) (B : Nat) (A : Option Addr) (n c : Nat) (xs : List Int) (hx : IntsAt w B A n xs) (hB : B ≤ w.heap.size) (hv : Nums xs) :
    Calls Try.prog 68 #[.slice A n c] w fun e w' => e = .returned (encR (shaftRate xs)) ∧ Below w.heap.size w w' := by
  obtain ⟨V, hV⟩ : ∃ V, V = w.alloc (.cells #[.int .i64 0, .int .i64 0] 32) := ⟨_, rfl⟩
  have hb0 : Below w.heap.size w V := by rw [hV]; exact (Below.refl _ w).alloc (Nat.le_refl _) _
  have x4 : RatAt V w.heap.size (0, 0) := by rw [hV]; exact RatAt.new w (0, 0)
  have hn := hx.len
  obtain ⟨h1, h2, h3⟩ := hv
  have hk := h3 (n - 1) (by omega)
  obtain ⟨b, off, rfl, lb, e1⟩ := hx.cell (k := n - 1) (by omega)
  have lb' : b < w.heap.size := by omega
  have hn1 : n ≤ 1000 := by omega
  have hm : IntKind.i64.wrap ((n : Int) - 1) = ((n - 1 : Nat) : Int) := by rw [IntKind.wrap_i64]; omega
  obtain ⟨x, hxe⟩ : ∃ x : Nat, (x : Int) = xs[n - 1]?.getD 0 := ⟨(xs[n - 1]?.getD 0).toNat, by omega⟩
  have hsr : shaftRate xs = ratR x n := by unfold shaftRate; rw [hn, ← hxe, Int.toNat_natCast]
  rw [hsr]
  rw [← hxe] at e1 hk
  clear hxe hsr h3
  have hlt : n - 1 < n := by omega
  obtain ⟨k, hke⟩ : ∃ k, k = n - 1 := ⟨_, rfl⟩
  rw [← hke] at e1 hm hlt
  clear hke hn hx
  go_enter Try.func68, Try.ntmps68
  go_wp2_with (fail)
  rw [← hV]
  clear hV
  refine (ratio_any V x n (by omega) (by omega) (by omega)).mono ?_
  rintro e W1 ⟨rfl, hb1⟩
  have zr := x4.below hb1 x4.lt
  have hB9 := hb0.trans (hb1.mono hb0.size)
  obtain ⟨k0, k1⟩ := zr.cells
  have f0 := zr.frozen 0
  have f1 := zr.frozen 1
  obtain ⟨⟨r1, r2⟩, hr⟩ : ∃ r, r = ratR x n := ⟨_, rfl⟩
  rw [← hr]
  have Hr := Lib.hid hr
  have fin := zr.set (r1, r2)
  have hBf := (hB9.setCell (p := ⟨w.heap.size, 0, none⟩) (by show w.heap.size ≤ w.heap.size; omega) (.int .i64 r1)).setCell (p := ⟨w.heap.size, 1, none⟩) (by show w.heap.size ≤ w.heap.size; omega) (.int .i64 r2)
  clear hr hb1 hb0 hB9 zr x4
  unfold encR
  go_wp2_with (fail)
  exact bodyPost_ret (v := encR (r1, r2)) (shaftRate_results _ _ (w.heap.size) _ fin (by simp)) rfl ⟨by rw [← Hr.out], hBf⟩
theorem sourceRate1_results (W : World) (tmps : Array Value) (b : Nat) (x : Int × Int) (h : RatAt W b x) (t : tmps.getD 3 undef = .pointer (some ⟨b, 0, none⟩)) :
    (results Try.f99 tmps).run Try.prog W = .ok (encR x) W := by
  obtain ⟨c0, c1⟩ := h.cells
  simp only [Array.getD_eq_getD_getElem?] at t
  unfold encR
  simp [results, Try.results99, go_sem, t, c0, c1]
set_option maxRecDepth 100000 in
set_option maxHeartbeats 4000000 in
theorem sourceRate1_any (w : World) (b : Nat) (A : Option Addr) (n c : Nat) (q : Nat → Int) (k : Nat) (hs : SrcAt w b A n c q) (hk1 : 1 ≤ k) (hk : k < 7) (hq : 0 ≤ q k ∧ q k ≤ 1000000) :
    Calls Try.prog 99 #[.int .i64 (k : Int), .pointer (some ⟨b, 0, none⟩)] w fun e w' => e = .returned (encR (ratR (q k).toNat k)) ∧ Below w.heap.size w w' := by
  obtain ⟨V, hV⟩ : ∃ V, V = w.alloc (.cells #[.int .i64 0, .int .i64 0] 32) := ⟨_, rfl⟩
  have hb0 : Below w.heap.size w V := by rw [hV]; exact (Below.refl _ w).alloc (Nat.le_refl _) _
  have x4 : RatAt V w.heap.size (0, 0) := by rw [hV]; exact RatAt.new w (0, 0)
  have e1 := hs.get hk
  have lb := hs.lt
  obtain ⟨x, hxe⟩ : ∃ x : Nat, (x : Int) = q k := ⟨(q k).toNat, by omega⟩
  rw [← hxe] at e1 hq ⊢
  rw [Int.toNat_natCast]
  clear hxe hs
  go_enter Try.func99, Try.ntmps99
  go_wp2_with (fail)
  rw [← hV]
  clear hV
  refine (ratio_any V x k (by omega) (by omega) (by omega)).mono ?_
  rintro e W1 ⟨rfl, hb1⟩
  have zr := x4.below hb1 x4.lt
  have hB9 := hb0.trans (hb1.mono hb0.size)
  obtain ⟨k0, k1⟩ := zr.cells
  have f0 := zr.frozen 0
  have f1 := zr.frozen 1
  obtain ⟨⟨r1, r2⟩, hr⟩ : ∃ r, r = ratR x k := ⟨_, rfl⟩
  rw [← hr]
  have Hr := Lib.hid hr
  have fin := zr.set (r1, r2)
  have hBf := (hB9.setCell (p := ⟨w.heap.size, 0, none⟩) (by show w.heap.size ≤ w.heap.size; omega) (.int .i64 r1)).setCell (p := ⟨w.heap.size, 1, none⟩) (by show w.heap.size ≤ w.heap.size; omega) (.int .i64 r2)
  clear hr hb1 hb0 hB9 zr x4
  unfold encR
  go_wp2_with (fail)
  exact bodyPost_ret (v := encR (r1, r2)) (sourceRate1_results _ _ (w.heap.size) _ fin (by simp)) rfl ⟨by rw [← Hr.out], hBf⟩
/-- The rate of what comes. -/
def sourceRate (q : Nat → Int) : Int × Int := bestQ (bestO (fun p : Part 1 6 => ratR (q p.1).toNat p.1) slowF (partsS 1 6))
theorem sourceRate_results (W : World) (tmps : Array Value) (b : Nat) (x : Int × Int) (h : RatAt W b x) (t : tmps.getD 2 undef = .pointer (some ⟨b, 0, none⟩)) :
    (results Try.f67 tmps).run Try.prog W = .ok (encR x) W := by
  obtain ⟨c0, c1⟩ := h.cells
  simp only [Array.getD_eq_getD_getElem?] at t
  unfold encR
  simp [results, Try.results67, go_sem, t, c0, c1]
set_option maxRecDepth 100000 in
set_option maxHeartbeats 4000000 in
theorem sourceRate_any (w : World) (A : Option Addr) (n c : Nat) (q : Nat → Int) (hq : ∀ i, 1 ≤ i → i < 7 → 0 ≤ q i ∧ q i ≤ 1000000) :
    Calls Try.prog 67 #[srcV A n c q] w fun e w' => e = .returned (encR (sourceRate q)) ∧ Below w.heap.size w w' := by
  obtain ⟨V, hV⟩ : ∃ V, V = (w.alloc (.cells (srcC A n c q) 81)).alloc (.cells #[.int .i64 0, .int .i64 0] 32) := ⟨_, rfl⟩
  have hb0 : Below w.heap.size w V := by rw [hV]; exact ((Below.refl _ w).alloc (Nat.le_refl _) _).alloc (by simp) _
  have x1 : SrcAt V w.heap.size A n c q := by rw [hV]; exact (SrcAt.new w A n c q).alloc _
  have x4 : RatAt V (w.heap.size + 1) (0, 0) := by
    rw [hV]
    have := RatAt.new (w.alloc (.cells (srcC A n c q) 81)) (0, 0)
    simpa using this
  have Hq := Lib.hid hq
  clear hq
  go_enter Try.func67, Try.ntmps67
  go_wp2_with (fail)
  rw [← hV]
  clear hV
  refine (between_box 1 6 V).mono ?_
  rintro e W1 ⟨bl, bh, rfl, hbl, hbh, hb1⟩
  have z1 := x1.below hb1 x1.lt
  have z4 := x4.below hb1 x4.lt
  have hB1 := hb0.trans (hb1.mono hb0.size)
  clear x1 x4 hb0 hb1
  have hit := between1_any W1 bl bh W1.heap.size 1 6 hbl hbh (Nat.le_refl _) (by omega) (by omega)
  have hval : ValFn W1 99 #[] #[.pointer (some ⟨w.heap.size, 0, none⟩)] (fun p : Part 1 6 => .int .i64 (p.1 : Int)) encR (fun p => ratR (q p.1).toNat p.1) := by
    refine ⟨enters_of Try.func99 (by kernel_rfl) rfl, fun W x hW => ?_⟩
    have hm := parts_mem.1 x.2
    exact sourceRate1_any W w.heap.size A n c q x.1 (z1.below hW z1.lt) hm.1 (by omega) (Hq.out x.1 hm.1 (by omega))
  go_wp2_with (fail)
  refine (bestRI_any W1 106 _ (fun p : Part 1 6 => .int .i64 (p.1 : Int)) _ _ _ _ _ _ _ _ _ slowF (enters_of Try.func106 (by kernel_rfl) rfl) hit (by
    rintro k (rfl | rfl)
    · exact hbl.lt
    · exact hbh.lt) hval slower_fn).mono ?_
  rintro e W2 ⟨rfl, hb2⟩
  clear hit hval hbl hbh z1
  have zr := z4.below hb2 z4.lt
  have hB9 := hB1.trans (hb2.mono hB1.size)
  obtain ⟨k0, k1⟩ := zr.cells
  have f0 := zr.frozen 0
  have f1 := zr.frozen 1
  obtain ⟨⟨r1, r2⟩, hr⟩ : ∃ r, r = sourceRate q := ⟨_, rfl⟩
  rw [show bestQ (bestO (fun p : Part 1 6 => ratR (q p.1).toNat p.1) slowF (partsS 1 6)) = sourceRate q from rfl, ← hr]
  have Hr := Lib.hid hr
  have fin := zr.set (r1, r2)
  have hBf := (hB9.setCell (p := ⟨w.heap.size + 1, 0, none⟩) (by show w.heap.size ≤ w.heap.size + 1; omega) (.int .i64 r1)).setCell (p := ⟨w.heap.size + 1, 1, none⟩) (by show w.heap.size ≤ w.heap.size + 1; omega) (.int .i64 r2)
  clear hr hb2 hB1 hB9 zr z4
  unfold encR
  go_wp2_with (fail)
  exact bodyPost_ret (v := encR (r1, r2)) (sourceRate_results _ _ (w.heap.size + 1) _ fin (by simp)) rfl ⟨by rw [← Hr.out], hBf⟩
theorem shaftsRate1_results (W : World) (tmps : Array Value) (b : Nat) (x : Int × Int) (h : RatAt W b x) (t : tmps.getD 2 undef = .pointer (some ⟨b, 0, none⟩)) :
    (results Try.f117 tmps).run Try.prog W = .ok (encR x) W := by
  obtain ⟨c0, c1⟩ := h.cells
  simp only [Array.getD_eq_getD_getElem?] at t
  unfold encR
  simp [results, Try.results117, go_sem, t, c0, c1]
set_option maxRecDepth 100000 in
set_option maxHeartbeats 4000000 in
theorem shaftsRate1_any (w : World) (B : Nat) (A : Option Addr) (n c : Nat) (xs : List Int) (hx : IntsAt w B A n xs) (hB : B ≤ w.heap.size) (hv : Nums xs) :
    Calls Try.prog 117 #[.slice A n c] w fun e w' => e = .returned (encR (shaftRate xs)) ∧ Below w.heap.size w w' := by
  obtain ⟨V, hV⟩ : ∃ V, V = w.alloc (.cells #[.int .i64 0, .int .i64 0] 32) := ⟨_, rfl⟩
  have hb0 : Below w.heap.size w V := by rw [hV]; exact (Below.refl _ w).alloc (Nat.le_refl _) _
  have x4 : RatAt V w.heap.size (0, 0) := by rw [hV]; exact RatAt.new w (0, 0)
  have Hv := Lib.hid hv
  clear hv
  go_enter Try.func117, Try.ntmps117
  go_wp2_with (fail)
  rw [← hV]
  clear hV
  refine (shaftRate_any V B A n c xs (hx.below hb0 hB) (by have := hb0.size; omega) Hv.out).mono ?_
  rintro e W1 ⟨rfl, hb1⟩
  have zr := x4.below hb1 x4.lt
  have hB9 := hb0.trans (hb1.mono hb0.size)
  obtain ⟨k0, k1⟩ := zr.cells
  have f0 := zr.frozen 0
  have f1 := zr.frozen 1
  obtain ⟨⟨r1, r2⟩, hr⟩ : ∃ r, r = shaftRate xs := ⟨_, rfl⟩
  rw [← hr]
  have Hr := Lib.hid hr
  have fin := zr.set (r1, r2)
  have hBf := (hB9.setCell (p := ⟨w.heap.size, 0, none⟩) (by show w.heap.size ≤ w.heap.size; omega) (.int .i64 r1)).setCell (p := ⟨w.heap.size, 1, none⟩) (by show w.heap.size ≤ w.heap.size; omega) (.int .i64 r2)
  clear hr hb1 hb0 hB9 zr x4
  unfold encR
  go_wp2_with (fail)
  exact bodyPost_ret (v := encR (r1, r2)) (shaftsRate1_results _ _ (w.heap.size) _ fin (by simp)) rfl ⟨by rw [← Hr.out], hBf⟩
/-- The rate of a chain. -/
def chainRate (css : List (List Int)) : Int × Int := bestQ (bestO (fun i : Fin css.length => shaftRate (css[i.1]'i.2)) slowF (List.finRange css.length))
theorem RowsAt.vals {w : World} {B : Nat} {A : Option Addr} {k : Nat} {css : List (List Int)} (h : RowsAt w B A k css) :
    ∃ vals : Nat → Value, ∀ j cs, css[j]? = some cs → ∃ b off A' m c, A = some ⟨b, off, none⟩ ∧ b < B ∧ w.cell? ⟨b, off + j, none⟩ = some (vals j) ∧ vals j = .slice A' m c ∧ IntsAt w B A' m cs := by
  refine Classical.axiomOfChoice (r := fun j v => ∀ cs, css[j]? = some cs → ∃ b off A' m c, A = some ⟨b, off, none⟩ ∧ b < B ∧ w.cell? ⟨b, off + j, none⟩ = some v ∧ v = .slice A' m c ∧ IntsAt w B A' m cs) fun j => ?_
  by_cases hj : j < k
  · obtain ⟨b, off, cs, A', m, c, e, hb, hcs, hc, hi⟩ := h.at hj
    refine ⟨.slice A' m c, fun cs' hcs' => ?_⟩
    rw [hcs] at hcs'
    cases hcs'
    exact ⟨b, off, A', m, c, e, hb, hc, rfl, hi⟩
  · refine ⟨undef, fun cs hcs => ?_⟩
    have := (List.getElem?_eq_some_iff.1 hcs).1
    have := h.1
    omega
theorem shaftsRate_results (W : World) (tmps : Array Value) (b : Nat) (x : Int × Int) (h : RatAt W b x) (t : tmps.getD 2 undef = .pointer (some ⟨b, 0, none⟩)) :
    (results Try.f109 tmps).run Try.prog W = .ok (encR x) W := by
  obtain ⟨c0, c1⟩ := h.cells
  simp only [Array.getD_eq_getD_getElem?] at t
  unfold encR
  simp [results, Try.results109, go_sem, t, c0, c1]
set_option maxRecDepth 100000 in
set_option maxHeartbeats 4000000 in
theorem shaftsRate_any (w : World) (B : Nat) (A : Option Addr) (k c : Nat) (css : List (List Int)) (hx : RowsAt w B A k css) (hB : B ≤ w.heap.size) (hk : k ≤ 1000) (hv : ∀ cs ∈ css, Nums cs) :
    Calls Try.prog 109 #[.slice A k c] w fun e w' => e = .returned (encR (chainRate css)) ∧ Below w.heap.size w w' := by
  obtain ⟨V, hV⟩ : ∃ V, V = w.alloc (.cells #[.int .i64 0, .int .i64 0] 32) := ⟨_, rfl⟩
  have hb0 : Below w.heap.size w V := by rw [hV]; exact (Below.refl _ w).alloc (Nat.le_refl _) _
  have x4 : RatAt V w.heap.size (0, 0) := by rw [hV]; exact RatAt.new w (0, 0)
  have hkl := hx.1
  subst hkl
  have Hv := Lib.hid hv
  clear hv
  go_enter Try.func109, Try.ntmps109
  go_wp2_with (fail)
  rw [← hV]
  clear hV
  refine (values_box A css.length c V).mono ?_
  rintro e W1 ⟨bs, rfl, hbs, hb1⟩
  have z4 := x4.below hb1 x4.lt
  have hB1 := hb0.trans (hb1.mono hb0.size)
  have hx1 := hx.below hB1 hB
  have hBW : B ≤ W1.heap.size := by have := hB1.size; omega
  clear x4 hb0 hb1
  obtain ⟨vals, hvals⟩ := hx1.vals
  have Hvals := Lib.hid hvals
  clear hvals
  have hit := values1_any W1 bs W1.heap.size A css.length c vals hbs (Nat.le_refl _) (by omega) (fun j hj => by
    obtain ⟨b, off, A', m, c', e, hb, hc, -, -⟩ := Hvals.out j _ (List.getElem?_eq_getElem hj)
    exact ⟨b, off, e, by omega, hc⟩)
  have hval : ValFn W1 117 #[] #[] (fun i : Fin css.length => vals i.1) encR (fun i => shaftRate (css[i.1]'i.2)) := by
    refine ⟨enters_of Try.func117 (by kernel_rfl) rfl, fun W x hW => ?_⟩
    obtain ⟨b, off, A', m, c', e, hb, hc, hv, hi⟩ := Hvals.out x.1 _ (List.getElem?_eq_getElem x.2)
    simp only [hv]
    exact shaftsRate1_any W B A' m c' _ (hi.below hW hBW) (by have := hW.size; omega) (Hv.out _ (List.getElem_mem _))
  go_wp2_with (fail)
  refine (bestRS_any W1 118 _ (fun i : Fin css.length => vals i.1) _ _ _ _ _ _ _ _ _ slowF (enters_of Try.func118 (by kernel_rfl) rfl) hit (by
    rintro k rfl
    exact hbs.lt) hval slower_fn).mono ?_
  rintro e W2 ⟨rfl, hb2⟩
  clear hit hval hbs hx1
  have zr := z4.below hb2 z4.lt
  have hB9 := hB1.trans (hb2.mono hB1.size)
  obtain ⟨k0, k1⟩ := zr.cells
  have f0 := zr.frozen 0
  have f1 := zr.frozen 1
  obtain ⟨⟨r1, r2⟩, hr⟩ : ∃ r, r = chainRate css := ⟨_, rfl⟩
  rw [show bestQ (bestO (fun i : Fin css.length => shaftRate (css[i.1]'i.2)) slowF (List.finRange css.length)) = chainRate css from rfl, ← hr]
  have Hr := Lib.hid hr
  have fin := zr.set (r1, r2)
  have hBf := (hB9.setCell (p := ⟨w.heap.size, 0, none⟩) (by show w.heap.size ≤ w.heap.size; omega) (.int .i64 r1)).setCell (p := ⟨w.heap.size, 1, none⟩) (by show w.heap.size ≤ w.heap.size; omega) (.int .i64 r2)
  clear hr hb2 hB1 hB9 zr z4
  unfold encR
  go_wp2_with (fail)
  exact bodyPost_ret (v := encR (r1, r2)) (shaftsRate_results _ _ (w.heap.size) _ fin (by simp)) rfl ⟨by rw [← Hr.out], hBf⟩
end Go.Proofs.Ytlgibckhkdggdaa

/- lag: totals. -/
namespace Go.Proofs.Ytlgibckhkdggdaa
open Go.RowKit Go.Shelf

attribute [local go_sem] Oper.semAt_some

def preS (xs : List Int) : Nat → Int
  | 0 => 0
  | k + 1 => preS xs k + xs[k]?.getD 0
def Row60 (xs : List Int) : Prop := xs.length ≤ 60 ∧ ∀ j, j < xs.length → 0 ≤ xs[j]?.getD 0 ∧ xs[j]?.getD 0 ≤ 10000
theorem preS_bound {xs : List Int} (hx : Row60 xs) : ∀ k, k ≤ xs.length → 0 ≤ preS xs k ∧ preS xs k ≤ 10000 * k
  | 0, _ => by simp [preS]
  | k + 1, h => by
    have h1 := preS_bound hx k (by omega)
    have h2 := hx.2 k (by omega)
    rw [preS]
    omega
def fillR (L : Nat) (xs : List Int) (k : Nat) : List Int := (List.range L).map fun j => if j ≤ k then preS xs j else 0
theorem fillR_len (L : Nat) (xs : List Int) (k : Nat) : (fillR L xs k).length = L := by simp [fillR]
theorem fillR_get {L : Nat} {xs : List Int} {k j : Nat} (hj : j < L) : (fillR L xs k)[j]?.getD 0 = if j ≤ k then preS xs j else 0 := by simp [fillR, hj]
theorem fillR_zero (L : Nat) (xs : List Int) : fillR L xs 0 = List.replicate L 0 := by
  refine List.ext_getElem (by simp [fillR]) fun i h1 h2 => ?_
  simp only [fillR, List.getElem_map, List.getElem_range, List.getElem_replicate]
  split
  · have : i = 0 := by omega
    subst this
    rfl
  · rfl
theorem fillR_set {L : Nat} {xs : List Int} {k : Nat} : (fillR L xs k).set (k + 1) (preS xs k + xs[k]?.getD 0) = fillR L xs (k + 1) := by
  refine List.ext_getElem (by simp [fillR]) fun i h1 h2 => ?_
  simp only [fillR, List.getElem_set, List.getElem_map, List.getElem_range]
  by_cases h : k + 1 = i
  · subst h
    simp [preS]
  · rw [if_neg h]
    by_cases h' : i ≤ k
    · rw [if_pos h', if_pos (by omega)]
    · rw [if_neg h', if_neg (by omega)]
def totF (xs : List Int) : List Int := fillR (xs.length + 1) xs xs.length
theorem totF_len (xs : List Int) : (totF xs).length = xs.length + 1 := fillR_len _ _ _
theorem totF_get {xs : List Int} {j : Nat} (hj : j ≤ xs.length) : (totF xs)[j]?.getD 0 = preS xs j := by
  unfold totF
  rw [fillR_get (by omega), if_pos hj]

set_option maxRecDepth 100000 in
set_option maxHeartbeats 4000000 in
theorem fill_any (w : World) (g L cap B : Nat) (A : Option Addr) (m c : Nat) (xs : List Int) (hz : RowZ w g (List.replicate L 0)) (hx : IntsAt w B A m xs) (hB : B ≤ g) (hr : Row60 xs) (hL : m + 1 ≤ L) (_hL2 : L ≤ 1000) :
    Calls Try.prog 104 #[.slice (some ⟨g, 0, none⟩) L cap, .slice A m c] w fun e w' => e = .returned (.tuple #[]) ∧ RowZ w' g (fillR L xs m) ∧ Below g w w' ∧ w'.heap.size = w.heap.size ∧ ∀ k, k ≠ g → w'.heap[k]? = w.heap[k]? := by
  have hm := hx.len
  have hm60 : m ≤ 60 := by have := hr.1; omega
  have Hr := Lib.hid (And.intro hr hm)
  rw [← fillR_zero L xs] at hz
  clear hr hm
  go_enter Try.func104, Try.ntmps104
  go_wp2
  go_loopw [8] (fun i wr => ∃ k : Nat, k ≤ m ∧ i = .int .i64 (k : Int) ∧ RowZ wr g (fillR L xs k) ∧ Below g w wr ∧ Hid (wr.heap.size = w.heap.size) ∧ ∀ k, k ≠ g → wr.heap[k]? = w.heap[k]?) (fun i _ => m - (intOf i).toNat)
  case atStart => exact ⟨0, by omega, rfl, hz, Below.refl _ _, Lib.hid rfl, fun _ _ => rfl⟩
  case round =>
    obtain ⟨k, hk, rfl, y, hb, hsz, hot⟩ := hrel
    have Hot := Lib.hid hot
    clear hot hz
    by_cases hlt : k < m
    · obtain ⟨b, o, rfl, lb, e1⟩ := (hx.below hb hB).cell hlt
      have e2 := y.cell (j := k) (by rw [fillR_len]; omega)
      have e3 := y.cell (j := k + 1) (by rw [fillR_len]; omega)
      have f3 := y.frozen (j := k + 1)
      rw [fillR_get (by omega), if_pos (Nat.le_refl _)] at e2
      have hbd := preS_bound Hr.out.1 k (by rw [Hr.out.2]; omega)
      have hbx := Hr.out.1.2 k (by rw [Hr.out.2]; omega)
      have hw1 : IntKind.i64.wrap ((k : Int) + 1) = ((k + 1 : Nat) : Int) := by rw [IntKind.wrap_i64]; omega
      have hw2 : IntKind.i64.wrap (preS xs k + xs[k]?.getD 0) = preS xs k + xs[k]?.getD 0 := by rw [IntKind.wrap_i64]; omega
      have hset := fillR_set (L := L) (xs := xs) (k := k)
      have hy := y.set (k + 1) (preS xs k + xs[k]?.getD 0)
      rw [hset] at hy
      have hb2 : Below g w (wr.setCell ⟨g, k + 1, none⟩ (.int .i64 (preS xs k + xs[k]?.getD 0))) := hb.setCell (p := ⟨g, k + 1, none⟩) (Nat.le_refl _) _
      have hsz2 : Hid ((wr.setCell ⟨g, k + 1, none⟩ (.int .i64 (preS xs k + xs[k]?.getD 0))).heap.size = w.heap.size) := Lib.hid (by simp [hsz.out])
      have hot2 : ∀ j, j ≠ g → (wr.setCell ⟨g, k + 1, none⟩ (.int .i64 (preS xs k + xs[k]?.getD 0))).heap[j]? = w.heap[j]? := fun j hj => (Below.heap_setCell wr ⟨g, k + 1, none⟩ _ j hj).trans (Hot.out j hj)
      have Hot2 := Lib.hid hot2
      obtain ⟨s, hs⟩ : ∃ s, s = preS xs k := ⟨_, rfl⟩
      obtain ⟨x, hxe⟩ : ∃ x, x = xs[k]?.getD 0 := ⟨_, rfl⟩
      rw [← hs, ← hxe] at hw2 hy hb2 hsz2 Hot2
      rw [← hs] at e2
      rw [← hxe] at e1
      clear hset hs hxe hbd hbx hot2 y
      go_wp2
      go_roundw
      case rel => exact ⟨k + 1, by omega, by go_num, hy, hb2, hsz2, Hot2.out⟩
      case measure => simp [intOf]; omega
    · have hkm : k = m := by omega
      rw [hkm] at y
      clear hkm
      go_wp2
      refine bodyPost_end (v := .tuple #[]) (results_none rfl _ _ _) rfl ?_
      exact ⟨rfl, y, hb, hsz.out, Hot.out⟩
end Go.Proofs.Ytlgibckhkdggdaa

/- lag: totals of rows; tallies. -/
namespace Go.Proofs.Ytlgibckhkdggdaa
open Go.RowKit Go.Shelf

attribute [local go_sem] Oper.semAt_some

set_option maxRecDepth 100000 in
set_option maxHeartbeats 4000000 in
theorem totalsOf_any (w : World) (B : Nat) (A : Option Addr) (m c : Nat) (xs : List Int) (hx : IntsAt w B A m xs) (hB : B ≤ w.heap.size) (hr : Row60 xs) :
    Calls Try.prog 76 #[.slice A m c] w fun e w' => ∃ g, w.heap.size ≤ g ∧ e = .returned (.slice (some ⟨g, 0, none⟩) (m + 1) (m + 1)) ∧ RowZ w' g (totF xs) ∧ Below w.heap.size w w' := by
  have hm := hx.len
  have hm60 : m ≤ 60 := by have := hr.1; omega
  have hmks : ∀ W : World, (Instr.makeSlice 77 (.int .i64 ((m : Int) + 1)) (.int .i64 ((m : Int) + 1))).run Try.prog W = .ok (.slice (some ⟨W.heap.size, 0, none⟩) (m + 1) (m + 1)) (W.alloc (.cells ((List.replicate (m + 1) (0 : Int)).map (Value.int .i64)).toArray 2)) := fun W => by
    have := made_row (W := W) (N := m + 1) (by omega)
    rwa [show ((m + 1 : Nat) : Int) = (m : Int) + 1 by simp] at this
  have hwm : IntKind.i64.wrap ((m : Int) + 1) = (m : Int) + 1 := by rw [IntKind.wrap_i64]; omega
  obtain ⟨mc, hmc⟩ : ∃ mc, mc = ((List.replicate (m + 1) (0 : Int)).map (Value.int .i64)).toArray := ⟨_, rfl⟩
  rw [← hmc] at hmks
  obtain ⟨V, hV⟩ : ∃ V, V = w.alloc (.cells mc 2) := ⟨_, rfl⟩
  have hb0 : Below w.heap.size w V := by rw [hV]; exact (Below.refl _ w).alloc (Nat.le_refl _) _
  have xr : RowZ V w.heap.size (List.replicate (m + 1) 0) := by
    rw [hV, RowZ, World.alloc_heap_new, hmc]
  have Hr := Lib.hid (And.intro hr hm)
  clear hmc hr hm
  go_enter Try.func76, Try.ntmps76
  go_wp2_with (fail)
  rw [← hV]
  clear hV hmks
  refine (fill_any V w.heap.size (m + 1) (m + 1) B A m c xs xr (hx.below hb0 hB) hB Hr.out.1 (Nat.le_refl _) (by omega)).mono ?_
  rintro e W1 ⟨rfl, hz1, hb1, -, -⟩
  have hB1 := hb0.trans hb1
  have htot : fillR (m + 1) xs m = totF xs := by unfold totF; rw [Hr.out.2]
  rw [htot] at hz1
  clear htot hb0 hb1 xr
  go_wp2_with (fail)
  refine bodyPost_ret (results_tmp rfl _ _ _) rfl ?_
  exact ⟨w.heap.size, Nat.le_refl _, rfl, hz1, hB1⟩

def reachF (ts os : List Int) : Bool := (List.range os.length).all fun j => decide (os[j]?.getD 0 ≤ ts[j]?.getD 0)
theorem reachF_false {ts os : List Int} {k : Nat} (hk : k < os.length) (h : ts[k]?.getD 0 < os[k]?.getD 0) : reachF ts os = false := by
  unfold reachF
  rw [List.all_eq_false]
  exact ⟨k, List.mem_range.2 hk, by simpa using h⟩
theorem reachF_true {ts os : List Int} (h : ∀ k, k < os.length → os[k]?.getD 0 ≤ ts[k]?.getD 0) : reachF ts os = true := by
  unfold reachF
  rw [List.all_eq_true]
  intro k hk
  exact decide_eq_true (h k (List.mem_range.1 hk))
set_option maxHeartbeats 1000000 in
theorem reach_any (w : World) (B1 B2 : Nat) (A1 A2 : Option Addr) (n m c1 c2 : Nat) (ts os : List Int) (h1 : IntsAt w B1 A1 n ts) (h2 : IntsAt w B2 A2 m os) (hmn : m ≤ n) :
    Calls Try.prog 84 #[.slice A1 n c1, .slice A2 m c2] w fun e w' => e = .returned (.bool (reachF ts os)) ∧ w' = w := by
  have hm := h1.small
  have hm2 := h2.small
  go_enter Try.func84, Try.ntmps84
  go_wp2
  go_loop [9] (fun i => ∃ k : Nat, k ≤ m ∧ i = .int .i64 (k : Int) ∧ ∀ j, j < k → os[j]?.getD 0 ≤ ts[j]?.getD 0) (fun i => m - (intOf i).toNat)
  case atStart => exact ⟨0, by omega, rfl, fun j hj => by omega⟩
  case round =>
    obtain ⟨k, hk, rfl, hall⟩ := hrel
    have Hall := Lib.hid hall
    clear hall
    by_cases hlt : k < m
    · obtain ⟨b2, o2, rfl, -, e2⟩ := h2.cell hlt
      obtain ⟨b1, o1, rfl, -, e1⟩ := h1.cell (k := k) (by omega)
      have hkn : k < n := by omega
      by_cases hq : ts[k]?.getD 0 < os[k]?.getD 0
      · go_wp2
        go_ret
        exact ⟨ret_bool (reachF_false (by rw [h2.len]; exact hlt) hq).symm, rfl⟩
      · have Hq := Lib.hid hq
        go_wp2
        go_round
        case rel => exact ⟨k + 1, by omega, by go_num, fun j hj => by rcases Nat.lt_succ_iff_lt_or_eq.1 hj with h | rfl; exact Hall.out j h; have := Hq.out; omega⟩
        case measure => simp [intOf]; omega
    · go_wp2
      go_ret
      exact ⟨ret_bool (reachF_true fun j hj => Hall.out j (by rw [h2.len] at hj; omega)).symm, rfl⟩

/-! ### tallies -/
@[reducible] def talV (A1 A2 : Option Addr) (n1 n2 c1 c2 : Nat) : Value := .agg #[.slice A1 n1 c1, .slice A2 n2 c2]
set_option maxHeartbeats 1000000 in
theorem waiting_any (w : World) (B1 B2 : Nat) (A1 A2 : Option Addr) (n1 n2 c1 c2 k : Nat) (ts os : List Int) (h1 : IntsAt w B1 A1 n1 ts) (h2 : IntsAt w B2 A2 n2 os) (hB1 : B1 ≤ w.heap.size) (hB2 : B2 ≤ w.heap.size) (hk1 : k < n1) (hk2 : k < n2) (_hn1 : n1 ≤ 1000) (_hn2 : n2 ≤ 1000)
    (hb : -1000000000 ≤ ts[k]?.getD 0 - os[k]?.getD 0 ∧ ts[k]?.getD 0 - os[k]?.getD 0 ≤ 1000000000) :
    Calls Try.prog 78 #[talV A1 A2 n1 n2 c1 c2, .int .i64 (k : Int)] w fun e w' => e = .returned (encI (ts[k]?.getD 0 - os[k]?.getD 0)) ∧ Below w.heap.size w w' := by
  obtain ⟨b1, o1, rfl, l1, e1⟩ := h1.cell hk1
  obtain ⟨b2, o2, rfl, l2, e2⟩ := h2.cell hk2
  have l1' : b1 < w.heap.size := by omega
  have l2' : b2 < w.heap.size := by omega
  obtain ⟨x, hxe⟩ : ∃ x, x = ts[k]?.getD 0 := ⟨_, rfl⟩
  obtain ⟨y, hye⟩ : ∃ y, y = os[k]?.getD 0 := ⟨_, rfl⟩
  rw [← hxe] at e1 hb ⊢
  rw [← hye] at e2 hb ⊢
  have e6 : IntKind.i64.wrap (x - y) = x - y := by rw [IntKind.wrap_i64]; omega
  clear hxe hye h1 h2 hb
  unfold encI
  go_enter Try.func78, Try.ntmps78
  go_wp2
  go_quiet (fail)
  go_wp2
  go_ret
  exact ⟨by simp, ((Below.refl _ w).alloc (Nat.le_refl _) _).trans (below_drewN _ _)⟩

/-- The index of the first number that is not less, -1 if there is none. -/
def idxGE (v : Int) (ys : List Int) : Int := if ys.findIdx (fun y => decide (v ≤ y)) < ys.length then (ys.findIdx (fun y => decide (v ≤ y)) : Int) else -1
theorem idxGE_at {v : Int} {ys : List Int} {k : Nat} (hk : k < ys.length) (h : v ≤ ys[k]?.getD 0) (hall : ∀ j, j < k → ¬ v ≤ ys[j]?.getD 0) : idxGE v ys = (k : Int) := by
  have e : ys.findIdx (fun y => decide (v ≤ y)) = k := by
    rw [List.findIdx_eq hk]
    refine ⟨by simpa [List.getElem?_eq_getElem hk] using h, fun j hj => ?_⟩
    have := hall j hj
    rw [List.getElem?_eq_getElem (by omega)] at this
    simpa using this
  unfold idxGE
  rw [e, if_pos hk]
theorem idxGE_none {v : Int} {ys : List Int} (hall : ∀ j, j < ys.length → ¬ v ≤ ys[j]?.getD 0) : idxGE v ys = -1 := by
  have e : ys.findIdx (fun y => decide (v ≤ y)) = ys.length := by
    rw [List.findIdx_eq_length]
    intro y hy
    obtain ⟨j, hj, rfl⟩ := List.getElem_of_mem hy
    have := hall j hj
    rw [List.getElem?_eq_getElem hj] at this
    simpa using this
  unfold idxGE
  rw [if_neg (by omega)]
set_option maxHeartbeats 1000000 in
theorem late1_any (w : World) (b1 b2 n1 c1 k : Nat) (A1 : Option Addr) (B : Nat) (ts : List Int) (x : Int) (k1 : w.cell? ⟨b1, 0, none⟩ = some (.slice A1 n1 c1)) (k2 : w.cell? ⟨b2, 0, none⟩ = some (.int .i64 (k : Int))) (h1 : IntsAt w B A1 n1 ts) (hk : k < n1) :
    Calls Try.prog 108 #[.int .i64 x, .pointer (some ⟨b1, 0, none⟩), .pointer (some ⟨b2, 0, none⟩)] w fun e w' => e = .returned (.bool (decide (ts[k]?.getD 0 ≤ x))) ∧ w' = w := by
  have hm := h1.small
  obtain ⟨b, o, rfl, -, e1⟩ := h1.cell hk
  go_enter Try.func108, Try.ntmps108
  go_wp2
  go_ret
  exact ⟨ret_bool (by simp), rfl⟩
end Go.Proofs.Ytlgibckhkdggdaa
