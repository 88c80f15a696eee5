/- lag: tallies of two rows. -/
import Derived.Test.YtjidllaaokdjhaaLT
namespace Go.Proofs.Ytjidllaaokdjhaa
open Go.RowKit Go.Shelf

attribute [local go_sem] Oper.semAt_some

abbrev TalAt (W : World) (b : Nat) (A1 A2 : Option Addr) (n1 n2 c1 c2 : Nat) : Prop := W.heap[b]? = some (.cells #[.slice A1 n1 c1, .slice A2 n2 c2] 96 (0, 0))
section
variable {W W' : World} {b : Nat} {A1 A2 : Option Addr} {n1 n2 c1 c2 : Nat}
theorem TalAt.lt (h : TalAt W b A1 A2 n1 n2 c1 c2) : b < W.heap.size := (Array.getElem?_eq_some_iff.1 h).1
theorem TalAt.cells (h : TalAt W b A1 A2 n1 n2 c1 c2) : W.cell? ⟨b, 0, none⟩ = some (.slice A1 n1 c1) ∧ W.cell? ⟨b, 1, none⟩ = some (.slice A2 n2 c2) := by simp [World.cell?, h]
theorem TalAt.frozen (h : TalAt W b A1 A2 n1 n2 c1 c2) (i : Nat) : W.frozen? ⟨b, i, none⟩ = false := by simp [World.frozen?, h]
theorem TalAt.new (W : World) (A1 A2 : Option Addr) (n1 n2 c1 c2 : Nat) : TalAt (W.alloc (.cells #[.slice A1 n1 c1, .slice A2 n2 c2] 96)) W.heap.size A1 A2 n1 n2 c1 c2 := World.alloc_heap_new W _
theorem TalAt.alloc (h : TalAt W b A1 A2 n1 n2 c1 c2) (o : Obj) : TalAt (W.alloc o) b A1 A2 n1 n2 c1 c2 := (Below.heap_alloc _ _ _ h.lt).trans h
theorem TalAt.below {D : Nat} (h : TalAt W b A1 A2 n1 n2 c1 c2) (hb : Below D W W') (hD : b < D) : TalAt W' b A1 A2 n1 n2 c1 c2 := (hb.block b hD).trans h
theorem TalAt.set (h : TalAt W b A1 A2 n1 n2 c1 c2) (A3 A4 : Option Addr) (n3 n4 c3 c4 : Nat) : TalAt ((W.setCell ⟨b, 0, none⟩ (.slice A3 n3 c3)).setCell ⟨b, 1, none⟩ (.slice A4 n4 c4)) b A3 A4 n3 n4 c3 c4 := by
  show (World.heap _)[b]? = _
  simp [World.setCell, Array.getElem?_modify, h]
end
theorem tallyOf_results (W : World) (tmps : Array Value) (b : Nat) (A1 A2 : Option Addr) (n1 n2 c1 c2 : Nat) (e : Value) (h : TalAt W b A1 A2 n1 n2 c1 c2) (t : tmps.getD 4 undef = .pointer (some ⟨b, 0, none⟩)) (t5 : tmps.getD 5 undef = e) :
    (results Try.f77 tmps).run Try.prog W = .ok (.tuple #[talV A1 A2 n1 n2 c1 c2, e]) W := by
  obtain ⟨c0, c1⟩ := h.cells
  simp only [Array.getD_eq_getD_getElem?] at t t5
  simp [results, Try.results77, go_sem, t, t5, c0, c1]
theorem two_rows (w : World) (B B2 : Nat) (A A2 : Option Addr) (n c m c2 : Nat) (xs ys : List Int) (hx : IntsAt w B A n xs) (hB : B ≤ w.heap.size) (hy : IntsAt w B2 A2 m ys) (hB2 : B2 ≤ w.heap.size) :
    RowsAt (w.alloc (.cells #[.slice A n c, .slice A2 m c2] 22)) (w.heap.size + 1) (some ⟨w.heap.size, 0, none⟩) 2 [xs, ys] := by
  have hh := World.alloc_heap_new w (.cells #[.slice A n c, .slice A2 m c2] 22)
  have hx' := (hx.alloc hB (.cells #[.slice A n c, .slice A2 m c2] 22)).more (B' := w.heap.size + 1) (by omega)
  have hy' := (hy.alloc hB2 (.cells #[.slice A n c, .slice A2 m c2] 22)).more (B' := w.heap.size + 1) (by omega)
  obtain ⟨W, hW⟩ : ∃ W, W = w.alloc (.cells #[.slice A n c, .slice A2 m c2] 22) := ⟨_, rfl⟩
  rw [← hW] at hh hx' hy' ⊢
  clear hW
  refine ⟨rfl, by omega, fun _ => ⟨w.heap.size, 0, rfl, by omega, fun j cs hj => ?_⟩⟩
  have h1 : j < 2 := (List.getElem?_eq_some_iff.1 hj).1
  have h0 : j = 0 ∨ j = 1 := by omega
  rcases h0 with rfl | rfl
  · cases hj
    exact ⟨A, n, c, by simp [World.cell?, hh], hx'⟩
  · cases hj
    exact ⟨A2, m, c2, by simp [World.cell?, hh], hy'⟩
def rowsF (xs ys : List Int) : Int := firstE rowF [xs, ys]
theorem rows_zero {xs ys : List Int} (h : rowsF xs ys = 0) : rowF xs = 0 ∧ rowF ys = 0 := by
  unfold rowsF at h
  rw [firstE] at h
  split at h
  · rename_i hc
    exact absurd h hc
  · rename_i hc
    rw [firstE] at h
    split at h
    · rename_i hc2
      exact absurd h hc2
    · rename_i hc2
      exact ⟨Classical.not_not.1 hc, Classical.not_not.1 hc2⟩
/-- The error of two rows as a tally. -/
def tallyE (xs ys : List Int) : Int := if rowsF xs ys ≠ 0 then rowsF xs ys else if xs.length ≠ ys.length then 15 else if reachF (totF xs) (totF ys) = false then 14 else 0
def TallyP (xs ys : List Int) (n0 : Nat) (w' : World) (e : Ending) : Prop :=
  (tallyE xs ys ≠ 0 ∧ e = .returned (.tuple #[talV none none 0 0 0 0, .int .i64 (tallyE xs ys)])) ∨
  (tallyE xs ys = 0 ∧ ∃ g1 g2 : Nat, n0 ≤ g1 ∧ n0 ≤ g2 ∧ e = .returned (.tuple #[talV (some ⟨g1, 0, none⟩) (some ⟨g2, 0, none⟩) (xs.length + 1) (xs.length + 1) (xs.length + 1) (xs.length + 1), .int .i64 0]) ∧ RowZ w' g1 (totF xs) ∧ RowZ w' g2 (totF ys))
theorem tally_zero {xs ys : List Int} (h : tallyE xs ys = 0) : Row60 xs ∧ Row60 ys ∧ xs.length = ys.length ∧ reachF (totF xs) (totF ys) = true := by
  unfold tallyE at h
  split at h
  · rename_i hc
    exact absurd h hc
  · rename_i hc
    obtain ⟨h1, h2⟩ := rows_zero (Classical.not_not.1 hc)
    split at h
    · cases h
    · rename_i hl
      split at h
      · cases h
      · rename_i hr
        exact ⟨row_of h1, row_of h2, Classical.not_not.1 hl, by simpa using hr⟩
set_option maxRecDepth 100000 in
set_option maxHeartbeats 8000000 in
theorem tallyOf_any (w : World) (B B2 : Nat) (A A2 : Option Addr) (n c m c2 : Nat) (xs ys : List Int) (hx : IntsAt w B A n xs) (hB : B ≤ w.heap.size) (hy : IntsAt w B2 A2 m ys) (hB2 : B2 ≤ w.heap.size) :
    Calls Try.prog 77 #[.slice A n c, .slice A2 m c2] w fun e w' => TallyP xs ys w.heap.size w' e ∧ Below w.heap.size w w' := by
  have hm := hx.small
  have hm2 := hy.small
  obtain ⟨V, hV⟩ : ∃ V, V = w.alloc (.cells #[.slice none 0 0, .slice none 0 0] 96) := ⟨_, rfl⟩
  have hb0 : Below w.heap.size w V := by rw [hV]; exact (Below.refl _ w).alloc (Nat.le_refl _) _
  have x4 : TalAt V w.heap.size none none 0 0 0 0 := by rw [hV]; exact TalAt.new w none none 0 0 0 0
  have hzV := hb0.size
  obtain ⟨V2, hV2⟩ : ∃ V2, V2 = V.alloc (.cells #[.slice A n c, .slice A2 m c2] 22) := ⟨_, rfl⟩
  have hb1 : Below w.heap.size w V2 := by rw [hV2]; exact hb0.alloc hzV _
  have y4 : TalAt V2 w.heap.size none none 0 0 0 0 := by rw [hV2]; exact x4.alloc _
  have ho := two_rows V B B2 A A2 n c m c2 xs ys (hx.below hb0 hB) (by omega) (hy.below hb0 hB2) (by omega)
  rw [← hV2] at ho
  have hz2 : V.heap.size + 1 ≤ V2.heap.size := by rw [hV2]; simp
  have hVs : V.heap.size = w.heap.size + 1 := by rw [hV]; simp
  rw [hVs] at ho hz2
  have Hl := Lib.hid (And.intro hx.len hy.len)
  rw [hV] at hV2
  clear hV hb0 x4 hVs hzV
  go_enter Try.func77, Try.ntmps77
  go_wp2_with (fail)
  rw [← hV2]
  clear hV2
  refine (checkRows_any V2 (w.heap.size + 1 + 1) (some ⟨w.heap.size + 1, 0, none⟩) 2 2 [xs, ys] ho hz2).mono ?_
  rintro e w1 ⟨rfl, hb2⟩
  have z4 := y4.below hb2 y4.lt
  have hB1 := hb1.trans (hb2.mono hb1.size)
  clear y4 hb1 hb2 ho hz2
  obtain ⟨k0, k1⟩ := z4.cells
  have f0 := z4.frozen 0
  have f1 := z4.frozen 1
  obtain ⟨s, hs⟩ : ∃ s, s = firstE rowF [xs, ys] := ⟨_, rfl⟩
  rw [← hs]
  by_cases h1 : s = 0
  case neg =>
    have hne : (s != 0) = true := by rw [bne_iff_ne]; exact h1
    have hte : tallyE xs ys = s := by unfold tallyE rowsF; rw [if_pos (by rw [← hs]; exact h1), hs]
    have Hs := Lib.hid (And.intro hte h1)
    clear hs h1 hte
    have fin := z4.set none none 0 0 0 0
    have hBf := (hB1.setCell (p := ⟨w.heap.size, 0, none⟩) (Nat.le_refl _) (.slice none 0 0)).setCell (p := ⟨w.heap.size, 1, none⟩) (Nat.le_refl _) (.slice none 0 0)
    clear z4 hB1
    go_wp2_with (fail)
    refine bodyPost_ret (v := .tuple #[talV none none 0 0 0 0, .int .i64 s]) (tallyOf_results _ _ w.heap.size none none 0 0 0 0 _ fin (by simp) (by simp)) rfl ⟨.inl ?_, hBf⟩
    exact ⟨by rw [Hs.out.1]; exact Hs.out.2, by rw [Hs.out.1]⟩
  case pos =>
    subst h1
    have Hs := Lib.hid (show rowsF xs ys = 0 from hs.symm)
    clear hs
    by_cases hnm : n = m
    case neg =>
      have hnm' : ((n : Int) != (m : Int)) = true := by rw [bne_iff_ne]; omega
      have hte : tallyE xs ys = 15 := by unfold tallyE; rw [if_neg (by rw [Hs.out]; simp), if_pos (by rw [Hl.out.1, Hl.out.2]; exact hnm)]
      have Ht := Lib.hid hte
      clear hte hnm
      have fin := z4.set none none 0 0 0 0
      have hBf := (hB1.setCell (p := ⟨w.heap.size, 0, none⟩) (Nat.le_refl _) (.slice none 0 0)).setCell (p := ⟨w.heap.size, 1, none⟩) (Nat.le_refl _) (.slice none 0 0)
      clear z4 hB1
      go_wp2_with (fail)
      refine bodyPost_ret (v := .tuple #[talV none none 0 0 0 0, .int .i64 15]) (tallyOf_results _ _ w.heap.size none none 0 0 0 0 _ fin (by simp) (by simp)) rfl ⟨.inl ?_, hBf⟩
      exact ⟨by rw [Ht.out]; simp, by rw [Ht.out]⟩
    case pos =>
      subst hnm
      obtain ⟨r1, r2⟩ := rows_zero Hs.out
      have hn60 : n ≤ 60 := by have := (row_of r1).1; have := Hl.out.1; omega
      have Hr := Lib.hid (And.intro (row_of r1) (row_of r2))
      clear r1 r2 k0 k1 f0 f1
      go_wp2_with (fail)
      refine (totalsOf_any w1 B A n c xs (hx.below hB1 hB) (by have := hB1.size; omega) Hr.out.1).mono ?_
      rintro e w2 ⟨g1, hg1, rfl, hr1, hb3⟩
      have v4 := z4.below hb3 z4.lt
      have hB2' := hB1.trans (hb3.mono hB1.size)
      have hz1 := hB1.size
      have hwz := z4.lt
      have hz12 := hb3.size
      clear z4 hB1 hb3
      go_wp2_with (fail)
      refine (totalsOf_any w2 B2 A2 n c2 ys (hy.below hB2' hB2) (by have := hB2'.size; omega) Hr.out.2).mono ?_
      rintro e w3 ⟨g2, hg2, rfl, hr2, hb4⟩
      have u4 := v4.below hb4 v4.lt
      have hq1 := hr1.below hb4 hr1.lt
      have hz2 := hB2'.size
      have hB3 := hB2'.trans (hb4.mono hz2)
      clear v4 hB2' hb4 hr1
      have hz3 := hB3.size
      obtain ⟨W4, hW4⟩ : ∃ W4, W4 = w3.alloc (.cells #[.slice (some ⟨g1, 0, none⟩) (n + 1) (n + 1), .slice (some ⟨g2, 0, none⟩) (n + 1) (n + 1)] 96) := ⟨_, rfl⟩
      have hB4 : Below w.heap.size w W4 := by rw [hW4]; exact hB3.alloc hz3 _
      have t7 : TalAt W4 w3.heap.size (some ⟨g1, 0, none⟩) (some ⟨g2, 0, none⟩) (n + 1) (n + 1) (n + 1) (n + 1) := by rw [hW4]; exact TalAt.new w3 _ _ _ _ _ _
      have t4 : TalAt W4 w.heap.size none none 0 0 0 0 := by rw [hW4]; exact u4.alloc _
      have p1 : RowZ W4 g1 (totF xs) := by rw [hW4]; exact hq1.alloc _
      have p2 : RowZ W4 g2 (totF ys) := by rw [hW4]; exact hr2.alloc _
      have i1 := p1.ints (n := n + 1) (by rw [totF_len, Hl.out.1]) (by omega)
      have i2 := p2.ints (n := n + 1) (by rw [totF_len, Hl.out.2]) (by omega)
      obtain ⟨k0, k1⟩ := t4.cells
      have f0 := t4.frozen 0
      have f1 := t4.frozen 1
      obtain ⟨m0, m1⟩ := t7.cells
      clear hB3 hq1 hr2 u4
      go_wp2_with (fail)
      rw [← hW4]
      clear hW4
      refine (reach_any W4 W4.heap.size W4.heap.size (some ⟨g1, 0, none⟩) (some ⟨g2, 0, none⟩) (n + 1) (n + 1) (n + 1) (n + 1) (totF xs) (totF ys) i1 i2 (Nat.le_refl _)).mono ?_
      rintro e W5 ⟨rfl, rfl⟩
      obtain ⟨rb, hrb⟩ : ∃ rb, rb = reachF (totF xs) (totF ys) := ⟨_, rfl⟩
      rw [← hrb]
      cases rb with
      | false =>
        have hte : tallyE xs ys = 14 := by unfold tallyE; rw [if_neg (by rw [Hs.out]; simp), if_neg (by rw [Hl.out.1, Hl.out.2]; simp), if_pos hrb.symm]
        have Ht := Lib.hid hte
        clear hte hrb
        have fin := t4.set none none 0 0 0 0
        have hBf := (hB4.setCell (p := ⟨w.heap.size, 0, none⟩) (Nat.le_refl _) (.slice none 0 0)).setCell (p := ⟨w.heap.size, 1, none⟩) (Nat.le_refl _) (.slice none 0 0)
        clear t4 hB4
        go_wp2_with (fail)
        refine bodyPost_ret (v := .tuple #[talV none none 0 0 0 0, .int .i64 14]) (tallyOf_results _ _ w.heap.size none none 0 0 0 0 _ fin (by simp) (by simp)) rfl ⟨.inl ?_, hBf⟩
        exact ⟨by rw [Ht.out]; simp, by rw [Ht.out]⟩
      | true =>
        have hte : tallyE xs ys = 0 := by unfold tallyE; rw [if_neg (by rw [Hs.out]; simp), if_neg (by rw [Hl.out.1, Hl.out.2]; simp), if_neg (by rw [← hrb]; simp)]
        have Ht := Lib.hid hte
        clear hte hrb
        have fin := t4.set (some ⟨g1, 0, none⟩) (some ⟨g2, 0, none⟩) (n + 1) (n + 1) (n + 1) (n + 1)
        have hBf := (hB4.setCell (p := ⟨w.heap.size, 0, none⟩) (Nat.le_refl _) (.slice (some ⟨g1, 0, none⟩) (n + 1) (n + 1))).setCell (p := ⟨w.heap.size, 1, none⟩) (Nat.le_refl _) (.slice (some ⟨g2, 0, none⟩) (n + 1) (n + 1))
        have P1 := Lib.hid ((p1.other (b := w.heap.size) (by omega) 0 (.slice (some ⟨g1, 0, none⟩) (n + 1) (n + 1))).other (b := w.heap.size) (by omega) 1 (.slice (some ⟨g2, 0, none⟩) (n + 1) (n + 1)))
        have P2 := Lib.hid ((p2.other (b := w.heap.size) (by omega) 0 (.slice (some ⟨g1, 0, none⟩) (n + 1) (n + 1))).other (b := w.heap.size) (by omega) 1 (.slice (some ⟨g2, 0, none⟩) (n + 1) (n + 1)))
        clear p1 p2 t4 hB4 i1 i2
        go_wp2_with (fail)
        refine bodyPost_ret (v := .tuple #[talV (some ⟨g1, 0, none⟩) (some ⟨g2, 0, none⟩) (n + 1) (n + 1) (n + 1) (n + 1), .int .i64 0]) (tallyOf_results _ _ w.heap.size _ _ _ _ _ _ _ fin (by simp) (by simp)) rfl ⟨.inr ⟨Ht.out, g1, g2, by omega, by omega, ?_, P1.out, P2.out⟩, hBf⟩
        rw [Hl.out.1]
end Go.Proofs.Ytjidllaaokdjhaa
