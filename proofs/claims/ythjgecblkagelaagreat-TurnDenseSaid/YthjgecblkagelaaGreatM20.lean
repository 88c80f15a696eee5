/- Parts of a proof: BG BH. -/
import Derived.Test.YthjgecblkagelaaGreatM19
import Derived.Laws.CopyRow
import Derived.Laws.MakeOwn
import Derived.Laws.CopyOwn

/- circle, Circle. -/
namespace Go.Proofs.YthjgecblkagelaaGreat
open Go.RowKit Go.Shelf

attribute [local go_sem] Oper.semAt_some

set_option maxRecDepth 100000 in
set_option maxHeartbeats 8000000 in
theorem circle_any (w : World) (B : Nat) (A : Option Addr) (n c ms ml : Nat) (ts : List Int) (hx : IntsAt w B A n ts) (hB : B ≤ w.heap.size) (hv : Valid ts)
    (m : List (Pl × Int)) (hm : MapAt Int encI w ms m) (hend : LEnds ts m) (win : Nat) (hw : IsWin ts win) :
    Calls Tryz.prog 49 #[.agg (tbc A n c ms ml)] w fun e w' => ∃ A' k c', e = .returned (.slice A' k c') ∧ (IntsAt w' w'.heap.size A' k (circP ts m win ((statesL ts).map plOf)).1 ∧ k ≤ c') ∧ Below w.heap.size w w' := by
  obtain ⟨i0, hi, hz0, hz1, hz2⟩ := info_parts infoInt
  have hn := hx.len
  have hmz := hm.lt
  have hmm := @run_makeMap Tryz.prog
  obtain ⟨V, hV⟩ : ∃ V, V = ((((w.alloc (.cells (tbc A n c ms ml) 60)).alloc (.cells #[.slice none 0 0] 22)).alloc (.cells #[.int .i64 1000] 3)).alloc (.map #[] 0)).alloc (.cells #[.map (some (w.heap.size + 1 + 1 + 1))] 109) := ⟨_, rfl⟩
  have hzV : V.heap.size = w.heap.size + 5 := by rw [hV]; simp
  have hbV : Below w.heap.size w V := by rw [hV]; exact (((((Below.refl _ w).alloc (Nat.le_refl _) _).alloc (by simp) _).alloc (by simp; omega) _).alloc (by simp; omega) _).alloc (by simp; omega) _
  have x0 : TbAt V w.heap.size A n c ms ml := by rw [hV]; exact ((((TbAt.new w A n c ms ml).alloc _).alloc _).alloc _).alloc _
  have x1 : Boxed V (w.heap.size + 1) 22 (.slice none 0 0) := by
    rw [hV]
    have := Boxed.new (w.alloc (.cells (tbc A n c ms ml) 60)) 22 (.slice none 0 0)
    simp only [World.size_alloc] at this
    exact ((this.alloc _).alloc _).alloc _
  have x2 : Boxed V (w.heap.size + 2) 3 (.int .i64 1000) := by
    rw [hV]
    have := Boxed.new ((w.alloc (.cells (tbc A n c ms ml) 60)).alloc (.cells #[.slice none 0 0] 22)) 3 (.int .i64 1000)
    simp only [World.size_alloc, Nat.add_assoc, Nat.reduceAdd] at this
    exact (this.alloc _).alloc _
  have x3 : MapAt Bool Value.bool V (w.heap.size + 3) [] := by
    rw [hV]
    have := MapAt.new (α := Bool) (enc := Value.bool) (((w.alloc (.cells (tbc A n c ms ml) 60)).alloc (.cells #[.slice none 0 0] 22)).alloc (.cells #[.int .i64 1000] 3))
    simp only [World.size_alloc, Nat.add_assoc, Nat.reduceAdd] at this
    exact this.alloc _
  have x4 : Boxed V (w.heap.size + 4) 109 (.map (some (w.heap.size + 3))) := by
    rw [hV]
    have := Boxed.new ((((w.alloc (.cells (tbc A n c ms ml) 60)).alloc (.cells #[.slice none 0 0] 22)).alloc (.cells #[.int .i64 1000] 3)).alloc (.map #[] 0)) 109 (.map (some (w.heap.size + 1 + 1 + 1)))
    simp only [World.size_alloc] at this
    exact this
  have HV := Lib.hid hV
  have Hh := Lib.hid (And.intro hn (And.intro hw hend))
  clear hn hw hend hV
  refine (callsIn_wide (n := 3)).1 ?_
  refine callsIn_of_wp_marks Tryz.func49 rfl trivial ?_ rfl
  simp only [Tryz.ntmps49, List.size_toArray, List.length_cons, List.length_nil, Nat.reduceAdd, Nat.reduceSub, Array.replicate_succ, Array.replicate_zero, List.push_toArray, List.append_toArray, List.nil_append, List.cons_append]
  gi_wp2_with (fail)
  rw [← HV.out]
  have hmax : ∀ r : Int, (∃ k : Nat, k < n ∧ ts[k]?.getD 0 = r) → (∀ j, j < n → ts[j]?.getD 0 ≤ r) → r = ts[win]?.getD 0 := by
    rintro r ⟨k, hk, rfl⟩ h
    have h1 := h win (by have := Hh.out.2.1.1; have := Hh.out.1; omega)
    have h2 := Hh.out.2.1.2.1 k (by have := Hh.out.1; omega)
    omega
  have hidx : ∀ r : Int, ((∃ k : Nat, k < n ∧ r = k ∧ ts[k]?.getD 0 = ts[win]?.getD 0 ∧ ∀ j, j < k → ts[j]?.getD 0 ≠ ts[win]?.getD 0) ∨ (r = -1 ∧ ∀ j, j < n → ts[j]?.getD 0 ≠ ts[win]?.getD 0)) → r = (win : Int) := by
    have hwn := Hh.out.2.1.1
    have hnn := Hh.out.1
    rintro r (⟨k, hk, rfl, h1, h2⟩ | ⟨-, h⟩)
    · rcases Nat.lt_trichotomy k win with hlt | h0 | hlt
      · exact absurd h1 (Hh.out.2.1.2.2 k hlt)
      · rw [h0]
      · exact absurd rfl (h2 win hlt)
    · exact absurd rfl (h win (by omega))
  have Vs : TbAt V.drew w.heap.size A n c ms ml := x0
  have Vb : Below w.heap.size w V.drew := hbV.trans ⟨rfl, rfl, rfl, Nat.le_refl _, fun _ _ => rfl⟩
  refine region_held (fun W' => TbAt W' w.heap.size A n c ms ml) (fun j => decide (j ≤ 10)) (by kernel_rfl) ?_
  intro KR hKR
  have hS0 := Vs
  refine wpAnyHI_takeE (i := 0) (v := .pointer (some ⟨w.heap.size, 0, none⟩)) (some 11) rfl rfl (by kernel_rfl) (by kernel_rfl) (by kernel_rfl) (by kernel_rfl) (by kernel_rfl) (fun _ _ _ h => h) hS0 (.inl ⟨by kernel_rfl, fun W' hS' => ?_⟩) ?_
  · obtain ⟨a0, a1, a2⟩ := TbAt.cells hS'
    go_simp
  refine wpAnyHI_takeE (i := 1) (v := .pointer (some ⟨w.heap.size, 0, none⟩)) (some 12) rfl rfl (by kernel_rfl) (by kernel_rfl) (by kernel_rfl) (by kernel_rfl) (by kernel_rfl) (fun _ _ _ h => h) hS0 (.inl ⟨by kernel_rfl, fun W' hS' => ?_⟩) ?_
  · obtain ⟨a0, a1, a2⟩ := TbAt.cells hS'
    go_simp
  refine wpAnyHI_takeE (i := 2) (v := .pointer (some ⟨w.heap.size, 0, none⟩)) (some 13) rfl rfl (by kernel_rfl) (by kernel_rfl) (by kernel_rfl) (by kernel_rfl) (by kernel_rfl) (fun _ _ _ h => h) hS0 (.inl ⟨by kernel_rfl, fun W' hS' => ?_⟩) ?_
  · obtain ⟨a0, a1, a2⟩ := TbAt.cells hS'
    go_simp
  refine wpAnyHI_takeE (i := 3) (v := .slice A n c) (some 14) rfl rfl (by kernel_rfl) (by kernel_rfl) (by kernel_rfl) (by kernel_rfl) (by kernel_rfl) (fun _ _ _ h => h) hS0 (.inl ⟨by kernel_rfl, fun W' hS' => ?_⟩) ?_
  · obtain ⟨a0, a1, a2⟩ := TbAt.cells hS'
    go_simp
  refine wpAnyHI_takeE (i := 4) (v := .pointer (some ⟨w.heap.size, 0, none⟩)) (some 15) rfl rfl (by kernel_rfl) (by kernel_rfl) (by kernel_rfl) (by kernel_rfl) (by kernel_rfl) (fun _ _ _ h => h) hS0 (.inl ⟨by kernel_rfl, fun W' hS' => ?_⟩) ?_
  · obtain ⟨a0, a1, a2⟩ := TbAt.cells hS'
    go_simp
  refine wpAnyHI_takeE (i := 5) (v := .pointer (some ⟨w.heap.size, 0, none⟩)) (some 16) rfl rfl (by kernel_rfl) (by kernel_rfl) (by kernel_rfl) (by kernel_rfl) (by kernel_rfl) (fun _ _ _ h => h) hS0 (.inl ⟨by kernel_rfl, fun W' hS' => ?_⟩) ?_
  · obtain ⟨a0, a1, a2⟩ := TbAt.cells hS'
    go_simp
  refine wpAnyHI_takeE (i := 6) (v := .pointer (some ⟨w.heap.size, 0, none⟩)) (some 17) rfl rfl (by kernel_rfl) (by kernel_rfl) (by kernel_rfl) (by kernel_rfl) (by kernel_rfl) (fun _ _ _ h => h) hS0 (.inl ⟨by kernel_rfl, fun W' hS' => ?_⟩) ?_
  · obtain ⟨a0, a1, a2⟩ := TbAt.cells hS'
    go_simp
  refine wpAnyHI_takeE (i := 7) (v := .slice A n c) (some 18) rfl rfl (by kernel_rfl) (by kernel_rfl) (by kernel_rfl) (by kernel_rfl) (by kernel_rfl) (fun _ _ _ h => h) hS0 (.inl ⟨by kernel_rfl, fun W' hS' => ?_⟩) ?_
  · obtain ⟨a0, a1, a2⟩ := TbAt.cells hS'
    go_simp
  have Us := Vs.alloc (.cells #[.int .i64 0] 3)
  have Ub := Vb.alloc (show w.heap.size ≤ V.drew.heap.size by show w.heap.size ≤ V.heap.size; omega) (.cells #[.int .i64 0] 3)
  have hfin : KR { tmps := #[.agg (tbc A n c ms ml), .pointer (some ⟨w.heap.size, 0, none⟩), .slice none 0 0, .pointer (some ⟨w.heap.size + 1, 0, none⟩), .pointer (some ⟨w.heap.size + 1 + 1, 0, none⟩), .pointer (some ⟨w.heap.size + 1 + 1 + 1 + 1, 0, none⟩), .pointer (some ⟨w.heap.size + 5, 0, none⟩), undef, undef, undef, .map (some (w.heap.size + 1 + 1 + 1)), .pointer (some ⟨w.heap.size, 0, none⟩), .pointer (some ⟨w.heap.size, 0, none⟩), .pointer (some ⟨w.heap.size, 0, none⟩), .slice A n c, .pointer (some ⟨w.heap.size, 0, none⟩), .pointer (some ⟨w.heap.size, 0, none⟩), .pointer (some ⟨w.heap.size, 0, none⟩), .slice A n c, .int .i64 (ts[win]?.getD 0), .int .i64 (win : Int), undef, undef, undef, undef, undef, undef, undef, undef, undef, undef, undef, undef, undef, undef, undef, undef, undef, undef, undef, undef, undef, undef, undef, undef, undef, undef, undef, undef, undef, undef, undef, undef, undef, undef], defers := [] } (V.drew.alloc (.cells #[.int .i64 (win : Int)] 3)) := by
    refine hKR _ _ ?_
    clear hKR KR hS0 Us Ub Vs Vb hmax hidx
    have hbb : Below V.heap.size V (V.drew.alloc (.cells #[.int .i64 (win : Int)] 3)) := (⟨rfl, rfl, rfl, Nat.le_refl _, fun _ _ => rfl⟩ : Below V.heap.size V V.drew).alloc (Nat.le_refl _) _
    have y5 : Boxed (V.drew.alloc (.cells #[.int .i64 (win : Int)] 3)) (w.heap.size + 5) 3 (.int .i64 (win : Int)) := by
      have := Boxed.new V.drew 3 (.int .i64 (win : Int))
      rwa [show V.drew.heap.size = w.heap.size + 5 from hzV] at this
    have hz6 : w.heap.size + 6 ≤ (V.drew.alloc (.cells #[.int .i64 (win : Int)] 3)).heap.size := by rw [World.size_alloc, show V.drew.heap.size = w.heap.size + 5 from hzV]; omega
    obtain ⟨V6, hV6⟩ : ∃ V6, V6 = V.drew.alloc (.cells #[.int .i64 (win : Int)] 3) := ⟨_, rfl⟩
    rw [← hV6] at hbb y5 hz6 ⊢
    clear hV6
    have y0 := x0.below hbb x0.lt
    have y1 := bxBelow x1 hbb x1.lt
    have y2 := bxBelow x2 hbb x2.lt
    have y3 := x3.below hbb x3.lt
    have y4 := bxBelow x4 hbb x4.lt
    have hB6 : Below w.heap.size w V6 := hbV.trans (hbb.mono (by omega))
    obtain ⟨t0, t1, t2⟩ := y0.cells
    clear x0 x1 x2 x3 x4 hbb hbV HV hzV
    clear V
    gi_wp2_with (fail)
    refine ⟨trivial, (callsIn_wide.2 (places_box _ _ _ _)).mono ?_⟩
    rintro e w2 ⟨Bh, rfl, hBh, hgh, hb2⟩
    have hzw2 := hb2.size
    have hB2 : Below w.heap.size w w2 := hB6.trans (hb2.mono (by omega))
    have hG : CcB w w2.heap.size A n c ms ml win m ([], 1000) noBlock w2 := ⟨fun _ h => h.elim, Nat.le_refl _, y0.below hb2 y0.lt, ⟨none, 0, 0, bxBelow y1 hb2 y1.lt, IntsAt.nil, Nat.le_refl _, fun a h => by cases h⟩, bxBelow y2 hb2 y2.lt, ⟨[], y3.below hb2 y3.lt⟩, bxBelow y4 hb2 y4.lt, bxBelow y5 hb2 y5.lt, hm.below hB2 hmz, hB2⟩
    have hH : w.heap.size + 6 ≤ w2.heap.size := by omega
    clear y0 y1 y2 y3 y4 y5 t0 t1 t2 hb2
    have hv5 := hv.h5
    have hv1 := hv.h1
    have hnn := Hh.out.1
    have Hn := Lib.hid hnn
    have hn5 : n ≤ 5 := by omega
    have hn1 : 1 ≤ n := by omega
    clear hnn hv5 hv1
    gi_wp2_with (fail)
    refine range_pl (P := Tryz.prog) (gf := 98) rfl (enters_of Tryz.func98 (by kernel_rfl) rfl) (encs := fun d : {d // d ∈ statesL ts} => #[plv (plOf d.1)]) (fun d => plOf d.1) (n₀ := w.heap.size)
      (places1_any w2 Bh w.heap.size A n c ts hBh hB2.size ((hx.below hB2 hB).more hB) hn1 hn5 (fun i hi => hv.h12 i (by have := Hn.out; omega))) (Below.refl _ _) (by rintro k rfl; exact hBh.lt) hB2.size (fun _ => rfl)
      (fun pre X W => CcB w w2.heap.size A n c ms ml win m (circP ts m win (pm pre)) X W)
      (fun _ _ _ _ => False)
      ?hI (fun _ _ _ _ _ _ h => h.elim) ?h0 ?a1 ?assign ?body ?done ?stop
    case assign =>
      intro l x W b K hb hK
      gi_wp2
      rw [← hb]
      exact hK
    case hI =>
      rintro pre X X' W W' h hst hgr
      exact h.st hst hgr hH hmz
    case h0 => exact hG
    case stop => exact fun _ _ _ _ _ _ _ h => h.elim
    case done =>
      rintro D xs X W hD hS hC hK
      obtain ⟨A', k, c', v1, v2, v30, -⟩ := hC.bc
      have hc := v1.cell
      have HC := Lib.hid (And.intro hC.bel hS)
      clear hS hC
      gi_wp2_with (fail)
      refine ⟨by simp, .inl ⟨_, _, rfl, run_takeDeferred hK, ?_⟩⟩
      refine ⟨_, results_tmp rfl _ _ _, A', k, c', rfl, ⟨?_, v30⟩, below_put HC.out.1 hK (by omega)⟩
      have e : pm xs = (statesL ts).map plOf := by rw [← HC.out.2]; simp [pm]
      rw [← e]
      refine ints_at v2 (by simp) fun a ha h0 => ?_
      subst ha
      obtain ⟨o, ho, hc⟩ := ints_block v2 h0
      exact World.putObj_heap_other (by rintro rfl; rw [hK] at ho; cases ho; cases hc)
    case body =>
      rintro l pre x0 X b W hC zb hbz hWz hXz hlen
      have hsn := circP_snoc ts m win (pm pre) (plOf x0.1)
      rw [← pm_snoc] at hsn
      have hgood : PlGood ts (plOf x0.1) := ⟨plOf_ok x0.2 hv.h5 (fun i hi => by have := hv.h12 i hi; omega), by simp [plOf, (states_mem x0.2).1]⟩
      have hlim := circP_lim ts m win (pm pre)
      obtain ⟨x, hxx⟩ : ∃ x, x = plOf x0.1 := ⟨_, rfl⟩
      have zb : PlAt W b x := by rw [hxx]; exact zb
      rw [← hxx] at hsn hgood
      have hxin : x ∈ (statesL ts).map plOf := by rw [hxx]; exact List.mem_map.2 ⟨x0.1, x0.2, rfl⟩
      clear hxx
      obtain ⟨s, hs⟩ : ∃ s, s = circP ts m win (pm pre) := ⟨_, rfl⟩
      rw [← hs] at hC hsn hlim
      clear hs
      have hwin5 : win < 5 := by have := Hh.out.2.1.1; have := Hn.out; omega
      have hX := hC.hX
      have hbe := hC.bel.size
      have Hsn := Lib.hid (And.intro hsn (And.intro hXz hX))
      clear hsn hXz hX
      obtain ⟨A', k, c', v1, v2, v30, v3⟩ := hC.bc
      have Hv := Lib.hid v3
      clear v3
      obtain ⟨t0, t1, t2⟩ := hC.tb.cells
      obtain ⟨e0, e1, e2, e3, e4, e5⟩ := zb.cells
      have hget := zb.get hwin5
      have c5 := hC.bw.cell
      have c2 : W.cell? ⟨w.heap.size + 1 + 1, 0, none⟩ = some (.int .i64 s.2) := hC.bl.cell
      have c4 : W.cell? ⟨w.heap.size + 1 + 1 + 1 + 1, 0, none⟩ = some (.map (some (w.heap.size + 3))) := hC.bm.cell
      have hwi : (win : Int) < 5 := by omega
      obtain ⟨y, hy⟩ : ∃ y, y = x.get win := ⟨_, rfl⟩
      rw [← hy] at hget
      have Hy := Lib.hid hy
      clear hy
      by_cases hgt : 0 < y
      · have hst : circStep ts m win s x = s := by unfold circStep; rw [if_pos (by rw [← Hy.out]; exact hgt)]
        have Hst := Lib.hid hst
        clear hst
        gi_wp2_with (fail)
        refine ⟨trivial, ?_⟩
        gi_wp2_with (fail)
        refine ⟨KeepsFrom.refl _ _, Keep.refl _, ?_⟩
        show CcB w w2.heap.size A n c ms ml win m (circP ts m win (pm (pre ++ [x0]))) X W
        rw [Hsn.out.1, Hst.out]
        exact hC
      · have hngt : ¬ 0 < y := hgt
        gi_wp2_with (fail)
        refine ⟨trivial, (CallsIn.inRound l (callsIn_wide.2 (isSafe_any W A n c ms ml m hC.msafe x))).mono ?_⟩
        rintro e W3 ⟨rfl, hb3⟩
        have hC3 := hC.st (St.of_below hb3) (Grows.refl _ _) hH hmz
        have zb3 := zb.below hb3 zb.lt
        have hz3 := hb3.size
        obtain ⟨sb, hsb⟩ : ∃ sb, sb = decide (0 < mget 0 m x) := ⟨_, rfl⟩
        rw [← hsb]
        clear t0 t1 t2 e0 e1 e2 e3 e4 e5 c5 c2 c4 hget
        obtain ⟨t0, t1, t2⟩ := hC3.tb.cells
        obtain ⟨e0, e1, e2, e3, e4, e5⟩ := zb3.cells
        have c2 : W3.cell? ⟨w.heap.size + 1 + 1, 0, none⟩ = some (.int .i64 s.2) := hC3.bl.cell
        have c4 : W3.cell? ⟨w.heap.size + 1 + 1 + 1 + 1, 0, none⟩ = some (.map (some (w.heap.size + 3))) := hC3.bm.cell
        cases sb
        · have hst : circStep ts m win s x = s := by unfold circStep; rw [if_neg (by rw [← Hy.out]; omega), if_neg (by simpa using hsb.symm)]
          have Hst := Lib.hid hst
          clear hst hsb
          gi_wp2_with (fail)
          refine ⟨KeepsFrom.of_below hb3, Keep.of_below hb3 (by omega), ?_⟩
          show CcB w w2.heap.size A n c ms ml win m (circP ts m win (pm (pre ++ [x0]))) X W3
          rw [Hsn.out.1, Hst.out]
          exact hC3
        · have hst : circStep ts m win s x = circV s (loopE ts m x s.2) := by unfold circStep; rw [if_neg (by rw [← Hy.out]; omega), if_pos (by simpa using hsb.symm)]
          obtain ⟨r, hr⟩ : ∃ r, r = loopE ts m x s.2 := ⟨_, rfl⟩
          have hend := Hh.out.2.2.at hxin s.2 hlim.1
          rw [← hr] at hst hend
          clear hr
          have Hst := Lib.hid (And.intro hst hend)
          clear hst hsb hend
          obtain ⟨m', hsn3⟩ := hC3.seen
          gi_wp2_with (fail)
          refine ⟨trivial, (CallsIn.inRound l (callsIn_wide.2 (loop_any W3 w.heap.size A n c ms ml (w.heap.size + 3) ts ((hx.below hC3.bel hB).more hB) (by omega) hv m hC3.msafe (by omega) m' hsn3 x hgood s.2 hlim.1 r Hst.out.2))).mono ?_⟩
          rintro e W4 ⟨hbut, ⟨m4, hsn4⟩, A4, k4, c4', rfl, hi4⟩
          have hz4 := hbut.base.size
          have keep4 : ∀ (k : Nat) (o : Obj), W3.heap[k]? = some o → k ≠ w.heap.size + 3 → W4.heap[k]? = some o := fun k o hk hne => (hbut.same k (Array.getElem?_eq_some_iff.1 hk).1 hne).trans hk
          have hC4 : CcB w w2.heap.size A n c ms ml win m s X W4 := by
            obtain ⟨A', k, c', u1, u2, u30, u3⟩ := hC3.bc
            refine ⟨hC3.hX, by have := hC3.hz; omega, keep4 _ _ hC3.tb (by omega), ⟨A', k, c', keep4 _ _ u1 (by omega), ints_at u2 hz4 fun a ha h0 => ?_, u30, u3⟩, keep4 _ _ hC3.bl (by omega), ⟨m4, hsn4⟩, keep4 _ _ hC3.bm (by omega), keep4 _ _ hC3.bw (by omega), ?_, hC3.bel.trans (hbut.below (by omega) (fun k hk => by subst hk; omega))⟩
            · subst ha
              obtain ⟨o, ho, hc⟩ := ints_block u2 h0
              obtain ⟨ob, hob, hobc, -⟩ := hC3.seen.choose_spec.obj
              exact hbut.same _ (Array.getElem?_eq_some_iff.1 ho).1 (by rintro h; rw [h] at ho; rw [hob] at ho; cases ho; rw [hobc] at hc; cases hc)
            · obtain ⟨es, clock, hh, hr⟩ := hC3.msafe
              exact ⟨es, clock, keep4 _ _ hh (by omega), hr⟩
          have hK4 : KeepsFrom w2.heap.size W W4 := (KeepsFrom.of_below hb3).trans ⟨hz4, fun k o hk hh _ => keep4 k o hh (by omega)⟩
          have hXs : ¬ X (w.heap.size + 3) := fun h => by have := Hsn.out.2.2 _ h; omega
          have hk4 : Keep w.heap.size (fun k => k = Bh) X W W4 := (Keep.of_below hb3 (by omega)).trans ⟨hbut.below (by omega) (fun k hk => by subst hk; omega), fun k o hk hc => keep4 k o hk (by
            rintro rfl
            rcases hc with h | h
            · exact hXs h
            · omega)⟩
          clear t0 t1 t2 e0 e1 e2 e3 e4 e5 c2 c4
          obtain ⟨row, ok⟩ := r
          dsimp only at hi4 ⊢
          cases ok
          · gi_wp2_with (fail)
            refine ⟨hK4, hk4, ?_⟩
            show CcB w w2.heap.size A n c ms ml win m (circP ts m win (pm (pre ++ [x0]))) X W4
            rw [Hsn.out.1, Hst.out.1]
            exact hC4
          · have hne := (loopN_ne _ Hst.out.2).1
            have hl4 := hi4.len
            have hk0 : 0 < k4 := by
              rcases Nat.eq_zero_or_pos k4 with h | h
              · exact absurd (List.eq_nil_of_length_eq_zero (by omega)) hne
              · exact h
            have hk1 : k4 ≤ 1000000 := by
              obtain ⟨-, j, s0, -, q, -, h2, h3⟩ := loopN_ne _ Hst.out.2
              omega
            obtain ⟨a4, rfl⟩ : ∃ a, A4 = some a := by
              obtain ⟨b', o', e', -⟩ := hi4.2.2 hk0
              exact ⟨_, e'⟩
            have Hr := Lib.hid (And.intro hne hl4)
            clear hne hl4
            obtain ⟨mc, hmc, hmks⟩ : ∃ mc : Array Value, mc.size = k4 ∧ ∀ W : World, (Instr.makeSlice 22 (.int .i64 (k4 : Int)) (.int .i64 (k4 : Int))).run Tryz.prog W = .ok (.slice (some ⟨W.heap.size, 0, none⟩) k4 k4) (W.alloc (.cells mc 3)) := by
              refine ⟨madeCells (Value.int .i64 0).cells ((k4 : Int).toNat * i0.size), ?_, fun W => ?_⟩
              · rw [size_madeCells, hz1]
                simp
              · have := run_makeSlice (P := Tryz.prog) (w := W) 22 3 i0 (.int .i64 0) Tryz.underlying22 hi hz0 .i64 .i64 k4 k4 (by omega) (by omega) (by rw [hz1]; simp; omega) (by rw [hz2]; omega) (by omega)
                exact this
            obtain ⟨A1, k1, c1', u1, -, -, -⟩ := hC4.bc
            have c1 := u1.cell
            have f1 := u1.frozen
            have hl1 : w.heap.size + 1 < W4.heap.size := by omega
            obtain ⟨arr, harr⟩ : ∃ arr, arr = (mc.toList.take 0 ++ row.map (Value.int .i64) ++ mc.toList.drop (0 + (row.map (Value.int .i64)).length)).toArray := ⟨_, rfl⟩
            obtain ⟨Wr, hWr⟩ : ∃ Wr, Wr = ((W4.setCell ⟨w.heap.size + 1, 0, none⟩ (.slice (some ⟨W4.heap.size, 0, none⟩) k4 k4)).alloc (.cells mc 3)).setRow W4.heap.size arr := ⟨_, rfl⟩
            have hzc : (W4.setCell ⟨w.heap.size + 1, 0, none⟩ (.slice (some ⟨W4.heap.size, 0, none⟩) k4 k4)).heap.size = W4.heap.size := by simp [World.setCell]
            have hgc : ((W4.setCell ⟨w.heap.size + 1, 0, none⟩ (.slice (some ⟨W4.heap.size, 0, none⟩) k4 k4)).alloc (.cells mc 3)).heap[W4.heap.size]? = some (.cells mc 3 (0, 0)) := by
              have := World.alloc_heap_new (W4.setCell ⟨w.heap.size + 1, 0, none⟩ (.slice (some ⟨W4.heap.size, 0, none⟩) k4 k4)) (.cells mc 3)
              rwa [hzc] at this
            have hint : ∀ j u, (row.map (Value.int .i64))[j]? = some u → ((W4.setCell ⟨w.heap.size + 1, 0, none⟩ (.slice (some ⟨W4.heap.size, 0, none⟩) k4 k4)).alloc (.cells mc 3)).cell? (a4.add j) = some u := by
              have : IntsAt ((W4.setCell ⟨w.heap.size + 1, 0, none⟩ (.slice (some ⟨W4.heap.size, 0, none⟩) k4 k4)).alloc (.cells mc 3)) W4.heap.size (some a4) k4 row := ints_at (W' := (W4.setCell ⟨w.heap.size + 1, 0, none⟩ (.slice (some ⟨W4.heap.size, 0, none⟩) k4 k4)).alloc (.cells mc 3)) hi4 (Nat.le_refl _) fun a ha h0 => by
                have h2 := ints_not_box hi4 u1 a ha h0
                cases ha
                obtain ⟨o, ho, -⟩ := ints_block hi4 h0
                have h3 := (Array.getElem?_eq_some_iff.1 ho).1
                exact (Below.heap_alloc _ _ _ (by rw [hzc]; exact h3)).trans (Below.heap_setCell _ ⟨w.heap.size + 1, 0, none⟩ _ _ h2)
              exact ints_cells this
            have hcp : (Builtin.copy_ #[22, 22] 3 #[.slice (some ⟨W4.heap.size, 0, none⟩) k4 k4, .slice (some a4) k4 c4']).run Tryz.prog ((W4.setCell ⟨w.heap.size + 1, 0, none⟩ (.slice (some ⟨W4.heap.size, 0, none⟩) k4 k4)).alloc (.cells mc 3)) = .ok (goInt (row.map (Value.int .i64)).length) Wr := by
              rw [hWr, harr]
              exact run_copy_row (P := Tryz.prog) _ 22 22 3 3 W4.heap.size 0 k4 k4 a4 k4 c4' mc 3 (row.map (Value.int .i64)) Tryz.underlying22 (by rw [hi]; simp [hz1]) hgc (by simp [Hr.out.2]) hint (by simp [hmc, Hr.out.2]) (by simp [Value.oneCell'])
            have hrK : ∀ k, k < W4.heap.size → k ≠ w.heap.size + 1 → Wr.heap[k]? = W4.heap[k]? := fun k hk hne => by
              rw [hWr]
              exact (setRow_other _ W4.heap.size k _ (by omega)).trans ((Below.heap_alloc _ _ _ (by rw [hzc]; exact hk)).trans (Below.heap_setCell _ ⟨w.heap.size + 1, 0, none⟩ _ _ hne))
            have hr1 : Boxed Wr (w.heap.size + 1) 22 (.slice (some ⟨W4.heap.size, 0, none⟩) k4 k4) := by
              rw [hWr]
              exact (setRow_other _ W4.heap.size _ _ (by omega)).trans ((Below.heap_alloc _ _ _ (by rw [hzc]; exact hl1)).trans (u1.set _))
            have hrz : Wr.heap.size = W4.heap.size + 1 := by rw [hWr]; simp [World.setCell]
            have hrG : IntsAt Wr Wr.heap.size (some ⟨W4.heap.size, 0, none⟩) k4 row := by
              have hg := setRow_heap ((W4.setCell ⟨w.heap.size + 1, 0, none⟩ (.slice (some ⟨W4.heap.size, 0, none⟩) k4 k4)).alloc (.cells mc 3)) W4.heap.size mc arr 3 (0, 0) hgc
              rw [← hWr] at hg
              refine ⟨Hr.out.2, by omega, fun _ => ⟨W4.heap.size, 0, rfl, by omega, fun j hj => ?_⟩⟩
              simp only [World.cell?, hg, harr, Nat.zero_add]
              have hj' : j < (row.map (Value.int .i64)).length := by simp [Hr.out.2, hj]
              simp [List.getElem?_append_left, Hr.out.2, hj]
            have hc2 : Wr.cell? ⟨w.heap.size + 1 + 1, 0, none⟩ = some (.int .i64 s.2) := (World.cell?_of_block (a := ⟨w.heap.size + 1 + 1, 0, none⟩) (hrK (w.heap.size + 2) (by omega) (by omega))).trans hC4.bl.cell
            have hf2 : Wr.frozen? ⟨w.heap.size + 1 + 1, 0, none⟩ = false := (World.frozen?_of_block (a := ⟨w.heap.size + 1 + 1, 0, none⟩) (hrK (w.heap.size + 2) (by omega) (by omega))).trans hC4.bl.frozen
            have hBr : Below w.heap.size W4 Wr := by
              rw [hWr]
              exact below_setRow (((Below.refl _ _).setCell (p := ⟨w.heap.size + 1, 0, none⟩) (show w.heap.size ≤ w.heap.size + 1 by omega) _).alloc (by rw [hzc]; omega) _) (by omega) _
            have Hw := Lib.hid (And.intro hrK (And.intro hr1 (And.intro hrz (And.intro hrG hBr))))
            have hwk : IntKind.i64.wrap ((k4 : Int) - 1) = (k4 : Int) - 1 := by rw [IntKind.wrap_i64]; omega
            clear hWr harr hzc hgc hint hrK hr1 hrz hrG hBr
            gi_wp2_with (fail)
            obtain ⟨hrK, hr1, hrz, hrG, hBr⟩ := Hw.out
            have keep5 : ∀ (k : Nat) (o : Obj), W4.heap[k]? = some o → k ≠ w.heap.size + 1 → k ≠ w.heap.size + 2 → (Wr.setCell ⟨w.heap.size + 1 + 1, 0, none⟩ (.int .i64 ((k4 : Int) - 1))).heap[k]? = some o := fun k o hk h1 h2 =>
              (Below.heap_setCell _ ⟨w.heap.size + 1 + 1, 0, none⟩ _ _ h2).trans ((hrK k (Array.getElem?_eq_some_iff.1 hk).1 h1).trans hk)
            have hz5 : (Wr.setCell ⟨w.heap.size + 1 + 1, 0, none⟩ (.int .i64 ((k4 : Int) - 1))).heap.size = W4.heap.size + 1 := by simp [World.setCell, hrz]
            have hB5 : Below w.heap.size W4 (Wr.setCell ⟨w.heap.size + 1 + 1, 0, none⟩ (.int .i64 ((k4 : Int) - 1))) := hBr.setCell (p := ⟨w.heap.size + 1 + 1, 0, none⟩) (show w.heap.size ≤ w.heap.size + 1 + 1 by omega) _
            have hX1 : ¬ X (w.heap.size + 1) := fun h => by have := Hsn.out.2.2 _ h; omega
            have hX2 : ¬ X (w.heap.size + 2) := fun h => by have := Hsn.out.2.2 _ h; omega
            refine ⟨hK4.trans ⟨by omega, fun k o hk hh _ => keep5 k o hh (by omega) (by omega)⟩, hk4.trans ⟨hB5, fun k o hk hc => keep5 k o hk ?_ ?_⟩, ?_⟩
            · rintro rfl
              rcases hc with h | h
              · exact hX1 h
              · omega
            · rintro rfl
              rcases hc with h | h
              · exact hX2 h
              · omega
            · show CcB w w2.heap.size A n c ms ml win m (circP ts m win (pm (pre ++ [x0]))) X _
              rw [Hsn.out.1, Hst.out.1]
              have ev : circV s (row, true) = (row, (k4 : Int) - 1) := by unfold circV; rw [if_pos rfl, Hr.out.2]
              rw [ev]
              have hl2 : Boxed Wr (w.heap.size + 2) 3 (.int .i64 s.2) := (hrK _ (by omega) (by omega)).trans hC4.bl
              obtain ⟨o1, ho1, ho1c, -⟩ := hC4.msafe.obj
              obtain ⟨o2, ho2, ho2c, -⟩ := hsn4.obj
              refine ⟨hC4.hX, by have := hC4.hz; omega, keep5 _ _ hC4.tb (by omega) (by omega), ⟨some ⟨W4.heap.size, 0, none⟩, k4, k4, (Below.heap_setCell _ ⟨w.heap.size + 1 + 1, 0, none⟩ _ _ (show w.heap.size + 1 ≠ w.heap.size + 1 + 1 by omega)).trans hr1, ints_at hrG (by omega) fun a ha h0 => ?_, Nat.le_refl _, fun a ha h0 => ?_⟩, hl2.set _,
                ⟨m4, hsn4.same ((keep5 _ _ ho2 (by omega) (by omega)).trans ho2.symm)⟩, keep5 _ _ hC4.bm (by omega) (by omega), keep5 _ _ hC4.bw (by omega) (by omega), hC4.msafe.same ((keep5 _ _ ho1 (by omega) (by omega)).trans ho1.symm), hC4.bel.trans hB5⟩
              · cases ha
                exact Below.heap_setCell _ ⟨w.heap.size + 1 + 1, 0, none⟩ _ _ (show W4.heap.size ≠ w.heap.size + 1 + 1 by omega)
              · cases ha
                exact fun h => by have := (Hsn.out.2.1 _ h).2; simp only at this; omega
  refine wpAnyHI_two (i := 8) (j := 10) rfl rfl (by kernel_rfl) ?_ ?_
  · intro K1 hK1
    go_simp
    refine ⟨trivial, (callsIn_wide.2 (max_any V.drew B A n c ts (hx.below Vb hB) (by have := hv.h1; have := Hh.out.1; omega))).mono ?_⟩
    rintro e w8 ⟨r8, rfl, rfl, hr1, hr2⟩
    obtain rfl := hmax r8 hr1 hr2
    clear hr1 hr2
    refine hK1 _ _ ⟨fun _ => Vs, ?_⟩
    clear hK1 K1
    refine wpAnyHI_two (i := 9) (j := 10) rfl rfl (by kernel_rfl) ?_ ?_
    · intro K1 hK1
      go_simp
      refine ⟨trivial, (callsIn_wide.2 (index_any V.drew B A n c ts (ts[win]?.getD 0) (hx.below Vb hB))).mono ?_⟩
      rintro e w9 ⟨r9, rfl, rfl, hr9⟩
      obtain rfl := hidx r9 hr9
      clear hr9
      refine hK1 _ _ ⟨fun _ => Vs, ?_⟩
      clear hK1 K1
      refine wpAnyHI_one (i := 10) rfl (by kernel_rfl) ?_
      intro K1 hK1
      go_simp
      refine hK1 _ _ ⟨fun _ => Us, ?_⟩
      clear hK1 K1
      refine wpAnyHI_one (i := 11) rfl (by kernel_rfl) ?_
      intro K1 hK1
      go_simp
      refine hK1 _ _ ⟨fun h => (by cases h), ?_⟩
      clear hK1 K1
      refine wpAnyHI_end (by kernel_rfl) ?_
      show KR _ _
      refine act_eq (K := KR) (a' := { tmps := #[.agg (tbc A n c ms ml), .pointer (some ⟨w.heap.size, 0, none⟩), .slice none 0 0, .pointer (some ⟨w.heap.size + 1, 0, none⟩), .pointer (some ⟨w.heap.size + 1 + 1, 0, none⟩), .pointer (some ⟨w.heap.size + 1 + 1 + 1 + 1, 0, none⟩), .pointer (some ⟨w.heap.size + 5, 0, none⟩), undef, undef, undef, .map (some (w.heap.size + 1 + 1 + 1)), .pointer (some ⟨w.heap.size, 0, none⟩), .pointer (some ⟨w.heap.size, 0, none⟩), .pointer (some ⟨w.heap.size, 0, none⟩), .slice A n c, .pointer (some ⟨w.heap.size, 0, none⟩), .pointer (some ⟨w.heap.size, 0, none⟩), .pointer (some ⟨w.heap.size, 0, none⟩), .slice A n c, .int .i64 (ts[win]?.getD 0), .int .i64 (win : Int), undef, undef, undef, undef, undef, undef, undef, undef, undef, undef, undef, undef, undef, undef, undef, undef, undef, undef, undef, undef, undef, undef, undef, undef, undef, undef, undef, undef, undef, undef, undef, undef, undef, undef], defers := [] }) (by kernel_rfl) ?_
      exact hfin
    · intro K1 hK1
      go_simp
      refine hK1 _ _ ⟨fun _ => Us, ?_⟩
      clear hK1 K1
      refine wpAnyHI_one (i := 9) rfl (by kernel_rfl) ?_
      intro K1 hK1
      go_simp
      refine ⟨trivial, (callsIn_wide.2 (index_any (V.drew.alloc (.cells #[.int .i64 0] 3)) B A n c ts (ts[win]?.getD 0) (hx.below Ub hB))).mono ?_⟩
      rintro e w9 ⟨r9, rfl, rfl, hr9⟩
      obtain rfl := hidx r9 hr9
      clear hr9
      refine hK1 _ _ ⟨fun _ => Us, ?_⟩
      clear hK1 K1
      refine wpAnyHI_one (i := 11) rfl (by kernel_rfl) ?_
      intro K1 hK1
      go_simp
      refine hK1 _ _ ⟨fun h => (by cases h), ?_⟩
      clear hK1 K1
      refine wpAnyHI_end (by kernel_rfl) ?_
      show KR _ _
      refine act_eq (K := KR) (a' := { tmps := #[.agg (tbc A n c ms ml), .pointer (some ⟨w.heap.size, 0, none⟩), .slice none 0 0, .pointer (some ⟨w.heap.size + 1, 0, none⟩), .pointer (some ⟨w.heap.size + 1 + 1, 0, none⟩), .pointer (some ⟨w.heap.size + 1 + 1 + 1 + 1, 0, none⟩), .pointer (some ⟨w.heap.size + 5, 0, none⟩), undef, undef, undef, .map (some (w.heap.size + 1 + 1 + 1)), .pointer (some ⟨w.heap.size, 0, none⟩), .pointer (some ⟨w.heap.size, 0, none⟩), .pointer (some ⟨w.heap.size, 0, none⟩), .slice A n c, .pointer (some ⟨w.heap.size, 0, none⟩), .pointer (some ⟨w.heap.size, 0, none⟩), .pointer (some ⟨w.heap.size, 0, none⟩), .slice A n c, .int .i64 (ts[win]?.getD 0), .int .i64 (win : Int), undef, undef, undef, undef, undef, undef, undef, undef, undef, undef, undef, undef, undef, undef, undef, undef, undef, undef, undef, undef, undef, undef, undef, undef, undef, undef, undef, undef, undef, undef, undef, undef, undef, undef], defers := [] }) (by kernel_rfl) ?_
      exact hfin
  · intro K1 hK1
    go_simp
    refine hK1 _ _ ⟨fun _ => Us, ?_⟩
    clear hK1 K1
    refine wpAnyHI_one (i := 8) rfl (by kernel_rfl) ?_
    intro K1 hK1
    go_simp
    refine ⟨trivial, (callsIn_wide.2 (max_any (V.drew.alloc (.cells #[.int .i64 0] 3)) B A n c ts (hx.below Ub hB) (by have := hv.h1; have := Hh.out.1; omega))).mono ?_⟩
    rintro e w8 ⟨r8, rfl, rfl, hr1, hr2⟩
    obtain rfl := hmax r8 hr1 hr2
    clear hr1 hr2
    refine hK1 _ _ ⟨fun _ => Us, ?_⟩
    clear hK1 K1
    refine wpAnyHI_one (i := 9) rfl (by kernel_rfl) ?_
    intro K1 hK1
    go_simp
    refine ⟨trivial, (callsIn_wide.2 (index_any (V.drew.alloc (.cells #[.int .i64 0] 3)) B A n c ts (ts[win]?.getD 0) (hx.below Ub hB))).mono ?_⟩
    rintro e w9 ⟨r9, rfl, rfl, hr9⟩
    obtain rfl := hidx r9 hr9
    clear hr9
    refine hK1 _ _ ⟨fun _ => Us, ?_⟩
    clear hK1 K1
    refine wpAnyHI_one (i := 11) rfl (by kernel_rfl) ?_
    intro K1 hK1
    go_simp
    refine hK1 _ _ ⟨fun h => (by cases h), ?_⟩
    clear hK1 K1
    refine wpAnyHI_end (by kernel_rfl) ?_
    show KR _ _
    refine act_eq (K := KR) (a' := { tmps := #[.agg (tbc A n c ms ml), .pointer (some ⟨w.heap.size, 0, none⟩), .slice none 0 0, .pointer (some ⟨w.heap.size + 1, 0, none⟩), .pointer (some ⟨w.heap.size + 1 + 1, 0, none⟩), .pointer (some ⟨w.heap.size + 1 + 1 + 1 + 1, 0, none⟩), .pointer (some ⟨w.heap.size + 5, 0, none⟩), undef, undef, undef, .map (some (w.heap.size + 1 + 1 + 1)), .pointer (some ⟨w.heap.size, 0, none⟩), .pointer (some ⟨w.heap.size, 0, none⟩), .pointer (some ⟨w.heap.size, 0, none⟩), .slice A n c, .pointer (some ⟨w.heap.size, 0, none⟩), .pointer (some ⟨w.heap.size, 0, none⟩), .pointer (some ⟨w.heap.size, 0, none⟩), .slice A n c, .int .i64 (ts[win]?.getD 0), .int .i64 (win : Int), undef, undef, undef, undef, undef, undef, undef, undef, undef, undef, undef, undef, undef, undef, undef, undef, undef, undef, undef, undef, undef, undef, undef, undef, undef, undef, undef, undef, undef, undef, undef, undef, undef, undef], defers := [] }) (by kernel_rfl) ?_
    exact hfin
end Go.Proofs.YthjgecblkagelaaGreat

/- Circle. -/
namespace Go.Proofs.YthjgecblkagelaaGreat
open Go.RowKit Go.Shelf

attribute [local go_sem] Oper.semAt_some

def emptyP (ts : List Int) : Pl := ⟨ts.length, 0, 0, 0, 0, 0⟩
noncomputable def circleR (ts : List Int) (win : Nat) : List Int × Int := if checkHallF ts ≠ 0 then ([], checkHallF ts) else if 0 < mget 0 (tabE ts).1 (emptyP ts) then ((circP ts (tabE ts).1 win ((statesL ts).map plOf)).1, 0) else ([], 17)
theorem Circle_results (W : World) (tmps : Array Value) (x y : Value) (t2 : tmps.getD 2 undef = x) (t3 : tmps.getD 3 undef = y) : (results Tryz.f17 tmps).run Tryz.prog W = .ok (.tuple #[x, y]) W := by
  simp only [Array.getD_eq_getD_getElem?] at t2 t3
  simp [results, Tryz.results17, go_sem, t2, t3]

/-- A list and an error are returned, the list's length within its capacity. -/
def ListCap (w : World) (r : List Int × Int) (e : Ending) (w' : World) : Prop := ∃ (A : Option Addr) (n c : Nat), e = .returned (.tuple #[.slice A n c, .int .i64 r.2]) ∧ (IntsAt w' w'.heap.size A n r.1 ∧ n ≤ c) ∧ Below w.heap.size w w'
theorem ListCap.none {w w' : World} {r : List Int × Int} {x : Int} (h : r = ([], x)) (hb : Below w.heap.size w w') : ListCap w r (.returned (.tuple #[.slice none 0 0, .int .i64 x])) w' := by
  subst h
  exact ⟨_, _, _, rfl, ⟨IntsAt.nil, Nat.le_refl _⟩, hb⟩
set_option maxRecDepth 100000 in
set_option maxHeartbeats 4000000 in
theorem Circle_cap (w : World) (B : Nat) (A : Option Addr) (n c : Nat) (ts : List Int) (hx : IntsAt w B A n ts) (hB : B ≤ w.heap.size) (win : Nat) (he : checkHallF ts = 0 → Ends ts ∧ LEnds ts (tabE ts).1 ∧ IsWin ts win) :
    Calls Tryz.prog 17 #[.agg #[.slice A n c]] w (ListCap w (circleR ts win)) := by
  have hb0 : Below w.heap.size w (w.alloc (.cells #[.slice A n c] 24)) := (Below.refl _ w).alloc (Nat.le_refl _) _
  have x0 := Boxed.new w 24 (.slice A n c)
  have He := Lib.hid he
  clear he
  go_enter Tryz.func17, Tryz.ntmps17
  go_wp2_with (fail)
  refine (checkHall_any _ B A n c ts (hx.below hb0 hB) (by have := hb0.size; omega)).mono ?_
  rintro e w2 ⟨rfl, hb⟩
  have hB2 := hb0.trans (hb.mono hb0.size)
  have y0 := bxBelow x0 hb x0.lt
  obtain ⟨r, hr⟩ : ∃ r, r = checkHallF ts := ⟨_, rfl⟩
  rw [← hr]
  have Hr := Lib.hid hr
  clear hr hb hb0 x0
  have c0 := y0.cell
  by_cases h0 : r = 0
  · have Hr0 := Lib.hid (Hr.out.symm.trans h0)
    subst h0
    have hv := valid_of Hr0.out
    go_wp2_with (fail)
    refine (tab_any w2 B A n c ts (hx.below hB2 hB) (by have := hB2.size; omega) hv (He.out Hr0.out).1).mono ?_
    rintro e w3 ⟨ms, ml, rfl, hT, hb3⟩
    have hB3 := hB2.trans (hb3.mono hB2.size)
    have hz3 := hb3.size
    have hB4 := hB3.alloc hB3.size (.cells (tbc A n c ms ml) 60)
    have z0 := TbAt.new w3 A n c ms ml
    have hb4 : Below w3.heap.size w3 (w3.alloc (.cells (tbc A n c ms ml) 60)) := (Below.refl _ _).alloc (Nat.le_refl _) _
    have hT4 := hT.later hb4
    have hwz := hB2.size
    go_wp2_with (fail)
    have hS0 : TbAt (w3.alloc (.cells (tbc A n c ms ml) 60)).drew w3.heap.size A n c ms ml := z0
    refine region_held_wp 3 (fun W' => TbAt W' w3.heap.size A n c ms ml) (fun j => decide (j ≤ 3)) (by kernel_rfl) ?_
    intro KR hKR
    refine wpAnyHI_takeE (i := 0) (v := .agg (tbc A n c ms ml)) (some 13) rfl rfl (by kernel_rfl) (by kernel_rfl) (by kernel_rfl) (by kernel_rfl) (by kernel_rfl) (fun _ _ _ h => h) hS0 (.inl ⟨by kernel_rfl, fun W' hS' => ?_⟩) ?_
    · obtain ⟨a0, a1, a2⟩ := TbAt.cells hS'
      go_simp
    refine wpAnyHI_takeE (i := 1) (v := .pointer (some ⟨w3.heap.size, 0, none⟩)) (some 14) rfl rfl (by kernel_rfl) (by kernel_rfl) (by kernel_rfl) (by kernel_rfl) (by kernel_rfl) (fun _ _ _ h => h) hS0 (.inl ⟨by kernel_rfl, fun W' hS' => ?_⟩) ?_
    · obtain ⟨a0, a1, a2⟩ := TbAt.cells hS'
      go_simp
    refine wpAnyHI_takeE (i := 2) (v := .agg #[.slice A n c]) (some 15) rfl rfl (by kernel_rfl) (by kernel_rfl) (by kernel_rfl) (by kernel_rfl) (by kernel_rfl) (fun _ _ _ h => h) hS0 (.inl ⟨by kernel_rfl, fun W' hS' => ?_⟩) ?_
    · obtain ⟨a0, a1, a2⟩ := TbAt.cells hS'
      go_simp
    refine wpAnyHI_one (i := 3) rfl (by kernel_rfl) ?_
    intro K1 hK1
    go_simp
    refine ⟨trivial, (callsIn_wide.2 (empty_any _ A n c)).mono ?_⟩
    rintro e w5 ⟨rfl, hb5⟩
    have hb5 : Below (w3.alloc (.cells (tbc A n c ms ml) 60)).heap.size (w3.alloc (.cells (tbc A n c ms ml) 60)) w5 := ⟨hb5.os, hb5.tape, hb5.output, hb5.size, hb5.block⟩
    have hT5 := hT4.later hb5
    have z5 := z0.below hb5 z0.lt
    have hB5 := hB4.trans (hb5.mono hB4.size)
    refine hK1 _ _ ⟨fun _ => z5, ?_⟩
    clear hK1 K1
    refine wpAnyHI_one (i := 4) rfl (by kernel_rfl) ?_
    intro K1 hK1
    go_simp
    refine ⟨trivial, (callsIn_wide.2 (isSafe_any w5 A n c ms ml (tabE ts).1 hT5.safe ⟨n, 0, 0, 0, 0, 0⟩)).mono ?_⟩
    rintro e w6 ⟨rfl, hb6⟩
    have hT6 := hT5.later hb6
    have z6 := z5.below hb6 z5.lt
    have hB6 := hB5.trans (hb6.mono hB5.size)
    have hp : (⟨n, 0, 0, 0, 0, 0⟩ : Pl) = emptyP ts := by unfold emptyP; rw [hx.len]
    obtain ⟨sb, hsb⟩ : ∃ sb, sb = decide (0 < mget 0 (tabE ts).1 ⟨n, 0, 0, 0, 0, 0⟩) := ⟨_, rfl⟩
    rw [← hsb]
    refine hK1 _ _ ⟨fun h => (by cases h), ?_⟩
    clear hK1 K1
    refine wpAnyHI_tail (k := 5) rfl rfl (by kernel_rfl) (by kernel_rfl) ?_
    simp only [List.drop_succ_cons, List.drop_zero]
    obtain ⟨t0, t1, t2⟩ := z6.cells
    have hcr : circleR ts win = if 0 < mget 0 (tabE ts).1 (emptyP ts) then ((circP ts (tabE ts).1 win ((statesL ts).map plOf)).1, 0) else ([], 17) := by
      unfold circleR
      rw [if_neg (by rw [Hr0.out]; simp)]
    cases sb
    · rw [if_neg (by rw [← hp]; simpa using hsb.symm)] at hcr
      have Hc := Lib.hid hcr
      clear hcr hsb hp
      gi_wp2_with (fail)
      go_wp2_with (fail)
      refine bodyPost_ret (v := .tuple #[.slice none 0 0, .int .i64 17]) (Circle_results _ _ _ _ (by simp) (by simp)) rfl ?_
      exact ListCap.none Hc.out hB6
    · rw [if_pos (by rw [← hp]; simpa using hsb.symm)] at hcr
      have Hc := Lib.hid hcr
      clear hcr hsb hp
      gi_wp2_with (fail)
      go_wp2_with (fail)
      refine (circle_any w6 B A n c ms ml ts (hx.below hB6 hB) (by have := hB6.size; omega) hv (tabE ts).1 hT6.safe (He.out Hr0.out).2.1 win (He.out Hr0.out).2.2).mono ?_
      rintro e w7 ⟨A', k, c', rfl, ⟨hi7, hcap⟩, hb7⟩
      have hB7 := hB6.trans (hb7.mono hB6.size)
      go_wp2_with (fail)
      refine bodyPost_ret (v := .tuple #[.slice A' k c', .int .i64 0]) (Circle_results _ _ _ _ (by simp) (by simp)) rfl ?_
      unfold ListCap
      rw [Hc.out]
      exact ⟨A', k, c', rfl, ⟨hi7, hcap⟩, hB7⟩
  · have Hr0 := Lib.hid h0
    go_wp2_with (fail)
    refine bodyPost_ret (v := .tuple #[.slice none 0 0, .int .i64 r]) (Circle_results _ _ _ _ (by simp) (by simp)) rfl ?_
    refine ListCap.none ?_ hB2
    unfold circleR
    rw [if_pos (by rw [← Hr.out]; exact Hr0.out), ← Hr.out]
theorem Circle_any (w : World) (B : Nat) (A : Option Addr) (n c : Nat) (ts : List Int) (hx : IntsAt w B A n ts) (hB : B ≤ w.heap.size) (win : Nat) (he : checkHallF ts = 0 → Ends ts ∧ LEnds ts (tabE ts).1 ∧ IsWin ts win) :
    Calls Tryz.prog 17 #[.agg #[.slice A n c]] w (ListIn w (circleR ts win)) :=
  (Circle_cap w B A n c ts hx hB win he).mono fun _ _ ⟨A', k, c', h1, h2, h3⟩ => ⟨A', k, c', h1, h2.1, h3⟩
end Go.Proofs.YthjgecblkagelaaGreat
