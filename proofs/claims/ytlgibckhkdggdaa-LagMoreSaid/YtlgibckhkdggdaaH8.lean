/- Parts of a proof: LZ. -/
import Derived.Test.YtlgibckhkdggdaaH7

/- lag: the least of a chain for each number of turns. -/
namespace Go.Proofs.Ytlgibckhkdggdaa
open Go.RowKit Go.Shelf

attribute [local go_sem] Oper.semAt_some

theorem put_below {D l : Nat} {w W : World} (h : Below D w W) (hD : D ≤ l) (hz : D ≤ W.heap.size) (o : Obj) : Below D w (W.putObj l o) :=
  h.trans ((Below.refl D W).grown (grownBy_putObj' W l o) hz (fun r e => by cases e; exact hD))
def lvlR (L : Nat) (css : List (List Int)) (s k : Nat) : List Int := (List.range L).map fun j => if j < k then lvl css s j else 0
theorem lvlR_len (L : Nat) (css : List (List Int)) (s k : Nat) : (lvlR L css s k).length = L := by simp [lvlR]
theorem lvlR_zero (L : Nat) (css : List (List Int)) (s : Nat) : lvlR L css s 0 = List.replicate L 0 := by
  refine List.ext_getElem (by simp [lvlR]) fun i h1 h2 => ?_
  simp [lvlR]
theorem lvlR_set {L : Nat} {css : List (List Int)} {s k : Nat} : (lvlR L css s k).set k (lvl css s k) = lvlR L css s (k + 1) := by
  refine List.ext_getElem (by simp [lvlR]) fun i h1 h2 => ?_
  simp only [lvlR, List.getElem_set, List.getElem_map, List.getElem_range]
  by_cases h : k = i
  · subst h
    rw [if_pos rfl, if_pos (by omega)]
  · rw [if_neg h]
    by_cases h' : i < k
    · rw [if_pos h', if_pos (by omega)]
    · rw [if_neg h', if_neg (by omega)]
theorem lvl_next (css : List (List Int)) {S : Nat} (hS : 1 ≤ S) (t : Nat) : lvl css S t = (bestO (fun p : Part 0 t => leastF (css[S]?.getD []) p.1 + lvl css (S - 1) (t - p.1)) ltI (partsS 0 t)).getD 0 := by
  obtain ⟨s, rfl⟩ : ∃ s, S = s + 1 := ⟨S - 1, by omega⟩
  rfl

set_option maxRecDepth 100000 in
set_option maxHeartbeats 16000000 in
theorem chainLeast_any (w : World) (B : Nat) (A : Option Addr) (K c last : Nat) (css : List (List Int)) (hx : RowsAt w B A K css) (hB : B ≤ w.heap.size) (hv : ∀ j, j < css.length → Nums (css[j]?.getD [])) (hK1 : 1 ≤ K) (hK2 : K ≤ 10) (hl : last ≤ 1000) :
    Calls Try.prog 66 #[.slice A K c, .int .i64 (last : Int)] w fun e w' => ∃ g, w.heap.size ≤ g ∧ e = .returned (.slice (some ⟨g, 0, none⟩) (last + 1) (last + 1)) ∧ RowZ w' g (lvlR (last + 1) css (K - 1) (last + 1)) ∧ Below w.heap.size w w' := by
  have hlen := hx.1
  have hmm := @run_makeMap Try.prog
  obtain ⟨b, off, cs0, A0, m0, c0, rfl, lb, hcs0, hcell0, hi0⟩ := hx.at (j := 0) (by omega)
  have hv0 : cs0 = css[0]?.getD [] := by rw [hcs0]; rfl
  rw [hv0] at hi0
  obtain ⟨V, hV⟩ : ∃ V, V = (w.alloc (.map #[] 0)).alloc (.cells #[.map (some w.heap.size)] 117) := ⟨_, rfl⟩
  have hb0 : Below w.heap.size w V := by rw [hV]; exact ((Below.refl _ w).alloc (Nat.le_refl _) _).alloc (by simp) _
  have xm : MapAt Int encI V w.heap.size [] := by rw [hV]; exact (MapAt.new w).alloc _
  have x5 : Boxed V (w.heap.size + 1) 117 (.map (some w.heap.size)) := by
    rw [hV]
    have := Boxed.new (w.alloc (.map #[] 0)) 117 (.map (some w.heap.size))
    simpa using this
  have hwl : IntKind.i64.wrap ((last : Int) + 1) = (last : Int) + 1 := by rw [IntKind.wrap_i64]; omega
  have hK0 : 0 < K := by omega
  have H := Lib.hid (And.intro hv (And.intro hlen hx))
  clear hv hlen hx hcs0 hv0
  go_enter Try.func66, Try.ntmps66
  go_wp2_with (fail)
  rw [← hV]
  clear hV hmm
  go_loopw [15] (fun i wr => ∃ (t : Nat) (m : List (Sp × Int)), (t ≤ last + 1 ∧ i = .int .i64 (t : Int)) ∧ Boxed wr (w.heap.size + 1) 117 (.map (some w.heap.size)) ∧ MapAt Int encI wr w.heap.size m ∧ Hid (∀ t' : Nat, t' < t → mget 0 m (1, (t' : Int)) = lvl css 0 t') ∧ Below w.heap.size w wr) (fun i _ => last + 1 - (intOf i).toNat)
  case atStart => exact ⟨0, [], ⟨by omega, rfl⟩, x5, xm, Lib.hid (fun t' h => by omega), hb0⟩
  case round =>
    clear x5 xm hb0
    obtain ⟨t, m, ⟨ht, rfl⟩, y5, ym, yv, yb⟩ := hrel
    by_cases hlt : t < last + 1
    case pos =>
      have hlt' : (t : Int) < (last : Int) + 1 := by omega
      have hwt : IntKind.i64.wrap ((t : Int) + 1) = ((t + 1 : Nat) : Int) := by rw [IntKind.wrap_i64]; omega
      have l5 := y5.lt
      have hbz := yb.size
      have d5 : ∀ W, Below wr.heap.size wr.drew W → W.cell? ⟨w.heap.size + 1, 0, none⟩ = some (.map (some w.heap.size)) := fun W h => (h.cell (p := ⟨w.heap.size + 1, 0, none⟩) l5).trans y5.cell
      have dc : ∀ W, Below wr.heap.size wr.drew W → W.cell? ⟨b, off, none⟩ = some (.slice A0 m0 c0) := fun W h => (h.cell (p := ⟨b, off, none⟩) (show b < wr.heap.size by omega)).trans ((yb.cell (p := ⟨b, off, none⟩) (show b < w.heap.size by omega)).trans hcell0)
      go_wp2_with (fail)
      refine region_held_wp 1 (fun W' => Below wr.heap.size wr.drew W') (fun j => decide (j = 5) || decide (j = 7)) (by kernel_rfl) ?_
      intro KR hKR
      have hS : Below wr.heap.size wr.drew wr.drew := Below.refl _ _
      refine wpAnyHI_takeW (i := 1) (v := .int .i64 (t : Int)) (some 19) rfl rfl (by kernel_rfl) (by kernel_rfl) (by kernel_rfl) (by kernel_rfl) (fun _ _ _ h => h) (.inl ⟨by kernel_rfl, fun W' hS' => ?_⟩) ?_
      · go_simp
      refine wpAnyHI_takeW (i := 2) (v := .agg #[.int .i64 1, .int .i64 (t : Int)]) (some 20) rfl rfl (by kernel_rfl) (by kernel_rfl) (by kernel_rfl) (by kernel_rfl) (fun _ _ _ h => h) (.inl ⟨by kernel_rfl, fun W' hS' => ?_⟩) ?_
      · go_simp
      refine wpAnyHI_takeW (i := 3) (v := .slice (some ⟨b, off, none⟩) K c) (some 21) rfl rfl (by kernel_rfl) (by kernel_rfl) (by kernel_rfl) (by kernel_rfl) (fun _ _ _ h => h) (.inl ⟨by kernel_rfl, fun W' hS' => ?_⟩) ?_
      · go_simp
      refine wpAnyHI_takeW (i := 4) (v := .pointer (some ⟨b, off, none⟩)) (some 22) rfl rfl (by kernel_rfl) (by kernel_rfl) (by kernel_rfl) (by kernel_rfl) (fun _ _ _ h => h) (.inl ⟨by kernel_rfl, fun W' hS' => ?_⟩) ?_
      · go_simp
      refine wpAnyHI_takeW (i := 6) (v := .int .i64 (t : Int)) (some 24) rfl rfl (by kernel_rfl) (by kernel_rfl) (by kernel_rfl) (by kernel_rfl) (fun _ _ _ h => h) (.inl ⟨by kernel_rfl, fun W' hS' => ?_⟩) ?_
      · go_simp
      refine wpAnyHI_takeE (i := 0) (v := .map (some w.heap.size)) (some 18) rfl rfl (by kernel_rfl) (by kernel_rfl) (by kernel_rfl) (by kernel_rfl) (by kernel_rfl) (fun _ _ _ h => h) hS (.inl ⟨by kernel_rfl, fun W' hS' => ?_⟩) ?_
      · have q := d5 W' hS'; go_simp
      refine wpAnyHI_takeE (i := 5) (v := .slice A0 m0 c0) (some 23) rfl rfl (by kernel_rfl) (by kernel_rfl) (by kernel_rfl) (by kernel_rfl) (by kernel_rfl) (fun _ _ _ h => h) hS (.inl ⟨by kernel_rfl, fun W' hS' => ?_⟩) ?_
      · have q := dc W' hS'; go_simp
      refine wpAnyHI_one (i := 7) rfl (by kernel_rfl) ?_
      intro K1 hK1
      go_simp
      refine ⟨trivial, (callsIn_wide.2 (shaftLeast_any wr.drew B A0 m0 c0 t (css[0]?.getD []) (hi0.below (yb.trans (below_drew wr)) hB) (H.out.1 0 (by rw [H.out.2.1]; exact hK0)) (by omega))).mono ?_⟩
      rintro e w2 ⟨rfl, q, hq⟩
      have hbq : Below wr.heap.size wr.drew w2 := by rw [hq]; exact below_drewN _ _
      refine hK1 _ _ ⟨fun _ => hbq, ?_⟩
      clear hK1 K1 hq
      have hB2 := (yb.trans (below_drew wr)).trans (hbq.mono hbz)
      have z5 := bxBelow (bxDrew y5) hbq y5.lt
      have zm : MapAt Int encI w2 w.heap.size m := MapAt.below (W := wr.drew) (ym.same rfl) hbq ym.lt
      have hlv : leastF (css[0]?.getD []) t = lvl css 0 t := by rw [lvl]
      rw [hlv]
      obtain ⟨v, hve⟩ : ∃ v, v = lvl css 0 t := ⟨_, rfl⟩
      rw [← hve]
      obtain ⟨ob, hob, hrun, hm2⟩ := update_pl zm 117 2 Try.underlying117 (1, (t : Int)) v
      have hyv : ∀ t' : Nat, t' < t + 1 → mget 0 (mset (1, (t : Int)) v m) (1, (t' : Int)) = lvl css 0 t' := fun t' h' => by
        rw [mfind_mset]
        by_cases he : t' = t
        · subst he
          rw [if_pos rfl, hve]
        · rw [if_neg (by simp; omega)]
          exact yv.out t' (by omega)
      have u5 : Boxed (w2.putObj w.heap.size ob) (w.heap.size + 1) 117 (.map (some w.heap.size)) := (World.putObj_heap_other (by omega)).trans z5
      have hB3 : Below w.heap.size w (w2.putObj w.heap.size ob) := put_below hB2 (Nat.le_refl _) hB2.size ob
      have Hyv := Lib.hid hyv
      clear hyv hve hlv d5 dc yv y5 ym yb z5 zm hbq hS hob
      have hrun' : (Instr.mapUpdate 117 (.map (some w.heap.size)) (.agg #[.int .i64 1, .int .i64 (t : Int)]) (encI v)).run Try.prog w2 = .ok () (w2.putObj w.heap.size ob) := hrun
      clear hrun
      refine wpAnyHI_one (i := 8) rfl (by kernel_rfl) ?_
      intro K1 hK1
      go_simp
      refine hK1 _ _ ⟨fun h => absurd h (by simp), ?_⟩
      clear hK1 K1 hrun'
      refine wpAnyHI_end (by kernel_rfl) ?_
      show KR _ _
      go_simp
      refine hKR _ _ ?_
      obtain ⟨W3, hW3⟩ : ∃ W3, W3 = w2.putObj w.heap.size ob := ⟨_, rfl⟩
      rw [← hW3] at u5 hB3 hm2 ⊢
      clear hW3
      go_wp2_with (fail)
      go_roundw
      case rel => exact ⟨t + 1, _, ⟨by omega, by go_num⟩, u5, hm2, Hyv, hB3⟩
      case measure => simp [intOf]; omega
    case neg =>
      have hltn : ¬ (t : Int) < (last : Int) + 1 := by omega
      have hb1 : Below w.heap.size w (wr.alloc (.cells #[.int .i64 1] 3)) := yb.alloc yb.size _
      have z5 := y5.alloc (.cells #[.int .i64 1] 3)
      have zm := ym.alloc (.cells #[.int .i64 1] 3)
      have z7 := Boxed.new wr 3 (.int .i64 1)
      have hyv : ∀ t' : Nat, t' < last + 1 → mget 0 m (1, (t' : Int)) = lvl css 0 t' := fun t' h => yv.out t' (by omega)
      have Hyv := Lib.hid hyv
      have l5 := y5.lt
      clear hyv yv y5 ym yb
      go_wp2_with (fail)
      obtain ⟨wo, rfl⟩ : ∃ wo, wo = wr := ⟨_, rfl⟩
      go_loopg [7] (K - 1) (fun g v7 wr => ∃ (S b7 : Nat) (m : List (Sp × Int)), ((1 ≤ S ∧ S ≤ K) ∧ g = K - S ∧ v7 = .pointer (some ⟨b7, 0, none⟩) ∧ w.heap.size + 2 ≤ b7) ∧ Boxed wr b7 3 (.int .i64 (S : Int)) ∧ Boxed wr (w.heap.size + 1) 117 (.map (some w.heap.size)) ∧ MapAt Int encI wr w.heap.size m ∧ Hid (∀ t' : Nat, t' < last + 1 → mget 0 m ((S : Int), (t' : Int)) = lvl css (S - 1) t') ∧ Below w.heap.size w wr)
      case atStart => exact ⟨1, wo.heap.size, m, ⟨⟨by omega, by omega⟩, rfl, rfl, by omega⟩, z7, z5, zm, Lib.hid (fun t' h => Hyv.out t' h), hb1⟩
      case round =>
        clear z5 zm z7 hb1 Hyv
        obtain ⟨S, b7, m, ⟨⟨hS1, hS2⟩, rfl, rfl, hb7⟩, y7, y5, ym, yv, yb⟩ := hrel
        have c7 := y7.cell
        have l7 := y7.lt
        by_cases hSK : S < K
        case neg =>
          have hSe : S = K := by omega
          subst hSe
          have hmks : ∀ W : World, (Instr.makeSlice 77 (.int .i64 ((last : Int) + 1)) (.int .i64 ((last : Int) + 1))).run Try.prog W = .ok (.slice (some ⟨W.heap.size, 0, none⟩) (last + 1) (last + 1)) (W.alloc (.cells ((List.replicate (last + 1) (0 : Int)).map (Value.int .i64)).toArray 2)) := fun W => by
            have := made_row (W := W) (N := last + 1) (by omega)
            rwa [show ((last + 1 : Nat) : Int) = (last : Int) + 1 by simp] at this
          obtain ⟨mc, hmc⟩ : ∃ mc, mc = ((List.replicate (last + 1) (0 : Int)).map (Value.int .i64)).toArray := ⟨_, rfl⟩
          rw [← hmc] at hmks
          have hbz := yb.size
          have z5 := y5.alloc (.cells mc 2)
          have zm := ym.alloc (.cells mc 2)
          have zb : Below w.heap.size w (wr.alloc (.cells mc 2)) := yb.alloc hbz _
          have zr : RowZ (wr.alloc (.cells mc 2)) wr.heap.size (lvlR (last + 1) css (S - 1) 0) := by rw [lvlR_zero, RowZ, World.alloc_heap_new, hmc]
          have hSS : ¬ (S : Int) < (S : Int) := by omega
          have l5 := y5.lt
          clear hmc y5 ym yb y7
          go_wp2_with (fail)
          obtain ⟨wv, rfl⟩ : ∃ wv, wv = wr := ⟨_, rfl⟩
          go_loopw [62] (fun v62 wr => ∃ t : Nat, (t ≤ last + 1 ∧ v62 = .int .i64 (t : Int)) ∧ Boxed wr (w.heap.size + 1) 117 (.map (some w.heap.size)) ∧ MapAt Int encI wr w.heap.size m ∧ RowZ wr wv.heap.size (lvlR (last + 1) css (S - 1) t) ∧ Below w.heap.size w wr) (fun v62 _ => last + 1 - (intOf v62).toNat)
          case atStart => exact ⟨0, ⟨by omega, rfl⟩, z5, zm, zr, zb⟩
          case round =>
            clear z5 zm zr zb hmks
            obtain ⟨t, ⟨ht, rfl⟩, y5, ym, yr, yb⟩ := hrel
            by_cases hlt : t < last + 1
            case neg =>
              have hte : t = last + 1 := by omega
              subst hte
              have hln : ¬ (((last + 1 : Nat) : Int) < (last : Int) + 1) := by omega
              go_wp2_with (fail)
              refine bodyPost_ret (results_tmp rfl _ _ _) rfl ?_
              exact ⟨wv.heap.size, hbz, rfl, yr, yb⟩
            case pos =>
              have hlt' : (t : Int) < (last : Int) + 1 := by omega
              have hwt : IntKind.i64.wrap ((t : Int) + 1) = ((t + 1 : Nat) : Int) := by rw [IntKind.wrap_i64]; omega
              have c5 := y5.cell
              have hlk : (Instr.lookup 117 (.map (some w.heap.size)) (.agg #[.int .i64 (S : Int), .int .i64 (t : Int)]) false).run Try.prog wr = .ok (.int .i64 (lvl css (S - 1) t)) wr := by
                have h := lookup_pl (enc := encI) ym 117 2 0 Try.underlying117 (fun w => by kernel_rfl) ((S : Int), (t : Int))
                rw [yv.out t hlt] at h
                exact h
              have k1 := yr.cell (j := t) (by rw [lvlR_len]; exact hlt)
              have k2 := yr.frozen (j := t)
              have hset := yr.set t (lvl css (S - 1) t)
              rw [lvlR_set] at hset
              obtain ⟨v, hve⟩ : ∃ v, v = lvl css (S - 1) t := ⟨_, rfl⟩
              rw [← hve] at hlk hset
              have u5 := bxOther y5 (b := wv.heap.size) (by omega) t (.int .i64 v)
              have um := ym.setCell wv.heap.size t (.int .i64 v)
              have ub : Below w.heap.size w (wr.setCell ⟨wv.heap.size, t, none⟩ (.int .i64 v)) := yb.setCell (p := ⟨wv.heap.size, t, none⟩) hbz _
              have Hset := Lib.hid hset
              clear hset hve yr y5 ym yb
              go_wp2_with (fail)
              go_roundw
              case rel => exact ⟨t + 1, ⟨by omega, by go_num⟩, u5, um, Hset.out, ub⟩
              case measure => simp [intOf]; omega
        case pos =>
          obtain ⟨b', off', cs, A1, m1, c1, he, lb1, hcs, hcell, hi1⟩ := H.out.2.2.at (j := S) hSK
          cases he
          have hcell := (yb.cell (p := ⟨b, off + S, none⟩) (show b < w.heap.size by omega)).trans hcell
          have hcs1 : cs = css[S]?.getD [] := by rw [hcs]; rfl
          rw [hcs1] at hi1
          have lbr : b < wr.heap.size := by have := yb.size; omega
          have hcx : Nums (css[S]?.getD []) := H.out.1 S (by rw [H.out.2.1]; exact hSK)
          have Hcx := Lib.hid hcx
          obtain ⟨S', hS'1, hS'2⟩ : ∃ S' : Nat, S' ≤ S + 1 ∧ S + 1 ≤ S' := ⟨S + 1, Nat.le_refl _, Nat.le_refl _⟩
          have hwS : IntKind.i64.wrap ((S : Int) + 1) = (S' : Int) := by rw [IntKind.wrap_i64]; omega
          have hb1 : Below w.heap.size w (wr.alloc (.cells #[.slice A1 m1 c1] 87)) := yb.alloc yb.size _
          have z5 := y5.alloc (.cells #[.slice A1 m1 c1] 87)
          have z7 := y7.alloc (.cells #[.slice A1 m1 c1] 87)
          have zm := ym.alloc (.cells #[.slice A1 m1 c1] 87)
          have z8 := Boxed.new wr 87 (.slice A1 m1 c1)
          have hBw := yb.size
          have hi2 : IntsAt (wr.alloc (.cells #[.slice A1 m1 c1] 87)) B A1 m1 (css[S]?.getD []) := (hi1.below yb hB).alloc (by omega) _
          clear hcs hcs1 hcx
          go_wp2_with (fail)
          obtain ⟨wv, rfl⟩ : ∃ wv, wv = wr := ⟨_, rfl⟩
          go_loopw [9] (fun v9 wr => ∃ (z : Int) (m : List (Sp × Int)), ((-1 ≤ z ∧ z ≤ (last : Int)) ∧ v9 = .int .i64 z) ∧ Boxed wr wv.heap.size 87 (.slice A1 m1 c1) ∧ Boxed wr b7 3 (.int .i64 (S : Int)) ∧ Boxed wr (w.heap.size + 1) 117 (.map (some w.heap.size)) ∧ MapAt Int encI wr w.heap.size m ∧ Hid (∀ t' : Nat, (t' : Int) ≤ z → mget 0 m ((S : Int), (t' : Int)) = lvl css (S - 1) t') ∧ Hid (∀ t' : Nat, z < (t' : Int) → t' < last + 1 → mget 0 m ((S' : Int), (t' : Int)) = lvl css S t') ∧ Below w.heap.size w wr ∧ IntsAt wr B A1 m1 (css[S]?.getD [])) (fun v9 _ => (intOf v9 + 1).toNat)
          case atStart => exact ⟨(last : Int), m, ⟨⟨by omega, by omega⟩, rfl⟩, z8, z7, z5, zm, Lib.hid (fun t' h => yv.out t' (by omega)), Lib.hid (fun t' h1 h2 => by omega), hb1, hi2⟩
          case round =>
            clear z5 zm z7 z8 hb1 hi2 yv y5 y7 ym yb c7
            obtain ⟨z, m, ⟨⟨hz1, hz2⟩, rfl⟩, y8, y7, y5, ym, yv, yn, yb, yi⟩ := hrel
            by_cases hz0 : 0 ≤ z
            case neg =>
              have c7 := y7.cell
              have hyn : ∀ t' : Nat, t' < last + 1 → mget 0 m ((S' : Int), (t' : Int)) = lvl css (S' - 1) t' := fun t' h => by
                rw [show S' - 1 = S by omega]
                exact yn.out t' (by omega) h
              have Hyn := Lib.hid hyn
              have hyz := yb.size
              have l7' := y7.lt
              have u5 := (y5.alloc (.cells #[.int .i64 (S' : Int)] 3))
              have um := (ym.alloc (.cells #[.int .i64 (S' : Int)] 3))
              have u7 := (Boxed.new wr 3 (.int .i64 (S' : Int)))
              have ub : Below w.heap.size w (wr.alloc (.cells #[.int .i64 (S' : Int)] 3)) := yb.alloc hyz _
              go_wp2_with (fail)
              go_roundg (K - S')
              case measure => omega
              case rel => exact ⟨S', wr.heap.size, m, ⟨⟨by omega, by omega⟩, rfl, rfl, by omega⟩, u7, u5, um, Hyn, ub⟩
            case pos =>
              obtain ⟨k, rfl⟩ : ∃ k : Nat, z = (k : Int) := ⟨z.toNat, by omega⟩
              have hk : k ≤ last := by omega
              have l5 := y5.lt
              have l7' := y7.lt
              have l8 := y8.lt
              have hbz := yb.size
              have hwk : IntKind.i64.wrap ((k : Int) - 1) = (k : Int) - 1 := by rw [IntKind.wrap_i64]; omega
              have d5 : ∀ W, Below wr.heap.size wr.drew W → W.cell? ⟨w.heap.size + 1, 0, none⟩ = some (.map (some w.heap.size)) := fun W h => (h.cell (p := ⟨w.heap.size + 1, 0, none⟩) l5).trans y5.cell
              have d7 : ∀ W, Below wr.heap.size wr.drew W → W.cell? ⟨b7, 0, none⟩ = some (.int .i64 (S : Int)) := fun W h => (h.cell (p := ⟨b7, 0, none⟩) l7').trans y7.cell
              go_wp2_with (fail)
              refine region_held_wp 1 (fun W' => Below wr.heap.size wr.drew W') (fun j => decide (j = 1) || decide (j = 2) || decide (j = 4) || decide (j = 7) || decide (j = 9)) (by kernel_rfl) ?_
              intro KR hKR
              have hS : Below wr.heap.size wr.drew wr.drew := Below.refl _ _
              refine wpAnyHI_takeW (i := 3) (v := .int .i64 (k : Int)) (some 45) rfl rfl (by kernel_rfl) (by kernel_rfl) (by kernel_rfl) (by kernel_rfl) (fun _ _ _ h => h) (.inl ⟨by kernel_rfl, fun W' hS' => ?_⟩) ?_
              · go_simp
              refine wpAnyHI_takeW (i := 5) (v := .int .i64 (k : Int)) (some 47) rfl rfl (by kernel_rfl) (by kernel_rfl) (by kernel_rfl) (by kernel_rfl) (fun _ _ _ h => h) (.inl ⟨by kernel_rfl, fun W' hS' => ?_⟩) ?_
              · go_simp
              refine wpAnyHI_takeW (i := 6) (v := .int .i64 (k : Int)) (some 48) rfl rfl (by kernel_rfl) (by kernel_rfl) (by kernel_rfl) (by kernel_rfl) (fun _ _ _ h => h) (.inl ⟨by kernel_rfl, fun W' hS' => ?_⟩) ?_
              · go_simp
              refine wpAnyHI_takeW (i := 8) (v := .func (.func 96) #[] #[.pointer (some ⟨wv.heap.size, 0, none⟩), .pointer (some ⟨w.heap.size + 1, 0, none⟩), .pointer (some ⟨b7, 0, none⟩)]) (some 50) rfl rfl (by kernel_rfl) (by kernel_rfl) (by kernel_rfl) (by kernel_rfl) (fun _ _ _ h => h) (.inl ⟨by kernel_rfl, fun W' hS' => ?_⟩) ?_
              · go_simp
              refine wpAnyHI_takeE (i := 0) (v := .map (some w.heap.size)) (some 42) rfl rfl (by kernel_rfl) (by kernel_rfl) (by kernel_rfl) (by kernel_rfl) (by kernel_rfl) (fun _ _ _ h => h) hS (.inl ⟨by kernel_rfl, fun W' hS' => ?_⟩) ?_
              · have q := d5 W' hS'; go_simp
              refine wpAnyHI_takeE (i := 1) (v := .int .i64 (S : Int)) (some 43) rfl rfl (by kernel_rfl) (by kernel_rfl) (by kernel_rfl) (by kernel_rfl) (by kernel_rfl) (fun _ _ _ h => h) hS (.inl ⟨by kernel_rfl, fun W' hS' => ?_⟩) ?_
              · have q := d7 W' hS'; go_simp
              refine wpAnyHI_takeE (i := 2) (v := .int .i64 (S' : Int)) (some 44) rfl rfl (by kernel_rfl) (by kernel_rfl) (by kernel_rfl) (by kernel_rfl) (by kernel_rfl) (fun _ _ _ h => h) hS (.inl ⟨by kernel_rfl, fun W' hS' => ?_⟩) ?_
              · go_simp
              refine wpAnyHI_takeE (i := 4) (v := .agg #[.int .i64 (S' : Int), .int .i64 (k : Int)]) (some 46) rfl rfl (by kernel_rfl) (by kernel_rfl) (by kernel_rfl) (by kernel_rfl) (by kernel_rfl) (fun _ _ _ h => h) hS (.inl ⟨by kernel_rfl, fun W' hS' => ?_⟩) ?_
              · go_simp
              refine wpAnyHI_one (i := 7) rfl (by kernel_rfl) ?_
              intro K1 hK1
              go_simp
              refine ⟨trivial, (callsIn_wide.2 (cuts_box (k : Int) 0 (k : Int) _)).mono ?_⟩
              rintro e W1 ⟨bl, bh, bt, rfl, hbl, hbh, hbt, hb1⟩
              refine hK1 _ _ ⟨fun _ => hb1, ?_⟩
              clear hK1 K1
              have hB1 : Below w.heap.size w W1 := (yb.trans (below_drew wr)).trans (hb1.mono hbz)
              have z8 := bxBelow (bxDrew y8) hb1 y8.lt
              have z7 := bxBelow (bxDrew y7) hb1 y7.lt
              have z5 := bxBelow (bxDrew y5) hb1 y5.lt
              have zm : MapAt Int encI W1 w.heap.size m := MapAt.below (W := wr.drew) (ym.same rfl) hb1 ym.lt
              have zi : IntsAt W1 B A1 m1 (css[S]?.getD []) := IntsAt.below (w := wr.drew) yi hb1 (show B ≤ wr.heap.size by omega)
              have hz9 := hB1.size
              have hit := cuts1_any W1 bl bh bt W1.heap.size 0 k k hbl hbh hbt (Nat.le_refl _) (by omega) (by omega) (by omega) k (by omega)
              have hval : ValFn W1 96 #[] #[.pointer (some ⟨wv.heap.size, 0, none⟩), .pointer (some ⟨w.heap.size + 1, 0, none⟩), .pointer (some ⟨b7, 0, none⟩)] (fun x : Part 0 k => cutV ((x.1 : Int), (k : Int) - (x.1 : Int))) encI (fun x => leastF (css[S]?.getD []) x.1 + lvl css (S - 1) (k - x.1)) := by
                refine ⟨enters_of Try.func96 (by kernel_rfl) rfl, fun W x hW => ?_⟩
                have hmx := parts_mem.1 x.2
                have hrt : (k : Int) - (x.1 : Int) = ((k - x.1 : Nat) : Int) := by omega
                have hsz := hW.size
                have hlv := lvl_bound H.out.1 (S - 1) (k - x.1) (by rw [H.out.2.1]; omega)
                have hmv := yv.out (k - x.1) (by omega)
                have key := least1_any W wv.heap.size (w.heap.size + 1) b7 w.heap.size B A1 m1 c1 (css[S]?.getD []) m (S : Int) x.1 (k - x.1) (bxBelow z8 hW z8.lt) (bxBelow z5 hW z5.lt) (bxBelow z7 hW z7.lt) (zi.below hW (by omega)) (by omega) Hcx.out (by omega) (zm.below hW zm.lt) (by rw [hmv]; omega)
                rw [hmv, ← hrt] at key
                exact key
              refine wpAnyHI_one (i := 9) rfl (by kernel_rfl) ?_
              intro K1 hK1
              go_simp
              refine ⟨trivial, (callsIn_wide.2 (bestCut_any W1 113 _ (fun x : Part 0 k => ((x.1 : Int), (k : Int) - (x.1 : Int))) _ _ _ _ _ _ _ _ _ ltI (enters_of Try.func113 (by kernel_rfl) rfl) hit (by
                rintro k ((rfl | rfl) | rfl)
                · exact hbl.lt
                · exact hbh.lt
                · exact hbt.lt) hval less_fn)).mono ?_⟩
              rintro e W2 ⟨rfl, hb2⟩
              have hS2 : Below wr.heap.size wr.drew W2 := hb1.trans (hb2.mono hb1.size)
              refine hK1 _ _ ⟨fun _ => hS2, ?_⟩
              clear hK1 K1 hit hval
              have hB2 : Below w.heap.size w W2 := hB1.trans (hb2.mono hB1.size)
              have v8 := bxBelow z8 hb2 z8.lt
              have v7 := bxBelow z7 hb2 z7.lt
              have v5 := bxBelow z5 hb2 z5.lt
              have vm := zm.below hb2 zm.lt
              have vi := zi.below hb2 (by omega)
              have hnx : bestV (bestO (fun x : Part 0 k => leastF (css[S]?.getD []) x.1 + lvl css (S - 1) (k - x.1)) ltI (partsS 0 k)) = .int .i64 (lvl css S k) := by rw [lvl_next css hS1]; rfl
              rw [hnx]
              obtain ⟨v, hve⟩ : ∃ v, v = lvl css S k := ⟨_, rfl⟩
              rw [← hve]
              obtain ⟨ob, hob, hrun, hm2⟩ := update_pl vm 117 2 Try.underlying117 ((S' : Int), (k : Int)) v
              have hrun' : (Instr.mapUpdate 117 (.map (some w.heap.size)) (.agg #[.int .i64 (S' : Int), .int .i64 (k : Int)]) (.int .i64 v)).run Try.prog W2 = .ok () (W2.putObj w.heap.size ob) := hrun
              have p8 : Boxed (W2.putObj w.heap.size ob) wv.heap.size 87 (.slice A1 m1 c1) := (World.putObj_heap_other (by omega)).trans v8
              have p7 : Boxed (W2.putObj w.heap.size ob) b7 3 (.int .i64 (S : Int)) := (World.putObj_heap_other (by omega)).trans v7
              have p5 : Boxed (W2.putObj w.heap.size ob) (w.heap.size + 1) 117 (.map (some w.heap.size)) := (World.putObj_heap_other (by omega)).trans v5
              have hB3 : Below w.heap.size w (W2.putObj w.heap.size ob) := put_below hB2 (Nat.le_refl _) hB2.size ob
              have p9 : IntsAt (W2.putObj w.heap.size ob) B A1 m1 (css[S]?.getD []) := hi1.below hB3 hB
              have hfa : ∀ t' : Nat, (t' : Int) ≤ (k : Int) - 1 → mget 0 (mdel ((S : Int), (k : Int)) (mset ((S' : Int), (k : Int)) v m)) ((S : Int), (t' : Int)) = lvl css (S - 1) t' := fun t' h => by
                rw [mget_mdel (by simp; omega), mfind_mset, if_neg (by simp; omega)]
                exact yv.out t' (by omega)
              have hfb : ∀ t' : Nat, (k : Int) - 1 < (t' : Int) → t' < last + 1 → mget 0 (mdel ((S : Int), (k : Int)) (mset ((S' : Int), (k : Int)) v m)) ((S' : Int), (t' : Int)) = lvl css S t' := fun t' h1 h2 => by
                rw [mget_mdel (by simp; omega), mfind_mset]
                by_cases he : t' = k
                · subst he
                  rw [if_pos rfl, hve]
                · rw [if_neg (by simp; omega)]
                  exact yn.out t' (by omega) h2
              have Hfa := Lib.hid hfa
              have Hfb := Lib.hid hfb
              clear hfa hfb hve hnx hS hS2 hb1 hb2 hB1 hB2 z8 z7 z5 zm zi v8 v7 v5 vm vi y8 y7 y5 ym yv yn yb yi d5 d7 hbl hbh hbt hrun hob
              refine wpAnyHI_one (i := 10) rfl (by kernel_rfl) ?_
              intro K1 hK1
              go_simp
              refine hK1 _ _ ⟨fun h => absurd h (by simp), ?_⟩
              clear hK1 K1 hrun'
              refine wpAnyHI_end (by kernel_rfl) ?_
              show KR _ _
              go_simp
              refine hKR _ _ ?_
              obtain ⟨W3, hW3⟩ : ∃ W3, W3 = W2.putObj w.heap.size ob := ⟨_, rfl⟩
              rw [← hW3] at p8 p7 p5 p9 hB3 hm2 ⊢
              clear hW3
              obtain ⟨ob2, hob2, hrd, hm3⟩ := delete_pl hm2 117 2 0 Try.underlying117 119 ((S : Int), (k : Int))
              have hrd' : (Builtin.delete_ #[117, 119] 0 #[.map (some w.heap.size), .agg #[.int .i64 (S : Int), .int .i64 (k : Int)]]).run Try.prog W3 = .ok (.tuple #[]) (W3.putObj w.heap.size ob2) := hrd
              have c5 := p5.cell
              have c7 := p7.cell
              have r8 : Boxed (W3.putObj w.heap.size ob2) wv.heap.size 87 (.slice A1 m1 c1) := (World.putObj_heap_other (by omega)).trans p8
              have r7 : Boxed (W3.putObj w.heap.size ob2) b7 3 (.int .i64 (S : Int)) := (World.putObj_heap_other (by omega)).trans p7
              have r5 : Boxed (W3.putObj w.heap.size ob2) (w.heap.size + 1) 117 (.map (some w.heap.size)) := (World.putObj_heap_other (by omega)).trans p5
              have hB4 : Below w.heap.size w (W3.putObj w.heap.size ob2) := put_below hB3 (Nat.le_refl _) hB3.size ob2
              have r9 : IntsAt (W3.putObj w.heap.size ob2) B A1 m1 (css[S]?.getD []) := hi1.below hB4 hB
              obtain ⟨W4, hW4⟩ : ∃ W4, W4 = W3.putObj w.heap.size ob2 := ⟨_, rfl⟩
              rw [← hW4] at hrd' r8 r7 r5 r9 hB4 hm3
              clear hW4 hrd hob2 p8 p7 p5 p9 hB3 hm2
              go_wp2_with (fail)
              go_roundw
              case rel => exact ⟨(k : Int) - 1, _, ⟨⟨by omega, by omega⟩, by go_num⟩, r8, r7, r5, hm3, Hfa, Hfb, hB4, r9⟩
              case measure => simp [intOf]
