/- Parts of a proof: TY TZ. -/
import Derived.Test.YtlgibckhkdggdaaH24
import Derived.Lib.AppendZeros

/- lag's law: quiet. -/
namespace Go.Proofs.Ytlgibckhkdggdaa
open Go.RowKit Go.Shelf

attribute [local go_sem] Oper.semAt_some

section
variable {P : Program}
theorem zero_cells (m : Nat) : Builtin.zeroCells (Value.int .i64 0).cells m = (List.replicate m (Value.int .i64 0)).toArray := by
  unfold Builtin.zeroCells
  apply Array.ext'
  apply List.ext_getElem
  · simp [Value.cells]
  · intro i h1 h2
    simp [Value.cells, Nat.mod_one]
theorem run_append_zeros (w : World) (base : Nat) (t tn ty e : TypeId) (i : TypeInfo) (k kn : IntKind) (ht : P.underlying t = some (.slice e)) (htn : P.underlying tn = some (.int kn)) (hi : P.info? e = some i) (hz : i.zero = some (.int .i64 0)) (hsize : i.size = 1) (hby : i.bytes = 8)
    (g n cap : Nat) (xs : List Value) (hown : w.ownsRow base e 1 (.slice (some ⟨g, 0, none⟩) n cap) n xs) (m : Nat) (hm : n + m ≤ 100000) (hbase : base ≤ w.heap.size) :
    ∃ v' w', (Builtin.append_ #[t, tn] ty #[.slice (some ⟨g, 0, none⟩) n cap, .int k m]).run P w = .ok v' w' ∧ w'.ownsRow base e 1 v' (n + m) (xs ++ List.replicate m (.int .i64 0)) ∧ w.grownBy w' (some g) ∧ (v'.ownBlock = some g ∨ v'.ownBlock = some w.heap.size) := by
  have hcells := fun (w : World) => hown.cells (g := g) rfl
  rcases hown with ⟨hl, h | ⟨g', cap', cur, e', hb, hg, hnc, hcm, hcs, htake⟩⟩
  · cases h.1
  cases e'
  rw [Nat.mul_one] at hl hcs htake
  have hw : IntKind.i64.wrap (m : Int) = m := by rw [IntKind.wrap_i64]; omega
  have hneg : ¬ ((m : Int) < 0) := by omega
  have h48i : ¬ (281474976710656 < (m : Int) * (i.bytes : Int)) := by rw [hby]; omega
  have hz1 : (Value.int .i64 0).cells.size = 1 := rfl
  by_cases hroom : n + m ≤ cap
  · have hst := run_storeCells_at P g n e (List.replicate m (Value.int .i64 0)) 0 cur w hg (by simp; omega) (fun u hu => by rw [List.eq_of_mem_replicate hu]; rfl)
    simp only [Nat.add_zero] at hst
    refine ⟨.slice (some ⟨g, 0, none⟩) (n + m) cap, w.setRow g (cur.toList.take n ++ List.replicate m (Value.int .i64 0) ++ cur.toList.drop (n + (List.replicate m (Value.int .i64 0)).length)).toArray, ?_, ⟨by simp [hl], .inr ⟨g, cap, _, rfl, hb, setRow_heap w g cur _ e _ hg, hroom, hcm, ?_, ?_⟩⟩, ⟨rfl, rfl, rfl, by simp, fun k _ hk => setRow_other w g k _ (fun e => hk (by rw [e]))⟩, .inl rfl⟩
    · by_cases hm0 : m = 0
      · subst hm0
        have hw0 : IntKind.i64.wrap 0 = 0 := by rw [IntKind.wrap_i64]; rfl
        simp only [List.replicate_zero] at hst ⊢
        simp [Builtin.append_, run_underlying ht, run_underlying htn, sizeOf, typeInfo, zeroValue, hi, hz, hsize, asInt, asIntOf, hw0, hnc, hst, Addr.add_lit]
      · simp [Builtin.append_, run_underlying ht, run_underlying htn, sizeOf, typeInfo, zeroValue, hi, hz, hsize, asInt, asIntOf, hw, hneg, hm0, h48i, hroom, zero_cells, hst, Addr.add_lit]
    · simp only [List.size_toArray, List.length_append, List.length_take, List.length_drop, Array.length_toList, List.length_replicate]
      omega
    · simp only [Nat.mul_one]
      rw [htake, show n + m = (xs ++ List.replicate m (Value.int .i64 0)).length by simp [hl]]
      exact List.take_left
  · have hge := grownCap_ge w (n + m) cap e
    have hcm' : grownCap w (n + m) cap e ≤ maxLen := grownCap_le_maxLen w (n + m) cap e (by simp only [maxLen]; omega)
    have hfo := run_firstCells_some (P := P) w.drew 1 n ⟨g, 0, none⟩ n cap xs (by rw [Nat.mul_one]; exact hl) (fun j v hj => hcells w j v hj)
    have hm0 : ¬ m = 0 := by omega
    have h63' : ¬ (9223372036854775807 < ((n : Int) + (m : Int))) := by omega
    have h48' : ¬ (281474976710656 < Builtin.nextslicecap (n + m) cap * i.bytes) := by
      have := growslice_fits (bytes := 8) (need := n + m) (old := cap) (by omega) (by omega)
      rw [hby]
      omega
    refine ⟨.slice (some ⟨w.heap.size, 0, none⟩) (n + m) (grownCap w (n + m) cap e), w.drew.alloc (.cells (xs.toArray ++ (List.replicate m (Value.int .i64 0)).toArray ++ Builtin.zeroCells (Value.int .i64 0).cells (grownCap w (n + m) cap e - (n + m))) e), ?_, ⟨by simp [hl], .inr ⟨w.heap.size, _, _, rfl, hbase, heap_alloc_new w.drew _, hge, hcm', ?_, ?_⟩⟩, ⟨rfl, rfl, rfl, by simp, fun k hk _ => heap_alloc_old w.drew _ hk⟩, .inr rfl⟩
    · simp [Builtin.append_, run_underlying ht, run_underlying htn, sizeOf, typeInfo, zeroValue, hi, hz, hsize, asInt, asIntOf, hw, hneg, hm0, h48i, hroom, h63', h48', Question.forced, zero_cells, hfo, newRow, grownCap]
    · simp only [Array.size_append, List.size_toArray, size_zeroCells, hz1, hl, List.length_replicate]
      omega
    · simp only [Array.toList_append, List.append_assoc, Nat.mul_one]
      rw [← List.append_assoc, show n + m = (xs ++ List.replicate m (Value.int .i64 0)).length by simp [hl]]
      exact List.take_left
theorem run_append_none (w : World) (t ty e : TypeId) (i : TypeInfo) (ht : P.underlying t = some (.slice e)) (hi : P.info? e = some i) (A : Option Addr) (n c : Nat) (hle : n ≤ c) :
    (Builtin.append_ #[t, t] ty #[.slice A n c, .slice none 0 0]).run P w = .ok (.slice A n c) w := by
  have hl : ∀ w, (Builtin.lenOf (.slice none 0 0)).run P w = .ok 0 w := fun w => by simp [Builtin.lenOf]
  have hf : ∀ w, (Builtin.firstCells i.size 0 (.slice none 0 0)).run P w = .ok #[] w := fun w => by simp [Builtin.firstCells]
  cases A <;> simp [Builtin.append_, run_underlying ht, sizeOf, typeInfo, hi, hle, storeCells, hl, hf]
end
set_option maxRecDepth 100000 in
set_option maxHeartbeats 4000000 in
theorem quiet_any (w : World) (A : Option Addr) (n c l : Nat) (xs : List Int) (hx : IntsAt w w.heap.size A n xs) (hA : A = none → c = 0) (hn : n ≤ 1000) (hl : l ≤ 1000) :
    Calls Try.prog 47 #[.slice A n c, .int .i64 (l : Int)] w fun e w' => ∃ v, e = .returned v ∧ w'.ownsRow w.heap.size 2 1 v (n + l) ((quiL xs l).map (.int .i64)) ∧ Below w.heap.size w w' := by
  obtain ⟨i0, hi, hz0, hz1, hz2⟩ := info_parts infoI64
  have hm := hx.small
  have Hl := Lib.hid hx.len
  have hr0 := World.ownsRow_made (base := w.heap.size) (e := 2) (size := 1) w #[] 0 (Nat.le_refl _) (by simp [maxLen]) rfl
  have hb1 : Below w.heap.size w (w.alloc (.cells #[] 2)) := (Below.refl _ w).alloc (Nat.le_refl _) _
  have hq : (quiL xs l).map (Value.int .i64) = xs.map (.int .i64) ++ List.replicate l (.int .i64 0) := by unfold quiL; rw [List.map_append, List.map_replicate]
  have Hq := Lib.hid hq
  clear hq
  cases A with
  | none =>
    obtain rfl := hA rfl
    obtain rfl : n = 0 := by
      rcases Nat.eq_zero_or_pos n with h | h
      · exact h
      · obtain ⟨b, o, e, -⟩ := hx.cell h
        cases e
    have hxs : xs = [] := List.length_eq_zero_iff.1 Hl.out
    subst hxs
    obtain ⟨v', w', hrun, hown, hg, hat⟩ := run_append_zeros (P := Try.prog) (w.alloc (.cells #[] 2)) w.heap.size 22 3 22 2 i0 .i64 .i64 Try.underlying22 Try.underlying3 hi hz0 hz1 hz2 w.heap.size 0 0 [] hr0 l (by omega) (by simp)
    go_enter Try.func47, Try.ntmps47
    go_wp2_with (at_builtin; first | (refine Lib.wpList_append_run _ rfl _ _ _ _ rfl (.slice (some ⟨w.heap.size, 0, none⟩) 0 0) (.slice none 0 0) rfl rfl _ _ (run_append_none _ _ _ _ i0 Try.underlying22 hi _ 0 0 (Nat.le_refl _)) ?_) | (refine Lib.wpList_append_run _ rfl _ _ _ _ rfl (.slice (some ⟨w.heap.size, 0, none⟩) 0 0) (.int .i64 (l : Int)) rfl rfl _ _ hrun ?_))
    refine bodyPost_ret (results_tmp rfl _ _ _) rfl ⟨_, rfl, ?_, hb1.trans ((Below.refl _ _).grown hg (by simp) (fun r e => by cases e; exact Nat.le_refl _))⟩
    rw [Hq.out]
    rw [Nat.zero_add] at hown
    exact hown
  | some ad =>
    have I := Lib.hid (hx.below hb1 (Nat.le_refl _))
    clear hx
    go_enter Try.func47, Try.ntmps47
    go_wp2_with (at_builtin; first | (refine wpList_append_own_at _ rfl _ _ 22 rfl w.heap.size 2 i0 (.int .i64 0) 1 8 Try.underlying22 hi hz0 hz1 hz2 rfl (by decide) (.slice (some ⟨w.heap.size, 0, none⟩) 0 0) 0 [] rfl hr0 ad n c (xs.map (.int .i64)) rfl (by simp [Hl.out]) (ints_cells I.out) (by simp [Value.oneCell']) (by simp only [maxLen]; omega) (by omega) (by simp) ?_; intro v' wA hown hgrow hnil hat; rw [Nat.zero_add, List.nil_append] at hown; obtain ⟨g1, c1, rfl⟩ : ∃ g1 c1, v' = .slice (some ⟨g1, 0, none⟩) n c1 := (by rcases hown.2 with ⟨e, -⟩ | ⟨g, cap, cur, e, -⟩; exact absurd (hnil.1 e).1 (by simp); exact ⟨g, cap, e⟩); have hsz := hgrow.size; have hlt := (hown.lt g1 rfl).1; have hbA := hb1.trans ((Below.refl _ _).grown hgrow (by simp) (fun r e => (hr0.lt r e).1)); have hsA := hbA.size; obtain ⟨v2, w2, hrun, hown2, hg2, hat2⟩ := run_append_zeros (P := Try.prog) wA w.heap.size 22 3 22 2 i0 .i64 .i64 Try.underlying22 Try.underlying3 hi hz0 hz1 hz2 g1 n c1 _ hown l (by omega) hsA) | (refine Lib.wpList_append_run _ rfl _ _ _ _ rfl (.slice (some ⟨g1, 0, none⟩) n c1) (.int .i64 (l : Int)) rfl rfl _ _ hrun ?_))
    refine bodyPost_ret (results_tmp rfl _ _ _) rfl ⟨_, rfl, ?_, hbA.trans ((Below.refl _ _).grown hg2 hsA (fun r e => by cases e; exact hlt))⟩
    rw [Hq.out]
    exact hown2
end Go.Proofs.Ytlgibckhkdggdaa

/- lag's law: reached. -/
namespace Go.Proofs.Ytlgibckhkdggdaa
open Go.RowKit Go.Shelf

attribute [local go_sem] Oper.semAt_some

theorem own_form0 {W : World} {B n : Nat} {v : Value} {xs : List Int} (h : W.ownsRow B 2 1 v n (xs.map (Value.int .i64))) (hm : n ≤ 1000000) : ∃ A c, v = .slice A n c ∧ n ≤ c ∧ (A = none → c = 0) ∧ IntsAt W W.heap.size A n xs := by
  obtain ⟨A, c, e, hc, hi⟩ := own_form h hm
  refine ⟨A, c, e, hc, fun hA => ?_, hi⟩
  subst hA e
  rcases h.2 with ⟨e, -⟩ | ⟨g, cap, cur, e, -⟩
  · cases e
    rfl
  · cases e
theorem came_own {xs : List Int} {k n0 : Nat} {w' : World} {e : Ending} (hP : CameP xs (k : Int) n0 w' e) (hc : curveF xs = 0) (hk : k ≤ 60) : ∃ g, e = .returned (.tuple #[.slice (some ⟨g, 0, none⟩) k k, .int .i64 0]) ∧ RowZ w' g (ownL xs k) := by
  rcases hP with ⟨h, -⟩ | ⟨-, h, -⟩ | ⟨-, k', g, hk', -, -, e, hr⟩
  · exact absurd hc h
  · exact absurd (by omega) h
  · obtain rfl : k = k' := by omega
    exact ⟨g, e, hr⟩
set_option maxRecDepth 100000 in
set_option maxHeartbeats 32000000 in
theorem reached_any (w : World) (B B2 : Nat) (A A2 : Option Addr) (n c K c2 L : Nat) (wv : Int) (xs : List Int) (css : List (List Int)) (hx : IntsAt w B A n xs) (hB : B ≤ w.heap.size) (hy : RowsAt w B2 A2 K css) (hB2 : B2 ≤ w.heap.size) (hA : askedR xs css = 0) (hW : waitV xs css = (wv, 0)) (hL : lateV xs css = ((L : Int), 0)) (hL20 : L ≤ 20) :
    Calls Try.prog 50 #[.slice A n c, .slice A2 K c2, .int .i64 wv, .int .i64 (L : Int)] w fun e w' => e = .returned (.bool true) ∧ Below w.heap.size w w' := by
  have hm1 := hx.small
  have hm2 := hy.2.1
  have Hlx := Lib.hid hx.len
  have Hlk := Lib.hid hy.1
  have HA := Lib.hid hA
  have HW := Lib.hid hW
  have HL := Lib.hid hL
  have HC := Lib.hid (show curveF xs = 0 ∧ chainF css = 0 from ⟨(asked_fair hA).1, (asked_fair hA).2.1⟩)
  have hK3 : 1 ≤ K ∧ K ≤ 3 := by have := chain_pos HC.out.2; rw [Hlk.out] at this; exact this
  have hwb : 0 ≤ wv ∧ wv ≤ 20000 := by
    obtain ⟨v, e, h1, h2⟩ := wait_fits hA
    rw [hW] at e
    cases e
    exact ⟨h1, h2⟩
  clear hA hW hL
  go_enter Try.func50, Try.ntmps50
  go_wp2_with (fail)
  refine (rMosts_any w B A n c 60 xs hx hB (nums_of HC.out.1) (by omega)).mono ?_
  rintro e w1 ⟨v9, rfl, hmo, hb⟩
  obtain ⟨A9, c9, rfl, -, i9⟩ := own_form hmo (by omega)
  have B1 := hb
  have I9 := Lib.hid i9
  clear hmo hb i9
  go_wp2_with (fail)
  refine (rLeasts_any w1 _ A2 K c2 60 css (hy.below B1 hB2) (Nat.le_trans hB2 B1.size) (chain_nums HC.out.2).2.2 hK3.1 (by omega) (by omega)).mono ?_
  rintro e w2 ⟨g10, hg10, rfl, z10, hb⟩
  have i10 := z10.ints (n := 61) (lvlR_len _ _ _ _) (by omega)
  have B2' := B1.trans (hb.mono B1.size)
  have hB2z := B2'.size
  have I9 := Lib.hid (ints_up I9.out hb)
  have I10 := Lib.hid i10
  clear hb hg10 z10 B1 i10
  have w60 : IntKind.i64.wrap (60 - (L : Int)) = ((60 - L : Nat) : Int) := by rw [IntKind.wrap_i64]; omega
  obtain ⟨M, hM⟩ : ∃ M, M = 60 - L := ⟨_, rfl⟩
  obtain ⟨N, hN⟩ : ∃ N, N = M + 1 := ⟨_, rfl⟩
  rw [← hM] at w60
  have hM1 : M + L ≤ 60 := by omega
  have hM2 : 60 ≤ M + L := by omega
  have hN1 : N ≤ M + 1 := by omega
  have hN2 : M + 1 ≤ N := by omega
  clear hM hN
  go_wp2_with (fail)
  go_loopg [11, 12, 13] N (fun g' v11 v12 v13 wr => ∃ (k q : Nat) (a b : Int), (k ≤ N ∧ g' = N - k ∧ v13 = .int .i64 (k : Int) ∧ v11 = .int .i64 a ∧ v12 = .int .i64 b) ∧ Hid ((a = -1 ∨ ∃ a' : Nat, a = (a' : Int) ∧ a' ≤ 60 ∧ mst xs a' - lvl css (css.length - 1) a' = wv) ∧ (b = -1 ∨ ∃ b' : Nat, b = (b' : Int) ∧ b' + L ≤ 60 ∧ (L = 0 ∨ lvl css (css.length - 1) (b' + L - 1) < mst xs b'))) ∧ Hid (wr = w2.drewN q))
  case atStart => exact ⟨0, 0, -1, -1, ⟨by omega, rfl, rfl, rfl, rfl⟩, Lib.hid ⟨.inl rfl, .inl rfl⟩, Lib.hid rfl⟩
  case round =>
    obtain ⟨k, q, a, b, ⟨hk, rfl, rfl, rfl, rfl⟩, H, hq⟩ := hrel
    have hwk : IntKind.i64.wrap ((k : Int) + 1) = (k : Int) + 1 := by rw [IntKind.wrap_i64]; omega
    by_cases hkM : (k : Int) ≤ (M : Int)
    case pos =>
      obtain ⟨b9, o9, e9, -, d1⟩ := (I9.out.drewN q).cell (k := k) (by omega)
      cases e9
      obtain ⟨b10, o10, e10, -, d2⟩ := (I10.out.drewN q).cell (k := k) (by omega)
      cases e10
      rw [← hq.out] at d1 d2
      rw [sumsT_get xs (by omega)] at d1
      rw [Nat.zero_add, lvlR_get (by omega) (by omega), ← Hlk.out] at d2
      have f1 := mst_fits HC.out.1 (k := k) (by omega)
      have f2 := lvl_fits HC.out.2 (k := k) (by omega)
      obtain ⟨x, hxe⟩ : ∃ x, x = mst xs k := ⟨_, rfl⟩
      obtain ⟨y, hye⟩ : ∃ y, y = lvl css (css.length - 1) k := ⟨_, rfl⟩
      rw [← hxe] at d1 f1
      rw [← hye] at d2 f2
      have wxy : IntKind.i64.wrap (x - y) = x - y := by rw [IntKind.wrap_i64]; omega
      have Hxy := Lib.hid (And.intro hxe hye)
      have hk61 : k < 61 := by omega
      have hk61i : (k : Int) < 61 := by omega
      clear hxe hye
      rcases H.out.1 with ha | ⟨a', ha, ha60, hal⟩
      · subst ha
        by_cases hxy : x - y = wv
        case pos =>
          subst hxy
          go_wp2
          go_quiet (fail)
          go_wp2
          rcases H.out.2 with hb | ⟨b', hb, hb60, hbl⟩
          · subst hb
            by_cases hL0 : L = 0
            case pos =>
              subst hL0
              go_quiet (fail)
              go_wp2
              go_roundg (N - (k + 1))
              case measure => omega
              case rel => exact ⟨k + 1, _, (k : Int), (k : Int), ⟨by omega, rfl, by simp, rfl, rfl⟩, Lib.hid ⟨.inr ⟨k, rfl, by omega, by rw [← Hxy.out.1, ← Hxy.out.2]⟩, .inr ⟨k, rfl, by omega, .inl (by trivial)⟩⟩, Lib.hid (by rw [hq.out]; simp only [World.drewN_drewN]; rfl)⟩
            case neg =>
              have hL1 : ¬ (L : Int) = 0 := by omega
              obtain ⟨b10, o10, e10, -, d3⟩ := (I10.out.drewN q).cell (k := k + L - 1) (by omega)
              cases e10
              obtain ⟨b9, o9, e9, -, d4⟩ := (I9.out.drewN q).cell (k := k) (by omega)
              cases e9
              rw [← hq.out] at d3 d4
              rw [Nat.zero_add, lvlR_get (by omega) (by omega), ← Hlk.out] at d3
              rw [sumsT_get xs (by omega)] at d4
              have f3 := lvl_fits HC.out.2 (k := k + L - 1) (by omega)
              rw [← Hxy.out.1] at d4
              obtain ⟨s, hse⟩ : ∃ s, s = k + L - 1 := ⟨_, rfl⟩
              obtain ⟨z, hze⟩ : ∃ z, z = lvl css (css.length - 1) (k + L - 1) := ⟨_, rfl⟩
              rw [← hze] at d3 f3
              rw [← hse] at d3
              have ws : IntKind.i64.wrap ((k : Int) + (L : Int)) = ((s + 1 : Nat) : Int) := by rw [IntKind.wrap_i64]; omega
              have ws2 : IntKind.i64.wrap (((s + 1 : Nat) : Int) - 1) = ((s : Nat) : Int) := by rw [IntKind.wrap_i64]; omega
              have hs61 : s < 61 := by omega
              have hs61i : (s : Int) < 61 := by omega
              obtain ⟨s1, hs1⟩ : ∃ s1, s1 = s + 1 := ⟨_, rfl⟩
              rw [← hs1] at ws ws2
              have Hz := Lib.hid hze
              clear hs1 hse hze hL0
              by_cases hzx : z < x
              case pos =>
                refine wp_region_quiet_lit (by kernel_rfl) (by kernel_rfl) ?_
                iterate 5 (go_big_quiet_step (fail))
                simp only [show (((L : Nat) : Int) == 0) = false from beq_eq_false_iff_ne.2 (by omega)]
                iterate 15 (go_big_quiet_step (fail))
                refine wpQuiet_nil ?_
                intro _ hw'
                obtain ⟨nq, hw''⟩ := hw'
                subst hw''
                go_wp2
                go_roundg (N - (k + 1))
                case measure => omega
                case rel => exact ⟨k + 1, _, (k : Int), (k : Int), ⟨by omega, rfl, by simp, rfl, rfl⟩, Lib.hid ⟨.inr ⟨k, rfl, by omega, by rw [← Hxy.out.1, ← Hxy.out.2]⟩, .inr ⟨k, rfl, by omega, .inr (by rw [← Hz.out, ← Hxy.out.1]; exact hzx)⟩⟩, Lib.hid (by rw [hq.out]; simp only [World.drewN_drewN]; rfl)⟩
              case neg =>
                refine wp_region_quiet_lit (by kernel_rfl) (by kernel_rfl) ?_
                iterate 5 (go_big_quiet_step (fail))
                simp only [show (((L : Nat) : Int) == 0) = false from beq_eq_false_iff_ne.2 (by omega)]
                iterate 15 (go_big_quiet_step (fail))
                refine wpQuiet_nil ?_
                intro _ hw'
                obtain ⟨nq, hw''⟩ := hw'
                subst hw''
                go_wp2
                go_roundg (N - (k + 1))
                case measure => omega
                case rel => exact ⟨k + 1, _, (k : Int), -1, ⟨by omega, rfl, by simp, rfl, rfl⟩, Lib.hid ⟨.inr ⟨k, rfl, by omega, by rw [← Hxy.out.1, ← Hxy.out.2]⟩, .inl rfl⟩, Lib.hid (by rw [hq.out]; simp only [World.drewN_drewN]; rfl)⟩
          · subst hb
            have Hbl := Lib.hid hbl
            clear hbl
            refine wp_region_quiet_lit (by kernel_rfl) (by kernel_rfl) ?_
            iterate 2 (go_big_quiet_step (fail))
            simp only [show decide (((b' : Nat) : Int) < 0) = false from decide_eq_false (by omega)]
            iterate 18 (go_big_quiet_step (fail))
            refine wpQuiet_nil ?_
            intro _ hw'
            obtain ⟨nq, hw''⟩ := hw'
            subst hw''
            go_wp2
            go_roundg (N - (k + 1))
            case measure => omega
            case rel => exact ⟨k + 1, _, (k : Int), (b' : Int), ⟨by omega, rfl, by simp, rfl, rfl⟩, Lib.hid ⟨.inr ⟨k, rfl, by omega, by rw [← Hxy.out.1, ← Hxy.out.2]⟩, .inr ⟨b', rfl, hb60, Hbl.out⟩⟩, Lib.hid (by rw [hq.out]; simp only [World.drewN_drewN]; rfl)⟩
        case neg =>
          go_wp2
          go_quiet (fail)
          go_wp2
          rcases H.out.2 with hb | ⟨b', hb, hb60, hbl⟩
          · subst hb
            by_cases hL0 : L = 0
            case pos =>
              subst hL0
              go_quiet (fail)
              go_wp2
              go_roundg (N - (k + 1))
              case measure => omega
              case rel => exact ⟨k + 1, _, -1, (k : Int), ⟨by omega, rfl, by simp, rfl, rfl⟩, Lib.hid ⟨.inl rfl, .inr ⟨k, rfl, by omega, .inl (by trivial)⟩⟩, Lib.hid (by rw [hq.out]; simp only [World.drewN_drewN]; rfl)⟩
            case neg =>
              have hL1 : ¬ (L : Int) = 0 := by omega
              obtain ⟨b10, o10, e10, -, d3⟩ := (I10.out.drewN q).cell (k := k + L - 1) (by omega)
              cases e10
              obtain ⟨b9, o9, e9, -, d4⟩ := (I9.out.drewN q).cell (k := k) (by omega)
              cases e9
              rw [← hq.out] at d3 d4
              rw [Nat.zero_add, lvlR_get (by omega) (by omega), ← Hlk.out] at d3
              rw [sumsT_get xs (by omega)] at d4
              have f3 := lvl_fits HC.out.2 (k := k + L - 1) (by omega)
              rw [← Hxy.out.1] at d4
              obtain ⟨s, hse⟩ : ∃ s, s = k + L - 1 := ⟨_, rfl⟩
              obtain ⟨z, hze⟩ : ∃ z, z = lvl css (css.length - 1) (k + L - 1) := ⟨_, rfl⟩
              rw [← hze] at d3 f3
              rw [← hse] at d3
              have ws : IntKind.i64.wrap ((k : Int) + (L : Int)) = ((s + 1 : Nat) : Int) := by rw [IntKind.wrap_i64]; omega
              have ws2 : IntKind.i64.wrap (((s + 1 : Nat) : Int) - 1) = ((s : Nat) : Int) := by rw [IntKind.wrap_i64]; omega
              have hs61 : s < 61 := by omega
              have hs61i : (s : Int) < 61 := by omega
              obtain ⟨s1, hs1⟩ : ∃ s1, s1 = s + 1 := ⟨_, rfl⟩
              rw [← hs1] at ws ws2
              have Hz := Lib.hid hze
              clear hs1 hse hze hL0
              by_cases hzx : z < x
              case pos =>
                refine wp_region_quiet_lit (by kernel_rfl) (by kernel_rfl) ?_
                iterate 5 (go_big_quiet_step (fail))
                simp only [show (((L : Nat) : Int) == 0) = false from beq_eq_false_iff_ne.2 (by omega)]
                iterate 15 (go_big_quiet_step (fail))
                refine wpQuiet_nil ?_
                intro _ hw'
                obtain ⟨nq, hw''⟩ := hw'
                subst hw''
                go_wp2
                go_roundg (N - (k + 1))
                case measure => omega
                case rel => exact ⟨k + 1, _, -1, (k : Int), ⟨by omega, rfl, by simp, rfl, rfl⟩, Lib.hid ⟨.inl rfl, .inr ⟨k, rfl, by omega, .inr (by rw [← Hz.out, ← Hxy.out.1]; exact hzx)⟩⟩, Lib.hid (by rw [hq.out]; simp only [World.drewN_drewN]; rfl)⟩
              case neg =>
                refine wp_region_quiet_lit (by kernel_rfl) (by kernel_rfl) ?_
                iterate 5 (go_big_quiet_step (fail))
                simp only [show (((L : Nat) : Int) == 0) = false from beq_eq_false_iff_ne.2 (by omega)]
                iterate 15 (go_big_quiet_step (fail))
                refine wpQuiet_nil ?_
                intro _ hw'
                obtain ⟨nq, hw''⟩ := hw'
                subst hw''
                go_wp2
                go_roundg (N - (k + 1))
                case measure => omega
                case rel => exact ⟨k + 1, _, -1, -1, ⟨by omega, rfl, by simp, rfl, rfl⟩, Lib.hid ⟨.inl rfl, .inl rfl⟩, Lib.hid (by rw [hq.out]; simp only [World.drewN_drewN]; rfl)⟩
          · subst hb
            have Hbl := Lib.hid hbl
            clear hbl
            refine wp_region_quiet_lit (by kernel_rfl) (by kernel_rfl) ?_
            iterate 2 (go_big_quiet_step (fail))
            simp only [show decide (((b' : Nat) : Int) < 0) = false from decide_eq_false (by omega)]
            iterate 18 (go_big_quiet_step (fail))
            refine wpQuiet_nil ?_
            intro _ hw'
            obtain ⟨nq, hw''⟩ := hw'
            subst hw''
            go_wp2
            go_roundg (N - (k + 1))
            case measure => omega
            case rel => exact ⟨k + 1, _, -1, (b' : Int), ⟨by omega, rfl, by simp, rfl, rfl⟩, Lib.hid ⟨.inl rfl, .inr ⟨b', rfl, hb60, Hbl.out⟩⟩, Lib.hid (by rw [hq.out]; simp only [World.drewN_drewN]; rfl)⟩
      · subst ha
        have Hal := Lib.hid hal
        clear hal
        go_wp2
        refine wp_region_quiet_lit (by kernel_rfl) (by kernel_rfl) ?_
        iterate 2 (go_big_quiet_step (fail))
        simp only [show decide (((a' : Nat) : Int) < 0) = false from decide_eq_false (by omega)]
        iterate 13 (go_big_quiet_step (fail))
        refine wpQuiet_nil ?_
        intro _ hw'
        obtain ⟨nq, hw''⟩ := hw'
        subst hw''
        go_wp2
        rcases H.out.2 with hb | ⟨b', hb, hb60, hbl⟩
        · subst hb
          by_cases hL0 : L = 0
          case pos =>
            subst hL0
            go_quiet (fail)
            go_wp2
            go_roundg (N - (k + 1))
            case measure => omega
            case rel => exact ⟨k + 1, _, (a' : Int), (k : Int), ⟨by omega, rfl, by simp, rfl, rfl⟩, Lib.hid ⟨.inr ⟨a', rfl, ha60, Hal.out⟩, .inr ⟨k, rfl, by omega, .inl (by trivial)⟩⟩, Lib.hid (by rw [hq.out]; simp only [World.drewN_drewN]; rfl)⟩
          case neg =>
            have hL1 : ¬ (L : Int) = 0 := by omega
            obtain ⟨b10, o10, e10, -, d3⟩ := (I10.out.drewN q).cell (k := k + L - 1) (by omega)
            cases e10
            obtain ⟨b9, o9, e9, -, d4⟩ := (I9.out.drewN q).cell (k := k) (by omega)
            cases e9
            rw [← hq.out] at d3 d4
            rw [Nat.zero_add, lvlR_get (by omega) (by omega), ← Hlk.out] at d3
            rw [sumsT_get xs (by omega)] at d4
            have f3 := lvl_fits HC.out.2 (k := k + L - 1) (by omega)
            rw [← Hxy.out.1] at d4
            obtain ⟨s, hse⟩ : ∃ s, s = k + L - 1 := ⟨_, rfl⟩
            obtain ⟨z, hze⟩ : ∃ z, z = lvl css (css.length - 1) (k + L - 1) := ⟨_, rfl⟩
            rw [← hze] at d3 f3
            rw [← hse] at d3
            have ws : IntKind.i64.wrap ((k : Int) + (L : Int)) = ((s + 1 : Nat) : Int) := by rw [IntKind.wrap_i64]; omega
            have ws2 : IntKind.i64.wrap (((s + 1 : Nat) : Int) - 1) = ((s : Nat) : Int) := by rw [IntKind.wrap_i64]; omega
            have hs61 : s < 61 := by omega
            have hs61i : (s : Int) < 61 := by omega
            obtain ⟨s1, hs1⟩ : ∃ s1, s1 = s + 1 := ⟨_, rfl⟩
            rw [← hs1] at ws ws2
            have Hz := Lib.hid hze
            clear hs1 hse hze hL0
            by_cases hzx : z < x
            case pos =>
              refine wp_region_quiet_lit (by kernel_rfl) (by kernel_rfl) ?_
              iterate 5 (go_big_quiet_step (fail))
              simp only [show (((L : Nat) : Int) == 0) = false from beq_eq_false_iff_ne.2 (by omega)]
              iterate 15 (go_big_quiet_step (fail))
              refine wpQuiet_nil ?_
              intro _ hw'
              obtain ⟨nq, hw''⟩ := hw'
              subst hw''
              go_wp2
              go_roundg (N - (k + 1))
              case measure => omega
              case rel => exact ⟨k + 1, _, (a' : Int), (k : Int), ⟨by omega, rfl, by simp, rfl, rfl⟩, Lib.hid ⟨.inr ⟨a', rfl, ha60, Hal.out⟩, .inr ⟨k, rfl, by omega, .inr (by rw [← Hz.out, ← Hxy.out.1]; exact hzx)⟩⟩, Lib.hid (by rw [hq.out]; simp only [World.drewN_drewN]; rfl)⟩
            case neg =>
              refine wp_region_quiet_lit (by kernel_rfl) (by kernel_rfl) ?_
              iterate 5 (go_big_quiet_step (fail))
              simp only [show (((L : Nat) : Int) == 0) = false from beq_eq_false_iff_ne.2 (by omega)]
              iterate 15 (go_big_quiet_step (fail))
              refine wpQuiet_nil ?_
              intro _ hw'
              obtain ⟨nq, hw''⟩ := hw'
              subst hw''
              go_wp2
              go_roundg (N - (k + 1))
              case measure => omega
              case rel => exact ⟨k + 1, _, (a' : Int), -1, ⟨by omega, rfl, by simp, rfl, rfl⟩, Lib.hid ⟨.inr ⟨a', rfl, ha60, Hal.out⟩, .inl rfl⟩, Lib.hid (by rw [hq.out]; simp only [World.drewN_drewN]; rfl)⟩
        · subst hb
          have Hbl := Lib.hid hbl
          clear hbl
          refine wp_region_quiet_lit (by kernel_rfl) (by kernel_rfl) ?_
          iterate 2 (go_big_quiet_step (fail))
          simp only [show decide (((b' : Nat) : Int) < 0) = false from decide_eq_false (by omega)]
          iterate 18 (go_big_quiet_step (fail))
          refine wpQuiet_nil ?_
          intro _ hw'
          obtain ⟨nq, hw''⟩ := hw'
          subst hw''
          go_wp2
          go_roundg (N - (k + 1))
          case measure => omega
          case rel => exact ⟨k + 1, _, (a' : Int), (b' : Int), ⟨by omega, rfl, by simp, rfl, rfl⟩, Lib.hid ⟨.inr ⟨a', rfl, ha60, Hal.out⟩, .inr ⟨b', rfl, hb60, Hbl.out⟩⟩, Lib.hid (by rw [hq.out]; simp only [World.drewN_drewN]; rfl)⟩
    case neg =>
      have hbq : Below w2.heap.size w2 wr := by rw [hq.out]; exact below_drewN _ _
      have Bv0 := B2'.trans (hbq.mono hB2z)
      obtain ⟨v0, rfl⟩ : ∃ v0, v0 = wr := ⟨_, rfl⟩
      clear hbq hq I9 I10 hwk
      rcases H.out.1 with ha | ⟨a', ha, ha60, hal⟩
      · subst ha
        rcases H.out.2 with hb | ⟨b', hb, hb60, hbl⟩
        · subst hb
          go_wp2
          exact bodyPost_ret (results_tmp rfl _ _ _) rfl ⟨rfl, Bv0⟩
        · subst hb
          obtain ⟨xv, hxv⟩ := late_reached HA.out (L := L) (b := b') (by rw [HL.out]) hb60 hbl
          rw [Hlk.out] at hxv
          have Hxv := Lib.hid hxv
          have hb'60 : b' ≤ 60 := by omega
          clear hbl hxv
          go_wp2_with (fail)
          refine (Came_any v0 B A n c xs ((b' : Nat) : Int) (hx.below Bv0 hB) (Nat.le_trans hB Bv0.size)).mono ?_
          rintro e x1 ⟨hP, hb⟩
          obtain ⟨g1, rfl, z1⟩ := came_own hP HC.out.1 hb'60
          have Bx1 := Bv0.trans (hb.mono Bv0.size)
          have I18 := Lib.hid (z1.ints (ownL_len xs b') (by omega))
          have Hol := Lib.hid (ownL_len xs b')
          clear hb hP z1 Bv0
          go_wp2_with (fail)
          refine (quiet_any x1 (some ⟨g1, 0, none⟩) b' b' L (ownL xs b') I18.out (fun h => by cases h) (by omega) (by omega)).mono ?_
          rintro e x2 ⟨v18, rfl, hown, hb⟩
          obtain ⟨A18, c18, rfl, hc18, i18⟩ := own_form hown (by omega)
          have Bx2 := Bx1.trans (hb.mono Bx1.size)
          have I18 := Lib.hid i18
          have Hr := Lib.hid (qui_row (l := L) (own_row HC.out.1 (m := b') hb'60) (by rw [Hol.out]; exact hb60))
          have Hf := Lib.hid (keeps_fit HC.out.1 Hr.out fun u t hu _ => qui_keeps (l := L) HC.out.1 (xs := ownL xs b') (by rw [Hol.out]; exact own_all HC.out.1) u t hu)
          have Hql := Lib.hid (show (quiL (ownL xs b') L).length = b' + L by rw [quiL_len, Hol.out])
          clear hb hown Bx1 i18
          obtain ⟨m, hm⟩ : ∃ m, m = b' + L := ⟨_, rfl⟩
          rw [← hm] at hc18 hb60 ⊢
          have Hm := Lib.hid hm
          clear hm
          go_wp2_with (fail)
          refine (through_any x2 B2 A2 A18 K c2 m c18 css (quiL (ownL xs b') L) (hy.below Bx2 hB2) (Nat.le_trans hB2 Bx2.size) (by rw [Hm.out]; exact I18.out) hc18 (fun j hj => chain_curves HC.out.2 hj) Hf.out).mono ?_
          rintro e x3 ⟨⟨A20, c20, rfl, hc20, i20⟩, hb⟩
          have Bx3 := Bx2.trans (hb.mono Bx2.size)
          have I18 := Lib.hid (ints_up I18.out hb)
          have I20 := Lib.hid i20
          clear hb Bx2 i20
          go_wp2_with (fail)
          refine (Seen_any x3 _ _ A18 A20 m c18 m c20 (quiL (ownL xs b') L) (thrL css (quiL (ownL xs b') L) K) (by rw [Hm.out]; exact I18.out) (Nat.le_refl _) I20.out (Nat.le_refl _)).mono ?_
          rintro e x4 ⟨rfl, hb⟩
          have Bx4 := Bx3.trans (hb.mono Bx3.size)
          rw [Hxv.out]
          clear hb Bx3
          go_wp2
          exact bodyPost_ret (results_tmp rfl _ _ _) rfl ⟨rfl, Bx4⟩
      · subst ha
        have Hal := Lib.hid hal
        clear hal
        go_wp2_with (fail)
        refine (Came_any v0 B A n c xs ((a' : Nat) : Int) (hx.below Bv0 hB) (Nat.le_trans hB Bv0.size)).mono ?_
        rintro e v1 ⟨hP, hb⟩
        obtain ⟨g1, rfl, z1⟩ := came_own hP HC.out.1 ha60
        have Bv1 := Bv0.trans (hb.mono Bv0.size)
        have I14 := Lib.hid (z1.ints (ownL_len xs a') (by omega))
        have Hf := Lib.hid (own_fit HC.out.1 (m := a') ha60)
        have Hol := Lib.hid (ownL_len xs a')
        clear hb hP z1 Bv0
        go_wp2_with (fail)
        refine (through_any v1 B2 A2 (some ⟨g1, 0, none⟩) K c2 a' a' css (ownL xs a') (hy.below Bv1 hB2) (Nat.le_trans hB2 Bv1.size) I14.out (Nat.le_refl _) (fun j hj => chain_curves HC.out.2 hj) Hf.out).mono ?_
        rintro e v2 ⟨⟨A16, c16, rfl, hc16, i16⟩, hb⟩
        have Bv2 := Bv1.trans (hb.mono Bv1.size)
        have I14 := Lib.hid (ints_up I14.out hb)
        have I16 := Lib.hid i16
        have Hth := Lib.hid (thrL_fit (fun j hj => chain_curves HC.out.2 hj) Hf.out K (by rw [Hlk.out]; exact Nat.le_refl _))
        have Htl := Lib.hid ((thrL_len css (ownL xs a') K).trans Hol.out)
        clear hb Bv1 i16
        go_wp2_with (fail)
        refine (last_any v2 _ (some ⟨g1, 0, none⟩) a' a' (ownL xs a') I14.out (Nat.le_refl _) (by omega) (fun j hj => by have := preS_bound (row_of Hf.out.1) j (by rw [Hol.out]; exact hj); omega)).mono ?_
        rintro e v3 ⟨rfl, hb⟩
        have Bv3 := Bv2.trans (hb.mono Bv2.size)
        have I16 := Lib.hid (ints_up I16.out hb)
        clear hb Bv2
        have hwr := wait_reached HA.out ha60 (by rw [Hal.out, HW.out])
        rw [HW.out, Hlk.out] at hwr
        have hbd := preS_bound (row_of Hf.out.1) a' (by rw [Hol.out]; exact Nat.le_refl _)
        have hbd2 := preS_bound (row_of Hth.out.1) a' (by rw [Htl.out]; exact Nat.le_refl _)
        obtain ⟨s1, hs1⟩ : ∃ s, s = preS (ownL xs a') a' := ⟨_, rfl⟩
        obtain ⟨s2, hs2⟩ : ∃ s, s = preS (thrL css (ownL xs a') K) a' := ⟨_, rfl⟩
        rw [← hs1] at hwr hbd ⊢
        rw [← hs2] at hwr hbd2
        have ws12 : IntKind.i64.wrap (s1 - s2) = wv := by rw [IntKind.wrap_i64]; simp only [] at hwr; omega
        have Hs2 := Lib.hid hs2
        clear hs1 hs2 hwr hbd hbd2
        go_wp2_with (fail)
        refine (last_any v3 _ A16 a' c16 (thrL css (ownL xs a') K) I16.out (Nat.le_refl _) (by omega) (fun j hj => by have := preS_bound (row_of Hth.out.1) j (by rw [Htl.out]; exact hj); omega)).mono ?_
        rintro e v4 ⟨rfl, hb⟩
        have Bv4 := Bv3.trans (hb.mono Bv3.size)
        rw [← Hs2.out]
        clear hb Bv3
        rcases H.out.2 with hb | ⟨b', hb, hb60, hbl⟩
        · subst hb
          go_wp2
          exact bodyPost_ret (results_tmp rfl _ _ _) rfl ⟨rfl, Bv4⟩
        · subst hb
          obtain ⟨xv, hxv⟩ := late_reached HA.out (L := L) (b := b') (by rw [HL.out]) hb60 hbl
          rw [Hlk.out] at hxv
          have Hxv := Lib.hid hxv
          have hb'60 : b' ≤ 60 := by omega
          clear hbl hxv
          go_wp2_with (fail)
          refine (Came_any v4 B A n c xs ((b' : Nat) : Int) (hx.below Bv4 hB) (Nat.le_trans hB Bv4.size)).mono ?_
          rintro e x1 ⟨hP, hb⟩
          obtain ⟨g1, rfl, z1⟩ := came_own hP HC.out.1 hb'60
          have Bx1 := Bv4.trans (hb.mono Bv4.size)
          have I18 := Lib.hid (z1.ints (ownL_len xs b') (by omega))
          have Hol := Lib.hid (ownL_len xs b')
          clear hb hP z1 Bv4
          go_wp2_with (fail)
          refine (quiet_any x1 (some ⟨g1, 0, none⟩) b' b' L (ownL xs b') I18.out (fun h => by cases h) (by omega) (by omega)).mono ?_
          rintro e x2 ⟨v18, rfl, hown, hb⟩
          obtain ⟨A18, c18, rfl, hc18, i18⟩ := own_form hown (by omega)
          have Bx2 := Bx1.trans (hb.mono Bx1.size)
          have I18 := Lib.hid i18
          have Hr := Lib.hid (qui_row (l := L) (own_row HC.out.1 (m := b') hb'60) (by rw [Hol.out]; exact hb60))
          have Hf := Lib.hid (keeps_fit HC.out.1 Hr.out fun u t hu _ => qui_keeps (l := L) HC.out.1 (xs := ownL xs b') (by rw [Hol.out]; exact own_all HC.out.1) u t hu)
          have Hql := Lib.hid (show (quiL (ownL xs b') L).length = b' + L by rw [quiL_len, Hol.out])
          clear hb hown Bx1 i18
          obtain ⟨m, hm⟩ : ∃ m, m = b' + L := ⟨_, rfl⟩
          rw [← hm] at hc18 hb60 ⊢
          have Hm := Lib.hid hm
          clear hm
          go_wp2_with (fail)
          refine (through_any x2 B2 A2 A18 K c2 m c18 css (quiL (ownL xs b') L) (hy.below Bx2 hB2) (Nat.le_trans hB2 Bx2.size) (by rw [Hm.out]; exact I18.out) hc18 (fun j hj => chain_curves HC.out.2 hj) Hf.out).mono ?_
          rintro e x3 ⟨⟨A20, c20, rfl, hc20, i20⟩, hb⟩
          have Bx3 := Bx2.trans (hb.mono Bx2.size)
          have I18 := Lib.hid (ints_up I18.out hb)
          have I20 := Lib.hid i20
          clear hb Bx2 i20
          go_wp2_with (fail)
          refine (Seen_any x3 _ _ A18 A20 m c18 m c20 (quiL (ownL xs b') L) (thrL css (quiL (ownL xs b') L) K) (by rw [Hm.out]; exact I18.out) (Nat.le_refl _) I20.out (Nat.le_refl _)).mono ?_
          rintro e x4 ⟨rfl, hb⟩
          have Bx4 := Bx3.trans (hb.mono Bx3.size)
          rw [Hxv.out]
          clear hb Bx3
          go_wp2
          exact bodyPost_ret (results_tmp rfl _ _ _) rfl ⟨rfl, Bx4⟩
end Go.Proofs.Ytlgibckhkdggdaa
