/- Parts of a proof: RC RD. -/
import Derived.Test.YtlgibckhkdggdaaH11

/- lag's reference: Mosts. -/
namespace Go.Proofs.Ytlgibckhkdggdaa
open Go.RowKit Go.Shelf

attribute [local go_sem] Oper.semAt_some

/-- The least of the first parts, -1 without any. -/
def bestSoFar (f : Nat → Int) (p : Nat) : Int := if p ≤ 1 then -1 else minP 1 (p - 1) f
theorem bestSoFar_next {f : Nat → Int} {p : Nat} (h1 : 1 ≤ p) (hf : ∀ q, 1 ≤ q → q ≤ p → 0 ≤ f q) :
    (bestSoFar f p < 0 ∨ f p < bestSoFar f p → bestSoFar f (p + 1) = f p) ∧ (¬ bestSoFar f p < 0 → ¬ f p < bestSoFar f p → bestSoFar f (p + 1) = bestSoFar f p) ∧ (1 < p → 0 ≤ bestSoFar f p) := by
  have e : bestSoFar f (p + 1) = minP 1 p f := by unfold bestSoFar; rw [if_neg (by omega), Nat.add_sub_cancel]
  by_cases hp : p ≤ 1
  · obtain rfl : p = 1 := by omega
    have e0 : bestSoFar f 1 = -1 := by unfold bestSoFar; rw [if_pos (by omega)]
    rw [e, e0, minP_one]
    exact ⟨fun _ => rfl, fun h => by omega, fun h => by omega⟩
  · have e0 : bestSoFar f p = minP 1 (p - 1) f := by unfold bestSoFar; rw [if_neg hp]
    have es := minP_succ (lo := 1) (M := p - 1) (by omega) f
    rw [show p - 1 + 1 = p by omega] at es
    obtain ⟨⟨q, a, b, hq⟩, -⟩ := minP_spec (lo := 1) (M := p - 1) (by omega) f
    have := hf q a (by omega)
    rw [e, e0, es]
    refine ⟨fun h => ?_, fun _ h => by rw [if_neg h], fun _ => by omega⟩
    rcases h with h | h
    · omega
    · rw [if_pos h]

set_option maxRecDepth 100000 in
set_option maxHeartbeats 8000000 in
theorem rMosts_any (w : World) (B : Nat) (A : Option Addr) (n c t : Nat) (xs : List Int) (hx : IntsAt w B A n xs) (hB : B ≤ w.heap.size) (hv : Nums xs) (ht : t ≤ 1000) :
    Calls Try.prog 54 #[.slice A n c, .int .i64 (t : Int)] w fun e w' => ∃ v, e = .returned v ∧ w'.ownsRow w.heap.size 2 1 v (t + 1) ((sumsT xs t).map (.int .i64)) ∧ Below w.heap.size w w' := by
  obtain ⟨i0, hi, hz0, hz1, hz2⟩ := info_parts infoI64
  have Hl := Lib.hid hx.len
  have hn1 := hv.1
  have hn2 := hv.2.1
  rw [Hl.out] at hn1 hn2
  have Hv := Lib.hid hv
  clear hv
  go_enter Try.func54, Try.ntmps54
  go_wp2_with (fail)
  go_loopg [5, 6] t (fun g v5 v6 wr => ∃ j : Nat, (j ≤ t ∧ g = t - j ∧ v6 = .int .i64 ((j + 1 : Nat) : Int)) ∧ wr.ownsRow w.heap.size 2 1 v5 (j + 1) ((sumsT xs j).map (.int .i64)) ∧ Below w.heap.size w wr)
  case atStart => exact ⟨0, ⟨by omega, rfl, rfl⟩, own_lit w w.heap.size [0] (Nat.le_refl _) (by decide), (Below.refl _ w).alloc (Nat.le_refl _) _⟩
  case round =>
    obtain ⟨j, ⟨hj, rfl, rfl⟩, hrow, hb⟩ := hrel
    have hsz := hb.size
    by_cases hlt : j < t
    · obtain ⟨wo, rfl⟩ : ∃ wo, wo = wr := ⟨_, rfl⟩
      obtain ⟨k, hk⟩ : ∃ k, k = j + 1 := ⟨_, rfl⟩
      rw [← hk] at hrow ⊢
      have hkt : (k : Int) ≤ (t : Int) := by omega
      have hk1 : 1 ≤ k := by omega
      have hkn : k ≤ 1000 := by omega
      have hwk : IntKind.i64.wrap ((k : Int) + 1) = ((k + 1 : Nat) : Int) := by rw [IntKind.wrap_i64]; omega
      obtain ⟨g, cap, rfl⟩ : ∃ g cap, _ = Value.slice (some ⟨g, 0, none⟩) k cap := by rw [hk] at hrow ⊢; exact ownsRow_succ hrow
      have hi1 := OwnZ.ints hrow (by omega)
      have Hk := Lib.hid hk
      clear hk
      go_wp2_with (fail)
      go_loopg [7, 8] n (fun g' v7 v8 wr => ∃ p q : Nat, (1 ≤ p ∧ p ≤ n + 1 ∧ p ≤ k + 1 ∧ g' = n + 1 - p ∧ v8 = .int .i64 (p : Int) ∧ v7 = .int .i64 (bestSoFar (fun r => xs[r - 1]?.getD 0 + mst xs (k - r)) p)) ∧ Hid (wr = wo.drewN q))
      case atStart => exact ⟨1, 0, ⟨by omega, by omega, by omega, by omega, rfl, rfl⟩, Lib.hid rfl⟩
      case round =>
        obtain ⟨p, q, ⟨hp1, hp2, hp3, rfl, rfl, rfl⟩, hq⟩ := hrel
        have hwp : IntKind.i64.wrap ((p : Int) + 1) = ((p + 1 : Nat) : Int) := by rw [IntKind.wrap_i64]; omega
        by_cases hpn : (p : Int) ≤ (n : Int)
        · by_cases hpk : (p : Int) ≤ (k : Int)
          · have hi2 : IntsAt wr wo.heap.size (some ⟨g, 0, none⟩) k (sumsT xs j) := by rw [hq.out]; exact hi1.drewN _
            have hx2 : IntsAt wr B A n xs := by rw [hq.out]; exact (hx.below hb hB).drewN _
            obtain ⟨b, o, rfl, -, c1⟩ := hx2.cell (k := p - 1) (by omega)
            obtain ⟨b', o', e, -, c2⟩ := hi2.cell (k := k - p) (by omega)
            cases e
            have hkj := Hk.out
            rw [sumsT_get xs (by omega), Nat.zero_add] at c2
            have w1 : IntKind.i64.wrap ((k : Int) - (p : Int)) = ((k - p : Nat) : Int) := by rw [IntKind.wrap_i64]; omega
            have w2 : IntKind.i64.wrap ((p : Int) - 1) = ((p - 1 : Nat) : Int) := by rw [IntKind.wrap_i64]; omega
            have l1 : k - p < k := by omega
            have l2 : p - 1 < n := by omega
            have hf : ∀ r, 1 ≤ r → r ≤ p → 0 ≤ xs[r - 1]?.getD 0 + mst xs (k - r) := fun r h1 h2 => by
              have := Hv.out.2.2 (r - 1) (by rw [Hl.out]; omega)
              have := mst_nonneg Hv.out (k - r)
              omega
            obtain ⟨f1, f2, f3⟩ := bestSoFar_next hp1 hf
            have hbd1 := Hv.out.2.2 (p - 1) (by rw [Hl.out]; omega)
            have hbd2 := mst_nonneg Hv.out (k - p)
            have w3 : IntKind.i64.wrap (mst xs (k - p) + xs[p - 1]?.getD 0) = xs[p - 1]?.getD 0 + mst xs (k - p) := by rw [IntKind.wrap_i64]; omega
            obtain ⟨y, hy⟩ : ∃ y, y = xs[p - 1]?.getD 0 + mst xs (k - p) := ⟨_, rfl⟩
            rw [← hy] at f1 f2 w3
            obtain ⟨be, hbe⟩ : ∃ be, be = bestSoFar (fun r => xs[r - 1]?.getD 0 + mst xs (k - r)) p := ⟨_, rfl⟩
            rw [← hbe] at f1 f2 f3 ⊢
            obtain ⟨x1, hx1⟩ : ∃ x, x = xs[p - 1]?.getD 0 := ⟨_, rfl⟩
            obtain ⟨x2, hx2'⟩ : ∃ x, x = mst xs (k - p) := ⟨_, rfl⟩
            rw [← hx1] at c1 w3
            rw [← hx2'] at c2 w3
            obtain ⟨kp, hkp⟩ : ∃ kp, kp = k - p := ⟨_, rfl⟩
            obtain ⟨p', hp'⟩ : ∃ p', p' = p - 1 := ⟨_, rfl⟩
            rw [← hkp] at c2 w1 l1
            rw [← hp'] at c1 w2 l2
            have F1 := Lib.hid f1
            have F2 := Lib.hid f2
            clear f1 f2 f3 hy hbe hx1 hx2' hkp hp' hkj hf hbd1 hbd2 hi1 hi2 hx2
            by_cases h0 : be < 0
            · go_wp2
              go_quiet (fail)
              go_wp2
              go_roundg (n + 1 - (p + 1))
              case measure => omega
              case rel => exact ⟨p + 1, _, ⟨by omega, by omega, by omega, rfl, by simp, by rw [F1.out (.inl h0)]⟩, Lib.hid (by rw [hq.out]; simp only [World.drewN_drewN]; rfl)⟩
            · by_cases h1 : y < be
              · go_wp2
                go_quiet (fail)
                go_wp2
                go_roundg (n + 1 - (p + 1))
                case measure => omega
                case rel => exact ⟨p + 1, _, ⟨by omega, by omega, by omega, rfl, by simp, by rw [F1.out (.inr h1)]⟩, Lib.hid (by rw [hq.out]; simp only [World.drewN_drewN]; rfl)⟩
              · go_wp2
                go_quiet (fail)
                go_wp2
                go_roundg (n + 1 - (p + 1))
                case measure => omega
                case rel => exact ⟨p + 1, _, ⟨by omega, by omega, by omega, rfl, by simp, by rw [F2.out h0 h1]⟩, Lib.hid (by rw [hq.out]; simp only [World.drewN_drewN]; rfl)⟩
          · have hpm : p - 1 = min xs.length (j + 1) := by have := Hl.out; have := Hk.out; omega
            have hbs : bestSoFar (fun r => xs[r - 1]?.getD 0 + mst xs (k - r)) p = mst xs k := by
              have hkj := Hk.out
              subst hkj
              rw [mst_succ xs Hv.out.1 j, ← hpm]
              unfold bestSoFar
              rw [if_neg (by have := Hv.out.1; omega)]
            rw [hbs]
            have hrow2 : wr.ownsRow w.heap.size 2 1 (.slice (some ⟨g, 0, none⟩) k cap) k ((sumsT xs j).map (.int .i64)) := by rw [hq.out]; exact hrow
            have hb2 : Below w.heap.size w wr := by rw [hq.out]; exact hb.trans (below_drewN _ _)
            have hsz2 : w.heap.size ≤ wr.heap.size := hb2.size
            obtain ⟨y, hy⟩ : ∃ y, y = mst xs k := ⟨_, rfl⟩
            rw [← hy]
            have Hy := Lib.hid hy
            clear hy hbs hpm hi1 hrow hb hsz hq
            go_wp2_with (at_builtin; refine wpList_append_own_at _ rfl _ _ 22 rfl w.heap.size 2 i0 (.int .i64 0) 1 8 Try.underlying22 hi hz0 hz1 hz2 rfl (by decide) _ _ _ rfl (hrow2.alloc _) ⟨wr.heap.size, 0, none⟩ 1 1 [.int .i64 y] rfl rfl (cell_one_new _ _ _) (by simp [Value.oneCell']) (by simp only [maxLen]; omega) (by omega) (by simp; omega) ?_; intro v' w1 hown' hgrow _ hat)
            go_roundg (t - (j + 1))
            case measure => omega
            case rel =>
              have hkj := Hk.out
              refine ⟨j + 1, ⟨by omega, rfl, by rw [← hkj]; simp⟩, ?_, (hb2.alloc hsz2 _).trans ((Below.refl _ _).grown hgrow (by simp; omega) (fun r e => (hrow2.lt r e).1))⟩
              rw [sumsT, List.map_append, ← hkj]
              have e : nextSum xs (sumsT xs j) k = y := by
                rw [Hy.out, hkj]
                unfold mst
                rw [sumsT, List.getElem?_append_right (by rw [sumsT_len]; omega), sumsT_len]
                simp
              rw [e]
              exact hown'
        · have hpm : p - 1 = min xs.length (j + 1) := by have := Hl.out; have := Hk.out; omega
          have hbs : bestSoFar (fun r => xs[r - 1]?.getD 0 + mst xs (k - r)) p = mst xs k := by
            have hkj := Hk.out
            subst hkj
            rw [mst_succ xs Hv.out.1 j, ← hpm]
            unfold bestSoFar
            rw [if_neg (by have := Hv.out.1; omega)]
          rw [hbs]
          have hrow2 : wr.ownsRow w.heap.size 2 1 (.slice (some ⟨g, 0, none⟩) k cap) k ((sumsT xs j).map (.int .i64)) := by rw [hq.out]; exact hrow
          have hb2 : Below w.heap.size w wr := by rw [hq.out]; exact hb.trans (below_drewN _ _)
          have hsz2 : w.heap.size ≤ wr.heap.size := hb2.size
          obtain ⟨y, hy⟩ : ∃ y, y = mst xs k := ⟨_, rfl⟩
          rw [← hy]
          have Hy := Lib.hid hy
          clear hy hbs hpm hi1 hrow hb hsz hq
          go_wp2_with (at_builtin; refine wpList_append_own_at _ rfl _ _ 22 rfl w.heap.size 2 i0 (.int .i64 0) 1 8 Try.underlying22 hi hz0 hz1 hz2 rfl (by decide) _ _ _ rfl (hrow2.alloc _) ⟨wr.heap.size, 0, none⟩ 1 1 [.int .i64 y] rfl rfl (cell_one_new _ _ _) (by simp [Value.oneCell']) (by simp only [maxLen]; omega) (by omega) (by simp; omega) ?_; intro v' w1 hown' hgrow _ hat)
          go_roundg (t - (j + 1))
          case measure => omega
          case rel =>
            have hkj := Hk.out
            refine ⟨j + 1, ⟨by omega, rfl, by rw [← hkj]; simp⟩, ?_, (hb2.alloc hsz2 _).trans ((Below.refl _ _).grown hgrow (by simp; omega) (fun r e => (hrow2.lt r e).1))⟩
            rw [sumsT, List.map_append, ← hkj]
            have e : nextSum xs (sumsT xs j) k = y := by
              rw [Hy.out, hkj]
              unfold mst
              rw [sumsT, List.getElem?_append_right (by rw [sumsT_len]; omega), sumsT_len]
              simp
            rw [e]
            exact hown'
    · obtain rfl : j = t := by omega
      have hnt : ¬ ((j + 1 : Nat) : Int) ≤ (j : Int) := by omega
      obtain ⟨k, hk⟩ : ∃ k, k = j + 1 := ⟨_, rfl⟩
      rw [← hk] at hnt hrow ⊢
      have Hk := Lib.hid hk
      clear hk
      go_wp2
      refine bodyPost_ret (results_tmp rfl _ _ _) rfl ⟨_, rfl, ?_, hb⟩
      rw [← Hk.out]
      exact hrow
end Go.Proofs.Ytlgibckhkdggdaa

/- lag's reference: Leasts. -/
namespace Go.Proofs.Ytlgibckhkdggdaa
open Go.RowKit Go.Shelf

attribute [local go_sem] Oper.semAt_some

theorem lvlR_get {L : Nat} {css : List (List Int)} {s k j : Nat} (hj : j < L) (hk : j < k) : (lvlR L css s k)[j]?.getD 0 = lvl css s j := by
  unfold lvlR
  rw [List.getElem?_map, List.getElem?_range hj]
  simp [hk]
theorem lvl_pred (css : List (List Int)) {i : Nat} (hi : 1 ≤ i) (t : Nat) : lvl css i t = minP 0 t fun p => leastF (css[i]?.getD []) p + lvl css (i - 1) (t - p) := by
  obtain ⟨s, rfl⟩ : ∃ s, i = s + 1 := ⟨i - 1, by omega⟩
  rfl
theorem set_set {xs : List Int} {k : Nat} {a b : Int} : (xs.set k a).set k b = xs.set k b := by simp
theorem set_at {xs : List Int} {k : Nat} {a : Int} (h : k < xs.length) : (xs.set k a)[k]?.getD 0 = a := by simp [h]

set_option maxRecDepth 100000 in
set_option maxHeartbeats 16000000 in
theorem rLeasts_any (w : World) (B : Nat) (A : Option Addr) (K c t : Nat) (css : List (List Int)) (hx : RowsAt w B A K css) (hB : B ≤ w.heap.size) (hv : ∀ j, j < css.length → Nums (css[j]?.getD [])) (hK1 : 1 ≤ K) (hK : K ≤ 10) (ht : t ≤ 1000) :
    Calls Try.prog 58 #[.slice A K c, .int .i64 (t : Int)] w fun e w' => ∃ g, w.heap.size ≤ g ∧ e = .returned (.slice (some ⟨g, 0, none⟩) (t + 1) (t + 1)) ∧ RowZ w' g (lvlR (t + 1) css (K - 1) (t + 1)) ∧ Below w.heap.size w w' := by
  have Hl := Lib.hid hx.1
  have Hv := Lib.hid hv
  have hmks : ∀ W : World, (Instr.makeSlice 22 (.int .i64 ((t + 1 : Nat) : Int)) (.int .i64 ((t + 1 : Nat) : Int))).run Try.prog W = .ok (.slice (some ⟨W.heap.size, 0, none⟩) (t + 1) (t + 1)) (W.alloc (.cells ((List.replicate (t + 1) (0 : Int)).map (Value.int .i64)).toArray 2)) := fun W => made_rowS (W := W) (N := t + 1) (by omega)
  obtain ⟨N, hN⟩ : ∃ N, N = t + 1 := ⟨_, rfl⟩
  rw [← hN] at hmks ⊢
  obtain ⟨mc, hmc⟩ : ∃ mc, mc = ((List.replicate N (0 : Int)).map (Value.int .i64)).toArray := ⟨_, rfl⟩
  rw [← hmc] at hmks
  have hwN : IntKind.i64.wrap ((t : Int) + 1) = (N : Int) := by rw [IntKind.wrap_i64]; omega
  have hNew : ∀ (W : World) (s : Nat), RowZ (W.alloc (.cells mc 2)) W.heap.size (lvlR N css s 0) := fun W s => by rw [hmc, lvlR_zero]; exact World.alloc_heap_new W _
  have HN := Lib.hid (And.intro hN hNew)
  have hN1 : N ≤ 1001 := by omega
  clear hv hmc hN hNew
  obtain ⟨V, hV⟩ : ∃ V, V = w.alloc (.cells mc 2) := ⟨_, rfl⟩
  have hb0 : Below w.heap.size w V := by rw [hV]; exact (Below.refl _ w).alloc (Nat.le_refl _) _
  have r0 : RowZ V w.heap.size (lvlR N css 0 0) := by rw [hV]; exact HN.out.2 w 0
  go_enter Try.func58, Try.ntmps58
  go_wp2_with (fail)
  rw [← hV]
  clear hV
  go_loopg [6] N (fun g v6 wr => ∃ k : Nat, (k ≤ N ∧ g = N - k ∧ v6 = .int .i64 (k : Int)) ∧ RowZ wr w.heap.size (lvlR N css 0 k) ∧ Below w.heap.size w wr)
  case atStart => exact ⟨0, ⟨by omega, rfl, rfl⟩, r0, hb0⟩
  case round =>
    clear r0 hb0
    obtain ⟨k, ⟨hk, rfl, rfl⟩, r0, hb⟩ := hrel
    have hsz := hb.size
    by_cases hlt : k < N
    · have hkt : (k : Int) ≤ (t : Int) := by have := HN.out.1; omega
      obtain ⟨b, off, cs, A', m, c', rfl, hbB, hcs, hcell, hi⟩ := (hx.below hb hB).at (j := 0) (by omega)
      rw [Nat.add_zero] at hcell
      have hcv : cs = css[0]?.getD [] := by rw [hcs]; rfl
      have hnum := Hv.out 0 (by rw [Hl.out]; omega)
      rw [← hcv] at hnum
      have hK0 : 0 < K := by omega
      have hwk : IntKind.i64.wrap ((k : Int) + 1) = (k : Int) + 1 := by rw [IntKind.wrap_i64]; omega
      have Hcv := Lib.hid hcv
      clear hcv hcs
      go_wp2_with (fail)
      refine (rLeast1_any wr B A' m c' k cs hi hnum (by omega)).mono ?_
      rintro e w3 ⟨rfl, q, hq⟩
      have hb3 : Below w.heap.size w w3 := by rw [hq]; exact hb.trans (below_drewN _ _)
      have r3 : RowZ w3 w.heap.size (lvlR N css 0 k) := by rw [hq]; exact r0
      have f3 := r3.frozen (j := k)
      have c3 := r3.cell (j := k) (by rw [lvlR_len]; exact hlt)
      have hset := r3.set k (leastF cs k)
      rw [show leastF cs k = lvl css 0 k by rw [Hcv.out]; rfl, lvlR_set] at hset
      rw [show leastF cs k = lvl css 0 k by rw [Hcv.out]; rfl]
      have hb4 := hb3.setCell (p := ⟨w.heap.size, k, none⟩) (Nat.le_refl _) (.int .i64 (lvl css 0 k))
      obtain ⟨y, hy⟩ : ∃ y, y = lvl css 0 k := ⟨_, rfl⟩
      rw [← hy] at hset hb4 ⊢
      unfold encI
      clear hq hy r0 r3 hb hb3 hi hnum hcell
      go_wp2_with (fail)
      go_roundg (N - (k + 1))
      case measure => omega
      case rel => exact ⟨k + 1, ⟨by omega, rfl, by simp⟩, hset, hb4⟩
    · obtain rfl : k = N := by omega
      have hkt : ¬ (k : Int) ≤ (t : Int) := by have := HN.out.1; omega
      go_wp2_with (fail)
      go_loopg [5, 7] (K - 1) (fun g v5 v7 wr => ∃ i g0 : Nat, (1 ≤ i ∧ i ≤ K ∧ g = K - i ∧ v7 = .int .i64 (i : Int) ∧ v5 = .slice (some ⟨g0, 0, none⟩) k k) ∧ (w.heap.size ≤ g0 ∧ RowZ wr g0 (lvlR k css (i - 1) k)) ∧ Below w.heap.size w wr)
      case atStart => exact ⟨1, w.heap.size, ⟨by omega, hK1, rfl, rfl, rfl⟩, ⟨Nat.le_refl _, r0⟩, hb⟩
      case round =>
        clear r0 hb hsz hlt hkt
        obtain ⟨i, g0, ⟨hi1, hiK, rfl, rfl, rfl⟩, ⟨hg0, r0⟩, hb⟩ := hrel
        have hsz := hb.size
        have hwi : IntKind.i64.wrap ((i : Int) + 1) = (i : Int) + 1 := by rw [IntKind.wrap_i64]; omega
        by_cases hiK2 : i < K
        case neg =>
          obtain rfl : i = K := by omega
          go_wp2_with (fail)
          exact bodyPost_ret (results_tmp rfl _ _ _) rfl ⟨g0, hg0, rfl, r0, hb⟩
        case pos =>
          obtain ⟨V, hV⟩ : ∃ V, V = wr.alloc (.cells mc 2) := ⟨_, rfl⟩
          have hbV : Below w.heap.size w V := by rw [hV]; exact hb.alloc hsz _
          have rV : RowZ V g0 (lvlR k css (i - 1) k) := by rw [hV]; exact r0.alloc _
          have rN : RowZ V wr.heap.size (lvlR k css i 0) := by rw [hV]; exact HN.out.2 wr i
          have hg2 : g0 < wr.heap.size := r0.lt
          obtain ⟨g2, hg2e⟩ : ∃ g2, g2 = wr.heap.size := ⟨_, rfl⟩
          have Hg2 := Lib.hid hg2e
          go_wp2_with (fail)
          rw [← hV, ← hg2e]
          rw [← hg2e] at rN hg2
          have hg2w : w.heap.size ≤ g2 := by omega
          clear hV hg2e hb r0 hsz
          go_loopg [9] k (fun g v9 wr => ∃ j : Nat, (j ≤ k ∧ g = k - j ∧ v9 = .int .i64 (j : Int)) ∧ (RowZ wr g0 (lvlR k css (i - 1) k) ∧ RowZ wr g2 (lvlR k css i j)) ∧ Below w.heap.size w wr)
          case atStart => exact ⟨0, ⟨by omega, rfl, rfl⟩, ⟨rV, rN⟩, hbV⟩
          case round =>
            clear rV rN hbV
            obtain ⟨wo, hwo⟩ : ∃ wo, wo = wr := ⟨_, rfl⟩
            clear hwo
            obtain ⟨j, ⟨hj, rfl, rfl⟩, ⟨r0, r2⟩, hb⟩ := hrel
            have hsz := hb.size
            have hwj : IntKind.i64.wrap ((j : Int) + 1) = (j : Int) + 1 := by rw [IntKind.wrap_i64]; omega
            by_cases hlt : j < k
            case neg =>
              obtain rfl : j = k := by omega
              have hjt : ¬ (j : Int) ≤ (t : Int) := by have := HN.out.1; omega
              go_wp2_with (fail)
              go_roundg (K - (i + 1))
              case measure => omega
              case rel => exact ⟨i + 1, g2, ⟨by omega, by omega, rfl, by simp, rfl⟩, ⟨hg2w, r2⟩, hb⟩
            case pos =>
              have hjt : (j : Int) ≤ (t : Int) := by have := HN.out.1; omega
              have c0 := r0.cell (j := j) (by rw [lvlR_len]; exact hlt)
              have c2 := r2.cell (j := j) (by rw [lvlR_len]; exact hlt)
              have f2 := r2.frozen (j := j)
              rw [lvlR_get hlt hlt] at c0
              have u2 := r2.set j (lvl css (i - 1) j)
              have u0 := r0.other (b := g2) (by omega) j (.int .i64 (lvl css (i - 1) j))
              have ub := hb.setCell (p := ⟨g2, j, none⟩) hg2w (.int .i64 (lvl css (i - 1) j))
              have e0 : lvl css (i - 1) j = minP 0 0 fun p => leastF (css[i]?.getD []) p + lvl css (i - 1) (j - p) := by
                rw [minP_one, leastF_zero, Nat.sub_zero]
                omega
              rw [e0] at c0 u2 u0 ub
              obtain ⟨y, hy⟩ : ∃ y, y = minP 0 0 fun p => leastF (css[i]?.getD []) p + lvl css (i - 1) (j - p) := ⟨_, rfl⟩
              rw [← hy] at c0 u2 u0 ub
              have Hy := Lib.hid hy
              clear hy e0 r0 r2 hb hsz
              go_wp2_with (fail)
              clear c0 c2 f2
              go_loopg [10] j (fun g v10 wr => ∃ p : Nat, (1 ≤ p ∧ p ≤ j + 1 ∧ g = j + 1 - p ∧ v10 = .int .i64 (p : Int)) ∧ (RowZ wr g0 (lvlR k css (i - 1) k) ∧ RowZ wr g2 ((lvlR k css i j).set j (minP 0 (p - 1) fun p => leastF (css[i]?.getD []) p + lvl css (i - 1) (j - p)))) ∧ Below w.heap.size w wr)
              case atStart => exact ⟨1, ⟨by omega, by omega, by omega, rfl⟩, ⟨u0, by rw [← Hy.out]; exact u2⟩, ub⟩
              case round =>
                clear u0 u2 ub
                obtain ⟨wi, hwi'⟩ : ∃ wi, wi = wr := ⟨_, rfl⟩
                clear hwi'
                obtain ⟨p, ⟨hp1, hp2, rfl, rfl⟩, ⟨r0, r2⟩, hb⟩ := hrel
                have hsz := hb.size
                have hwp : IntKind.i64.wrap ((p : Int) + 1) = (p : Int) + 1 := by rw [IntKind.wrap_i64]; omega
                by_cases hpj : (p : Int) ≤ (j : Int)
                case neg =>
                  obtain rfl : p = j + 1 := by omega
                  have hset : (lvlR k css i j).set j (minP 0 (j + 1 - 1) fun p => leastF (css[i]?.getD []) p + lvl css (i - 1) (j - p)) = lvlR k css i (j + 1) := by
                    rw [Nat.add_sub_cancel, ← lvl_pred css hi1, lvlR_set]
                  rw [hset] at r2
                  obtain ⟨p, hp⟩ : ∃ p, p = j + 1 := ⟨_, rfl⟩
                  rw [← hp] at hpj hwp r2 ⊢
                  have Hp := Lib.hid hp
                  clear hp hset
                  go_wp2_with (fail)
                  go_roundg (k - (j + 1))
                  case measure => omega
                  case rel => exact ⟨j + 1, ⟨by omega, rfl, by simp⟩, ⟨r0, by rw [← Hp.out]; exact r2⟩, hb⟩
                case pos =>
                  obtain ⟨f, hf⟩ : ∃ f : Nat → Int, f = fun p => leastF (css[i]?.getD []) p + lvl css (i - 1) (j - p) := ⟨_, rfl⟩
                  rw [← hf] at r2
                  have hfp : f p = leastF (css[i]?.getD []) p + lvl css (i - 1) (j - p) := by rw [hf]
                  obtain ⟨b, off, cs, A', m, c', rfl, hbB, hcs, hcell, hi⟩ := (hx.below hb hB).at hiK2
                  have hcv : cs = css[i]?.getD [] := by rw [hcs]; rfl
                  have hnum := Hv.out i (by rw [Hl.out]; omega)
                  rw [← hcv] at hnum hfp
                  have c0 := r0.cell (j := j - p) (by rw [lvlR_len]; omega)
                  rw [lvlR_get (by omega) (by omega)] at c0
                  have c2 := r2.cell (j := j) (by rw [List.length_set, lvlR_len]; exact hlt)
                  rw [set_at (by rw [lvlR_len]; exact hlt)] at c2
                  have f2 := r2.frozen (j := j)
                  have hbd1 := lvl_bound Hv.out (i - 1) (j - p) (by rw [Hl.out]; omega)
                  have hbd2 := leastF_bound hnum p
                  have hms := minP_succ (lo := 0) (M := p - 1) (by omega) f
                  rw [show p - 1 + 1 = p by omega] at hms
                  have ws : IntKind.i64.wrap (lvl css (i - 1) (j - p) + leastF cs p) = f p := by rw [hfp, IntKind.wrap_i64]; omega
                  have w1 : IntKind.i64.wrap ((j : Int) - (p : Int)) = ((j - p : Nat) : Int) := by rw [IntKind.wrap_i64]; omega
                  have hjp : j - p < k := by omega
                  have u2 := r2.set j (minP 0 p f)
                  rw [set_set] at u2
                  have u0 := r0.other (b := g2) (by omega) j (.int .i64 (minP 0 p f))
                  have ub := hb.setCell (p := ⟨g2, j, none⟩) hg2w (.int .i64 (minP 0 p f))
                  obtain ⟨cur, hcur⟩ : ∃ cur, cur = minP 0 (p - 1) f := ⟨_, rfl⟩
                  obtain ⟨nw, hnw⟩ : ∃ nw, nw = minP 0 p f := ⟨_, rfl⟩
                  obtain ⟨fp, hfpe⟩ : ∃ fp, fp = f p := ⟨_, rfl⟩
                  obtain ⟨x1, hx1⟩ : ∃ x1, x1 = lvl css (i - 1) (j - p) := ⟨_, rfl⟩
                  obtain ⟨x2, hx2⟩ : ∃ x2, x2 = leastF cs p := ⟨_, rfl⟩
                  obtain ⟨d, hd⟩ : ∃ d, d = j - p := ⟨_, rfl⟩
                  rw [← hcur, ← hnw, ← hfpe] at hms
                  rw [← hnw] at u2 u0 ub
                  rw [← hcur] at c2
                  rw [← hx1, ← hx2, ← hfpe] at ws
                  rw [← hx1, ← hd] at c0
                  rw [← hd] at w1 hjp
                  have hcl : ∀ q : Nat, Calls Try.prog 88 #[.slice A' m c', .int .i64 (p : Int)] (wr.drewN q) fun e w' => e = .returned (.int .i64 x2) ∧ ∃ q', w' = (wr.drewN q).drewN q' := fun q => by
                    rw [hx2]
                    exact rLeast1_any _ B A' m c' p cs (hi.drewN q) hnum (by omega)
                  have Hcl := Lib.hid hcl
                  have Hf := Lib.hid (And.intro hf hnw)
                  clear hcl hfp hfpe hx1 hx2 hcur hnw hd hcs hcv hnum hbd1 hbd2 r0 r2 hb hi hf
                  have Hms := Lib.hid hms
                  clear hms
                  go_wp2_with (fail)
                  refine region_held_wp 1 (fun W' => ∃ q, W' = wr.drewN q) (fun i => [5, 11, 15, 17, 18].contains i) (by kernel_rfl) ?_
                  intro KR hKR
                  have hS : ∃ q, wr.drew = wr.drewN q := ⟨1, rfl⟩
                  refine wpAnyHI_takeW (i := 0) (v := ?v0) (some 53) rfl rfl (by kernel_rfl) (by kernel_rfl) (by kernel_rfl) (by kernel_rfl) (fun _ _ _ h => h) (.inl ⟨by kernel_rfl, fun W' hS' => ?y0⟩) ?z0
                  case y0 => go_simp; try exact rfl
                  refine wpAnyHI_takeW (i := 1) (v := ?v1) (some 54) rfl rfl (by kernel_rfl) (by kernel_rfl) (by kernel_rfl) (by kernel_rfl) (fun _ _ _ h => h) (.inl ⟨by kernel_rfl, fun W' hS' => ?y1⟩) ?z1
                  case y1 => go_simp; try exact rfl
                  refine wpAnyHI_takeW (i := 2) (v := ?v2) (some 55) rfl rfl (by kernel_rfl) (by kernel_rfl) (by kernel_rfl) (by kernel_rfl) (fun _ _ _ h => h) (.inl ⟨by kernel_rfl, fun W' hS' => ?y2⟩) ?z2
                  case y2 => go_simp; try exact rfl
                  refine wpAnyHI_takeW (i := 3) (v := ?v3) (some 56) rfl rfl (by kernel_rfl) (by kernel_rfl) (by kernel_rfl) (by kernel_rfl) (fun _ _ _ h => h) (.inl ⟨by kernel_rfl, fun W' hS' => ?y3⟩) ?z3
                  case y3 => go_simp; try exact rfl
                  refine wpAnyHI_takeW (i := 4) (v := ?v4) (some 57) rfl rfl (by kernel_rfl) (by kernel_rfl) (by kernel_rfl) (by kernel_rfl) (fun _ _ _ h => h) (.inl ⟨by kernel_rfl, fun W' hS' => ?y4⟩) ?z4
                  case y4 => go_simp; try exact rfl
                  refine wpAnyHI_takeW (i := 6) (v := ?v6) (some 59) rfl rfl (by kernel_rfl) (by kernel_rfl) (by kernel_rfl) (by kernel_rfl) (fun _ _ _ h => h) (.inl ⟨by kernel_rfl, fun W' hS' => ?y6⟩) ?z6
                  case y6 => go_simp; try exact rfl
                  refine wpAnyHI_takeW (i := 7) (v := ?v7) (some 60) rfl rfl (by kernel_rfl) (by kernel_rfl) (by kernel_rfl) (by kernel_rfl) (fun _ _ _ h => h) (.inl ⟨by kernel_rfl, fun W' hS' => ?y7⟩) ?z7
                  case y7 => go_simp; try exact rfl
                  refine wpAnyHI_takeW (i := 8) (v := ?v8) (some 61) rfl rfl (by kernel_rfl) (by kernel_rfl) (by kernel_rfl) (by kernel_rfl) (fun _ _ _ h => h) (.inl ⟨by kernel_rfl, fun W' hS' => ?y8⟩) ?z8
                  case y8 => go_simp; try exact rfl
                  refine wpAnyHI_takeW (i := 9) (v := ?v9) (some 62) rfl rfl (by kernel_rfl) (by kernel_rfl) (by kernel_rfl) (by kernel_rfl) (fun _ _ _ h => h) (.inl ⟨by kernel_rfl, fun W' hS' => ?y9⟩) ?z9
                  case y9 => go_simp; try exact rfl
                  refine wpAnyHI_takeW (i := 10) (v := ?v10) (some 63) rfl rfl (by kernel_rfl) (by kernel_rfl) (by kernel_rfl) (by kernel_rfl) (fun _ _ _ h => h) (.inl ⟨by kernel_rfl, fun W' hS' => ?y10⟩) ?z10
                  case y10 => go_simp; try exact rfl
                  refine wpAnyHI_takeW (i := 12) (v := ?v12) (some 65) rfl rfl (by kernel_rfl) (by kernel_rfl) (by kernel_rfl) (by kernel_rfl) (fun _ _ _ h => h) (.inl ⟨by kernel_rfl, fun W' hS' => ?y12⟩) ?z12
                  case y12 => go_simp; try exact rfl
                  refine wpAnyHI_takeW (i := 13) (v := ?v13) (some 66) rfl rfl (by kernel_rfl) (by kernel_rfl) (by kernel_rfl) (by kernel_rfl) (fun _ _ _ h => h) (.inl ⟨by kernel_rfl, fun W' hS' => ?y13⟩) ?z13
                  case y13 => go_simp; try exact rfl
                  refine wpAnyHI_takeW (i := 14) (v := ?v14) (some 67) rfl rfl (by kernel_rfl) (by kernel_rfl) (by kernel_rfl) (by kernel_rfl) (fun _ _ _ h => h) (.inl ⟨by kernel_rfl, fun W' hS' => ?y14⟩) ?z14
                  case y14 => go_simp; try exact rfl
                  refine wpAnyHI_takeW (i := 16) (v := ?v16) (some 69) rfl rfl (by kernel_rfl) (by kernel_rfl) (by kernel_rfl) (by kernel_rfl) (fun _ _ _ h => h) (.inl ⟨by kernel_rfl, fun W' hS' => ?y16⟩) ?z16
                  case y16 => go_simp; try exact rfl
                  refine wpAnyHI_takeE (i := 5) (v := ?v5) (some 58) rfl rfl (by kernel_rfl) (by kernel_rfl) (by kernel_rfl) (by kernel_rfl) (by kernel_rfl) (fun _ _ _ h => h) hS (.inl ⟨by kernel_rfl, fun W' hS' => ?y5⟩) ?z5
                  case y5 => obtain ⟨_, rfl⟩ := hS'; go_simp; try exact rfl
                  refine wpAnyHI_takeE (i := 11) (v := ?v11) (some 64) rfl rfl (by kernel_rfl) (by kernel_rfl) (by kernel_rfl) (by kernel_rfl) (by kernel_rfl) (fun _ _ _ h => h) hS (.inl ⟨by kernel_rfl, fun W' hS' => ?y11⟩) ?z11
                  case y11 => obtain ⟨_, rfl⟩ := hS'; go_simp; try exact rfl
                  refine wpAnyHI_takeE (i := 15) (v := ?v15) (some 68) rfl rfl (by kernel_rfl) (by kernel_rfl) (by kernel_rfl) (by kernel_rfl) (by kernel_rfl) (fun _ _ _ h => h) hS (.inl ⟨by kernel_rfl, fun W' hS' => ?y15⟩) ?z15
                  case y15 => obtain ⟨_, rfl⟩ := hS'; go_simp; try exact rfl
                  refine wpAnyHI_one (i := 17) rfl (by kernel_rfl) ?_
                  intro K1 hK1
                  go_simp
                  refine ⟨trivial, (callsIn_wide.2 (Hcl.out 1)).mono ?_⟩
                  rintro e w3 ⟨rfl, q, hq⟩
                  have hq' : w3 = wr.drewN (1 + q) := by rw [hq, World.drewN_drewN]
                  refine hK1 _ _ ⟨fun _ => ⟨_, hq'⟩, ?_⟩
                  have Hq := Lib.hid hq'
                  clear hK1 K1 hS hq hq'
                  refine wpAnyHI_one (i := 18) rfl (by kernel_rfl) ?_
                  intro K1 hK1
                  go_simp
                  refine hK1 _ _ ⟨fun _ => ⟨_, Hq.out⟩, ?_⟩
                  clear hK1 K1
                  have hq' := Hq.out
                  have e3 : Below (wr.heap.size) wr w3 := by rw [hq']; exact below_drewN _ _
                  have f3 : w3.frozen? ⟨g2, j, none⟩ = false := by rw [hq']; exact f2
                  have c3 : w3.cell? ⟨g2, j, none⟩ = some (.int .i64 cur) := by rw [hq']; exact c2
                  have v2 : RowZ (w3.setCell ⟨g2, j, none⟩ (.int .i64 nw)) g2 ((lvlR k css i j).set j nw) := by rw [hq']; exact u2
                  have v0 : RowZ (w3.setCell ⟨g2, j, none⟩ (.int .i64 nw)) g0 (lvlR k css (i - 1) k) := by rw [hq']; exact u0
                  have vb : Below w.heap.size w (w3.setCell ⟨g2, j, none⟩ (.int .i64 nw)) := by rw [hq']; exact ub.trans (below_drewN _ _)
                  clear hq' u2 u0 ub c2 f2 e3 c0 hcell
                  refine wpAnyHI_tail (k := 19) rfl rfl (by kernel_rfl) (by kernel_rfl) ?_
                  simp only [List.drop_succ_cons, List.drop_zero]
                  gi_wp2_with (fail)
                  all_goals
                    go_wp2
                    go_roundg (j + 1 - (p + 1))
                    case measure => omega
                    case rel =>
                      have hms := Hms.out
                      refine ⟨p + 1, ⟨by omega, by omega, rfl, by simp⟩, ?_⟩
                      rw [Nat.add_sub_cancel, ← Hf.out.1, ← Hf.out.2]
                      first
                        | (have e : nw = cur := by rw [hms]; split <;> omega
                           rw [e] at v2 v0 vb ⊢
                           exact ⟨⟨v0, v2⟩, vb⟩)
                        | (have e : nw = fp := by rw [hms]; split <;> omega
                           rw [e] at v2 v0 vb ⊢
                           exact ⟨⟨v0, v2⟩, vb⟩)
end Go.Proofs.Ytlgibckhkdggdaa
