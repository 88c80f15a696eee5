/- Parts of a proof: RS RT. -/
import Derived.Test.YtlgibckhkdggdaaH17

/- lag's reference: Late, Behind. -/
namespace Go.Proofs.Ytlgibckhkdggdaa
open Go.RowKit Go.Shelf

attribute [local go_sem] Oper.semAt_some

set_option maxRecDepth 100000 in
set_option maxHeartbeats 16000000 in
theorem rLate_any (w : World) (B B2 : Nat) (A A2 : Option Addr) (n c K c2 : Nat) (xs : List Int) (css : List (List Int)) (hx : IntsAt w B A n xs) (hB : B ≤ w.heap.size) (hy : RowsAt w B2 A2 K css) (hB2 : B2 ≤ w.heap.size) :
    Calls Try.prog 43 #[.slice A n c, .slice A2 K c2] w fun e w' => e = .returned (.tuple #[.int .i64 (lateV xs css).1, .int .i64 (lateV xs css).2]) ∧ Below w.heap.size w w' := by
  have hm := hx.small
  have hm2 := hy.2.1
  have Hl := Lib.hid hy.1
  go_enter Try.func43, Try.ntmps43
  go_wp2_with (fail)
  refine (rAsked_any w B B2 A A2 n c K c2 xs css (hx.below (Below.refl w.heap.size w) hB) (by have := (Below.refl w.heap.size w).size; omega) (hy.below (Below.refl w.heap.size w) hB2) (by have := (Below.refl w.heap.size w).size; omega)).mono ?_
  rintro e w1 ⟨rfl, hb1⟩
  obtain ⟨r, hr⟩ : ∃ r, r = askedR xs css := ⟨_, rfl⟩
  rw [← hr]
  by_cases h0 : r = 0
  case neg =>
    have hne : (r != 0) = true := by rw [bne_iff_ne]; exact h0
    have Hr := Lib.hid (And.intro hr h0)
    clear hr h0
    go_wp2_with (fail)
    refine (rAsked_any w1 B B2 A A2 n c K c2 xs css (hx.below (hb1) hB) (by have := (hb1).size; omega) (hy.below (hb1) hB2) (by have := (hb1).size; omega)).mono ?_
    rintro e wl ⟨rfl, hq⟩
    have hbl : Below w.heap.size w wl := hb1.trans (hq.mono hb1.size)
    clear hq
    rw [← Hr.out.1]
    go_wp2_with (fail)
    refine bodyPost_ret (results_two rfl _ _ (.int .i64 0) (.int .i64 r) (by simp) (by simp)) rfl ⟨?_, hbl⟩
    have e : lateV xs css = (0, r) := by unfold lateV; rw [asked_same, if_pos (by rw [← Hr.out.1]; exact Hr.out.2), Hr.out.1]
    rw [e]
  case pos =>
    subst h0
    have Ho := Lib.hid hr.symm
    clear hr
    obtain ⟨hc, hch, q0, a0, hf⟩ := asked_fair Ho.out
    have Hc := Lib.hid hc
    have Hf := Lib.hid hf
    obtain ⟨hk1, hk3, hkn⟩ := chain_nums hch
    have Hn := Lib.hid hkn
    rw [Hl.out] at hk1 hk3
    clear hc hch hf hkn
    have hz1 := hb1.size
    go_wp2_with (fail)
    refine (rMosts_any w1 B A n c 180 xs (hx.below hb1 hB) (by omega) (nums_of Hc.out) (by omega)).mono ?_
    rintro e w2 ⟨v, rfl, hmost, hb2⟩
    obtain ⟨g, cap, rfl⟩ := ownsRow_succ hmost
    have i1 := OwnZ.ints hmost (by omega)
    have hb3 := hb1.trans (hb2.mono hz1)
    have hz3 := hb3.size
    clear hb2 hb1 hmost
    go_wp2_with (fail)
    refine (rLeasts_any w2 B2 A2 K c2 360 css (hy.below hb3 hB2) (by omega) Hn.out hk1 (by omega) (by omega)).mono ?_
    rintro e w3 ⟨g2, hg2, rfl, hrow, hb4⟩
    have i1 := i1.below hb4 (Nat.le_refl _)
    have i2 := hrow.ints (n := 360 + 1) (lvlR_len _ _ _ _) (by omega)
    have hb5 := hb3.trans (hb4.mono hz3)
    have hz23 := hb4.size
    clear hb3 hb4 hrow
    have I1 := Lib.hid i1
    have I2 := Lib.hid i2
    clear i1 i2
    go_wp2_with (fail)
    go_loopg [8, 9] 181 (fun g' v8 v9 wr => ∃ k q : Nat, (k ≤ 181 ∧ g' = 181 - k ∧ v9 = .int .i64 (k : Int) ∧ v8 = .int .i64 (maxZ (fun k => (lagN xs css k : Int)) k)) ∧ Hid (wr = w3.drewN q))
    case atStart => exact ⟨0, 0, ⟨by omega, rfl, rfl, rfl⟩, Lib.hid rfl⟩
    case round =>
      obtain ⟨k, q, ⟨hk, rfl, rfl, rfl⟩, hq⟩ := hrel
      by_cases hlt : (k : Int) ≤ 180
      case neg =>
        obtain rfl : k = 181 := by omega
        obtain ⟨y, hy'⟩ : ∃ y, y = maxZ (fun k => (lagN xs css k : Int)) 181 := ⟨_, rfl⟩
        rw [← hy']
        have Hy := Lib.hid hy'
        clear hy'
        go_wp2_with (fail)
        refine bodyPost_ret (results_two rfl _ _ (.int .i64 y) (.int .i64 0) (by simp) (by simp)) rfl ⟨?_, by rw [hq.out]; exact hb5.trans (below_drewN _ _)⟩
        rw [late_same Ho.out, ← Hy.out]
      case pos =>
        have hwk : IntKind.i64.wrap ((k : Int) + 1) = (k : Int) + 1 := by rw [IntKind.wrap_i64]; omega
        obtain ⟨cur, hcu⟩ : ∃ x, x = maxZ (fun k => (lagN xs css k : Int)) k := ⟨_, rfl⟩
        have hnx : maxZ (fun k => (lagN xs css k : Int)) (k + 1) = max cur (lagN xs css k : Int) := by rw [hcu]; rfl
        rw [Int.max_def] at hnx
        rw [← hcu]
        have Hnx := Lib.hid hnx
        have Hspec := Lib.hid (lagN_spec Hf.out k)
        clear hcu hnx
        go_wp2_with (fail)
        go_loopg [10] 21 (fun g' v10 wr => ∃ r q : Nat, (r ≤ 20 ∧ g' = 21 - r ∧ v10 = .int .i64 (r : Int)) ∧ Hid (wr = w3.drewN q) ∧ Hid (∀ j, j < r → lvl css (css.length - 1) (k + j) < mst xs k))
        case atStart => exact ⟨0, q, ⟨by omega, rfl, rfl⟩, hq, Lib.hid fun j h => by omega⟩
        case round =>
          clear hq
          obtain ⟨r, q, ⟨hr, rfl, rfl⟩, hq, hj⟩ := hrel
          have i1' : IntsAt wr w2.heap.size (some ⟨g, 0, none⟩) 181 (sumsT xs 180) := by rw [hq.out]; exact I1.out.drewN _
          have i2' : IntsAt wr w3.heap.size (some ⟨g2, 0, none⟩) 361 (lvlR 361 css (K - 1) 361) := by rw [hq.out]; exact I2.out.drewN _
          obtain ⟨b1, o1, e1, -, c1⟩ := i1'.cell (k := k) (by omega)
          cases e1
          obtain ⟨b2, o2, e2, -, c2'⟩ := i2'.cell (k := k + r) (by omega)
          cases e2
          rw [sumsT_get xs (by omega), Nat.zero_add] at c1
          rw [lvlR_get (by omega) (by omega), Nat.zero_add, ← Hl.out] at c2'
          have wkr : IntKind.i64.wrap ((k : Int) + (r : Int)) = ((k + r : Nat) : Int) := by rw [IntKind.wrap_i64]; omega
          have wr1 : IntKind.i64.wrap ((r : Int) + 1) = (r : Int) + 1 := by rw [IntKind.wrap_i64]; omega
          have lk : k < 181 := by omega
          have lkr : k + r < 361 := by omega
          have lkr2 : ((k + r : Nat) : Int) < 360 := by omega
          obtain ⟨kr, hkr⟩ : ∃ kr, kr = k + r := ⟨_, rfl⟩
          rw [← hkr] at c2' wkr lkr lkr2
          obtain ⟨x1, hx1⟩ : ∃ x, x = mst xs k := ⟨_, rfl⟩
          obtain ⟨x2, hx2⟩ : ∃ x, x = lvl css (css.length - 1) kr := ⟨_, rfl⟩
          rw [← hx1] at c1
          rw [← hx2] at c2'
          have Hx := Lib.hid (And.intro hx1 (And.intro hx2 hkr))
          clear hx1 hx2 hkr i1' i2'
          by_cases hc : x2 < x1
          · have Hl2 := Lib.hid hc
            have hr20 : r < 20 := by
              obtain ⟨a1, a2, a3⟩ := Hspec.out
              obtain ⟨d1, d2, d3⟩ := Hx.out
              apply Classical.byContradiction
              intro hn
              have hrl : r = lagN xs css k := by
                rcases Nat.lt_trichotomy (lagN xs css k) r with h | h | h
                · have := hj.out _ h
                  omega
                · exact h.symm
                · omega
              rw [← hrl, ← d3, ← d2, ← d1] at a2
              have := Hl2.out
              omega
            go_wp2
            go_quiet (fail)
            go_wp2
            go_roundg (21 - (r + 1))
            case measure => omega
            case rel =>
              refine ⟨r + 1, _, ⟨by omega, rfl, by simp⟩, Lib.hid (by rw [hq.out]; simp only [World.drewN_drewN]; rfl), Lib.hid fun j hj' => ?_⟩
              rcases Nat.lt_succ_iff_lt_or_eq.1 hj' with h | rfl
              · exact hj.out j h
              · obtain ⟨a1, a2, a3⟩ := Hx.out
                rw [← a3, ← a2, ← a1]
                exact Hl2.out
          · have hla : lagN xs css k = r := by
              obtain ⟨a1, a2, a3⟩ := Hx.out
              exact lagN_is Hf.out hj.out (by rw [← a3, ← a2, ← a1]; omega)
            have hnx := Hnx.out
            rw [hla] at hnx
            have Hnx2 := Lib.hid hnx
            clear hnx hla
            by_cases hcy : cur ≤ (r : Int)
            · have hcy2 : cur < (r : Int) ∨ cur = (r : Int) := by omega
              rcases hcy2 with hcy2 | hcy2
              · have hcy3 : ¬ (r : Int) ≤ cur := by omega
                have Hcy := Lib.hid hcy
                go_wp2
                go_quiet (fail)
                go_wp2
                go_roundg (181 - (k + 1))
                case measure => omega
                case rel => exact ⟨k + 1, _, ⟨by omega, rfl, by simp, by rw [Hnx2.out, if_pos Hcy.out]⟩, Lib.hid (by rw [hq.out]; simp only [World.drewN_drewN]; rfl)⟩
              · have hcy3 : ¬ (r : Int) < (r : Int) := by omega
                have hcy4 : (r : Int) ≤ (r : Int) := by omega
                have Hcy := Lib.hid hcy2
                rw [hcy2]
                clear hcy2 hcy
                go_wp2
                go_quiet (fail)
                go_wp2
                go_roundg (181 - (k + 1))
                case measure => omega
                case rel => exact ⟨k + 1, _, ⟨by omega, rfl, by simp, by rw [Hnx2.out, Hcy.out] <;> simp⟩, Lib.hid (by rw [hq.out]; simp only [World.drewN_drewN]; rfl)⟩
            · have hcy2 : (r : Int) < cur := by omega
              have hcy3 : (r : Int) ≤ cur := by omega
              have hcy4 : ¬ cur < (r : Int) := by omega
              have Hcy := Lib.hid hcy2
              go_wp2
              go_quiet (fail)
              go_wp2
              go_roundg (181 - (k + 1))
              case measure => omega
              case rel => exact ⟨k + 1, _, ⟨by omega, rfl, by simp, by rw [Hnx2.out, if_neg (by have := Hcy.out; omega)]⟩, Lib.hid (by rw [hq.out]; simp only [World.drewN_drewN]; rfl)⟩

/-- What Behind says. -/
def behindR (cs : List Int) (css : List (List Int)) : List Int × Int := if boardE cs css ≠ 0 then ([], boardE cs css) else (behR cs.length cs css cs.length, 0)
theorem behind_lst {cs : List Int} {css : List (List Int)} {n0 : Nat} {w' : World} {e : Ending} (h : BehindP cs css n0 w' e) : ∃ v, e = .returned (.tuple #[v, .int .i64 (behindR cs css).2]) ∧ LstAt w' v (behindR cs css).1 := by
  rcases h with ⟨h, rfl⟩ | ⟨h, g, -, rfl, hr⟩
  · refine ⟨.slice none 0 0, ?_, ?_⟩ <;> (unfold behindR; rw [if_pos h])
    exact LstAt.nil _
  · refine ⟨.slice (some ⟨g, 0, none⟩) cs.length cs.length, ?_, ?_⟩ <;> (unfold behindR; rw [if_neg (by rw [h]; simp)])
    refine LstAt.row hr (behR_len _ _ _ _) ?_
    have := (curve_nums (board_zero h).1).2.1
    omega
def behM (cs : List Int) (css : List (List Int)) (j : Nat) : Int := maxZ (fun u => mst cs (j + 1 + u) - lvl css (css.length - 1) u) 181
def behL (cs : List Int) (css : List (List Int)) (k : Nat) : List Int := (List.range k).map (behM cs css)
theorem behL_succ (cs : List Int) (css : List (List Int)) (k : Nat) : behL cs css (k + 1) = behL cs css k ++ [behM cs css k] := by
  unfold behL
  rw [List.range_succ, List.map_append]
  rfl
theorem behL_is {cs : List Int} {css : List (List Int)} (h : askedR cs css = 0) : behR cs.length cs css cs.length = behL cs css cs.length := by
  have h6 := (curve_nums (asked_fair h).1).2.1
  refine List.ext_getElem (by simp [behR, behL]) fun i h1 h2 => ?_
  have hi : i < cs.length := by simpa [behR] using h1
  simp only [behR, behL, List.getElem_map, List.getElem_range, if_pos hi]
  rw [behind_same h (by omega)]
  rfl
set_option maxRecDepth 100000 in
set_option maxHeartbeats 16000000 in
theorem rBehind_any (w : World) (B B2 : Nat) (A A2 : Option Addr) (n c K c2 : Nat) (xs : List Int) (css : List (List Int)) (hx : IntsAt w B A n xs) (hB : B ≤ w.heap.size) (hy : RowsAt w B2 A2 K css) (hB2 : B2 ≤ w.heap.size) :
    Calls Try.prog 45 #[.slice A n c, .slice A2 K c2] w fun e w' => (∃ v, e = .returned (.tuple #[v, .int .i64 (behindR xs css).2]) ∧ LstAt w' v (behindR xs css).1) ∧ Below w.heap.size w w' := by
  obtain ⟨i0, hi, hz0, hz1', hz2⟩ := info_parts infoI64
  have hm := hx.small
  have hm2 := hy.2.1
  have Hl := Lib.hid hy.1
  have Hlx := Lib.hid hx.len
  go_enter Try.func45, Try.ntmps45
  go_wp2_with (fail)
  refine (rAsked_any w B B2 A A2 n c K c2 xs css (hx.below (Below.refl w.heap.size w) hB) (by have := (Below.refl w.heap.size w).size; omega) (hy.below (Below.refl w.heap.size w) hB2) (by have := (Below.refl w.heap.size w).size; omega)).mono ?_
  rintro e w1 ⟨rfl, hb1⟩
  obtain ⟨r, hr⟩ : ∃ r, r = askedR xs css := ⟨_, rfl⟩
  rw [← hr]
  by_cases h0 : r = 0
  case neg =>
    have hne : (r != 0) = true := by rw [bne_iff_ne]; exact h0
    have Hr := Lib.hid (And.intro hr h0)
    clear hr h0
    go_wp2_with (fail)
    refine (rAsked_any w1 B B2 A A2 n c K c2 xs css (hx.below (hb1) hB) (by have := (hb1).size; omega) (hy.below (hb1) hB2) (by have := (hb1).size; omega)).mono ?_
    rintro e wl ⟨rfl, hq⟩
    have hbl : Below w.heap.size w wl := hb1.trans (hq.mono hb1.size)
    clear hq
    rw [← Hr.out.1]
    go_wp2_with (fail)
    have e : behindR xs css = ([], r) := by unfold behindR; rw [asked_same, if_pos (by rw [← Hr.out.1]; exact Hr.out.2), Hr.out.1]
    refine bodyPost_ret (results_two rfl _ _ (.slice none 0 0) (.int .i64 r) (by simp) (by simp)) rfl ⟨⟨_, by rw [e], ?_⟩, hbl⟩
    rw [e]
    exact LstAt.nil _
  case pos =>
    subst h0
    have Ho := Lib.hid hr.symm
    clear hr
    obtain ⟨hc, hch, q0, a0, hf⟩ := asked_fair Ho.out
    have Hc := Lib.hid hc
    have Hf := Lib.hid hf
    obtain ⟨hk1, hk3, hkn⟩ := chain_nums hch
    have Hn := Lib.hid hkn
    rw [Hl.out] at hk1 hk3
    clear hc hch hf hkn
    have hz1 := hb1.size
    go_wp2_with (fail)
    refine (rMosts_any w1 B A n c 186 xs (hx.below hb1 hB) (by omega) (nums_of Hc.out) (by omega)).mono ?_
    rintro e w2 ⟨v, rfl, hmost, hb2⟩
    obtain ⟨g, cap, rfl⟩ := ownsRow_succ hmost
    have i1 := OwnZ.ints hmost (by omega)
    have hb3 := hb1.trans (hb2.mono hz1)
    have hz3 := hb3.size
    clear hb2 hb1 hmost
    go_wp2_with (fail)
    refine (rLeasts_any w2 B2 A2 K c2 180 css (hy.below hb3 hB2) (by omega) Hn.out hk1 (by omega) (by omega)).mono ?_
    rintro e w3 ⟨g2, hg2, rfl, hrow, hb4⟩
    have i1 := i1.below hb4 (Nat.le_refl _)
    have i2 := hrow.ints (n := 180 + 1) (lvlR_len _ _ _ _) (by omega)
    have hb5 := hb3.trans (hb4.mono hz3)
    have hz23 := hb4.size
    clear hb3 hb4 hrow
    have I1 := Lib.hid i1
    have I2 := Lib.hid i2
    clear i1 i2
    have hn6 : n ≤ 6 := by have := (curve_nums Hc.out).2.1; rw [Hlx.out] at this; exact this
    have hee := Lib.hid (show behindR xs css = (behL xs css n, 0) by
      unfold behindR
      rw [asked_same, if_neg (by rw [Ho.out]; simp), behL_is Ho.out, Hlx.out])
    have hz5 := hb5.size
    go_wp2_with (fail)
    go_loopg [8, 9] n (fun g8 v8 v9 wr => ∃ j : Nat, (j ≤ n ∧ g8 = n - j ∧ v9 = .int .i64 ((j + 1 : Nat) : Int)) ∧ wr.ownsRow w3.heap.size 2 1 v8 j ((behL xs css j).map (.int .i64)) ∧ Below w3.heap.size w3 wr)
    case atStart => exact ⟨0, ⟨by omega, rfl, rfl⟩, World.ownsRow_nil _ _ _ _, Below.refl _ _⟩
    case round =>
      obtain ⟨j, ⟨hj, rfl, rfl⟩, hrow, hb⟩ := hrel
      obtain ⟨wo, rfl⟩ : ∃ wo, wo = wr := ⟨_, rfl⟩
      have hsz := hb.size
      obtain ⟨J, hJ⟩ : ∃ J, J = j + 1 := ⟨_, rfl⟩
      rw [← hJ]
      have HJ := Lib.hid hJ
      by_cases hlt : j < n
      case neg =>
        obtain rfl : j = n := by omega
        have hJk : ¬ (J : Int) ≤ (j : Int) := by omega
        clear hJ
        go_wp2_with (fail)
        refine bodyPost_ret (results_two rfl _ _ _ (.int .i64 0) rfl (by simp)) rfl ⟨⟨_, by rw [hee.out], ?_⟩, hb5.trans (hb.mono hz5)⟩
        rw [hee.out]
        exact LstAt.own hrow (by omega)
      case pos =>
        have hJk : (J : Int) ≤ (n : Int) := by omega
        have hJ6 : J ≤ 6 := by omega
        have hwJ : IntKind.i64.wrap ((J : Int) + 1) = ((J + 1 : Nat) : Int) := by rw [IntKind.wrap_i64]; omega
        clear hJ
        go_wp2_with (fail)
        go_loopg [10, 11] 181 (fun g' v10 v11 wr => ∃ k q : Nat, (k ≤ 181 ∧ g' = 181 - k ∧ v11 = .int .i64 (k : Int) ∧ v10 = .int .i64 (maxZ (fun u => mst xs (J + u) - lvl css (css.length - 1) u) k)) ∧ Hid (wr = wo.drewN q))
        case atStart => exact ⟨0, 0, ⟨by omega, rfl, rfl, rfl⟩, Lib.hid rfl⟩
        case round =>
          obtain ⟨k, q, ⟨hk, rfl, rfl, rfl⟩, hq⟩ := hrel
          have hb' : Below w3.heap.size w3 wr := by rw [hq.out]; exact hb.trans (below_drewN _ _)
          by_cases hk180 : (k : Int) ≤ 180
          case neg =>
            obtain rfl : k = 181 := by omega
            have hrow' := own_drew hrow hq.out
            have hsz' : w3.heap.size ≤ wr.heap.size := hb'.size
            obtain ⟨y, hy'⟩ : ∃ y, y = maxZ (fun u => mst xs (J + u) - lvl css (css.length - 1) u) 181 := ⟨_, rfl⟩
            rw [← hy']
            have Hy := Lib.hid hy'
            clear hy' hrow hb hsz hq
            go_wp2_with (at_builtin; refine wpList_append_own_at _ rfl _ _ 22 rfl w3.heap.size 2 i0 (.int .i64 0) 1 8 Try.underlying22 hi hz0 hz1' hz2 rfl (by decide) _ _ _ rfl (hrow'.alloc _) ⟨wr.heap.size, 0, none⟩ 1 1 [.int .i64 y] rfl rfl (cell_one_new _ _ _) (by simp [Value.oneCell']) (by simp only [maxLen]; omega) (by omega) (by simp; omega) ?_; intro v' w1 hown' hgrow _ hat)
            go_roundg (n - (j + 1))
            case measure => omega
            case rel =>
              refine ⟨j + 1, ⟨by omega, rfl, by rw [← HJ.out]; simp⟩, ?_, (hb'.alloc hsz' _).trans ((Below.refl _ _).grown hgrow (by simp; omega) (fun r e => (hrow'.lt r e).1))⟩
              rw [behL_succ, show behM xs css j = y by rw [Hy.out, HJ.out]; rfl, List.map_append]
              exact hown'
          case pos =>
            have i1' := I1.out.below hb' (by omega)
            have i2' := I2.out.below hb' (Nat.le_refl _)
            obtain ⟨b1, o1, e1, -, c1⟩ := i1'.cell (k := J + k) (by omega)
            cases e1
            obtain ⟨b2, o2, e2, -, c2'⟩ := i2'.cell (k := k) (by omega)
            cases e2
            rw [sumsT_get xs (by omega), Nat.zero_add] at c1
            rw [lvlR_get (by omega) (by omega), Nat.zero_add, ← Hl.out] at c2'
            have bd1 := mst_nonneg (nums_of Hc.out) (J + k)
            have bd2 := lvl_bound Hn.out (css.length - 1) k (by have := Hl.out; omega)
            have w1 : IntKind.i64.wrap (mst xs (J + k) - lvl css (css.length - 1) k) = mst xs (J + k) - lvl css (css.length - 1) k := by rw [IntKind.wrap_i64]; have := Hl.out; omega
            have hwk : IntKind.i64.wrap ((k : Int) + 1) = (k : Int) + 1 := by rw [IntKind.wrap_i64]; omega
            have hwJk : IntKind.i64.wrap ((J : Int) + (k : Int)) = ((J + k : Nat) : Int) := by rw [IntKind.wrap_i64]; omega
            have hnx : maxZ (fun u => mst xs (J + u) - lvl css (css.length - 1) u) (k + 1) = max (maxZ (fun u => mst xs (J + u) - lvl css (css.length - 1) u) k) (mst xs (J + k) - lvl css (css.length - 1) k) := rfl
            rw [Int.max_def] at hnx
            have hk181 : k < 181 := by omega
            have hJk187 : J + k < 187 := by omega
            obtain ⟨Jk, hJke⟩ : ∃ Jk, Jk = J + k := ⟨_, rfl⟩
            obtain ⟨x1, hx1⟩ : ∃ x, x = mst xs (J + k) := ⟨_, rfl⟩
            obtain ⟨x2, hx2⟩ : ∃ x, x = lvl css (css.length - 1) k := ⟨_, rfl⟩
            rw [← hx1] at c1 w1 hnx
            rw [← hx2] at c2' w1 hnx
            rw [← hJke] at c1 hwJk hJk187
            obtain ⟨y, hy'⟩ : ∃ y, y = x1 - x2 := ⟨_, rfl⟩
            have w1 : IntKind.i64.wrap (x1 - x2) = y := by rw [hy']; exact w1
            rw [← hy'] at hnx
            obtain ⟨cur, hcu⟩ : ∃ x, x = maxZ (fun u => mst xs (J + u) - lvl css (css.length - 1) u) k := ⟨_, rfl⟩
            rw [← hcu] at hnx ⊢
            have Hnx := Lib.hid hnx
            have Hye := Lib.hid hy'
            clear hx1 hx2 hy' hcu hnx bd1 bd2 i1' i2' hJke
            by_cases hcy : cur ≤ y
            · have hcy2 : cur < y ∨ cur = y := by omega
              rcases hcy2 with hcy2 | hcy2
              · have hcy3 : ¬ y ≤ cur := by omega
                have Hcy := Lib.hid hcy
                go_wp2
                go_quiet (fail)
                go_wp2
                go_roundg (181 - (k + 1))
                case measure => omega
                case rel => exact ⟨k + 1, _, ⟨by omega, rfl, by simp, by rw [Hnx.out, if_pos Hcy.out] <;> simp [Hye.out]⟩, Lib.hid (by rw [hq.out]; simp only [World.drewN_drewN]; rfl)⟩
              · subst hcy2
                have hcy3 : ¬ cur < cur := by omega
                go_wp2
                go_quiet (fail)
                go_wp2
                go_roundg (181 - (k + 1))
                case measure => omega
                case rel => exact ⟨k + 1, _, ⟨by omega, rfl, by simp, by rw [Hnx.out, if_pos (Int.le_refl _)]⟩, Lib.hid (by rw [hq.out]; simp only [World.drewN_drewN]; rfl)⟩
            · have hcy2 : y < cur := by omega
              have hcy3 : y ≤ cur := by omega
              have hcy4 : ¬ cur < y := by omega
              have Hcy := Lib.hid hcy2
              go_wp2
              go_quiet (fail)
              go_wp2
              go_roundg (181 - (k + 1))
              case measure => omega
              case rel => exact ⟨k + 1, _, ⟨by omega, rfl, by simp, by rw [Hnx.out, if_neg (by have := Hcy.out; omega)]⟩, Lib.hid (by rw [hq.out]; simp only [World.drewN_drewN]; rfl)⟩
end Go.Proofs.Ytlgibckhkdggdaa

/- lag: LagBounds, LagBehinds. -/
namespace Go.Proofs.Ytlgibckhkdggdaa
open Go.RowKit Go.Shelf

attribute [local go_sem] Oper.semAt_some

set_option maxRecDepth 100000 in
set_option maxHeartbeats 16000000 in
theorem LagBounds_any (w : World) (A A2 : Option Addr) (n c n2 c2 : Nat) (xs : List Int) (css : List (List Int)) (hx : IntsAt w w.heap.size A n xs) (hy : RowsAt w w.heap.size A2 n2 css) :
    Calls Try.prog 6 #[.slice A n c, .slice A2 n2 c2] w fun e w' => e = .returned (.bool true) ∧ Below w.heap.size w w' := by
  have hm := hx.small
  have hm2 := hy.2.1
  have works : Calls Try.prog 19 #[] w fun e w' => e = .returned (.bool true) ∧ Below w.heap.size w w' := Works_any w
  by_cases hg : 12 < (n : Int)
  · go_enter Try.func6, Try.ntmps6
    go_wp2_with (go_at_call 17; refine (great_any _ _ _ _).mono ?_; rintro e w' ⟨rfl, rfl⟩)
    refine works.mono ?_
    rintro e w1 ⟨rfl, hb⟩
    go_wp2_with (fail)
    exact bodyPost_ret (results_tmp rfl _ _ _) rfl ⟨rfl, hb⟩
  obtain ⟨bw, hbw⟩ := wide_any w w.heap.size A2 n2 c2 css hy
  cases bw with
  | true =>
    go_enter Try.func6, Try.ntmps6
    go_wp2_with (go_at_call 17; refine (great_any _ _ _ _).mono ?_; rintro e w' ⟨rfl, rfl⟩)
    refine hbw.mono ?_
    rintro e w1 ⟨rfl, hw1⟩
    subst hw1
    go_wp2_with (fail)
    refine works.mono ?_
    rintro e w1 ⟨rfl, hb⟩
    go_wp2_with (fail)
    exact bodyPost_ret (results_tmp rfl _ _ _) rfl ⟨rfl, hb⟩
  | false =>
    have Hb := Lib.hid hbw
    clear works hbw
    go_enter Try.func6, Try.ntmps6
    go_wp2_with (go_at_call 17; refine (great_any _ _ _ _).mono ?_; rintro e w' ⟨rfl, rfl⟩)
    refine Hb.out.mono ?_
    rintro e w0 ⟨rfl, hw1⟩
    subst hw1
    go_wp2_with (fail)
    refine (Wait_any w0 _ _ A A2 n c n2 c2 xs css hx (Nat.le_refl _) hy (Nat.le_refl _)).mono ?_
    rintro e w1 ⟨rfl, hb⟩
    have B1 := hb
    obtain ⟨⟨r0, e0⟩, hr⟩ : ∃ r, r = waitV xs css := ⟨_, rfl⟩
    rw [← hr]
    have H1 := Lib.hid hr
    clear hr
    clear hb
    go_wp2_with (fail)
    refine (rWait_any w1 _ _ A A2 n c n2 c2 xs css (hx.below B1 (Nat.le_refl _)) B1.size (hy.below B1 (Nat.le_refl _)) B1.size).mono ?_
    rintro e w2 ⟨rfl, hb⟩
    have B2 := B1.trans (hb.mono B1.size)
    rw [← H1.out]
    clear hb B1
    go_wp2_with (fail)
    refine (Late_any w2 _ _ A A2 n c n2 c2 xs css (hx.below B2 (Nat.le_refl _)) B2.size (hy.below B2 (Nat.le_refl _)) B2.size).mono ?_
    rintro e w3 ⟨rfl, hb⟩
    have B3 := B2.trans (hb.mono B2.size)
    obtain ⟨⟨r2, e2⟩, hr⟩ : ∃ r, r = lateV xs css := ⟨_, rfl⟩
    rw [← hr]
    have H2 := Lib.hid hr
    clear hr
    clear hb B2
    go_wp2_with (fail)
    refine (rLate_any w3 _ _ A A2 n c n2 c2 xs css (hx.below B3 (Nat.le_refl _)) B3.size (hy.below B3 (Nat.le_refl _)) B3.size).mono ?_
    rintro e w4 ⟨rfl, hb⟩
    have B4 := B3.trans (hb.mono B3.size)
    rw [← H2.out]
    clear hb B3
    go_wp2_with (fail)
    refine (Works_any w4).mono ?_
    rintro e w5 ⟨rfl, hb⟩
    have B5 := B4.trans (hb.mono B4.size)
    clear hb B4
    go_wp2_with (fail)
    exact bodyPost_ret (results_tmp rfl _ _ _) rfl ⟨rfl, B5⟩
set_option maxRecDepth 100000 in
set_option maxHeartbeats 16000000 in
theorem LagBehinds_any (w : World) (A A2 : Option Addr) (n c n2 c2 : Nat) (xs : List Int) (css : List (List Int)) (hx : IntsAt w w.heap.size A n xs) (hy : RowsAt w w.heap.size A2 n2 css) :
    Calls Try.prog 7 #[.slice A n c, .slice A2 n2 c2] w fun e w' => e = .returned (.bool true) ∧ Below w.heap.size w w' := by
  have hm := hx.small
  have hm2 := hy.2.1
  have works : Calls Try.prog 19 #[] w fun e w' => e = .returned (.bool true) ∧ Below w.heap.size w w' := Works_any w
  by_cases hg : 12 < (n : Int)
  · go_enter Try.func7, Try.ntmps7
    go_wp2_with (go_at_call 17; refine (great_any _ _ _ _).mono ?_; rintro e w' ⟨rfl, rfl⟩)
    refine works.mono ?_
    rintro e w1 ⟨rfl, hb⟩
    go_wp2_with (fail)
    exact bodyPost_ret (results_tmp rfl _ _ _) rfl ⟨rfl, hb⟩
  obtain ⟨bw, hbw⟩ := wide_any w w.heap.size A2 n2 c2 css hy
  cases bw with
  | true =>
    go_enter Try.func7, Try.ntmps7
    go_wp2_with (go_at_call 17; refine (great_any _ _ _ _).mono ?_; rintro e w' ⟨rfl, rfl⟩)
    refine hbw.mono ?_
    rintro e w1 ⟨rfl, hw1⟩
    subst hw1
    go_wp2_with (fail)
    refine works.mono ?_
    rintro e w1 ⟨rfl, hb⟩
    go_wp2_with (fail)
    exact bodyPost_ret (results_tmp rfl _ _ _) rfl ⟨rfl, hb⟩
  | false =>
    have Hb := Lib.hid hbw
    clear works hbw
    go_enter Try.func7, Try.ntmps7
    go_wp2_with (go_at_call 17; refine (great_any _ _ _ _).mono ?_; rintro e w' ⟨rfl, rfl⟩)
    refine Hb.out.mono ?_
    rintro e w0 ⟨rfl, hw1⟩
    subst hw1
    go_wp2_with (fail)
    refine (Behind_any w0 _ _ A A2 n c n2 c2 xs css hx (Nat.le_refl _) hy (Nat.le_refl _)).mono ?_
    rintro e w1 ⟨hP, B1⟩
    obtain ⟨v1, rfl, l1⟩ := behind_lst hP
    obtain ⟨⟨bl, be⟩, hbr⟩ : ∃ r, r = behindR xs css := ⟨_, rfl⟩
    rw [← hbr] at l1 ⊢
    have Hbr := Lib.hid hbr
    have L1 := Lib.hid l1
    clear hP hbr l1
    go_wp2_with (fail)
    refine (rBehind_any w1 _ _ A A2 n c n2 c2 xs css (hx.below B1 (Nat.le_refl _)) B1.size (hy.below B1 (Nat.le_refl _)) B1.size).mono ?_
    rintro e w2 ⟨⟨v2, rfl, l2⟩, hb⟩
    have B2 := B1.trans (hb.mono B1.size)
    rw [← Hbr.out] at l2 ⊢
    have L2 := Lib.hid l2
    have L1 := Lib.hid (L1.out.up hb)
    clear hb B1 l2
    go_wp2_with (fail)
    refine (longs_same w2 L1.out L2.out).mono ?_
    rintro e w3 ⟨rfl, hb⟩
    have B3 := B2.trans (hb.mono B2.size)
    clear hb B2
    go_wp2_with (fail)
    refine (Works_any w3).mono ?_
    rintro e w4 ⟨rfl, hb⟩
    have B4 := B3.trans (hb.mono B3.size)
    clear hb B3
    go_wp2_with (fail)
    exact bodyPost_ret (results_tmp rfl _ _ _) rfl ⟨rfl, B4⟩
end Go.Proofs.Ytlgibckhkdggdaa
