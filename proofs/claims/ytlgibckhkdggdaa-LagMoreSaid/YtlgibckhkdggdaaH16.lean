/- Parts of a proof: RN RO RP. -/
import Derived.Test.YtlgibckhkdggdaaH15

/- lag's reference: CheckAdded, Added. -/
namespace Go.Proofs.Ytlgibckhkdggdaa
open Go.RowKit Go.Shelf

attribute [local go_sem] Oper.semAt_some

theorem small_of {xs : List Int} (h : ∀ j, j < xs.length → -1000000000000 ≤ xs[j]?.getD 0 ∧ xs[j]?.getD 0 ≤ 1000000000000) : Small xs := by
  intro j
  by_cases hj : j < xs.length
  · exact h j hj
  · rw [List.getElem?_eq_none (by omega)]
    simp
theorem small_pre {xs : List Int} (h : Row60 xs) : Small (preL xs xs.length) := by
  refine small_of fun j hj => ?_
  rw [preL_len] at hj
  rw [preL_get (by omega)]
  have := preS_bound h j (by omega)
  have := h.1
  omega
theorem lvl_at0 (cs : List Int) (t : Nat) : lvl [cs] 0 t = leastF cs t := rfl
theorem small_lvl {cs : List Int} (h : Nums cs) {n : Nat} (hn : n ≤ 1000) : Small (lvlR n [cs] 0 n) := by
  refine small_of fun j hj => ?_
  rw [lvlR_len] at hj
  rw [lvlR_get hj hj, lvl_at0]
  have := leastF_bound h j
  omega
theorem laz_add {xs cs : List Int} {t : Nat} (ht : t ≤ xs.length) : lazF (preL xs xs.length) (lvlR (xs.length + 1) [cs] 0 (xs.length + 1)) t = addF (totF xs) cs t := by
  rw [lazF_min (by rw [lvlR_get (by omega) (by omega), lvl_at0, leastF_zero])]
  show _ = minP 0 t fun p => (totF xs)[t - p]?.getD 0 + leastF cs p
  refine minP_congr (Nat.zero_le _) fun p _ hp => ?_
  rw [totF_pre, lvlR_get (by omega) (by omega), lvl_at0]
theorem results_six {P : Program} {f : Func} (hr : f.results = #[.tmp 6]) (W : World) (tmps : Array Value) (a : Value) (h6 : tmps.getD 6 undef = a) :
    (results f tmps).run P W = .ok a W := by
  simp only [Array.getD_eq_getD_getElem?] at h6
  simp [results, hr, go_sem, h6]
set_option maxRecDepth 100000 in
set_option maxHeartbeats 16000000 in
theorem rCheckAdded_any (w : World) (B B2 B3 : Nat) (A A2 A3 : Option Addr) (n c m c2 l c3 : Nat) (xs ys zs : List Int) (hx : IntsAt w B A n xs) (hB : B ≤ w.heap.size) (hy : IntsAt w B2 A2 m ys) (hB2 : B2 ≤ w.heap.size) (hz : IntsAt w B3 A3 l zs) (hB3 : B3 ≤ w.heap.size) :
    Calls Try.prog 39 #[.slice A n c, .slice A2 m c2, .slice A3 l c3] w fun e w' => e = .returned (.int .i64 (checkAddedR xs ys zs)) ∧ Below w.heap.size w w' := by
  have hm := hx.small
  have hm2 := hy.small
  have Hlx := Lib.hid hx.len
  have Hly := Lib.hid hy.len
  have Hlz := Lib.hid hz.len
  go_enter Try.func39, Try.ntmps39
  go_wp2_with (fail)
  refine (rCheckCurve_any w B A n c xs (hx.below (Below.refl _ w) hB)).mono ?_
  rintro e w1 ⟨rfl, q, hq⟩
  have hb1 : Below w.heap.size w w1 := by rw [hq]; exact (Below.refl _ w).trans (below_drewN _ _)
  clear hq
  obtain ⟨r, hr⟩ : ∃ r, r = curveF xs := ⟨_, rfl⟩
  rw [← hr]
  by_cases h0 : r = 0
  case neg =>
    have hne : (r != 0) = true := by rw [bne_iff_ne]; exact h0
    have Hr := Lib.hid (And.intro hr h0)
    clear hr h0
    go_wp2_with (fail)
    refine (rCheckCurve_any w1 B A n c xs (hx.below (hb1) hB)).mono ?_
    rintro e wl ⟨rfl, q, hq⟩
    have hbl : Below w.heap.size w wl := by rw [hq]; exact hb1.trans (below_drewN _ _)
    clear hq
    rw [← Hr.out.1]
    go_wp2_with (fail)
    refine bodyPost_ret (results_six rfl _ _ (.int .i64 r) (by simp)) rfl ⟨?_, hbl⟩
    have e : checkAddedR xs ys zs = r := by unfold checkAddedR; rw [if_pos (by rw [← Hr.out.1]; exact Hr.out.2), Hr.out.1]
    rw [e]
  case pos =>
    subst h0
    have Hc := Lib.hid hr.symm
    clear hr
    go_wp2_with (fail)
    refine (rRows_any w1 B2 B3 A2 A3 m c2 l c3 ys zs (hy.below (hb1) hB2) (by have := (hb1).size; omega) (hz.below (hb1) hB3) (by have := (hb1).size; omega)).mono ?_
    rintro e w2 ⟨rfl, hq⟩
    have hb2 : Below w.heap.size w w2 := hb1.trans (hq.mono hb1.size)
    clear hq
    obtain ⟨r, hr⟩ : ∃ r, r = tallyE ys zs := ⟨_, rfl⟩
    rw [← hr]
    by_cases h0 : r = 0
    case neg =>
      have hne : (r != 0) = true := by rw [bne_iff_ne]; exact h0
      have Hr := Lib.hid (And.intro hr h0)
      clear hr h0
      go_wp2_with (fail)
      refine (rRows_any w2 B2 B3 A2 A3 m c2 l c3 ys zs (hy.below (hb2) hB2) (by have := (hb2).size; omega) (hz.below (hb2) hB3) (by have := (hb2).size; omega)).mono ?_
      rintro e wl ⟨rfl, hq⟩
      have hbl : Below w.heap.size w wl := hb2.trans (hq.mono hb2.size)
      clear hq
      rw [← Hr.out.1]
      go_wp2_with (fail)
      refine bodyPost_ret (results_six rfl _ _ (.int .i64 r) (by simp)) rfl ⟨?_, hbl⟩
      have e : checkAddedR xs ys zs = r := by unfold checkAddedR; rw [if_neg (by rw [Hc.out]; simp), if_pos (by rw [← Hr.out.1]; exact Hr.out.2), Hr.out.1]
      rw [e]
    case pos =>
      subst h0
      have Ho := Lib.hid hr.symm
      clear hr
      have htl : rowsF ys zs = 0 ∧ m = l ∧ reachF (totF ys) (totF zs) = true := by
        have h := Ho.out
        unfold tallyE at h
        by_cases h1 : rowsF ys zs = 0
        · rw [if_neg (by rw [h1]; simp)] at h
          by_cases h2 : ys.length = zs.length
          · rw [if_neg (by rw [h2]; simp)] at h
            refine ⟨h1, by rw [← Hly.out, ← Hlz.out]; exact h2, ?_⟩
            cases h3 : reachF (totF ys) (totF zs) with
            | true => rfl
            | false => rw [h3] at h; simp at h
          · rw [if_pos h2] at h
            cases h
        · rw [if_pos h1] at h
          exact absurd h h1
      obtain ⟨hrows, rfl, -⟩ := htl
      rw [rowsF_is] at hrows
      have hr1 : rowF ys = 0 := by
        split at hrows
        · assumption
        · rename_i h
          simpa using h
      have hr2 : rowF zs = 0 := by
        rw [if_neg (by rw [hr1]; simp)] at hrows
        exact hrows
      have hry := Lib.hid (row_of hr1)
      have hrz := Lib.hid (row_of hr2)
      have hm60 : m ≤ 60 := by have := hry.out.1; have := Hly.out; omega
      clear hrows hr1 hr2
      have hz0' := hb2.size
      go_wp2_with (fail)
      refine (rSums_any w2 B2 A2 m c2 ys (hy.below hb2 hB2) (by omega) (by omega) (fun j hj => by have := preS_bound hry.out j (by rw [Hly.out]; exact hj); omega)).mono ?_
      rintro e w3 ⟨v1, rfl, hs1, hb3⟩
      obtain ⟨A3', c3', rfl, -, i1⟩ := OwnZ.row hs1 (by rw [preL_len]; omega)
      have hb4 := hb2.trans (hb3.mono hz0')
      have hz4 := hb4.size
      rw [preL_len] at i1 ⊢
      clear hb3 hs1
      have ir := rows_new1 (c := c) ((hx.below hb4 hB).more (show B ≤ w3.heap.size by omega))
      have hb5 := hb4.alloc hz4 (.cells #[.slice A n c] 22)
      have i1 := i1.below (Below.refl _ w3 |>.alloc (Nat.le_refl _) (.cells #[.slice A n c] 22)) (Nat.le_refl _)
      obtain ⟨w4, hw4⟩ : ∃ W, W = w3.alloc (.cells #[.slice A n c] 22) := ⟨_, rfl⟩
      have hz34 : w3.heap.size < w4.heap.size := by rw [hw4]; simp
      rw [← hw4] at ir hb5 i1
      clear hb4
      go_wp2_with (fail)
      rw [← hw4]
      clear hw4
      obtain ⟨b4, hb4e⟩ : ∃ b4, b4 = w3.heap.size := ⟨_, rfl⟩
      rw [← hb4e] at ir ⊢
      have hz5 := hb5.size
      refine (rLeasts_any w4 w4.heap.size (some ⟨b4, 0, none⟩) 1 1 m [xs] ir (Nat.le_refl _) (fun j hj => by
        obtain rfl : j = 0 := by simpa using hj
        exact nums_of Hc.out) (by omega) (by omega) (by omega)).mono ?_
      rintro e w5 ⟨g5, hg5, rfl, hrow5, hb6⟩
      have i2 := hrow5.ints (n := m + 1) (lvlR_len _ _ _ _) (by omega)
      have i1 := i1.below hb6 (by omega)
      have hz45 := hb6.size
      have hb7 := hb5.trans (hb6.mono hz5)
      have hz7 := hb7.size
      clear hb5 hb6 hrow5 ir
      go_wp2_with (fail)
      refine (rLazy_any w5 w3.heap.size w5.heap.size A3' (some ⟨g5, 0, none⟩) (m + 1) c3' (m + 1) (m + 1) (preL ys m) (lvlR (m + 1) [xs] 0 (m + 1)) i1 (by omega) i2 (Nat.le_refl _) (Nat.le_refl _) (by omega) (by have := small_pre hry.out; rw [Hly.out] at this; exact this) (small_lvl (nums_of Hc.out) (by omega))).mono ?_
      rintro e w6 ⟨v6, rfl, hown, hb8⟩
      obtain ⟨g6, c6, rfl⟩ := ownsRow_succ hown
      have i3 := OwnZ.ints hown (by omega)
      have hb9 := hb7.trans (hb8.mono hz7)
      have hz9 := hb9.size
      clear hb7 hb8 hown i1 i2
      go_wp2_with (fail)
      refine (rSums_any w6 B3 A3 m c3 zs (hz.below hb9 hB3) (by omega) (by omega) (fun j hj => by have := preS_bound hrz.out j (by rw [Hlz.out]; exact hj); omega)).mono ?_
      rintro e w7 ⟨v7, rfl, hs7, hb10⟩
      obtain ⟨A7, c7, rfl, -, i4⟩ := OwnZ.row hs7 (by rw [preL_len]; omega)
      have i3 := i3.below hb10 (Nat.le_refl _)
      have hb11 := hb9.trans (hb10.mono hz9)
      rw [preL_len] at i4 ⊢
      clear hb9 hb10 hs7
      have Hck := Lib.hid (show checkAddedR xs ys zs = if reachF (totF zs) (addL (totF ys) xs) = false then 18 else 0 by
        unfold checkAddedR
        rw [if_neg (by rw [Hc.out]; simp), if_neg (by rw [Ho.out]; simp)])
      obtain ⟨K, hK⟩ : ∃ K, K = m + 1 := ⟨_, rfl⟩
      rw [← hK] at i3 i4 ⊢
      have HK := Lib.hid hK
      obtain ⟨b7, o7, rfl, -, -⟩ := i4.cell (k := 0) (by omega)
      have hK61 : K ≤ 61 := by omega
      clear hK
      go_wp2_with (fail)
      go_loopg [9] K (fun g9 v9 wr => ∃ k q : Nat, (k ≤ K ∧ g9 = K - k ∧ v9 = .int .i64 (k : Int)) ∧ Hid (wr = w7.drewN q) ∧ Hid (∀ i, i < k → addF (totF ys) xs i ≤ preS zs i))
      case atStart => exact ⟨0, 0, ⟨by omega, rfl, rfl⟩, Lib.hid rfl, Lib.hid fun i h => by omega⟩
      case round =>
        obtain ⟨k, q, ⟨hk, rfl, rfl⟩, hq, hn⟩ := hrel
        by_cases hlt : k < K
        case neg =>
          have Hr := Lib.hid (show checkAddedR xs ys zs = 0 by
            rw [Hck.out, if_neg]
            rw [totF_pre zs, reach_true fun i hi => ?_]
            · simp
            · rw [addL_len, totF_len] at hi
              rw [addL_get (by rw [totF_len]; exact hi), preL_get (by rw [Hlz.out]; rw [Hly.out] at hi; omega)]
              exact hn.out i (by rw [Hly.out] at hi; have := HK.out; omega))
          go_wp2_with (fail)
          refine bodyPost_ret (results_six rfl _ _ (.int .i64 0) (by simp)) rfl ⟨by rw [Hr.out], by rw [hq.out]; exact hb11.trans (below_drewN _ _)⟩
        case pos =>
          have i3' : IntsAt wr w6.heap.size (some ⟨g6, 0, none⟩) K (lazL (preL ys m) (lvlR K [xs] 0 K) K) := by rw [hq.out]; exact i3.drewN _
          have i4' : IntsAt wr w7.heap.size (some ⟨b7, o7, none⟩) K (preL zs m) := by rw [hq.out]; exact i4.drewN _
          obtain ⟨b3, o3, e3, -, c1⟩ := i3'.cell (k := k) hlt
          cases e3
          obtain ⟨b4', o4, e4, -, c2'⟩ := i4'.cell (k := k) hlt
          cases e4
          have hla : lazF (preL ys m) (lvlR K [xs] 0 K) k = addF (totF ys) xs k := by
            have := laz_add (xs := ys) (cs := xs) (t := k) (by rw [Hly.out]; have := HK.out; omega)
            rw [Hly.out, ← HK.out] at this
            exact this
          rw [lazL_get hlt, hla, Nat.zero_add] at c1
          rw [preL_get (by have := HK.out; omega)] at c2'
          obtain ⟨x1, hx1⟩ : ∃ x, x = addF (totF ys) xs k := ⟨_, rfl⟩
          obtain ⟨x2, hx2⟩ : ∃ x, x = preS zs k := ⟨_, rfl⟩
          rw [← hx1] at c1
          rw [← hx2] at c2'
          have hwk : IntKind.i64.wrap ((k : Int) + 1) = (k : Int) + 1 := by rw [IntKind.wrap_i64]; omega
          have Hx := Lib.hid (And.intro hx1 hx2)
          clear hx1 hx2 i3' i4' hla
          by_cases hov : x2 < x1
          · have Hr := Lib.hid (show checkAddedR xs ys zs = 18 by
              obtain ⟨e1, e2⟩ := Hx.out
              rw [Hck.out, totF_pre zs, if_pos]
              refine reach_false (k := k) (by rw [addL_len, totF_len, Hly.out]; have := HK.out; omega) ?_
              rw [preL_get (by rw [Hlz.out]; have := HK.out; omega), addL_get (by rw [totF_len, Hly.out]; have := HK.out; omega), ← e1, ← e2]
              exact hov)
            go_wp2
            go_quiet (fail)
            go_wp2
            refine bodyPost_ret (results_six rfl _ _ (.int .i64 18) (by simp)) rfl ⟨by rw [Hr.out], by rw [hq.out]; exact (hb11.trans (below_drewN _ _)).trans (below_drewN _ _)⟩
          · have Hov := Lib.hid hov
            go_wp2
            go_quiet (fail)
            go_wp2
            go_roundg (K - (k + 1))
            case measure => omega
            case rel =>
              refine ⟨k + 1, _, ⟨by omega, rfl, by simp⟩, Lib.hid (by rw [hq.out]; simp only [World.drewN_drewN]; rfl), Lib.hid fun j b => ?_⟩
              rcases Nat.lt_succ_iff_lt_or_eq.1 b with h | rfl
              · exact hn.out j h
              · obtain ⟨e1, e2⟩ := Hx.out
                rw [← e1, ← e2]
                have := Hov.out
                omega

/-- What Added says. -/
def addedR (cs xs : List Int) : List Int × Int := if curveF cs ≠ 0 then ([], curveF cs) else if rowF xs ≠ 0 then ([], rowF xs) else (difL (addL (totF xs) cs) xs.length, 0)
theorem added_lst {cs xs : List Int} {n0 : Nat} {w' : World} {e : Ending} (h : AddedP cs xs n0 w' e) : ∃ v, e = .returned (.tuple #[v, .int .i64 (addedR cs xs).2]) ∧ LstAt w' v (addedR cs xs).1 := by
  rcases h with ⟨h, rfl⟩ | ⟨h, h', rfl⟩ | ⟨h, h', g, -, rfl, hr⟩
  · refine ⟨.slice none 0 0, ?_, ?_⟩ <;> (unfold addedR; rw [if_pos h])
    exact LstAt.nil _
  · refine ⟨.slice none 0 0, ?_, ?_⟩ <;> (unfold addedR; rw [if_neg (by rw [h]; simp), if_pos h'])
    exact LstAt.nil _
  · refine ⟨.slice (some ⟨g, 0, none⟩) xs.length xs.length, ?_, ?_⟩ <;> (unfold addedR; rw [if_neg (by rw [h]; simp), if_neg (by rw [h']; simp)])
    exact LstAt.row hr (by rw [difL_dif, difP_len]) (by have := (row_of h').1; omega)
set_option maxRecDepth 100000 in
set_option maxHeartbeats 16000000 in
theorem rAdded_any (w : World) (B B2 : Nat) (A A2 : Option Addr) (n c m c2 : Nat) (xs ys : List Int) (hx : IntsAt w B A n xs) (hB : B ≤ w.heap.size) (hy : IntsAt w B2 A2 m ys) (hB2 : B2 ≤ w.heap.size) :
    Calls Try.prog 35 #[.slice A n c, .slice A2 m c2] w fun e w' => (∃ v, e = .returned (.tuple #[v, .int .i64 (addedR xs ys).2]) ∧ LstAt w' v (addedR xs ys).1) ∧ Below w.heap.size w w' := by
  obtain ⟨i0, hi, hz0, hz1, hz2⟩ := info_parts infoI64
  have hm := hx.small
  have hm2 := hy.small
  have Hlx := Lib.hid hx.len
  have Hly := Lib.hid hy.len
  go_enter Try.func35, Try.ntmps35
  go_wp2_with (fail)
  refine (rCheckCurve_any w B A n c xs (hx.below (Below.refl _ w) hB)).mono ?_
  rintro e w1 ⟨rfl, q, hq⟩
  have hb1 : Below w.heap.size w w1 := by rw [hq]; exact (Below.refl _ w).trans (below_drewN _ _)
  clear hq
  obtain ⟨r, hr⟩ : ∃ r, r = curveF xs := ⟨_, rfl⟩
  rw [← hr]
  by_cases h0 : r = 0
  case neg =>
    have hne : (r != 0) = true := by rw [bne_iff_ne]; exact h0
    have Hr := Lib.hid (And.intro hr h0)
    clear hr h0
    go_wp2_with (fail)
    refine (rCheckCurve_any w1 B A n c xs (hx.below (hb1) hB)).mono ?_
    rintro e wl ⟨rfl, q, hq⟩
    have hbl : Below w.heap.size w wl := by rw [hq]; exact hb1.trans (below_drewN _ _)
    clear hq
    rw [← Hr.out.1]
    go_wp2_with (fail)
    have e : addedR xs ys = ([], r) := by unfold addedR; rw [if_pos (by rw [← Hr.out.1]; exact Hr.out.2), Hr.out.1]
    refine bodyPost_ret (results_two rfl _ _ (.slice none 0 0) (.int .i64 r) (by simp) (by simp)) rfl ⟨⟨_, by rw [e], ?_⟩, hbl⟩
    rw [e]
    exact LstAt.nil _
  case pos =>
    subst h0
    have Hc := Lib.hid hr.symm
    clear hr
    go_wp2_with (fail)
    refine (rCheckRow_any w1 B2 A2 m c2 ys (hy.below (hb1) hB2)).mono ?_
    rintro e w2 ⟨rfl, q, hq⟩
    have hb2 : Below w.heap.size w w2 := by rw [hq]; exact (hb1).trans (below_drewN _ _)
    clear hq
    obtain ⟨r, hr⟩ : ∃ r, r = rowF ys := ⟨_, rfl⟩
    rw [← hr]
    by_cases h0 : r = 0
    case neg =>
      have hne : (r != 0) = true := by rw [bne_iff_ne]; exact h0
      have Hr := Lib.hid (And.intro hr h0)
      clear hr h0
      go_wp2_with (fail)
      refine (rCheckRow_any w2 B2 A2 m c2 ys (hy.below (hb2) hB2)).mono ?_
      rintro e wl ⟨rfl, q, hq⟩
      have hbl : Below w.heap.size w wl := by rw [hq]; exact hb2.trans (below_drewN _ _)
      clear hq
      rw [← Hr.out.1]
      go_wp2_with (fail)
      have e : addedR xs ys = ([], r) := by unfold addedR; rw [if_neg (by rw [Hc.out]; simp), if_pos (by rw [← Hr.out.1]; exact Hr.out.2), Hr.out.1]
      refine bodyPost_ret (results_two rfl _ _ (.slice none 0 0) (.int .i64 r) (by simp) (by simp)) rfl ⟨⟨_, by rw [e], ?_⟩, hbl⟩
      rw [e]
      exact LstAt.nil _
    case pos =>
      subst h0
      have Ho := Lib.hid hr.symm
      clear hr
      have hry := Lib.hid (row_of Ho.out)
      have hm60 : m ≤ 60 := by have := hry.out.1; have := Hly.out; omega
      have hz0' := hb2.size
      go_wp2_with (fail)
      refine (rSums_any w2 B2 A2 m c2 ys (hy.below hb2 hB2) (by omega) (by omega) (fun j hj => by have := preS_bound hry.out j (by rw [Hly.out]; exact hj); omega)).mono ?_
      rintro e w3 ⟨v1, rfl, hs1, hb3⟩
      obtain ⟨A3', c3', rfl, -, i1⟩ := OwnZ.row hs1 (by rw [preL_len]; omega)
      have hb4 := hb2.trans (hb3.mono hz0')
      have hz4 := hb4.size
      rw [preL_len] at i1 ⊢
      clear hb3 hs1
      have ir := rows_new1 (c := c) ((hx.below hb4 hB).more (show B ≤ w3.heap.size by omega))
      have hb5 := hb4.alloc hz4 (.cells #[.slice A n c] 22)
      have i1 := i1.below (Below.refl _ w3 |>.alloc (Nat.le_refl _) (.cells #[.slice A n c] 22)) (Nat.le_refl _)
      obtain ⟨w4, hw4⟩ : ∃ W, W = w3.alloc (.cells #[.slice A n c] 22) := ⟨_, rfl⟩
      have hz34 : w3.heap.size < w4.heap.size := by rw [hw4]; simp
      rw [← hw4] at ir hb5 i1
      clear hb4
      go_wp2_with (fail)
      rw [← hw4]
      clear hw4
      obtain ⟨b4, hb4e⟩ : ∃ b4, b4 = w3.heap.size := ⟨_, rfl⟩
      rw [← hb4e] at ir ⊢
      have hz5 := hb5.size
      refine (rLeasts_any w4 w4.heap.size (some ⟨b4, 0, none⟩) 1 1 m [xs] ir (Nat.le_refl _) (fun j hj => by
        obtain rfl : j = 0 := by simpa using hj
        exact nums_of Hc.out) (by omega) (by omega) (by omega)).mono ?_
      rintro e w5 ⟨g5, hg5, rfl, hrow5, hb6⟩
      have i2 := hrow5.ints (n := m + 1) (lvlR_len _ _ _ _) (by omega)
      have i1 := i1.below hb6 (by omega)
      have hz45 := hb6.size
      have hb7 := hb5.trans (hb6.mono hz5)
      have hz7 := hb7.size
      clear hb5 hb6 hrow5 ir
      go_wp2_with (fail)
      refine (rLazy_any w5 w3.heap.size w5.heap.size A3' (some ⟨g5, 0, none⟩) (m + 1) c3' (m + 1) (m + 1) (preL ys m) (lvlR (m + 1) [xs] 0 (m + 1)) i1 (by omega) i2 (Nat.le_refl _) (Nat.le_refl _) (by omega) (by have := small_pre hry.out; rw [Hly.out] at this; exact this) (small_lvl (nums_of Hc.out) (by omega))).mono ?_
      rintro e w6 ⟨v6, rfl, hown, hb8⟩
      obtain ⟨g6, c6, rfl⟩ := ownsRow_succ hown
      have i3 := OwnZ.ints hown (by omega)
      have hb9 := hb7.trans (hb8.mono hz7)
      have hz9 := hb9.size
      clear hb7 hb8 hown i1 i2
      have hee := Lib.hid (show addedR xs ys = (difP (lazL (preL ys m) (lvlR (m + 1) [xs] 0 (m + 1)) (m + 1)) m, 0) by
        unfold addedR
        rw [if_neg (by rw [Hc.out]; simp), if_neg (by rw [Ho.out]; simp), difL_dif, Hly.out]
        congr 1
        refine difP_congr fun j hj => ?_
        rw [addL_get (by rw [totF_len, Hly.out]; omega), lazL_get (by omega)]
        have := laz_add (xs := ys) (cs := xs) (t := j) (by rw [Hly.out]; omega)
        rw [Hly.out] at this
        exact this.symm)
      have hsm : ∀ j, j ≤ m → 0 ≤ lazF (preL ys m) (lvlR (m + 1) [xs] 0 (m + 1)) j ∧ lazF (preL ys m) (lvlR (m + 1) [xs] 0 (m + 1)) j ≤ 100000000 := fun j hj => by
        have h1 := laz_add (xs := ys) (cs := xs) (t := j) (by rw [Hly.out]; omega)
        have h2 := addL_bound hry.out (nums_of Hc.out) j (by rw [Hly.out]; omega)
        rw [addL_get (by rw [totF_len, Hly.out]; omega)] at h2
        rw [Hly.out] at h1
        rw [h1]
        exact h2
      obtain ⟨ds, hds⟩ : ∃ ds, ds = lazL (preL ys m) (lvlR (m + 1) [xs] 0 (m + 1)) (m + 1) := ⟨_, rfl⟩
      have hdb : ∀ j, j ≤ m → 0 ≤ ds[j]?.getD 0 ∧ ds[j]?.getD 0 ≤ 100000000 := fun j hj => by
        rw [hds, lazL_get (by omega)]
        exact hsm j hj
      rw [← hds] at i3 hee
      have Hdb := Lib.hid hdb
      clear hsm hds hdb
      obtain ⟨K, hK⟩ : ∃ K, K = m + 1 := ⟨_, rfl⟩
      rw [← hK] at i3 ⊢
      have HK := Lib.hid hK
      have hK61 : K ≤ 61 := by omega
      clear hK
      go_wp2_with (fail)
      go_loopg [7, 8] m (fun g7 v7 v8 wr => ∃ j : Nat, (j ≤ m ∧ g7 = m - j ∧ v8 = .int .i64 ((j + 1 : Nat) : Int)) ∧ wr.ownsRow w6.heap.size 2 1 v7 j ((difP ds j).map (.int .i64)) ∧ Below w6.heap.size w6 wr)
      case atStart => exact ⟨0, ⟨by omega, rfl, rfl⟩, World.ownsRow_nil _ _ _ _, Below.refl _ _⟩
      case round =>
        obtain ⟨j, ⟨hj, rfl, rfl⟩, hrow, hb⟩ := hrel
        have hsz := hb.size
        obtain ⟨J, hJ⟩ : ∃ J, J = j + 1 := ⟨_, rfl⟩
        rw [← hJ]
        by_cases hlt : j < m
        case neg =>
          obtain rfl : j = m := by omega
          have hJk : ¬ (J : Int) < (K : Int) := by have := HK.out; omega
          clear hJ
          go_wp2_with (fail)
          refine bodyPost_ret (results_two rfl _ _ _ (.int .i64 0) rfl (by simp)) rfl ⟨⟨_, by rw [hee.out], ?_⟩, hb9.trans (hb.mono hz9)⟩
          rw [hee.out]
          exact LstAt.own hrow (by omega)
        case pos =>
          have hJk : (J : Int) < (K : Int) := by have := HK.out; omega
          have im' := i3.below hb (Nat.le_refl _)
          obtain ⟨b1, o1, e1, -, c1⟩ := im'.cell (k := J) (by omega)
          cases e1
          obtain ⟨b2, o2, e2, -, c2'⟩ := im'.cell (k := j) (by omega)
          cases e2
          rw [Nat.zero_add] at c1 c2'
          have d1 := Hdb.out j (by omega)
          have d2 := Hdb.out J (by omega)
          have hdf : difF ds j = ds[J]?.getD 0 - ds[j]?.getD 0 := by rw [hJ]; rfl
          obtain ⟨x1, hx1⟩ : ∃ x, x = ds[J]?.getD 0 := ⟨_, rfl⟩
          obtain ⟨x2, hx2⟩ : ∃ x, x = ds[j]?.getD 0 := ⟨_, rfl⟩
          obtain ⟨y, hy'⟩ : ∃ y, y = difF ds j := ⟨_, rfl⟩
          rw [← hx1] at c1 hdf d2
          rw [← hx2] at c2' hdf d1
          rw [← hy'] at hdf
          have w1' : IntKind.i64.wrap (x1 - x2) = y := by rw [← hdf, IntKind.wrap_i64]; omega
          have w2' : IntKind.i64.wrap ((J : Int) - 1) = (j : Int) := by rw [IntKind.wrap_i64]; omega
          have w3' : IntKind.i64.wrap ((J : Int) + 1) = ((J + 1 : Nat) : Int) := by rw [IntKind.wrap_i64]; omega
          have l1 : J < K := by omega
          have l2 : j < K := by omega
          have Hy := Lib.hid (And.intro hy' hJ)
          clear hx1 hx2 hy' hdf d1 d2 im' hJ
          go_wp2
          refine region_held_wp 1 (fun W' => W' = wr.drew) (fun i => [4, 9].contains i) (by kernel_rfl) ?_
          intro KR hKR
          have hS : wr.drew = wr.drew := rfl
          refine wpAnyHI_takeW (i := 0) (v := ?v0) (some 33) rfl rfl (by kernel_rfl) (by kernel_rfl) (by kernel_rfl) (by kernel_rfl) (fun _ _ _ h => h) (.inl ⟨by kernel_rfl, fun W' hS' => ?y0⟩) ?z0
          case y0 => go_simp; try exact rfl
          refine wpAnyHI_takeW (i := 1) (v := ?v1) (some 34) rfl rfl (by kernel_rfl) (by kernel_rfl) (by kernel_rfl) (by kernel_rfl) (fun _ _ _ h => h) (.inl ⟨by kernel_rfl, fun W' hS' => ?y1⟩) ?z1
          case y1 => go_simp; try exact rfl
          refine wpAnyHI_takeW (i := 2) (v := ?v2) (some 35) rfl rfl (by kernel_rfl) (by kernel_rfl) (by kernel_rfl) (by kernel_rfl) (fun _ _ _ h => h) (.inl ⟨by kernel_rfl, fun W' hS' => ?y2⟩) ?z2
          case y2 => go_simp; try exact rfl
          refine wpAnyHI_takeW (i := 3) (v := ?v3) (some 36) rfl rfl (by kernel_rfl) (by kernel_rfl) (by kernel_rfl) (by kernel_rfl) (fun _ _ _ h => h) (.inl ⟨by kernel_rfl, fun W' hS' => ?y3⟩) ?z3
          case y3 => go_simp; try exact rfl
          refine wpAnyHI_takeW (i := 5) (v := ?v5) (some 38) rfl rfl (by kernel_rfl) (by kernel_rfl) (by kernel_rfl) (by kernel_rfl) (fun _ _ _ h => h) (.inl ⟨by kernel_rfl, fun W' hS' => ?y5⟩) ?z5
          case y5 => go_simp; try exact rfl
          refine wpAnyHI_takeW (i := 6) (v := ?v6) (some 39) rfl rfl (by kernel_rfl) (by kernel_rfl) (by kernel_rfl) (by kernel_rfl) (fun _ _ _ h => h) (.inl ⟨by kernel_rfl, fun W' hS' => ?y6⟩) ?z6
          case y6 => go_simp; try exact rfl
          refine wpAnyHI_takeW (i := 7) (v := ?v7) (some 40) rfl rfl (by kernel_rfl) (by kernel_rfl) (by kernel_rfl) (by kernel_rfl) (fun _ _ _ h => h) (.inl ⟨by kernel_rfl, fun W' hS' => ?y7⟩) ?z7
          case y7 => go_simp; try exact rfl
          refine wpAnyHI_takeW (i := 8) (v := ?v8) (some 41) rfl rfl (by kernel_rfl) (by kernel_rfl) (by kernel_rfl) (by kernel_rfl) (fun _ _ _ h => h) (.inl ⟨by kernel_rfl, fun W' hS' => ?y8⟩) ?z8
          case y8 => go_simp; try exact rfl
          refine wpAnyHI_takeE (i := 4) (v := ?v4) (some 37) rfl rfl (by kernel_rfl) (by kernel_rfl) (by kernel_rfl) (by kernel_rfl) (by kernel_rfl) (fun _ _ _ h => h) hS (.inl ⟨by kernel_rfl, fun W' hS' => ?y4⟩) ?z4
          case y4 => subst hS'; go_simp; try exact rfl
          refine wpAnyHI_takeE (i := 9) (v := ?v9) (some 42) rfl rfl (by kernel_rfl) (by kernel_rfl) (by kernel_rfl) (by kernel_rfl) (by kernel_rfl) (fun _ _ _ h => h) hS (.inl ⟨by kernel_rfl, fun W' hS' => ?y9⟩) ?z9
          case y9 => subst hS'; go_simp; try exact rfl
          refine wpAnyHI_takeW (i := 10) (v := ?v10) (some 43) rfl rfl (by kernel_rfl) (by kernel_rfl) (by kernel_rfl) (by kernel_rfl) (fun _ _ _ h => h) (.inl ⟨by kernel_rfl, fun W' hS' => ?y10⟩) ?z10
          case y10 => go_simp; try exact rfl
          refine wpAnyHI_tail (k := 11) rfl rfl (by kernel_rfl) (by kernel_rfl) ?_
          simp only [List.drop_succ_cons, List.drop_zero]
          have hb' : Below w6.heap.size w6 wr.drew := hb.trans (below_drew _)
          have hrow' := World.ownsRow.drew hrow
          have hsz' : w6.heap.size ≤ wr.drew.heap.size := hsz
          clear hS c1 c2'
          generalize wr.drew = W2 at hb' hrow' hsz' ⊢
          gi_wp2_with (gi_at_builtin; refine wpListIn_append_own_at (F := Fence.wide) (nF := 1) _ rfl _ _ 22 rfl w6.heap.size 2 i0 (.int .i64 0) 1 8 Try.underlying22 hi hz0 hz1 hz2 rfl (by decide) _ _ _ rfl (hrow'.alloc _) ⟨W2.heap.size, 0, none⟩ 1 1 [.int .i64 y] rfl rfl (cell_one_new _ _ _) (by simp [Value.oneCell']) (by simp only [maxLen]; omega) (by omega) (by simp; omega) ?_; intro v' w9 hown' hgrow _ hat)
          go_wp2
          go_roundg (m - (j + 1))
          case measure => omega
          case rel =>
            obtain ⟨hy', hJ⟩ := Hy.out
            refine ⟨j + 1, ⟨by omega, rfl, by rw [← hJ]; simp⟩, ?_, (hb'.alloc hsz' _).trans ((Below.refl _ _).grown hgrow (by simp; omega) (fun r e => (hrow'.lt r e).1))⟩
            rw [difP_succ, ← hy']
            simpa using hown'
end Go.Proofs.Ytlgibckhkdggdaa

/- lag's reference: Seen. -/
namespace Go.Proofs.Ytlgibckhkdggdaa
open Go.RowKit Go.Shelf

attribute [local go_sem] Oper.semAt_some

def maxSo (f : Nat → Int) (t : Nat) : Int := if t = 0 then 0 else maxP 0 (t - 1) f
theorem maxSo_next {f : Nat → Int} {t : Nat} (h : 0 ≤ f t) : maxSo f (t + 1) = if maxSo f t < f t then f t else maxSo f t := by
  unfold maxSo
  rw [if_neg (by omega), Nat.add_sub_cancel]
  by_cases ht : t = 0
  · subst ht
    rw [maxP_one, if_pos rfl]
    split <;> omega
  · rw [if_neg ht]
    have := maxP_succ (lo := 0) (M := t - 1) (Nat.zero_le _) f
    rw [show t - 1 + 1 = t by omega] at this
    exact this
theorem maxSo_end {f : Nat → Int} (t : Nat) : maxSo f (t + 1) = maxP 0 t f := by
  unfold maxSo
  rw [if_neg (by omega), Nat.add_sub_cancel]
theorem late_is {ts os : List Int} {k r : Nat} (h1 : ∀ j, j < r → os[k + j]?.getD 0 < ts[k]?.getD 0) (h2 : ts[k]?.getD 0 ≤ os[k + r]?.getD 0) (h3 : k + r < os.length) : lateF ts os k = (r : Int) := by
  have hf : (os.drop k).findIdx (fun y => decide (ts[k]?.getD 0 ≤ y)) = r := by
    rw [List.findIdx_eq (by rw [List.length_drop]; omega)]
    refine ⟨?_, fun j hj => ?_⟩
    · rw [List.getElem_drop]
      rw [List.getElem?_eq_getElem h3] at h2
      simpa using h2
    · have := h1 j hj
      rw [List.getElem?_eq_getElem (show k + j < os.length by omega)] at this
      rw [List.getElem_drop]
      simpa using this
  unfold lateF idxGE
  rw [hf, if_pos (by rw [List.length_drop]; omega)]
set_option maxRecDepth 100000 in
set_option maxHeartbeats 16000000 in
theorem rSeen_any (w : World) (B2 B3 : Nat) (A2 A3 : Option Addr) (m c2 l c3 : Nat) (ys zs : List Int) (hy : IntsAt w B2 A2 m ys) (hB2 : B2 ≤ w.heap.size) (hz : IntsAt w B3 A3 l zs) (hB3 : B3 ≤ w.heap.size) :
    Calls Try.prog 37 #[.slice A2 m c2, .slice A3 l c3] w fun e w' => e = .returned (.tuple #[.int .i64 (seenR ys zs).1, .int .i64 (seenR ys zs).2.1, .int .i64 (seenR ys zs).2.2]) ∧ Below w.heap.size w w' := by
  have hm := hy.small
  have hm2 := hz.small
  have Hly := Lib.hid hy.len
  have Hlz := Lib.hid hz.len
  go_enter Try.func37, Try.ntmps37
  go_wp2_with (fail)
  refine (rRows_any w B2 B3 A2 A3 m c2 l c3 ys zs (hy.below (Below.refl w.heap.size w) hB2) (by have := (Below.refl w.heap.size w).size; omega) (hz.below (Below.refl w.heap.size w) hB3) (by have := (Below.refl w.heap.size w).size; omega)).mono ?_
  rintro e w2 ⟨rfl, hb2⟩
  obtain ⟨r, hr⟩ : ∃ r, r = tallyE ys zs := ⟨_, rfl⟩
  rw [← hr]
  by_cases h0 : r = 0
  case neg =>
    have hne : (r != 0) = true := by rw [bne_iff_ne]; exact h0
    have Hr := Lib.hid (And.intro hr h0)
    clear hr h0
    go_wp2_with (fail)
    refine (rRows_any w2 B2 B3 A2 A3 m c2 l c3 ys zs (hy.below (hb2) hB2) (by have := (hb2).size; omega) (hz.below (hb2) hB3) (by have := (hb2).size; omega)).mono ?_
    rintro e wl ⟨rfl, hq⟩
    have hbl : Below w.heap.size w wl := hb2.trans (hq.mono hb2.size)
    clear hq
    rw [← Hr.out.1]
    go_wp2_with (fail)
    refine bodyPost_ret (results_three rfl _ _ (.int .i64 0) (.int .i64 0) (.int .i64 r) (by simp) (by simp) (by simp)) rfl ⟨?_, hbl⟩
    have e : seenR ys zs = (0, 0, r) := by unfold seenR; rw [if_pos (by rw [← Hr.out.1]; exact Hr.out.2), Hr.out.1]
    rw [e]
  case pos =>
    subst h0
    have Ho := Lib.hid hr.symm
    clear hr
    have htl : rowsF ys zs = 0 ∧ m = l ∧ reachF (totF ys) (totF zs) = true := by
      have h := Ho.out
      unfold tallyE at h
      by_cases h1 : rowsF ys zs = 0
      · rw [if_neg (by rw [h1]; simp)] at h
        by_cases h2 : ys.length = zs.length
        · rw [if_neg (by rw [h2]; simp)] at h
          refine ⟨h1, by rw [← Hly.out, ← Hlz.out]; exact h2, ?_⟩
          cases h3 : reachF (totF ys) (totF zs) with
          | true => rfl
          | false => rw [h3] at h; simp at h
        · rw [if_pos h2] at h
          cases h
      · rw [if_pos h1] at h
        exact absurd h h1
    obtain ⟨hrows, rfl, hreach⟩ := htl
    rw [rowsF_is] at hrows
    have hr1 : rowF ys = 0 := by
      split at hrows
      · assumption
      · rename_i h
        simpa using h
    have hr2 : rowF zs = 0 := by
      rw [if_neg (by rw [hr1]; simp)] at hrows
      exact hrows
    have hry := Lib.hid (row_of hr1)
    have hrz := Lib.hid (row_of hr2)
    have hm60 : m ≤ 60 := by have := hry.out.1; have := Hly.out; omega
    have hle := Lib.hid (show ∀ j, j ≤ m → preS zs j ≤ preS ys j from fun j hj => by
      unfold reachF at hreach
      have := (List.all_eq_true.1 hreach) j (List.mem_range.2 (by rw [totF_len, Hlz.out]; omega))
      rw [totF_pre, totF_pre, preL_get (by rw [Hlz.out]; exact hj), preL_get (by rw [Hly.out]; exact hj)] at this
      simpa using this)
    have hmono := Lib.hid (show ∀ j, j < m → preS ys j ≤ preS ys (j + 1) from fun j hj => by
      have := (hry.out.2 j (by rw [Hly.out]; exact hj)).1
      rw [preS]
      omega)
    clear hrows hr1 hr2 hreach
    have hz2' := hb2.size
    go_wp2_with (fail)
    refine (rSums_any w2 B2 A2 m c2 ys (hy.below hb2 hB2) (by omega) (by omega) (fun j hj => by have := preS_bound hry.out j (by rw [Hly.out]; exact hj); omega)).mono ?_
    rintro e w3 ⟨v1, rfl, hs1, hb3⟩
    obtain ⟨A3', c3', rfl, -, i1⟩ := OwnZ.row hs1 (by rw [preL_len]; omega)
    have hb4 := hb2.trans (hb3.mono hz2')
    have hz4 := hb4.size
    rw [preL_len] at i1 ⊢
    clear hb3 hs1 hb2
    go_wp2_with (fail)
    refine (rSums_any w3 B3 A3 m c3 zs (hz.below hb4 hB3) (by omega) (by omega) (fun j hj => by have := preS_bound hrz.out j (by rw [Hlz.out]; exact hj); omega)).mono ?_
    rintro e w4 ⟨v2, rfl, hs2, hb5⟩
    obtain ⟨A4', c4', rfl, -, i2⟩ := OwnZ.row hs2 (by rw [preL_len]; omega)
    have i1 := i1.below hb5 (Nat.le_refl _)
    have hb6 := hb4.trans (hb5.mono hz4)
    rw [preL_len] at i2 ⊢
    clear hb5 hb4 hs2
    obtain ⟨K, hK⟩ : ∃ K, K = m + 1 := ⟨_, rfl⟩
    rw [← hK] at i1 i2 ⊢
    have HK := Lib.hid hK
    obtain ⟨b1, o1, rfl, -, -⟩ := i1.cell (k := 0) (by omega)
    obtain ⟨b2, o2, rfl, -, -⟩ := i2.cell (k := 0) (by omega)
    have hK61 : K ≤ 61 := by omega
    have hmK : m < K := by omega
    have hwK : IntKind.i64.wrap ((K : Int) - 1) = (m : Int) := by rw [IntKind.wrap_i64]; omega
    clear hK
    have I1 := Lib.hid i1
    have I2 := Lib.hid i2
    obtain ⟨b3, o3, e3, -, c1⟩ := i1.cell (k := m) hmK
    cases e3
    obtain ⟨b4, o4, e4, -, c2'⟩ := i2.cell (k := m) hmK
    cases e4
    rw [preL_get (Nat.le_refl _)] at c1 c2'
    obtain ⟨x1, hx1⟩ : ∃ x, x = preS ys m := ⟨_, rfl⟩
    obtain ⟨x2, hx2⟩ : ∃ x, x = preS zs m := ⟨_, rfl⟩
    rw [← hx1] at c1
    rw [← hx2] at c2'
    have hwm : waitF (totF ys) (totF zs) ys.length = x1 - x2 := by
      unfold waitF
      rw [totF_pre, totF_pre, Hly.out, Hlz.out, preL_get (Nat.le_refl _), preL_get (Nat.le_refl _), hx1, hx2]
    have Hx := Lib.hid (And.intro hx1 hx2)
    have Hwm := Lib.hid hwm
    clear hx1 hx2 i1 i2 hwm
    by_cases hov : x2 < x1
    case pos =>
      have Hr := Lib.hid (show seenR ys zs = (0, 0, 18) by
        unfold seenR
        rw [if_neg (by rw [Ho.out]; simp), if_pos (by rw [Hwm.out]; omega)])
      go_wp2
      go_quiet (fail)
      go_wp2
      refine bodyPost_ret (results_three rfl _ _ (.int .i64 0) (.int .i64 0) (.int .i64 18) (by simp) (by simp) (by simp)) rfl ⟨by rw [Hr.out], hb6.trans (below_drewN _ _)⟩
    case neg =>
      have Hov := Lib.hid hov
      have Hs := Lib.hid (show seenR ys zs = (maxP 0 m (fun p => waitF (totF ys) (totF zs) p), maxP 0 m (fun p => lateF (totF ys) (totF zs) p), 0) by
        unfold seenR
        rw [if_neg (by rw [Ho.out]; simp), if_neg (by rw [Hwm.out]; omega), Hly.out]
        rfl)
      go_wp2
      go_quiet (fail)
      go_wp2
      clear c1 c2'
      go_loopg [10, 11, 12] K (fun g v10 v11 v12 wr => ∃ t q : Nat, (t ≤ K ∧ g = K - t ∧ v12 = .int .i64 (t : Int) ∧ v10 = .int .i64 (maxSo (fun p => waitF (totF ys) (totF zs) p) t) ∧ v11 = .int .i64 (maxSo (fun p => lateF (totF ys) (totF zs) p) t)) ∧ Hid (wr = w4.drewN q))
      case atStart => exact ⟨0, _, ⟨by omega, rfl, rfl, rfl, rfl⟩, Lib.hid rfl⟩
      case round =>
        obtain ⟨t, q, ⟨ht, rfl, rfl, rfl, rfl⟩, hq⟩ := hrel
        obtain ⟨wo, rfl⟩ : ∃ wo, wo = wr := ⟨_, rfl⟩
        by_cases htm : (t : Int) ≤ (m : Int)
        case neg =>
          obtain rfl : t = K := by have := HK.out; omega
          have e1 : maxSo (fun p => waitF (totF ys) (totF zs) p) t = maxP 0 m (fun p => waitF (totF ys) (totF zs) p) := by rw [HK.out]; exact maxSo_end m
          have e2 : maxSo (fun p => lateF (totF ys) (totF zs) p) t = maxP 0 m (fun p => lateF (totF ys) (totF zs) p) := by rw [HK.out]; exact maxSo_end m
          rw [e1, e2]
          obtain ⟨y1, hy1⟩ : ∃ y, y = maxP 0 m (fun p => waitF (totF ys) (totF zs) p) := ⟨_, rfl⟩
          obtain ⟨y2, hy2⟩ : ∃ y, y = maxP 0 m (fun p => lateF (totF ys) (totF zs) p) := ⟨_, rfl⟩
          rw [← hy1, ← hy2]
          have Hy := Lib.hid (And.intro hy1 hy2)
          clear hy1 hy2 e1 e2
          go_wp2_with (fail)
          refine bodyPost_ret (results_three rfl _ _ (.int .i64 y1) (.int .i64 y2) (.int .i64 0) (by simp) (by simp) (by simp)) rfl ⟨by rw [Hs.out, Hy.out.1, Hy.out.2], by rw [hq.out]; exact hb6.trans (below_drewN _ _)⟩
        case pos =>
          have htK : t < K := by omega
          have i1' : IntsAt wo w3.heap.size (some ⟨b1, o1, none⟩) K (preL ys m) := by rw [hq.out]; exact I1.out.drewN _
          have i2' : IntsAt wo w4.heap.size (some ⟨b2, o2, none⟩) K (preL zs m) := by rw [hq.out]; exact I2.out.drewN _
          obtain ⟨b3, o3, e3, -, c1⟩ := i1'.cell (k := t) htK
          cases e3
          obtain ⟨b4, o4, e4, -, c2'⟩ := i2'.cell (k := t) htK
          cases e4
          rw [preL_get (by omega)] at c1 c2'
          have p1 := preS_bound hry.out t (by rw [Hly.out]; omega)
          have p2 := preS_bound hrz.out t (by rw [Hlz.out]; omega)
          have p3 := hle.out t (by omega)
          have hwt : waitF (totF ys) (totF zs) t = preS ys t - preS zs t := by
            unfold waitF
            rw [totF_pre, totF_pre, preL_get (by rw [Hly.out]; omega), preL_get (by rw [Hlz.out]; omega)]
          have hnx := maxSo_next (f := fun p => waitF (totF ys) (totF zs) p) (t := t) (by show 0 ≤ waitF (totF ys) (totF zs) t; rw [hwt]; omega)
          have w1 : IntKind.i64.wrap (preS ys t - preS zs t) = preS ys t - preS zs t := by rw [IntKind.wrap_i64]; omega
          rw [hwt] at hnx
          obtain ⟨x3, hx3⟩ : ∃ x, x = preS ys t := ⟨_, rfl⟩
          obtain ⟨x4, hx4⟩ : ∃ x, x = preS zs t := ⟨_, rfl⟩
          obtain ⟨cur, hcu⟩ : ∃ x, x = maxSo (fun p => waitF (totF ys) (totF zs) p) t := ⟨_, rfl⟩
          obtain ⟨lt, hlt⟩ : ∃ x, x = maxSo (fun p => lateF (totF ys) (totF zs) p) t := ⟨_, rfl⟩
          rw [← hx3] at c1 w1 hnx
          rw [← hx4] at c2' w1 hnx
          rw [← hcu] at hnx ⊢
          rw [← hlt]
          obtain ⟨y, hy'⟩ : ∃ y, y = x3 - x4 := ⟨_, rfl⟩
          have w1 : IntKind.i64.wrap (x3 - x4) = y := by rw [hy']; exact w1
          rw [← hy'] at hnx
          obtain ⟨nw, hnw⟩ : ∃ nw, nw = maxSo (fun p => waitF (totF ys) (totF zs) p) (t + 1) := ⟨_, rfl⟩
          rw [← hnw] at hnx
          have Hn := Lib.hid hnx
          have Hnw := Lib.hid hnw
          have Hx3 := Lib.hid hx3
          have Hlt := Lib.hid hlt
          have Hye := Lib.hid hy'
          have hwt1 : IntKind.i64.wrap ((t : Int) + 1) = (t : Int) + 1 := by rw [IntKind.wrap_i64]; omega
          clear hx3 hx4 hcu hlt hy' hnx hnw hwt p1 p2 p3 i1' i2'
          by_cases hc : cur < y
          all_goals
            first
              | have hc1 : ¬ y ≤ cur := by omega
              | have hc1 : y ≤ cur := by omega
            first
              | (have e : nw = y := by rw [Hn.out, if_pos hc]
                 have He := Lib.hid e
                 clear e)
              | (have e : nw = cur := by rw [Hn.out, if_neg hc]
                 have He := Lib.hid e
                 clear e)
            go_wp2
            go_quiet (fail)
            go_wp2
            clear c1 c2' w1
            go_loopg [13] (m - t + 1) (fun g v13 wr => ∃ r q : Nat, (t + r ≤ m ∧ g = m - t + 1 - r ∧ v13 = .int .i64 (r : Int)) ∧ Hid (wr = w4.drewN q) ∧ Hid (∀ j, j < r → preS zs (t + j) < preS ys t))
            case atStart => exact ⟨0, _, ⟨by omega, rfl, rfl⟩, Lib.hid (by rw [hq.out]; simp only [World.drewN_drewN]; rfl), Lib.hid fun j h => by omega⟩
            case round =>
              obtain ⟨r, q2, ⟨hr, rfl, rfl⟩, hq2, hj⟩ := hrel
              have i1' : IntsAt wr w3.heap.size (some ⟨b1, o1, none⟩) K (preL ys m) := by rw [hq2.out]; exact I1.out.drewN _
              have i2' : IntsAt wr w4.heap.size (some ⟨b2, o2, none⟩) K (preL zs m) := by rw [hq2.out]; exact I2.out.drewN _
              obtain ⟨b3, o3, e3, -, c1⟩ := i1'.cell (k := t) htK
              cases e3
              obtain ⟨b4, o4, e4, -, c2'⟩ := i2'.cell (k := t + r) (by omega)
              cases e4
              rw [preL_get (by omega)] at c1 c2'
              have wtr : IntKind.i64.wrap ((t : Int) + (r : Int)) = ((t + r : Nat) : Int) := by rw [IntKind.wrap_i64]; omega
              have wr1 : IntKind.i64.wrap ((r : Int) + 1) = (r : Int) + 1 := by rw [IntKind.wrap_i64]; omega
              have ltr : t + r < K := by omega
              obtain ⟨tr, htr⟩ : ∃ tr, tr = t + r := ⟨_, rfl⟩
              rw [← htr] at c2' wtr ltr
              obtain ⟨z1, hz1⟩ : ∃ x, x = preS ys t := ⟨_, rfl⟩
              obtain ⟨z2, hz2⟩ : ∃ x, x = preS zs tr := ⟨_, rfl⟩
              rw [← hz1] at c1
              rw [← hz2] at c2'
              have Hz := Lib.hid (And.intro hz1 (And.intro hz2 htr))
              clear hz1 hz2 htr i1' i2'
              by_cases hlt : z2 < z1
              · have Hl := Lib.hid hlt
                have hrm : t + r < m := by
                  apply Classical.byContradiction
                  intro hn
                  obtain ⟨a1, a2, a3⟩ := Hz.out
                  have htrm : tr = m := by omega
                  have mono : ∀ d, t + d ≤ m → preS ys t ≤ preS ys (t + d) := by
                    intro d
                    induction d with
                    | zero => intro _; exact Int.le_refl _
                    | succ d ih => intro h; exact Int.le_trans (ih (by omega)) (hmono.out (t + d) (by omega))
                  have b1 := mono r (by omega)
                  rw [← a3, htrm, ← a1] at b1
                  rw [htrm] at a2
                  obtain ⟨c1, c2⟩ := Hx.out
                  have := Hov.out
                  have := Hl.out
                  omega
                go_wp2
                go_quiet (fail)
                go_wp2
                go_roundg (m - t + 1 - (r + 1))
                case measure => omega
                case rel =>
                  refine ⟨r + 1, _, ⟨by omega, rfl, by simp⟩, Lib.hid (by rw [hq2.out]; simp only [World.drewN_drewN]; rfl), Lib.hid fun j hj' => ?_⟩
                  rcases Nat.lt_succ_iff_lt_or_eq.1 hj' with h | rfl
                  · have := hj.out j h
                    omega
                  · obtain ⟨a1, a2, a3⟩ := Hz.out
                    rw [← a3, ← a2, ← a1]
                    exact Hl.out
              · have Hl := Lib.hid hlt
                have hla : lateF (totF ys) (totF zs) t = (r : Int) := by
                  obtain ⟨a1, a2, a3⟩ := Hz.out
                  refine late_is (fun j hj' => ?_) ?_ (by rw [totF_len, Hlz.out]; omega)
                  · rw [totF_pre, totF_pre, preL_get (by rw [Hlz.out]; omega), preL_get (by rw [Hly.out]; omega)]
                    have := hj.out j hj'
                    omega
                  · rw [totF_pre, totF_pre, preL_get (by rw [Hly.out]; omega), preL_get (by rw [Hlz.out]; omega), ← a3, ← a2, ← a1]
                    have := Hl.out
                    omega
                have hnx2 := maxSo_next (f := fun p => lateF (totF ys) (totF zs) p) (t := t) (by show 0 ≤ lateF (totF ys) (totF zs) t; rw [hla]; omega)
                rw [hla, ← Hlt.out] at hnx2
                have Hn2 := Lib.hid hnx2
                clear hnx2 hla
                by_cases hc2 : lt < (r : Int)
                · have hc3 : ¬ (r : Int) ≤ lt := by omega
                  have Hc2 := Lib.hid hc2
                  go_wp2
                  go_quiet (fail)
                  go_wp2
                  go_roundg (K - (t + 1))
                  case measure => omega
                  case rel => exact ⟨t + 1, _, ⟨by omega, rfl, by simp, by rw [← Hnw.out, He.out] <;> simp [Hye.out], by rw [Hn2.out, if_pos Hc2.out]⟩, Lib.hid (by rw [hq2.out]; simp only [World.drewN_drewN]; rfl)⟩
                · have hc3 : (r : Int) ≤ lt := by omega
                  have Hc2 := Lib.hid hc3
                  go_wp2
                  go_quiet (fail)
                  go_wp2
                  go_roundg (K - (t + 1))
                  case measure => omega
                  case rel => exact ⟨t + 1, _, ⟨by omega, rfl, by simp, by rw [← Hnw.out, He.out] <;> simp [Hye.out], by rw [Hn2.out, if_neg (by have := Hc2.out; omega)]⟩, Lib.hid (by rw [hq2.out]; simp only [World.drewN_drewN]; rfl)⟩
end Go.Proofs.Ytlgibckhkdggdaa

/- lag: LagAdds. -/
namespace Go.Proofs.Ytlgibckhkdggdaa
open Go.RowKit Go.Shelf

attribute [local go_sem] Oper.semAt_some

set_option maxRecDepth 100000 in
set_option maxHeartbeats 16000000 in
theorem LagAdds_any (w : World) (A A2 A3 : Option Addr) (n c n2 c2 n3 c3 : Nat) (xs ys zs : List Int) (hx : IntsAt w w.heap.size A n xs) (hy : IntsAt w w.heap.size A2 n2 ys) (hz : IntsAt w w.heap.size A3 n3 zs) :
    Calls Try.prog 5 #[.slice A n c, .slice A2 n2 c2, .slice A3 n3 c3] w fun e w' => e = .returned (.bool true) ∧ Below w.heap.size w w' := by
  have hm := hx.small
  have hm2 := hy.small
  have hm3 := hz.small
  have works : Calls Try.prog 19 #[] w fun e w' => e = .returned (.bool true) ∧ Below w.heap.size w w' := Works_any w
  by_cases hg : 12 < (n : Int)
  · go_enter Try.func5, Try.ntmps5
    go_wp2_with (first | (go_at_call 17; refine (great_any _ _ _ _).mono ?_; rintro e w' ⟨rfl, rfl⟩) | (go_at_call 28; refine (far_any _ _ _ _).mono ?_; rintro e w' ⟨rfl, rfl⟩))
    refine works.mono ?_
    rintro e w1 ⟨rfl, hb⟩
    go_wp2_with (fail)
    exact bodyPost_ret (results_tmp rfl _ _ _) rfl ⟨rfl, hb⟩
  by_cases hf : 70 < (n2 : Int)
  · go_enter Try.func5, Try.ntmps5
    go_wp2_with (first | (go_at_call 17; refine (great_any _ _ _ _).mono ?_; rintro e w' ⟨rfl, rfl⟩) | (go_at_call 28; refine (far_any _ _ _ _).mono ?_; rintro e w' ⟨rfl, rfl⟩))
    refine works.mono ?_
    rintro e w1 ⟨rfl, hb⟩
    go_wp2_with (fail)
    exact bodyPost_ret (results_tmp rfl _ _ _) rfl ⟨rfl, hb⟩
  by_cases hf3 : 70 < (n3 : Int)
  · go_enter Try.func5, Try.ntmps5
    go_wp2_with (first | (go_at_call 17; refine (great_any _ _ _ _).mono ?_; rintro e w' ⟨rfl, rfl⟩) | (go_at_call 28; refine (far_any _ _ _ _).mono ?_; rintro e w' ⟨rfl, rfl⟩))
    refine works.mono ?_
    rintro e w1 ⟨rfl, hb⟩
    go_wp2_with (fail)
    exact bodyPost_ret (results_tmp rfl _ _ _) rfl ⟨rfl, hb⟩
  clear works
  go_enter Try.func5, Try.ntmps5
  go_wp2_with (first | (go_at_call 17; refine (great_any _ _ _ _).mono ?_; rintro e w' ⟨rfl, rfl⟩) | (go_at_call 28; refine (far_any _ _ _ _).mono ?_; rintro e w' ⟨rfl, rfl⟩))
  refine (Added_any _ _ _ A A2 n c n2 c2 xs ys hx (Nat.le_refl _) hy (Nat.le_refl _)).mono ?_
  rintro e w1 ⟨hP, B1⟩
  obtain ⟨v1, rfl, l1⟩ := added_lst hP
  obtain ⟨⟨al, ae⟩, har⟩ : ∃ r, r = addedR xs ys := ⟨_, rfl⟩
  rw [← har] at l1 ⊢
  have Har := Lib.hid har
  have L1 := Lib.hid l1
  clear hP har l1
  go_wp2_with (fail)
  refine (rAdded_any w1 _ _ A A2 n c n2 c2 xs ys (hx.below B1 (Nat.le_refl _)) B1.size (hy.below B1 (Nat.le_refl _)) B1.size).mono ?_
  rintro e w2 ⟨⟨v2, rfl, l2⟩, hb⟩
  have B2 := B1.trans (hb.mono B1.size)
  rw [← Har.out] at l2 ⊢
  have L2 := Lib.hid l2
  have L1 := Lib.hid (L1.out.up hb)
  clear hb B1 l2
  go_wp2_with (fail)
  refine (Seen_any w2 _ _ A2 A3 n2 c2 n3 c3 ys zs (hy.below B2 (Nat.le_refl _)) B2.size (hz.below B2 (Nat.le_refl _)) B2.size).mono ?_
  rintro e w3 ⟨rfl, hb⟩
  have B3 := B2.trans (hb.mono B2.size)
  obtain ⟨⟨s1, s2, s3⟩, hs⟩ : ∃ r, r = seenR ys zs := ⟨_, rfl⟩
  rw [← hs]
  have Hs := Lib.hid hs
  have L1 := Lib.hid (L1.out.up hb)
  have L2 := Lib.hid (L2.out.up hb)
  clear hb B2 hs
  go_wp2_with (fail)
  refine (rSeen_any w3 _ _ A2 A3 n2 c2 n3 c3 ys zs (hy.below B3 (Nat.le_refl _)) B3.size (hz.below B3 (Nat.le_refl _)) B3.size).mono ?_
  rintro e w4 ⟨rfl, hb⟩
  have B4 := B3.trans (hb.mono B3.size)
  rw [← Hs.out]
  have L1 := Lib.hid (L1.out.up hb)
  have L2 := Lib.hid (L2.out.up hb)
  clear hb B3
  go_wp2_with (fail)
  refine (CheckAdded_any w4 _ _ _ A A2 A3 n c n2 c2 n3 c3 xs ys zs (hx.below B4 (Nat.le_refl _)) B4.size (hy.below B4 (Nat.le_refl _)) B4.size (hz.below B4 (Nat.le_refl _)) B4.size).mono ?_
  rintro e w5 ⟨rfl, hb⟩
  have B5 := B4.trans (hb.mono B4.size)
  obtain ⟨ck, hck⟩ : ∃ r, r = checkAddedR xs ys zs := ⟨_, rfl⟩
  rw [← hck]
  have Hck := Lib.hid hck
  have L1 := Lib.hid (L1.out.up hb)
  have L2 := Lib.hid (L2.out.up hb)
  clear hb B4 hck
  go_wp2_with (fail)
  refine (rCheckAdded_any w5 _ _ _ A A2 A3 n c n2 c2 n3 c3 xs ys zs (hx.below B5 (Nat.le_refl _)) B5.size (hy.below B5 (Nat.le_refl _)) B5.size (hz.below B5 (Nat.le_refl _)) B5.size).mono ?_
  rintro e w6 ⟨rfl, hb⟩
  have B6 := B5.trans (hb.mono B5.size)
  rw [← Hck.out]
  have L1 := Lib.hid (L1.out.up hb)
  have L2 := Lib.hid (L2.out.up hb)
  clear hb B5
  go_wp2_with (fail)
  refine (longs_same w6 L1.out L2.out).mono ?_
  rintro e w7 ⟨rfl, hb⟩
  have B7 := B6.trans (hb.mono B6.size)
  clear hb B6
  go_wp2_with (fail)
  refine (Works_any w7).mono ?_
  rintro e w8 ⟨rfl, hb⟩
  have B8 := B7.trans (hb.mono B7.size)
  clear hb B7
  go_wp2_with (fail)
  exact bodyPost_ret (results_tmp rfl _ _ _) rfl ⟨rfl, B8⟩
end Go.Proofs.Ytlgibckhkdggdaa
