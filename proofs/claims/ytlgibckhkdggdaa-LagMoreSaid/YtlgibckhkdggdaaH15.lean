/- Parts of a proof: RK RM. -/
import Derived.Test.YtlgibckhkdggdaaH14

/- lag: lists that are returned; LagRows. -/
namespace Go.Proofs.Ytlgibckhkdggdaa
open Go.RowKit Go.Shelf

attribute [local go_sem] Oper.semAt_some

/-- A value that is a list. -/
def LstAt (W : World) (v : Value) (xs : List Int) : Prop := ∃ A c, v = .slice A xs.length c ∧ IntsAt W W.heap.size A xs.length xs
theorem LstAt.nil (W : World) : LstAt W (.slice none 0 0) [] := ⟨none, 0, rfl, IntsAt.nil⟩
theorem LstAt.up {W W' : World} {v : Value} {xs : List Int} (h : LstAt W v xs) (hb : Below W.heap.size W W') : LstAt W' v xs := by
  obtain ⟨A, c, e, hi⟩ := h
  exact ⟨A, c, e, ints_up hi hb⟩
theorem LstAt.row {W : World} {g n : Nat} {xs : List Int} (h : RowZ W g xs) (hn : xs.length = n) (hm : n ≤ 1000000) : LstAt W (.slice (some ⟨g, 0, none⟩) n n) xs := by
  subst hn
  exact ⟨_, _, rfl, h.ints rfl hm⟩
theorem LstAt.own {W : World} {B n : Nat} {v : Value} {xs : List Int} (h : W.ownsRow B 2 1 v n (xs.map (.int .i64))) (hm : n ≤ 1000000) : LstAt W v xs := by
  have hl : xs.length = n := by have := h.1; simpa using this
  subst hl
  obtain ⟨A, c, e, -, hi⟩ := OwnZ.row h hm
  exact ⟨A, c, e, hi⟩
/-- What Came says. -/
def cameR (xs : List Int) (t : Int) : List Int × Int := if curveF xs ≠ 0 then ([], curveF xs) else if ¬ (0 ≤ t ∧ t ≤ 60) then ([], 3) else (difL (mostL xs t.toNat) t.toNat, 0)
theorem came_lst {xs : List Int} {t : Int} {n0 : Nat} {w' : World} {e : Ending} (h : CameP xs t n0 w' e) : ∃ v, e = .returned (.tuple #[v, .int .i64 (cameR xs t).2]) ∧ LstAt w' v (cameR xs t).1 := by
  rcases h with ⟨h, rfl⟩ | ⟨h, h', rfl⟩ | ⟨h, k, g, rfl, hk, -, rfl, hr⟩
  · refine ⟨.slice none 0 0, ?_, ?_⟩ <;> (unfold cameR; rw [if_pos h])
    exact LstAt.nil _
  · refine ⟨.slice none 0 0, ?_, ?_⟩ <;> (unfold cameR; rw [if_neg (by rw [h]; simp), if_pos h'])
    exact LstAt.nil _
  · refine ⟨.slice (some ⟨g, 0, none⟩) k k, ?_, ?_⟩
    rotate_left
    · unfold cameR
      rw [if_neg (by rw [h]; simp), if_neg (by omega), Int.toNat_natCast]
      exact LstAt.row hr (by rw [difL_dif, difP_len]) (by omega)
    · unfold cameR
      rw [if_neg (by rw [h]; simp), if_neg (by omega)]
theorem rcame_lst {xs : List Int} {t : Int} {n0 : Nat} {w' : World} {e : Ending} (h : RefCame xs t n0 w' e) : ∃ v, e = .returned (.tuple #[v, .int .i64 (cameR xs t).2]) ∧ LstAt w' v (cameR xs t).1 := by
  rcases h with ⟨h, rfl⟩ | ⟨h, h', rfl⟩ | ⟨h, k, v, rfl, hk, rfl, hr⟩
  · refine ⟨.slice none 0 0, ?_, ?_⟩ <;> (unfold cameR; rw [if_pos h])
    exact LstAt.nil _
  · refine ⟨.slice none 0 0, ?_, ?_⟩ <;> (unfold cameR; rw [if_neg (by rw [h]; simp), if_pos h'])
    exact LstAt.nil _
  · refine ⟨v, ?_, ?_⟩
    rotate_left
    · unfold cameR
      rw [if_neg (by rw [h]; simp), if_neg (by omega), Int.toNat_natCast]
      exact LstAt.own hr (by omega)
    · unfold cameR
      rw [if_neg (by rw [h]; simp), if_neg (by omega)]
theorem longs_same (w : World) {v1 v2 : Value} {xs : List Int} (h1 : LstAt w v1 xs) (h2 : LstAt w v2 xs) : Calls Try.prog 33 #[v1, v2] w fun e w' => e = .returned (.bool true) ∧ Below w.heap.size w w' := by
  obtain ⟨A1, c1, rfl, i1⟩ := h1
  obtain ⟨A2, c2, rfl, i2⟩ := h2
  refine (longs_any w _ _ A1 A2 _ _ c1 c2 xs xs i1 i2).mono ?_
  rintro e w' ⟨rfl, q, rfl⟩
  exact ⟨by simp, below_drewN _ _⟩
set_option maxRecDepth 100000 in
set_option maxHeartbeats 16000000 in
theorem LagRows_any (w : World) (A A2 : Option Addr) (n c n2 c2 : Nat) (xs ys : List Int) (t : Int) (hx : IntsAt w w.heap.size A n xs) (hy : IntsAt w w.heap.size A2 n2 ys) (hc2 : n2 ≤ c2) :
    Calls Try.prog 4 #[.slice A n c, .slice A2 n2 c2, .int .i64 t] w fun e w' => e = .returned (.bool true) ∧ Below w.heap.size w w' := by
  have hm := hx.small
  have hm2 := hy.small
  have works : Calls Try.prog 19 #[] w fun e w' => e = .returned (.bool true) ∧ Below w.heap.size w w' := Works_any w
  by_cases hg : 12 < (n : Int)
  · go_enter Try.func4, Try.ntmps4
    go_wp2_with (first | (go_at_call 17; refine (great_any _ _ _ _).mono ?_; rintro e w' ⟨rfl, rfl⟩) | (go_at_call 28; refine (far_any _ _ _ _).mono ?_; rintro e w' ⟨rfl, rfl⟩))
    refine works.mono ?_
    rintro e w1 ⟨rfl, hb⟩
    go_wp2_with (fail)
    exact bodyPost_ret (results_tmp rfl _ _ _) rfl ⟨rfl, hb⟩
  by_cases hf : 70 < (n2 : Int)
  · go_enter Try.func4, Try.ntmps4
    go_wp2_with (first | (go_at_call 17; refine (great_any _ _ _ _).mono ?_; rintro e w' ⟨rfl, rfl⟩) | (go_at_call 28; refine (far_any _ _ _ _).mono ?_; rintro e w' ⟨rfl, rfl⟩))
    refine works.mono ?_
    rintro e w1 ⟨rfl, hb⟩
    go_wp2_with (fail)
    exact bodyPost_ret (results_tmp rfl _ _ _) rfl ⟨rfl, hb⟩
  clear works
  go_enter Try.func4, Try.ntmps4
  go_wp2_with (first | (go_at_call 17; refine (great_any _ _ _ _).mono ?_; rintro e w' ⟨rfl, rfl⟩) | (go_at_call 28; refine (far_any _ _ _ _).mono ?_; rintro e w' ⟨rfl, rfl⟩))
  refine (Break_any _ _ _ A A2 n c n2 c2 xs ys hx (Nat.le_refl _) hy (Nat.le_refl _) hc2).mono ?_
  rintro e w1 ⟨rfl, B1⟩
  obtain ⟨⟨r1, r2, r3⟩, hr⟩ : ∃ r, r = breakR xs ys := ⟨_, rfl⟩
  rw [← hr]
  have Hr := Lib.hid hr
  clear hr
  go_wp2_with (fail)
  refine (rBreak_any w1 _ _ A A2 n c n2 c2 xs ys (hx.below B1 (Nat.le_refl _)) B1.size (hy.below B1 (Nat.le_refl _)) B1.size).mono ?_
  rintro e w2 ⟨rfl, hb⟩
  have B2 := B1.trans (hb.mono B1.size)
  rw [← Hr.out]
  clear hb B1
  go_wp2_with (fail)
  refine (Came_any w2 _ A n c xs t (hx.below B2 (Nat.le_refl _)) B2.size).mono ?_
  rintro e w3 ⟨hP, hb⟩
  obtain ⟨v3, rfl, l3⟩ := came_lst hP
  have B3 := B2.trans (hb.mono B2.size)
  obtain ⟨⟨cl, ce⟩, hcr⟩ : ∃ r, r = cameR xs t := ⟨_, rfl⟩
  rw [← hcr] at l3 ⊢
  have Hcr := Lib.hid hcr
  have L3 := Lib.hid l3
  clear hP hb B2 hcr l3
  go_wp2_with (fail)
  refine (rCame_any w3 _ A n c xs t (hx.below B3 (Nat.le_refl _)) B3.size).mono ?_
  rintro e w4 ⟨hP, hb⟩
  obtain ⟨v4, rfl, l4⟩ := rcame_lst hP
  have B4 := B3.trans (hb.mono B3.size)
  rw [← Hcr.out] at l4 ⊢
  have L4 := Lib.hid l4
  have L3 := Lib.hid (L3.out.up hb)
  clear hP hb B3 l4
  go_wp2_with (fail)
  refine (longs_same w4 L3.out L4.out).mono ?_
  rintro e w5 ⟨rfl, hb⟩
  have B5 := B4.trans (hb.mono B4.size)
  clear hb B4
  go_wp2_with (fail)
  refine (Works_any w5).mono ?_
  rintro e w6 ⟨rfl, hb⟩
  have B6 := B5.trans (hb.mono B5.size)
  clear hb B5
  go_wp2_with (fail)
  exact bodyPost_ret (results_tmp rfl _ _ _) rfl ⟨rfl, B6⟩
end Go.Proofs.Ytlgibckhkdggdaa

/- lag's reference: Rows, Lazy. -/
namespace Go.Proofs.Ytlgibckhkdggdaa
open Go.RowKit Go.Shelf

attribute [local go_sem] Oper.semAt_some

theorem rowsF_is (xs ys : List Int) : rowsF xs ys = if rowF xs ≠ 0 then rowF xs else rowF ys := by
  unfold rowsF firstE firstE firstE
  split
  · rfl
  · by_cases h : rowF ys = 0
    · rw [if_neg (by rw [h]; simp), h]
    · rw [if_pos h]
theorem reach_false {ts os : List Int} {k : Nat} (hk : k < os.length) (h : ts[k]?.getD 0 < os[k]?.getD 0) : reachF ts os = false := by
  unfold reachF
  rw [List.all_eq_false]
  exact ⟨k, List.mem_range.2 hk, by simp; omega⟩
theorem reach_true {ts os : List Int} (h : ∀ k, k < os.length → os[k]?.getD 0 ≤ ts[k]?.getD 0) : reachF ts os = true := by
  unfold reachF
  rw [List.all_eq_true]
  intro k hk
  have := h k (List.mem_range.1 hk)
  simpa using this
set_option maxRecDepth 100000 in
set_option maxHeartbeats 8000000 in
theorem rRows_any (w : World) (B B2 : Nat) (A A2 : Option Addr) (n c m c2 : Nat) (xs ys : List Int) (hx : IntsAt w B A n xs) (hB : B ≤ w.heap.size) (hy : IntsAt w B2 A2 m ys) (hB2 : B2 ≤ w.heap.size) :
    Calls Try.prog 83 #[.slice A n c, .slice A2 m c2] w fun e w' => e = .returned (.int .i64 (tallyE xs ys)) ∧ Below w.heap.size w w' := by
  have hm := hx.small
  have hm2 := hy.small
  have Hlx := Lib.hid hx.len
  have Hly := Lib.hid hy.len
  go_enter Try.func83, Try.ntmps83
  go_wp2_with (fail)
  refine (rCheckRow_any w B A n c xs (hx.below (Below.refl _ w) hB)).mono ?_
  rintro e w1 ⟨rfl, q, hq⟩
  have hb1 : Below w.heap.size w w1 := by rw [hq]; exact (Below.refl _ w).trans (below_drewN _ _)
  clear hq
  obtain ⟨r, hr⟩ : ∃ r, r = rowF xs := ⟨_, rfl⟩
  rw [← hr]
  by_cases h0 : r = 0
  case neg =>
    have hne : (r != 0) = true := by rw [bne_iff_ne]; exact h0
    have Hr := Lib.hid (And.intro hr h0)
    clear hr h0
    go_wp2_with (fail)
    refine (rCheckRow_any w1 B A n c xs (hx.below (hb1) hB)).mono ?_
    rintro e wl ⟨rfl, q, hq⟩
    have hbl : Below w.heap.size w wl := by rw [hq]; exact hb1.trans (below_drewN _ _)
    clear hq
    rw [← Hr.out.1]
    go_wp2_with (fail)
    go_ret
    refine ⟨ret_int ?_, hbl⟩
    unfold tallyE
    rw [rowsF_is, if_pos (show rowF xs ≠ 0 by rw [← Hr.out.1]; exact Hr.out.2), if_pos (by rw [← Hr.out.1]; exact Hr.out.2), Hr.out.1]
  case pos =>
    subst h0
    have Hc := Lib.hid hr.symm
    clear hr
    go_wp2_with (fail)
    refine (rCheckRow_any w1 B2 A2 m c2 ys (hy.below (hb1) hB2)).mono ?_
    rintro e w2 ⟨rfl, q, hq⟩
    have hb2 : Below w.heap.size w w2 := by rw [hq]; exact (hb1).trans (below_drewN _ _)
    clear hq
    obtain ⟨r, hr⟩ : ∃ r, r = rowF ys := ⟨_, rfl⟩
    rw [← hr]
    by_cases h0 : r = 0
    case neg =>
      have hne : (r != 0) = true := by rw [bne_iff_ne]; exact h0
      have Hr := Lib.hid (And.intro hr h0)
      clear hr h0
      go_wp2_with (fail)
      refine (rCheckRow_any w2 B2 A2 m c2 ys (hy.below (hb2) hB2)).mono ?_
      rintro e wl ⟨rfl, q, hq⟩
      have hbl : Below w.heap.size w wl := by rw [hq]; exact hb2.trans (below_drewN _ _)
      clear hq
      rw [← Hr.out.1]
      go_wp2_with (fail)
      go_ret
      refine ⟨ret_int ?_, hbl⟩
      unfold tallyE
      rw [rowsF_is, if_neg (show ¬ rowF xs ≠ 0 by rw [Hc.out]; simp), if_pos (by rw [← Hr.out.1]; exact Hr.out.2), Hr.out.1]
    case pos =>
      subst h0
      have Ho := Lib.hid hr.symm
      clear hr
      have hz2' := hb2.size
      have hrx := Lib.hid (row_of Hc.out)
      have hry := Lib.hid (row_of Ho.out)
      have hn60 : n ≤ 60 := by have := hrx.out.1; have := Hlx.out; omega
      have Ht := Lib.hid (show tallyE xs ys = if xs.length ≠ ys.length then 15 else if reachF (totF xs) (totF ys) = false then 14 else 0 by
        unfold tallyE
        rw [rowsF_is, if_neg (show ¬ rowF xs ≠ 0 by rw [Hc.out]; simp), if_neg (by rw [Ho.out]; simp)])
      by_cases hnm : n = m
      case neg =>
        have Hr := Lib.hid (show tallyE xs ys = 15 by rw [Ht.out, if_pos (by rw [Hlx.out, Hly.out]; exact hnm)])
        go_wp2_with (fail)
        go_ret
        exact ⟨ret_int Hr.out.symm, hb2⟩
      case pos =>
        subst hnm
        go_wp2_with (fail)
        refine (rSums_any w2 B A n c xs (hx.below hb2 hB) (by omega) (by omega) (fun j hj => by have := preS_bound hrx.out j (by rw [Hlx.out]; exact hj); omega)).mono ?_
        rintro e w3 ⟨v1, rfl, hs1, hb3⟩
        obtain ⟨A3, c3, rfl, -, i1⟩ := OwnZ.row hs1 (by rw [preL_len]; omega)
        have hb4 := hb2.trans (hb3.mono hz2')
        have hz4 := hb4.size
        clear hb1 hb3 hs1
        go_wp2_with (fail)
        refine (rSums_any w3 B2 A2 n c2 ys (hy.below hb4 hB2) (by omega) (by omega) (fun j hj => by have := preS_bound hry.out j (by rw [Hly.out]; exact hj); omega)).mono ?_
        rintro e w4 ⟨v2, rfl, hs2, hb5⟩
        obtain ⟨A4, c4, rfl, -, i2⟩ := OwnZ.row hs2 (by rw [preL_len]; omega)
        have i1 := i1.below hb5 (Nat.le_refl _)
        have hb6 := hb4.trans (hb5.mono hz4)
        clear hb5 hb4 hs2
        rw [preL_len] at i1 i2 ⊢
        obtain ⟨K, hK⟩ : ∃ K, K = n + 1 := ⟨_, rfl⟩
        rw [preL_len, ← hK]
        rw [← hK] at i1 i2
        have HK := Lib.hid hK
        obtain ⟨b1, o1, rfl, -, -⟩ := i1.cell (k := 0) (by omega)
        obtain ⟨b2, o2, rfl, -, -⟩ := i2.cell (k := 0) (by omega)
        have hK61 : K ≤ 61 := by omega
        clear hK
        go_wp2_with (fail)
        go_loopg [7] K (fun g7 v7 wr => ∃ k q : Nat, (k ≤ K ∧ g7 = K - k ∧ v7 = .int .i64 (k : Int)) ∧ Hid (wr = w4.drewN q) ∧ Hid (∀ i, i < k → preS ys i ≤ preS xs i))
        case atStart => exact ⟨0, 0, ⟨by omega, rfl, rfl⟩, Lib.hid rfl, Lib.hid fun i h => by omega⟩
        case round =>
          obtain ⟨k, q, ⟨hk, rfl, rfl⟩, hq, hn⟩ := hrel
          by_cases hlt : k < K
          case neg =>
            have Hr := Lib.hid (show tallyE xs ys = 0 by
              rw [Ht.out, if_neg (by rw [Hlx.out, Hly.out]; simp), if_neg]
              rw [totF_pre, totF_pre, reach_true fun i hi => ?_]
              · simp
              · rw [preL_len] at hi
                rw [preL_get (by omega), preL_get (by rw [Hlx.out]; rw [Hly.out] at hi; omega)]
                exact hn.out i (by rw [Hly.out] at hi; have := HK.out; omega))
            go_wp2_with (fail)
            go_ret
            exact ⟨ret_int Hr.out.symm, by rw [hq.out]; exact hb6.trans (below_drewN _ _)⟩
          case pos =>
            have i1' : IntsAt wr w3.heap.size (some ⟨b1, o1, none⟩) K (preL xs n) := by rw [hq.out]; exact i1.drewN _
            have i2' : IntsAt wr w4.heap.size (some ⟨b2, o2, none⟩) K (preL ys n) := by rw [hq.out]; exact i2.drewN _
            obtain ⟨b3, o3, e3, -, c1⟩ := i1'.cell (k := k) hlt
            cases e3
            obtain ⟨b4, o4, e4, -, c2⟩ := i2'.cell (k := k) hlt
            cases e4
            rw [preL_get (by have := HK.out; omega)] at c1 c2
            obtain ⟨x1, hx1⟩ : ∃ x, x = preS xs k := ⟨_, rfl⟩
            obtain ⟨x2, hx2⟩ : ∃ x, x = preS ys k := ⟨_, rfl⟩
            rw [← hx1] at c1
            rw [← hx2] at c2
            have hwk : IntKind.i64.wrap ((k : Int) + 1) = (k : Int) + 1 := by rw [IntKind.wrap_i64]; omega
            have Hx := Lib.hid (And.intro hx1 hx2)
            clear hx1 hx2 i1' i2'
            by_cases hov : x1 < x2
            · have Hr := Lib.hid (show tallyE xs ys = 14 by
                obtain ⟨e1, e2⟩ := Hx.out
                rw [Ht.out, if_neg (by rw [Hlx.out, Hly.out]; simp), totF_pre, totF_pre, if_pos]
                refine reach_false (k := k) (by rw [preL_len, Hly.out]; have := HK.out; omega) ?_
                rw [preL_get (by rw [Hlx.out]; have := HK.out; omega), preL_get (by rw [Hly.out]; have := HK.out; omega), ← e1, ← e2]
                exact hov)
              go_wp2
              go_quiet (fail)
              go_wp2
              go_ret
              exact ⟨ret_int Hr.out.symm, by rw [hq.out]; exact (hb6.trans (below_drewN _ _)).trans (below_drewN _ _)⟩
            · have Hov := Lib.hid hov
              go_wp2
              go_quiet (fail)
              go_wp2
              go_roundg (K - (k + 1))
              case measure => omega
              case rel =>
                refine ⟨k + 1, _, ⟨by omega, rfl, by simp⟩, Lib.hid (by rw [hq.out]; simp only [World.drewN_drewN]; rfl), Lib.hid fun j b => ?_⟩
                rcases Nat.lt_succ_iff_lt_or_eq.1 b with h | rfl
                · exact hn.out j h
                · obtain ⟨e1, e2⟩ := Hx.out
                  rw [← e1, ← e2]
                  have := Hov.out
                  omega

/-! ### Lazy -/
theorem own_drew {W W' : World} {B n : Nat} {v : Value} {xs : List Value} {q : Nat} (h : W.ownsRow B 2 1 v n xs) (e : W' = W.drewN q) : W'.ownsRow B 2 1 v n xs := by
  subst e
  exact h
def lazU (a l : List Int) (t : Nat) : Nat → Int
  | 0 => a[t]?.getD 0
  | u + 1 => min (lazU a l t u) (a[u]?.getD 0 + l[t - u]?.getD 0)
def lazF (a l : List Int) (t : Nat) : Int := lazU a l t t
def lazL (a l : List Int) (k : Nat) : List Int := (List.range k).map (lazF a l)
theorem lazL_len (a l : List Int) (k : Nat) : (lazL a l k).length = k := by simp [lazL]
theorem lazL_succ (a l : List Int) (k : Nat) : lazL a l (k + 1) = lazL a l k ++ [lazF a l k] := by
  unfold lazL
  rw [List.range_succ, List.map_append]
  rfl
theorem lazL_get {a l : List Int} {k j : Nat} (h : j < k) : (lazL a l k)[j]?.getD 0 = lazF a l j := by simp [lazL, h]
theorem lazU_spec (a l : List Int) (t : Nat) : ∀ u, u ≤ t → (lazU a l t u ≤ a[t]?.getD 0 ∧ ∀ v, v < u → lazU a l t u ≤ a[v]?.getD 0 + l[t - v]?.getD 0) ∧ (lazU a l t u = a[t]?.getD 0 ∨ ∃ v, v < u ∧ lazU a l t u = a[v]?.getD 0 + l[t - v]?.getD 0)
  | 0, _ => ⟨⟨Int.le_refl _, fun v h => by omega⟩, .inl rfl⟩
  | u + 1, h => by
    obtain ⟨⟨h1, h2⟩, h3⟩ := lazU_spec a l t u (by omega)
    rw [lazU, Int.min_def]
    split
    · refine ⟨⟨h1, fun v hv => ?_⟩, ?_⟩
      · rcases Nat.lt_succ_iff_lt_or_eq.1 hv with h | rfl
        · exact h2 v h
        · assumption
      · rcases h3 with h3 | ⟨v, hv, e⟩
        · exact .inl h3
        · exact .inr ⟨v, by omega, e⟩
    · refine ⟨⟨by omega, fun v hv => ?_⟩, .inr ⟨u, by omega, rfl⟩⟩
      rcases Nat.lt_succ_iff_lt_or_eq.1 hv with h | rfl
      · have := h2 v h
        omega
      · exact Int.le_refl _
theorem lazF_min {a l : List Int} (h0 : l[0]?.getD 0 = 0) (t : Nat) : lazF a l t = minP 0 t fun p => a[t - p]?.getD 0 + l[p]?.getD 0 := by
  obtain ⟨⟨h1, h2⟩, h3⟩ := lazU_spec a l t t (Nat.le_refl _)
  refine (minP_eq (Nat.zero_le _) ?_ fun p _ hp => ?_).symm
  · rcases h3 with h3 | ⟨v, hv, e⟩
    · exact ⟨0, Nat.le_refl _, Nat.zero_le _, by rw [Nat.sub_zero, h0, Int.add_zero]; exact h3⟩
    · exact ⟨t - v, Nat.zero_le _, by omega, by rw [show t - (t - v) = v by omega]; exact e⟩
  · by_cases hp0 : p = 0
    · subst hp0
      rw [Nat.sub_zero, h0, Int.add_zero]
      exact h1
    · have := h2 (t - p) (by omega)
      rw [show t - (t - p) = p by omega] at this
      exact this
def Small (xs : List Int) : Prop := ∀ j : Nat, -1000000000000 ≤ xs[j]?.getD 0 ∧ xs[j]?.getD 0 ≤ 1000000000000
theorem lazU_bound {a l : List Int} (ha : Small a) (hl : Small l) (t : Nat) : ∀ u, -2000000000000 ≤ lazU a l t u ∧ lazU a l t u ≤ 1000000000000
  | 0 => by
    have := ha t
    rw [lazU]
    omega
  | u + 1 => by
    have h := lazU_bound ha hl t u
    have h1 := ha u
    have h2 := hl (t - u)
    rw [lazU, Int.min_def]
    split <;> omega
set_option maxRecDepth 100000 in
set_option maxHeartbeats 8000000 in
theorem rLazy_any (w : World) (B B2 : Nat) (A A2 : Option Addr) (n c m c2 : Nat) (a l : List Int) (hx : IntsAt w B A n a) (hB : B ≤ w.heap.size) (hy : IntsAt w B2 A2 m l) (hB2 : B2 ≤ w.heap.size) (hnm : n ≤ m) (hn : n ≤ 1000) (ha : Small a) (hl : Small l) :
    Calls Try.prog 57 #[.slice A n c, .slice A2 m c2] w fun e w' => ∃ v, e = .returned v ∧ w'.ownsRow w.heap.size 2 1 v n ((lazL a l n).map (.int .i64)) ∧ Below w.heap.size w w' := by
  obtain ⟨i0, hi, hz0, hz1, hz2⟩ := info_parts infoI64
  have hm := hx.small
  have hm2 := hy.small
  have Hs := Lib.hid (And.intro ha hl)
  clear ha hl
  go_enter Try.func57, Try.ntmps57
  go_wp2_with (fail)
  go_loopg [5, 6] n (fun g v5 v6 wr => ∃ j : Nat, (j ≤ n ∧ g = n - j ∧ v6 = .int .i64 (j : Int)) ∧ wr.ownsRow w.heap.size 2 1 v5 j ((lazL a l j).map (.int .i64)) ∧ Below w.heap.size w wr)
  case atStart => exact ⟨0, ⟨by omega, rfl, rfl⟩, World.ownsRow_nil _ _ _ _, Below.refl _ _⟩
  case round =>
    obtain ⟨t, ⟨ht, rfl, rfl⟩, hrow, hb⟩ := hrel
    obtain ⟨wo, rfl⟩ : ∃ wo, wo = wr := ⟨_, rfl⟩
    have hsz := hb.size
    by_cases hlt : t < n
    case neg =>
      obtain rfl : t = n := by omega
      go_wp2
      refine bodyPost_ret (results_tmp rfl _ _ _) rfl ⟨_, rfl, ?_, hb⟩
      exact hrow
    case pos =>
      have hwt : IntKind.i64.wrap ((t : Int) + 1) = (t : Int) + 1 := by rw [IntKind.wrap_i64]; omega
      obtain ⟨b1, o1, rfl, -, c1⟩ := (hx.below hb hB).cell hlt
      obtain ⟨b2, o2, rfl, -, -⟩ := (hy.below hb hB2).cell (k := t) (by omega)
      obtain ⟨x0, hx0⟩ : ∃ x, x = a[t]?.getD 0 := ⟨_, rfl⟩
      rw [← hx0] at c1
      have Hx0 := Lib.hid (show x0 = lazU a l t 0 from hx0)
      clear hx0
      go_wp2_with (fail)
      clear c1
      go_loopg [7, 8] t (fun g v7 v8 wr => ∃ u q : Nat, (u ≤ t ∧ g = t - u ∧ v8 = .int .i64 (u : Int) ∧ v7 = .int .i64 (lazU a l t u)) ∧ Hid (wr = wo.drewN q))
      case atStart => exact ⟨0, 0, ⟨by omega, rfl, rfl, by rw [Hx0.out]⟩, Lib.hid rfl⟩
      case round =>
        obtain ⟨u, q, ⟨hu, rfl, rfl, rfl⟩, hq⟩ := hrel
        have hwu : IntKind.i64.wrap ((u : Int) + 1) = (u : Int) + 1 := by rw [IntKind.wrap_i64]; omega
        have hb2 : Below w.heap.size w wr := by rw [hq.out]; exact hb.trans (below_drewN _ _)
        have hcur := lazU_bound Hs.out.1 Hs.out.2 t u
        by_cases hut : u < t
        case neg =>
          obtain rfl : u = t := by omega
          have hrow2 := own_drew hrow hq.out
          have hsz2 : w.heap.size ≤ wr.heap.size := hb2.size
          obtain ⟨y, hy'⟩ : ∃ y, y = lazU a l u u := ⟨_, rfl⟩
          rw [← hy']
          have Hy := Lib.hid hy'
          clear hy' hrow hb hsz hq hcur
          go_wp2_with (at_builtin; refine wpList_append_own_at _ rfl _ _ 22 rfl w.heap.size 2 i0 (.int .i64 0) 1 8 Try.underlying22 hi hz0 hz1 hz2 rfl (by decide) _ _ _ rfl (hrow2.alloc _) ⟨wr.heap.size, 0, none⟩ 1 1 [.int .i64 y] rfl rfl (cell_one_new _ _ _) (by simp [Value.oneCell']) (by simp only [maxLen]; omega) (by omega) (by simp; omega) ?_; intro v' w1 hown' hgrow _ hat)
          go_roundg (n - (u + 1))
          case measure => omega
          case rel =>
            refine ⟨u + 1, ⟨by omega, rfl, by simp⟩, ?_, (hb2.alloc hsz2 _).trans ((Below.refl _ _).grown hgrow (by simp; omega) (fun r e => (hrow2.lt r e).1))⟩
            rw [lazL_succ, show lazF a l u = y from Hy.out.symm, List.map_append]
            exact hown'
        case pos =>
          obtain ⟨b3, o3, e3, -, c1⟩ := (hx.below hb2 hB).cell (k := u) (by omega)
          cases e3
          obtain ⟨b4, o4, e4, -, c2⟩ := (hy.below hb2 hB2).cell (k := t - u) (by omega)
          cases e4
          have s1 := Hs.out.1 u
          have s2 := Hs.out.2 (t - u)
          have w1 : IntKind.i64.wrap ((t : Int) - (u : Int)) = ((t - u : Nat) : Int) := by rw [IntKind.wrap_i64]; omega
          have w2 : IntKind.i64.wrap (a[u]?.getD 0 + l[t - u]?.getD 0) = a[u]?.getD 0 + l[t - u]?.getD 0 := by rw [IntKind.wrap_i64]; omega
          have hnx : lazU a l t (u + 1) = min (lazU a l t u) (a[u]?.getD 0 + l[t - u]?.getD 0) := rfl
          rw [Int.min_def] at hnx
          have ltu : t - u < m := by omega
          have lun : u < n := by omega
          obtain ⟨x1, hx1⟩ : ∃ x, x = a[u]?.getD 0 := ⟨_, rfl⟩
          obtain ⟨x2, hx2⟩ : ∃ x, x = l[t - u]?.getD 0 := ⟨_, rfl⟩
          obtain ⟨cur, hcu⟩ : ∃ x, x = lazU a l t u := ⟨_, rfl⟩
          obtain ⟨d, hd⟩ : ∃ d, d = t - u := ⟨_, rfl⟩
          rw [← hx1] at c1 w2 hnx
          rw [← hx2] at c2 w2 hnx
          rw [← hcu] at hnx ⊢
          rw [← hd] at c2 w1 ltu
          obtain ⟨y, hy'⟩ : ∃ y, y = x1 + x2 := ⟨_, rfl⟩
          rw [← hy'] at hnx
          have w2 : IntKind.i64.wrap (x1 + x2) = y := by rw [hy']; exact w2
          have Hn := Lib.hid hnx
          have Hye := Lib.hid hy'
          clear hx1 hx2 hcu hd hy' hnx s1 s2 hcur
          by_cases hc : cur ≤ y
          · have hc' : ¬ y < cur := by omega
            have Hc := Lib.hid hc
            go_wp2
            go_quiet (fail)
            go_wp2
            go_roundg (t - (u + 1))
            case measure => omega
            case rel => exact ⟨u + 1, _, ⟨by omega, rfl, by simp, by rw [Hn.out, if_pos (by have := Hc.out; omega)]⟩, Lib.hid (by rw [hq.out]; simp only [World.drewN_drewN]; rfl)⟩
          · have hc' : y < cur := by omega
            have Hc := Lib.hid hc
            go_wp2
            go_quiet (fail)
            go_wp2
            go_roundg (t - (u + 1))
            case measure => omega
            case rel => exact ⟨u + 1, _, ⟨by omega, rfl, by simp, by rw [Hn.out, if_neg (by have := Hc.out; omega), Hye.out]⟩, Lib.hid (by rw [hq.out]; simp only [World.drewN_drewN]; rfl)⟩
end Go.Proofs.Ytlgibckhkdggdaa
