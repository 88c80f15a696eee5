/- Parts of a proof: TK TL. -/
import Derived.Test.YtlgibckhkdggdaaH21

/- lag: strong, and pure facts of LagBehind. -/
namespace Go.Proofs.Ytlgibckhkdggdaa
open Go.RowKit Go.Shelf

attribute [local go_sem] Oper.semAt_some

set_option maxHeartbeats 4000000 in
theorem strong_any (w : World) (A A2 : Option Addr) (n c K c2 : Nat) (xs : List Int) (css : List (List Int)) (hx : IntsAt w w.heap.size A n xs) (hy : RowsAt w w.heap.size A2 K css) :
    Calls Try.prog 46 #[.slice A n c, .slice A2 K c2] w fun e w' => ∃ b, e = .returned (.bool b) ∧ (b = true → askedR xs css = 0) ∧ Below w.heap.size w w' := by
  have hm := hx.small
  have hm2 := hy.2.1
  go_enter Try.func46, Try.ntmps46
  go_wp2_with (fail)
  refine (fine_any w _ A n c xs hx).mono ?_
  rintro e w1 ⟨rfl, hb⟩
  obtain ⟨bf, hbf⟩ : ∃ b, b = fineF xs := ⟨_, rfl⟩
  rw [← hbf]
  clear hbf
  cases bf with
  | false =>
    go_wp2_with (fail)
    exact bodyPost_ret (results_tmp rfl _ _ _) rfl ⟨false, rfl, by simp, hb⟩
  | true =>
    obtain ⟨bw, hbw⟩ := wide_any w1 w.heap.size A2 K c2 css (hy.below hb (Nat.le_refl _))
    cases bw with
    | true =>
      go_wp2_with (fail)
      refine hbw.mono ?_
      rintro e w2 ⟨rfl, hw⟩
      subst hw
      clear hbw
      go_wp2_with (fail)
      exact bodyPost_ret (results_tmp rfl _ _ _) rfl ⟨false, rfl, by simp, hb⟩
    | false =>
      go_wp2_with (fail)
      refine hbw.mono ?_
      rintro e w2 ⟨rfl, hw⟩
      subst hw
      clear hbw
      go_wp2_with (fail)
      refine (rAsked_any _ _ _ A A2 n c K c2 xs css (hx.below hb (Nat.le_refl _)) hb.size (hy.below hb (Nat.le_refl _)) hb.size).mono ?_
      rintro e w3 ⟨rfl, hb3⟩
      have hbf := hb.trans (hb3.mono hb.size)
      clear hb hb3
      obtain ⟨r, hr⟩ : ∃ r, r = askedR xs css := ⟨_, rfl⟩
      rw [← hr]
      have Hr := Lib.hid hr
      clear hr
      go_wp2_with (fail)
      exact bodyPost_ret (results_tmp rfl _ _ _) rfl ⟨decide (r = 0), rfl, fun h => by rw [← Hr.out]; exact of_decide_eq_true h, hbf⟩

/-- The row behind some shafts. -/
def goL (cs : List Int) (css : List (List Int)) (bs ms : List Int) (m : Nat) : Nat → List Int
  | 0 => kepL cs bs m
  | i + 1 => addgL (css[i]?.getD []) (goL cs css bs ms m i) ms m
theorem goL_len (cs : List Int) (css : List (List Int)) (bs ms : List Int) (m : Nat) : ∀ i, (goL cs css bs ms m i).length = m
  | 0 => kepL_len _ _ _
  | _ + 1 => mapL_len _ _
structure GoOk (cs : List Int) (css : List (List Int)) (bs ms : List Int) (m i : Nat) : Prop where
  row : rowF (goL cs css bs ms m i) = 0
  top : ∀ j, j ≤ m → preS (goL cs css bs ms m i) j ≤ kepT cs bs j
  low : ∀ j, j ≤ m → ∃ u, u ≤ j ∧ kepT cs bs u + (if i = 0 then 0 else lvl css (i - 1) (j - u)) ≤ preS (goL cs css bs ms m i) j ∧ (i = 0 → u = j)
theorem go_ok {cs : List Int} {css : List (List Int)} {bs : List Int} (ms : List Int) {m : Nat} (hm : m ≤ 20) (hc : curveF cs = 0) (hch : chainF css = 0) (hb : ∀ j : Nat, 0 ≤ bs[j]?.getD 0 ∧ bs[j]?.getD 0 ≤ 255) : ∀ i, i ≤ css.length → GoOk cs css bs ms m i
  | 0, _ => ⟨kep_row hc hb (by omega), fun j hj => by rw [goL, preS_kep _ _ _ _ hj]; exact Int.le_refl _, fun j hj => ⟨j, Nat.le_refl _, by rw [goL, preS_kep _ _ _ _ hj, if_pos rfl]; omega, fun _ => rfl⟩⟩
  | i + 1, hi => by
    obtain ⟨h1, h2, h3⟩ := go_ok ms hm hc hch hb i (by omega)
    have hl := goL_len cs css bs ms m i
    have hr := row_of h1
    have hci := chain_curves hch (j := i) (by omega)
    have hsp : ∀ j, j ≤ m → _ := fun j hj => addg_spec (xs := css[i]?.getD []) ms hr j (by rw [hl]; exact hj)
    have hpre : ∀ j, j ≤ m → preS (goL cs css bs ms m (i + 1)) j = addgF (css[i]?.getD []) (goL cs css bs ms m i) ms j := fun j hj => preS_addg ms hj
    refine ⟨?_, fun j hj => ?_, fun j hj => ?_⟩
    · refine rowF_zero (by rw [goL_len]; omega) fun j hj => ?_
      rw [goL_len] at hj
      rw [show goL cs css bs ms m (i + 1) = addgL (css[i]?.getD []) (goL cs css bs ms m i) ms m from rfl]
      unfold addgL
      rw [mapL_get hj]
      have g1 := hsp j (by omega)
      have g2 := hsp (j + 1) (by omega)
      have g3 := h2 (j + 1) (by omega)
      have g4 := kepT_bound (nums_of hc) (ups_of hc) hb (j + 1)
      have g5 := g1.2.2.1 (by rw [hl]; exact hj)
      omega
    · rw [hpre j hj]
      have g1 := (hsp j hj).2.1
      have g2 := h2 j hj
      omega
    · have g1 := (hsp j hj).2.2.2
      obtain ⟨p, hp, e⟩ := addF_mem (totF (goL cs css bs ms m i)) (css[i]?.getD []) j
      rw [e, totF_pre, preL_get (by omega)] at g1
      obtain ⟨u, hu, h4, h5⟩ := h3 (j - p) (by omega)
      refine ⟨u, by omega, ?_, by omega⟩
      rw [hpre j hj, if_neg (by omega), show i + 1 - 1 = i by omega]
      by_cases h0 : i = 0
      · subst h0
        obtain rfl := h5 rfl
        rw [if_pos rfl] at h4
        rw [show j - (j - p) = p by omega]
        show kepT cs bs (j - p) + leastF (css[0]?.getD []) p ≤ _
        omega
      · rw [if_neg h0] at h4
        have h6 : lvl css i (j - u) ≤ leastF (css[i]?.getD []) p + lvl css (i - 1) (j - p - u) := by
          rw [lvl_pred css (by omega)]
          have := minP_le (lo := 0) (M := j - u) (fun p => leastF (css[i]?.getD []) p + lvl css (i - 1) (j - u - p)) (p := p) (Nat.zero_le _) (by omega)
          rw [show j - u - p = j - p - u by omega] at this
          exact this
        omega
theorem chain_pos {css : List (List Int)} (h : chainF css = 0) : 1 ≤ css.length ∧ css.length ≤ 3 := by
  unfold chainF at h
  split at h
  · cases h
  · omega
theorem beh_ok {cs : List Int} {css : List (List Int)} {bs : List Int} (ms : List Int) {m : Nat} (hm : m ≤ 20) (hA : askedR cs css = 0) (hb : ∀ j : Nat, 0 ≤ bs[j]?.getD 0 ∧ bs[j]?.getD 0 ≤ 255) {k t : Nat} (hk : k ≤ t) (ht : t ≤ m) : preS (goL cs css bs ms m css.length) t - preS (goL cs css bs ms m css.length) (t - k) ≤ behF cs css k := by
  obtain ⟨hc, hch, -⟩ := asked_fair hA
  have hg := go_ok (bs := bs) ms hm hc hch hb css.length (Nat.le_refl _)
  have hn := chain_pos hch
  have h1 := hg.top t ht
  obtain ⟨u, hu, h2, -⟩ := hg.low (t - k) (by omega)
  rw [if_neg (by omega)] at h2
  have h3 := (kep_keeps (nums_of hc) (ups_of hc) hb t).1 u (by omega)
  rw [behind_same hA (by omega)]
  have h4 := (maxZ_spec (fun v => mst cs (k + v) - lvl css (css.length - 1) v) 181).1.2 (t - k - u) (by omega)
  rw [show k + (t - k - u) = t - u by omega] at h4
  omega
theorem beh_most {cs : List Int} {css : List (List Int)} (hA : askedR cs css = 0) {k : Nat} (hk : k ≤ 20) : mst cs k ≤ behF cs css k := by
  rw [behind_same hA hk]
  have h4 := (maxZ_spec (fun v => mst cs (k + v) - lvl css (css.length - 1) v) 181).1.2 0 (by omega)
  simp only [Nat.add_zero, lvl_zero] at h4
  omega
theorem beh_up {cs : List Int} {css : List (List Int)} (hA : askedR cs css = 0) {k : Nat} (hk : k + 1 ≤ 20) : behF cs css k ≤ behF cs css (k + 1) := by
  obtain ⟨hc, hch, -⟩ := asked_fair hA
  rw [behind_same hA (by omega), behind_same hA hk]
  obtain ⟨⟨a1, a2⟩, a3⟩ := maxZ_spec (fun v => mst cs (k + v) - lvl css (css.length - 1) v) 181
  obtain ⟨⟨b1, b2⟩, -⟩ := maxZ_spec (fun v => mst cs (k + 1 + v) - lvl css (css.length - 1) v) 181
  rcases a3 with e | ⟨v, hv, e⟩
  · rw [e]
    exact b1
  · rw [e]
    have h1 := b2 v hv
    have h2 := mst_mono (nums_of hc) (ups_of hc) (show k + v ≤ k + 1 + v by omega)
    omega
theorem behR_get {cs : List Int} {css : List (List Int)} {j : Nat} (h : j < cs.length) : (behR cs.length cs css cs.length)[j]?.getD 0 = behF cs css (j + 1) := by simp [behR, h]
theorem beh_bound {cs : List Int} {css : List (List Int)} (hA : askedR cs css = 0) {k : Nat} (hk : k ≤ 20) : 0 ≤ behF cs css k ∧ behF cs css k ≤ 1000000 := by
  obtain ⟨hc, hch, -⟩ := asked_fair hA
  rw [behind_same hA hk]
  obtain ⟨⟨a1, -⟩, a3⟩ := maxZ_spec (fun v => mst cs (k + v) - lvl css (css.length - 1) v) 181
  refine ⟨a1, ?_⟩
  rcases a3 with e | ⟨v, hv, e⟩
  · omega
  · rw [e]
    have h1 := mst_100 hc (k + v)
    have h2 := (lvl_bound (fun j hj => nums_of (chain_curves hch hj)) (css.length - 1) v (by have := chain_pos hch; omega)).1
    omega
end Go.Proofs.Ytlgibckhkdggdaa

/- lag: LagBehind. -/
namespace Go.Proofs.Ytlgibckhkdggdaa
open Go.RowKit Go.Shelf

attribute [local go_sem] Oper.semAt_some

set_option maxRecDepth 100000 in
set_option maxHeartbeats 32000000 in
theorem LagBehind_any (w : World) (A A2 A3 A4 : Option Addr) (n c K c2 m c3 l c4 : Nat) (xs : List Int) (css : List (List Int)) (bs ms : List Int) (hx : IntsAt w w.heap.size A n xs) (hy : RowsAt w w.heap.size A2 K css) (hz : U8At w w.heap.size A3 m bs) (hq : U8At w w.heap.size A4 l ms) :
    Calls Try.prog 13 #[.slice A n c, .slice A2 K c2, .slice A3 m c3, .slice A4 l c4] w fun e w' => e = .returned (.bool true) ∧ Below w.heap.size w w' := by
  have hm1 := hx.small
  have hm2 := hy.2.1
  have hm3 := hz.small
  have hm4 := hq.small
  have Hlx := Lib.hid hx.len
  have Hlk := Lib.hid hy.1
  go_enter Try.func13, Try.ntmps13
  go_wp2_with (fail)
  refine (strong_any w A A2 n c K c2 xs css hx hy).mono ?_
  rintro e w1 ⟨b, rfl, hA, B1⟩
  cases b with
  | false =>
    clear hA
    go_wp2_with (fail)
    refine (Works_any w1).mono ?_
    rintro e wl ⟨rfl, hb2⟩
    go_wp2_with (fail)
    exact bodyPost_ret (results_tmp rfl _ _ _) rfl ⟨rfl, B1.trans (hb2.mono B1.size)⟩
  | true =>
    have HA := Lib.hid (hA rfl)
    clear hA
    by_cases h20 : 20 < (m : Int)
    · go_wp2_with (fail)
      refine (Works_any w1).mono ?_
      rintro e wl ⟨rfl, hb2⟩
      go_wp2_with (fail)
      exact bodyPost_ret (results_tmp rfl _ _ _) rfl ⟨rfl, B1.trans (hb2.mono B1.size)⟩
    by_cases h21 : 20 < (l : Int)
    · go_wp2_with (fail)
      refine (Works_any w1).mono ?_
      rintro e wl ⟨rfl, hb2⟩
      go_wp2_with (fail)
      exact bodyPost_ret (results_tmp rfl _ _ _) rfl ⟨rfl, B1.trans (hb2.mono B1.size)⟩
    have hm20 : m ≤ 20 := by omega
    have HC := Lib.hid (show curveF xs = 0 ∧ chainF css = 0 from ⟨(asked_fair HA.out).1, (asked_fair HA.out).2.1⟩)
    have hn6 : 1 ≤ n ∧ n ≤ 6 := by have := curve_nums HC.out.1; rw [Hlx.out] at this; exact ⟨this.1, this.2.1⟩
    have hK3 : 1 ≤ K ∧ K ≤ 3 := by have := chain_pos HC.out.2; rw [Hlk.out] at this; exact this
    have HG := Lib.hid (fun i (hi : i ≤ K) => go_ok (bs := bs) ms hm20 HC.out.1 HC.out.2 hz.bound i (by rw [Hlk.out]; exact hi))
    have hbo := fun k t (hk : k ≤ t) (ht : t ≤ m) => beh_ok (bs := bs) ms hm20 HA.out hz.bound hk ht
    rw [Hlk.out] at hbo
    have HB := Lib.hid hbo
    clear hbo
    go_wp2_with (fail)
    refine (Behind_any w1 _ _ A A2 n c K c2 xs css (hx.below B1 (Nat.le_refl _)) B1.size (hy.below B1 (Nat.le_refl _)) B1.size).mono ?_
    rintro e w2 ⟨hP, hb⟩
    obtain ⟨g9, rfl, r9⟩ : ∃ g, e = .returned (.tuple #[.slice (some ⟨g, 0, none⟩) n n, .int .i64 0]) ∧ RowZ w2 g (behR xs.length xs css xs.length) := by
      rcases hP with ⟨h, -⟩ | ⟨-, g, -, e, hr⟩
      · rw [asked_same] at h
        exact absurd HA.out h
      · rw [Hlx.out] at e
        exact ⟨g, e, hr⟩
    have B2 := B1.trans (hb.mono B1.size)
    have I9 := Lib.hid (r9.ints (show (behR xs.length xs css xs.length).length = n by rw [behR_len]; exact Hlx.out) (by omega))
    clear hP hb B1 r9
    go_wp2_with (fail)
    refine (Keeping_any w2 _ _ A A3 n c m c3 xs bs (hx.below B2 (Nat.le_refl _)) B2.size (hz.below B2 (Nat.le_refl _)) B2.size (nums_of HC.out.1) (ups_of HC.out.1) (by omega)).mono ?_
    rintro e w3 ⟨v11, rfl, hk, hb⟩
    obtain ⟨A11, c11, rfl, hc11, i11⟩ := own_form hk (by omega)
    have B3 := B2.trans (hb.mono B2.size)
    have hB3z := B3.size
    have I9 := Lib.hid (ints_up I9.out hb)
    have I11 := Lib.hid i11
    clear hb B2 hk i11
    go_wp2_with (fail)
    go_loopg [11, 12] K (fun g' v11 v12 wr => ∃ (i : Nat) (A5 : Option Addr) (c5 : Nat), (i ≤ K ∧ g' = K - i ∧ v12 = .int .i64 (i : Int) ∧ v11 = .slice A5 m c5 ∧ m ≤ c5) ∧ Hid (IntsAt wr wr.heap.size A5 m (goL xs css bs ms m i)) ∧ Below w3.heap.size w3 wr)
    case atStart => exact ⟨0, A11, c11, ⟨by omega, rfl, rfl, rfl, hc11⟩, I11, Below.refl _ _⟩
    case round =>
      obtain ⟨i, A5, c5, ⟨hi, rfl, rfl, rfl, hc5⟩, I5, hb⟩ := hrel
      have hbw := B3.trans (hb.mono hB3z)
      have hsz := hbw.size
      by_cases hlt : i < K
      case pos =>
        obtain ⟨b2, o2, cs, A6, m6, c6, rfl, hb2, hcs, hcell, hci⟩ := (hy.below hbw (Nat.le_refl _)).at hlt
        have hb2w : b2 < wr.heap.size := by omega
        have hwi : IntKind.i64.wrap ((i : Int) + 1) = (i : Int) + 1 := by rw [IntKind.wrap_i64]; omega
        have Hci := Lib.hid hci
        have Hcs := Lib.hid (show css[i]?.getD [] = cs by rw [hcs]; rfl)
        clear hci hcs
        go_wp2_with (fail)
        refine (Adding_any wr _ _ _ A6 A5 A4 m6 c6 m c5 l c4 cs (goL xs css bs ms m i) ms Hci.out hsz I5.out (Nat.le_refl _) (hq.below hbw (Nat.le_refl _)) hsz (by have := chain_curves HC.out.2 (j := i) (by rw [Hlk.out]; exact hlt); rw [Hcs.out] at this; exact this) (row_of (HG.out i hi).row)).mono ?_
        rintro e w4 ⟨v7, rfl, hk, hb4⟩
        obtain ⟨A7, c7, rfl, hc7, i7⟩ := own_form hk (by omega)
        rw [show addgL cs (goL xs css bs ms m i) ms m = goL xs css bs ms m (i + 1) by rw [goL, Hcs.out]] at i7
        have I7 := Lib.hid i7
        have hbn : Below w3.heap.size w3 w4 := hb.trans (hb4.mono hb.size)
        clear hk hb4 i7 hb hbw hcell
        go_wp2_with (fail)
        go_roundg (K - (i + 1))
        case measure => omega
        case rel => exact ⟨i + 1, A7, c7, ⟨by omega, rfl, by simp, rfl, hc7⟩, I7, hbn⟩
      case neg =>
        obtain rfl : i = K := by omega
        have I9 := Lib.hid (ints_up I9.out hb)
        have hrow := Lib.hid (row_of (HG.out i hi).row)
        have hgl := Lib.hid (goL_len xs css bs ms m i)
        clear I11 hb HG
        go_wp2_with (fail)
        refine (rSums_any wr _ A5 m c5 (goL xs css bs ms m i) I5.out (Nat.le_refl _) (by omega) (fun j hj => by have := preS_bound hrow.out j (by rw [hgl.out]; exact hj); omega)).mono ?_
        rintro e w4 ⟨v13, rfl, hs, hb⟩
        obtain ⟨A13, c13, rfl, -, i13⟩ := OwnZ.row hs (by rw [preL_len]; omega)
        rw [preL_len] at i13 ⊢
        have B4 := hbw.trans (hb.mono hsz)
        have I9 := Lib.hid (ints_up I9.out hb)
        have I13 := Lib.hid i13
        clear hs hb hbw hsz i13
        go_wp2_with (fail)
        refine (rMosts_any w4 _ A n c n xs (hx.below B4 (Nat.le_refl _)) B4.size (nums_of HC.out.1) (by omega)).mono ?_
        rintro e w5 ⟨v14, rfl, hmo, hb⟩
        obtain ⟨A14, c14, rfl, -, i14⟩ := own_form hmo (by omega)
        have B5 := B4.trans (hb.mono B4.size)
        have I9 := Lib.hid (ints_up I9.out hb)
        have I13 := Lib.hid (ints_up I13.out hb)
        have I14 := Lib.hid i14
        clear hmo hb B4 i14
        obtain ⟨M, hM⟩ : ∃ M, M = m + 1 := ⟨_, rfl⟩
        rw [← hM] at I13 ⊢
        have HM := Lib.hid hM
        have hM21 : M ≤ 21 := by omega
        clear hM
        obtain ⟨N, hN⟩ : ∃ N, N = n + 1 := ⟨_, rfl⟩
        rw [← hN] at I14 ⊢
        have HN := Lib.hid hN
        clear hN
        go_wp2_with (fail)
        go_loopg [15] n (fun g' v15 wr => ∃ j q : Nat, (j ≤ n ∧ g' = n - j ∧ v15 = .int .i64 ((j + 1 : Nat) : Int)) ∧ Hid (wr = w5.drewN q))
        case atStart => exact ⟨0, 0, ⟨by omega, rfl, rfl⟩, Lib.hid rfl⟩
        case round =>
          obtain ⟨j, q, ⟨hj, rfl, rfl⟩, hq5⟩ := hrel
          obtain ⟨wo, rfl⟩ : ∃ wo, wo = wr := ⟨_, rfl⟩
          obtain ⟨J, hJ⟩ : ∃ J, J = j + 1 := ⟨_, rfl⟩
          rw [← hJ]
          have HJ := Lib.hid hJ
          by_cases hlt : j < n
          case neg =>
            have hJn : ¬ (J : Int) ≤ (n : Int) := by omega
            have hbq : Below w5.heap.size w5 wo := by rw [hq5.out]; exact below_drewN _ _
            have B6 := B5.trans (hbq.mono B5.size)
            clear hJ hlt
            go_wp2_with (fail)
            refine (Works_any wo).mono ?_
            rintro e wl ⟨rfl, hb2⟩
            go_wp2_with (fail)
            exact bodyPost_ret (results_tmp rfl _ _ _) rfl ⟨rfl, B6.trans (hb2.mono B6.size)⟩
          case pos =>
            have hJn : (J : Int) ≤ (n : Int) := by omega
            obtain ⟨b9, o9, e9, -, d9⟩ := (I9.out.drewN q).cell (k := j) hlt
            cases e9
            obtain ⟨b14, o14, rfl, -, d14⟩ := (I14.out.drewN q).cell (k := J) (by have := HN.out; omega)
            rw [← hq5.out] at d9 d14
            rw [Nat.zero_add, behR_get (by rw [Hlx.out]; exact hlt), ← hJ] at d9
            rw [sumsT_get xs (by omega)] at d14
            have hbm := beh_most HA.out (k := J) (by omega)
            have hbb := beh_bound HA.out (k := J) (by omega)
            obtain ⟨y, hye⟩ : ∃ y, y = behF xs css J := ⟨_, rfl⟩
            obtain ⟨z, hze⟩ : ∃ z, z = mst xs J := ⟨_, rfl⟩
            have hup := fun (h : 1 ≤ j) => beh_up HA.out (k := j) (by omega)
            rw [← hJ, ← hye] at hup
            rw [← hye] at d9 hbm hbb
            rw [← hze] at d14 hbm
            have Hye := Lib.hid hye
            have hyz : ¬ y < z := by omega
            have hj1 : IntKind.i64.wrap ((J : Int) - 1) = ((j : Nat) : Int) := by rw [IntKind.wrap_i64]; omega
            have hJ1 : IntKind.i64.wrap ((J : Int) + 1) = ((J + 1 : Nat) : Int) := by rw [IntKind.wrap_i64]; omega
            have hJl : J < N := by have := HN.out; omega
            have hJ0 : 1 ≤ J := by omega
            clear hye hze hbm
            by_cases hj0 : j = 0
            case pos =>
              have hk1 : ¬ (1 : Int) < (J : Int) := by omega
              clear hJ hj0 hup hJ0
              go_wp2
              refine wp_region_quiet_lit (by kernel_rfl) (by kernel_rfl) ?_
              iterate 11 (go_big_quiet_step (fail))
              simp only [show decide (y < z) = false from decide_eq_false (by omega)]
              iterate 3 (go_big_quiet_step (fail))
              simp only [show decide ((1 : Int) < (J : Int)) = false from decide_eq_false (by omega)]
              iterate 13 (go_big_quiet_step (fail))
              refine wpQuiet_nil ?_
              intro _ hw'
              obtain ⟨nq, hw''⟩ := hw'
              subst hw''
              go_wp2_with (fail)
              go_loopg [16] (M - J) (fun g' v16 wr => ∃ t q : Nat, (J ≤ t ∧ (t ≤ M ∨ t = J) ∧ g' = M - t ∧ v16 = .int .i64 (t : Int)) ∧ Hid (wr = w5.drewN q))
              case atStart => exact ⟨J, _, ⟨by omega, .inr rfl, rfl, rfl⟩, Lib.hid (by rw [hq5.out]; simp only [World.drewN_drewN]; rfl)⟩
              case round =>
                obtain ⟨t, q2, ⟨htJ, htM, rfl, rfl⟩, hq6⟩ := hrel
                have hwt : IntKind.i64.wrap ((t : Int) + 1) = (t : Int) + 1 := by rw [IntKind.wrap_i64]; omega
                by_cases htl : t < M
                case neg =>
                  have htl' : ¬ (t : Int) < (M : Int) := by omega
                  go_wp2
                  go_roundg (n - (j + 1))
                  case measure => omega
                  case rel => exact ⟨j + 1, q2, ⟨by omega, rfl, by rw [← HJ.out]; simp⟩, hq6⟩
                case pos =>
                  obtain ⟨b13, o13, e13, -, d1⟩ := (I13.out.drewN q2).cell (k := t) htl
                  cases e13
                  obtain ⟨b13', o13', e13, -, d2⟩ := (I13.out.drewN q2).cell (k := t - J) (by omega)
                  cases e13
                  obtain ⟨b9', o9', e9', -, d9'⟩ := (I9.out.drewN q2).cell (k := j) hlt
                  cases e9'
                  rw [← hq6.out] at d1 d2 d9'
                  rw [Nat.zero_add, behR_get (by rw [Hlx.out]; exact hlt), ← HJ.out, ← Hye.out] at d9'
                  rw [preL_get (by have := HM.out; omega)] at d1 d2
                  have hle := HB.out J t htJ (by have := HM.out; omega)
                  have a1 := preS_bound hrow.out t (by rw [hgl.out]; have := HM.out; omega)
                  have a2 := preS_bound hrow.out (t - J) (by rw [hgl.out]; have := HM.out; omega)
                  rw [← Hye.out] at hle
                  obtain ⟨p1, hp1⟩ : ∃ p, p = preS (goL xs css bs ms m i) t := ⟨_, rfl⟩
                  obtain ⟨p2, hp2⟩ : ∃ p, p = preS (goL xs css bs ms m i) (t - J) := ⟨_, rfl⟩
                  obtain ⟨s, hse⟩ : ∃ s, s = t - J := ⟨_, rfl⟩
                  obtain ⟨D, hD⟩ : ∃ D, D = p1 - p2 := ⟨_, rfl⟩
                  rw [← hp1] at d1 hle a1
                  rw [← hp2] at d2 hle a2
                  rw [← hse] at d2
                  have w1 : IntKind.i64.wrap ((t : Int) - (J : Int)) = ((s : Nat) : Int) := by rw [IntKind.wrap_i64]; omega
                  have w2 : IntKind.i64.wrap (p1 - p2) = D := by rw [IntKind.wrap_i64]; omega
                  have hDy : ¬ y < D := by omega
                  have hsM : s < M := by omega
                  clear hp1 hp2 hse hD hle a1 a2
                  go_wp2
                  go_quiet (fail)
                  go_wp2
                  go_roundg (M - (t + 1))
                  case measure => omega
                  case rel => exact ⟨t + 1, _, ⟨by omega, by omega, rfl, by simp⟩, Lib.hid (by rw [hq6.out]; simp only [World.drewN_drewN]; rfl)⟩
            case neg =>
              have hk1 : (1 : Int) < (J : Int) := by omega
              obtain ⟨b8, o8, e8, -, d8⟩ := (I9.out.drewN q).cell (k := j - 1) (by omega)
              cases e8
              rw [← hq5.out] at d8
              rw [Nat.zero_add, behR_get (by rw [Hlx.out]; omega), show j - 1 + 1 = j by omega] at d8
              have hup2 := hup (by omega)
              obtain ⟨x, hxe⟩ : ∃ x, x = behF xs css j := ⟨_, rfl⟩
              obtain ⟨j1, hj1e⟩ : ∃ j1, j1 = j - 1 := ⟨_, rfl⟩
              rw [← hxe] at d8 hup2
              have hyx : ¬ y < x := by omega
              have hj2 : IntKind.i64.wrap ((J : Int) - 2) = ((j1 : Nat) : Int) := by rw [IntKind.wrap_i64]; omega
              have hj1n : j1 < n := by omega
              rw [← hj1e] at d8
              clear hJ hj0 hup hup2 hxe hj1e
              go_wp2
              refine wp_region_quiet_lit (by kernel_rfl) (by kernel_rfl) ?_
              iterate 11 (go_big_quiet_step (fail))
              simp only [show decide (y < z) = false from decide_eq_false (by omega)]
              iterate 3 (go_big_quiet_step (fail))
              iterate 13 (go_big_quiet_step (fail))
              refine wpQuiet_nil ?_
              intro _ hw'
              obtain ⟨nq, hw''⟩ := hw'
              subst hw''
              go_wp2_with (fail)
              go_loopg [16] (M - J) (fun g' v16 wr => ∃ t q : Nat, (J ≤ t ∧ (t ≤ M ∨ t = J) ∧ g' = M - t ∧ v16 = .int .i64 (t : Int)) ∧ Hid (wr = w5.drewN q))
              case atStart => exact ⟨J, _, ⟨by omega, .inr rfl, rfl, rfl⟩, Lib.hid (by rw [hq5.out]; simp only [World.drewN_drewN]; rfl)⟩
              case round =>
                obtain ⟨t, q2, ⟨htJ, htM, rfl, rfl⟩, hq6⟩ := hrel
                have hwt : IntKind.i64.wrap ((t : Int) + 1) = (t : Int) + 1 := by rw [IntKind.wrap_i64]; omega
                by_cases htl : t < M
                case neg =>
                  have htl' : ¬ (t : Int) < (M : Int) := by omega
                  go_wp2
                  go_roundg (n - (j + 1))
                  case measure => omega
                  case rel => exact ⟨j + 1, q2, ⟨by omega, rfl, by rw [← HJ.out]; simp⟩, hq6⟩
                case pos =>
                  obtain ⟨b13, o13, e13, -, d1⟩ := (I13.out.drewN q2).cell (k := t) htl
                  cases e13
                  obtain ⟨b13', o13', e13, -, d2⟩ := (I13.out.drewN q2).cell (k := t - J) (by omega)
                  cases e13
                  obtain ⟨b9', o9', e9', -, d9'⟩ := (I9.out.drewN q2).cell (k := j) hlt
                  cases e9'
                  rw [← hq6.out] at d1 d2 d9'
                  rw [Nat.zero_add, behR_get (by rw [Hlx.out]; exact hlt), ← HJ.out, ← Hye.out] at d9'
                  rw [preL_get (by have := HM.out; omega)] at d1 d2
                  have hle := HB.out J t htJ (by have := HM.out; omega)
                  have a1 := preS_bound hrow.out t (by rw [hgl.out]; have := HM.out; omega)
                  have a2 := preS_bound hrow.out (t - J) (by rw [hgl.out]; have := HM.out; omega)
                  rw [← Hye.out] at hle
                  obtain ⟨p1, hp1⟩ : ∃ p, p = preS (goL xs css bs ms m i) t := ⟨_, rfl⟩
                  obtain ⟨p2, hp2⟩ : ∃ p, p = preS (goL xs css bs ms m i) (t - J) := ⟨_, rfl⟩
                  obtain ⟨s, hse⟩ : ∃ s, s = t - J := ⟨_, rfl⟩
                  obtain ⟨D, hD⟩ : ∃ D, D = p1 - p2 := ⟨_, rfl⟩
                  rw [← hp1] at d1 hle a1
                  rw [← hp2] at d2 hle a2
                  rw [← hse] at d2
                  have w1 : IntKind.i64.wrap ((t : Int) - (J : Int)) = ((s : Nat) : Int) := by rw [IntKind.wrap_i64]; omega
                  have w2 : IntKind.i64.wrap (p1 - p2) = D := by rw [IntKind.wrap_i64]; omega
                  have hDy : ¬ y < D := by omega
                  have hsM : s < M := by omega
                  clear hp1 hp2 hse hD hle a1 a2
                  go_wp2
                  go_quiet (fail)
                  go_wp2
                  go_roundg (M - (t + 1))
                  case measure => omega
                  case rel => exact ⟨t + 1, _, ⟨by omega, by omega, rfl, by simp⟩, Lib.hid (by rw [hq6.out]; simp only [World.drewN_drewN]; rfl)⟩
end Go.Proofs.Ytlgibckhkdggdaa
