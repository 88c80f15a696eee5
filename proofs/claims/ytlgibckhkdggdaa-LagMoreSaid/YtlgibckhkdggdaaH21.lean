/- Parts of a proof: TG TH TI. -/
import Derived.Test.YtlgibckhkdggdaaH20

/- lag's law: Adding. -/
namespace Go.Proofs.Ytlgibckhkdggdaa
open Go.RowKit Go.Shelf

attribute [local go_sem] Oper.semAt_some

/-- What is added up to a turn: the least, and more. -/
def adN (_a d : Nat → Int) (s : Int) (t : Nat) : Int := max s (d t)
def adS (a d : Nat → Int) (bs : List Int) : Nat → Int
  | 0 => 0
  | t + 1 => adN a d (adS a d bs t) (t + 1) + if bs.length = 0 then 0 else (((bs[(t + 1) % bs.length]?.getD 0).toNat % (a (t + 1) - adN a d (adS a d bs t) (t + 1) + 1).toNat : Nat) : Int)
theorem adS_spec {a d : Nat → Int} (bs : List Int) (ha : ∀ t, a t ≤ a (t + 1)) (ha0 : 0 ≤ a 0) (hd : ∀ t, d t ≤ a t) : ∀ t, 0 ≤ adS a d bs t ∧ adS a d bs t ≤ a t ∧ (d (t + 1) ≤ adN a d (adS a d bs t) (t + 1) ∧ adS a d bs t ≤ adN a d (adS a d bs t) (t + 1) ∧ adN a d (adS a d bs t) (t + 1) ≤ a (t + 1)) ∧ adN a d (adS a d bs t) (t + 1) ≤ adS a d bs (t + 1)
  | 0 => by
    have h1 : a 0 ≤ a 1 := ha 0
    have h2 := hd 1
    have e : adS a d bs 0 = 0 := rfl
    rw [e]
    have hN : d (0 + 1) ≤ adN a d 0 (0 + 1) ∧ 0 ≤ adN a d 0 (0 + 1) ∧ adN a d 0 (0 + 1) ≤ a (0 + 1) := by
      unfold adN
      simp only [Nat.zero_add]
      rw [Int.max_def]
      split <;> omega
    refine ⟨Int.le_refl _, ha0, hN, ?_⟩
    rw [adS, e]
    split <;> omega
  | t + 1 => by
    obtain ⟨i1, i2, ⟨i3, i4, i5⟩, i6⟩ := adS_spec bs ha ha0 hd t
    have hle : adS a d bs (t + 1) ≤ a (t + 1) := by
      rw [adS]
      split
      · omega
      · have := Nat.mod_lt (bs[(t + 1) % bs.length]?.getD 0).toNat (show 0 < (a (t + 1) - adN a d (adS a d bs t) (t + 1) + 1).toNat by omega)
        omega
    have h1 := ha (t + 1)
    have h2 := hd (t + 1 + 1)
    have hN : d (t + 1 + 1) ≤ adN a d (adS a d bs (t + 1)) (t + 1 + 1) ∧ adS a d bs (t + 1) ≤ adN a d (adS a d bs (t + 1)) (t + 1 + 1) ∧ adN a d (adS a d bs (t + 1)) (t + 1 + 1) ≤ a (t + 1 + 1) := by
      unfold adN
      rw [Int.max_def]
      split <;> omega
    refine ⟨by omega, hle, hN, ?_⟩
    rw [show adS a d bs (t + 1 + 1) = adN a d (adS a d bs (t + 1)) (t + 1 + 1) + if bs.length = 0 then 0 else (((bs[(t + 1 + 1) % bs.length]?.getD 0).toNat % (a (t + 1 + 1) - adN a d (adS a d bs (t + 1)) (t + 1 + 1) + 1).toNat : Nat) : Int) from rfl]
    split <;> omega
theorem preS_diff (f : Nat → Int) (h0 : f 0 = 0) (k : Nat) : ∀ j, j ≤ k → preS (mapL (fun i => f (i + 1) - f i) k) j = f j
  | 0, _ => h0.symm
  | j + 1, h => by
    rw [preS, preS_diff f h0 k j (by omega), mapL_get (by omega)]
    omega
/-- The totals of a row, for all turns. -/
def aOf (ys : List Int) (t : Nat) : Int := preS ys (min t ys.length)
def dOf (xs ys : List Int) (t : Nat) : Int := if t ≤ ys.length then addF (totF ys) xs t else 0
def addgF (xs ys bs : List Int) (t : Nat) : Int := adS (aOf ys) (dOf xs ys) bs t
def addgL (xs ys bs : List Int) (k : Nat) : List Int := mapL (fun i => addgF xs ys bs (i + 1) - addgF xs ys bs i) k
theorem aOf_at {ys : List Int} {t : Nat} (h : t ≤ ys.length) : aOf ys t = preS ys t := by unfold aOf; rw [Nat.min_eq_left h]
theorem addF_le {xs ys : List Int} {t : Nat} (h : t ≤ ys.length) : addF (totF ys) xs t ≤ preS ys t := by
  have := minP_le (lo := 0) (M := t) (fun p => (totF ys)[t - p]?.getD 0 + leastF xs p) (p := 0) (Nat.le_refl _) (Nat.zero_le _)
  simp only [Nat.sub_zero, leastF_zero] at this
  have e : (totF ys)[t]?.getD 0 = preS ys t := by rw [totF_pre, preL_get h]
  rw [e] at this
  show minP 0 t (fun p => (totF ys)[t - p]?.getD 0 + leastF xs p) ≤ _
  omega
theorem addg_spec {xs ys : List Int} (bs : List Int) (hr : Row60 ys) : ∀ t, t ≤ ys.length → 0 ≤ addgF xs ys bs t ∧ addgF xs ys bs t ≤ preS ys t ∧ (t < ys.length → addgF xs ys bs t ≤ addgF xs ys bs (t + 1)) ∧ addF (totF ys) xs t ≤ addgF xs ys bs t := by
  have ha : ∀ t, aOf ys t ≤ aOf ys (t + 1) := fun t => by
    unfold aOf
    by_cases h : t < ys.length
    · rw [Nat.min_eq_left (by omega), Nat.min_eq_left (by omega), preS]
      have := (hr.2 t h).1
      omega
    · rw [Nat.min_eq_right (by omega), Nat.min_eq_right (by omega)]
      exact Int.le_refl _
  have ha0 : 0 ≤ aOf ys 0 := by rw [aOf_at (Nat.zero_le _)]; exact Int.le_refl _
  have hap : ∀ t, 0 ≤ aOf ys t := fun t => by
    unfold aOf
    exact (preS_bound hr _ (Nat.min_le_right _ _)).1
  have hd : ∀ t, dOf xs ys t ≤ aOf ys t := fun t => by
    unfold dOf
    split
    · rw [aOf_at (by assumption)]
      exact addF_le (by assumption)
    · exact hap t
  intro t ht
  obtain ⟨h1, h2, ⟨h3, h4, h5⟩, h6⟩ := adS_spec bs ha ha0 hd t
  refine ⟨h1, by rw [← aOf_at ht]; exact h2, fun _ => by unfold addgF; omega, ?_⟩
  by_cases h0 : t = 0
  · subst h0
    have := addF_le (xs := xs) (ys := ys) (Nat.zero_le _)
    have e : preS ys 0 = 0 := rfl
    rw [e] at this
    exact Int.le_trans this h1
  · obtain ⟨s, rfl⟩ : ∃ s, t = s + 1 := ⟨t - 1, by omega⟩
    obtain ⟨-, -, ⟨g3, -, -⟩, g6⟩ := adS_spec bs ha ha0 hd s
    have e : dOf xs ys (s + 1) = addF (totF ys) xs (s + 1) := by unfold dOf; rw [if_pos ht]
    rw [← e]
    exact Int.le_trans g3 g6
theorem preS_addg {xs ys : List Int} (bs : List Int) {k j : Nat} (h : j ≤ k) : preS (addgL xs ys bs k) j = addgF xs ys bs j := preS_diff (addgF xs ys bs) rfl k j h
set_option maxRecDepth 100000 in
set_option maxHeartbeats 16000000 in
theorem Adding_any (w : World) (B B2 B3 : Nat) (A A2 A3 : Option Addr) (n c m c2 l c3 : Nat) (xs ys bs : List Int) (hx : IntsAt w B A n xs) (hB : B ≤ w.heap.size) (hy : IntsAt w B2 A2 m ys) (hB2 : B2 ≤ w.heap.size) (hz : U8At w B3 A3 l bs) (hB3 : B3 ≤ w.heap.size) (hc : curveF xs = 0) (hr : Row60 ys) :
    Calls Try.prog 49 #[.slice A n c, .slice A2 m c2, .slice A3 l c3] w fun e w' => ∃ v, e = .returned v ∧ w'.ownsRow w.heap.size 2 1 v m ((addgL xs ys bs m).map (.int .i64)) ∧ Below w.heap.size w w' := by
  obtain ⟨i0, hi, hz0, hz1, hz2⟩ := info_parts infoI64
  have hm1 := hx.small
  have hm2 := hy.small
  have hm3 := hz.small
  have Hc := Lib.hid hc
  have hry := Lib.hid hr
  have Hlm := Lib.hid hy.len
  have Hlz := Lib.hid hz.len
  have hm60 : m ≤ 60 := by have := hr.1; rw [Hlm.out] at this; exact this
  have hb00 : Below w.heap.size w w := Below.refl _ _
  have hz0' := hb00.size
  clear hc hr
  go_enter Try.func49, Try.ntmps49
  go_wp2_with (fail)
  refine (rSums_any w B2 A2 m c2 ys (hy.below hb00 hB2) (by omega) (by omega) (fun j hj => by have := preS_bound hry.out j (by rw [Hlm.out]; exact hj); omega)).mono ?_
  rintro e w3 ⟨v1, rfl, hs1, hb3⟩
  obtain ⟨A3', c3', rfl, -, i1⟩ := OwnZ.row hs1 (by rw [preL_len]; omega)
  have hb4 := hb00.trans (hb3.mono hz0')
  have hz4 := hb4.size
  rw [preL_len] at i1 ⊢
  clear hb3 hs1
  have ir := rows_new1 (c := c) ((hx.below hb4 hB).more (show B ≤ w3.heap.size by omega))
  have hb5 := hb4.alloc hz4 (.cells #[.slice A n c] 22)
  have i1 := i1.below (Below.refl _ w3 |>.alloc (Nat.le_refl _) (.cells #[.slice A n c] 22)) (Nat.le_refl _)
  obtain ⟨w4, hw4⟩ : ∃ W, W = w3.alloc (.cells #[.slice A n c] 22) := ⟨_, rfl⟩
  have hz34 : w3.heap.size < w4.heap.size := by rw [hw4]; simp
  rw [← hw4] at ir hb5 i1
  clear hb4
  go_wp2_with (fail)
  rw [← hw4]
  clear hw4
  obtain ⟨b4, hb4e⟩ : ∃ b4, b4 = w3.heap.size := ⟨_, rfl⟩
  rw [← hb4e] at ir ⊢
  have hz5 := hb5.size
  refine (rLeasts_any w4 w4.heap.size (some ⟨b4, 0, none⟩) 1 1 m [xs] ir (Nat.le_refl _) (fun j hj => by
    obtain rfl : j = 0 := by simpa using hj
    exact nums_of Hc.out) (by omega) (by omega) (by omega)).mono ?_
  rintro e w5 ⟨g5, hg5, rfl, hrow5, hb6⟩
  have i2 := hrow5.ints (n := m + 1) (lvlR_len _ _ _ _) (by omega)
  have i1 := i1.below hb6 (by omega)
  have hz45 := hb6.size
  have hb7 := hb5.trans (hb6.mono hz5)
  have hz7 := hb7.size
  clear hb5 hb6 hrow5 ir
  go_wp2_with (fail)
  refine (rLazy_any w5 w3.heap.size w5.heap.size A3' (some ⟨g5, 0, none⟩) (m + 1) c3' (m + 1) (m + 1) (preL ys m) (lvlR (m + 1) [xs] 0 (m + 1)) i1 (by omega) i2 (Nat.le_refl _) (Nat.le_refl _) (by omega) (by have := small_pre hry.out; rw [Hlm.out] at this; exact this) (small_lvl (nums_of Hc.out) (by omega))).mono ?_
  rintro e w6 ⟨v6, rfl, hown, hb8⟩
  obtain ⟨g6, c6, rfl⟩ := ownsRow_succ hown
  have i3 := OwnZ.ints hown (by omega)
  have hb9 := hb7.trans (hb8.mono hz7)
  have hz9 := hb9.size
  have i1 := i1.below hb8 (by omega)
  have hz56 := hb8.size
  clear hb7 hb8 hown i2
  have I1 := Lib.hid i1
  have I3 := Lib.hid i3
  have hsp := Lib.hid (fun t (ht : t ≤ m) => addg_spec (xs := xs) bs hry.out t (by rw [Hlm.out]; exact ht))
  have hlz := Lib.hid (fun t (ht : t ≤ m) => by
    have := laz_add (xs := ys) (cs := xs) (t := t) (by rw [Hlm.out]; exact ht)
    rw [Hlm.out] at this
    exact this)
  clear i1 i3
  have hz36 : w3.heap.size ≤ w6.heap.size := by omega
  obtain ⟨K, hK⟩ : ∃ K, K = m + 1 := ⟨_, rfl⟩
  rw [← hK] at I1 I3 ⊢
  have HK := Lib.hid hK
  have hK61 : K ≤ 61 := by omega
  clear hK
  obtain ⟨ba, oa, rfl, -, -⟩ := I1.out.cell (k := 0) (by have := HK.out; omega)
  go_wp2_with (fail)
  go_loopg [9, 10, 11] m (fun g v9 v10 v11 wr => ∃ j : Nat, (j ≤ m ∧ g = m - j ∧ v11 = .int .i64 ((j + 1 : Nat) : Int) ∧ v10 = .int .i64 (addgF xs ys bs j)) ∧ wr.ownsRow w6.heap.size 2 1 v9 j ((addgL xs ys bs j).map (.int .i64)) ∧ Below w6.heap.size w6 wr)
  case atStart => exact ⟨0, ⟨by omega, rfl, rfl, rfl⟩, World.ownsRow_nil _ _ _ _, Below.refl _ _⟩
  case round =>
    obtain ⟨j, ⟨hj, rfl, rfl, rfl⟩, hrow, hb⟩ := hrel
    have hsz := hb.size
    obtain ⟨J, hJ⟩ : ∃ J, J = j + 1 := ⟨_, rfl⟩
    rw [← hJ]
    have HJ := Lib.hid hJ
    by_cases hlt : j < m
    case neg =>
      obtain rfl : j = m := by omega
      have hJk : ¬ (J : Int) < (K : Int) := by have := HK.out; omega
      clear hJ
      go_wp2_with (fail)
      refine bodyPost_ret (results_six rfl _ _ _ rfl) rfl ⟨_, rfl, ?_, hb9.trans (hb.mono hz9)⟩
      exact own_lower hrow hz9
    case pos =>
      have hJk : (J : Int) < (K : Int) := by have := HK.out; omega
      have hJK : J < K := by omega
      have hJm : J ≤ m := by omega
      obtain ⟨b1, o1, e1, -, c1⟩ := (I1.out.below hb (by omega)).cell (k := J) hJK
      cases e1
      obtain ⟨b2, o2, e2, -, c2'⟩ := (I3.out.below hb (Nat.le_refl _)).cell (k := J) hJK
      cases e2
      rw [preL_get hJm] at c1
      rw [lazL_get hJK, Nat.zero_add, show lazF (preL ys m) (lvlR K [xs] 0 K) J = addF (totF ys) xs J by have := hlz.out J hJm; rw [← HK.out] at this; exact this] at c2'
      have q1 := hsp.out j (by omega)
      have q2 := hsp.out J hJm
      have q3 := preS_bound hry.out J (by rw [Hlm.out]; exact hJm)
      have q4 := preS_bound hry.out j (by rw [Hlm.out]; omega)
      have hstep : addgF xs ys bs J = adN (aOf ys) (dOf xs ys) (addgF xs ys bs j) J + if bs.length = 0 then 0 else (((bs[J % bs.length]?.getD 0).toNat % (aOf ys J - adN (aOf ys) (dOf xs ys) (addgF xs ys bs j) J + 1).toNat : Nat) : Int) := by rw [HJ.out]; rfl
      have ea : aOf ys J = preS ys J := aOf_at (by rw [Hlm.out]; exact hJm)
      have ed : dOf xs ys J = addF (totF ys) xs J := by unfold dOf; rw [if_pos (by rw [Hlm.out]; exact hJm)]
      have eN : adN (aOf ys) (dOf xs ys) (addgF xs ys bs j) J = max (addgF xs ys bs j) (addF (totF ys) xs J) := by unfold adN; rw [ed]
      have qm : preS ys j ≤ preS ys J := by
        rw [HJ.out, preS]
        have := (hry.out.2 j (by rw [Hlm.out]; exact hlt)).1
        omega
      have qd := addF_le (xs := xs) (ys := ys) (t := J) (by rw [Hlm.out]; exact hJm)
      rw [ea, eN, Int.max_def, Hlz.out] at hstep
      obtain ⟨s, hse⟩ : ∃ s, s = addgF xs ys bs j := ⟨_, rfl⟩
      obtain ⟨s2, hs2e⟩ : ∃ s, s = addgF xs ys bs J := ⟨_, rfl⟩
      obtain ⟨d, hde⟩ : ∃ d, d = addF (totF ys) xs J := ⟨_, rfl⟩
      obtain ⟨av, hae⟩ : ∃ av, av = preS ys J := ⟨_, rfl⟩
      have Hs2 := Lib.hid (And.intro hs2e hse)
      rw [← hse] at q1 hstep ⊢
      rw [← hs2e] at q2 hstep
      rw [← hde] at c2' hstep q2 qd
      rw [← hae] at c1 hstep q2 q3 qm qd
      have hwJ : IntKind.i64.wrap ((J : Int) + 1) = ((J + 1 : Nat) : Int) := by rw [IntKind.wrap_i64]; omega
      have Hstep := Lib.hid hstep
      have hq : 0 ≤ s ∧ s ≤ av ∧ av ≤ 1000000 := by omega
      clear hstep ea ed eN q1 q3 q4 qm hse hs2e hde hae hJ
      have hw1 : IntKind.i64.wrap (s2 - s) = s2 - s := by rw [IntKind.wrap_i64]; omega
      have hcase : s < d ∨ s = d ∨ d < s := by omega
      have Hq := Lib.hid hq
      have Hqd := Lib.hid qd
      have Hq2 := Lib.hid q2
      have hw2 : s ≤ d → IntKind.i64.wrap (d - s) = d - s := fun _ => by rw [IntKind.wrap_i64]; omega
      clear hq qd q2
      rcases hcase with hA | hA | hA
      · have hA2 : ¬ d ≤ s := by omega
        have hA3 : s ≤ d := by omega
        have hA4 : ¬ d < s := by omega
        have hw2 := hw2 hA3
        have Hst := Lib.hid (show s2 = d + if l = 0 then 0 else (((bs[J % l]?.getD 0).toNat % (av - d + 1).toNat : Nat) : Int) by rw [Hstep.out, if_pos hA3])
        by_cases hl0 : l = 0
        · have hs2y : s2 = d := by rw [Hst.out, if_pos hl0]; omega
          have Hz := Lib.hid hs2y
          have hl1 : ¬ (0 : Int) < (l : Int) := by omega
          clear hs2y hw1 hl0 hb9
          go_wp2_with (at_builtin; first | (refine wpList_append_own_at _ rfl _ _ 22 rfl w6.heap.size 2 i0 (.int .i64 0) 1 8 Try.underlying22 hi hz0 hz1 hz2 rfl (by decide) _ _ _ rfl (hrow.alloc _) ⟨wr.heap.size, 0, none⟩ 1 1 [.int .i64 (d - s)] rfl rfl (cell_one_new _ _ _) (by simp [Value.oneCell']) (by simp only [maxLen]; omega) (by omega) (by simp; omega) ?_; intro v9' wA hown9 hgrow9 _ hat9))
          all_goals
            go_roundg (m - (j + 1))
            case measure => omega
            case rel =>
              obtain ⟨g1, g2⟩ := Hs2.out
              refine ⟨j + 1, ⟨by omega, rfl, by rw [← HJ.out]; simp, by rw [← HJ.out, ← Hs2.out.1, Hz.out]⟩, ?_, (hb.alloc hsz _).trans ((Below.refl _ _).grown hgrow9 (by simp; omega) (fun r e => (hrow.lt r e).1))⟩
              unfold addgL
              rw [mapL_succ, show addgF xs ys bs (j + 1) - addgF xs ys bs j = s2 - s by rw [← HJ.out, ← g1, ← g2], List.map_append, Hz.out]
              first
                | exact hown9
                | (rw [Int.sub_self]
                   exact hown9)
        · obtain ⟨kk, hkk⟩ : ∃ kk, kk = J % l := ⟨_, rfl⟩
          have hkn : kk < l := by rw [hkk]; exact Nat.mod_lt _ (by omega)
          have hkt : kk ≤ J := by rw [hkk]; exact Nat.mod_le _ _
          have u5 : (J : Int).tmod (l : Int) = (kk : Int) := by rw [hkk]; exact (Int.ofNat_tmod J l).symm
          have u6 : IntKind.i64.wrap (kk : Int) = (kk : Int) := by rw [IntKind.wrap_i64]; omega
          have hlb := hz.bound kk
          obtain ⟨b3, o3, rfl, hb3l, c3', -, -⟩ := (hz.below (hb9.trans (hb.mono hz9)) hB3).cell hkn
          have hs2y : s2 = d + (((bs[kk]?.getD 0).toNat % (av - d + 1).toNat : Nat) : Int) := by rw [Hst.out, if_neg hl0, hkk]
          obtain ⟨ln, hln⟩ : ∃ ln : Nat, bs[kk]?.getD 0 = (ln : Int) := ⟨(bs[kk]?.getD 0).toNat, by omega⟩
          have hq := Hq.out
          have hqd := Hqd.out
          obtain ⟨P, hP⟩ : ∃ P : Nat, av - d + 1 = (P : Int) := ⟨(av - d + 1).toNat, by omega⟩
          have hP0 : 0 < P := by omega
          rw [hln] at hlb c3' hs2y
          rw [hP, Int.toNat_natCast, Int.toNat_natCast] at hs2y
          have u7 : IntKind.i64.wrap (ln : Int) = (ln : Int) := by rw [IntKind.wrap_i64]; omega
          have u8 : (ln : Int).tmod (P : Int) = ((ln % P : Nat) : Int) := (Int.ofNat_tmod ln P).symm
          obtain ⟨r, hr⟩ : ∃ r : Nat, r = ln % P := ⟨_, rfl⟩
          have hrP : r < P := by rw [hr]; exact Nat.mod_lt _ hP0
          rw [← hr] at u8 hs2y
          have u9 : IntKind.i64.wrap (r : Int) = (r : Int) := by rw [IntKind.wrap_i64]; omega
          obtain ⟨P1, hP1⟩ : ∃ P1 : Int, P1 = av - d := ⟨_, rfl⟩
          have u10 : IntKind.i64.wrap (av - d) = P1 := by rw [IntKind.wrap_i64]; omega
          have u11 : IntKind.i64.wrap (P1 + 1) = (P : Int) := by rw [IntKind.wrap_i64]; omega
          have u12 : ¬ P = 0 := by omega
          have u12' : ¬ (P : Int) = 0 := by omega
          have u13 : IntKind.i64.wrap (d + (r : Int)) = s2 := by rw [IntKind.wrap_i64]; omega
          have hl1 : (0 : Int) < (l : Int) := by omega
          have hl2 : ¬ l = 0 := by omega
          have hb3w : b3 < wr.heap.size := by omega
          clear hs2y hkk hln hr hkt hP hP1 hlb hl0 hb9 hq hqd hrP hP0
          clear Hst
          go_wp2
          go_quiet (fail)
          have hrow' := own_drew (q := nq) hrow rfl
          have hb' : Below w6.heap.size w6 (wr.drewN nq) := hb.trans (below_drewN _ _)
          generalize wr.drewN nq = wq at hrow' hb' ⊢
          have hsq := hb'.size
          clear hrow hb hsz c1 c2' c3'
          go_wp2_with (at_builtin; first | (refine wpList_append_own_at _ rfl _ _ 22 rfl w6.heap.size 2 i0 (.int .i64 0) 1 8 Try.underlying22 hi hz0 hz1 hz2 rfl (by decide) _ _ _ rfl (hrow'.alloc _) ⟨wq.heap.size, 0, none⟩ 1 1 [.int .i64 (s2 - s)] rfl rfl (cell_one_new _ _ _) (by simp [Value.oneCell']) (by simp only [maxLen]; omega) (by omega) (by simp; omega) ?_; intro v9' wA hown9 hgrow9 _ hat9))
          all_goals
            go_roundg (m - (j + 1))
            case measure => omega
            case rel =>
              obtain ⟨g1, g2⟩ := Hs2.out
              refine ⟨j + 1, ⟨by omega, rfl, by rw [← HJ.out]; simp, by rw [← HJ.out, ← Hs2.out.1]⟩, ?_, (hb'.alloc hsq _).trans ((Below.refl _ _).grown hgrow9 (by simp; omega) (fun r e => (hrow'.lt r e).1))⟩
              unfold addgL
              rw [mapL_succ, show addgF xs ys bs (j + 1) - addgF xs ys bs j = s2 - s by rw [← HJ.out, ← g1, ← g2], List.map_append]
              exact hown9
      · have hst := Hstep.out
        have hq2 := Hq2.out
        have hqd := Hqd.out
        rw [← hA] at hst c2' hq2 hqd
        rw [if_pos (Int.le_refl _)] at hst
        have Hst := Lib.hid hst
        have Hq2 := Lib.hid hq2
        have Hqd := Lib.hid hqd
        have hw3 : IntKind.i64.wrap (s - s) = 0 := by rw [IntKind.wrap_i64]; omega
        clear hst hw2 hA Hstep hq2 hqd
        by_cases hl0 : l = 0
        · have hs2y : s2 = s := by rw [Hst.out, if_pos hl0]; omega
          have Hz := Lib.hid hs2y
          have hl1 : ¬ (0 : Int) < (l : Int) := by omega
          clear hs2y hw1 hl0 hb9
          go_wp2_with (at_builtin; first | (refine wpList_append_own_at _ rfl _ _ 22 rfl w6.heap.size 2 i0 (.int .i64 0) 1 8 Try.underlying22 hi hz0 hz1 hz2 rfl (by decide) _ _ _ rfl (hrow.alloc _) ⟨wr.heap.size, 0, none⟩ 1 1 [.int .i64 0] rfl rfl (cell_one_new _ _ _) (by simp [Value.oneCell']) (by simp only [maxLen]; omega) (by omega) (by simp; omega) ?_; intro v9' wA hown9 hgrow9 _ hat9) | (refine wpList_append_own_at _ rfl _ _ 22 rfl w6.heap.size 2 i0 (.int .i64 0) 1 8 Try.underlying22 hi hz0 hz1 hz2 rfl (by decide) _ _ _ rfl (hrow.alloc _) ⟨wr.heap.size, 0, none⟩ 1 1 [.int .i64 (s - s)] rfl rfl (cell_one_new _ _ _) (by simp [Value.oneCell']) (by simp only [maxLen]; omega) (by omega) (by simp; omega) ?_; intro v9' wA hown9 hgrow9 _ hat9))
          all_goals
            go_roundg (m - (j + 1))
            case measure => omega
            case rel =>
              obtain ⟨g1, g2⟩ := Hs2.out
              refine ⟨j + 1, ⟨by omega, rfl, by rw [← HJ.out]; simp, by rw [← HJ.out, ← Hs2.out.1, Hz.out]⟩, ?_, (hb.alloc hsz _).trans ((Below.refl _ _).grown hgrow9 (by simp; omega) (fun r e => (hrow.lt r e).1))⟩
              unfold addgL
              rw [mapL_succ, show addgF xs ys bs (j + 1) - addgF xs ys bs j = s2 - s by rw [← HJ.out, ← g1, ← g2], List.map_append, Hz.out]
              first
                | exact hown9
                | (rw [Int.sub_self]
                   exact hown9)
        · obtain ⟨kk, hkk⟩ : ∃ kk, kk = J % l := ⟨_, rfl⟩
          have hkn : kk < l := by rw [hkk]; exact Nat.mod_lt _ (by omega)
          have hkt : kk ≤ J := by rw [hkk]; exact Nat.mod_le _ _
          have u5 : (J : Int).tmod (l : Int) = (kk : Int) := by rw [hkk]; exact (Int.ofNat_tmod J l).symm
          have u6 : IntKind.i64.wrap (kk : Int) = (kk : Int) := by rw [IntKind.wrap_i64]; omega
          have hlb := hz.bound kk
          obtain ⟨b3, o3, rfl, hb3l, c3', -, -⟩ := (hz.below (hb9.trans (hb.mono hz9)) hB3).cell hkn
          have hs2y : s2 = s + (((bs[kk]?.getD 0).toNat % (av - s + 1).toNat : Nat) : Int) := by rw [Hst.out, if_neg hl0, hkk]
          obtain ⟨ln, hln⟩ : ∃ ln : Nat, bs[kk]?.getD 0 = (ln : Int) := ⟨(bs[kk]?.getD 0).toNat, by omega⟩
          have hq := Hq.out
          have hqd := Hqd.out
          obtain ⟨P, hP⟩ : ∃ P : Nat, av - s + 1 = (P : Int) := ⟨(av - s + 1).toNat, by omega⟩
          have hP0 : 0 < P := by omega
          rw [hln] at hlb c3' hs2y
          rw [hP, Int.toNat_natCast, Int.toNat_natCast] at hs2y
          have u7 : IntKind.i64.wrap (ln : Int) = (ln : Int) := by rw [IntKind.wrap_i64]; omega
          have u8 : (ln : Int).tmod (P : Int) = ((ln % P : Nat) : Int) := (Int.ofNat_tmod ln P).symm
          obtain ⟨r, hr⟩ : ∃ r : Nat, r = ln % P := ⟨_, rfl⟩
          have hrP : r < P := by rw [hr]; exact Nat.mod_lt _ hP0
          rw [← hr] at u8 hs2y
          have u9 : IntKind.i64.wrap (r : Int) = (r : Int) := by rw [IntKind.wrap_i64]; omega
          obtain ⟨P1, hP1⟩ : ∃ P1 : Int, P1 = av - s := ⟨_, rfl⟩
          have u10 : IntKind.i64.wrap (av - s) = P1 := by rw [IntKind.wrap_i64]; omega
          have u11 : IntKind.i64.wrap (P1 + 1) = (P : Int) := by rw [IntKind.wrap_i64]; omega
          have u12 : ¬ P = 0 := by omega
          have u12' : ¬ (P : Int) = 0 := by omega
          have u13 : IntKind.i64.wrap (s + (r : Int)) = s2 := by rw [IntKind.wrap_i64]; omega
          have hl1 : (0 : Int) < (l : Int) := by omega
          have hl2 : ¬ l = 0 := by omega
          have hb3w : b3 < wr.heap.size := by omega
          clear hs2y hkk hln hr hkt hP hP1 hlb hl0 hb9 hq hqd hrP hP0
          clear Hst
          go_wp2
          go_quiet (fail)
          have hrow' := own_drew (q := nq) hrow rfl
          have hb' : Below w6.heap.size w6 (wr.drewN nq) := hb.trans (below_drewN _ _)
          generalize wr.drewN nq = wq at hrow' hb' ⊢
          have hsq := hb'.size
          clear hrow hb hsz c1 c2' c3'
          go_wp2_with (at_builtin; first | (refine wpList_append_own_at _ rfl _ _ 22 rfl w6.heap.size 2 i0 (.int .i64 0) 1 8 Try.underlying22 hi hz0 hz1 hz2 rfl (by decide) _ _ _ rfl (hrow'.alloc _) ⟨wq.heap.size, 0, none⟩ 1 1 [.int .i64 (s2 - s)] rfl rfl (cell_one_new _ _ _) (by simp [Value.oneCell']) (by simp only [maxLen]; omega) (by omega) (by simp; omega) ?_; intro v9' wA hown9 hgrow9 _ hat9))
          all_goals
            go_roundg (m - (j + 1))
            case measure => omega
            case rel =>
              obtain ⟨g1, g2⟩ := Hs2.out
              refine ⟨j + 1, ⟨by omega, rfl, by rw [← HJ.out]; simp, by rw [← HJ.out, ← Hs2.out.1]⟩, ?_, (hb'.alloc hsq _).trans ((Below.refl _ _).grown hgrow9 (by simp; omega) (fun r e => (hrow'.lt r e).1))⟩
              unfold addgL
              rw [mapL_succ, show addgF xs ys bs (j + 1) - addgF xs ys bs j = s2 - s by rw [← HJ.out, ← g1, ← g2], List.map_append]
              exact hown9
      · have hA2 : d ≤ s := by omega
        have hA3 : ¬ s ≤ d := by omega
        have hA4 : ¬ s < d := by omega
        have Hst := Lib.hid (show s2 = s + if l = 0 then 0 else (((bs[J % l]?.getD 0).toNat % (av - s + 1).toNat : Nat) : Int) by rw [Hstep.out, if_neg hA3])
        have hw3 : IntKind.i64.wrap (s - s) = 0 := by rw [IntKind.wrap_i64]; omega
        clear hw2
        by_cases hl0 : l = 0
        · have hs2y : s2 = s := by rw [Hst.out, if_pos hl0]; omega
          have Hz := Lib.hid hs2y
          have hl1 : ¬ (0 : Int) < (l : Int) := by omega
          clear hs2y hw1 hl0 hb9
          go_wp2_with (at_builtin; first | (refine wpList_append_own_at _ rfl _ _ 22 rfl w6.heap.size 2 i0 (.int .i64 0) 1 8 Try.underlying22 hi hz0 hz1 hz2 rfl (by decide) _ _ _ rfl (hrow.alloc _) ⟨wr.heap.size, 0, none⟩ 1 1 [.int .i64 0] rfl rfl (cell_one_new _ _ _) (by simp [Value.oneCell']) (by simp only [maxLen]; omega) (by omega) (by simp; omega) ?_; intro v9' wA hown9 hgrow9 _ hat9) | (refine wpList_append_own_at _ rfl _ _ 22 rfl w6.heap.size 2 i0 (.int .i64 0) 1 8 Try.underlying22 hi hz0 hz1 hz2 rfl (by decide) _ _ _ rfl (hrow.alloc _) ⟨wr.heap.size, 0, none⟩ 1 1 [.int .i64 (s - s)] rfl rfl (cell_one_new _ _ _) (by simp [Value.oneCell']) (by simp only [maxLen]; omega) (by omega) (by simp; omega) ?_; intro v9' wA hown9 hgrow9 _ hat9))
          all_goals
            go_roundg (m - (j + 1))
            case measure => omega
            case rel =>
              obtain ⟨g1, g2⟩ := Hs2.out
              refine ⟨j + 1, ⟨by omega, rfl, by rw [← HJ.out]; simp, by rw [← HJ.out, ← Hs2.out.1, Hz.out]⟩, ?_, (hb.alloc hsz _).trans ((Below.refl _ _).grown hgrow9 (by simp; omega) (fun r e => (hrow.lt r e).1))⟩
              unfold addgL
              rw [mapL_succ, show addgF xs ys bs (j + 1) - addgF xs ys bs j = s2 - s by rw [← HJ.out, ← g1, ← g2], List.map_append, Hz.out]
              first
                | exact hown9
                | (rw [Int.sub_self]
                   exact hown9)
        · obtain ⟨kk, hkk⟩ : ∃ kk, kk = J % l := ⟨_, rfl⟩
          have hkn : kk < l := by rw [hkk]; exact Nat.mod_lt _ (by omega)
          have hkt : kk ≤ J := by rw [hkk]; exact Nat.mod_le _ _
          have u5 : (J : Int).tmod (l : Int) = (kk : Int) := by rw [hkk]; exact (Int.ofNat_tmod J l).symm
          have u6 : IntKind.i64.wrap (kk : Int) = (kk : Int) := by rw [IntKind.wrap_i64]; omega
          have hlb := hz.bound kk
          obtain ⟨b3, o3, rfl, hb3l, c3', -, -⟩ := (hz.below (hb9.trans (hb.mono hz9)) hB3).cell hkn
          have hs2y : s2 = s + (((bs[kk]?.getD 0).toNat % (av - s + 1).toNat : Nat) : Int) := by rw [Hst.out, if_neg hl0, hkk]
          obtain ⟨ln, hln⟩ : ∃ ln : Nat, bs[kk]?.getD 0 = (ln : Int) := ⟨(bs[kk]?.getD 0).toNat, by omega⟩
          have hq := Hq.out
          have hqd := Hqd.out
          obtain ⟨P, hP⟩ : ∃ P : Nat, av - s + 1 = (P : Int) := ⟨(av - s + 1).toNat, by omega⟩
          have hP0 : 0 < P := by omega
          rw [hln] at hlb c3' hs2y
          rw [hP, Int.toNat_natCast, Int.toNat_natCast] at hs2y
          have u7 : IntKind.i64.wrap (ln : Int) = (ln : Int) := by rw [IntKind.wrap_i64]; omega
          have u8 : (ln : Int).tmod (P : Int) = ((ln % P : Nat) : Int) := (Int.ofNat_tmod ln P).symm
          obtain ⟨r, hr⟩ : ∃ r : Nat, r = ln % P := ⟨_, rfl⟩
          have hrP : r < P := by rw [hr]; exact Nat.mod_lt _ hP0
          rw [← hr] at u8 hs2y
          have u9 : IntKind.i64.wrap (r : Int) = (r : Int) := by rw [IntKind.wrap_i64]; omega
          obtain ⟨P1, hP1⟩ : ∃ P1 : Int, P1 = av - s := ⟨_, rfl⟩
          have u10 : IntKind.i64.wrap (av - s) = P1 := by rw [IntKind.wrap_i64]; omega
          have u11 : IntKind.i64.wrap (P1 + 1) = (P : Int) := by rw [IntKind.wrap_i64]; omega
          have u12 : ¬ P = 0 := by omega
          have u12' : ¬ (P : Int) = 0 := by omega
          have u13 : IntKind.i64.wrap (s + (r : Int)) = s2 := by rw [IntKind.wrap_i64]; omega
          have hl1 : (0 : Int) < (l : Int) := by omega
          have hl2 : ¬ l = 0 := by omega
          have hb3w : b3 < wr.heap.size := by omega
          clear hs2y hkk hln hr hkt hP hP1 hlb hl0 hb9 hq hqd hrP hP0
          clear Hst
          go_wp2
          go_quiet (fail)
          have hrow' := own_drew (q := nq) hrow rfl
          have hb' : Below w6.heap.size w6 (wr.drewN nq) := hb.trans (below_drewN _ _)
          generalize wr.drewN nq = wq at hrow' hb' ⊢
          have hsq := hb'.size
          clear hrow hb hsz c1 c2' c3'
          go_wp2_with (at_builtin; first | (refine wpList_append_own_at _ rfl _ _ 22 rfl w6.heap.size 2 i0 (.int .i64 0) 1 8 Try.underlying22 hi hz0 hz1 hz2 rfl (by decide) _ _ _ rfl (hrow'.alloc _) ⟨wq.heap.size, 0, none⟩ 1 1 [.int .i64 (s2 - s)] rfl rfl (cell_one_new _ _ _) (by simp [Value.oneCell']) (by simp only [maxLen]; omega) (by omega) (by simp; omega) ?_; intro v9' wA hown9 hgrow9 _ hat9))
          all_goals
            go_roundg (m - (j + 1))
            case measure => omega
            case rel =>
              obtain ⟨g1, g2⟩ := Hs2.out
              refine ⟨j + 1, ⟨by omega, rfl, by rw [← HJ.out]; simp, by rw [← HJ.out, ← Hs2.out.1]⟩, ?_, (hb'.alloc hsq _).trans ((Below.refl _ _).grown hgrow9 (by simp; omega) (fun r e => (hrow'.lt r e).1))⟩
              unfold addgL
              rw [mapL_succ, show addgF xs ys bs (j + 1) - addgF xs ys bs j = s2 - s by rw [← HJ.out, ← g1, ← g2], List.map_append]
              exact hown9
end Go.Proofs.Ytlgibckhkdggdaa

/- lag: pure facts of LagLazy. -/
namespace Go.Proofs.Ytlgibckhkdggdaa
open Go.RowKit Go.Shelf

theorem leastF_up {xs : List Int} (hv : Nums xs) (hu : Ups xs) (t : Nat) : leastF xs t ≤ leastF xs (t + 1) := by
  obtain ⟨h1, -, h3⟩ := hv
  have hL : 0 < xs.length := by omega
  have hr := Nat.mod_lt t hL
  have hz := h3 (xs.length - 1) (by omega)
  unfold leastF
  by_cases hc : t % xs.length + 1 = xs.length
  · have e1 : (t + 1) / xs.length = t / xs.length + 1 := by
      have h := Nat.div_add_mod t xs.length
      have : t + 1 = xs.length * (t / xs.length + 1) := by rw [Nat.mul_add, Nat.mul_one]; omega
      rw [this, Nat.mul_div_cancel_left _ hL]
    have e2 : (t + 1) % xs.length = 0 := by
      have h := Nat.div_add_mod t xs.length
      have : t + 1 = xs.length * (t / xs.length + 1) := by rw [Nat.mul_add, Nat.mul_one]; omega
      rw [this, Nat.mul_mod_right]
    rw [e1, e2]
    have e3 : xs[xs.length - 1]?.getD 0 * ((t / xs.length + 1 : Nat) : Int) = xs[xs.length - 1]?.getD 0 * ((t / xs.length : Nat) : Int) + xs[xs.length - 1]?.getD 0 := by
      rw [Int.natCast_add, Int.mul_add]
      omega
    rw [e3, if_neg (show ¬ 0 < 0 by omega)]
    split
    · have := @hu (t % xs.length - 1) (by omega)
      rw [show t % xs.length - 1 + 1 = xs.length - 1 by omega] at this
      omega
    · omega
  · have h := Nat.div_add_mod t xs.length
    have e0 : t + 1 = (t % xs.length + 1) + xs.length * (t / xs.length) := by omega
    have e1 : (t + 1) / xs.length = t / xs.length := by
      rw [e0, Nat.add_mul_div_left _ _ hL, Nat.div_eq_of_lt (by omega)]
      omega
    have e2 : (t + 1) % xs.length = t % xs.length + 1 := by
      rw [e0, Nat.add_mul_mod_self_left, Nat.mod_eq_of_lt (by omega)]
    rw [e1, e2, if_pos (show 0 < t % xs.length + 1 by omega), show t % xs.length + 1 - 1 = t % xs.length by omega]
    have := (h3 (t % xs.length) hr).1
    split
    · have := @hu (t % xs.length - 1) (by omega)
      rw [show t % xs.length - 1 + 1 = t % xs.length by omega] at this
      omega
    · omega
/-- What is added up to a turn never falls. -/
theorem addF_up {cs ys : List Int} (hv : Nums cs) (hu : Ups cs) (hr : Row60 ys) {t : Nat} (ht : t < ys.length) : addF (totF ys) cs t ≤ addF (totF ys) cs (t + 1) := by
  obtain ⟨p, hp, e⟩ := addF_mem (totF ys) cs (t + 1)
  rw [e]
  have hmin : ∀ q, q ≤ t → addF (totF ys) cs t ≤ (totF ys)[t - q]?.getD 0 + leastF cs q := fun q hq => minP_le (lo := 0) (M := t) (fun p => (totF ys)[t - p]?.getD 0 + leastF cs p) (p := q) (Nat.zero_le _) hq
  by_cases hpt : p ≤ t
  · have h1 := hmin p hpt
    have h2 : (totF ys)[t + 1 - p]?.getD 0 = preS ys (t + 1 - p) := by rw [totF_pre, preL_get (by omega)]
    have h3 : (totF ys)[t - p]?.getD 0 = preS ys (t - p) := by rw [totF_pre, preL_get (by omega)]
    have h4 : preS ys (t + 1 - p) = preS ys (t - p) + ys[t - p]?.getD 0 := by rw [show t + 1 - p = t - p + 1 by omega, preS]
    have h5 := (hr.2 (t - p) (by omega)).1
    omega
  · obtain rfl : p = t + 1 := by omega
    have h1 := hmin t (Nat.le_refl _)
    rw [Nat.sub_self] at h1 ⊢
    have := leastF_up hv hu t
    omega
theorem addF_nonneg {cs ys : List Int} (hv : Nums cs) (hr : Row60 ys) {t : Nat} (ht : t ≤ ys.length) : 0 ≤ addF (totF ys) cs t := by
  obtain ⟨p, hp, e⟩ := addF_mem (totF ys) cs t
  have h1 := (leastF_bound hv p).1
  have h2 := (preS_bound hr (t - p) (by omega)).1
  rw [e, totF_pre, preL_get (by omega)]
  omega
theorem addF_zero {cs ys : List Int} (hv : Nums cs) (hr : Row60 ys) : addF (totF ys) cs 0 = 0 := by
  have h1 := addF_nonneg hv hr (Nat.zero_le _)
  have h2 := addF_le (xs := cs) (ys := ys) (Nat.zero_le _)
  have e : preS ys 0 = 0 := rfl
  omega
/-- What the program's shaft adds, turn by turn. -/
def ownA (cs ys : List Int) : List Int := mapL (fun i => addF (totF ys) cs (i + 1) - addF (totF ys) cs i) ys.length
theorem ownA_len (cs ys : List Int) : (ownA cs ys).length = ys.length := mapL_len _ _
theorem ownA_is (cs ys : List Int) : difL (addL (totF ys) cs) ys.length = ownA cs ys := by
  rw [difL_dif]
  unfold difP ownA mapL
  refine List.map_congr_left fun j hj => ?_
  have hj := List.mem_range.1 hj
  have hl : (totF ys).length = ys.length + 1 := by rw [totF_pre]; simp [preL]
  unfold difF
  rw [addL_get (by omega), addL_get (by omega)]
theorem preS_ownA {cs ys : List Int} (hv : Nums cs) (hr : Row60 ys) {j : Nat} (hj : j ≤ ys.length) : preS (ownA cs ys) j = addF (totF ys) cs j := preS_diff (addF (totF ys) cs) (addF_zero hv hr) _ _ hj
theorem preS_255 {ys : List Int} (h : ∀ k : Nat, 0 ≤ ys[k]?.getD 0 ∧ ys[k]?.getD 0 ≤ 255) : ∀ j : Nat, preS ys j ≤ 255 * j
  | 0 => by simp [preS]
  | j + 1 => by
    have := preS_255 h j
    have := (h j).2
    rw [preS]
    omega
theorem bytes_row {ys : List Int} (h : ∀ k : Nat, 0 ≤ ys[k]?.getD 0 ∧ ys[k]?.getD 0 ≤ 255) (hl : ys.length ≤ 20) : rowF ys = 0 := rowF_zero (by omega) fun j _ => by have := h j; omega
theorem ownA_row {cs ys : List Int} (hv : Nums cs) (hu : Ups cs) (h : ∀ k : Nat, 0 ≤ ys[k]?.getD 0 ∧ ys[k]?.getD 0 ≤ 255) (hl : ys.length ≤ 20) : rowF (ownA cs ys) = 0 := by
  have hr := row_of (bytes_row h hl)
  refine rowF_zero (by rw [ownA_len]; omega) fun j hj => ?_
  rw [ownA_len] at hj
  unfold ownA
  rw [mapL_get hj]
  have h1 := addF_up hv hu hr hj
  have h2 := addF_nonneg hv hr (t := j) (by omega)
  have h3 := addF_le (xs := cs) (ys := ys) (t := j + 1) (by omega)
  have h4 := preS_255 h (j + 1)
  omega
theorem addgL_len (cs ys bs : List Int) (k : Nat) : (addgL cs ys bs k).length = k := mapL_len _ _
theorem addgL_row {cs ys : List Int} (bs : List Int) (h : ∀ k : Nat, 0 ≤ ys[k]?.getD 0 ∧ ys[k]?.getD 0 ≤ 255) (hl : ys.length ≤ 20) : rowF (addgL cs ys bs ys.length) = 0 := by
  have hr := row_of (bytes_row h hl)
  refine rowF_zero (by rw [addgL_len]; omega) fun j hj => ?_
  rw [addgL_len] at hj
  unfold addgL
  rw [mapL_get hj]
  have h1 := addg_spec (xs := cs) bs hr j (by omega)
  have h2 := addg_spec (xs := cs) bs hr (j + 1) (by omega)
  have h4 := preS_255 h (j + 1)
  have := h1.2.2.1 hj
  omega
theorem chk_tally {cs ys zs : List Int} (hc : curveF cs = 0) (hy : rowF ys = 0) (hz : rowF zs = 0) (hl : ys.length = zs.length) (h1 : ∀ j, j ≤ ys.length → preS zs j ≤ preS ys j) : checkAddedR cs ys zs = if reachF (totF zs) (addL (totF ys) cs) = false then 18 else 0 := by
  have ht : tallyE ys zs = 0 := by
    unfold tallyE
    rw [if_neg (by rw [rowsF_is, if_neg (by rw [hy]; simp), hz]; simp), if_neg (by rw [hl]; simp), if_neg]
    rw [reach_true fun k hk => ?_]
    · simp
    · rw [totF_pre] at hk
      have hk : k < zs.length + 1 := by simpa [preL] using hk
      rw [totF_pre, totF_pre, preL_get (by omega), preL_get (by omega)]
      exact h1 k (by omega)
  unfold checkAddedR
  rw [if_neg (by rw [hc]; simp), if_neg (by rw [ht]; simp)]
theorem chk_ok {cs ys zs : List Int} (hc : curveF cs = 0) (hy : rowF ys = 0) (hz : rowF zs = 0) (hl : ys.length = zs.length) (h1 : ∀ j, j ≤ ys.length → preS zs j ≤ preS ys j) (h2 : ∀ j, j ≤ ys.length → addF (totF ys) cs j ≤ preS zs j) : checkAddedR cs ys zs = 0 := by
  rw [chk_tally hc hy hz hl h1, reach_true fun k hk => ?_]
  · simp
  · rw [addL_len, totF_len] at hk
    rw [addL_get (by rw [totF_len]; exact hk), totF_pre zs, preL_get (by omega)]
    exact h2 k (by omega)
theorem chk_bad {cs ys zs : List Int} (hc : curveF cs = 0) (hy : rowF ys = 0) (hz : rowF zs = 0) (hl : ys.length = zs.length) (h1 : ∀ j, j ≤ ys.length → preS zs j ≤ preS ys j) {k : Nat} (hk : k ≤ ys.length) (h2 : preS zs k < addF (totF ys) cs k) : checkAddedR cs ys zs = 18 := by
  rw [chk_tally hc hy hz hl h1, reach_false (k := k) (by rw [addL_len, totF_len]; omega)]
  · simp
  · rw [addL_get (by rw [totF_len]; omega), totF_pre zs, preL_get (by omega)]
    exact h2
theorem preS_set {xs : List Int} {k : Nat} (hk : k < xs.length) (v : Int) : ∀ j, preS (xs.set k v) j = if j ≤ k then preS xs j else preS xs j + (v - xs[k]?.getD 0)
  | 0 => by simp [preS]
  | j + 1 => by
    rw [preS, preS, preS_set hk v j, List.getElem?_set]
    by_cases e : k = j
    · subst e
      rw [if_pos (Nat.le_refl _), if_pos rfl, if_pos hk, if_neg (by omega), Option.getD_some]
      omega
    · rw [if_neg e]
      by_cases h : j + 1 ≤ k
      · rw [if_pos h, if_pos (by omega)]
      · rw [if_neg h, if_neg (by omega)]
        omega
/-- The program's row with one less at a turn. -/
def worseA (cs ys : List Int) (k : Nat) : List Int := (ownA cs ys).set k ((ownA cs ys)[k]?.getD 0 - 1)
theorem worse_bad {cs ys : List Int} (hc : curveF cs = 0) (h : ∀ k : Nat, 0 ≤ ys[k]?.getD 0 ∧ ys[k]?.getD 0 ≤ 255) (hl : ys.length ≤ 20) {k : Nat} (hk : k < ys.length) (h0 : (ownA cs ys)[k]?.getD 0 ≠ 0) : checkAddedR cs ys (worseA cs ys k) = 18 := by
  have hv := nums_of hc
  have hu := ups_of hc
  have hr := row_of (bytes_row h hl)
  have ho := row_of (ownA_row hv hu h hl)
  have hlo := ownA_len cs ys
  have hk' : k < (ownA cs ys).length := by omega
  have hp := fun j => preS_set hk' ((ownA cs ys)[k]?.getD 0 - 1) j
  refine chk_bad hc (bytes_row h hl) ?_ (by unfold worseA; rw [List.length_set, hlo]) (fun j hj => ?_) (k := k + 1) (by omega) ?_
  · refine rowF_zero (by unfold worseA; rw [List.length_set]; omega) fun j hj => ?_
    unfold worseA at hj ⊢
    rw [List.length_set] at hj
    rw [List.getElem?_set]
    have b1 := ho.2 j hj
    have b2 := ho.2 k hk'
    split
    · rw [Option.getD_some]
      omega
    · exact b1
  · unfold worseA
    rw [hp j]
    have b1 := preS_ownA hv hr hj
    have b2 := addF_le (xs := cs) hj
    split <;> omega
  · unfold worseA
    rw [hp (k + 1), if_neg (by omega), preS_ownA hv hr (by omega)]
    omega
theorem list_of (ys : List Int) : mapL (fun i => ys[i]?.getD 0) ys.length = ys := by
  refine List.ext_getElem (mapL_len _ _) fun i h1 h2 => ?_
  simp [mapL, h2]
theorem added_ok {cs ys : List Int} (hc : curveF cs = 0) (h : ∀ k : Nat, 0 ≤ ys[k]?.getD 0 ∧ ys[k]?.getD 0 ≤ 255) (hl : ys.length ≤ 20) (bs : List Int) : checkAddedR cs ys (addgL cs ys bs ys.length) = 0 ∧ checkAddedR cs ys (ownA cs ys) = 0 ∧ checkAddedR cs ys ys = 0 ∧ (∀ j, j ≤ ys.length → preS (ownA cs ys) j ≤ preS (addgL cs ys bs ys.length) j) := by
  have hv := nums_of hc
  have hu := ups_of hc
  have hb := bytes_row h hl
  have hr := row_of hb
  refine ⟨chk_ok hc hb (addgL_row bs h hl) (addgL_len _ _ _ _).symm (fun j hj => ?_) fun j hj => ?_, chk_ok hc hb (ownA_row hv hu h hl) (ownA_len _ _).symm (fun j hj => ?_) fun j hj => ?_, chk_ok hc hb hb rfl (fun _ _ => Int.le_refl _) fun j hj => addF_le hj, fun j hj => ?_⟩
  · rw [preS_addg bs hj]
    exact (addg_spec bs hr j hj).2.1
  · rw [preS_addg bs hj]
    exact (addg_spec bs hr j hj).2.2.2
  · rw [preS_ownA hv hr hj]
    exact addF_le hj
  · rw [preS_ownA hv hr hj]
    exact Int.le_refl _
  · rw [preS_ownA hv hr hj, preS_addg bs hj]
    exact (addg_spec bs hr j hj).2.2.2
end Go.Proofs.Ytlgibckhkdggdaa

/- lag: LagLazy. -/
namespace Go.Proofs.Ytlgibckhkdggdaa
open Go.RowKit Go.Shelf

attribute [local go_sem] Oper.semAt_some

theorem block_set (W : World) (b i : Nat) (u : Value) (cs : Array Value) (t : TypeId) (h : W.heap[b]? = some (.cells cs t (0, 0))) : (W.setCell ⟨b, i, none⟩ u).heap[b]? = some (.cells (cs.setIfInBounds i u) t (0, 0)) := by
  simp [World.setCell, Array.getElem?_modify, h]
theorem row_set {W : World} {base g cap n : Nat} {e : TypeId} {xs : List Value} (h : W.ownsRow base e 1 (.slice (some ⟨g, 0, none⟩) n cap) n xs) (i : Nat) (u : Value) :
    (W.setCell ⟨g, i, none⟩ u).ownsRow base e 1 (.slice (some ⟨g, 0, none⟩) n cap) n (xs.set i u) := by
  refine ⟨by rw [List.length_set]; exact h.1, ?_⟩
  rcases h.2 with ⟨he, -⟩ | ⟨g', cap', cur, he, hb, hg, hle, hmx, hcs, htk⟩
  · cases he
  · cases he
    refine .inr ⟨g, cap, cur.setIfInBounds i u, rfl, hb, block_set W g i u cur e hg, hle, hmx, by simpa using hcs, ?_⟩
    rw [← htk]
    simp [List.take_set]
theorem row_frozen {W : World} {base g cap n : Nat} {e : TypeId} {size : Nat} {xs : List Value} (h : W.ownsRow base e size (.slice (some ⟨g, 0, none⟩) n cap) n xs) (i : Nat) : W.frozen? ⟨g, i, none⟩ = false := by
  rcases h.2 with ⟨he, -⟩ | ⟨g', cap', cur, he, hb, hg, -⟩
  · cases he
  · cases he
    simp [World.frozen?, hg]
theorem own_sm {W : World} {B n : Nat} {v : Value} {xs : List Int} (h : W.ownsRow B 2 1 v n (xs.map (Value.int .i64))) (hn : 1 ≤ n) : ∃ g c, v = .slice (some ⟨g, 0, none⟩) n c ∧ n ≤ c := by
  rcases h.2 with ⟨-, h0⟩ | ⟨g, cap, cur, e, -, -, hc, -⟩
  · omega
  · exact ⟨g, cap, e, hc⟩
theorem ints_cells {W : World} {B n : Nat} {b : Addr} {xs : List Int} (h : IntsAt W B (some b) n xs) : ∀ j u, (xs.map (Value.int .i64))[j]? = some u → W.cell? (b.add j) = some u := by
  intro j u hu
  have hj : j < n := by
    have := (List.getElem?_eq_some_iff.1 hu).1
    rw [← h.len]; simpa using this
  obtain ⟨b1, o1, e, -, hc⟩ := h.cell hj
  cases e
  have hu' : u = .int .i64 (xs[j]?.getD 0) := by
    rw [List.getElem?_map] at hu
    rw [List.getElem?_eq_getElem (by rw [h.len]; exact hj)] at hu ⊢
    simpa using hu.symm
  have ha : (⟨b1, o1, none⟩ : Addr).add j = ⟨b1, o1 + j, none⟩ := by simp [Addr.add]
  rw [ha, hu']
  exact hc
set_option maxRecDepth 100000 in
set_option maxHeartbeats 32000000 in
theorem LagLazy_any (w : World) (A A2 A3 : Option Addr) (n c m c2 n3 c3 : Nat) (xs bs ms : List Int) (which : Int) (hx : IntsAt w w.heap.size A n xs) (hy : U8At w w.heap.size A2 m bs) (hz : U8At w w.heap.size A3 n3 ms) (h1 : 0 ≤ which ∧ which ≤ 255) :
    Calls Try.prog 11 #[.slice A n c, .slice A2 m c2, .slice A3 n3 c3, .int .u8 which] w fun e w' => e = .returned (.bool true) ∧ Below w.heap.size w w' := by
  obtain ⟨i0, hi, hz0, hz1, hz2⟩ := info_parts infoI64
  have hm := hx.small
  have hm2 := hy.small
  have hm3 := hz.small
  have Hly := Lib.hid hy.len
  cases hf : fineF xs with
  | false =>
    have Hf := Lib.hid hf
    clear hf
    go_enter Try.func11, Try.ntmps11
    go_wp2_with (fail)
    refine (fine_any w _ A n c xs hx).mono ?_
    rintro e w1 ⟨rfl, hb⟩
    rw [Hf.out]
    go_wp2_with (fail)
    refine (Works_any w1).mono ?_
    rintro e w2 ⟨rfl, hb2⟩
    go_wp2_with (fail)
    exact bodyPost_ret (results_tmp rfl _ _ _) rfl ⟨rfl, hb.trans (hb2.mono hb.size)⟩
  | true =>
    have hc : curveF xs = 0 := by unfold fineF at hf; exact of_decide_eq_true hf
    have Hf := Lib.hid hf
    have Hc := Lib.hid hc
    clear hf hc
    by_cases h20 : 20 < (m : Int)
    · go_enter Try.func11, Try.ntmps11
      go_wp2_with (fail)
      refine (fine_any w _ A n c xs hx).mono ?_
      rintro e w1 ⟨rfl, hb⟩
      rw [Hf.out]
      go_wp2_with (fail)
      refine (Works_any w1).mono ?_
      rintro e w2 ⟨rfl, hb2⟩
      go_wp2_with (fail)
      exact bodyPost_ret (results_tmp rfl _ _ _) rfl ⟨rfl, hb.trans (hb2.mono hb.size)⟩
    by_cases h21 : 20 < (n3 : Int)
    · go_enter Try.func11, Try.ntmps11
      go_wp2_with (fail)
      refine (fine_any w _ A n c xs hx).mono ?_
      rintro e w1 ⟨rfl, hb⟩
      rw [Hf.out]
      go_wp2_with (fail)
      refine (Works_any w1).mono ?_
      rintro e w2 ⟨rfl, hb2⟩
      go_wp2_with (fail)
      exact bodyPost_ret (results_tmp rfl _ _ _) rfl ⟨rfl, hb.trans (hb2.mono hb.size)⟩
    have hm20 : m ≤ 20 := by omega
    obtain ⟨wn, rfl⟩ : ∃ wn : Nat, which = (wn : Int) := ⟨which.toNat, by omega⟩
    go_enter Try.func11, Try.ntmps11
    go_wp2_with (fail)
    refine (fine_any w _ A n c xs hx).mono ?_
    rintro e w1 ⟨rfl, B1⟩
    rw [Hf.out]
    have hB1z := B1.size
    go_wp2_with (fail)
    go_loopg [9, 10] m (fun g' v9 v10 wr => ∃ t : Nat, (t ≤ m ∧ g' = m - t ∧ v10 = .int .i64 (t : Int)) ∧ wr.ownsRow w1.heap.size 2 1 v9 t ((mapL (fun i => bs[i]?.getD 0) t).map (.int .i64)) ∧ Below w1.heap.size w1 wr)
    case atStart => exact ⟨0, ⟨by omega, rfl, rfl⟩, World.ownsRow_nil _ _ _ _, Below.refl _ _⟩
    case round =>
      obtain ⟨t, ⟨ht, rfl, rfl⟩, hrow, hb⟩ := hrel
      have hsz := hb.size
      have hbw := B1.trans (hb.mono hB1z)
      by_cases hlt : t < m
      case pos =>
        obtain ⟨b2, o2, rfl, hb2l, c2', l0, l1⟩ := (hy.below hbw (Nat.le_refl _)).cell hlt
        obtain ⟨x, hx0⟩ : ∃ x, x = bs[t]?.getD 0 := ⟨_, rfl⟩
        rw [← hx0] at c2' l0 l1
        have u1 : IntKind.i64.wrap x = x := by rw [IntKind.wrap_i64]; omega
        have u2 : IntKind.i64.wrap ((t : Int) + 1) = (t : Int) + 1 := by rw [IntKind.wrap_i64]; omega
        have Hx := Lib.hid hx0
        have hb2w : b2 < wr.heap.size := by omega
        clear hx0 l0 l1
        go_wp2_with (at_builtin; refine wpList_append_own_at _ rfl _ _ 22 rfl w1.heap.size 2 i0 (.int .i64 0) 1 8 Try.underlying22 hi hz0 hz1 hz2 rfl (by decide) _ _ _ rfl (hrow.alloc _) ⟨wr.heap.size, 0, none⟩ 1 1 [.int .i64 x] rfl rfl (cell_one_new _ _ _) (by simp [Value.oneCell']) (by simp only [maxLen]; omega) (by omega) (by simp; omega) ?_; intro v9' wA hown9 hgrow9 _ hat9)
        go_roundg (m - (t + 1))
        case measure => omega
        case rel =>
          refine ⟨t + 1, ⟨by omega, rfl, by simp⟩, ?_, (hb.alloc hsz _).trans ((Below.refl _ _).grown hgrow9 (by simp; omega) (fun r e => (hrow.lt r e).1))⟩
          rw [mapL_succ, ← Hx.out, List.map_append]
          exact hown9
      case neg =>
        obtain rfl : t = m := by omega
        have hyb := hy.bound
        obtain ⟨A9, c9, rfl, hc9, i9⟩ := own_form hrow (by omega)
        rw [show mapL (fun i => bs[i]?.getD 0) t = bs by rw [← Hly.out]; exact list_of bs] at i9
        have I9 := Lib.hid i9
        have hbz := hbw.size
        have hbr := Lib.hid (bytes_row hyb (by rw [Hly.out]; exact hm20))
        have hA := added_ok Hc.out hyb (by rw [Hly.out]; exact hm20) ms
        have hor := Lib.hid (ownA_row (nums_of Hc.out) (ups_of Hc.out) hyb (by rw [Hly.out]; exact hm20))
        have hgr := addgL_row (cs := xs) ms hyb (by rw [Hly.out]; exact hm20)
        rw [Hly.out] at hgr
        have hgr := Lib.hid hgr
        have hwb := fun k => worse_bad (k := k) Hc.out hyb (by rw [Hly.out]; exact hm20)
        rw [Hly.out] at hA
        have HA := Lib.hid hA
        have HW := Lib.hid hwb
        clear hrow hb hsz i9 hA hyb hwb
        go_wp2_with (fail)
        refine (Adding_any wr _ _ _ A A9 A3 n c t c9 n3 c3 xs bs ms (hx.below hbw (Nat.le_refl _)) hbz I9.out (Nat.le_refl _) (hz.below hbw (Nat.le_refl _)) hbz Hc.out (row_of hbr.out)).mono ?_
        rintro e w2 ⟨v2, rfl, hk2, hb⟩
        obtain ⟨A11, c11, rfl, hc11, i11⟩ := own_form hk2 (by omega)
        have B2 := hbw.trans (hb.mono hbz)
        have I9 := Lib.hid (ints_up I9.out hb)
        have I11 := Lib.hid i11
        clear hk2 hb hbw hbz i11
        go_wp2_with (fail)
        refine (Added_any w2 _ _ A A9 n c t c9 xs bs (hx.below B2 (Nat.le_refl _)) B2.size I9.out (Nat.le_refl _)).mono ?_
        rintro e w3 ⟨hP, hb⟩
        obtain ⟨g12, rfl, r12⟩ : ∃ g, e = .returned (.tuple #[.slice (some ⟨g, 0, none⟩) t t, .int .i64 0]) ∧ RowZ w3 g (ownA xs bs) := by
          rcases hP with ⟨h, -⟩ | ⟨-, h, -⟩ | ⟨-, -, g, -, e, hr⟩
          · exact absurd Hc.out h
          · exact absurd hbr.out h
          · rw [Hly.out] at e
            rw [ownA_is] at hr
            exact ⟨g, e, hr⟩
        have B3 := B2.trans (hb.mono B2.size)
        have I12 := Lib.hid (r12.ints (show (ownA xs bs).length = t by rw [ownA_len]; exact Hly.out) (by omega))
        have I9 := Lib.hid (ints_up I9.out hb)
        have I11 := Lib.hid (ints_up I11.out hb)
        clear hP hb B2 r12
        go_wp2_with (fail)
        refine (CheckAdded_any w3 _ _ _ A A9 A11 n c t c9 t c11 xs bs (addgL xs bs ms t) (hx.below B3 (Nat.le_refl _)) B3.size I9.out (Nat.le_refl _) I11.out (Nat.le_refl _)).mono ?_
        rintro e w4 ⟨rfl, hb⟩
        rw [HA.out.1]
        have B4 := B3.trans (hb.mono B3.size)
        have I9 := Lib.hid (ints_up I9.out hb)
        have I11 := Lib.hid (ints_up I11.out hb)
        have I12 := Lib.hid (ints_up I12.out hb)
        clear hb B3
        go_wp2_with (fail)
        refine (CheckAdded_any w4 _ _ _ A A9 (some ⟨g12, 0, none⟩) n c t c9 t t xs bs (ownA xs bs) (hx.below B4 (Nat.le_refl _)) B4.size I9.out (Nat.le_refl _) I12.out (Nat.le_refl _)).mono ?_
        rintro e w5 ⟨rfl, hb⟩
        rw [HA.out.2.1]
        have B5 := B4.trans (hb.mono B4.size)
        have I9 := Lib.hid (ints_up I9.out hb)
        have I11 := Lib.hid (ints_up I11.out hb)
        have I12 := Lib.hid (ints_up I12.out hb)
        clear hb B4
        go_wp2_with (fail)
        refine (CheckAdded_any w5 _ _ _ A A9 A9 n c t c9 t c9 xs bs bs (hx.below B5 (Nat.le_refl _)) B5.size I9.out (Nat.le_refl _) I9.out (Nat.le_refl _)).mono ?_
        rintro e w6 ⟨rfl, hb⟩
        rw [HA.out.2.2.1]
        have B6 := B5.trans (hb.mono B5.size)
        have I9 := Lib.hid (ints_up I9.out hb)
        have I11 := Lib.hid (ints_up I11.out hb)
        have I12 := Lib.hid (ints_up I12.out hb)
        clear hb B5
        go_wp2_with (fail)
        refine (rSums_any w6 _ (some ⟨g12, 0, none⟩) t t (ownA xs bs) I12.out (Nat.le_refl _) (by omega) (fun j hj => by have := preS_bound (row_of hor.out) j (by rw [I12.out.len]; exact hj); omega)).mono ?_
        rintro e w7 ⟨v14, rfl, hs, hb⟩
        obtain ⟨A14, c14, rfl, -, i14⟩ := OwnZ.row hs (by rw [preL_len]; omega)
        rw [preL_len] at i14 ⊢
        have B7 := B6.trans (hb.mono B6.size)
        have I9 := Lib.hid (ints_up I9.out hb)
        have I12 := Lib.hid (ints_up I12.out hb)
        have I14 := Lib.hid i14
        have I11 := Lib.hid (ints_up I11.out hb)
        clear hb hs i14 B6
        go_wp2_with (fail)
        refine (rSums_any w7 _ A11 t c11 (addgL xs bs ms t) I11.out (Nat.le_refl _) (by omega) (fun j hj => by have := preS_bound (row_of hgr.out) j (by rw [I11.out.len]; exact hj); omega)).mono ?_
        rintro e w8 ⟨v15, rfl, hs, hb⟩
        obtain ⟨A15, c15, rfl, -, i15⟩ := OwnZ.row hs (by rw [preL_len]; omega)
        rw [preL_len] at i15 ⊢
        have B8 := B7.trans (hb.mono B7.size)
        have I9 := Lib.hid (ints_up I9.out hb)
        have I12 := Lib.hid (ints_up I12.out hb)
        have I14 := Lib.hid (ints_up I14.out hb)
        have I15 := Lib.hid i15
        clear hb hs i15 B7
        obtain ⟨K, hK⟩ : ∃ K, K = t + 1 := ⟨_, rfl⟩
        rw [← hK] at I14 I15 ⊢
        have HK := Lib.hid hK
        have hK21 : K ≤ 21 := by omega
        clear hK I11
        go_wp2_with (fail)
        go_loopg [16] K (fun g' v16 wr => ∃ j q : Nat, (j ≤ K ∧ g' = K - j ∧ v16 = .int .i64 (j : Int)) ∧ Hid (wr = w8.drewN q))
        case atStart => exact ⟨0, 0, ⟨by omega, rfl, rfl⟩, Lib.hid rfl⟩
        case round =>
          obtain ⟨j, q, ⟨hj, rfl, rfl⟩, hq⟩ := hrel
          have hwj : IntKind.i64.wrap ((j : Int) + 1) = (j : Int) + 1 := by rw [IntKind.wrap_i64]; omega
          by_cases hjK : j < K
          case pos =>
            obtain ⟨b1, o1, rfl, -, d1⟩ := (I14.out.drewN q).cell (k := j) hjK
            obtain ⟨b2, o2, rfl, -, d2⟩ := (I15.out.drewN q).cell (k := j) hjK
            rw [← hq.out] at d1 d2
            rw [preL_get (by have := HK.out; omega)] at d1 d2
            have hle := HA.out.2.2.2 j (by have := HK.out; omega)
            obtain ⟨p1, hp1⟩ : ∃ p, p = preS (ownA xs bs) j := ⟨_, rfl⟩
            obtain ⟨p2, hp2⟩ : ∃ p, p = preS (addgL xs bs ms t) j := ⟨_, rfl⟩
            rw [← hp1] at d1 hle
            rw [← hp2] at d2 hle
            have hle' : ¬ p2 < p1 := by omega
            clear hp1 hp2 hle
            go_wp2
            go_quiet (fail)
            go_wp2
            go_roundg (K - (j + 1))
            case measure => omega
            case rel => exact ⟨j + 1, _, ⟨by omega, rfl, by simp⟩, Lib.hid (by rw [hq.out]; simp only [World.drewN_drewN]; rfl)⟩
          case neg =>
            obtain rfl : j = K := by omega
            have hbq : Below w8.heap.size w8 wr := by rw [hq.out]; exact below_drewN _ _
            have B9 := B8.trans (hbq.mono B8.size)
            have I9 := Lib.hid (ints_up I9.out hbq)
            have I12 := Lib.hid (ints_up I12.out hbq)
            clear hq hbq B8 I14 I15
            by_cases h0 : t = 0
            case pos =>
              have h0' : (t : Int) = 0 := by omega
              clear h0
              go_wp2_with (fail)
              refine (Works_any wr).mono ?_
              rintro e wl ⟨rfl, hb2⟩
              go_wp2_with (fail)
              exact bodyPost_ret (results_tmp rfl _ _ _) rfl ⟨rfl, B9.trans (hb2.mono B9.size)⟩
            case neg =>
              have h0' : ¬ (t : Int) = 0 := by omega
              obtain ⟨k, hk⟩ : ∃ k, k = wn % t := ⟨_, rfl⟩
              have hkt : k < t := by rw [hk]; exact Nat.mod_lt _ (by omega)
              have u1 : (wn : Int).tmod (t : Int) = (k : Int) := by rw [hk]; exact (Int.ofNat_tmod wn t).symm
              have u2 : IntKind.i64.wrap (wn : Int) = (wn : Int) := by rw [IntKind.wrap_i64]; omega
              have u3 : IntKind.i64.wrap (k : Int) = (k : Int) := by rw [IntKind.wrap_i64]; omega
              obtain ⟨bg, og, eg, hgl, cg⟩ := I12.out.cell hkt
              cases eg
              rw [Nat.zero_add] at cg
              have hob := (row_of hor.out).2 k (by rw [ownA_len, Hly.out]; exact hkt)
              obtain ⟨y, hye⟩ : ∃ y, y = (ownA xs bs)[k]?.getD 0 := ⟨_, rfl⟩
              rw [← hye] at cg hob
              have Hye := Lib.hid hye
              clear hye hk
              by_cases hy0 : y = 0
              case pos =>
                rw [hy0] at cg
                clear hy0 hob
                go_wp2_with (fail)
                refine (Works_any wr).mono ?_
                rintro e wl ⟨rfl, hb2⟩
                go_wp2_with (fail)
                exact bodyPost_ret (results_tmp rfl _ _ _) rfl ⟨rfl, B9.trans (hb2.mono B9.size)⟩
              case neg =>
                have HWk := Lib.hid (HW.out k (by rw [Hly.out]; exact hkt) (by rw [← Hye.out]; exact hy0))
                have hlo : (ownA xs bs).length = t := by rw [ownA_len]; exact Hly.out
                have hr0 := World.ownsRow_made (base := wr.heap.size) (e := 2) (size := 1) wr #[] 0 (Nat.le_refl _) (by simp [maxLen]) rfl
                have u4 : IntKind.i64.wrap (y - 1) = y - 1 := by rw [IntKind.wrap_i64]; omega
                have i12V := I12.out.below ((Below.refl wr.heap.size wr).alloc (Nat.le_refl _) (.cells #[] 2)) (Nat.le_refl _)
                have Hlo := Lib.hid hlo
                have I12V := Lib.hid i12V
                clear hob hlo i12V
                go_wp2_with (at_builtin; refine wpList_append_own_at _ rfl _ _ 22 rfl wr.heap.size 2 i0 (.int .i64 0) 1 8 Try.underlying22 hi hz0 hz1 hz2 rfl (by decide) (.slice (some ⟨wr.heap.size, 0, none⟩) 0 0) 0 [] rfl hr0 ⟨g12, 0, none⟩ t t ((ownA xs bs).map (.int .i64)) rfl (by simp [Hlo.out]) (ints_cells I12V.out) (by simp [Value.oneCell']) (by simp only [maxLen]; omega) (by omega) (by simp) ?_; intro v' wA hown' hgrow _ hat; rw [Nat.zero_add, List.nil_append] at hown'; obtain ⟨g18, c18, rfl, hc18⟩ := own_sm hown' (by omega); have hcell := own_cell hown' hkt; rw [← Hye.out] at hcell; have hfz := row_frozen hown' k)
                have hlt18 := hown'.lt g18 rfl
                have hbS : Below wr.heap.size wr (wA.setCell ⟨g18, k, none⟩ (.int .i64 (y - 1))) := (((Below.refl wr.heap.size wr).alloc (Nat.le_refl _) _).trans ((Below.refl _ _).grown hgrow (by simp) (fun r e => (hr0.lt r e).1))).setCell (p := ⟨g18, k, none⟩) hlt18.1 _
                have hrs := row_set hown' k (.int .i64 (y - 1))
                rw [show ((ownA xs bs).map (Value.int .i64)).set k (.int .i64 (y - 1)) = (worseA xs bs k).map (.int .i64) by unfold worseA; rw [List.map_set, ← Hye.out]] at hrs
                have I18 := Lib.hid (OwnZ.ints hrs (by omega))
                have I9 := Lib.hid (ints_up I9.out hbS)
                have B10 := B9.trans (hbS.mono B9.size)
                clear hrs hbS hlt18 hown' hgrow hr0 B9 hcell hfz cg
                generalize wA.setCell ⟨g18, k, none⟩ (.int .i64 (y - 1)) = wS at I18 I9 B10 ⊢
                refine (CheckAdded_any wS _ _ _ A A9 (some ⟨g18, 0, none⟩) n c t c9 t c18 xs bs (worseA xs bs k) (hx.below B10 (Nat.le_refl _)) B10.size I9.out (Nat.le_refl _) I18.out (Nat.le_refl _)).mono ?_
                rintro e w10 ⟨rfl, hb⟩
                rw [HWk.out]
                have B11 := B10.trans (hb.mono B10.size)
                go_wp2_with (fail)
                refine (Works_any w10).mono ?_
                rintro e wl ⟨rfl, hb2⟩
                go_wp2_with (fail)
                exact bodyPost_ret (results_tmp rfl _ _ _) rfl ⟨rfl, B11.trans (hb2.mono B11.size)⟩
end Go.Proofs.Ytlgibckhkdggdaa
