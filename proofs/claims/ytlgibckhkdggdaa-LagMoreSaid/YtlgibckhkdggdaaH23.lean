/- Parts of a proof: TN TO TP TQ. -/
import Derived.Test.YtlgibckhkdggdaaH22

/- lag's law: through. -/
namespace Go.Proofs.Ytlgibckhkdggdaa
open Go.RowKit Go.Shelf

attribute [local go_sem] Oper.semAt_some

/-- A row whose totals are rows' numbers, too. -/
def Fit (ys : List Int) : Prop := rowF ys = 0 ∧ ∀ j, j ≤ ys.length → preS ys j ≤ 10000
theorem Fit.own {cs ys : List Int} (hc : curveF cs = 0) (h : Fit ys) : Fit (ownA cs ys) := by
  have hr := row_of h.1
  have hv := nums_of hc
  refine ⟨rowF_zero (by rw [ownA_len]; exact hr.1) fun j hj => ?_, fun j hj => ?_⟩
  · rw [ownA_len] at hj
    unfold ownA
    rw [mapL_get hj]
    have h1 := addF_up hv (ups_of hc) hr hj
    have h2 := addF_nonneg hv hr (t := j) (by omega)
    have h3 := addF_le (xs := cs) (ys := ys) (t := j + 1) (by omega)
    have h4 := h.2 (j + 1) (by omega)
    omega
  · rw [ownA_len] at hj
    rw [preS_ownA hv hr hj]
    exact Int.le_trans (addF_le hj) (h.2 j hj)
def thrL (css : List (List Int)) (ys : List Int) : Nat → List Int
  | 0 => ys
  | i + 1 => ownA (css[i]?.getD []) (thrL css ys i)
theorem thrL_len (css : List (List Int)) (ys : List Int) : ∀ i, (thrL css ys i).length = ys.length
  | 0 => rfl
  | i + 1 => by rw [thrL, ownA_len, thrL_len css ys i]
theorem thrL_fit {css : List (List Int)} {ys : List Int} (hch : ∀ j, j < css.length → curveF (css[j]?.getD []) = 0) (h : Fit ys) : ∀ i, i ≤ css.length → Fit (thrL css ys i)
  | 0, _ => h
  | i + 1, hi => (thrL_fit hch h i (by omega)).own (hch i (by omega))
theorem own_chk {cs ys : List Int} (hc : curveF cs = 0) (h : Fit ys) : checkAddedR cs ys (ownA cs ys) = 0 := by
  have hr := row_of h.1
  have hv := nums_of hc
  refine chk_ok hc h.1 (h.own hc).1 (ownA_len _ _).symm (fun j hj => ?_) fun j hj => ?_
  · rw [preS_ownA hv hr hj]
    exact addF_le hj
  · rw [preS_ownA hv hr hj]
    exact Int.le_refl _
set_option maxRecDepth 100000 in
set_option maxHeartbeats 16000000 in
theorem through_any (w : World) (B : Nat) (A A2 : Option Addr) (K c m c2 : Nat) (css : List (List Int)) (ys : List Int) (hx : RowsAt w B A K css) (hB : B ≤ w.heap.size) (hy : IntsAt w w.heap.size A2 m ys) (hmc : m ≤ c2) (hch : ∀ j, j < css.length → curveF (css[j]?.getD []) = 0) (hf : Fit ys) :
    Calls Try.prog 56 #[.slice A K c, .slice A2 m c2] w fun e w' => (∃ A' c', e = .returned (.tuple #[.slice A' m c', .bool true]) ∧ m ≤ c' ∧ IntsAt w' w'.heap.size A' m (thrL css ys K)) ∧ Below w.heap.size w w' := by
  have hm1 := hx.2.1
  have Hlk := Lib.hid hx.1
  have Hly := Lib.hid hy.len
  have hm60 : m ≤ 60 := by have := (row_of hf.1).1; rw [Hly.out] at this; exact this
  have HC := Lib.hid hch
  have HF := Lib.hid (fun i (hi : i ≤ K) => thrL_fit hch hf i (by rw [Hlk.out]; exact hi))
  have HT := Lib.hid (fun i => (thrL_len css ys i).trans Hly.out)
  have I0 := Lib.hid hy
  clear hch hf hy
  go_enter Try.func56, Try.ntmps56
  go_wp2_with (fail)
  go_loopg [6, 7] K (fun g' v6 v7 wr => ∃ (i : Nat) (A5 : Option Addr) (c5 : Nat), (i ≤ K ∧ g' = K - i ∧ v7 = .int .i64 (i : Int) ∧ v6 = .slice A5 m c5 ∧ m ≤ c5) ∧ Hid (IntsAt wr wr.heap.size A5 m (thrL css ys i)) ∧ Below w.heap.size w wr)
  case atStart => exact ⟨0, A2, c2, ⟨by omega, rfl, rfl, rfl, hmc⟩, I0, Below.refl _ _⟩
  case round =>
    obtain ⟨i, A5, c5, ⟨hi, rfl, rfl, rfl, hc5⟩, I5, hb⟩ := hrel
    have hsz := hb.size
    by_cases hlt : i < K
    case pos =>
      obtain ⟨b2, o2, cs, A6, m6, c6, rfl, hb2, hcs, hcell, hci⟩ := (hx.below hb hB).at hlt
      have hb2w : b2 < wr.heap.size := by omega
      have hwi : IntKind.i64.wrap ((i : Int) + 1) = (i : Int) + 1 := by rw [IntKind.wrap_i64]; omega
      have hcs' : css[i]?.getD [] = cs := by rw [hcs]; rfl
      have hcc : curveF cs = 0 := by have := HC.out i (by rw [Hlk.out]; exact hlt); rw [hcs'] at this; exact this
      have Hcc := Lib.hid hcc
      have Hci := Lib.hid hci
      have Hnx := Lib.hid (show thrL css ys (i + 1) = ownA cs (thrL css ys i) by rw [thrL, hcs'])
      have Hcell := Lib.hid hcell
      clear hci hcs hcs' hcc
      go_wp2_with (fail)
      clear hcell
      refine (Added_any wr _ _ A6 A5 m6 c6 m c5 cs (thrL css ys i) Hci.out (by omega) I5.out (Nat.le_refl _)).mono ?_
      rintro e w3 ⟨hP, hb3⟩
      obtain ⟨g, rfl, r3⟩ : ∃ g, e = .returned (.tuple #[.slice (some ⟨g, 0, none⟩) m m, .int .i64 0]) ∧ RowZ w3 g (thrL css ys (i + 1)) := by
        rcases hP with ⟨h, -⟩ | ⟨-, h, -⟩ | ⟨-, -, g, -, e, hr⟩
        · exact absurd Hcc.out h
        · exact absurd (HF.out i hi).1 h
        · rw [HT.out i] at e
          have := ownA_is cs (thrL css ys i)
          rw [this, ← Hnx.out] at hr
          exact ⟨g, e, hr⟩
      have I7 := Lib.hid (r3.ints (HT.out (i + 1)) (by omega))
      have I5 := Lib.hid (ints_up I5.out hb3)
      have Hci := Lib.hid (Hci.out.below hb3 (by omega))
      have hcell := (hb3.cell (p := ⟨b2, o2 + i, none⟩) (show b2 < wr.heap.size by omega)).trans Hcell.out
      have hb3w := hb.trans (hb3.mono hsz)
      have hz3 := hb3w.size
      clear hP r3 hb3 Hcell hb
      go_wp2_with (fail)
      refine (rCheckAdded_any w3 _ _ _ A6 A5 (some ⟨g, 0, none⟩) m6 c6 m c5 m m cs (thrL css ys i) (thrL css ys (i + 1)) Hci.out (by omega) I5.out (Nat.le_refl _) I7.out (Nat.le_refl _)).mono ?_
      rintro e w4 ⟨rfl, hb4⟩
      rw [Hnx.out, own_chk Hcc.out (HF.out i hi)]
      have I7 := Lib.hid (ints_up I7.out hb4)
      have hb5 := hb3w.trans (hb4.mono hz3)
      clear hb4 hb3w hcell I5
      go_wp2_with (fail)
      go_roundg (K - (i + 1))
      case measure => omega
      case rel => exact ⟨i + 1, some ⟨g, 0, none⟩, m, ⟨by omega, rfl, by simp, rfl, Nat.le_refl _⟩, I7, hb5⟩
    case neg =>
      obtain rfl : i = K := by omega
      go_wp2_with (fail)
      exact bodyPost_ret (results_two rfl _ _ _ _ rfl rfl) rfl ⟨⟨A5, c5, rfl, hc5, I5.out⟩, hb⟩
end Go.Proofs.Ytlgibckhkdggdaa

/- lag: rows behind shafts, whatever comes (pure facts of LagReached). -/
namespace Go.Proofs.Ytlgibckhkdggdaa
open Go.RowKit Go.Shelf

/-- The row behind some shafts, each of which adds by numbers; what comes is any row. -/
def goB (css : List (List Int)) (R ms : List Int) (m : Nat) : Nat → List Int
  | 0 => R
  | i + 1 => addgL (css[i]?.getD []) (goB css R ms m i) ms m
theorem goB_len {css : List (List Int)} {R ms : List Int} {m : Nat} (hR : R.length = m) : ∀ i, (goB css R ms m i).length = m
  | 0 => hR
  | _ + 1 => mapL_len _ _
structure GoBOk (css : List (List Int)) (R ms : List Int) (m i : Nat) : Prop where
  row : rowF (goB css R ms m i) = 0
  top : ∀ j, j ≤ m → preS (goB css R ms m i) j ≤ preS R j
  low : ∀ j, j ≤ m → ∃ u, u ≤ j ∧ preS R u + (if i = 0 then 0 else lvl css (i - 1) (j - u)) ≤ preS (goB css R ms m i) j ∧ (i = 0 → u = j)
theorem goB_ok {css : List (List Int)} {R : List Int} (ms : List Int) {m : Nat} (hR : R.length = m) (hF : Fit R) (hch : chainF css = 0) : ∀ i, i ≤ css.length → GoBOk css R ms m i
  | 0, _ => ⟨hF.1, fun j _ => Int.le_refl _, fun j _ => ⟨j, Nat.le_refl _, by rw [goB, if_pos rfl]; omega, fun _ => rfl⟩⟩
  | i + 1, hi => by
    obtain ⟨h1, h2, h3⟩ := goB_ok ms hR hF hch i (by omega)
    have hl := goB_len (css := css) (ms := ms) hR i
    have hr := row_of h1
    have hci := chain_curves hch (j := i) (by omega)
    have hsp : ∀ j, j ≤ m → _ := fun j hj => addg_spec (xs := css[i]?.getD []) ms hr j (by rw [hl]; exact hj)
    have hpre : ∀ j, j ≤ m → preS (goB css R ms m (i + 1)) j = addgF (css[i]?.getD []) (goB css R ms m i) ms j := fun j hj => preS_addg ms hj
    refine ⟨?_, fun j hj => ?_, fun j hj => ?_⟩
    · have hm60 : m ≤ 60 := by rw [← hR]; exact (row_of hF.1).1
      refine rowF_zero (by rw [goB_len hR]; exact hm60) fun j hj => ?_
      rw [goB_len hR] at hj
      rw [show goB css R ms m (i + 1) = addgL (css[i]?.getD []) (goB css R ms m i) ms m from rfl]
      unfold addgL
      rw [mapL_get hj]
      have g1 := hsp j (by omega)
      have g2 := hsp (j + 1) (by omega)
      have g3 := h2 (j + 1) (by omega)
      have g4 := hF.2 (j + 1) (by omega)
      have g5 := g1.2.2.1 (by rw [hl]; exact hj)
      omega
    · rw [hpre j hj]
      have g1 := (hsp j hj).2.1
      have g2 := h2 j hj
      omega
    · have g1 := (hsp j hj).2.2.2
      obtain ⟨p, hp, e⟩ := addF_mem (totF (goB css R ms m i)) (css[i]?.getD []) j
      rw [e, totF_pre, preL_get (by omega)] at g1
      obtain ⟨u, hu, h4, h5⟩ := h3 (j - p) (by omega)
      refine ⟨u, by omega, ?_, by omega⟩
      rw [hpre j hj, if_neg (by omega), show i + 1 - 1 = i by omega]
      by_cases h0 : i = 0
      · subst h0
        obtain rfl := h5 rfl
        rw [if_pos rfl] at h4
        rw [show j - (j - p) = p by omega]
        show preS R (j - p) + leastF (css[0]?.getD []) p ≤ _
        omega
      · rw [if_neg h0] at h4
        have h6 : lvl css i (j - u) ≤ leastF (css[i]?.getD []) p + lvl css (i - 1) (j - p - u) := by
          rw [lvl_pred css (by omega)]
          have := minP_le (lo := 0) (M := j - u) (fun p => leastF (css[i]?.getD []) p + lvl css (i - 1) (j - u - p)) (p := p) (Nat.zero_le _) (by omega)
          rw [show j - u - p = j - p - u by omega] at this
          exact this
        omega
/-- Nothing waits more than the most less the least of the turns since. -/
theorem goB_wait {cs : List Int} {css : List (List Int)} {R : List Int} (ms : List Int) {m : Nat} (hR : R.length = m) (hF : Fit R) (hch : chainF css = 0) (hk : ∀ u t, u ≤ t → t ≤ m → preS R t - preS R u ≤ mst cs (t - u)) {t : Nat} (ht : t ≤ m) : ∃ v, v ≤ t ∧ preS R t - preS (goB css R ms m css.length) t ≤ mst cs v - lvl css (css.length - 1) v := by
  have hn := chain_pos hch
  obtain ⟨u, hu, h2, -⟩ := (goB_ok ms hR hF hch css.length (Nat.le_refl _)).low t ht
  rw [if_neg (by omega)] at h2
  have h1 := hk u t hu ht
  exact ⟨t - u, by omega, by omega⟩
theorem lvl_rise {css : List (List Int)} (hv : ∀ j, j < css.length → Nums (css[j]?.getD []) ∧ Ups (css[j]?.getD [])) : ∀ (s t : Nat), s < css.length → lvl css s t ≤ lvl css s (t + 1)
  | 0, t, h => leastF_up (hv 0 h).1 (hv 0 h).2 t
  | s + 1, t, h => by
    obtain ⟨p, hp, e⟩ := lvl_mem css s (t + 1)
    rw [e]
    have hmin : ∀ q, q ≤ t → lvl css (s + 1) t ≤ leastF (css[s + 1]?.getD []) q + lvl css s (t - q) := fun q hq => by
      rw [lvl_succ]
      exact minP_le (lo := 0) (M := t) (fun p => leastF (css[s + 1]?.getD []) p + lvl css s (t - p)) (p := q) (Nat.zero_le _) hq
    by_cases hpt : p ≤ t
    · have h1 := hmin p hpt
      have h2 := lvl_rise hv s (t - p) (by omega)
      rw [show t - p + 1 = t + 1 - p by omega] at h2
      omega
    · obtain rfl : p = t + 1 := by omega
      have h1 := hmin t (Nat.le_refl _)
      rw [Nat.sub_self, lvl_zero] at h1 ⊢
      have := leastF_up (hv (s + 1) h).1 (hv (s + 1) h).2 t
      omega
theorem lvl_rises {css : List (List Int)} (hv : ∀ j, j < css.length → Nums (css[j]?.getD []) ∧ Ups (css[j]?.getD [])) {s : Nat} (hs : s < css.length) {a b : Nat} (h : a ≤ b) : lvl css s a ≤ lvl css s b := by
  obtain ⟨d, rfl⟩ : ∃ d, b = a + d := ⟨b - a, by omega⟩
  clear h
  induction d with
  | zero => exact Int.le_refl _
  | succ d ih => exact Int.le_trans ih (lvl_rise hv s (a + d) hs)
theorem preS_mono {R : List Int} (hr : Row60 R) {a b : Nat} (h : a ≤ b) (hb : b ≤ R.length) : preS R a ≤ preS R b := by
  obtain ⟨d, rfl⟩ : ∃ d, b = a + d := ⟨b - a, by omega⟩
  clear h
  induction d with
  | zero => exact Int.le_refl _
  | succ d ih =>
    have h1 := ih (by omega)
    have h2 := (hr.2 (a + d) (by omega)).1
    rw [show a + (d + 1) = a + d + 1 by omega, preS]
    omega
/-- Nothing is later than so many turns for which the least reaches the most. -/
theorem goB_late {cs : List Int} {css : List (List Int)} {R : List Int} (ms : List Int) {m L : Nat} (hR : R.length = m) (hF : Fit R) (hch : chainF css = 0) (hk : ∀ u t, u ≤ t → t ≤ m → preS R t - preS R u ≤ mst cs (t - u)) (hL : ∀ v, v ≤ m → mst cs v ≤ lvl css (css.length - 1) (v + L)) {t : Nat} (ht : t + L ≤ m) : preS R t ≤ preS (goB css R ms m css.length) (t + L) := by
  have hn := chain_pos hch
  have hv : ∀ j, j < css.length → Nums (css[j]?.getD []) ∧ Ups (css[j]?.getD []) := fun j hj => ⟨nums_of (chain_curves hch hj), ups_of (chain_curves hch hj)⟩
  obtain ⟨u, hu, h2, -⟩ := (goB_ok ms hR hF hch css.length (Nat.le_refl _)).low (t + L) ht
  rw [if_neg (by omega)] at h2
  have hl := (lvl_bound (fun j hj => (hv j hj).1) (css.length - 1) (t + L - u) (by omega)).1
  by_cases hut : t ≤ u
  · have := preS_mono (row_of hF.1) hut (by omega)
    omega
  · have h1 := hk u t (by omega) (by omega)
    have h3 := hL (t - u) (by omega)
    rw [show t - u + L = t + L - u by omega] at h3
    omega
end Go.Proofs.Ytlgibckhkdggdaa

/- lag: numbers that are as many times as great (pure facts of LagTimes). -/
namespace Go.Proofs.Ytlgibckhkdggdaa
open Go.RowKit Go.Shelf

def timL (t : Int) (xs : List Int) : List Int := mapL (fun i => t * xs[i]?.getD 0) xs.length
theorem timL_len (t : Int) (xs : List Int) : (timL t xs).length = xs.length := mapL_len _ _
theorem timL_get (t : Int) (xs : List Int) (j : Nat) : (timL t xs)[j]?.getD 0 = t * xs[j]?.getD 0 := by
  by_cases h : j < xs.length
  · exact mapL_get h
  · rw [List.getElem?_eq_none (by rw [timL_len]; omega), List.getElem?_eq_none (by omega)]
    simp
def timR (t : Int) (css : List (List Int)) : List (List Int) := css.map (timL t)
theorem timR_len (t : Int) (css : List (List Int)) : (timR t css).length = css.length := by simp [timR]
theorem timR_get (t : Int) (css : List (List Int)) (j : Nat) : (timR t css)[j]?.getD [] = timL t (css[j]?.getD []) := by
  unfold timR
  rw [List.getElem?_map]
  cases css[j]? <;> rfl
theorem minP_times {lo M : Nat} (h : lo ≤ M) {t : Int} (ht : 0 ≤ t) (f : Nat → Int) : minP lo M (fun p => t * f p) = t * minP lo M f := by
  obtain ⟨⟨p, h1, h2, e⟩, hm⟩ := minP_spec h f
  exact minP_eq h ⟨p, h1, h2, by rw [e]⟩ fun q a b => Int.mul_le_mul_of_nonneg_left (hm q a b) ht
theorem maxZ_times {t : Int} (ht : 0 ≤ t) (f : Nat → Int) : ∀ N, maxZ (fun k => t * f k) N = t * maxZ f N
  | 0 => by simp [maxZ]
  | N + 1 => by
    rw [maxZ, maxZ, maxZ_times ht f N]
    rcases Int.le_total (maxZ f N) (f N) with h | h
    · rw [Int.max_eq_right h, Int.max_eq_right (Int.mul_le_mul_of_nonneg_left h ht)]
    · rw [Int.max_eq_left h, Int.max_eq_left (Int.mul_le_mul_of_nonneg_left h ht)]
theorem mst_times {xs : List Int} (hl : 1 ≤ xs.length) {t : Int} (ht : 0 ≤ t) (k : Nat) : mst (timL t xs) k = t * mst xs k := by
  induction k using Nat.strongRecOn with
  | _ k ih =>
    cases k with
    | zero => rw [mst_zero, mst_zero, Int.mul_zero]
    | succ k =>
      rw [mst_succ _ (by rw [timL_len]; exact hl), mst_succ _ hl, timL_len, ← minP_times (by omega) ht]
      refine minP_congr (by omega) fun p h1 h2 => ?_
      rw [timL_get, ih (k + 1 - p) (by omega), Int.mul_add]
theorem leastF_times (t : Int) (xs : List Int) (k : Nat) : leastF (timL t xs) k = t * leastF xs k := by
  unfold leastF
  rw [timL_len, timL_get, timL_get, Int.mul_add, Int.mul_assoc]
  split
  · rfl
  · rw [Int.mul_zero]
theorem lvl_times {t : Int} (ht : 0 ≤ t) (css : List (List Int)) : ∀ s k, lvl (timR t css) s k = t * lvl css s k
  | 0, k => by
    show leastF ((timR t css)[0]?.getD []) k = t * leastF (css[0]?.getD []) k
    rw [timR_get, leastF_times]
  | s + 1, k => by
    rw [lvl_succ, lvl_succ, ← minP_times (Nat.zero_le _) ht]
    refine minP_congr (Nat.zero_le _) fun p _ _ => ?_
    rw [timR_get, leastF_times, lvl_times ht css s, Int.mul_add]
/-- Whether a shaft is slower than what comes. -/
theorem slow_iff {cs sh : List Int} (hc : curveF cs = 0) (hs : curveF sh = 0) {q : Nat} (hq : Best cs q) : slowF (shaftRate sh) (rateOfR cs true) = true ↔ sh[sh.length - 1]?.getD 0 * (q : Int) < cs[q - 1]?.getD 0 * (sh.length : Int) := by
  have ok := rateOf_ok hc hq
  have sk := shaft_ok hs
  have l1 := curve_nums hs
  have q6 : q ≤ 6 := by have := hq.2.1; have := (curve_nums hc).2.1; omega
  rw [slow_key sk.1 sk.2.1 ok.1 ok.2.1 sk.2.2 ok.2.2]
  unfold rateOfR
  rw [if_pos rfl, rateN_is (nums_of hc) (curve_nums hc).2.1 hq]
  unfold shaftRate
  have hr := ratR_lt (N := (cs[q - 1]?.getD 0).toNat) (M := (sh[sh.length - 1]?.getD 0).toNat) hq.1 q6 l1.1 l1.2.1
  have c1 := ((nums_of hc).2.2 (q - 1) (by have := hq.1; have := hq.2.1; omega)).1
  have c2 := ((nums_of hs).2.2 (sh.length - 1) (by have := l1.1; omega)).1
  have e1 : ((cs[q - 1]?.getD 0).toNat : Int) = cs[q - 1]?.getD 0 := Int.toNat_of_nonneg c1
  have e2 : ((sh[sh.length - 1]?.getD 0).toNat : Int) = sh[sh.length - 1]?.getD 0 := Int.toNat_of_nonneg c2
  have hk : (cs[q - 1]?.getD 0).toNat * sh.length ≤ (sh[sh.length - 1]?.getD 0).toNat * q ↔ cs[q - 1]?.getD 0 * (sh.length : Int) ≤ sh[sh.length - 1]?.getD 0 * (q : Int) := by
    rw [← e1, ← e2, ← Int.natCast_mul, ← Int.natCast_mul, Int.toNat_natCast, Int.toNat_natCast]
    omega
  rw [hk] at hr
  constructor
  · intro h
    have h := of_decide_eq_true h
    omega
  · intro h
    exact decide_eq_true (by omega)
/-- Of what is right the bounds are asked, or the chain is slower. -/
theorem asked_zero {cs : List Int} {css : List (List Int)} (hc : curveF cs = 0) (hch : chainF css = 0) {q : Nat} (hq : Best cs q) : (askedR cs css = 0 ∨ askedR cs css = 18) ∧ (askedR cs css = 0 ↔ ∀ j, j < css.length → cs[q - 1]?.getD 0 * (lenA css j : Int) ≤ lastA css j * (q : Int)) := by
  have e : askedR cs css = if (List.range css.length).any (fun i => slowF (shaftRate (css[i]?.getD [])) (rateOfR cs true)) = true then 18 else 0 := by unfold askedR; rw [if_neg (by rw [hc]; simp), if_neg (by rw [hch]; simp)]
  rw [e]
  have hi : (List.range css.length).any (fun i => slowF (shaftRate (css[i]?.getD [])) (rateOfR cs true)) = true ↔ ∃ j, j < css.length ∧ lastA css j * (q : Int) < cs[q - 1]?.getD 0 * (lenA css j : Int) := by
    rw [List.any_eq_true]
    constructor
    · rintro ⟨j, hj, h⟩
      have hj := List.mem_range.1 hj
      exact ⟨j, hj, (slow_iff hc (chain_curves hch hj) hq).1 h⟩
    · rintro ⟨j, hj, h⟩
      exact ⟨j, List.mem_range.2 hj, (slow_iff hc (chain_curves hch hj) hq).2 h⟩
  split
  case isTrue h =>
    obtain ⟨j, hj, hl⟩ := hi.1 h
    refine ⟨.inr rfl, ⟨fun h => absurd h (by decide), fun h => ?_⟩⟩
    have := h j hj
    omega
  case isFalse h =>
    refine ⟨.inl rfl, ⟨fun _ j hj => ?_, fun _ => rfl⟩⟩
    have : ¬ lastA css j * (q : Int) < cs[q - 1]?.getD 0 * (lenA css j : Int) := fun hl => h (hi.2 ⟨j, hj, hl⟩)
    omega
theorem best_times {cs : List Int} {q : Nat} {t : Int} (ht : 0 ≤ t) (hq : Best cs q) : Best (timL t cs) q := by
  refine ⟨hq.1, by rw [timL_len]; exact hq.2.1, fun p h1 h2 => ?_⟩
  rw [timL_len] at h2
  rw [timL_get, timL_get, Int.mul_assoc, Int.mul_assoc]
  exact Int.mul_le_mul_of_nonneg_left (hq.2.2 p h1 h2) ht
theorem asked_times {cs : List Int} {css : List (List Int)} {t : Int} (ht : 1 ≤ t) (hc : curveF cs = 0) (hch : chainF css = 0) (hcu : curveF (timL t cs) = 0) (hcc : chainF (timR t css) = 0) : askedR (timL t cs) (timR t css) = askedR cs css := by
  obtain ⟨q, hq⟩ := best_exists (nums_of hc).1
  obtain ⟨a1, a2⟩ := asked_zero hc hch hq
  obtain ⟨b1, b2⟩ := asked_zero hcu hcc (best_times (by omega) hq)
  have hiff : askedR (timL t cs) (timR t css) = 0 ↔ askedR cs css = 0 := by
    rw [a2, b2, timR_len]
    have hj : ∀ j, ((timL t cs)[q - 1]?.getD 0 * (lenA (timR t css) j : Int) ≤ lastA (timR t css) j * (q : Int)) ↔ cs[q - 1]?.getD 0 * (lenA css j : Int) ≤ lastA css j * (q : Int) := fun j => by
      unfold lenA lastA
      rw [timR_get, timL_len, timL_get, timL_get, Int.mul_assoc, Int.mul_assoc]
      exact ⟨fun h => Int.le_of_mul_le_mul_left h (by omega), fun h => Int.mul_le_mul_of_nonneg_left h (by omega)⟩
    exact ⟨fun h j hl => (hj j).1 (h j hl), fun h j hl => (hj j).2 (h j hl)⟩
  rcases a1 with a1 | a1 <;> rcases b1 with b1 | b1
  · rw [a1, b1]
  · have := hiff.2 a1
    omega
  · have := hiff.1 b1
    omega
  · rw [a1, b1]
theorem wait_times {cs : List Int} {css : List (List Int)} {t : Int} (ht : 1 ≤ t) (hc : curveF cs = 0) (hch : chainF css = 0) (hcu : curveF (timL t cs) = 0) (hcc : chainF (timR t css) = 0) : waitV (timL t cs) (timR t css) = (t * (waitV cs css).1, (waitV cs css).2) := by
  have ha := asked_times ht hc hch hcu hcc
  by_cases h : askedR cs css = 0
  · rw [wait_same h, wait_same (ha.trans h), timR_len, ← maxZ_times (by omega)]
    refine congrArg (fun x : Int => (x, (0 : Int))) (maxZ_congr fun k _ => ?_)
    rw [mst_times (nums_of hc).1 (by omega), lvl_times (by omega), Int.mul_sub]
  · unfold waitV
    rw [asked_same, asked_same, ha, if_pos h, if_pos h, Int.mul_zero]
theorem late_times {cs : List Int} {css : List (List Int)} {t : Int} (ht : 1 ≤ t) (hc : curveF cs = 0) (hch : chainF css = 0) (hcu : curveF (timL t cs) = 0) (hcc : chainF (timR t css) = 0) : lateV (timL t cs) (timR t css) = lateV cs css := by
  have ha := asked_times ht hc hch hcu hcc
  by_cases h : askedR cs css = 0
  · rw [late_same h, late_same (ha.trans h)]
    refine congrArg (fun x : Int => (x, (0 : Int))) (maxZ_congr fun k _ => ?_)
    refine congrArg (fun n : Nat => (n : Int)) ?_
    unfold lagN
    refine congrArg (fun f => (List.range 21).findIdx f) (funext fun n => ?_)
    rw [mst_times (nums_of hc).1 (by omega), lvl_times (by omega), timR_len]
    refine decide_eq_decide.2 ⟨fun h => Int.le_of_mul_le_mul_left h (by omega), fun h => Int.mul_le_mul_of_nonneg_left h (by omega)⟩
  · unfold lateV
    rw [asked_same, asked_same, ha, if_pos h, if_pos h]
theorem behF_times {cs : List Int} {css : List (List Int)} {t : Int} (ht : 1 ≤ t) (hc : curveF cs = 0) (hch : chainF css = 0) (hcu : curveF (timL t cs) = 0) (hcc : chainF (timR t css) = 0) (h : askedR cs css = 0) {k : Nat} (hk : k ≤ 20) : behF (timL t cs) (timR t css) k = t * behF cs css k := by
  have ha := asked_times ht hc hch hcu hcc
  rw [behind_same h hk, behind_same (ha.trans h) hk, timR_len, ← maxZ_times (by omega)]
  refine maxZ_congr fun u _ => ?_
  rw [mst_times (nums_of hc).1 (by omega), lvl_times (by omega), Int.mul_sub]
end Go.Proofs.Ytlgibckhkdggdaa

/- lag: more comes, or less is added (pure facts of LagMore). -/
namespace Go.Proofs.Ytlgibckhkdggdaa
open Go.RowKit Go.Shelf

theorem minP_mono {lo M : Nat} (h : lo ≤ M) {f g : Nat → Int} (hfg : ∀ p, lo ≤ p → p ≤ M → f p ≤ g p) : minP lo M f ≤ minP lo M g := by
  obtain ⟨⟨p, h1, h2, e⟩, -⟩ := minP_spec h g
  have := (minP_spec h f).2 p h1 h2
  have := hfg p h1 h2
  omega
theorem maxZ_mono {f g : Nat → Int} : ∀ {N : Nat}, (∀ k, k < N → f k ≤ g k) → maxZ f N ≤ maxZ g N
  | 0, _ => Int.le_refl _
  | N + 1, h => by
    have h1 := maxZ_mono (N := N) fun k hk => h k (by omega)
    have h2 := h N (by omega)
    rw [maxZ, maxZ]
    omega
/-- The numbers of a curve grow. -/
theorem mst_grow {xs ys : List Int} (hl : 1 ≤ xs.length) (he : xs.length = ys.length) (h : ∀ j, j < xs.length → xs[j]?.getD 0 ≤ ys[j]?.getD 0) (k : Nat) : mst xs k ≤ mst ys k := by
  induction k using Nat.strongRecOn with
  | _ k ih =>
    cases k with
    | zero => rw [mst_zero, mst_zero]; exact Int.le_refl _
    | succ k =>
      rw [mst_succ _ hl, mst_succ _ (by omega), ← he]
      refine minP_mono (by omega) fun p h1 h2 => ?_
      have a := h (p - 1) (by omega)
      have b := ih (k + 1 - p) (by omega)
      omega
theorem leastF_grow {xs ys : List Int} (hl : 1 ≤ xs.length) (he : xs.length = ys.length) (h : ∀ j, j < xs.length → xs[j]?.getD 0 ≤ ys[j]?.getD 0) (k : Nat) : leastF xs k ≤ leastF ys k := by
  unfold leastF
  rw [← he]
  have a := Int.mul_le_mul_of_nonneg_right (h (xs.length - 1) (by omega)) (show (0 : Int) ≤ ((k / xs.length : Nat) : Int) from Int.natCast_nonneg _)
  have hm := Nat.mod_lt k (show 0 < xs.length by omega)
  split
  case isTrue =>
    have b := h (k % xs.length - 1) (by omega)
    omega
  case isFalse => omega
theorem lvl_grow {cs ds : List (List Int)} {s : Nat} (h : ∀ j, j ≤ s → ∀ k, leastF (cs[j]?.getD []) k ≤ leastF (ds[j]?.getD []) k) : ∀ k, lvl cs s k ≤ lvl ds s k := by
  induction s with
  | zero => exact fun k => h 0 (Nat.le_refl _) k
  | succ s ih =>
    intro k
    rw [lvl_succ, lvl_succ]
    refine minP_mono (Nat.zero_le _) fun p _ _ => ?_
    have a := h (s + 1) (Nat.le_refl _) p
    have b := ih (fun j hj => h j (by omega)) (k - p)
    omega
theorem lvl_shaft (css : List (List Int)) (sh : List Int) (hn : 1 ≤ css.length) (k : Nat) : lvl (css ++ [sh]) ((css ++ [sh]).length - 1) k ≤ lvl css (css.length - 1) k := by
  rw [show (css ++ [sh]).length - 1 = (css.length - 1) + 1 by simp; omega, lvl_succ]
  have h1 := minP_le (lo := 0) (M := k) (fun p => leastF ((css ++ [sh])[css.length - 1 + 1]?.getD []) p + lvl (css ++ [sh]) (css.length - 1) (k - p)) (p := 0) (Nat.le_refl _) (Nat.zero_le _)
  rw [leastF_zero, Nat.sub_zero] at h1
  have h2 : lvl (css ++ [sh]) (css.length - 1) k ≤ lvl css (css.length - 1) k := lvl_grow (fun j hj k => by rw [List.getElem?_append_left (by omega)]; exact Int.le_refl _) k
  omega
theorem lagN_grow {cs cs' : List Int} {css css' : List (List Int)} {q q' a a' : Nat} (hf : Fair cs css (css.length - 1) q a) (hf' : Fair cs' css' (css'.length - 1) q' a') (h1 : ∀ k, mst cs k ≤ mst cs' k) (h2 : ∀ k, lvl css' (css'.length - 1) k ≤ lvl css (css.length - 1) k) (k : Nat) : lagN cs css k ≤ lagN cs' css' k := by
  obtain ⟨-, -, a3⟩ := lagN_spec hf k
  obtain ⟨-, b2, -⟩ := lagN_spec hf' k
  apply Classical.byContradiction
  intro hn
  have c1 := a3 (lagN cs' css' k) (by omega)
  have c2 := h1 k
  have c3 := h2 (k + lagN cs' css' k)
  omega
/-- Where more comes, or less is added, nothing waits less, and nothing is less late. -/
theorem more_ok {cs cs' : List Int} {css css' : List (List Int)} (ha : askedR cs css = 0) (ha' : askedR cs' css' = 0) (h1 : ∀ k, mst cs k ≤ mst cs' k) (h2 : ∀ k, lvl css' (css'.length - 1) k ≤ lvl css (css.length - 1) k) : (waitV cs css).1 ≤ (waitV cs' css').1 ∧ (lateV cs css).1 ≤ (lateV cs' css').1 := by
  obtain ⟨-, -, q, a, hf⟩ := asked_fair ha
  obtain ⟨-, -, q', a', hf'⟩ := asked_fair ha'
  rw [wait_same ha, wait_same ha', late_same ha, late_same ha']
  refine ⟨maxZ_mono fun k _ => ?_, maxZ_mono fun k _ => ?_⟩
  · have := h1 k
    have := h2 k
    omega
  · have := lagN_grow hf hf' h1 h2 k
    omega
/-- What the bounds are called with is an error, or no error of both. -/
theorem both_err {cs : List Int} {css : List (List Int)} (hc : curveF cs = 0) (hch : chainF css = 0) : (waitV cs css).2 = (lateV cs css).2 ∧ ((waitV cs css).2 = 0 ∧ askedR cs css = 0 ∨ (waitV cs css).2 = 18) := by
  obtain ⟨q, hq⟩ := best_exists (nums_of hc).1
  obtain ⟨h, -⟩ := asked_zero hc hch hq
  unfold waitV lateV
  rw [asked_same]
  rcases h with h | h
  · rw [h, if_neg (by simp), if_neg (by simp)]
    exact ⟨rfl, .inl ⟨rfl, rfl⟩⟩
  · rw [h, if_pos (by simp), if_pos (by simp)]
    exact ⟨rfl, .inr rfl⟩
end Go.Proofs.Ytlgibckhkdggdaa
