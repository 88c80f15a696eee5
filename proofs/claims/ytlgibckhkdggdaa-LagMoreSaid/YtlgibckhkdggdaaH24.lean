/- Parts of a proof: TR TS TT. -/
import Derived.Test.YtlgibckhkdggdaaH23

/- lag: shafts one behind another, in whatever order (pure facts of LagChained). -/
namespace Go.Proofs.Ytlgibckhkdggdaa
open Go.RowKit Go.Shelf

/-! ### what is added, shaft by shaft -/
theorem addF_min (ys cs : List Int) {t : Nat} (ht : t ≤ ys.length) : addF (totF ys) cs t = minP 0 t fun p => preS ys (t - p) + leastF cs p := by
  show minP 0 t (fun p => (totF ys)[t - p]?.getD 0 + leastF cs p) = _
  exact minP_congr (Nat.zero_le _) fun p _ _ => by rw [totF_get (by omega)]
theorem thr_is {css : List (List Int)} {ys : List Int} (hch : ∀ j, j < css.length → curveF (css[j]?.getD []) = 0) (h : Fit ys) : ∀ i, i < css.length → ∀ t, t ≤ ys.length → preS (thrL css ys (i + 1)) t = minP 0 t fun p => preS ys (t - p) + lvl css i p
  | 0, hi, t, ht => by
    rw [thrL, preS_ownA (nums_of (hch 0 hi)) (row_of (thrL_fit hch h 0 (by omega)).1) (by rw [thrL_len]; exact ht), addF_min _ _ (by rw [thrL_len]; exact ht)]
    rfl
  | i + 1, hi, t, ht => by
    rw [thrL, preS_ownA (nums_of (hch (i + 1) hi)) (row_of (thrL_fit hch h (i + 1) (by omega)).1) (by rw [thrL_len]; exact ht), addF_min _ _ (by rw [thrL_len]; exact ht)]
    refine minP_eq (Nat.zero_le _) ?_ fun p _ hp => ?_
    · obtain ⟨⟨p, -, hp, e⟩, -⟩ := minP_spec (Nat.zero_le t) fun p => preS ys (t - p) + lvl css (i + 1) p
      obtain ⟨q, hq, e2⟩ := lvl_mem css i p
      refine ⟨q, Nat.zero_le _, by omega, ?_⟩
      rw [e]
      try simp only []
      rw [e2]
      -- the least of the shafts before it
      rw [thr_is hch h i (by omega) (t - q) (by omega)]
      have h1 := minP_le (lo := 0) (M := t - q) (fun r => preS ys (t - q - r) + lvl css i r) (p := p - q) (Nat.zero_le _) (by omega)
      try simp only [] at h1
      rw [show t - q - (p - q) = t - p by omega] at h1
      obtain ⟨⟨r, -, hr, e3⟩, -⟩ := minP_spec (Nat.zero_le (t - q)) fun r => preS ys (t - q - r) + lvl css i r
      have h2 := minP_le (lo := 0) (M := t) (fun p => preS ys (t - p) + lvl css (i + 1) p) (p := q + r) (Nat.zero_le _) (by omega)
      try simp only [] at h2 e3
      have h3 : lvl css (i + 1) (q + r) ≤ leastF (css[i + 1]?.getD []) q + lvl css i r := by
        rw [lvl_succ]
        have := minP_le (lo := 0) (M := q + r) (fun p => leastF (css[i + 1]?.getD []) p + lvl css i (q + r - p)) (p := q) (Nat.zero_le _) (by omega)
        try simp only [] at this
        rw [show q + r - q = r by omega] at this
        exact this
      rw [show t - (q + r) = t - q - r by omega] at h2
      rw [e] at h2
      try simp only [] at h2
      rw [e2] at h2
      omega
    · rw [thr_is hch h i (by omega) (t - p) (by omega)]
      obtain ⟨⟨r, -, hr, e3⟩, -⟩ := minP_spec (Nat.zero_le (t - p)) fun r => preS ys (t - p - r) + lvl css i r
      rw [e3]
      try simp only []
      have h2 := minP_le (lo := 0) (M := t) (fun p => preS ys (t - p) + lvl css (i + 1) p) (p := p + r) (Nat.zero_le _) (by omega)
      have h3 : lvl css (i + 1) (p + r) ≤ leastF (css[i + 1]?.getD []) p + lvl css i r := by
        rw [lvl_succ]
        have := minP_le (lo := 0) (M := p + r) (fun q => leastF (css[i + 1]?.getD []) q + lvl css i (p + r - q)) (p := p) (Nat.zero_le _) (by omega)
        try simp only [] at this
        rw [show p + r - p = r by omega] at this
        exact this
      try simp only [] at h2
      rw [show t - (p + r) = t - p - r by omega] at h2
      omega
/-! ### the order of shafts -/
theorem rev_get {css : List (List Int)} {j : Nat} (hj : j < css.length) : css.reverse[j]?.getD [] = css[css.length - 1 - j]?.getD [] := by
  rw [List.getElem?_reverse hj]
theorem lvl_rev_le {css : List (List Int)} (hn : 1 ≤ css.length ∧ css.length ≤ 3) (t : Nat) : lvl css.reverse (css.length - 1) t ≤ lvl css (css.length - 1) t := by
  obtain ⟨ts, h1, h2⟩ := lvl_get css (css.length - 1) t
  have h3 := lvl_le css.reverse (fun i => ts (css.length - 1 - i)) (css.length - 1)
  have key : tot (fun i => ts (css.length - 1 - i)) (css.length - 1) = tot ts (css.length - 1) ∧ cost css.reverse (fun i => ts (css.length - 1 - i)) (css.length - 1) = cost css ts (css.length - 1) := by
    have hg := fun j hj => rev_get (css := css) (j := j) hj
    rcases (by omega : css.length = 1 ∨ css.length = 2 ∨ css.length = 3) with e | e | e
    · rw [e] at hg ⊢
      have g0 := hg 0 (by omega)
      simp only [Nat.sub_self] at g0
      simp only [tot, cost, Nat.sub_self, g0, and_self]
    · rw [e] at hg ⊢
      have g0 := hg 0 (by omega)
      have g1 := hg 1 (by omega)
      simp only [Nat.sub_self, show 2 - 1 = 1 from rfl] at g0 g1
      simp only [tot, cost, Nat.sub_self, show 2 - 1 = 1 from rfl, show 0 + 1 = 1 from rfl, g0, g1]
      omega
    · rw [e] at hg ⊢
      have g0 := hg 0 (by omega)
      have g1 := hg 1 (by omega)
      have g2 := hg 2 (by omega)
      simp only [Nat.sub_self, show 3 - 1 = 2 from rfl, show 2 - 1 = 1 from rfl] at g0 g1 g2
      simp only [tot, cost, Nat.sub_self, show 3 - 1 = 2 from rfl, show 2 - 1 = 1 from rfl, show 0 + 1 = 1 from rfl, show 1 + 1 = 2 from rfl, g0, g1, g2]
      omega
  rw [key.1, h1, key.2, ← h2] at h3
  exact h3
theorem lvl_rev {css : List (List Int)} (hn : 1 ≤ css.length ∧ css.length ≤ 3) (t : Nat) : lvl css.reverse (css.length - 1) t = lvl css (css.length - 1) t := by
  have h1 := lvl_rev_le hn t
  have h2 := lvl_rev_le (css := css.reverse) (by rw [List.length_reverse]; exact hn) t
  rw [List.reverse_reverse, List.length_reverse] at h2
  omega
theorem chain_is {css : List (List Int)} (hn : 1 ≤ css.length ∧ css.length ≤ 3) (h : ∀ j, j < css.length → curveF (css[j]?.getD []) = 0) : chainF css = 0 := by
  unfold chainF
  rw [if_neg (by omega)]
  refine firstE_all fun i x hi hx => ?_
  have := h i hi
  rw [hx] at this
  exact this
theorem chain_rev {css : List (List Int)} (h : chainF css = 0) : chainF css.reverse = 0 := by
  have hn := chain_pos h
  refine chain_is (by rw [List.length_reverse]; exact hn) fun j hj => ?_
  rw [List.length_reverse] at hj
  rw [rev_get hj]
  exact chain_curves h (by omega)
theorem asked_rev {cs : List Int} {css : List (List Int)} (hc : curveF cs = 0) (h : chainF css = 0) : askedR cs css.reverse = askedR cs css := by
  obtain ⟨q, hq⟩ := best_exists (nums_of hc).1
  obtain ⟨a1, a2⟩ := asked_zero hc h hq
  obtain ⟨b1, b2⟩ := asked_zero hc (chain_rev h) hq
  rw [List.length_reverse] at b2
  have hj : ∀ j, j < css.length → (lenA css.reverse j = lenA css (css.length - 1 - j) ∧ lastA css.reverse j = lastA css (css.length - 1 - j)) := fun j hl => by
    unfold lenA lastA
    rw [rev_get hl]
    exact ⟨rfl, rfl⟩
  have hiff : askedR cs css.reverse = 0 ↔ askedR cs css = 0 := by
    rw [a2, b2]
    constructor
    · intro hh j hl
      have := hh (css.length - 1 - j) (by omega)
      obtain ⟨e1, e2⟩ := hj (css.length - 1 - j) (by omega)
      rw [e1, e2, show css.length - 1 - (css.length - 1 - j) = j by omega] at this
      exact this
    · intro hh j hl
      obtain ⟨e1, e2⟩ := hj j hl
      rw [e1, e2]
      exact hh _ (by omega)
  rcases a1 with a1 | a1 <;> rcases b1 with b1 | b1
  · rw [a1, b1]
  · have := hiff.2 a1
    omega
  · have := hiff.1 b1
    omega
  · rw [a1, b1]
theorem wait_rev {cs : List Int} {css : List (List Int)} (hc : curveF cs = 0) (h : chainF css = 0) : waitV cs css.reverse = waitV cs css ∧ lateV cs css.reverse = lateV cs css := by
  have ha := asked_rev hc h
  have hn := chain_pos h
  by_cases h0 : askedR cs css = 0
  · rw [wait_same h0, wait_same (ha.trans h0), late_same h0, late_same (ha.trans h0), List.length_reverse]
    refine ⟨congrArg (fun x : Int => (x, (0 : Int))) (maxZ_congr fun k _ => by rw [lvl_rev hn]), congrArg (fun x : Int => (x, (0 : Int))) (maxZ_congr fun k _ => congrArg (fun n : Nat => (n : Int)) ?_)⟩
    unfold lagN
    refine congrArg (fun f => (List.range 21).findIdx f) (funext fun n => ?_)
    rw [List.length_reverse, lvl_rev hn]
  · unfold waitV lateV
    rw [asked_same, asked_same, ha, if_pos h0, if_pos h0, if_pos h0, if_pos h0]
    exact ⟨rfl, rfl⟩
theorem least_rev {css : List (List Int)} (h : chainF css = 0) (t : Int) : leastR css.reverse t = leastR css t := by
  unfold leastR
  rw [chain_rev h, h, List.length_reverse, lvl_rev (chain_pos h)]
/-! ### bounds of all turns -/
theorem late_all {cs : List Int} {css : List (List Int)} (h : askedR cs css = 0) (k : Nat) : (lagN cs css k : Int) ≤ (lateV cs css).1 := by
  obtain ⟨hc, hch, q, a, hf⟩ := asked_fair h
  obtain ⟨P, hP1, hP30, z, hz1, hz2⟩ := hf.period
  rw [late_same h]
  obtain ⟨k', hk', hle⟩ := early (f := fun k => (lagN cs css k : Int)) hP1 hP30 (fun k hk => by
    obtain ⟨a1, a2, a3⟩ := lagN_spec hf k
    obtain ⟨b1, b2, b3⟩ := lagN_spec hf (k + P)
    have c1 := hz1 k
    have c2 := hz2 (k + lagN cs css k) (by omega)
    rw [show k + lagN cs css k + P = k + P + lagN cs css k by omega] at c2
    have : ¬ lagN cs css k < lagN cs css (k + P) := fun hlt => by
      have := b3 _ hlt
      omega
    omega) k
  have := (maxZ_spec (fun k => (lagN cs css k : Int)) 181).1.2 k' (by omega)
  try simp only [] at hle this
  omega
theorem wait_all {cs : List Int} {css : List (List Int)} (h : askedR cs css = 0) (k : Nat) : mst cs k - lvl css (css.length - 1) k ≤ (waitV cs css).1 := by
  obtain ⟨hc, hch, q, a, hf⟩ := asked_fair h
  obtain ⟨P, hP1, hP30, z, hz1, hz2⟩ := hf.period
  rw [wait_same h]
  obtain ⟨k', hk', hle⟩ := early (f := fun k => mst cs k - lvl css (css.length - 1) k) hP1 hP30 (fun k hk => by
    have := hz1 k
    have := hz2 k hk
    try simp only []
    omega) k
  have := (maxZ_spec (fun k => mst cs k - lvl css (css.length - 1) k) 181).1.2 k' (by omega)
  try simp only [] at hle this
  omega
theorem beh_all {cs : List Int} {css : List (List Int)} (h : askedR cs css = 0) {t : Nat} (ht : t ≤ 20) (u : Nat) : mst cs (t + u) - lvl css (css.length - 1) u ≤ behF cs css t := by
  obtain ⟨hc, hch, q, a, hf⟩ := asked_fair h
  obtain ⟨P, hP1, hP30, z, hz1, hz2⟩ := hf.period
  rw [behind_same h ht]
  obtain ⟨k', hk', hle⟩ := early (f := fun u => mst cs (t + u) - lvl css (css.length - 1) u) hP1 hP30 (fun k hk => by
    have := hz1 (t + k)
    have := hz2 k hk
    try simp only []
    rw [show t + (k + P) = t + k + P by omega]
    omega) u
  have := (maxZ_spec (fun u => mst cs (t + u) - lvl css (css.length - 1) u) 181).1.2 k' (by omega)
  try simp only [] at hle this
  omega
/-- So many turns later all is added. -/
theorem late_ok {cs : List Int} {css : List (List Int)} (h : askedR cs css = 0) {L : Nat} (hL : (L : Int) = (lateV cs css).1) (k : Nat) : mst cs k ≤ lvl css (css.length - 1) (k + L) := by
  obtain ⟨hc, hch, q, a, hf⟩ := asked_fair h
  obtain ⟨-, a2, -⟩ := lagN_spec hf k
  have := late_all h k
  have hv : ∀ j, j < css.length → Nums (css[j]?.getD []) ∧ Ups (css[j]?.getD []) := fun j hj => ⟨nums_of (chain_curves hch hj), ups_of (chain_curves hch hj)⟩
  have := lvl_rises hv (s := css.length - 1) (by have := chain_pos hch; omega) (a := k + lagN cs css k) (b := k + L) (by omega)
  omega
theorem late_nat {cs : List Int} {css : List (List Int)} (h : askedR cs css = 0) : ∃ L : Nat, (L : Int) = (lateV cs css).1 ∧ L ≤ 20 ∧ (lateV cs css).2 = 0 := by
  obtain ⟨hc, hch, q, a, hf⟩ := asked_fair h
  rw [late_same h]
  rcases (maxZ_spec (fun k => (lagN cs css k : Int)) 181).2 with e | ⟨k, hk, e⟩
  · exact ⟨0, by rw [e]; rfl, by omega, rfl⟩
  · exact ⟨lagN cs css k, by rw [e], (lagN_spec hf k).1, rfl⟩
/-! ### the first shaft, and the others -/
theorem mst_behind {cs next : List Int} {c0 : List Int} (h : askedR cs [c0] = 0) (hl : next.length = cs.length) (he : ∀ j, j < cs.length → next[j]?.getD 0 = behF cs [c0] (j + 1)) : ∀ k, 1 ≤ k → ∀ u, mst cs (k + u) - leastF c0 u ≤ mst next k := by
  obtain ⟨hc, -, -⟩ := asked_fair h
  have h6 := curve_nums hc
  have hall : ∀ t, t ≤ 20 → ∀ u, mst cs (t + u) - leastF c0 u ≤ behF cs [c0] t := fun t ht u => beh_all h ht u
  intro k
  induction k using Nat.strongRecOn with
  | _ k ih =>
    intro hk u
    obtain ⟨p, h1, h2, h3, e⟩ := mst_get (xs := next) (by omega) hk
    rw [e, he (p - 1) (by omega), show p - 1 + 1 = p by omega]
    by_cases hp : k = p
    · subst hp
      have := hall k (by omega) u
      rw [Nat.sub_self, mst_zero]
      omega
    · have a1 := ih (k - p) (by omega) (by omega) u
      have a2 := hall p (by omega) 0
      have a3 := mst_sub (xs := cs) h6.1 p (k - p + u)
      rw [leastF_zero, Nat.add_zero] at a2
      rw [show p + (k - p + u) = k + u by omega] at a3
      omega
theorem lvl_first (css : List (List Int)) : ∀ (s t : Nat), ∃ p, p ≤ t ∧ leastF (css[0]?.getD []) p + (lvl (css.drop 1) s (t - p)) = lvl css (s + 1) t
  | 0, t => by
    obtain ⟨p, hp, e⟩ := lvl_mem css 0 t
    refine ⟨t - p, by omega, ?_⟩
    rw [e, show t - (t - p) = p by omega]
    show _ + leastF ((css.drop 1)[0]?.getD []) p = _ + leastF (css[0]?.getD []) (t - p)
    rw [List.getElem?_drop, show 1 + 0 = 0 + 1 from rfl]
    omega
  | s + 1, t => by
    obtain ⟨p, hp, e⟩ := lvl_mem css (s + 1) t
    obtain ⟨q, hq, e2⟩ := lvl_first css s (t - p)
    -- the turns of the first shaft are as many; the others take theirs at least
    have hge : ∀ r, r ≤ t → lvl css (s + 1 + 1) t ≤ leastF (css[0]?.getD []) r + lvl (css.drop 1) (s + 1) (t - r) := fun r hr => by
      obtain ⟨x, hx, ex⟩ := lvl_mem (css.drop 1) s (t - r)
      rw [ex]
      have h1 : lvl css (s + 1 + 1) t ≤ leastF (css[s + 1 + 1]?.getD []) x + lvl css (s + 1) (t - x) := by
        rw [lvl_succ]
        exact minP_le (lo := 0) (M := t) (fun p => leastF (css[s + 1 + 1]?.getD []) p + lvl css (s + 1) (t - p)) (p := x) (Nat.zero_le _) (by omega)
      have h2 : lvl css (s + 1) (t - x) ≤ leastF (css[0]?.getD []) r + lvl (css.drop 1) s (t - r - x) := by
        obtain ⟨ts, g1, g2⟩ := lvl_get (css.drop 1) s (t - r - x)
        have g3 := lvl_le css (fun i => if i = 0 then r else ts (i - 1)) (s + 1)
        have g4 : ∀ s', tot (fun i => if i = 0 then r else ts (i - 1)) (s' + 1) = r + tot ts s' ∧ cost css (fun i => if i = 0 then r else ts (i - 1)) (s' + 1) = leastF (css[0]?.getD []) r + cost (css.drop 1) ts s' := by
          intro s'
          induction s' with
          | zero => simp [tot, cost]
          | succ s' ih =>
            obtain ⟨i1, i2⟩ := ih
            rw [tot, cost, i1, i2, tot, cost, List.getElem?_drop]
            simp only [Nat.add_sub_cancel, show ¬ s' + 1 + 1 = 0 by omega, if_false, show 1 + (s' + 1) = s' + 1 + 1 by omega]
            constructor <;> omega
        obtain ⟨i1, i2⟩ := g4 s
        rw [i1, i2, g1, ← g2, show r + (t - r - x) = t - x by omega] at g3
        exact g3
      rw [List.getElem?_drop, show 1 + (s + 1) = s + 1 + 1 by omega, show t - r - x = t - r - x from rfl]
      omega
    refine ⟨q, by omega, ?_⟩
    have h1 := hge q (by omega)
    have h2 : lvl (css.drop 1) (s + 1) (t - q) ≤ leastF (css[s + 1 + 1]?.getD []) p + lvl (css.drop 1) s (t - p - q) := by
      rw [lvl_succ]
      have := minP_le (lo := 0) (M := t - q) (fun x => leastF ((css.drop 1)[s + 1]?.getD []) x + lvl (css.drop 1) s (t - q - x)) (p := p) (Nat.zero_le _) (by omega)
      try simp only [] at this
      have e3 : (css.drop 1)[s + 1]?.getD [] = css[s + 1 + 1]?.getD [] := by rw [List.getElem?_drop, show 1 + (s + 1) = s + 1 + 1 by omega]
      rw [e3] at this ⊢
      rw [show t - q - p = t - p - q by omega] at this
      exact this
    omega
theorem late_add {cs next : List Int} {css : List (List Int)} (h2 : 2 ≤ css.length) (h : askedR cs css = 0) (hl : next.length = cs.length) (he : ∀ j, j < cs.length → next[j]?.getD 0 = behF cs [css[0]?.getD []] (j + 1)) (hr : askedR next (css.drop 1) = 0) (hf : askedR cs [css[0]?.getD []] = 0) : (lateV cs css).1 ≤ (lateV cs [css[0]?.getD []]).1 + (lateV next (css.drop 1)).1 := by
  obtain ⟨hc, hch, q, a, hfr⟩ := asked_fair h
  obtain ⟨hn, hchr, -⟩ := asked_fair hr
  obtain ⟨d1, e1, -, -⟩ := late_nat hf
  obtain ⟨d2, e2, -, -⟩ := late_nat hr
  have hlen : (css.drop 1).length = css.length - 1 := List.length_drop
  have hrest := late_ok hr e2
  have hfirst : ∀ k, mst cs k ≤ leastF (css[0]?.getD []) (k + d1) := late_ok hf e1
  have hmb := mst_behind hf hl he
  have hv : ∀ j, j < (css.drop 1).length → Nums ((css.drop 1)[j]?.getD []) ∧ Ups ((css.drop 1)[j]?.getD []) := fun j hj => ⟨nums_of (chain_curves hchr hj), ups_of (chain_curves hchr hj)⟩
  have hv0 : Nums (css[0]?.getD []) ∧ Ups (css[0]?.getD []) := ⟨nums_of (chain_curves hch (by omega)), ups_of (chain_curves hch (by omega))⟩
  have hup : ∀ {a b : Nat}, a ≤ b → leastF (css[0]?.getD []) a ≤ leastF (css[0]?.getD []) b := by
    intro a b hab
    exact lvl_rises (css := [css[0]?.getD []]) (fun j hj => by simp at hj; subst hj; exact hv0) (s := 0) (by simp) hab
  have hmm : ∀ {a b : Nat}, a ≤ b → mst cs a ≤ mst cs b := fun hab => mst_mono (nums_of hc) (ups_of hc) hab
  rw [hlen] at hrest
  have key : ∀ k, mst cs k ≤ lvl css (css.length - 1) (k + (d1 + d2)) := fun k => by
    obtain ⟨p, hp, e⟩ := lvl_first css (css.length - 2) (k + (d1 + d2))
    rw [show css.length - 2 + 1 = css.length - 1 by omega] at e
    rw [← e]
    have hrise : ∀ {a b : Nat}, a ≤ b → lvl (css.drop 1) (css.length - 2) a ≤ lvl (css.drop 1) (css.length - 2) b := fun hab => lvl_rises hv (by omega) hab
    rw [show css.length - 1 - 1 = css.length - 2 by omega] at hrest
    by_cases c1 : k + d1 ≤ p
    · have g1 := hfirst k
      have g2 := hup c1
      have g3 := (lvl_bound (fun j hj => (hv j hj).1) (css.length - 2) (k + (d1 + d2) - p) (by omega)).1
      omega
    · by_cases c2 : p < k
      · have g1 := hmb (k - p) (by omega) p
        rw [show k - p + p = k by omega] at g1
        have g2 := hrest (k - p)
        have g3 := hrise (a := k - p + d2) (b := k + (d1 + d2) - p) (by omega)
        omega
      · have g1 := hmb 1 (Nat.le_refl _) p
        have g2 := hrest 1
        have g3 := hrise (a := 1 + d2) (b := k + (d1 + d2) - p) (by omega)
        have g4 := hmm (show k ≤ 1 + p by omega)
        omega
  rw [← e1, ← e2, late_same h]
  try simp only []
  rcases (maxZ_spec (fun k => (lagN cs css k : Int)) 181).2 with e | ⟨k, hk, e⟩
  · rw [e]
    omega
  · rw [e]
    obtain ⟨-, -, a3⟩ := lagN_spec hfr k
    have : ¬ d1 + d2 < lagN cs css k := fun hlt => by
      have := a3 _ hlt
      have := key k
      omega
    omega
theorem asked_first {cs : List Int} {css : List (List Int)} (h : askedR cs css = 0) : askedR cs [css[0]?.getD []] = 0 := by
  obtain ⟨hc, hch, -⟩ := asked_fair h
  obtain ⟨q, hq⟩ := best_exists (nums_of hc).1
  have hn := chain_pos hch
  have h0 := chain_curves hch (j := 0) (by omega)
  have hch1 : chainF [css[0]?.getD []] = 0 := chain_is (by simp) fun j hj => by simp at hj; subst hj; exact h0
  refine (asked_zero hc hch1 hq).2.2 fun j hj => ?_
  simp at hj
  subst hj
  exact (asked_zero hc hch hq).2.1 h 0 (by omega)
end Go.Proofs.Ytlgibckhkdggdaa

/- lag: both bounds are kept and reached (pure facts of LagReached). -/
namespace Go.Proofs.Ytlgibckhkdggdaa
open Go.RowKit Go.Shelf

theorem least_ex {f : Nat → Int} {v : Int} (L : Nat) (h : v ≤ f L) : ∃ r, r ≤ L ∧ v ≤ f r ∧ ∀ j, j < r → f j < v := by
  induction L using Nat.strongRecOn with
  | _ L ih =>
    by_cases hx : ∃ j, j < L ∧ v ≤ f j
    · obtain ⟨j, hj, hv⟩ := hx
      obtain ⟨r, h1, h2, h3⟩ := ih j hj hv
      exact ⟨r, by omega, h2, h3⟩
    · refine ⟨L, Nat.le_refl _, h, fun j hj => ?_⟩
      apply Classical.byContradiction
      intro hn
      exact hx ⟨j, hj, by omega⟩
theorem late_le {ts os : List Int} {k L : Nat} (h : ts[k]?.getD 0 ≤ os[k + L]?.getD 0) (hl : k + L < os.length) : 0 ≤ lateF ts os k ∧ lateF ts os k ≤ L := by
  obtain ⟨r, h1, h2, h3⟩ := least_ex (f := fun j => os[k + j]?.getD 0) L h
  rw [late_is h3 h2 (by omega)]
  omega
theorem tally_ok {R A : List Int} (h1 : rowF R = 0) (h2 : rowF A = 0) (hl : R.length = A.length) (top : ∀ j, j ≤ R.length → preS A j ≤ preS R j) : tallyE R A = 0 := by
  have e : rowsF R A = 0 := by rw [rowsF_is, if_neg (by rw [h1]; simp), h2]
  unfold tallyE
  rw [if_neg (by rw [e]; simp), if_neg (by omega), if_neg]
  rw [reach_true fun k hk => ?_]
  · simp
  · rw [totF_len] at hk
    rw [totF_get (by omega), totF_get (by omega)]
    exact top k (by omega)
/-- What is seen of two rows. -/
theorem seen_ok {R A : List Int} {m L : Nat} {w : Int} (h1 : rowF R = 0) (h2 : rowF A = 0) (hR : R.length = m) (hA : A.length = m) (top : ∀ j, j ≤ m → preS A j ≤ preS R j) (fin : preS R m ≤ preS A m) (hW : ∀ t, t ≤ m → preS R t - preS A t ≤ w) (hL : ∀ t, t + L ≤ m → preS R t ≤ preS A (t + L)) :
    ∃ x n : Int, seenR R A = (x, n, 0) ∧ 0 ≤ x ∧ x ≤ w ∧ 0 ≤ n ∧ n ≤ L ∧ ∀ b, b + L ≤ m → (L = 0 ∨ preS A (b + L - 1) < preS R b) → n = L := by
  have ht := tally_ok h1 h2 (by omega) (by rw [hR]; exact top)
  have g1 : ∀ k, k ≤ m → (totF R)[k]?.getD 0 = preS R k := fun k hk => totF_get (by omega)
  have g2 : ∀ k, k ≤ m → (totF A)[k]?.getD 0 = preS A k := fun k hk => totF_get (by omega)
  have e : seenR R A = (maxP 0 m (fun k => waitF (totF R) (totF A) k), maxP 0 m (fun k => lateF (totF R) (totF A) k), 0) := by
    unfold seenR
    rw [if_neg (by rw [ht]; simp), if_neg]
    · rw [hR]
      rfl
    · unfold waitF
      rw [hR, g1 _ (Nat.le_refl _), g2 _ (Nat.le_refl _)]
      omega
  have hlate : ∀ k, k ≤ m → 0 ≤ lateF (totF R) (totF A) k ∧ lateF (totF R) (totF A) k ≤ L := fun k hk => by
    by_cases hkL : k + L ≤ m
    · exact late_le (by rw [g1 _ hk, g2 _ hkL]; exact hL k hkL) (by rw [totF_len]; omega)
    · have := late_le (ts := totF R) (os := totF A) (k := k) (L := m - k) (by
        rw [g1 _ hk, show k + (m - k) = m by omega, g2 _ (Nat.le_refl _)]
        exact Int.le_trans (preS_mono (row_of h1) hk (by omega)) fin) (by rw [totF_len]; omega)
      omega
  obtain ⟨⟨p, -, hp, e1⟩, m1⟩ := maxP_spec (Nat.zero_le m) fun k => waitF (totF R) (totF A) k
  obtain ⟨⟨q, -, hq, e2⟩, m2⟩ := maxP_spec (Nat.zero_le m) fun k => lateF (totF R) (totF A) k
  have hw : ∀ k, k ≤ m → 0 ≤ waitF (totF R) (totF A) k ∧ waitF (totF R) (totF A) k ≤ w := fun k hk => by
    unfold waitF
    rw [g1 _ hk, g2 _ hk]
    have := top k hk
    have := hW k hk
    omega
  refine ⟨_, _, e, by rw [e1]; exact (hw p hp).1, by rw [e1]; exact (hw p hp).2, by rw [e2]; exact (hlate q hq).1, by rw [e2]; exact (hlate q hq).2, fun b hb hs => ?_⟩
  have h3 : lateF (totF R) (totF A) b = (L : Int) := by
    refine late_is (fun j hj => ?_) ?_ (by rw [totF_len]; omega)
    · rw [g1 _ (by omega), g2 _ (by omega)]
      have := preS_mono (row_of h2) (show b + j ≤ b + L - 1 by omega) (by omega)
      omega
    · rw [g1 _ (by omega), g2 _ hb]
      exact hL b hb
  have h4 := m2 b (Nat.zero_le _) (by omega)
  have h5 := (hlate q hq).2
  try simp only [] at e2 h4
  omega
/-! ### quiet turns -/
def quiL (xs : List Int) (l : Nat) : List Int := xs ++ List.replicate l 0
theorem quiL_len (xs : List Int) (l : Nat) : (quiL xs l).length = xs.length + l := by simp [quiL]
theorem quiL_get (xs : List Int) (l j : Nat) : (quiL xs l)[j]?.getD 0 = xs[j]?.getD 0 := by
  unfold quiL
  by_cases h : j < xs.length
  · rw [List.getElem?_append_left h]
  · rw [List.getElem?_append_right (by omega), List.getElem?_eq_none (l := xs) (by omega)]
    by_cases h2 : j - xs.length < l
    · rw [List.getElem?_replicate, if_pos h2]
      rfl
    · rw [List.getElem?_replicate, if_neg h2]
theorem preS_qui (xs : List Int) (l : Nat) : ∀ j, preS (quiL xs l) j = preS xs (min j xs.length)
  | 0 => by rw [Nat.zero_min]; rfl
  | j + 1 => by
    rw [preS, preS_qui xs l j, quiL_get]
    by_cases h : j < xs.length
    · rw [Nat.min_eq_left (by omega), Nat.min_eq_left (by omega), preS]
    · rw [Nat.min_eq_right (by omega), Nat.min_eq_right (by omega), List.getElem?_eq_none (by omega)]
      exact Int.add_zero _
theorem qui_row {xs : List Int} {l : Nat} (h : rowF xs = 0) (hl : xs.length + l ≤ 60) : rowF (quiL xs l) = 0 :=
  rowF_zero (by rw [quiL_len]; exact hl) fun j _ => by
    rw [quiL_get]
    by_cases hj : j < xs.length
    · exact (row_of h).2 j hj
    · rw [List.getElem?_eq_none (by omega)]
      exact ⟨Int.le_refl _, by decide⟩
theorem qui_keeps {cs xs : List Int} {l : Nat} (hc : curveF cs = 0) (h : ∀ u t, u ≤ t → t ≤ xs.length → preS xs t - preS xs u ≤ mst cs (t - u)) : ∀ u t, u ≤ t → preS (quiL xs l) t - preS (quiL xs l) u ≤ mst cs (t - u) := fun u t hu => by
  rw [preS_qui, preS_qui]
  have a1 := h (min u xs.length) (min t xs.length) (by omega) (by omega)
  have a2 := mst_mono (nums_of hc) (ups_of hc) (show min t xs.length - min u xs.length ≤ t - u by omega)
  omega
theorem kep_pre {cs bs : List Int} (h : curveF cs = 0) (hb : ∀ j : Nat, 0 ≤ bs[j]?.getD 0 ∧ bs[j]?.getD 0 ≤ 255) {m : Nat} : ∀ j, j ≤ m → preS (kepL cs bs m) j = kepT cs bs j
  | 0, _ => rfl
  | j + 1, hj => by rw [preS, kep_pre h hb j (by omega), kepL_get (by omega), kepT_succ]
theorem kep_all {cs bs : List Int} (h : curveF cs = 0) (hb : ∀ j : Nat, 0 ≤ bs[j]?.getD 0 ∧ bs[j]?.getD 0 ≤ 255) {m : Nat} : ∀ u t, u ≤ t → t ≤ m → preS (kepL cs bs m) t - preS (kepL cs bs m) u ≤ mst cs (t - u) := fun u t hu ht => by
  rw [kep_pre h hb t ht, kep_pre h hb u (by omega)]
  exact (kep_keeps (nums_of h) (ups_of h) hb t).1 u hu
theorem keeps_fit {cs xs : List Int} (hc : curveF cs = 0) (hr : rowF xs = 0) (h : ∀ u t, u ≤ t → t ≤ xs.length → preS xs t - preS xs u ≤ mst cs (t - u)) : Fit xs := ⟨hr, fun j hj => by
  have a1 := h 0 j (by omega) hj
  have a2 := mst_100 hc j
  have a3 := (row_of hr).1
  rw [preS] at a1
  rw [Nat.sub_zero] at a1
  omega⟩
/-! ### rows with quiet turns behind them -/
theorem goB_chk {css : List (List Int)} {R : List Int} (ms : List Int) {m : Nat} (hR : R.length = m) (hF : Fit R) (hch : chainF css = 0) {i : Nat} (hi : i < css.length) : checkAddedR (css[i]?.getD []) (goB css R ms m i) (goB css R ms m (i + 1)) = 0 := by
  obtain ⟨h1, h2, h3⟩ := goB_ok ms hR hF hch i (by omega)
  obtain ⟨k1, k2, k3⟩ := goB_ok ms hR hF hch (i + 1) (by omega)
  have hl := goB_len (css := css) (ms := ms) hR i
  have hl2 := goB_len (css := css) (ms := ms) hR (i + 1)
  have hsp : ∀ j, j ≤ m → _ := fun j hj => addg_spec (xs := css[i]?.getD []) ms (row_of h1) j (by rw [hl]; exact hj)
  have hpre : ∀ j, j ≤ m → preS (goB css R ms m (i + 1)) j = addgF (css[i]?.getD []) (goB css R ms m i) ms j := fun j hj => preS_addg ms hj
  refine chk_ok (chain_curves hch hi) h1 k1 (by omega) (fun j hj => ?_) fun j hj => ?_
  · rw [hl] at hj
    rw [hpre j hj]
    exact (hsp j hj).2.1
  · rw [hl] at hj
    rw [hpre j hj]
    exact (hsp j hj).2.2.2
/-- The first half: whatever comes, and whatever is added. -/
theorem reach_most {cs : List Int} {css : List (List Int)} {bs : List Int} (ms : List Int) {m L : Nat} (hm : m ≤ 20) (hb : ∀ j : Nat, 0 ≤ bs[j]?.getD 0 ∧ bs[j]?.getD 0 ≤ 255) (ha : askedR cs css = 0) (hL : (L : Int) = (lateV cs css).1) (hL40 : L ≤ 40) :
    breakR cs (quiL (kepL cs bs m) L) = (0, 0, 5) ∧ Fit (quiL (kepL cs bs m) L) ∧ ∃ x n : Int, seenR (quiL (kepL cs bs m) L) (goB css (quiL (kepL cs bs m) L) ms (m + L) css.length) = (x, n, 0) ∧ x ≤ (waitV cs css).1 ∧ n ≤ L := by
  obtain ⟨hc, hch, -⟩ := asked_fair ha
  have hlen : (quiL (kepL cs bs m) L).length = m + L := by rw [quiL_len, kepL_len]
  have hr := qui_row (l := L) (kep_row hc hb (m := m) (by omega)) (by rw [kepL_len]; omega)
  have hk := qui_keeps (l := L) hc (xs := kepL cs bs m) (by rw [kepL_len]; exact kep_all hc hb)
  have hF := keeps_fit hc hr fun u t hu _ => hk u t hu
  have hbd := breakR_none hc hr fun i j hij => by
    have := hk i (i + j) (by omega)
    rw [show i + j - i = j by omega] at this
    exact this
  refine ⟨hbd, hF, ?_⟩
  have hok := goB_ok ms hlen hF hch css.length (Nat.le_refl _)
  have hlate : ∀ t, t + L ≤ m + L → preS (quiL (kepL cs bs m) L) t ≤ preS (goB css (quiL (kepL cs bs m) L) ms (m + L) css.length) (t + L) := fun t ht => goB_late ms hlen hF hch (fun u t hu _ => hk u t hu) (fun v _ => late_ok ha hL v) ht
  obtain ⟨x, n, e, -, h2, -, h4, -⟩ := seen_ok (L := L) (w := (waitV cs css).1) hr hok.row hlen (goB_len hlen _) hok.top (by
    have := hlate m (Nat.le_refl _)
    rw [preS_qui, kepL_len, Nat.min_self] at this
    rw [preS_qui, kepL_len, Nat.min_eq_right (by omega)]
    exact this) (fun t ht => by
    obtain ⟨v, hv, hle⟩ := goB_wait ms hlen hF hch (fun u t hu _ => hk u t hu) ht
    have := wait_all ha v
    omega) hlate
  exact ⟨x, n, e, h2, h4⟩
/-! ### what reaches both -/
theorem own_all {cs : List Int} (h : curveF cs = 0) {m : Nat} : ∀ u t, u ≤ t → t ≤ m → preS (ownL cs m) t - preS (ownL cs m) u ≤ mst cs (t - u) := fun u t hu ht => by
  rw [preS_own h m t ht, preS_own h m u (by omega)]
  have := mst_sub (nums_of h).1 u (t - u)
  rw [show u + (t - u) = t by omega] at this
  omega
theorem own_fit {cs : List Int} (h : curveF cs = 0) {m : Nat} (hm : m ≤ 60) : Fit (ownL cs m) := keeps_fit h (own_row h hm) (by rw [ownL_len]; exact own_all h)
theorem thr_low {css : List (List Int)} {R : List Int} (hch : chainF css = 0) (hF : Fit R) {t : Nat} (ht : t ≤ R.length) : (∃ u, u ≤ t ∧ preS (thrL css R css.length) t = preS R u + lvl css (css.length - 1) (t - u)) ∧ ∀ u, u ≤ t → preS (thrL css R css.length) t ≤ preS R u + lvl css (css.length - 1) (t - u) := by
  have hn := chain_pos hch
  have e := thr_is (fun j hj => chain_curves hch hj) hF (css.length - 1) (by omega) t ht
  rw [show css.length - 1 + 1 = css.length by omega] at e
  rw [e]
  obtain ⟨⟨p, -, hp, e1⟩, h2⟩ := minP_spec (Nat.zero_le t) fun p => preS R (t - p) + lvl css (css.length - 1) p
  refine ⟨⟨t - p, by omega, by rw [e1, show t - (t - p) = p by omega]⟩, fun u hu => ?_⟩
  have := h2 (t - u) (Nat.zero_le _) (by omega)
  try simp only [] at this
  rw [show t - (t - u) = u by omega] at this
  exact this
theorem wait_reached {cs : List Int} {css : List (List Int)} (ha : askedR cs css = 0) {a : Nat} (h60 : a ≤ 60) (h : mst cs a - lvl css (css.length - 1) a = (waitV cs css).1) : preS (ownL cs a) a - preS (thrL css (ownL cs a) css.length) a = (waitV cs css).1 := by
  obtain ⟨hc, hch, -⟩ := asked_fair ha
  obtain ⟨⟨u, hu, e⟩, h2⟩ := thr_low hch (own_fit hc h60) (t := a) (by rw [ownL_len]; exact Nat.le_refl _)
  have h3 := h2 0 (by omega)
  have h4 := own_all hc (m := a) u a hu (Nat.le_refl _)
  have h5 := wait_all ha (a - u)
  rw [preS, Nat.sub_zero] at h3
  have h6 := preS_own hc a a (Nat.le_refl _)
  omega
theorem late_reached {cs : List Int} {css : List (List Int)} (ha : askedR cs css = 0) {L b : Nat} (hL : (L : Int) = (lateV cs css).1) (h60 : b + L ≤ 60) (h : L = 0 ∨ lvl css (css.length - 1) (b + L - 1) < mst cs b) : ∃ x : Int, seenR (quiL (ownL cs b) L) (thrL css (quiL (ownL cs b) L) css.length) = (x, (L : Int), 0) := by
  obtain ⟨hc, hch, -⟩ := asked_fair ha
  have hlen : (quiL (ownL cs b) L).length = b + L := by rw [quiL_len, ownL_len]
  have hr := qui_row (l := L) (own_row hc (m := b) (by omega)) (by rw [ownL_len]; omega)
  have hk := qui_keeps (l := L) hc (xs := ownL cs b) (by rw [ownL_len]; exact own_all hc)
  have hF := keeps_fit hc hr fun u t hu _ => hk u t hu
  have hthr := thrL_fit (fun j hj => chain_curves hch hj) hF css.length (Nat.le_refl _)
  have hlate : ∀ t, t + L ≤ b + L → preS (quiL (ownL cs b) L) t ≤ preS (thrL css (quiL (ownL cs b) L) css.length) (t + L) := fun t ht => by
    obtain ⟨⟨u, hu, e⟩, -⟩ := thr_low hch hF (t := t + L) (by omega)
    rw [e]
    have hl := (lvl_bound (fun j hj => nums_of (chain_curves hch hj)) (css.length - 1) (t + L - u) (by have := chain_pos hch; omega)).1
    by_cases hut : t ≤ u
    · have := preS_mono (row_of hr) hut (by omega)
      omega
    · have h1 := hk u t (by omega)
      have h3 := late_ok ha hL (t - u)
      rw [show t - u + L = t + L - u by omega] at h3
      omega
  have hb0 : preS (quiL (ownL cs b) L) b = mst cs b := by rw [preS_qui, ownL_len, Nat.min_self, preS_own hc b b (Nat.le_refl _)]
  obtain ⟨x, n, e, -, -, -, -, h6⟩ := seen_ok (L := L) (w := (waitV cs css).1) hr hthr.1 hlen (by rw [thrL_len]; exact hlen) (fun j hj => by
    have := (thr_low hch hF (t := j) (by omega)).2 j (Nat.le_refl _)
    rw [Nat.sub_self, lvl_zero] at this
    omega) (by
    have := hlate b (Nat.le_refl _)
    rw [preS_qui, ownL_len, Nat.min_self] at this
    rw [preS_qui, ownL_len, Nat.min_eq_right (by omega)]
    exact this) (fun t ht => by
    obtain ⟨⟨u, hu, e⟩, -⟩ := thr_low hch hF (t := t) (by omega)
    have h1 := hk u t hu
    have h2 := wait_all ha (t - u)
    omega) hlate
  refine ⟨x, ?_⟩
  rw [e, h6 b (Nat.le_refl _) (h.imp id fun h => ?_)]
  have := (thr_low hch hF (t := b + L - 1) (by omega)).2 0 (by omega)
  rw [preS, Nat.sub_zero] at this
  rw [hb0]
  omega
end Go.Proofs.Ytlgibckhkdggdaa

/- lag: rows of rows of the call's own. -/
namespace Go.Proofs.Ytlgibckhkdggdaa
open Go.RowKit Go.Shelf

theorem infoRow : (Try.prog.info? 22).map (fun i => (i.zero, i.size, i.bytes)) = some (some (.slice none 0 0), 1, 24) := by kernel_rfl
/-- A value is a row apart from a block. -/
def RowIn (W : World) (k : Option Nat) (v : Value) (cs : List Int) : Prop :=
  ∃ A c, v = .slice A cs.length c ∧ IntsAt W W.heap.size A cs.length cs ∧ (0 < cs.length → ∀ b, A = some b → some b.block ≠ k)
theorem IntsAt.grown {W W' : World} {k : Option Nat} {A : Option Addr} {n : Nat} {xs : List Int} (h : IntsAt W W.heap.size A n xs) (hg : W.grownBy W' k) (hne : 0 < n → ∀ b, A = some b → some b.block ≠ k) : IntsAt W' W'.heap.size A n xs := by
  refine ⟨h.1, h.2.1, fun h0 => ?_⟩
  obtain ⟨b, off, e, hb, hc⟩ := h.2.2 h0
  refine ⟨b, off, e, Nat.lt_of_lt_of_le hb hg.size, fun j hj => ?_⟩
  exact (World.cell?_of_block (a := ⟨b, off + j, none⟩) (hg.block b hb (hne h0 _ e))).trans (hc j hj)
theorem RowIn.grown {W W' : World} {k k' : Option Nat} {v : Value} {cs : List Int} (h : RowIn W k v cs) (hg : W.grownBy W' k) (hk : k' = k ∨ k' = some W.heap.size) : RowIn W' k' v cs := by
  obtain ⟨A, c, e, hi, hne⟩ := h
  refine ⟨A, c, e, hi.grown hg hne, fun h0 b hb => ?_⟩
  rcases hk with rfl | rfl
  · exact hne h0 b hb
  · obtain ⟨b', off, e', hlt, -⟩ := hi.2.2 h0
    obtain rfl : b = ⟨b', off, none⟩ := by rw [hb] at e'; exact Option.some.inj e'
    intro e2
    have := Option.some.inj e2
    simp only [] at this
    omega
theorem RowIn.below {W W' : World} {k : Option Nat} {v : Value} {cs : List Int} (h : RowIn W k v cs) (hb : Below W.heap.size W W') : RowIn W' k v cs := by
  obtain ⟨A, c, e, hi, hne⟩ := h
  exact ⟨A, c, e, ints_up hi hb, hne⟩
def RowsIn (W : World) (k : Option Nat) (vs : List Value) (css : List (List Int)) : Prop :=
  vs.length = css.length ∧ ∀ j, j < css.length → RowIn W k (vs[j]?.getD undef) (css[j]?.getD [])
theorem RowsIn.nil {W : World} {k : Option Nat} : RowsIn W k [] [] := ⟨rfl, fun j hj => absurd hj (by simp)⟩
theorem RowsIn.below {W W' : World} {k : Option Nat} {vs : List Value} {css : List (List Int)} (h : RowsIn W k vs css) (hb : Below W.heap.size W W') : RowsIn W' k vs css := ⟨h.1, fun j hj => (h.2 j hj).below hb⟩
theorem RowsIn.alloc {W : World} {k : Option Nat} {vs : List Value} {css : List (List Int)} (h : RowsIn W k vs css) (o : Obj) : RowsIn (W.alloc o) k vs css := h.below ((Below.refl _ W).alloc (Nat.le_refl _) o)
theorem RowIn.alloc {W : World} {k : Option Nat} {v : Value} {cs : List Int} (h : RowIn W k v cs) (o : Obj) : RowIn (W.alloc o) k v cs := h.below ((Below.refl _ W).alloc (Nat.le_refl _) o)
theorem RowsIn.push {W W' : World} {k k' : Option Nat} {vs : List Value} {css : List (List Int)} {x : Value} {cs : List Int} (h : RowsIn W k vs css) (hx : RowIn W k x cs) (hg : W.grownBy W' k) (hk : k' = k ∨ k' = some W.heap.size) : RowsIn W' k' (vs ++ [x]) (css ++ [cs]) := by
  refine ⟨by simp [h.1], fun j hj => ?_⟩
  by_cases hlt : j < css.length
  · rw [List.getElem?_append_left (by rw [h.1]; exact hlt), List.getElem?_append_left hlt]
    exact (h.2 j hlt).grown hg hk
  · obtain rfl : j = css.length := by simp at hj; omega
    rw [List.getElem?_append_right (by rw [h.1]; exact Nat.le_refl _), List.getElem?_append_right (Nat.le_refl _), h.1, Nat.sub_self]
    exact hx.grown hg hk
theorem own_belowT {W W' : World} {B D : Nat} {T : TypeId} {v : Value} {n : Nat} {xs : List Value} (h : W.ownsRow B T 1 v n xs) (hb : Below D W W') (hD : W.heap.size ≤ D) : W'.ownsRow B T 1 v n xs := by
  rcases h.2 with h2 | ⟨g, cap, cur, e, h1, hg, hr⟩
  · exact ⟨h.1, .inl h2⟩
  · have hlt : g < W.heap.size := (Array.getElem?_eq_some_iff.1 hg).1
    exact ⟨h.1, .inr ⟨g, cap, cur, e, h1, (hb.block g (by omega)).trans hg, hr⟩⟩
theorem row_in {W : World} {B n : Nat} {k : Option Nat} {v : Value} {xs : List Int} (h : W.ownsRow B 2 1 v n (xs.map (Value.int .i64))) (hm : n ≤ 1000000) (hk : ∀ g, k = some g → g < B) : RowIn W k v xs := by
  have hl : xs.length = n := by have := h.1; simpa using this
  obtain ⟨A, c, e, -, hi⟩ := own_form h hm
  subst hl
  refine ⟨A, c, e, hi, fun h0 b hb e2 => ?_⟩
  subst e hb
  have h3 := (h.lt b.block rfl).1
  have h4 := hk b.block e2.symm
  omega
theorem ints_in {W : World} {n c : Nat} {k : Option Nat} {A : Option Addr} {xs : List Int} {B : Nat} (h : IntsAt W B A n xs) (hB : B ≤ W.heap.size) (hk : ∀ g, k = some g → B ≤ g) : RowIn W k (.slice A n c) xs := by
  have hl := h.1
  subst hl
  refine ⟨A, c, rfl, h.more hB, fun h0 b hb e2 => ?_⟩
  obtain ⟨b', off, e', hlt, -⟩ := h.2.2 h0
  obtain rfl : b = ⟨b', off, none⟩ := by rw [hb] at e'; exact Option.some.inj e'
  have h4 := hk b' e2.symm
  omega
theorem rows_own {W : World} {B k : Nat} {v : Value} {vs : List Value} {css : List (List Int)} (h : W.ownsRow B 22 1 v k vs) (hr : RowsIn W v.ownBlock vs css) (hm : k ≤ 1000000) : ∃ A c, v = .slice A k c ∧ k ≤ c ∧ RowsAt W W.heap.size A k css := by
  have hl : vs.length = k := by have := h.1; simpa using this
  have hl2 := hr.1
  rcases h.2 with ⟨rfl, h0⟩ | ⟨g, cap, cur, rfl, hb, hg, hc, hm2, hs, ht⟩
  · refine ⟨none, 0, by rw [h0], by omega, by omega, by omega, fun h => absurd h (by omega)⟩
  · refine ⟨_, cap, rfl, hc, by omega, by omega, fun h0 => ⟨g, 0, rfl, (h.lt g rfl).2, fun j cs hj => ?_⟩⟩
    have hjl : j < css.length := by
      rcases Nat.lt_or_ge j css.length with h | h
      · exact h
      · rw [List.getElem?_eq_none h] at hj
        cases hj
    obtain ⟨A', c', e, hi, -⟩ := hr.2 j hjl
    rw [hj] at e hi
    refine ⟨A', cs.length, c', ?_, hi⟩
    rw [Nat.zero_add, h.cellAt j (by omega)]
    have hv : vs[j]? = some (vs[j]?.getD undef) := by rw [List.getElem?_eq_getElem (by omega)]; rfl
    rw [hv, e]
    rfl
def mapR (f : Nat → List Int) (k : Nat) : List (List Int) := (List.range k).map f
theorem mapR_len (f : Nat → List Int) (k : Nat) : (mapR f k).length = k := by simp [mapR]
theorem mapR_succ (f : Nat → List Int) (k : Nat) : mapR f (k + 1) = mapR f k ++ [f k] := by
  unfold mapR
  rw [List.range_succ, List.map_append]
  rfl
theorem mapR_all {f : List Int → List Int} (css : List (List Int)) : mapR (fun j => f (css[j]?.getD [])) css.length = css.map f := by
  unfold mapR
  apply List.ext_getElem (by simp)
  intro i h1 h2
  simp at h1
  simp [List.getElem?_eq_getElem h1]
theorem RowsAt.take {w : World} {B : Nat} {A : Option Addr} {n : Nat} {css : List (List Int)} (h : RowsAt w B A n css) {k : Nat} (hk : k ≤ n) : RowsAt w B A k (css.take k) := by
  refine ⟨by rw [List.length_take, h.1]; omega, by have := h.2.1; omega, fun h0 => ?_⟩
  obtain ⟨b, off, e, hb, hc⟩ := h.2.2 (by omega)
  refine ⟨b, off, e, hb, fun j cs hj => hc j cs ?_⟩
  rw [List.getElem?_take] at hj
  split at hj
  · exact hj
  · cases hj
theorem RowsAt.drop {w : World} {B b off : Nat} {n : Nat} {css : List (List Int)} (h : RowsAt w B (some ⟨b, off, none⟩) n css) (k : Nat) : RowsAt w B (some ⟨b, off + k, none⟩) (n - k) (css.drop k) := by
  refine ⟨by rw [List.length_drop, h.1], by have := h.2.1; omega, fun h0 => ?_⟩
  obtain ⟨b', off', e, hb, hc⟩ := h.2.2 (by omega)
  cases e
  refine ⟨b, off + k, rfl, hb, fun j cs hj => ?_⟩
  rw [List.getElem?_drop] at hj
  obtain ⟨A', m, c, h1, h2⟩ := hc (k + j) cs hj
  exact ⟨A', m, c, by rw [show off + k + j = off + (k + j) by omega]; exact h1, h2⟩
theorem least_at {css : List (List Int)} (h : chainF css = 0) {k : Nat} (hk : k ≤ 200) : leastR css (k : Int) = (lvl css (css.length - 1) k, 0) := by
  unfold leastR
  rw [if_neg (by rw [h]; simp), if_neg (by omega), Int.toNat_natCast]
theorem lvl_fits {css : List (List Int)} (h : chainF css = 0) {k : Nat} (hk : k ≤ 200) : 0 ≤ lvl css (css.length - 1) k ∧ lvl css (css.length - 1) k ≤ 2030000 := by
  have hn := chain_nums h
  have := lvl_bound hn.2.2 (css.length - 1) k (by omega)
  omega
theorem mst_fits {cs : List Int} (h : curveF cs = 0) {k : Nat} (hk : k ≤ 200) : 0 ≤ mst cs k ∧ mst cs k ≤ 20000 := by
  have := (mst_nonneg (nums_of h) k).1
  have := mst_100 h k
  omega
theorem wait_fits {cs : List Int} {css : List (List Int)} (h : askedR cs css = 0) : ∃ v, waitV cs css = (v, 0) ∧ 0 ≤ v ∧ v ≤ 20000 := by
  obtain ⟨hc, hch, -⟩ := asked_fair h
  rw [wait_same h]
  refine ⟨_, rfl, (maxZ_spec _ 181).1.1, ?_⟩
  rcases (maxZ_spec (fun k => mst cs k - lvl css (css.length - 1) k) 181).2 with e | ⟨k, hk, e⟩
  · omega
  · rw [e]
    have := mst_fits hc (k := k) (by omega)
    have := lvl_fits hch (k := k) (by omega)
    omega
theorem late_fits {cs : List Int} {css : List (List Int)} (h : askedR cs css = 0) : ∃ L : Nat, lateV cs css = ((L : Int), 0) ∧ L ≤ 20 := by
  obtain ⟨L, e, hl, e2⟩ := late_nat h
  exact ⟨L, Prod.ext e.symm e2, hl⟩
theorem wait_off {cs : List Int} {css : List (List Int)} (h : askedR cs css = 18) : waitV cs css = (0, 18) ∧ lateV cs css = (0, 18) := by
  unfold waitV lateV
  rw [asked_same, h, if_pos (by simp), if_pos (by simp)]
  exact ⟨rfl, rfl⟩
theorem wait_none : waitV [] [] = (0, 6) := by
  have e : boardE [] [] = 6 := by
    unfold boardE
    rw [if_pos (by decide)]
    rfl
  unfold waitV
  rw [e, if_pos (by simp)]
theorem ints_none (W : World) (B : Nat) (A : Option Addr) : IntsAt W B A 0 [] := ⟨rfl, by omega, fun h => absurd h (by omega)⟩
theorem rows_none (W : World) (B : Nat) : RowsAt W B none 0 [] := ⟨rfl, by omega, fun h => absurd h (by omega)⟩
/-- What Behind returns where the bounds are asked, or not. -/
theorem beh_on {cs : List Int} {css : List (List Int)} {n0 : Nat} {w' : World} {e : Ending} (h : BehindP cs css n0 w' e) (ha : askedR cs css = 0) : ∃ g, n0 ≤ g ∧ e = .returned (.tuple #[.slice (some ⟨g, 0, none⟩) cs.length cs.length, .int .i64 0]) ∧ RowZ w' g (behR cs.length cs css cs.length) := by
  rcases h with ⟨h, -⟩ | ⟨-, g, hg, e, hr⟩
  · rw [asked_same] at h
    exact absurd ha h
  · exact ⟨g, hg, e, hr⟩
theorem beh_off {cs : List Int} {css : List (List Int)} {n0 : Nat} {w' : World} {e : Ending} (h : BehindP cs css n0 w' e) (ha : askedR cs css = 18) : e = .returned (.tuple #[.slice none 0 0, .int .i64 18]) := by
  rcases h with ⟨-, e⟩ | ⟨h, -⟩
  · rw [asked_same, ha] at e
    exact e
  · rw [asked_same, ha] at h
    cases h
end Go.Proofs.Ytlgibckhkdggdaa
