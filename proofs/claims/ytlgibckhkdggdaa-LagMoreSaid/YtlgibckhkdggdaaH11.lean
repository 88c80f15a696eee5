/- Parts of a proof: MA MB RA RB. -/
import Derived.Test.YtlgibckhkdggdaaH10

/- lag: minima, maxima; the least sums as one function. -/
namespace Go.Proofs.Ytlgibckhkdggdaa
open Go.RowKit Go.Shelf

theorem fold_le {α : Type} (f : α → Int) : ∀ (l : List α) (o : Option Int) (v : Int), l.foldl (bestStep f ltI) o = some v → (∀ x ∈ l, v ≤ f x) ∧ ∀ b, o = some b → v ≤ b
  | [], o, v, h => ⟨by simp, fun b hb => by subst hb; cases h; exact Int.le_refl _⟩
  | x :: l, o, v, h => by
    rw [List.foldl_cons] at h
    obtain ⟨h1, h2⟩ := fold_le f l _ v h
    have h3 : v ≤ f x ∧ ∀ b, o = some b → v ≤ b := by
      cases o with
      | none => exact ⟨h2 _ rfl, fun b hb => by cases hb⟩
      | some b =>
        unfold bestStep ltI at h2
        by_cases hc : f x < b
        · simp only [hc, decide_true, if_true] at h2
          have := h2 _ rfl
          exact ⟨this, fun b' hb => by cases hb; omega⟩
        · simp only [hc, decide_false, Bool.false_eq_true, if_false] at h2
          have := h2 _ rfl
          exact ⟨by omega, fun b' hb => by cases hb; omega⟩
    exact ⟨fun y hy => by rcases List.mem_cons.1 hy with rfl | hy; exact h3.1; exact h1 y hy, h3.2⟩
theorem fold_ge {α : Type} (f : α → Int) : ∀ (l : List α) (o : Option Int) (v : Int), l.foldl (bestStep f gtI) o = some v → (∀ x ∈ l, f x ≤ v) ∧ ∀ b, o = some b → b ≤ v
  | [], o, v, h => ⟨by simp, fun b hb => by subst hb; cases h; exact Int.le_refl _⟩
  | x :: l, o, v, h => by
    rw [List.foldl_cons] at h
    obtain ⟨h1, h2⟩ := fold_ge f l _ v h
    have h3 : f x ≤ v ∧ ∀ b, o = some b → b ≤ v := by
      cases o with
      | none => exact ⟨h2 _ rfl, fun b hb => by cases hb⟩
      | some b =>
        unfold bestStep gtI at h2
        by_cases hc : f x > b
        · simp only [hc, decide_true, if_true] at h2
          have := h2 _ rfl
          exact ⟨this, fun b' hb => by cases hb; omega⟩
        · simp only [hc, decide_false, Bool.false_eq_true, if_false] at h2
          have := h2 _ rfl
          exact ⟨by omega, fun b' hb => by cases hb; omega⟩
    exact ⟨fun y hy => by rcases List.mem_cons.1 hy with rfl | hy; exact h3.1; exact h1 y hy, h3.2⟩
/-- The least, and the greatest, of f from lo to M. -/
def minP (lo M : Nat) (f : Nat → Int) : Int := (bestO (fun p : Part lo M => f p.1) ltI (partsS lo M)).getD 0
def maxP (lo M : Nat) (f : Nat → Int) : Int := (bestO (fun p : Part lo M => f p.1) gtI (partsS lo M)).getD 0
theorem parts_ne {lo M : Nat} (h : lo ≤ M) : partsS lo M ≠ [] := by
  intro e
  have h0 := partsS_len lo M
  rw [e, List.length_nil] at h0
  omega
theorem minP_spec {lo M : Nat} (h : lo ≤ M) (f : Nat → Int) : (∃ p, lo ≤ p ∧ p ≤ M ∧ minP lo M f = f p) ∧ ∀ p, lo ≤ p → p ≤ M → minP lo M f ≤ f p := by
  obtain ⟨v, hv⟩ := bestO_some (fun p : Part lo M => f p.1) ltI _ none (.inl (parts_ne h))
  have e : minP lo M f = v := by unfold minP bestO; rw [hv]; rfl
  refine ⟨?_, fun p h1 h2 => ?_⟩
  · rcases bestO_mem _ _ _ _ _ hv with h | ⟨p, -, hp⟩
    · cases h
    · have := parts_mem.1 p.2
      exact ⟨p.1, this.1, this.2, by rw [e]; exact hp⟩
  · rw [e]
    exact (fold_le _ _ _ _ hv).1 ⟨p, parts_mem.2 ⟨h1, h2⟩⟩ (List.mem_attach _ _)
theorem maxP_spec {lo M : Nat} (h : lo ≤ M) (f : Nat → Int) : (∃ p, lo ≤ p ∧ p ≤ M ∧ maxP lo M f = f p) ∧ ∀ p, lo ≤ p → p ≤ M → f p ≤ maxP lo M f := by
  obtain ⟨v, hv⟩ := bestO_some (fun p : Part lo M => f p.1) gtI _ none (.inl (parts_ne h))
  have e : maxP lo M f = v := by unfold maxP bestO; rw [hv]; rfl
  refine ⟨?_, fun p h1 h2 => ?_⟩
  · rcases bestO_mem _ _ _ _ _ hv with h | ⟨p, -, hp⟩
    · cases h
    · have := parts_mem.1 p.2
      exact ⟨p.1, this.1, this.2, by rw [e]; exact hp⟩
  · rw [e]
    exact (fold_ge _ _ _ _ hv).1 ⟨p, parts_mem.2 ⟨h1, h2⟩⟩ (List.mem_attach _ _)
theorem minP_le {lo M : Nat} (f : Nat → Int) {p : Nat} (h1 : lo ≤ p) (h2 : p ≤ M) : minP lo M f ≤ f p := (minP_spec (by omega) f).2 p h1 h2
theorem maxP_ge {lo M : Nat} (f : Nat → Int) {p : Nat} (h1 : lo ≤ p) (h2 : p ≤ M) : f p ≤ maxP lo M f := (maxP_spec (by omega) f).2 p h1 h2
theorem minP_eq {lo M : Nat} {f : Nat → Int} {v : Int} (h : lo ≤ M) (h1 : ∃ p, lo ≤ p ∧ p ≤ M ∧ v = f p) (h2 : ∀ p, lo ≤ p → p ≤ M → v ≤ f p) : minP lo M f = v := by
  obtain ⟨⟨p, a, b, e⟩, hl⟩ := minP_spec h f
  obtain ⟨q, c, d, e'⟩ := h1
  have := h2 p a b
  have := hl q c d
  omega
theorem maxP_eq {lo M : Nat} {f : Nat → Int} {v : Int} (h : lo ≤ M) (h1 : ∃ p, lo ≤ p ∧ p ≤ M ∧ v = f p) (h2 : ∀ p, lo ≤ p → p ≤ M → f p ≤ v) : maxP lo M f = v := by
  obtain ⟨⟨p, a, b, e⟩, hl⟩ := maxP_spec h f
  obtain ⟨q, c, d, e'⟩ := h1
  have := h2 p a b
  have := hl q c d
  omega
theorem minP_one (lo : Nat) (f : Nat → Int) : minP lo lo f = f lo :=
  minP_eq (Nat.le_refl _) ⟨lo, Nat.le_refl _, Nat.le_refl _, rfl⟩ fun p h1 h2 => by
    obtain rfl : p = lo := by omega
    exact Int.le_refl _
theorem maxP_one (lo : Nat) (f : Nat → Int) : maxP lo lo f = f lo :=
  maxP_eq (Nat.le_refl _) ⟨lo, Nat.le_refl _, Nat.le_refl _, rfl⟩ fun p h1 h2 => by
    obtain rfl : p = lo := by omega
    exact Int.le_refl _
theorem minP_succ {lo M : Nat} (h : lo ≤ M) (f : Nat → Int) : minP lo (M + 1) f = if f (M + 1) < minP lo M f then f (M + 1) else minP lo M f := by
  obtain ⟨⟨p, a, b, e⟩, hl⟩ := minP_spec h f
  split
  · exact minP_eq (by omega) ⟨M + 1, by omega, Nat.le_refl _, rfl⟩ fun q h1 h2 => by
      by_cases hq : q ≤ M
      · have := hl q h1 hq
        omega
      · obtain rfl : q = M + 1 := by omega
        exact Int.le_refl _
  · exact minP_eq (by omega) ⟨p, a, by omega, e⟩ fun q h1 h2 => by
      by_cases hq : q ≤ M
      · exact hl q h1 hq
      · obtain rfl : q = M + 1 := by omega
        omega
theorem maxP_succ {lo M : Nat} (h : lo ≤ M) (f : Nat → Int) : maxP lo (M + 1) f = if maxP lo M f < f (M + 1) then f (M + 1) else maxP lo M f := by
  obtain ⟨⟨p, a, b, e⟩, hl⟩ := maxP_spec h f
  split
  · exact maxP_eq (by omega) ⟨M + 1, by omega, Nat.le_refl _, rfl⟩ fun q h1 h2 => by
      by_cases hq : q ≤ M
      · have := hl q h1 hq
        omega
      · obtain rfl : q = M + 1 := by omega
        exact Int.le_refl _
  · exact maxP_eq (by omega) ⟨p, a, by omega, e⟩ fun q h1 h2 => by
      by_cases hq : q ≤ M
      · exact hl q h1 hq
      · obtain rfl : q = M + 1 := by omega
        omega
theorem minP_congr {lo M : Nat} {f g : Nat → Int} (h : lo ≤ M) (hfg : ∀ p, lo ≤ p → p ≤ M → f p = g p) : minP lo M f = minP lo M g := by
  obtain ⟨⟨p, a, b, e⟩, hl⟩ := minP_spec h g
  exact minP_eq h ⟨p, a, b, by rw [e, hfg p a b]⟩ fun q h1 h2 => by rw [hfg q h1 h2]; exact hl q h1 h2
theorem maxP_congr {lo M : Nat} {f g : Nat → Int} (h : lo ≤ M) (hfg : ∀ p, lo ≤ p → p ≤ M → f p = g p) : maxP lo M f = maxP lo M g := by
  obtain ⟨⟨p, a, b, e⟩, hl⟩ := maxP_spec h g
  exact maxP_eq h ⟨p, a, b, by rw [e, hfg p a b]⟩ fun q h1 h2 => by rw [hfg q h1 h2]; exact hl q h1 h2

/-! ### the most -/
def mst (xs : List Int) (k : Nat) : Int := (sumsT xs k)[k]?.getD 0
theorem sumsT_get (xs : List Int) : ∀ {k j : Nat}, j ≤ k → (sumsT xs k)[j]?.getD 0 = mst xs j
  | 0, j, h => by
    obtain rfl : j = 0 := by omega
    rfl
  | k + 1, j, h => by
    by_cases hj : j ≤ k
    · rw [sumsT, List.getElem?_append_left (by rw [sumsT_len]; omega)]
      exact sumsT_get xs hj
    · obtain rfl : j = k + 1 := by omega
      rfl
theorem mst_zero (xs : List Int) : mst xs 0 = 0 := rfl
theorem mst_succ (xs : List Int) (hl : 1 ≤ xs.length) (k : Nat) : mst xs (k + 1) = minP 1 (min xs.length (k + 1)) fun p => xs[p - 1]?.getD 0 + mst xs (k + 1 - p) := by
  have e : mst xs (k + 1) = nextSum xs (sumsT xs k) (k + 1) := by
    unfold mst
    rw [sumsT, List.getElem?_append_right (by rw [sumsT_len]; omega), sumsT_len]
    simp
  rw [e]
  show minP 1 (min xs.length (k + 1)) (fun p => sumAt xs (sumsT xs k) (k + 1) p) = _
  refine minP_congr (by omega) fun p h1 h2 => ?_
  unfold sumAt
  rw [sumsT_get xs (by omega)]
theorem mst_le {xs : List Int} {k p : Nat} (h1 : 1 ≤ p) (h2 : p ≤ xs.length) (h3 : p ≤ k) : mst xs k ≤ xs[p - 1]?.getD 0 + mst xs (k - p) := by
  obtain ⟨k, rfl⟩ : ∃ k', k = k' + 1 := ⟨k - 1, by omega⟩
  rw [mst_succ xs (by omega) k]
  exact minP_le (fun p => xs[p - 1]?.getD 0 + mst xs (k + 1 - p)) h1 (by omega)
theorem mst_get {xs : List Int} (hl : 1 ≤ xs.length) {k : Nat} (hk : 1 ≤ k) : ∃ p, 1 ≤ p ∧ p ≤ xs.length ∧ p ≤ k ∧ mst xs k = xs[p - 1]?.getD 0 + mst xs (k - p) := by
  obtain ⟨k, rfl⟩ : ∃ k', k = k' + 1 := ⟨k - 1, by omega⟩
  rw [mst_succ xs hl k]
  obtain ⟨p, a, b, e⟩ := (minP_spec (lo := 1) (M := min xs.length (k + 1)) (by omega) fun p => xs[p - 1]?.getD 0 + mst xs (k + 1 - p)).1
  exact ⟨p, a, by omega, by omega, e⟩
theorem mst_sub {xs : List Int} (hl : 1 ≤ xs.length) : ∀ (a b : Nat), mst xs (a + b) ≤ mst xs a + mst xs b
  | 0, b => by rw [Nat.zero_add, mst_zero]; omega
  | a + 1, b => by
    obtain ⟨p, h1, h2, h3, e⟩ := mst_get hl (k := a + 1) (by omega)
    have h4 := mst_le h1 h2 (show p ≤ a + 1 + b by omega)
    have h5 := mst_sub hl (a + 1 - p) b
    rw [show a + 1 - p + b = a + 1 + b - p by omega] at h5
    omega
  termination_by a _ => a
theorem mst_part {xs : List Int} {p : Nat} (h1 : 1 ≤ p) (h2 : p ≤ xs.length) : mst xs p ≤ xs[p - 1]?.getD 0 := by
  have := mst_le h1 h2 (Nat.le_refl _)
  rw [Nat.sub_self, mst_zero] at this
  omega
theorem mst_nonneg {xs : List Int} (hv : Nums xs) (k : Nat) : 0 ≤ mst xs k ∧ mst xs k ≤ 10000 * k := by
  have := sumsT_bound hv k k (Nat.le_refl _)
  rw [sumsT_get xs (Nat.le_refl _)] at this
  exact this
/-- A curve: increasing. -/
def Ups (xs : List Int) : Prop := ∀ i, i + 1 < xs.length → xs[i]?.getD 0 ≤ xs[i + 1]?.getD 0
theorem mst_up {xs : List Int} (hv : Nums xs) (hu : Ups xs) (k : Nat) : mst xs k ≤ mst xs (k + 1) := by
  induction k using Nat.strongRecOn with
  | _ k ih =>
    obtain ⟨p, h1, h2, h3, e⟩ := mst_get hv.1 (k := k + 1) (by omega)
    rw [e]
    by_cases hp : p ≤ k
    · have ih := ih (k - p) (by omega)
      have := mst_le h1 h2 hp
      rw [show k + 1 - p = k - p + 1 by omega]
      omega
    · obtain rfl : p = k + 1 := by omega
      rw [Nat.sub_self, mst_zero, Nat.add_sub_cancel]
      by_cases hk : k = 0
      · subst hk
        have := hv.2.2 0 (by omega)
        rw [mst_zero]
        omega
      · have a := mst_part (xs := xs) (p := k) (by omega) (by omega)
        have b := hu (k - 1) (by omega)
        rw [show k - 1 + 1 = k by omega] at b
        omega
theorem mst_mono {xs : List Int} (hv : Nums xs) (hu : Ups xs) {a b : Nat} (h : a ≤ b) : mst xs a ≤ mst xs b := by
  obtain ⟨d, rfl⟩ : ∃ d, b = a + d := ⟨b - a, by omega⟩
  clear h
  induction d with
  | zero => exact Int.le_refl _
  | succ d ih => exact Int.le_trans ih (mst_up hv hu (a + d))
/-- The parts of at most six turns may be the most of so many. -/
theorem few_get {xs : List Int} {p : Nat} (h1 : 1 ≤ p) (h2 : p ≤ 6) : (fewL (fewQ xs))[p - 1]?.getD 0 = mst xs p := by
  rw [← sumsT_get xs h2]
  rcases (by omega : p = 1 ∨ p = 2 ∨ p = 3 ∨ p = 4 ∨ p = 5 ∨ p = 6) with rfl | rfl | rfl | rfl | rfl | rfl <;> rfl
theorem mst_few {xs : List Int} (hl : 1 ≤ xs.length) (h6 : xs.length ≤ 6) : ∀ k, mst (fewL (fewQ xs)) k = mst xs k
  | 0 => rfl
  | k + 1 => by
    apply Int.le_antisymm
    · obtain ⟨p, h1, h2, h3, e⟩ := mst_get hl (k := k + 1) (by omega)
      have a := mst_le (xs := fewL (fewQ xs)) (k := k + 1) h1 (show p ≤ 6 by omega) h3
      have b := mst_part h1 h2
      rw [few_get h1 (by omega), mst_few hl h6 (k + 1 - p)] at a
      omega
    · obtain ⟨p, h1, h2, h3, e⟩ := mst_get (xs := fewL (fewQ xs)) (by simp [fewL]) (k := k + 1) (by omega)
      have h6' : p ≤ 6 := h2
      rw [few_get h1 h6', mst_few hl h6 (k + 1 - p)] at e
      have a := mst_sub hl p (k + 1 - p)
      rw [show p + (k + 1 - p) = k + 1 by omega] at a
      omega
end Go.Proofs.Ytlgibckhkdggdaa

/- lag: chains: turns that are cut among shafts; from 70 turns on the least goes on in equal steps. -/
namespace Go.Proofs.Ytlgibckhkdggdaa
open Go.RowKit Go.Shelf

/-! ### chains -/
theorem lvl_succ (css : List (List Int)) (s t : Nat) : lvl css (s + 1) t = minP 0 t fun p => leastF (css[s + 1]?.getD []) p + lvl css s (t - p) := rfl
def tot (ts : Nat → Nat) : Nat → Nat
  | 0 => ts 0
  | s + 1 => tot ts s + ts (s + 1)
def cost (css : List (List Int)) (ts : Nat → Nat) : Nat → Int
  | 0 => leastF (css[0]?.getD []) (ts 0)
  | s + 1 => cost css ts s + leastF (css[s + 1]?.getD []) (ts (s + 1))
theorem lvl_le (css : List (List Int)) (ts : Nat → Nat) : ∀ s, lvl css s (tot ts s) ≤ cost css ts s
  | 0 => Int.le_refl _
  | s + 1 => by
    have ih := lvl_le css ts s
    have h := minP_le (lo := 0) (M := tot ts (s + 1)) (fun p => leastF (css[s + 1]?.getD []) p + lvl css s (tot ts (s + 1) - p)) (p := ts (s + 1)) (by omega) (by rw [tot]; omega)
    rw [lvl_succ, cost]
    have e : tot ts (s + 1) - ts (s + 1) = tot ts s := by rw [tot]; omega
    simp only [e] at h
    omega
theorem tot_congr {ts us : Nat → Nat} : ∀ {s : Nat}, (∀ i, i ≤ s → ts i = us i) → tot ts s = tot us s
  | 0, h => h 0 (Nat.le_refl _)
  | s + 1, h => by rw [tot, tot, tot_congr (s := s) fun i hi => h i (by omega), h (s + 1) (Nat.le_refl _)]
theorem cost_congr {css : List (List Int)} {ts us : Nat → Nat} : ∀ {s : Nat}, (∀ i, i ≤ s → ts i = us i) → cost css ts s = cost css us s
  | 0, h => by rw [cost, cost, h 0 (Nat.le_refl _)]
  | s + 1, h => by rw [cost, cost, cost_congr (s := s) fun i hi => h i (by omega), h (s + 1) (Nat.le_refl _)]
def upd (ts : Nat → Nat) (a x : Nat) : Nat → Nat := fun i => if i = a then x else ts i
theorem upd_at (ts : Nat → Nat) (a x : Nat) : upd ts a x a = x := by simp [upd]
theorem upd_ne {ts : Nat → Nat} {a x i : Nat} (h : i ≠ a) : upd ts a x i = ts i := by simp [upd, h]
theorem lvl_get (css : List (List Int)) : ∀ (s t : Nat), ∃ ts, tot ts s = t ∧ lvl css s t = cost css ts s
  | 0, t => ⟨fun _ => t, rfl, rfl⟩
  | s + 1, t => by
    obtain ⟨p, -, hp, e⟩ := (minP_spec (lo := 0) (M := t) (by omega) fun p => leastF (css[s + 1]?.getD []) p + lvl css s (t - p)).1
    obtain ⟨ts, h1, h2⟩ := lvl_get css s (t - p)
    refine ⟨upd ts (s + 1) p, ?_, ?_⟩
    · rw [tot, upd_at, tot_congr (us := ts) fun i hi => upd_ne (by omega), h1]
      omega
    · rw [lvl_succ, e, cost, upd_at, cost_congr (us := ts) fun i hi => upd_ne (by omega), h2]
      omega
theorem tot_upd {ts : Nat → Nat} {a x : Nat} : ∀ {s : Nat}, a ≤ s → tot (upd ts a x) s + ts a = tot ts s + x
  | 0, h => by
    obtain rfl : a = 0 := by omega
    rw [tot, tot, upd_at]
    omega
  | s + 1, h => by
    by_cases ha : a = s + 1
    · subst ha
      rw [tot, tot, upd_at, tot_congr (us := ts) fun i hi => upd_ne (by omega)]
      omega
    · have := tot_upd (ts := ts) (a := a) (x := x) (s := s) (by omega)
      rw [tot, tot, upd_ne (by omega)]
      omega
theorem cost_upd {css : List (List Int)} {ts : Nat → Nat} {a x : Nat} : ∀ {s : Nat}, a ≤ s → cost css (upd ts a x) s + leastF (css[a]?.getD []) (ts a) = cost css ts s + leastF (css[a]?.getD []) x
  | 0, h => by
    obtain rfl : a = 0 := by omega
    rw [cost, cost, upd_at]
    omega
  | s + 1, h => by
    by_cases ha : a = s + 1
    · subst ha
      rw [cost, cost, upd_at, cost_congr (us := ts) fun i hi => upd_ne (by omega)]
      omega
    · have := cost_upd (css := css) (ts := ts) (a := a) (x := x) (s := s) (by omega)
      rw [cost, cost, upd_ne (by omega)]
      omega
/-- A shaft adds its last number, as often as its turns go round. -/
theorem leastF_add {xs : List Int} (hl : 1 ≤ xs.length) (t d : Nat) : leastF xs (t + xs.length * d) = leastF xs t + xs[xs.length - 1]?.getD 0 * (d : Int) := by
  unfold leastF
  have e1 : (t + xs.length * d) / xs.length = t / xs.length + d := Nat.add_mul_div_left _ _ (by omega)
  have e2 : (t + xs.length * d) % xs.length = t % xs.length := Nat.add_mul_mod_self_left _ _ _
  rw [e1, e2, Int.natCast_add, Int.mul_add]
  omega
theorem leastF_zero (xs : List Int) : leastF xs 0 = 0 := by simp [leastF]
/-- Of the first shafts one is the slowest: by its last number and its length. -/
def Slow (css : List (List Int)) (s a : Nat) : Prop := a ≤ s ∧ ∀ j, j ≤ s →
  (css[a]?.getD [])[(css[a]?.getD []).length - 1]?.getD 0 * ((css[j]?.getD []).length : Int) ≤ (css[j]?.getD [])[(css[j]?.getD []).length - 1]?.getD 0 * ((css[a]?.getD []).length : Int)
def lenA (css : List (List Int)) (a : Nat) : Nat := (css[a]?.getD []).length
def lastA (css : List (List Int)) (a : Nat) : Int := (css[a]?.getD [])[(css[a]?.getD []).length - 1]?.getD 0
theorem tot_others {ts : Nat → Nat} {s a : Nat} (hs : s ≤ 2) (ha : a ≤ s) (h : ∀ j, j ≤ s → j ≠ a → ts j ≤ 35) : tot ts s ≤ ts a + 70 := by
  rcases (by omega : s = 0 ∨ s = 1 ∨ s = 2) with rfl | rfl | rfl
  · obtain rfl : a = 0 := by omega
    show ts 0 ≤ _
    omega
  · show ts 0 + ts 1 ≤ _
    rcases (by omega : a = 0 ∨ a = 1) with rfl | rfl
    · have := h 1 (by omega) (by omega)
      omega
    · have := h 0 (by omega) (by omega)
      omega
  · show ts 0 + ts 1 + ts 2 ≤ _
    rcases (by omega : a = 0 ∨ a = 1 ∨ a = 2) with rfl | rfl | rfl
    · have := h 1 (by omega) (by omega)
      have := h 2 (by omega) (by omega)
      omega
    · have := h 0 (by omega) (by omega)
      have := h 2 (by omega) (by omega)
      omega
    · have := h 0 (by omega) (by omega)
      have := h 1 (by omega) (by omega)
      omega
/-- From 70 turns on. -/
theorem lvl_step {css : List (List Int)} {s a : Nat} (hs : s ≤ 2) (hl : ∀ j, j ≤ s → 1 ≤ lenA css j ∧ lenA css j ≤ 6) (hsl : Slow css s a) {t : Nat} (ht : 70 ≤ t) : lvl css s t + lastA css a ≤ lvl css s (t + lenA css a) := by
  obtain ⟨ha, hr⟩ := hsl
  have hla := hl a ha
  have hfin : ∀ ts : Nat → Nat, tot ts s = t + lenA css a → lenA css a ≤ ts a → lvl css s t + lastA css a ≤ cost css ts s := by
    intro ts h1 h2
    have e1 := tot_upd (ts := ts) (x := ts a - lenA css a) ha
    have e2 := cost_upd (css := css) (ts := ts) (x := ts a - lenA css a) ha
    have e3 := leastF_add (xs := css[a]?.getD []) hla.1 (ts a - lenA css a) 1
    have e4 := lvl_le css (upd ts a (ts a - lenA css a)) s
    rw [show ts a - lenA css a + (css[a]?.getD []).length * 1 = ts a by show ts a - lenA css a + lenA css a * 1 = ts a; omega] at e3
    rw [show tot (upd ts a (ts a - lenA css a)) s = t by omega] at e4
    have e5 : (css[a]?.getD [])[(css[a]?.getD []).length - 1]?.getD 0 * ((1 : Nat) : Int) = lastA css a := by unfold lastA; omega
    rw [e5] at e3
    omega
  obtain ⟨ts, h1, h2⟩ := lvl_get css s (t + lenA css a)
  rw [h2]
  by_cases hta : lenA css a ≤ ts a
  · exact hfin ts h1 hta
  · -- another shaft has many turns: some of them go to the slowest one
    have hj : ∃ j, j ≤ s ∧ j ≠ a ∧ 36 ≤ ts j := by
      apply Classical.byContradiction
      intro hn
      have := tot_others hs ha (ts := ts) fun j h1 h2 => by
        apply Classical.byContradiction
        intro h3
        exact hn ⟨j, h1, h2, by omega⟩
      omega
    obtain ⟨j, hjs, hja, hj36⟩ := hj
    have hlj := hl j hjs
    have hmul : lenA css j * lenA css a ≤ 36 := Nat.mul_le_mul hlj.2 hla.2
    have hmul1 : lenA css a ≤ lenA css j * lenA css a := Nat.le_mul_of_pos_left _ (by omega)
    obtain ⟨d, hd⟩ : ∃ d, d = lenA css j * lenA css a := ⟨_, rfl⟩
    rw [← hd] at hmul hmul1
    have a1 := tot_upd (ts := ts) (a := j) (x := ts j - d) hjs
    have a2 := cost_upd (css := css) (ts := ts) (a := j) (x := ts j - d) hjs
    have a3 := tot_upd (ts := upd ts j (ts j - d)) (a := a) (x := ts a + d) ha
    have a4 := cost_upd (css := css) (ts := upd ts j (ts j - d)) (a := a) (x := ts a + d) ha
    rw [upd_ne (ts := ts) (a := j) (x := ts j - d) (i := a) (fun e => hja e.symm)] at a3 a4
    have b1 := leastF_add (xs := css[j]?.getD []) hlj.1 (ts j - d) (lenA css a)
    have b2 := leastF_add (xs := css[a]?.getD []) hla.1 (ts a) (lenA css j)
    rw [show ts j - d + (css[j]?.getD []).length * lenA css a = ts j by show ts j - d + lenA css j * lenA css a = ts j; omega] at b1
    rw [show ts a + (css[a]?.getD []).length * lenA css j = ts a + d by show ts a + lenA css a * lenA css j = ts a + d; rw [hd, Nat.mul_comm]] at b2
    have hrj : (css[a]?.getD [])[(css[a]?.getD []).length - 1]?.getD 0 * ((lenA css j : Nat) : Int) ≤ (css[j]?.getD [])[(css[j]?.getD []).length - 1]?.getD 0 * ((lenA css a : Nat) : Int) := hr j hjs
    have := hfin (upd (upd ts j (ts j - d)) a (ts a + d)) (by omega) (by rw [upd_at]; omega)
    omega
theorem lvl_steps {css : List (List Int)} {s a : Nat} (hs : s ≤ 2) (hl : ∀ j, j ≤ s → 1 ≤ lenA css j ∧ lenA css j ≤ 6) (hsl : Slow css s a) {t : Nat} (ht : 70 ≤ t) : ∀ d : Nat, lvl css s t + lastA css a * (d : Int) ≤ lvl css s (t + lenA css a * d)
  | 0 => by simp
  | d + 1 => by
    have h1 := lvl_steps hs hl hsl ht d
    have h2 := lvl_step hs hl hsl (t := t + lenA css a * d) (by omega)
    rw [show t + lenA css a * d + lenA css a = t + lenA css a * (d + 1) by rw [Nat.mul_succ]; omega] at h2
    have e : lastA css a * ((d + 1 : Nat) : Int) = lastA css a * (d : Int) + lastA css a := by rw [Int.natCast_add, Int.mul_add]; simp
    rw [e]
    omega
theorem mst_steps {xs : List Int} {q : Nat} (h1 : 1 ≤ q) (h2 : q ≤ xs.length) (k : Nat) : ∀ d : Nat, mst xs (k + q * d) ≤ mst xs k + xs[q - 1]?.getD 0 * (d : Int)
  | 0 => by simp
  | d + 1 => by
    have a := mst_steps h1 h2 k d
    have b := mst_le (xs := xs) (k := k + q * (d + 1)) h1 h2 (by rw [Nat.mul_succ]; omega)
    rw [show k + q * (d + 1) - q = k + q * d by rw [Nat.mul_succ]; omega] at b
    have e : xs[q - 1]?.getD 0 * ((d + 1 : Nat) : Int) = xs[q - 1]?.getD 0 * (d : Int) + xs[q - 1]?.getD 0 := by rw [Int.natCast_add, Int.mul_add]; simp
    rw [e]
    omega
/-- The best part: the least by its turns. -/
def Best (xs : List Int) (q : Nat) : Prop := 1 ≤ q ∧ q ≤ xs.length ∧ ∀ p, 1 ≤ p → p ≤ xs.length → xs[q - 1]?.getD 0 * (p : Int) ≤ xs[p - 1]?.getD 0 * (q : Int)
theorem best_exists {xs : List Int} (hl : 1 ≤ xs.length) : ∃ q, Best xs q := by
  have : ∀ n, 1 ≤ n → n ≤ xs.length → ∃ q, 1 ≤ q ∧ q ≤ n ∧ ∀ p, 1 ≤ p → p ≤ n → xs[q - 1]?.getD 0 * (p : Int) ≤ xs[p - 1]?.getD 0 * (q : Int) := by
    intro n h1 hn
    induction n with
    | zero => omega
    | succ n ih =>
      by_cases h0 : n = 0
      · subst h0
        exact ⟨1, by omega, by omega, fun p a b => by obtain rfl : p = 1 := by omega
                                                      exact Int.le_refl _⟩
      · obtain ⟨q, a, b, c⟩ := ih (by omega) (by omega)
        by_cases hc : xs[q - 1]?.getD 0 * ((n + 1 : Nat) : Int) ≤ xs[n + 1 - 1]?.getD 0 * (q : Int)
        · refine ⟨q, a, by omega, fun p h1 h2 => ?_⟩
          by_cases hp : p ≤ n
          · exact c p h1 hp
          · obtain rfl : p = n + 1 := by omega
            exact hc
        · refine ⟨n + 1, by omega, by omega, fun p h1 h2 => ?_⟩
          by_cases hp : p ≤ n
          · have d := c p h1 hp
            -- c_{n+1} q < c_q (n+1), c_q p <= c_p q: c_{n+1} p q <= c_q (n+1) p <= c_p q (n+1)
            have e1 : xs[n + 1 - 1]?.getD 0 * (q : Int) * (p : Int) ≤ xs[q - 1]?.getD 0 * ((n + 1 : Nat) : Int) * (p : Int) := Int.mul_le_mul_of_nonneg_right (by omega) (by omega)
            have e2 : xs[q - 1]?.getD 0 * (p : Int) * ((n + 1 : Nat) : Int) ≤ xs[p - 1]?.getD 0 * (q : Int) * ((n + 1 : Nat) : Int) := Int.mul_le_mul_of_nonneg_right d (by omega)
            have e3 : xs[q - 1]?.getD 0 * ((n + 1 : Nat) : Int) * (p : Int) = xs[q - 1]?.getD 0 * (p : Int) * ((n + 1 : Nat) : Int) := by rw [Int.mul_assoc, Int.mul_comm ((n + 1 : Nat) : Int), ← Int.mul_assoc]
            have e4 : xs[n + 1 - 1]?.getD 0 * (q : Int) * (p : Int) = xs[n + 1 - 1]?.getD 0 * (p : Int) * (q : Int) := by rw [Int.mul_assoc, Int.mul_comm (q : Int), ← Int.mul_assoc]
            have e5 : xs[p - 1]?.getD 0 * (q : Int) * ((n + 1 : Nat) : Int) = xs[p - 1]?.getD 0 * ((n + 1 : Nat) : Int) * (q : Int) := by rw [Int.mul_assoc, Int.mul_comm (q : Int), ← Int.mul_assoc]
            rw [e3] at e1
            rw [e4] at e1
            rw [e5] at e2
            exact Int.le_of_mul_le_mul_right (Int.le_trans e1 e2) (by omega)
          · obtain rfl : p = n + 1 := by omega
            exact Int.le_refl _
  obtain ⟨q, a, b, c⟩ := this xs.length hl (Nat.le_refl _)
  exact ⟨q, a, b, c⟩
/-- A chain is not slower than a curve. -/
def Keeps (xs : List Int) (css : List (List Int)) (s q : Nat) : Prop := ∀ j, j ≤ s → xs[q - 1]?.getD 0 * (lenA css j : Int) ≤ lastA css j * (q : Int)
theorem slow_exists (css : List (List Int)) : ∀ s, (∀ j, j ≤ s → 1 ≤ lenA css j) → ∃ a, Slow css s a
  | 0, _ => ⟨0, Nat.le_refl _, fun j hj => by obtain rfl : j = 0 := by omega
                                              exact Int.le_refl _⟩
  | s + 1, hl => by
    obtain ⟨a, ha, hr⟩ := slow_exists css s fun j hj => hl j (by omega)
    by_cases hc : lastA css a * (lenA css (s + 1) : Int) ≤ lastA css (s + 1) * (lenA css a : Int)
    · refine ⟨a, by omega, fun j hj => ?_⟩
      by_cases h : j ≤ s
      · exact hr j h
      · obtain rfl : j = s + 1 := by omega
        exact hc
    · refine ⟨s + 1, Nat.le_refl _, fun j hj => ?_⟩
      by_cases h : j ≤ s
      · have d : lastA css a * (lenA css j : Int) ≤ lastA css j * (lenA css a : Int) := hr j h
        show lastA css (s + 1) * (lenA css j : Int) ≤ lastA css j * (lenA css (s + 1) : Int)
        have la := hl a (by omega)
        have e1 : lastA css (s + 1) * (lenA css a : Int) * (lenA css j : Int) ≤ lastA css a * (lenA css (s + 1) : Int) * (lenA css j : Int) := Int.mul_le_mul_of_nonneg_right (by omega) (by omega)
        have e2 : lastA css a * (lenA css j : Int) * (lenA css (s + 1) : Int) ≤ lastA css j * (lenA css a : Int) * (lenA css (s + 1) : Int) := Int.mul_le_mul_of_nonneg_right d (by omega)
        have e3 : lastA css a * (lenA css (s + 1) : Int) * (lenA css j : Int) = lastA css a * (lenA css j : Int) * (lenA css (s + 1) : Int) := by rw [Int.mul_assoc, Int.mul_comm (lenA css (s + 1) : Int), ← Int.mul_assoc]
        have e4 : lastA css (s + 1) * (lenA css a : Int) * (lenA css j : Int) = lastA css (s + 1) * (lenA css j : Int) * (lenA css a : Int) := by rw [Int.mul_assoc, Int.mul_comm (lenA css a : Int), ← Int.mul_assoc]
        have e5 : lastA css j * (lenA css a : Int) * (lenA css (s + 1) : Int) = lastA css j * (lenA css (s + 1) : Int) * (lenA css a : Int) := by rw [Int.mul_assoc, Int.mul_comm (lenA css a : Int), ← Int.mul_assoc]
        rw [e3, e4] at e1
        rw [e5] at e2
        exact Int.le_of_mul_le_mul_right (Int.le_trans e1 e2) (by omega)
      · obtain rfl : j = s + 1 := by omega
        exact Int.le_refl _
/-- A curve and a chain that is not slower. -/
structure Fair (xs : List Int) (css : List (List Int)) (s q a : Nat) : Prop where
  nums : Nums xs
  ups : Ups xs
  len6 : xs.length ≤ 6
  best : Best xs q
  s2 : s ≤ 2
  lens : ∀ j, j ≤ s → 1 ≤ lenA css j ∧ lenA css j ≤ 6
  chn : ∀ j, j ≤ s → Nums (css[j]?.getD [])
  slow : Slow css s a
  keeps : Keeps xs css s q
/-- As many turns, at most 30, go on in equal steps: the most in no greater ones than the least. -/
theorem Fair.period {xs : List Int} {css : List (List Int)} {s q a : Nat} (h : Fair xs css s q a) : ∃ P, 1 ≤ P ∧ P ≤ 30 ∧ ∃ z : Int, (∀ k, mst xs (k + P) ≤ mst xs k + z) ∧ ∀ t, 70 ≤ t → lvl css s t + z ≤ lvl css s (t + P) := by
  obtain ⟨hq1, hq2, -⟩ := h.best
  have hq6 := h.len6
  have hla := h.lens a h.slow.1
  have hk : xs[q - 1]?.getD 0 * (lenA css a : Int) ≤ lastA css a * (q : Int) := h.keeps a h.slow.1
  by_cases hqa : q = lenA css a
  · refine ⟨q, hq1, by omega, xs[q - 1]?.getD 0, fun k => ?_, fun t ht => ?_⟩
    · have := mst_steps hq1 hq2 k 1
      simpa using this
    · have := lvl_step h.s2 h.lens h.slow ht
      rw [← hqa] at this hk
      have := Int.le_of_mul_le_mul_right hk (by omega)
      omega
  · refine ⟨q * lenA css a, Nat.mul_le_mul hq1 hla.1, ?_, xs[q - 1]?.getD 0 * (lenA css a : Int), fun k => mst_steps hq1 hq2 k (lenA css a), fun t ht => ?_⟩
    · rcases (by omega : q ≤ 5 ∨ lenA css a ≤ 5) with h5 | h5
      · exact Nat.mul_le_mul h5 hla.2
      · exact Nat.mul_le_mul (show q ≤ 6 by omega) h5
    · have := lvl_steps h.s2 h.lens h.slow ht q
      rw [Nat.mul_comm (lenA css a)] at this
      omega
/-- The most is ahead of the rate by few turns, the least behind it. -/
theorem Fair.most_le {xs : List Int} {css : List (List Int)} {s q a : Nat} (h : Fair xs css s q a) (k : Nat) : mst xs k * (q : Int) ≤ xs[q - 1]?.getD 0 * ((k : Int) + 5) := by
  obtain ⟨hq1, hq2, -⟩ := h.best
  have hq6 := h.len6
  obtain ⟨d, hd⟩ : ∃ d, d = (k + q - 1) / q := ⟨_, rfl⟩
  have h1 : k ≤ q * d ∧ q * d ≤ k + 5 := by
    have a1 := Nat.div_add_mod (k + q - 1) q
    have a2 := Nat.mod_lt (k + q - 1) (show 0 < q by omega)
    rw [← hd] at a1
    omega
  have h2 := mst_mono h.nums h.ups h1.1
  have h3 := mst_steps hq1 hq2 0 d
  rw [Nat.zero_add, mst_zero, Int.zero_add] at h3
  have h4 : mst xs k * (q : Int) ≤ xs[q - 1]?.getD 0 * (d : Int) * (q : Int) := Int.mul_le_mul_of_nonneg_right (by omega) (by omega)
  have h5 := (h.nums.2.2 (q - 1) (by omega)).1
  have h6 : xs[q - 1]?.getD 0 * ((q * d : Nat) : Int) ≤ xs[q - 1]?.getD 0 * ((k : Int) + 5) := Int.mul_le_mul_of_nonneg_left (by omega) h5
  have e : xs[q - 1]?.getD 0 * (d : Int) * (q : Int) = xs[q - 1]?.getD 0 * ((q * d : Nat) : Int) := by rw [Int.mul_assoc, Int.natCast_mul, Int.mul_comm (d : Int)]
  omega
theorem Fair.least_ge {xs : List Int} {css : List (List Int)} {s q a : Nat} (h : Fair xs css s q a) {j : Nat} (hj : j ≤ s) (t : Nat) : xs[q - 1]?.getD 0 * ((t : Int) - 5) ≤ leastF (css[j]?.getD []) t * (q : Int) := by
  have hl := h.lens j hj
  have hk : xs[q - 1]?.getD 0 * (lenA css j : Int) ≤ lastA css j * (q : Int) := h.keeps j hj
  obtain ⟨hq1, hq2, -⟩ := h.best
  have hx := (h.nums.2.2 (q - 1) (by omega)).1
  have hn := h.chn j hj
  obtain ⟨d, hd⟩ : ∃ d, d = t / lenA css j := ⟨_, rfl⟩
  have h1 : (t : Int) - 5 ≤ (lenA css j : Int) * (d : Int) := by
    have a1 := Nat.div_add_mod t (lenA css j)
    have a2 := Nat.mod_lt t (show 0 < lenA css j by omega)
    rw [← hd] at a1
    have a3 : ((lenA css j * d : Nat) : Int) = (lenA css j : Int) * (d : Int) := Int.natCast_mul _ _
    omega
  have h2 : lastA css j * (d : Int) ≤ leastF (css[j]?.getD []) t := by
    unfold leastF
    have e1 : (css[j]?.getD [])[(css[j]?.getD []).length - 1]?.getD 0 * ((t / (css[j]?.getD []).length : Nat) : Int) = lastA css j * (d : Int) := by rw [hd]; rfl
    rw [e1]
    split
    · have := hn.2.2 (t % (css[j]?.getD []).length - 1) (by have := Nat.mod_lt t (show 0 < (css[j]?.getD []).length from hl.1); omega)
      omega
    · omega
  have h3 : xs[q - 1]?.getD 0 * ((t : Int) - 5) ≤ xs[q - 1]?.getD 0 * ((lenA css j : Int) * (d : Int)) := Int.mul_le_mul_of_nonneg_left h1 hx
  have h4 : xs[q - 1]?.getD 0 * (lenA css j : Int) * (d : Int) ≤ lastA css j * (q : Int) * (d : Int) := Int.mul_le_mul_of_nonneg_right hk (by omega)
  have h5 : lastA css j * (d : Int) * (q : Int) ≤ leastF (css[j]?.getD []) t * (q : Int) := Int.mul_le_mul_of_nonneg_right h2 (by omega)
  have e1 : xs[q - 1]?.getD 0 * ((lenA css j : Int) * (d : Int)) = xs[q - 1]?.getD 0 * (lenA css j : Int) * (d : Int) := (Int.mul_assoc _ _ _).symm
  have e2 : lastA css j * (q : Int) * (d : Int) = lastA css j * (d : Int) * (q : Int) := by rw [Int.mul_assoc, Int.mul_comm (q : Int), ← Int.mul_assoc]
  omega
theorem Fair.cost_ge {xs : List Int} {css : List (List Int)} {s q a : Nat} (h : Fair xs css s q a) (ts : Nat → Nat) : ∀ s', s' ≤ s → xs[q - 1]?.getD 0 * ((tot ts s' : Int) - 5 * ((s' : Int) + 1)) ≤ cost css ts s' * (q : Int)
  | 0, hs => by
    have := h.least_ge hs (ts 0)
    rw [tot, cost]
    simpa using this
  | s' + 1, hs => by
    have a1 := h.cost_ge ts s' (by omega)
    have a2 := h.least_ge hs (ts (s' + 1))
    rw [tot, cost, Int.add_mul]
    have e : ((tot ts s' + ts (s' + 1) : Nat) : Int) - 5 * (((s' + 1 : Nat) : Int) + 1) = ((tot ts s' : Int) - 5 * ((s' : Int) + 1)) + (((ts (s' + 1) : Nat) : Int) - 5) := by omega
    rw [e, Int.mul_add]
    omega
/-- In twenty turns all is added. -/
theorem Fair.late {xs : List Int} {css : List (List Int)} {s q a : Nat} (h : Fair xs css s q a) (k : Nat) : mst xs k ≤ lvl css s (k + 20) := by
  obtain ⟨hq1, hq2, -⟩ := h.best
  obtain ⟨ts, e1, e2⟩ := lvl_get css s (k + 20)
  have a1 := h.cost_ge ts s (Nat.le_refl _)
  rw [← e2, e1] at a1
  have a2 := h.most_le k
  have hs := h.s2
  have a3 : xs[q - 1]?.getD 0 * ((k : Int) + 5) ≤ xs[q - 1]?.getD 0 * (((k + 20 : Nat) : Int) - 5 * ((s : Int) + 1)) := Int.mul_le_mul_of_nonneg_left (by omega) (h.nums.2.2 (q - 1) (by omega)).1
  exact Int.le_of_mul_le_mul_right (show mst xs k * (q : Int) ≤ lvl css s (k + 20) * (q : Int) by omega) (by omega)
end Go.Proofs.Ytlgibckhkdggdaa

/- lag's reference: CheckCurve, CheckChain, CheckRow. -/
namespace Go.Proofs.Ytlgibckhkdggdaa
open Go.RowKit Go.Shelf

attribute [local go_sem] Oper.semAt_some

set_option maxRecDepth 100000 in
set_option maxHeartbeats 4000000 in
theorem rCheckCurve_any (w : World) (B : Nat) (A : Option Addr) (n c : Nat) (xs : List Int) (hx : IntsAt w B A n xs) :
    Calls Try.prog 27 #[.slice A n c] w fun e w' => e = .returned (.int .i64 (curveF xs)) ∧ ∃ q, w' = w.drewN q := by
  have hm := hx.small
  have Hl := Lib.hid hx.len
  by_cases hn1 : (n : Int) < 1
  · have Hr := Lib.hid (show curveF xs = 6 by unfold curveF; rw [if_pos (by rw [Hl.out]; omega)])
    go_enter Try.func27, Try.ntmps27
    go_wp2
    go_ret
    exact ⟨ret_int Hr.out.symm, 0, rfl⟩
  by_cases hn6 : 6 < (n : Int)
  · have Hr := Lib.hid (show curveF xs = 6 by unfold curveF; rw [if_pos (by rw [Hl.out]; omega)])
    go_enter Try.func27, Try.ntmps27
    go_wp2
    go_ret
    exact ⟨ret_int Hr.out.symm, 0, rfl⟩
  have Hn := Lib.hid (show ¬ (xs.length < 1 ∨ 6 < xs.length) by rw [Hl.out]; omega)
  go_enter Try.func27, Try.ntmps27
  go_wp2
  go_loopg [3] n (fun g v3 wr => ∃ (k q : Nat), (k ≤ n ∧ g = n - k ∧ v3 = .int .i64 (k : Int)) ∧ Hid (wr = w.drewN q) ∧ IntsAt wr B A n xs ∧ ∀ j : Nat, j < k → 0 ≤ xs[j]?.getD 0 ∧ xs[j]?.getD 0 ≤ 100)
  case atStart => exact ⟨0, 0, ⟨by omega, by omega, rfl⟩, Lib.hid rfl, hx, fun j h => by omega⟩
  case round =>
    obtain ⟨k, q, ⟨hk, rfl, rfl⟩, hq, hr, hall⟩ := hrel
    have Hall := Lib.hid hall
    clear hall hx
    by_cases hlt : k < n
    · obtain ⟨b, o, rfl, _, hc1⟩ := hr.cell hlt
      obtain ⟨x, hx⟩ : ∃ x, x = xs[k]?.getD 0 := ⟨_, rfl⟩
      rw [← hx] at hc1
      by_cases h0 : x < 0
      · have Hr := Lib.hid (show curveF xs = 3 by unfold curveF; rw [if_neg Hn.out, if_pos (withinF_false (k := k) (by rw [Hl.out]; exact hlt) (by omega))])
        go_wp2
        go_ret
        exact ⟨ret_int Hr.out.symm, _, hq.out⟩
      by_cases h1 : 100 < x
      · have Hr := Lib.hid (show curveF xs = 3 by unfold curveF; rw [if_neg Hn.out, if_pos (withinF_false (k := k) (by rw [Hl.out]; exact hlt) (by omega))])
        go_wp2
        go_ret
        exact ⟨ret_int Hr.out.symm, _, hq.out⟩
      have Hx := Lib.hid (show 0 ≤ xs[k]?.getD 0 ∧ xs[k]?.getD 0 ≤ 100 by omega)
      have hwk : IntKind.i64.wrap ((k : Int) + 1) = (k : Int) + 1 := by rw [IntKind.wrap_i64]; omega
      clear hx
      go_wp2
      go_roundg (n - (k + 1))
      case measure => omega
      case rel =>
        refine ⟨k + 1, q, ⟨by omega, by omega, by simp⟩, hq, hr, fun j hj => ?_⟩
        rcases Nat.lt_succ_iff_lt_or_eq.1 hj with h | rfl
        · exact Hall.out j h
        · exact Hx.out
    · obtain rfl : k = n := by omega
      have Hin := Lib.hid (show withinF 0 100 xs = true from withinF_true fun j hj => Hall.out j (by rw [Hl.out] at hj; exact hj))
      clear Hall
      go_wp2
      go_loopg [4] k (fun g v4 wr => ∃ (i q : Nat), (1 ≤ i ∧ i ≤ k ∧ g = k + 1 - i ∧ v4 = .int .i64 (i : Int)) ∧ Hid (wr = w.drewN q) ∧ IntsAt wr B A k xs ∧ ∀ j : Nat, j + 1 < i → xs[j]?.getD 0 ≤ xs[j + 1]?.getD 0)
      case atStart => exact ⟨1, q, ⟨by omega, by omega, by omega, rfl⟩, hq, hr, fun j h => by omega⟩
      case round =>
        clear hq hr
        obtain ⟨i, q, ⟨hi1, hi2, rfl, rfl⟩, hq, hr, hall⟩ := hrel
        have Hall := Lib.hid hall
        clear hall
        obtain ⟨m, rfl⟩ : ∃ m, i = m + 1 := ⟨i - 1, by omega⟩
        by_cases hlt : m + 1 < k
        · obtain ⟨b, o, rfl, _, hc1⟩ := hr.cell (k := m) (by omega)
          obtain ⟨b', o', e, _, hc2⟩ := hr.cell hlt
          cases e
          have hw1 : IntKind.i64.wrap (((m + 1 : Nat) : Int) - 1) = (m : Int) := by rw [IntKind.wrap_i64]; omega
          have hw2 : IntKind.i64.wrap (((m + 1 : Nat) : Int) + 1) = ((m + 1 + 1 : Nat) : Int) := by rw [IntKind.wrap_i64]; omega
          obtain ⟨x, hx⟩ : ∃ x, x = xs[m]?.getD 0 := ⟨_, rfl⟩
          obtain ⟨y, hy⟩ : ∃ y, y = xs[m + 1]?.getD 0 := ⟨_, rfl⟩
          rw [← hx] at hc1
          rw [← hy] at hc2
          by_cases hyx : y < x
          · have Hr := Lib.hid (show curveF xs = 16 by unfold curveF; rw [if_neg Hn.out, if_neg (by rw [Hin.out]; simp), if_pos (sortedF_false (k := m) (by rw [Hl.out]; exact hlt) (by omega))])
            clear hx hy
            obtain ⟨i, hi⟩ : ∃ i, i = m + 1 := ⟨_, rfl⟩
            rw [← hi] at hc2 hw1 hw2 hlt ⊢
            have hmi : m < k := by omega
            clear hi
            go_wp2
            go_quiet (fail)
            go_wp2
            go_ret
            exact ⟨ret_int Hr.out.symm, _, by rw [hq.out]; simp only [World.drewN_drewN]; rfl⟩
          · have Hx := Lib.hid (show xs[m]?.getD 0 ≤ xs[m + 1]?.getD 0 by omega)
            clear hx hy
            obtain ⟨i, hi⟩ : ∃ i, i = m + 1 := ⟨_, rfl⟩
            rw [← hi] at hc2 hw1 hw2 hlt ⊢
            have hmi : m < k := by omega
            have Hi := Lib.hid hi
            clear hi
            go_wp2
            go_quiet (fail)
            go_wp2
            go_roundg (k + 1 - (i + 1))
            case measure => have := Hi.out; omega
            case rel =>
              refine ⟨i + 1, _, ⟨by omega, by omega, by omega, by simp⟩, Lib.hid (by rw [hq.out]; simp only [World.drewN_drewN]; rfl), hr.drewN _, fun j hj => ?_⟩
              by_cases h : j + 1 < m + 1
              · exact Hall.out j h
              · obtain rfl : j = m := by have := Hi.out; omega
                exact Hx.out
        · have Hr := Lib.hid (show curveF xs = 0 by unfold curveF; rw [if_neg Hn.out, if_neg (by rw [Hin.out]; simp), if_neg (by rw [sortedF_true fun j hj => Hall.out j (by rw [Hl.out] at hj; omega)]; simp)])
          go_wp2
          go_ret
          exact ⟨ret_int Hr.out.symm, _, hq.out⟩

set_option maxRecDepth 100000 in
set_option maxHeartbeats 4000000 in
theorem rCheckRow_any (w : World) (B : Nat) (A : Option Addr) (n c : Nat) (xs : List Int) (hx : IntsAt w B A n xs) :
    Calls Try.prog 73 #[.slice A n c] w fun e w' => e = .returned (.int .i64 (rowF xs)) ∧ ∃ q, w' = w.drewN q := by
  have hm := hx.small
  have Hl := Lib.hid hx.len
  by_cases hn6 : 60 < (n : Int)
  · have Hr := Lib.hid (show rowF xs = 6 by unfold rowF; rw [if_pos (by rw [Hl.out]; omega)])
    go_enter Try.func73, Try.ntmps73
    go_wp2
    go_ret
    exact ⟨ret_int Hr.out.symm, 0, rfl⟩
  have Hn := Lib.hid (show ¬ 60 < xs.length by rw [Hl.out]; omega)
  go_enter Try.func73, Try.ntmps73
  go_wp2
  go_loopg [3] n (fun g v3 wr => ∃ (k q : Nat), (k ≤ n ∧ g = n - k ∧ v3 = .int .i64 (k : Int)) ∧ Hid (wr = w.drewN q) ∧ IntsAt wr B A n xs ∧ ∀ j : Nat, j < k → 0 ≤ xs[j]?.getD 0 ∧ xs[j]?.getD 0 ≤ 10000)
  case atStart => exact ⟨0, 0, ⟨by omega, by omega, rfl⟩, Lib.hid rfl, hx, fun j h => by omega⟩
  case round =>
    obtain ⟨k, q, ⟨hk, rfl, rfl⟩, hq, hr, hall⟩ := hrel
    have Hall := Lib.hid hall
    clear hall hx
    by_cases hlt : k < n
    · obtain ⟨b, o, rfl, _, hc1⟩ := hr.cell hlt
      obtain ⟨x, hx⟩ : ∃ x, x = xs[k]?.getD 0 := ⟨_, rfl⟩
      rw [← hx] at hc1
      by_cases h0 : x < 0
      · have Hr := Lib.hid (show rowF xs = 3 by unfold rowF; rw [if_neg Hn.out, if_pos (withinF_false (k := k) (by rw [Hl.out]; exact hlt) (by omega))])
        go_wp2
        go_ret
        exact ⟨ret_int Hr.out.symm, _, hq.out⟩
      by_cases h1 : 10000 < x
      · have Hr := Lib.hid (show rowF xs = 3 by unfold rowF; rw [if_neg Hn.out, if_pos (withinF_false (k := k) (by rw [Hl.out]; exact hlt) (by omega))])
        go_wp2
        go_ret
        exact ⟨ret_int Hr.out.symm, _, hq.out⟩
      have Hx := Lib.hid (show 0 ≤ xs[k]?.getD 0 ∧ xs[k]?.getD 0 ≤ 10000 by omega)
      have hwk : IntKind.i64.wrap ((k : Int) + 1) = (k : Int) + 1 := by rw [IntKind.wrap_i64]; omega
      clear hx
      go_wp2
      go_roundg (n - (k + 1))
      case measure => omega
      case rel =>
        refine ⟨k + 1, q, ⟨by omega, by omega, by simp⟩, hq, hr, fun j hj => ?_⟩
        rcases Nat.lt_succ_iff_lt_or_eq.1 hj with h | rfl
        · exact Hall.out j h
        · exact Hx.out
    · have Hr := Lib.hid (show rowF xs = 0 by
        unfold rowF
        rw [if_neg Hn.out, if_neg]
        rw [withinF_true fun j hj => Hall.out j (by rw [Hl.out] at hj; omega)]
        simp)
      go_wp2
      go_ret
      exact ⟨ret_int Hr.out.symm, _, hq.out⟩

set_option maxRecDepth 100000 in
set_option maxHeartbeats 4000000 in
theorem rCheckChain_any (w : World) (B : Nat) (A : Option Addr) (n c : Nat) (css : List (List Int)) (hx : RowsAt w B A n css) :
    Calls Try.prog 55 #[.slice A n c] w fun e w' => e = .returned (.int .i64 (chainF css)) ∧ ∃ q, w' = w.drewN q := by
  have hm := hx.2.1
  have Hl := Lib.hid hx.1
  by_cases hn1 : (n : Int) < 1
  · have Hr := Lib.hid (show chainF css = 6 by unfold chainF; rw [if_pos (by rw [Hl.out]; omega)])
    go_enter Try.func55, Try.ntmps55
    go_wp2
    go_ret
    exact ⟨ret_int Hr.out.symm, 0, rfl⟩
  by_cases hn6 : 3 < (n : Int)
  · have Hr := Lib.hid (show chainF css = 6 by unfold chainF; rw [if_pos (by rw [Hl.out]; omega)])
    go_enter Try.func55, Try.ntmps55
    go_wp2
    go_ret
    exact ⟨ret_int Hr.out.symm, 0, rfl⟩
  have Hn := Lib.hid (show chainF css = firstE curveF css by unfold chainF; rw [if_neg (by rw [Hl.out]; omega)])
  go_enter Try.func55, Try.ntmps55
  go_wp2
  go_loopg [3] n (fun g v3 wr => ∃ (k q : Nat), (k ≤ n ∧ g = n - k ∧ v3 = .int .i64 (k : Int)) ∧ Hid (wr = w.drewN q) ∧ RowsAt wr B A n css ∧ ∀ i x, i < k → css[i]? = some x → curveF x = 0)
  case atStart => exact ⟨0, 0, ⟨by omega, by omega, rfl⟩, Lib.hid rfl, hx, fun j x h => by omega⟩
  case round =>
    obtain ⟨k, q, ⟨hk, rfl, rfl⟩, hq, hr, hall⟩ := hrel
    have Hall := Lib.hid hall
    clear hall hx
    by_cases hlt : k < n
    · obtain ⟨b, off, cs, A', m, c', rfl, hb, hcs, hcell, hi⟩ := hr.at hlt
      have Hcs := Lib.hid hcs
      clear hcs
      have hwj : IntKind.i64.wrap ((k : Int) + 1) = (k : Int) + 1 := by rw [IntKind.wrap_i64]; omega
      go_wp2_with (fail)
      refine (rCheckCurve_any wr B A' m c' cs hi).mono ?_
      rintro e w3 ⟨rfl, q3, rfl⟩
      obtain ⟨r, hre⟩ : ∃ r, r = curveF cs := ⟨_, rfl⟩
      rw [← hre]
      by_cases hr0 : r = 0
      · subst hr0
        have Hr := Lib.hid hre
        clear hre
        have hr3 := hr.below (below_drewN (D := B) wr q3) (Nat.le_refl _)
        go_wp2_with (fail)
        go_roundg (n - (k + 1))
        case measure => omega
        case rel =>
          refine ⟨k + 1, _, ⟨by omega, by omega, by simp⟩, Lib.hid (by rw [hq.out]; simp only [World.drewN_drewN]; rfl), hr3, fun i x hi' hx' => ?_⟩
          rcases Nat.lt_succ_iff_lt_or_eq.1 hi' with h | rfl
          · exact Hall.out i x h hx'
          · rw [Hcs.out] at hx'
            cases hx'
            exact Hr.out.symm
      · have hne : (r != 0) = true := by simp [hr0]
        have Hr := Lib.hid (show firstE curveF css = r by rw [hre]; exact firstE_at Hall.out Hcs.out (by rw [← hre]; exact hr0))
        have hc3 : (wr.drewN q3).cell? ⟨b, off + k, none⟩ = some (.slice A' m c') := hcell
        have hi3 := hi.drewN q3
        have Hre := Lib.hid hre
        clear hre hr0
        go_wp2_with (fail)
        refine (rCheckCurve_any _ B A' m c' cs hi3).mono ?_
        rintro e w4 ⟨rfl, q4, rfl⟩
        rw [← Hre.out]
        go_wp2_with (fail)
        go_ret
        exact ⟨ret_int (by rw [Hn.out, Hr.out]), _, by rw [hq.out]; simp only [World.drewN_drewN]; rfl⟩
    · have Hr := Lib.hid (show firstE curveF css = 0 from firstE_all fun i x hi' hx' => Hall.out i x (by rw [Hl.out] at hi'; omega) hx')
      go_wp2_with (fail)
      go_ret
      exact ⟨ret_int (by rw [Hn.out, Hr.out]), _, hq.out⟩
end Go.Proofs.Ytlgibckhkdggdaa

/- lag's reference: own rows, Sums, Least1. -/
namespace Go.Proofs.Ytlgibckhkdggdaa
open Go.RowKit Go.Shelf

attribute [local go_sem] Oper.semAt_some

/-- A row of numbers that the callee owns. -/
abbrev OwnZ (W : World) (B : Nat) (v : Value) (xs : List Int) : Prop := W.ownsRow B 2 1 v xs.length (xs.map (Value.int .i64))
theorem OwnZ.ints {W : World} {B g c n : Nat} {xs : List Int} (h : W.ownsRow B 2 1 (.slice (some ⟨g, 0, none⟩) n c) n (xs.map (Value.int .i64))) (hm : n ≤ 1000000) : IntsAt W W.heap.size (some ⟨g, 0, none⟩) n xs := by
  have hl : xs.length = n := by have := h.1; simpa using this
  refine ⟨hl, by omega, fun _ => ⟨g, 0, rfl, (h.lt g rfl).2, fun j hj => ?_⟩⟩
  rw [Nat.zero_add, h.cellAt j (by omega)]
  simp [List.getElem?_map, List.getElem?_eq_getElem (show j < xs.length by omega)]
theorem OwnZ.form {W : World} {B : Nat} {v : Value} {xs : List Int} (h : OwnZ W B v xs) : ∃ A c, v = .slice A xs.length c ∧ xs.length ≤ c ∧ (∀ k, v.ownBlock = some k → A = some ⟨k, 0, none⟩) ∧ (xs.length ≤ 1000000 → IntsAt W W.heap.size A xs.length xs) := by
  have h' := h
  rcases h.2 with ⟨rfl, h0⟩ | ⟨g, cap, cur, rfl, hb, hg, hc, hm, hs, ht⟩
  · refine ⟨none, 0, by rw [h0], by omega, fun _ hg => by simp [Value.ownBlock] at hg, fun _ => ?_⟩
    obtain rfl : xs = [] := List.length_eq_zero_iff.1 h0
    exact IntsAt.nil
  · exact ⟨_, cap, rfl, hc, fun g' hg' => by simp [Value.ownBlock] at hg'; rw [hg'], fun hm => OwnZ.ints h' hm⟩
theorem OwnZ.below {W W' : World} {B D : Nat} {v : Value} {n : Nat} {xs : List Value} (h : W.ownsRow B 2 1 v n xs) (hb : Below D W W') (hD : W.heap.size ≤ D) : W'.ownsRow B 2 1 v n xs := by
  rcases h.2 with h2 | ⟨g, cap, cur, e, h1, hg, hr⟩
  · exact ⟨h.1, .inl h2⟩
  · have hlt : g < W.heap.size := (Array.getElem?_eq_some_iff.1 hg).1
    exact ⟨h.1, .inr ⟨g, cap, cur, e, h1, (hb.block g (by omega)).trans hg, hr⟩⟩
theorem OwnZ.row {W : World} {B : Nat} {v : Value} {xs : List Int} (h : OwnZ W B v xs) (hm : xs.length ≤ 1000000) : ∃ A c, v = .slice A xs.length c ∧ xs.length ≤ c ∧ IntsAt W W.heap.size A xs.length xs := by
  obtain ⟨A, c, e, hc, -, hi⟩ := h.form
  exact ⟨A, c, e, hc, hi hm⟩
theorem own_lit (W : World) (B : Nat) (xs : List Int) (hB : B ≤ W.heap.size) (hm : xs.length ≤ 1000000) : (W.alloc (.cells (xs.map (Value.int .i64)).toArray 2)).ownsRow B 2 1 (.slice (some ⟨W.heap.size, 0, none⟩) xs.length xs.length) xs.length (xs.map (Value.int .i64)) := by
  have h := World.ownsRow_lit (base := B) (e := 2) (size := 1) W (xs.map (Value.int .i64)).toArray xs.length hB (by simp only [maxLen]; omega) (by simp)
  simpa using h
theorem cell_first {W : World} {T : TypeId} {v : Value} : (W.alloc (.cells #[v] T)).cell? ⟨W.heap.size, 0, none⟩ = some v := by
  unfold World.cell?
  rw [World.alloc_heap_new]
  rfl

set_option maxRecDepth 100000 in
set_option maxHeartbeats 4000000 in
theorem rLeast1_any (w : World) (B : Nat) (A : Option Addr) (n c t : Nat) (xs : List Int) (hx : IntsAt w B A n xs) (hv : Nums xs) (ht : t ≤ 1000) :
    Calls Try.prog 88 #[.slice A n c, .int .i64 (t : Int)] w fun e w' => e = .returned (encI (leastF xs t)) ∧ ∃ q, w' = w.drewN q := by
  have hn := hx.len
  have hn1 := hv.1
  have hn2 := hv.2.1
  have hbd := leastF_bound hv t
  rw [hn] at hn1 hn2
  obtain ⟨b, o, rfl, -, e1⟩ := hx.cell (k := n - 1) (by omega)
  have hlf : leastF xs t = xs[n - 1]?.getD 0 * ((t / n : Nat) : Int) + (if 0 < t % n then xs[t % n - 1]?.getD 0 else 0) := by unfold leastF; rw [hn]
  have hq : (t : Int).tdiv (n : Int) = ((t / n : Nat) : Int) := (Int.ofNat_tdiv t n).symm
  have hr : (t : Int).tmod (n : Int) = ((t % n : Nat) : Int) := (Int.ofNat_tmod t n).symm
  have hdl := Nat.div_le_self t n
  have hml := Nat.mod_lt t (show 0 < n by omega)
  have hla := hv.2.2 (n - 1) (by omega)
  have hp1 : 0 ≤ xs[n - 1]?.getD 0 * ((t / n : Nat) : Int) := Int.mul_nonneg hla.1 (Int.natCast_nonneg _)
  have hp2 : xs[n - 1]?.getD 0 * ((t / n : Nat) : Int) ≤ 10000 * ((t / n : Nat) : Int) := Int.mul_le_mul_of_nonneg_right hla.2 (Int.natCast_nonneg _)
  have hwn : IntKind.i64.wrap ((n : Int) - 1) = ((n - 1 : Nat) : Int) := by rw [IntKind.wrap_i64]; omega
  obtain ⟨d, hd⟩ : ∃ d, d = t / n := ⟨_, rfl⟩
  obtain ⟨r, hre⟩ : ∃ r, r = t % n := ⟨_, rfl⟩
  rw [← hd] at hlf hq hdl hp1 hp2
  rw [← hre] at hlf hr hml
  have hnn : n - 1 < n := by omega
  obtain ⟨n', hn'⟩ : ∃ n', n' = n - 1 := ⟨_, rfl⟩
  rw [← hn'] at e1 hlf hla hp1 hp2 hwn hnn
  obtain ⟨x, hxe⟩ : ∃ x, x = xs[n']?.getD 0 := ⟨_, rfl⟩
  rw [← hxe] at e1 hlf hla hp1 hp2
  have hn0 : ¬ n = 0 := by omega
  have hwd : IntKind.i64.wrap (d : Int) = (d : Int) := by rw [IntKind.wrap_i64]; omega
  have hwr : IntKind.i64.wrap (r : Int) = (r : Int) := by rw [IntKind.wrap_i64]; omega
  obtain ⟨pr, hpr⟩ : ∃ pr, pr = x * (d : Int) := ⟨_, rfl⟩
  have hwp : IntKind.i64.wrap ((d : Int) * x) = pr := by rw [Int.mul_comm, ← hpr, IntKind.wrap_i64]; rw [← hpr] at hp1 hp2; omega
  rw [← hpr] at hlf hp1 hp2
  unfold encI
  rw [hlf]
  by_cases h0 : 0 < r
  · obtain ⟨b', o', e, -, e2⟩ := hx.cell (k := r - 1) (by omega)
    cases e
    have hla2 := hv.2.2 (r - 1) (by omega)
    rw [if_pos h0]
    have hwr1 : IntKind.i64.wrap ((r : Int) - 1) = ((r - 1 : Nat) : Int) := by rw [IntKind.wrap_i64]; omega
    have hrn : r - 1 < n := by omega
    obtain ⟨r', hr'⟩ : ∃ r', r' = r - 1 := ⟨_, rfl⟩
    rw [← hr'] at e2 hla2 hwr1 hrn ⊢
    obtain ⟨y, hye⟩ : ∃ y, y = xs[r']?.getD 0 := ⟨_, rfl⟩
    rw [← hye] at e2 hla2 ⊢
    have hws : IntKind.i64.wrap (pr + y) = pr + y := by rw [IntKind.wrap_i64]; omega
    have hr0 : (0 : Int) < (r : Int) := by omega
    clear hpr hxe hye hr' hn' hre hd hlf hbd hv hx hla hp1 hp2 hla2 hdl hn hn1 h0
    go_enter Try.func88, Try.ntmps88
    go_wp2
    go_quiet (fail)
    go_wp2
    go_ret
    exact ⟨by simp, _, rfl⟩
  · rw [if_neg h0, Int.add_zero]
    have hr0 : ¬ (0 : Int) < (r : Int) := by omega
    clear hpr hxe hn' hre hd hlf hbd hv hx hla hp1 hp2 hdl hn hn1 h0
    go_enter Try.func88, Try.ntmps88
    go_wp2
    go_quiet (fail)
    go_wp2
    go_ret
    exact ⟨by simp, _, rfl⟩

/-! ### Sums -/
def preL (xs : List Int) (k : Nat) : List Int := (List.range (k + 1)).map (preS xs)
theorem preL_len (xs : List Int) (k : Nat) : (preL xs k).length = k + 1 := by simp [preL]
theorem preL_succ (xs : List Int) (k : Nat) : preL xs (k + 1) = preL xs k ++ [preS xs (k + 1)] := by
  unfold preL
  rw [List.range_succ, List.map_append]
  rfl
theorem preL_get {xs : List Int} {k j : Nat} (h : j ≤ k) : (preL xs k)[j]?.getD 0 = preS xs j := by
  simp [preL, show j < k + 1 by omega]
theorem totF_pre (xs : List Int) : totF xs = preL xs xs.length := by
  refine List.ext_getElem (by simp [totF, fillR, preL]) fun i h1 h2 => ?_
  simp only [totF, fillR, preL, List.getElem_map, List.getElem_range]
  rw [if_pos]
  simp [preL] at h2
  omega
set_option maxRecDepth 100000 in
set_option maxHeartbeats 4000000 in
theorem rSums_any (w : World) (B : Nat) (A : Option Addr) (n c : Nat) (xs : List Int) (hx : IntsAt w B A n xs) (hB : B ≤ w.heap.size) (hn : n ≤ 1000) (hbd : ∀ j, j ≤ n → -1000000000000 ≤ preS xs j ∧ preS xs j ≤ 1000000000000) :
    Calls Try.prog 52 #[.slice A n c] w fun e w' => ∃ v, e = .returned v ∧ OwnZ w' w.heap.size v (preL xs n) ∧ Below w.heap.size w w' := by
  obtain ⟨i0, hi, hz0, hz1, hz2⟩ := info_parts infoI64
  have Hbd := Lib.hid hbd
  have Hl := Lib.hid hx.len
  clear hbd
  go_enter Try.func52, Try.ntmps52
  go_wp2_with (fail)
  go_loopg [3, 4] n (fun g v3 v4 wr => ∃ j : Nat, (j ≤ n ∧ g = n - j ∧ v4 = .int .i64 (j : Int)) ∧ wr.ownsRow w.heap.size 2 1 v3 (j + 1) ((preL xs j).map (.int .i64)) ∧ Below w.heap.size w wr)
  case atStart => exact ⟨0, ⟨by omega, rfl, rfl⟩, own_lit w w.heap.size [0] (Nat.le_refl _) (by decide), (Below.refl _ w).alloc (Nat.le_refl _) _⟩
  case round =>
    obtain ⟨j, ⟨hj, rfl, rfl⟩, hrow, hb⟩ := hrel
    by_cases hlt : j < n
    · obtain ⟨b, o, rfl, hbB, hc1⟩ := (hx.below hb hB).cell hlt
      obtain ⟨g, cap, rfl⟩ := ownsRow_succ hrow
      have hc2 := (OwnZ.ints hrow (by omega)).cell (k := j) (by omega)
      obtain ⟨b', o', e', -, hc2⟩ := hc2
      cases e'
      rw [preL_get (Nat.le_refl j), Nat.zero_add] at hc2
      have h1 := Hbd.out j (by omega)
      have h2 := Hbd.out (j + 1) (by omega)
      have hps : preS xs (j + 1) = preS xs j + xs[j]?.getD 0 := rfl
      have hwp : IntKind.i64.wrap (preS xs j + xs[j]?.getD 0) = preS xs (j + 1) := by rw [← hps, IntKind.wrap_i64]; omega
      have hwj : IntKind.i64.wrap ((j : Int) + 1) = (j : Int) + 1 := by rw [IntKind.wrap_i64]; omega
      obtain ⟨p0, hp0⟩ : ∃ p, p = preS xs j := ⟨_, rfl⟩
      obtain ⟨p1, hp1⟩ : ∃ p, p = preS xs (j + 1) := ⟨_, rfl⟩
      obtain ⟨x, hxe⟩ : ∃ x, x = xs[j]?.getD 0 := ⟨_, rfl⟩
      obtain ⟨m, hm⟩ : ∃ m, m = j + 1 := ⟨_, rfl⟩
      rw [← hp0] at hc2 hwp
      rw [← hp1] at hwp
      rw [← hxe] at hc1 hwp
      rw [← hm] at hrow ⊢
      have hjm : j < m := by omega
      have hm1 : m ≤ 1001 := by omega
      have Hp := Lib.hid (And.intro hp1 hm)
      have hsz := hb.size
      clear hp0 hp1 hxe hps h1 h2 hm
      go_wp2
      refine region_held_wp 1 (fun W' => W' = wr.drew) (fun i => [4, 8].contains i) (by kernel_rfl) ?_
      intro KR hKR
      have hS : wr.drew = wr.drew := rfl
      refine wpAnyHI_takeW (i := 0) (v := ?v0) (some 12) rfl rfl (by kernel_rfl) (by kernel_rfl) (by kernel_rfl) (by kernel_rfl) (fun _ _ _ h => h) (.inl ⟨by kernel_rfl, fun W' hS' => ?y0⟩) ?z0
      case y0 => go_simp; try exact rfl
      refine wpAnyHI_takeW (i := 1) (v := ?v1) (some 13) rfl rfl (by kernel_rfl) (by kernel_rfl) (by kernel_rfl) (by kernel_rfl) (fun _ _ _ h => h) (.inl ⟨by kernel_rfl, fun W' hS' => ?y1⟩) ?z1
      case y1 => go_simp; try exact rfl
      refine wpAnyHI_takeW (i := 2) (v := ?v2) (some 14) rfl rfl (by kernel_rfl) (by kernel_rfl) (by kernel_rfl) (by kernel_rfl) (fun _ _ _ h => h) (.inl ⟨by kernel_rfl, fun W' hS' => ?y2⟩) ?z2
      case y2 => go_simp; try exact rfl
      refine wpAnyHI_takeW (i := 3) (v := ?v3) (some 15) rfl rfl (by kernel_rfl) (by kernel_rfl) (by kernel_rfl) (by kernel_rfl) (fun _ _ _ h => h) (.inl ⟨by kernel_rfl, fun W' hS' => ?y3⟩) ?z3
      case y3 => go_simp; try exact rfl
      refine wpAnyHI_takeW (i := 5) (v := ?v5) (some 17) rfl rfl (by kernel_rfl) (by kernel_rfl) (by kernel_rfl) (by kernel_rfl) (fun _ _ _ h => h) (.inl ⟨by kernel_rfl, fun W' hS' => ?y5⟩) ?z5
      case y5 => go_simp; try exact rfl
      refine wpAnyHI_takeW (i := 6) (v := ?v6) (some 18) rfl rfl (by kernel_rfl) (by kernel_rfl) (by kernel_rfl) (by kernel_rfl) (fun _ _ _ h => h) (.inl ⟨by kernel_rfl, fun W' hS' => ?y6⟩) ?z6
      case y6 => go_simp; try exact rfl
      refine wpAnyHI_takeW (i := 7) (v := ?v7) (some 19) rfl rfl (by kernel_rfl) (by kernel_rfl) (by kernel_rfl) (by kernel_rfl) (fun _ _ _ h => h) (.inl ⟨by kernel_rfl, fun W' hS' => ?y7⟩) ?z7
      case y7 => go_simp; try exact rfl
      refine wpAnyHI_takeE (i := 4) (v := ?v4) (some 16) rfl rfl (by kernel_rfl) (by kernel_rfl) (by kernel_rfl) (by kernel_rfl) (by kernel_rfl) (fun _ _ _ h => h) hS (.inl ⟨by kernel_rfl, fun W' hS' => ?y4⟩) ?z4
      case y4 => subst hS'; go_simp; try exact rfl
      refine wpAnyHI_takeE (i := 8) (v := ?v8) (some 20) rfl rfl (by kernel_rfl) (by kernel_rfl) (by kernel_rfl) (by kernel_rfl) (by kernel_rfl) (fun _ _ _ h => h) hS (.inl ⟨by kernel_rfl, fun W' hS' => ?y8⟩) ?z8
      case y8 => subst hS'; go_simp; try exact rfl
      refine wpAnyHI_takeW (i := 9) (v := ?v9) (some 21) rfl rfl (by kernel_rfl) (by kernel_rfl) (by kernel_rfl) (by kernel_rfl) (fun _ _ _ h => h) (.inl ⟨by kernel_rfl, fun W' hS' => ?y9⟩) ?z9
      case y9 => go_simp; try exact rfl
      refine wpAnyHI_tail (k := 10) rfl rfl (by kernel_rfl) (by kernel_rfl) ?_
      simp only [List.drop_succ_cons, List.drop_zero]
      have hb' : Below w.heap.size w wr.drew := hb.trans (below_drew _)
      have hrow' := World.ownsRow.drew hrow
      have hsz' : w.heap.size ≤ wr.drew.heap.size := hsz
      clear hS
      generalize wr.drew = w2 at hb' hrow' hsz' ⊢
      gi_wp2_with (gi_at_builtin; refine wpListIn_append_own_at (F := Fence.wide) (nF := 1) _ rfl _ _ 22 rfl w.heap.size 2 i0 (.int .i64 0) 1 8 Try.underlying22 hi hz0 hz1 hz2 rfl (by decide) _ _ _ rfl (hrow'.alloc _) ⟨w2.heap.size, 0, none⟩ 1 1 [.int .i64 p1] rfl rfl (cell_one_new _ _ _) (by simp [Value.oneCell']) (by simp only [maxLen]; omega) (by omega) (by simp; omega) ?_; intro v' w1 hown' hgrow _ hat)
      go_wp2
      go_roundg (n - (j + 1))
      case measure => omega
      case rel =>
        obtain ⟨hp1, hm⟩ := Hp.out
        refine ⟨j + 1, ⟨by omega, rfl, by simp⟩, ?_, (hb'.alloc hsz' _).trans ((Below.refl _ _).grown hgrow (by simp; omega) (fun r e => (hrow'.lt r e).1))⟩
        rw [preL_succ, ← hp1, ← hm]
        simpa using hown'
    · obtain rfl : j = n := by omega
      go_wp2
      refine bodyPost_ret (results_tmp rfl _ _ _) rfl ⟨_, rfl, ?_, hb⟩
      show World.ownsRow _ _ _ _ _ (preL xs j).length _
      rw [preL_len]
      exact hrow
end Go.Proofs.Ytlgibckhkdggdaa
