/- Parts of a proof: OH OI OJ. -/
import Derived.Test.YtfidkgpimlpdbaaF7

/- odds: facts on neighbours and on the simplest fraction. -/
namespace Go.Proofs.Ytfidkgpimlpdbaa
open Go.RowKit Go.Shelf

theorem least_nat {p : Nat → Prop} : ∀ n, p n → ∃ k, k ≤ n ∧ p k ∧ ∀ j, j < k → ¬ p j := by
  intro n
  induction n using Nat.strongRecOn with
  | _ n ih =>
    intro h
    by_cases hx : ∃ j, j < n ∧ p j
    · obtain ⟨j, hj, hp⟩ := hx
      obtain ⟨k, h1, h2, h3⟩ := ih j hj hp
      exact ⟨k, by omega, h2, h3⟩
    · exact ⟨n, Nat.le_refl _, h, fun j hj hp => hx ⟨j, hj, hp⟩⟩
/-- What is known of both neighbours. -/
structure Nb (r1 r2 s a b c d : Int) : Prop where
  lo : a * r2 ≤ r1 * b
  hi : r1 * d < c * r2
  det : c * b = a * d + 1
  b1 : 1 ≤ b ∧ b ≤ s
  d1 : 1 ≤ d ∧ d ≤ s
  sum : s < b + d
  a0 : 0 ≤ a ∧ a ≤ 1000 * b
  c0 : 0 ≤ c ∧ c ≤ 1001 * d
theorem gap_den {r1 r2 s : Int} (hs : 1 ≤ s) (h2 : 1 ≤ r2) (h1 : 0 ≤ r1) (h3 : r1 ≤ 1000 * r2) {k : Nat} (h : ∀ j, j < k → gapSum r1 r2 j ≤ s) : (gapS r1 r2 k).2.1 ≤ s ∧ (gapS r1 r2 k).2.2.2 ≤ s := by
  cases k with
  | zero => exact ⟨hs, hs⟩
  | succ k =>
    have hk := h k (by omega)
    unfold gapSum at hk
    unfold gapS
    generalize hg : gapS r1 r2 k = t at hk ⊢
    obtain ⟨a, b, c, d⟩ := t
    obtain ⟨-, -, -, i4, i5, -, -, -, -, -⟩ := gap_inv h2 h1 h3 k a b c d hg
    simp only at hk ⊢
    split <;> simp only <;> omega
theorem nb_is {r1 r2 s : Int} (hs : 1 ≤ s ∧ s ≤ 100) (h2 : 1 ≤ r2) (h1 : 0 ≤ r1) (h3 : r1 ≤ 1000 * r2) : Nb r1 r2 s (nbF r1 r2 s).1 (nbF r1 r2 s).2.1 (nbF r1 r2 s).2.2.1 (nbF r1 r2 s).2.2.2 := by
  obtain ⟨k, hk, hp, hb⟩ := least_nat (p := fun k => gapSum r1 r2 k > s) 99 (by
    unfold gapSum
    generalize hg : gapS r1 r2 99 = t
    obtain ⟨a, b, c, d⟩ := t
    have := (gap_inv h2 h1 h3 99 a b c d hg).sum
    simp only
    omega)
  have hb' : ∀ j, j < k → gapSum r1 r2 j ≤ s := fun j hj => by have := hb j hj; omega
  have hd := gap_den hs.1 h2 h1 h3 hb'
  unfold nbF
  rw [nbK_is (by omega) hp hb']
  unfold gapSum at hp
  generalize hg : gapS r1 r2 k = t at hd hp ⊢
  obtain ⟨a, b, c, d⟩ := t
  obtain ⟨i1, i2, i3, i4, i5, i6, i7, i8, i9, i10⟩ := gap_inv h2 h1 h3 k a b c d hg
  exact ⟨i1, i2, i3, ⟨i4, hd.1⟩, ⟨i5, hd.2⟩, hp, ⟨i7, i8⟩, i9, i10⟩
theorem Nb.near {r1 r2 s a b c d : Int} (h : Nb r1 r2 s a b c d) (hs : s ≤ 100) (h2 : 1 ≤ r2) : Nr r1 r2 a b ∧ Nr r1 r2 c d := by
  obtain ⟨i1, i2, i3, i4, i5, i6, i7, i8⟩ := h
  have e1 : d * (r1 * b - a * r2) + b * (c * r2 - r1 * d) = r2 := by
    have e2 : d * (r1 * b - a * r2) + b * (c * r2 - r1 * d) = (c * b - a * d) * r2 := by
      simp only [Int.mul_sub, Int.sub_mul]
      rw [show d * (r1 * b) = b * (r1 * d) by rw [Int.mul_comm d, Int.mul_comm b, Int.mul_right_comm], show d * (a * r2) = a * d * r2 by rw [← Int.mul_assoc, Int.mul_comm d a], show b * (c * r2) = c * b * r2 by rw [← Int.mul_assoc, Int.mul_comm b c]]
      omega
    rw [e2, i3]
    rw [show a * d + 1 - a * d = 1 by omega, Int.one_mul]
  have p1 : 0 ≤ r1 * b - a * r2 := by omega
  have p2 : 0 ≤ c * r2 - r1 * d := by omega
  have q1 := Int.mul_le_mul_of_nonneg_right (show (1 : Int) ≤ d by omega) p1
  have q2 := Int.mul_le_mul_of_nonneg_right (show (1 : Int) ≤ b by omega) p2
  have q3 := Int.mul_nonneg (show (0 : Int) ≤ d by omega) p1
  have q4 := Int.mul_nonneg (show (0 : Int) ≤ b by omega) p2
  have m1 := Int.mul_le_mul_of_nonneg_right (show (1 : Int) ≤ b by omega) (show 0 ≤ r2 by omega)
  have m2 := Int.mul_le_mul_of_nonneg_right (show (1 : Int) ≤ d by omega) (show 0 ≤ r2 by omega)
  exact ⟨⟨by omega, by omega, by omega⟩, ⟨by omega, by omega, by omega⟩⟩
/-- Nothing of the ladder lies between both. -/
theorem Nb.none {r1 r2 s a b c d p q : Int} (h : Nb r1 r2 s a b c d) (hq : 1 ≤ q ∧ q ≤ s) (h1 : a * q < p * b) (h2 : p * d < c * q) : False := by
  obtain ⟨i1, i2, i3, i4, i5, i6, i7, i8⟩ := h
  have e : d * (p * b - a * q) + b * (c * q - p * d) = q := by
    have e2 : d * (p * b - a * q) + b * (c * q - p * d) = (c * b - a * d) * q := by
      simp only [Int.mul_sub, Int.sub_mul]
      rw [show d * (p * b) = b * (p * d) by rw [Int.mul_comm d, Int.mul_comm b, Int.mul_right_comm], show d * (a * q) = a * d * q by rw [← Int.mul_assoc, Int.mul_comm d a], show b * (c * q) = c * b * q by rw [← Int.mul_assoc, Int.mul_comm b c]]
      omega
    rw [e2, i3, show a * d + 1 - a * d = 1 by omega, Int.one_mul]
  have q1 := Int.mul_le_mul_of_nonneg_left (show (1 : Int) ≤ p * b - a * q by omega) (show 0 ≤ d by omega)
  have q2 := Int.mul_le_mul_of_nonneg_left (show (1 : Int) ≤ c * q - p * d by omega) (show 0 ≤ b by omega)
  omega
theorem Nb.gcd {r1 r2 s a b c d : Int} (h : Nb r1 r2 s a b c d) : Int.gcd a b = 1 ∧ Int.gcd c d = 1 := by
  have hd := h.det
  constructor
  · have h1 : (Int.gcd a b : Int) ∣ 1 := by
      have h2 : (Int.gcd a b : Int) ∣ c * b - a * d := Int.dvd_sub (Int.dvd_mul_of_dvd_right (Int.gcd_dvd_right ..)) (Int.dvd_mul_of_dvd_left (Int.gcd_dvd_left ..))
      rwa [show c * b - a * d = 1 by omega] at h2
    have := Int.le_of_dvd (by decide) h1
    have h0 : 0 < Int.gcd a b := Int.gcd_pos_of_ne_zero_right _ (by have := h.b1; omega)
    omega
  · have h1 : (Int.gcd c d : Int) ∣ 1 := by
      have h2 : (Int.gcd c d : Int) ∣ c * b - a * d := Int.dvd_sub (Int.dvd_mul_of_dvd_left (Int.gcd_dvd_left ..)) (Int.dvd_mul_of_dvd_right (Int.gcd_dvd_right ..))
      rwa [show c * b - a * d = 1 by omega] at h2
    have := Int.le_of_dvd (by decide) h1
    have h0 : 0 < Int.gcd c d := Int.gcd_pos_of_ne_zero_right _ (by have := h.d1; omega)
    omega
/-- Two fractions that are a proof are the neighbours. -/
theorem Nb.unique {r1 r2 s a b c d a' b' c' d' : Int} (h2 : 1 ≤ r2) (h : Nb r1 r2 s a b c d) (k : Nb r1 r2 s a' b' c' d') : a = a' ∧ b = b' ∧ c = c' ∧ d = d' := by
  have gen : ∀ {a b c d a' b' c' d' : Int}, Nb r1 r2 s a b c d → Nb r1 r2 s a' b' c' d' → a' * b ≤ a * b' ∧ c * d' ≤ c' * d := by
    intro a b c d a' b' c' d' h k
    have hb1 := h.b1; have hd1 := h.d1; have kb1 := k.b1; have kd1 := k.d1
    constructor
    · rcases Int.lt_or_le (a * b') (a' * b) with hlt | hle
      · refine (h.none (p := a') (q := b') kb1 hlt ?_).elim
        -- a'/b' ≤ r < c/d
        have m1 := Int.mul_le_mul_of_nonneg_right k.lo (show 0 ≤ d by omega)
        have m2 := Int.mul_lt_mul_of_pos_right h.hi (show 0 < b' by omega)
        refine Int.lt_of_mul_lt_mul_right (a := r2) ?_ (by omega)
        rw [Int.mul_right_comm a' d r2, Int.mul_right_comm c b' r2]
        rw [Int.mul_right_comm r1 b' d] at m1
        omega
      · exact hle
    · rcases Int.lt_or_le (c' * d) (c * d') with hlt | hle
      · refine (h.none (p := c') (q := d') kd1 ?_ hlt).elim
        have m1 := Int.mul_le_mul_of_nonneg_right h.lo (show 0 ≤ d' by omega)
        have m2 := Int.mul_lt_mul_of_pos_right k.hi (show 0 < b by omega)
        refine Int.lt_of_mul_lt_mul_right (a := r2) ?_ (by omega)
        rw [Int.mul_right_comm a d' r2, Int.mul_right_comm c' b r2]
        rw [Int.mul_right_comm r1 b d'] at m1
        omega
      · exact hle
  have hb1 := h.b1; have hd1 := h.d1; have kb1 := k.b1; have kd1 := k.d1
  obtain ⟨g1, g2⟩ := gen h k
  obtain ⟨g3, g4⟩ := gen k h
  have e1 : a * b' = a' * b := by omega
  have e2 : c * d' = c' * d := by omega
  have u1 := rat_unique (n := a) (d := b) (a := a') (b := b') (by omega) (by omega) k.gcd.1 e1
  have u2 := rat_unique (n := c) (d := d) (a := c') (b := d') (by omega) (by omega) k.gcd.2 e2
  rw [rat_self (by omega) h.gcd.1] at u1
  rw [rat_self (by omega) h.gcd.2] at u2
  cases u1
  cases u2
  exact ⟨rfl, rfl, rfl, rfl⟩
end Go.Proofs.Ytfidkgpimlpdbaa

/- odds: the simplest fraction. -/
namespace Go.Proofs.Ytfidkgpimlpdbaa
open Go.RowKit Go.Shelf

def simpF : Nat → Int → Int → Int → Int → Rt
  | 0, _, _, _, _ => (0, 1)
  | n + 1, a, b, c, d =>
    if (a + b - 1) / b * d ≤ c then ((a + b - 1) / b, 1)
    else (((a + b - 1) / b - 1) * (simpF n (ratF (c * 1 - ((a + b - 1) / b - 1) * d) (d * 1)).2 (ratF (c * 1 - ((a + b - 1) / b - 1) * d) (d * 1)).1 (ratF (a * 1 - ((a + b - 1) / b - 1) * b) (b * 1)).2 (ratF (a * 1 - ((a + b - 1) / b - 1) * b) (b * 1)).1).1
        + (simpF n (ratF (c * 1 - ((a + b - 1) / b - 1) * d) (d * 1)).2 (ratF (c * 1 - ((a + b - 1) / b - 1) * d) (d * 1)).1 (ratF (a * 1 - ((a + b - 1) / b - 1) * b) (b * 1)).2 (ratF (a * 1 - ((a + b - 1) / b - 1) * b) (b * 1)).1).2,
      (simpF n (ratF (c * 1 - ((a + b - 1) / b - 1) * d) (d * 1)).2 (ratF (c * 1 - ((a + b - 1) / b - 1) * d) (d * 1)).1 (ratF (a * 1 - ((a + b - 1) / b - 1) * b) (b * 1)).2 (ratF (a * 1 - ((a + b - 1) / b - 1) * b) (b * 1)).1).1)
/-- The simplest fraction from a/b to c/d. -/
structure IsSimp (a b c d p q : Int) : Prop where
  q1 : 1 ≤ q
  lo : a * q ≤ p * b
  hi : p * d ≤ c * q
  least : ∀ p' q', 1 ≤ q' → a * q' ≤ p' * b → p' * d ≤ c * q' → q ≤ q' ∧ (q' = q → p ≤ p')
theorem IsSimp.unique {a b c d p q p' q' : Int} (h : IsSimp a b c d p q) (k : IsSimp a b c d p' q') : p = p' ∧ q = q' := by
  have h1 := h.least p' q' k.q1 k.lo k.hi
  have h2 := k.least p q h.q1 h.lo h.hi
  have e : q = q' := by omega
  subst e
  exact ⟨by have := h1.2 rfl; have := h2.2 rfl; omega, rfl⟩
theorem IsSimp.bd {a b c d p q : Int} (h : IsSimp a b c d p q) (ha : 0 ≤ a) (hb : 1 ≤ b) (hd : 1 ≤ d) (hc : a * d ≤ c * b) : q ≤ b ∧ 0 ≤ p ∧ p ≤ a + b := by
  have h1 := h.least a b hb (Int.le_refl _) hc
  have hq := h.q1
  have h3 : 0 ≤ p := by
    rcases Int.lt_or_le p 0 with hlt | hle
    · have := Int.mul_neg_of_neg_of_pos hlt (show 0 < b by omega)
      have := Int.mul_nonneg ha (show 0 ≤ q by omega)
      have := h.lo
      omega
    · exact hle
  refine ⟨h1.1, h3, ?_⟩
  -- one less is below
  rcases Int.lt_or_le (a + b) p with hlt | hle
  · have h4 := h.least (p - 1) q hq (by
      have e1 := Int.mul_le_mul_of_nonneg_left h1.1 ha
      have e2 := Int.mul_le_mul_of_nonneg_right (show a + b ≤ p - 1 by omega) (show 0 ≤ b by omega)
      rw [Int.add_mul] at e2
      have e3 := Int.mul_nonneg (show 0 ≤ b by omega) (show 0 ≤ b by omega)
      omega) (by
      have := h.hi
      rw [Int.sub_mul]
      omega)
    have := h4.2 rfl
    omega
  · exact hle
theorem ceil_is {a b : Int} (hb : 1 ≤ b) : a ≤ (a + b - 1) / b * b ∧ ((a + b - 1) / b - 1) * b < a := by
  have e := Int.mul_ediv_add_emod (a + b - 1) b
  have m0 := Int.emod_nonneg (a + b - 1) (show b ≠ 0 by omega)
  have m1 := Int.emod_lt_of_pos (a + b - 1) (show 0 < b by omega)
  rw [Int.mul_comm b] at e
  rw [Int.sub_mul]
  omega
/-- What the recursion asks. -/
structure Rec (a b c d w R1 R2 S1 S2 : Int) : Prop where
  r1 : 1 ≤ R1
  s1 : 1 ≤ S1
  r2 : 1 ≤ R2
  s2 : 1 ≤ S2
  rl : R1 < d
  sl : S1 < b
  r2l : R2 ≤ d
  s2l : S2 ≤ b
  ord : R2 * S1 ≤ S2 * R1
  iff1 : ∀ P Q : Int, R2 * Q ≤ P * R1 ↔ d * Q ≤ P * (c - (w - 1) * d)
  iff2 : ∀ P Q : Int, P * S1 ≤ S2 * Q ↔ P * (a - (w - 1) * b) ≤ b * Q
theorem mul_iff {x y u v g : Int} (hg : 0 < g) (h1 : u = x * g) (h2 : v = y * g) : x ≤ y ↔ u ≤ v := by
  rw [h1, h2]
  exact (Int.mul_le_mul_right hg).symm
theorem rec_is {a b c d : Int} (hb : 1 ≤ b) (hd : 1 ≤ d) (hc : a * d ≤ c * b) (hw : ¬ (a + b - 1) / b * d ≤ c) :
    Rec a b c d ((a + b - 1) / b) (ratF (c * 1 - ((a + b - 1) / b - 1) * d) (d * 1)).1 (ratF (c * 1 - ((a + b - 1) / b - 1) * d) (d * 1)).2 (ratF (a * 1 - ((a + b - 1) / b - 1) * b) (b * 1)).1 (ratF (a * 1 - ((a + b - 1) / b - 1) * b) (b * 1)).2 := by
  obtain ⟨w1, w2⟩ := ceil_is (a := a) hb
  simp only [Int.mul_one]
  generalize (a + b - 1) / b = w at *
  have hx0 : 0 < c - (w - 1) * d := by
    rcases Int.lt_or_le ((w - 1) * d) c with h | h
    · omega
    · have m1 := Int.mul_le_mul_of_nonneg_right h (show 0 ≤ b by omega)
      have m2 := Int.mul_lt_mul_of_pos_right w2 (show 0 < d by omega)
      rw [Int.mul_right_comm] at m2
      omega
  have hx1 : c - (w - 1) * d < d := by rw [Int.sub_mul]; omega
  have hy0 : 0 < a - (w - 1) * b := by omega
  have hy1 : a - (w - 1) * b < b := by
    rw [Int.sub_mul]
    rcases Int.lt_or_le a (w * b) with h | h
    · omega
    · exfalso
      have ha : a = w * b := by omega
      rw [ha, Int.mul_right_comm] at hc
      have := Int.le_of_mul_le_mul_right hc (by omega)
      omega
  have ex := rat_mul (n := c - (w - 1) * d) (d := d)
  have ey := rat_mul (n := a - (w - 1) * b) (d := b)
  have px := rat_pos (n := c - (w - 1) * d) (d := d) (by omega)
  have py := rat_pos (n := a - (w - 1) * b) (d := b) (by omega)
  have nx := rat_nonneg (n := c - (w - 1) * d) (d := d) (by omega) (by omega)
  have ny := rat_nonneg (n := a - (w - 1) * b) (d := b) (by omega) (by omega)
  have gx := gcdZ_pos (a := c - (w - 1) * d) (b := d) (by omega)
  have gy := gcdZ_pos (a := a - (w - 1) * b) (b := b) (by omega)
  have hord : d * (a - (w - 1) * b) ≤ b * (c - (w - 1) * d) := by
    rw [Int.mul_sub, Int.mul_sub, Int.mul_comm d a, Int.mul_comm b c, Int.mul_left_comm d, Int.mul_left_comm b, Int.mul_comm d b]
    omega
  generalize hX : c - (w - 1) * d = x at *
  generalize hY : a - (w - 1) * b = y at *
  generalize gcdZ x d = g at *
  generalize gcdZ y b = h at *
  generalize (ratF x d).1 = R1 at *
  generalize (ratF x d).2 = R2 at *
  generalize (ratF y b).1 = S1 at *
  generalize (ratF y b).2 = S2 at *
  have r1 : 1 ≤ R1 := by
    rcases Int.lt_or_le R1 1 with h9 | h9
    · have e : R1 = 0 := by omega
      rw [e, Int.zero_mul] at ex
      omega
    · exact h9
  have s1 : 1 ≤ S1 := by
    rcases Int.lt_or_le S1 1 with h9 | h9
    · have e : S1 = 0 := by omega
      rw [e, Int.zero_mul] at ey
      omega
    · exact h9
  refine ⟨r1, s1, by omega, by omega, by omega, by omega, by omega, by omega, ?_, fun P Q => ?_, fun P Q => ?_⟩
  · refine (mul_iff (g := g * h) (Int.mul_pos gx gy) (u := d * y) (v := b * x) ?_ ?_).2 hord
    · rw [ex.2, ey.1]; simp only [Int.mul_left_comm, Int.mul_comm]
    · rw [ex.1, ey.2]; simp only [Int.mul_left_comm, Int.mul_comm]
  · rw [hX]
    refine mul_iff gx ?_ ?_
    · conv => lhs; rw [ex.2]
      rw [Int.mul_right_comm]
    · conv => lhs; rw [ex.1]
      rw [Int.mul_assoc]
  · rw [hY]
    refine mul_iff gy ?_ ?_
    · conv => lhs; rw [ey.1]
      rw [Int.mul_assoc]
    · conv => lhs; rw [ey.2]
      rw [Int.mul_right_comm]
theorem simp_is : ∀ (N : Nat) (a b c d : Int), 0 ≤ a → 1 ≤ b → 1 ≤ d → a * d ≤ c * b → b + d ≤ N → IsSimp a b c d (simpF N a b c d).1 (simpF N a b c d).2
  | 0, a, b, c, d, ha, hb, hd, hc, hN => by omega
  | N + 1, a, b, c, d, ha, hb, hd, hc, hN => by
    obtain ⟨w1, w2⟩ := ceil_is (a := a) hb
    by_cases hw : (a + b - 1) / b * d ≤ c
    · have e : simpF (N + 1) a b c d = ((a + b - 1) / b, 1) := by unfold simpF; rw [if_pos hw]
      rw [e]
      generalize (a + b - 1) / b = w at *
      refine ⟨Int.le_refl _, by simp only [Int.mul_one]; exact w1, by simp only [Int.mul_one]; exact hw, fun p' q' hq hl hh => ⟨hq, fun e => ?_⟩⟩
      subst e
      rcases Int.lt_or_le p' w with h | h
      · have := Int.mul_le_mul_of_nonneg_right (show p' ≤ w - 1 by omega) (show 0 ≤ b by omega)
        simp only [Int.mul_one] at hl
        omega
      · exact h
    · have hr := rec_is hb hd hc hw
      have e : ∀ r, simpF N (ratF (c * 1 - ((a + b - 1) / b - 1) * d) (d * 1)).2 (ratF (c * 1 - ((a + b - 1) / b - 1) * d) (d * 1)).1 (ratF (a * 1 - ((a + b - 1) / b - 1) * b) (b * 1)).2 (ratF (a * 1 - ((a + b - 1) / b - 1) * b) (b * 1)).1 = r → simpF (N + 1) a b c d = (((a + b - 1) / b - 1) * r.1 + r.2, r.1) := fun r hr => by
        subst hr
        conv => lhs; unfold simpF
        rw [if_neg hw]
      obtain ⟨r, hr9⟩ : ∃ r, simpF N (ratF (c * 1 - ((a + b - 1) / b - 1) * d) (d * 1)).2 (ratF (c * 1 - ((a + b - 1) / b - 1) * d) (d * 1)).1 (ratF (a * 1 - ((a + b - 1) / b - 1) * b) (b * 1)).2 (ratF (a * 1 - ((a + b - 1) / b - 1) * b) (b * 1)).1 = r := ⟨_, rfl⟩
      rw [e r hr9]
      have ih := simp_is N _ _ _ _ (show 0 ≤ (ratF (c * 1 - ((a + b - 1) / b - 1) * d) (d * 1)).2 by have := hr.r2; omega) hr.r1 hr.s1 hr.ord (by have := hr.rl; have := hr.sl; omega)
      rw [hr9] at ih
      clear hr9 e
      obtain ⟨P, Q⟩ := r
      generalize (ratF (c * 1 - ((a + b - 1) / b - 1) * d) (d * 1)).1 = R1 at *
      generalize (ratF (c * 1 - ((a + b - 1) / b - 1) * d) (d * 1)).2 = R2 at *
      generalize (ratF (a * 1 - ((a + b - 1) / b - 1) * b) (b * 1)).1 = S1 at *
      generalize (ratF (a * 1 - ((a + b - 1) / b - 1) * b) (b * 1)).2 = S2 at *
      generalize (a + b - 1) / b = w at *
      simp only at ih ⊢
      have i1 := (hr.iff1 P Q).1 ih.lo
      have i2 := (hr.iff2 P Q).1 ih.hi
      have hQ := ih.q1
      have hP : 1 ≤ P := by
        rcases Int.lt_or_le P 1 with h9 | h9
        · have m1 := Int.mul_pos (show 0 < R2 by have := hr.r2; omega) (show 0 < Q by omega)
          have m2 := Int.mul_nonpos_of_nonpos_of_nonneg (show P ≤ 0 by omega) (show 0 ≤ R1 by have := hr.r1; omega)
          have := ih.lo
          omega
        · exact h9
      refine ⟨hP, ?_, ?_, fun p' q' hq hl hh => ?_⟩
      · rw [Int.mul_sub] at i2
        have e2 : ((w - 1) * P + Q) * b = P * ((w - 1) * b) + b * Q := by rw [Int.add_mul, Int.mul_comm Q b, Int.mul_comm (w - 1) P, Int.mul_assoc]
        rw [e2, Int.mul_comm a P]
        omega
      · rw [Int.mul_sub] at i1
        have e2 : ((w - 1) * P + Q) * d = P * ((w - 1) * d) + d * Q := by rw [Int.add_mul, Int.mul_comm Q d, Int.mul_comm (w - 1) P, Int.mul_assoc]
        rw [e2, Int.mul_comm c P]
        omega
      · have hQ' : 1 ≤ p' - (w - 1) * q' := by
          rcases Int.lt_or_le ((w - 1) * q') p' with h9 | h9
          · omega
          · have m1 := Int.mul_le_mul_of_nonneg_right h9 (show 0 ≤ b by omega)
            have m2 := Int.mul_lt_mul_of_pos_right w2 (show 0 < q' by omega)
            rw [Int.mul_right_comm] at m2
            omega
        have j1 : d * (p' - (w - 1) * q') ≤ q' * (c - (w - 1) * d) := by
          rw [Int.mul_sub, Int.mul_sub, Int.mul_comm d p', Int.mul_comm q' c, show d * ((w - 1) * q') = q' * ((w - 1) * d) by rw [Int.mul_left_comm, Int.mul_comm d q', Int.mul_left_comm]]
          omega
        have j2 : q' * (a - (w - 1) * b) ≤ b * (p' - (w - 1) * q') := by
          rw [Int.mul_sub, Int.mul_sub, Int.mul_comm q' a, Int.mul_comm b p', show b * ((w - 1) * q') = q' * ((w - 1) * b) by rw [Int.mul_left_comm, Int.mul_comm b q', Int.mul_left_comm]]
          omega
        have hl9 := ih.least q' (p' - (w - 1) * q') hQ' ((hr.iff1 _ _).2 j1) ((hr.iff2 _ _).2 j2)
        have hPq : P ≤ q' := by
          rcases Int.lt_or_le q' P with h9 | h9
          · exfalso
            have hne : Q < p' - (w - 1) * q' := by
              rcases Int.lt_or_le Q (p' - (w - 1) * q') with h8 | h8
              · exact h8
              · have := hl9.2 (by omega); omega
            have hnot : ¬ R2 * Q ≤ (P - 1) * R1 := fun h8 => by
              have h7 := ih.least (P - 1) Q hQ h8 (by
                have := ih.hi
                have := hr.s1
                rw [Int.sub_mul]
                omega)
              have := h7.2 rfl
              omega
            have h6 : ¬ d * Q ≤ (P - 1) * (c - (w - 1) * d) := fun h8 => hnot ((hr.iff1 _ _).2 h8)
            have hx : 0 ≤ c - (w - 1) * d := by
              rcases Int.lt_or_le (c - (w - 1) * d) 0 with h5 | h5
              · have m1 := Int.mul_pos (show 0 < d by omega) (show 0 < Q by omega)
                have m2 := Int.mul_neg_of_pos_of_neg (show 0 < P by omega) h5
                omega
              · exact h5
            have m1 := Int.mul_le_mul_of_nonneg_right (show q' ≤ P - 1 by omega) hx
            have m2 := Int.mul_le_mul_of_nonneg_left (show Q ≤ p' - (w - 1) * q' by omega) (show 0 ≤ d by omega)
            omega
          · exact h9
        refine ⟨hPq, fun e => ?_⟩
        rw [e] at hl9 hQ'
        omega
end Go.Proofs.Ytfidkgpimlpdbaa

/- odds: Round, Simplest. -/
namespace Go.Proofs.Ytfidkgpimlpdbaa
open Go.RowKit Go.Shelf

set_option maxRecDepth 20000 in
theorem Round_any (w : World) (r1 r2 s : Int) (hs : -9223372036854775808 ≤ s ∧ s ≤ 9223372036854775807) :
    Calls Try.prog 18 #[.agg #[.int .i64 r1, .int .i64 r2], .int .i64 s] w fun e w' => e = .returned (.tuple #[.agg #[.int .i64 ((roundA r1 r2 s).1), .int .i64 ((roundA r1 r2 s).2)], .int .i64 (placeF r1 r2 s)]) ∧ Below w.heap.size w w' := by
  refine enter 27 Try.func18 (by kernel_rfl) fun hA => ?_
  refine runS hA 11 [.k 0, .k 0] xn on (by kernel_rfl) fun w1 hA => ?_
  refine callB hA [] on (Near_any w1 r1 r2 s (by omega)) (by kernel_rfl) fun w2 hb2 hA => ?_
  refine runS hA 18 [.k 2, .k 2, .k 3, .k 3, .t 0] xn on (by kernel_rfl) fun w3 hA => ?_
  by_cases ht1 : (placeF r1 r2 s) = (0 : Int)
  case pos =>
    refine runS hA 15 [.b false, .k 2, .k 2, .k 3, .k 3] xn (oc (ne_f ht1) on) (by kernel_rfl) fun w4 hA => ?_
    have hnn : nearA r1 r2 s = nbF r1 r2 s := if_pos ht1
    have hpl := place_ok ht1
    have hnb := (nb_is hpl.2 hpl.1.1.1 hpl.1.2.1 hpl.1.2.2).near hpl.2.2 hpl.1.1.1
    rw [← hnn] at hnb
    refine callB hA [] on (best2_any w4 r1 r2 ((nearA r1 r2 s).1) ((nearA r1 r2 s).2.1) ((nearA r1 r2 s).2.2.1) ((nearA r1 r2 s).2.2.2) w.heap.size (w2.heap.size + 2) (hA.at_.ok ⟨w2.heap.size + 2, .cells #[.int .i64 ((nearA r1 r2 s).1), .int .i64 ((nearA r1 r2 s).2.1), .int .i64 ((nearA r1 r2 s).2.2.1), .int .i64 ((nearA r1 r2 s).2.2.2)] 23 (0, 0)⟩ (List.mem_of_getElem? (i := 4) (by kernel_rfl))) (by omega) hnb.1 hnb.2 (hA.at_.lt (kb := ⟨w.heap.size, .cells #[.int .i64 r1, .int .i64 r2] 23 (0, 0)⟩) (List.mem_of_getElem? (i := 0) (by kernel_rfl))) (cell_of_obj (hA.at_.ok ⟨w.heap.size, .cells #[.int .i64 r1, .int .i64 r2] 23 (0, 0)⟩ (List.mem_of_getElem? (i := 0) (by kernel_rfl))) rfl rfl) (cell_of_obj (hA.at_.ok ⟨w.heap.size, .cells #[.int .i64 r1, .int .i64 r2] 23 (0, 0)⟩ (List.mem_of_getElem? (i := 0) (by kernel_rfl))) rfl rfl)) (by kernel_rfl) fun w5 hb5 hA => ?_
    refine runS hA 5 [.k 1, .k 1] xn on (by kernel_rfl) fun w6 hA => ?_
    exact ret (v := .tuple #[.agg #[.int .i64 ((bestF r1 r2 ((nearA r1 r2 s).1) ((nearA r1 r2 s).2.1) ((nearA r1 r2 s).2.2.1) ((nearA r1 r2 s).2.2.2)).1), .int .i64 ((bestF r1 r2 ((nearA r1 r2 s).1) ((nearA r1 r2 s).2.1) ((nearA r1 r2 s).2.2.1) ((nearA r1 r2 s).2.2.2)).2)], .int .i64 0]) hA [.k 1, .k 1] (by kernel_rfl) ⟨by unfold roundA; rw [if_pos ht1, hnn]; rw [ht1], hA.below⟩
  case neg =>
    refine runS hA 11 [.b true, .k 1, .k 1] xn (oc (ne_t ht1) on) (by kernel_rfl) fun w4 hA => ?_
    exact ret (v := .tuple #[.agg #[.int .i64 0, .int .i64 0], .int .i64 (placeF r1 r2 s)]) hA [.k 1, .k 1] (by kernel_rfl) ⟨by simp [roundA, ht1], hA.below⟩
set_option maxHeartbeats 1000000 in
set_option maxRecDepth 20000 in
theorem simplest_any (N : Nat) : ∀ (w : World) (a b c d : Int) (_ : 0 ≤ a ∧ a ≤ 1000000000) (_ : 1 ≤ b ∧ b ≤ 1000000) (_ : 0 ≤ c ∧ c ≤ 1000000000) (_ : 1 ≤ d ∧ d ≤ 1000000) (_ : a * d ≤ c * b) (_ : b + d ≤ N),
    Calls Try.prog 72 #[.agg #[.int .i64 a, .int .i64 b], .agg #[.int .i64 c, .int .i64 d]] w fun e w' => e = .returned (.agg #[.int .i64 (simpF N a b c d).1, .int .i64 (simpF N a b c d).2]) ∧ Below w.heap.size w w' := by
  induction N with
  | zero =>
    intro w a b c d ha hb hc hd hc2 hN
    omega
  | succ N ih =>
    intro w a b c d ha hb hc hd hc2 hN
    refine enter 49 Try.func72 (by kernel_rfl) fun hA => ?_
    have hcl := ceil_is (a := a) (b := b) hb.1
    have hq0 := Int.ediv_nonneg (show 0 ≤ a + b - 1 by omega) (show 0 ≤ b by omega)
    have hq1 := Int.ediv_le_self b (show 0 ≤ a + b - 1 by omega)
    have hS := simp_is (N + 1) a b c d ha.1 hb.1 hd.1 hc2 hN
    have hS2 := hS.bd ha.1 hb.1 hd.1 hc2
    refine runS hA 33 [.k 0, .k 0, .v (.int .i64 (a + b)), .v (.int .i64 ((a + b) - 1)), .k 0, .v (.int .i64 (((a + b) - 1) / b)), .z, .k 1, .v (.int .i64 ((((a + b) - 1) / b) * d)), .k 1, .t 0] xn (oc (show Value.int .i64 (IntKind.i64.wrap (a + b)) = .int .i64 (a + b) from wrp (by first | omega | exact pb1 (by omega) (by omega) | exact pb2 (by omega) (by omega) (by omega))) (oc (show Value.int .i64 (IntKind.i64.wrap ((a + b) - 1)) = .int .i64 ((a + b) - 1) from wrp (by first | omega | exact pb1 (by omega) (by omega) | exact pb2 (by omega) (by omega) (by omega))) (oc (show b ≠ (0 : Int) by first | omega | exact pb1 (by omega) (by omega) | exact pb2 (by omega) (by omega) (by omega)) (oc (show Value.int .i64 (IntKind.i64.wrap (Int.tdiv ((a + b) - 1) b)) = .int .i64 (((a + b) - 1) / b) from wrq (by first | omega | exact pb1 (by omega) (by omega) | exact pb2 (by omega) (by omega) (by omega))) (oc (show Value.int .i64 (IntKind.i64.wrap ((((a + b) - 1) / b) * d)) = .int .i64 ((((a + b) - 1) / b) * d) from wrp (by first | omega | exact pb1 (by omega) (by omega) | exact pb2 (by omega) (by omega) (by omega))) on))))) (by kernel_rfl) fun w1 hA => ?_
    by_cases ht1 : ((a + b - 1) / b) * d ≤ c
    case pos =>
      refine runS hA 10 [.b true, .k 2, .k 2] xn (oc (dec_t ht1) on) (by kernel_rfl) fun w2 hA => ?_
      exact ret (v := .agg #[.int .i64 (((a + b) - 1) / b), .int .i64 1]) hA [.k 2, .k 2] (by kernel_rfl) ⟨by rw [show simpF (N + 1) a b c d = (((a + b - 1) / b), 1) from if_pos ht1], hA.below⟩
    case neg =>
      have hR := rec_is hb.1 hd.1 hc2 ht1
      have hr1 := hR.r1; have hr2 := hR.r2; have hs1 := hR.s1; have hs2 := hR.s2; have hr3 := hR.rl; have hr4 := hR.r2l; have hs3 := hR.sl; have hs4 := hR.s2l
      have hwa : ((a + b - 1) / b) - 1 ≤ 1000000000 := by
        have hq9 := Int.lt_or_le 1000000000 (((a + b - 1) / b) - 1)
        rcases hq9 with h9 | h9
        · have := Int.mul_le_mul (show (1000000000 : Int) ≤ ((a + b - 1) / b) - 1 by omega) hb.1 (by decide) (by omega); omega
        · exact h9
      have hge : 1 ≤ ((a + b - 1) / b) := by
        have hq9 := Int.lt_or_le ((a + b - 1) / b) 1
        rcases hq9 with h9 | h9
        · have hz9 : ((a + b - 1) / b) = 0 := by omega
          rw [hz9, Int.zero_mul] at ht1; omega
        · exact h9
      have e9 : simpF (N + 1) a b c d = ((((a + b - 1) / b) - 1) * (simpF N (ratF (c * 1 - (((a + b - 1) / b) - 1) * d) (d * 1)).2 (ratF (c * 1 - (((a + b - 1) / b) - 1) * d) (d * 1)).1 (ratF (a * 1 - (((a + b - 1) / b) - 1) * b) (b * 1)).2 (ratF (a * 1 - (((a + b - 1) / b) - 1) * b) (b * 1)).1).1 + (simpF N (ratF (c * 1 - (((a + b - 1) / b) - 1) * d) (d * 1)).2 (ratF (c * 1 - (((a + b - 1) / b) - 1) * d) (d * 1)).1 (ratF (a * 1 - (((a + b - 1) / b) - 1) * b) (b * 1)).2 (ratF (a * 1 - (((a + b - 1) / b) - 1) * b) (b * 1)).1).2, (simpF N (ratF (c * 1 - (((a + b - 1) / b) - 1) * d) (d * 1)).2 (ratF (c * 1 - (((a + b - 1) / b) - 1) * d) (d * 1)).1 (ratF (a * 1 - (((a + b - 1) / b) - 1) * b) (b * 1)).2 (ratF (a * 1 - (((a + b - 1) / b) - 1) * b) (b * 1)).1).1) := if_neg ht1
      rw [e9] at hS hS2; simp only at hS2
      have hb9 := (simp_is N _ _ _ _ (show 0 ≤ (ratF (c * 1 - (((a + b - 1) / b) - 1) * d) (d * 1)).2 by omega) hr1 hs1 hR.ord (by omega)).bd (by omega) hr1 hs1 hR.ord
      have hm9 : 0 ≤ d * 1 ∧ d * 1 = d ∧ b * 1 = b ∧ c * 1 = c ∧ a * 1 = a := by omega
      refine runS hA 13 [.b false, .v (.int .i64 ((((a + b) - 1) / b) - 1)), .k 3, .k 3] xn (oc (dec_f ht1) (oc (show Value.int .i64 (IntKind.i64.wrap ((((a + b) - 1) / b) - 1)) = .int .i64 ((((a + b) - 1) / b) - 1) from wrp (by first | omega | exact pb1 (by omega) (by omega) | exact pb2 (by omega) (by omega) (by omega))) on)) (by kernel_rfl) fun w2 hA => ?_
      refine draw hA [true, true, true, true] [0, 1, 2, 3, 4, 5, 6, 7, 8, 9, 10] (by kernel_rfl) (by kernel_rfl) fun hA => ?_
      refine runS hA 4 [.t 0, .k 1, .k 1, .t 1, .k 3, .k 3, .t 4, .k 0, .k 0, .t 5, .k 3, .k 3] xn on (by kernel_rfl) fun w3 hA => ?_
      have hA0D2 := hA
      refine latK hA0D2 [2, 3, 6, 7, 8, 9, 10] (γ := Nat) (fun bD29 => [(4, .pointer (some ⟨w.heap.size + 2, 0, none⟩)), (6, .pointer (some ⟨w.heap.size + 3, 0, none⟩)), (7, .pointer (some ⟨bD29, 0, none⟩))]) (fun bD29 => [⟨w.heap.size, .cells #[.int .i64 a, .int .i64 b] 23 (0, 0)⟩, ⟨w.heap.size + 1, .cells #[.int .i64 c, .int .i64 d] 23 (0, 0)⟩, ⟨w.heap.size + 2, .cells #[.int .i64 0, .int .i64 0] 23 (0, 0)⟩, ⟨w.heap.size + 3, .cells #[.int .i64 ((((a + b) - 1) / b) - 1), .int .i64 1] 23 (0, 0)⟩, ⟨bD29, .cells #[.int .i64 ((simpF N (ratF (c * 1 - (((a + b - 1) / b) - 1) * d) (d * 1)).2 (ratF (c * 1 - (((a + b - 1) / b) - 1) * d) (d * 1)).1 (ratF (a * 1 - (((a + b - 1) / b) - 1) * b) (b * 1)).2 (ratF (a * 1 - (((a + b - 1) / b) - 1) * b) (b * 1)).1).1), .int .i64 ((simpF N (ratF (c * 1 - (((a + b - 1) / b) - 1) * d) (d * 1)).2 (ratF (c * 1 - (((a + b - 1) / b) - 1) * d) (d * 1)).1 (ratF (a * 1 - (((a + b - 1) / b) - 1) * b) (b * 1)).2 (ratF (a * 1 - (((a + b - 1) / b) - 1) * b) (b * 1)).1).2)] 23 (0, 0)⟩]) (fun bD29 => []) (fun bD29 _ => True) (fun hD22_3_6_7_8_9_10 => ?_) ?_
      ·
        refine latS hA0D2 [2, 3, 6, 7, 8, 9] (γ := Nat) (fun bD29 => [(2, .pointer (some ⟨w.heap.size, 0, none⟩)), (3, .pointer (some ⟨w.heap.size + 1, 0, none⟩)), (4, .pointer (some ⟨w.heap.size + 2, 0, none⟩)), (6, .pointer (some ⟨w.heap.size + 3, 0, none⟩)), (7, .pointer (some ⟨bD29, 0, none⟩)), (29, .agg #[.int .i64 c, .int .i64 d]), (30, .agg #[.int .i64 ((((a + b) - 1) / b) - 1), .int .i64 1]), (31, .agg #[.int .i64 ((ratF (c * 1 - ((((a + b) - 1) / b) - 1) * d) (d * 1)).1), .int .i64 ((ratF (c * 1 - ((((a + b) - 1) / b) - 1) * d) (d * 1)).2)]), (32, .agg #[.int .i64 ((ratF (c * 1 - ((((a + b) - 1) / b) - 1) * d) (d * 1)).2), .int .i64 ((ratF (c * 1 - ((((a + b) - 1) / b) - 1) * d) (d * 1)).1)]), (33, .agg #[.int .i64 a, .int .i64 b]), (34, .agg #[.int .i64 ((((a + b) - 1) / b) - 1), .int .i64 1]), (35, .agg #[.int .i64 ((ratF (a * 1 - ((((a + b) - 1) / b) - 1) * b) (b * 1)).1), .int .i64 ((ratF (a * 1 - ((((a + b) - 1) / b) - 1) * b) (b * 1)).2)]), (36, .agg #[.int .i64 ((ratF (a * 1 - ((((a + b) - 1) / b) - 1) * b) (b * 1)).2), .int .i64 ((ratF (a * 1 - ((((a + b) - 1) / b) - 1) * b) (b * 1)).1)]), (37, .agg #[.int .i64 ((simpF N (ratF (c * 1 - (((a + b - 1) / b) - 1) * d) (d * 1)).2 (ratF (c * 1 - (((a + b - 1) / b) - 1) * d) (d * 1)).1 (ratF (a * 1 - (((a + b - 1) / b) - 1) * b) (b * 1)).2 (ratF (a * 1 - (((a + b - 1) / b) - 1) * b) (b * 1)).1).1), .int .i64 ((simpF N (ratF (c * 1 - (((a + b - 1) / b) - 1) * d) (d * 1)).2 (ratF (c * 1 - (((a + b - 1) / b) - 1) * d) (d * 1)).1 (ratF (a * 1 - (((a + b - 1) / b) - 1) * b) (b * 1)).2 (ratF (a * 1 - (((a + b - 1) / b) - 1) * b) (b * 1)).1).2)])]) (fun bD29 => [⟨w.heap.size, .cells #[.int .i64 a, .int .i64 b] 23 (0, 0)⟩, ⟨w.heap.size + 1, .cells #[.int .i64 c, .int .i64 d] 23 (0, 0)⟩, ⟨w.heap.size + 2, .cells #[.int .i64 0, .int .i64 0] 23 (0, 0)⟩, ⟨w.heap.size + 3, .cells #[.int .i64 ((((a + b) - 1) / b) - 1), .int .i64 1] 23 (0, 0)⟩, ⟨bD29, .cells #[.int .i64 0, .int .i64 0] 23 (0, 0)⟩]) (fun bD29 => []) (fun bD29 _ => True) ?_ (fun hD22_3_6_7_8_9 => ?_)
        · rintro bD29 wl4 _ hA
          refine runS hA 1 [.h 10, .k 4, .k 4] xn on (by kernel_rfl) fun w105 hA => ?_
          exact joinE hD22_3_6_7_8_9_10 bD29 trivial [0, 1, 2, 3, 4] hA rfl (by kernel_rfl) (by decide)
        refine latS hA0D2 [2, 3, 6, 7, 9] (γ := Nat) (fun bD29 => [(2, .pointer (some ⟨w.heap.size, 0, none⟩)), (3, .pointer (some ⟨w.heap.size + 1, 0, none⟩)), (4, .pointer (some ⟨w.heap.size + 2, 0, none⟩)), (6, .pointer (some ⟨w.heap.size + 3, 0, none⟩)), (7, .pointer (some ⟨bD29, 0, none⟩)), (29, .agg #[.int .i64 c, .int .i64 d]), (30, .agg #[.int .i64 ((((a + b) - 1) / b) - 1), .int .i64 1]), (31, .agg #[.int .i64 ((ratF (c * 1 - ((((a + b) - 1) / b) - 1) * d) (d * 1)).1), .int .i64 ((ratF (c * 1 - ((((a + b) - 1) / b) - 1) * d) (d * 1)).2)]), (32, .agg #[.int .i64 ((ratF (c * 1 - ((((a + b) - 1) / b) - 1) * d) (d * 1)).2), .int .i64 ((ratF (c * 1 - ((((a + b) - 1) / b) - 1) * d) (d * 1)).1)]), (33, .agg #[.int .i64 a, .int .i64 b]), (34, .agg #[.int .i64 ((((a + b) - 1) / b) - 1), .int .i64 1]), (35, .agg #[.int .i64 ((ratF (a * 1 - ((((a + b) - 1) / b) - 1) * b) (b * 1)).1), .int .i64 ((ratF (a * 1 - ((((a + b) - 1) / b) - 1) * b) (b * 1)).2)]), (36, .agg #[.int .i64 ((ratF (a * 1 - ((((a + b) - 1) / b) - 1) * b) (b * 1)).2), .int .i64 ((ratF (a * 1 - ((((a + b) - 1) / b) - 1) * b) (b * 1)).1)])]) (fun bD29 => [⟨w.heap.size, .cells #[.int .i64 a, .int .i64 b] 23 (0, 0)⟩, ⟨w.heap.size + 1, .cells #[.int .i64 c, .int .i64 d] 23 (0, 0)⟩, ⟨w.heap.size + 2, .cells #[.int .i64 0, .int .i64 0] 23 (0, 0)⟩, ⟨w.heap.size + 3, .cells #[.int .i64 ((((a + b) - 1) / b) - 1), .int .i64 1] 23 (0, 0)⟩, ⟨bD29, .cells #[.int .i64 0, .int .i64 0] 23 (0, 0)⟩]) (fun bD29 => []) (fun bD29 _ => True) ?_ (fun hD22_3_6_7_9 => ?_)
        · rintro bD29 wl5 _ hA
          refine callB hA [] on (ih wl5 (ratF (c * 1 - (((a + b - 1) / b) - 1) * d) (d * 1)).2 (ratF (c * 1 - (((a + b - 1) / b) - 1) * d) (d * 1)).1 (ratF (a * 1 - (((a + b - 1) / b) - 1) * b) (b * 1)).2 (ratF (a * 1 - (((a + b - 1) / b) - 1) * b) (b * 1)).1 (by omega) (by omega) (by omega) (by omega) hR.ord (by omega)) (by kernel_rfl) fun w106 hb106 hA => ?_
          exact joinE hD22_3_6_7_8_9 bD29 trivial [0, 1, 2, 3, 4] hA rfl (by kernel_rfl) (by decide)
        refine latS hA0D2 [2, 3, 6, 7, 8] (γ := Unit) (fun _ => [(2, .pointer (some ⟨w.heap.size, 0, none⟩)), (3, .pointer (some ⟨w.heap.size + 1, 0, none⟩)), (4, .pointer (some ⟨w.heap.size + 2, 0, none⟩)), (6, .pointer (some ⟨w.heap.size + 3, 0, none⟩)), (29, .agg #[.int .i64 c, .int .i64 d]), (30, .agg #[.int .i64 ((((a + b) - 1) / b) - 1), .int .i64 1]), (31, .agg #[.int .i64 ((ratF (c * 1 - ((((a + b) - 1) / b) - 1) * d) (d * 1)).1), .int .i64 ((ratF (c * 1 - ((((a + b) - 1) / b) - 1) * d) (d * 1)).2)]), (32, .agg #[.int .i64 ((ratF (c * 1 - ((((a + b) - 1) / b) - 1) * d) (d * 1)).2), .int .i64 ((ratF (c * 1 - ((((a + b) - 1) / b) - 1) * d) (d * 1)).1)]), (33, .agg #[.int .i64 a, .int .i64 b]), (34, .agg #[.int .i64 ((((a + b) - 1) / b) - 1), .int .i64 1]), (35, .agg #[.int .i64 ((ratF (a * 1 - ((((a + b) - 1) / b) - 1) * b) (b * 1)).1), .int .i64 ((ratF (a * 1 - ((((a + b) - 1) / b) - 1) * b) (b * 1)).2)]), (36, .agg #[.int .i64 ((ratF (a * 1 - ((((a + b) - 1) / b) - 1) * b) (b * 1)).2), .int .i64 ((ratF (a * 1 - ((((a + b) - 1) / b) - 1) * b) (b * 1)).1)]), (37, .agg #[.int .i64 ((simpF N (ratF (c * 1 - (((a + b - 1) / b) - 1) * d) (d * 1)).2 (ratF (c * 1 - (((a + b - 1) / b) - 1) * d) (d * 1)).1 (ratF (a * 1 - (((a + b - 1) / b) - 1) * b) (b * 1)).2 (ratF (a * 1 - (((a + b - 1) / b) - 1) * b) (b * 1)).1).1), .int .i64 ((simpF N (ratF (c * 1 - (((a + b - 1) / b) - 1) * d) (d * 1)).2 (ratF (c * 1 - (((a + b - 1) / b) - 1) * d) (d * 1)).1 (ratF (a * 1 - (((a + b - 1) / b) - 1) * b) (b * 1)).2 (ratF (a * 1 - (((a + b - 1) / b) - 1) * b) (b * 1)).1).2)])]) (fun _ => [⟨w.heap.size, .cells #[.int .i64 a, .int .i64 b] 23 (0, 0)⟩, ⟨w.heap.size + 1, .cells #[.int .i64 c, .int .i64 d] 23 (0, 0)⟩, ⟨w.heap.size + 2, .cells #[.int .i64 0, .int .i64 0] 23 (0, 0)⟩, ⟨w.heap.size + 3, .cells #[.int .i64 ((((a + b) - 1) / b) - 1), .int .i64 1] 23 (0, 0)⟩]) (fun _ => []) (fun _ _ => True) ?_ (fun hD22_3_6_7_8 => ?_)
        · rintro _ wl6 _ hA
          refine runS hA 1 [.h 9] xn on (by kernel_rfl) fun w107 hA => ?_
          exact joinE hD22_3_6_7_8_9 wl6.heap.size trivial [0, 1, 2, 3, 4] hA rfl (by kernel_rfl) (by decide)
        refine latS hA0D2 [2, 3, 6, 9] (γ := Nat) (fun bD29 => [(2, .pointer (some ⟨w.heap.size, 0, none⟩)), (3, .pointer (some ⟨w.heap.size + 1, 0, none⟩)), (4, .pointer (some ⟨w.heap.size + 2, 0, none⟩)), (6, .pointer (some ⟨w.heap.size + 3, 0, none⟩)), (7, .pointer (some ⟨bD29, 0, none⟩)), (29, .agg #[.int .i64 c, .int .i64 d]), (30, .agg #[.int .i64 ((((a + b) - 1) / b) - 1), .int .i64 1]), (31, .agg #[.int .i64 ((ratF (c * 1 - ((((a + b) - 1) / b) - 1) * d) (d * 1)).1), .int .i64 ((ratF (c * 1 - ((((a + b) - 1) / b) - 1) * d) (d * 1)).2)]), (32, .agg #[.int .i64 ((ratF (c * 1 - ((((a + b) - 1) / b) - 1) * d) (d * 1)).2), .int .i64 ((ratF (c * 1 - ((((a + b) - 1) / b) - 1) * d) (d * 1)).1)]), (33, .agg #[.int .i64 a, .int .i64 b]), (34, .agg #[.int .i64 ((((a + b) - 1) / b) - 1), .int .i64 1]), (35, .agg #[.int .i64 ((ratF (a * 1 - ((((a + b) - 1) / b) - 1) * b) (b * 1)).1), .int .i64 ((ratF (a * 1 - ((((a + b) - 1) / b) - 1) * b) (b * 1)).2)])]) (fun bD29 => [⟨w.heap.size, .cells #[.int .i64 a, .int .i64 b] 23 (0, 0)⟩, ⟨w.heap.size + 1, .cells #[.int .i64 c, .int .i64 d] 23 (0, 0)⟩, ⟨w.heap.size + 2, .cells #[.int .i64 0, .int .i64 0] 23 (0, 0)⟩, ⟨w.heap.size + 3, .cells #[.int .i64 ((((a + b) - 1) / b) - 1), .int .i64 1] 23 (0, 0)⟩, ⟨bD29, .cells #[.int .i64 0, .int .i64 0] 23 (0, 0)⟩]) (fun bD29 => []) (fun bD29 _ => True) ?_ (fun hD22_3_6_9 => ?_)
        · rintro bD29 wl7 _ hA
          refine callB hA [] on (reciprocal_any wl7 ((ratF (a * 1 - ((((a + b) - 1) / b) - 1) * b) (b * 1)).1) ((ratF (a * 1 - ((((a + b) - 1) / b) - 1) * b) (b * 1)).2) ) (by kernel_rfl) fun w108 hb108 hA => ?_
          exact joinE hD22_3_6_7_9 bD29 trivial [0, 1, 2, 3, 4] hA rfl (by kernel_rfl) (by decide)
        refine latS hA0D2 [2, 3, 6, 7] (γ := Unit) (fun _ => [(2, .pointer (some ⟨w.heap.size, 0, none⟩)), (3, .pointer (some ⟨w.heap.size + 1, 0, none⟩)), (4, .pointer (some ⟨w.heap.size + 2, 0, none⟩)), (6, .pointer (some ⟨w.heap.size + 3, 0, none⟩)), (29, .agg #[.int .i64 c, .int .i64 d]), (30, .agg #[.int .i64 ((((a + b) - 1) / b) - 1), .int .i64 1]), (31, .agg #[.int .i64 ((ratF (c * 1 - ((((a + b) - 1) / b) - 1) * d) (d * 1)).1), .int .i64 ((ratF (c * 1 - ((((a + b) - 1) / b) - 1) * d) (d * 1)).2)]), (32, .agg #[.int .i64 ((ratF (c * 1 - ((((a + b) - 1) / b) - 1) * d) (d * 1)).2), .int .i64 ((ratF (c * 1 - ((((a + b) - 1) / b) - 1) * d) (d * 1)).1)]), (33, .agg #[.int .i64 a, .int .i64 b]), (34, .agg #[.int .i64 ((((a + b) - 1) / b) - 1), .int .i64 1]), (35, .agg #[.int .i64 ((ratF (a * 1 - ((((a + b) - 1) / b) - 1) * b) (b * 1)).1), .int .i64 ((ratF (a * 1 - ((((a + b) - 1) / b) - 1) * b) (b * 1)).2)]), (36, .agg #[.int .i64 ((ratF (a * 1 - ((((a + b) - 1) / b) - 1) * b) (b * 1)).2), .int .i64 ((ratF (a * 1 - ((((a + b) - 1) / b) - 1) * b) (b * 1)).1)])]) (fun _ => [⟨w.heap.size, .cells #[.int .i64 a, .int .i64 b] 23 (0, 0)⟩, ⟨w.heap.size + 1, .cells #[.int .i64 c, .int .i64 d] 23 (0, 0)⟩, ⟨w.heap.size + 2, .cells #[.int .i64 0, .int .i64 0] 23 (0, 0)⟩, ⟨w.heap.size + 3, .cells #[.int .i64 ((((a + b) - 1) / b) - 1), .int .i64 1] 23 (0, 0)⟩]) (fun _ => []) (fun _ _ => True) ?_ (fun hD22_3_6_7 => ?_)
        · rintro _ wl8 _ hA
          refine manyS hA 8 [9] (by kernel_rfl) ⟨fun hA => ?_, fun hA => ?_, trivial⟩
          ·
            refine callB hA [] on (ih wl8 (ratF (c * 1 - (((a + b - 1) / b) - 1) * d) (d * 1)).2 (ratF (c * 1 - (((a + b - 1) / b) - 1) * d) (d * 1)).1 (ratF (a * 1 - (((a + b - 1) / b) - 1) * b) (b * 1)).2 (ratF (a * 1 - (((a + b - 1) / b) - 1) * b) (b * 1)).1 (by omega) (by omega) (by omega) (by omega) hR.ord (by omega)) (by kernel_rfl) fun w109 hb109 hA => ?_
            exact joinE hD22_3_6_7_8 () trivial [0, 1, 2, 3] hA rfl (by kernel_rfl) (by decide)
          ·
            refine runS hA 1 [] xn on (by kernel_rfl) fun w109 hA => ?_
            exact joinE hD22_3_6_7_9 wl8.heap.size trivial [0, 1, 2, 3, 4] hA rfl (by kernel_rfl) (by decide)
        refine latS hA0D2 [2, 3, 9] (γ := Nat) (fun bD29 => [(2, .pointer (some ⟨w.heap.size, 0, none⟩)), (3, .pointer (some ⟨w.heap.size + 1, 0, none⟩)), (4, .pointer (some ⟨w.heap.size + 2, 0, none⟩)), (6, .pointer (some ⟨w.heap.size + 3, 0, none⟩)), (7, .pointer (some ⟨bD29, 0, none⟩)), (29, .agg #[.int .i64 c, .int .i64 d]), (30, .agg #[.int .i64 ((((a + b) - 1) / b) - 1), .int .i64 1]), (31, .agg #[.int .i64 ((ratF (c * 1 - ((((a + b) - 1) / b) - 1) * d) (d * 1)).1), .int .i64 ((ratF (c * 1 - ((((a + b) - 1) / b) - 1) * d) (d * 1)).2)]), (32, .agg #[.int .i64 ((ratF (c * 1 - ((((a + b) - 1) / b) - 1) * d) (d * 1)).2), .int .i64 ((ratF (c * 1 - ((((a + b) - 1) / b) - 1) * d) (d * 1)).1)]), (33, .agg #[.int .i64 a, .int .i64 b]), (34, .agg #[.int .i64 ((((a + b) - 1) / b) - 1), .int .i64 1])]) (fun bD29 => [⟨w.heap.size, .cells #[.int .i64 a, .int .i64 b] 23 (0, 0)⟩, ⟨w.heap.size + 1, .cells #[.int .i64 c, .int .i64 d] 23 (0, 0)⟩, ⟨w.heap.size + 2, .cells #[.int .i64 0, .int .i64 0] 23 (0, 0)⟩, ⟨w.heap.size + 3, .cells #[.int .i64 ((((a + b) - 1) / b) - 1), .int .i64 1] 23 (0, 0)⟩, ⟨bD29, .cells #[.int .i64 0, .int .i64 0] 23 (0, 0)⟩]) (fun bD29 => []) (fun bD29 _ => True) ?_ (fun hD22_3_9 => ?_)
        · rintro bD29 wl9 _ hA
          refine callB hA [] on (minus_any wl9 a b ((((a + b) - 1) / b) - 1) 1 ((by first | omega | exact pc1 (by omega) (by omega))) ((by first | omega | exact pc1 (by omega) (by omega))) ((by first | (rw [Int.sub_mul]; omega) | omega | exact pc3 (by omega) (by omega) (by omega) (by omega))) ((by omega))) (by kernel_rfl) fun w110 hb110 hA => ?_
          exact joinE hD22_3_6_9 bD29 trivial [0, 1, 2, 3, 4] hA rfl (by kernel_rfl) (by decide)
        refine latS hA0D2 [2, 3, 6] (γ := Unit) (fun _ => [(2, .pointer (some ⟨w.heap.size, 0, none⟩)), (3, .pointer (some ⟨w.heap.size + 1, 0, none⟩)), (4, .pointer (some ⟨w.heap.size + 2, 0, none⟩)), (6, .pointer (some ⟨w.heap.size + 3, 0, none⟩)), (29, .agg #[.int .i64 c, .int .i64 d]), (30, .agg #[.int .i64 ((((a + b) - 1) / b) - 1), .int .i64 1]), (31, .agg #[.int .i64 ((ratF (c * 1 - ((((a + b) - 1) / b) - 1) * d) (d * 1)).1), .int .i64 ((ratF (c * 1 - ((((a + b) - 1) / b) - 1) * d) (d * 1)).2)]), (32, .agg #[.int .i64 ((ratF (c * 1 - ((((a + b) - 1) / b) - 1) * d) (d * 1)).2), .int .i64 ((ratF (c * 1 - ((((a + b) - 1) / b) - 1) * d) (d * 1)).1)]), (33, .agg #[.int .i64 a, .int .i64 b]), (34, .agg #[.int .i64 ((((a + b) - 1) / b) - 1), .int .i64 1]), (35, .agg #[.int .i64 ((ratF (a * 1 - ((((a + b) - 1) / b) - 1) * b) (b * 1)).1), .int .i64 ((ratF (a * 1 - ((((a + b) - 1) / b) - 1) * b) (b * 1)).2)])]) (fun _ => [⟨w.heap.size, .cells #[.int .i64 a, .int .i64 b] 23 (0, 0)⟩, ⟨w.heap.size + 1, .cells #[.int .i64 c, .int .i64 d] 23 (0, 0)⟩, ⟨w.heap.size + 2, .cells #[.int .i64 0, .int .i64 0] 23 (0, 0)⟩, ⟨w.heap.size + 3, .cells #[.int .i64 ((((a + b) - 1) / b) - 1), .int .i64 1] 23 (0, 0)⟩]) (fun _ => []) (fun _ _ => True) ?_ (fun hD22_3_6 => ?_)
        · rintro _ wl10 _ hA
          refine manyS hA 7 [9] (by kernel_rfl) ⟨fun hA => ?_, fun hA => ?_, trivial⟩
          ·
            refine callB hA [] on (reciprocal_any wl10 ((ratF (a * 1 - ((((a + b) - 1) / b) - 1) * b) (b * 1)).1) ((ratF (a * 1 - ((((a + b) - 1) / b) - 1) * b) (b * 1)).2) ) (by kernel_rfl) fun w111 hb111 hA => ?_
            exact joinE hD22_3_6_7 () trivial [0, 1, 2, 3] hA rfl (by kernel_rfl) (by decide)
          ·
            refine runS hA 1 [] xn on (by kernel_rfl) fun w111 hA => ?_
            exact joinE hD22_3_6_9 wl10.heap.size trivial [0, 1, 2, 3, 4] hA rfl (by kernel_rfl) (by decide)
        refine latS hA0D2 [2, 9] (γ := Nat) (fun bD29 => [(2, .pointer (some ⟨w.heap.size, 0, none⟩)), (3, .pointer (some ⟨w.heap.size + 1, 0, none⟩)), (4, .pointer (some ⟨w.heap.size + 2, 0, none⟩)), (6, .pointer (some ⟨w.heap.size + 3, 0, none⟩)), (7, .pointer (some ⟨bD29, 0, none⟩)), (29, .agg #[.int .i64 c, .int .i64 d]), (30, .agg #[.int .i64 ((((a + b) - 1) / b) - 1), .int .i64 1]), (31, .agg #[.int .i64 ((ratF (c * 1 - ((((a + b) - 1) / b) - 1) * d) (d * 1)).1), .int .i64 ((ratF (c * 1 - ((((a + b) - 1) / b) - 1) * d) (d * 1)).2)]), (33, .agg #[.int .i64 a, .int .i64 b]), (34, .agg #[.int .i64 ((((a + b) - 1) / b) - 1), .int .i64 1])]) (fun bD29 => [⟨w.heap.size, .cells #[.int .i64 a, .int .i64 b] 23 (0, 0)⟩, ⟨w.heap.size + 1, .cells #[.int .i64 c, .int .i64 d] 23 (0, 0)⟩, ⟨w.heap.size + 2, .cells #[.int .i64 0, .int .i64 0] 23 (0, 0)⟩, ⟨w.heap.size + 3, .cells #[.int .i64 ((((a + b) - 1) / b) - 1), .int .i64 1] 23 (0, 0)⟩, ⟨bD29, .cells #[.int .i64 0, .int .i64 0] 23 (0, 0)⟩]) (fun bD29 => []) (fun bD29 _ => True) ?_ (fun hD22_9 => ?_)
        · rintro bD29 wl11 _ hA
          refine callB hA [] on (reciprocal_any wl11 ((ratF (c * 1 - ((((a + b) - 1) / b) - 1) * d) (d * 1)).1) ((ratF (c * 1 - ((((a + b) - 1) / b) - 1) * d) (d * 1)).2) ) (by kernel_rfl) fun w112 hb112 hA => ?_
          exact joinE hD22_3_9 bD29 trivial [0, 1, 2, 3, 4] hA rfl (by kernel_rfl) (by decide)
        refine latS hA0D2 [2, 3] (γ := Unit) (fun _ => [(2, .pointer (some ⟨w.heap.size, 0, none⟩)), (3, .pointer (some ⟨w.heap.size + 1, 0, none⟩)), (4, .pointer (some ⟨w.heap.size + 2, 0, none⟩)), (6, .pointer (some ⟨w.heap.size + 3, 0, none⟩)), (29, .agg #[.int .i64 c, .int .i64 d]), (30, .agg #[.int .i64 ((((a + b) - 1) / b) - 1), .int .i64 1]), (31, .agg #[.int .i64 ((ratF (c * 1 - ((((a + b) - 1) / b) - 1) * d) (d * 1)).1), .int .i64 ((ratF (c * 1 - ((((a + b) - 1) / b) - 1) * d) (d * 1)).2)]), (32, .agg #[.int .i64 ((ratF (c * 1 - ((((a + b) - 1) / b) - 1) * d) (d * 1)).2), .int .i64 ((ratF (c * 1 - ((((a + b) - 1) / b) - 1) * d) (d * 1)).1)]), (33, .agg #[.int .i64 a, .int .i64 b]), (34, .agg #[.int .i64 ((((a + b) - 1) / b) - 1), .int .i64 1])]) (fun _ => [⟨w.heap.size, .cells #[.int .i64 a, .int .i64 b] 23 (0, 0)⟩, ⟨w.heap.size + 1, .cells #[.int .i64 c, .int .i64 d] 23 (0, 0)⟩, ⟨w.heap.size + 2, .cells #[.int .i64 0, .int .i64 0] 23 (0, 0)⟩, ⟨w.heap.size + 3, .cells #[.int .i64 ((((a + b) - 1) / b) - 1), .int .i64 1] 23 (0, 0)⟩]) (fun _ => []) (fun _ _ => True) ?_ (fun hD22_3 => ?_)
        · rintro _ wl12 _ hA
          refine manyS hA 6 [9] (by kernel_rfl) ⟨fun hA => ?_, fun hA => ?_, trivial⟩
          ·
            refine callB hA [] on (minus_any wl12 a b ((((a + b) - 1) / b) - 1) 1 ((by first | omega | exact pc1 (by omega) (by omega))) ((by first | omega | exact pc1 (by omega) (by omega))) ((by first | (rw [Int.sub_mul]; omega) | omega | exact pc3 (by omega) (by omega) (by omega) (by omega))) ((by omega))) (by kernel_rfl) fun w113 hb113 hA => ?_
            exact joinE hD22_3_6 () trivial [0, 1, 2, 3] hA rfl (by kernel_rfl) (by decide)
          ·
            refine runS hA 1 [] xn on (by kernel_rfl) fun w113 hA => ?_
            exact joinE hD22_3_9 wl12.heap.size trivial [0, 1, 2, 3, 4] hA rfl (by kernel_rfl) (by decide)
        refine latS hA0D2 [9] (γ := Nat) (fun bD29 => [(2, .pointer (some ⟨w.heap.size, 0, none⟩)), (3, .pointer (some ⟨w.heap.size + 1, 0, none⟩)), (4, .pointer (some ⟨w.heap.size + 2, 0, none⟩)), (6, .pointer (some ⟨w.heap.size + 3, 0, none⟩)), (7, .pointer (some ⟨bD29, 0, none⟩)), (29, .agg #[.int .i64 c, .int .i64 d]), (30, .agg #[.int .i64 ((((a + b) - 1) / b) - 1), .int .i64 1]), (33, .agg #[.int .i64 a, .int .i64 b]), (34, .agg #[.int .i64 ((((a + b) - 1) / b) - 1), .int .i64 1])]) (fun bD29 => [⟨w.heap.size, .cells #[.int .i64 a, .int .i64 b] 23 (0, 0)⟩, ⟨w.heap.size + 1, .cells #[.int .i64 c, .int .i64 d] 23 (0, 0)⟩, ⟨w.heap.size + 2, .cells #[.int .i64 0, .int .i64 0] 23 (0, 0)⟩, ⟨w.heap.size + 3, .cells #[.int .i64 ((((a + b) - 1) / b) - 1), .int .i64 1] 23 (0, 0)⟩, ⟨bD29, .cells #[.int .i64 0, .int .i64 0] 23 (0, 0)⟩]) (fun bD29 => []) (fun bD29 _ => True) ?_ (fun hD29 => ?_)
        · rintro bD29 wl13 _ hA
          refine callB hA [] on (minus_any wl13 c d ((((a + b) - 1) / b) - 1) 1 ((by first | omega | exact pc1 (by omega) (by omega))) ((by first | omega | exact pc1 (by omega) (by omega))) ((by first | (rw [Int.sub_mul]; omega) | omega | exact pc3 (by omega) (by omega) (by omega) (by omega))) ((by omega))) (by kernel_rfl) fun w114 hb114 hA => ?_
          exact joinE hD22_9 bD29 trivial [0, 1, 2, 3, 4] hA rfl (by kernel_rfl) (by decide)
        refine latS hA0D2 [2] (γ := Unit) (fun _ => [(2, .pointer (some ⟨w.heap.size, 0, none⟩)), (3, .pointer (some ⟨w.heap.size + 1, 0, none⟩)), (4, .pointer (some ⟨w.heap.size + 2, 0, none⟩)), (6, .pointer (some ⟨w.heap.size + 3, 0, none⟩)), (29, .agg #[.int .i64 c, .int .i64 d]), (30, .agg #[.int .i64 ((((a + b) - 1) / b) - 1), .int .i64 1]), (31, .agg #[.int .i64 ((ratF (c * 1 - ((((a + b) - 1) / b) - 1) * d) (d * 1)).1), .int .i64 ((ratF (c * 1 - ((((a + b) - 1) / b) - 1) * d) (d * 1)).2)]), (33, .agg #[.int .i64 a, .int .i64 b]), (34, .agg #[.int .i64 ((((a + b) - 1) / b) - 1), .int .i64 1])]) (fun _ => [⟨w.heap.size, .cells #[.int .i64 a, .int .i64 b] 23 (0, 0)⟩, ⟨w.heap.size + 1, .cells #[.int .i64 c, .int .i64 d] 23 (0, 0)⟩, ⟨w.heap.size + 2, .cells #[.int .i64 0, .int .i64 0] 23 (0, 0)⟩, ⟨w.heap.size + 3, .cells #[.int .i64 ((((a + b) - 1) / b) - 1), .int .i64 1] 23 (0, 0)⟩]) (fun _ => []) (fun _ _ => True) ?_ (fun hD22 => ?_)
        · rintro _ wl14 _ hA
          refine manyS hA 3 [9] (by kernel_rfl) ⟨fun hA => ?_, fun hA => ?_, trivial⟩
          ·
            refine callB hA [] on (reciprocal_any wl14 ((ratF (c * 1 - ((((a + b) - 1) / b) - 1) * d) (d * 1)).1) ((ratF (c * 1 - ((((a + b) - 1) / b) - 1) * d) (d * 1)).2) ) (by kernel_rfl) fun w115 hb115 hA => ?_
            exact joinE hD22_3 () trivial [0, 1, 2, 3] hA rfl (by kernel_rfl) (by decide)
          ·
            refine runS hA 1 [] xn on (by kernel_rfl) fun w115 hA => ?_
            exact joinE hD22_9 wl14.heap.size trivial [0, 1, 2, 3, 4] hA rfl (by kernel_rfl) (by decide)
        replace hA := hA0D2
        refine manyS hA 2 [9] (by kernel_rfl) ⟨fun hA => ?_, fun hA => ?_, trivial⟩
        ·
          refine callB hA [] on (minus_any w3 c d ((((a + b) - 1) / b) - 1) 1 ((by first | omega | exact pc1 (by omega) (by omega))) ((by first | omega | exact pc1 (by omega) (by omega))) ((by first | (rw [Int.sub_mul]; omega) | omega | exact pc3 (by omega) (by omega) (by omega) (by omega))) ((by omega))) (by kernel_rfl) fun w15 hb15 hA => ?_
          exact joinE hD22 () trivial [0, 1, 2, 3] hA rfl (by kernel_rfl) (by decide)
        ·
          refine runS hA 1 [] xn on (by kernel_rfl) fun w15 hA => ?_
          exact joinE hD29 (w.heap.size + 4) trivial [0, 1, 2, 3, 4] hA rfl (by kernel_rfl) (by decide)
      rintro bD29 w64 _ hA
      refine runS hA 19 [.b true, .k 3, .k 4, .v (.int .i64 (((((a + b) - 1) / b) - 1) * ((simpF N (ratF (c * 1 - (((a + b - 1) / b) - 1) * d) (d * 1)).2 (ratF (c * 1 - (((a + b - 1) / b) - 1) * d) (d * 1)).1 (ratF (a * 1 - (((a + b - 1) / b) - 1) * b) (b * 1)).2 (ratF (a * 1 - (((a + b - 1) / b) - 1) * b) (b * 1)).1).1))), .k 4, .v (.int .i64 ((((((a + b) - 1) / b) - 1) * ((simpF N (ratF (c * 1 - (((a + b - 1) / b) - 1) * d) (d * 1)).2 (ratF (c * 1 - (((a + b - 1) / b) - 1) * d) (d * 1)).1 (ratF (a * 1 - (((a + b - 1) / b) - 1) * b) (b * 1)).2 (ratF (a * 1 - (((a + b - 1) / b) - 1) * b) (b * 1)).1).1)) + ((simpF N (ratF (c * 1 - (((a + b - 1) / b) - 1) * d) (d * 1)).2 (ratF (c * 1 - (((a + b - 1) / b) - 1) * d) (d * 1)).1 (ratF (a * 1 - (((a + b - 1) / b) - 1) * b) (b * 1)).2 (ratF (a * 1 - (((a + b - 1) / b) - 1) * b) (b * 1)).1).2))), .k 4, .k 2, .k 2] xn (oc (show Value.int .i64 (IntKind.i64.wrap (((((a + b) - 1) / b) - 1) * ((simpF N (ratF (c * 1 - (((a + b - 1) / b) - 1) * d) (d * 1)).2 (ratF (c * 1 - (((a + b - 1) / b) - 1) * d) (d * 1)).1 (ratF (a * 1 - (((a + b - 1) / b) - 1) * b) (b * 1)).2 (ratF (a * 1 - (((a + b - 1) / b) - 1) * b) (b * 1)).1).1))) = .int .i64 (((((a + b) - 1) / b) - 1) * ((simpF N (ratF (c * 1 - (((a + b - 1) / b) - 1) * d) (d * 1)).2 (ratF (c * 1 - (((a + b - 1) / b) - 1) * d) (d * 1)).1 (ratF (a * 1 - (((a + b - 1) / b) - 1) * b) (b * 1)).2 (ratF (a * 1 - (((a + b - 1) / b) - 1) * b) (b * 1)).1).1)) from wrp (by first | omega | exact pb1 (by omega) (by omega) | exact pb2 (by omega) (by omega) (by omega))) (oc (show Value.int .i64 (IntKind.i64.wrap ((((((a + b) - 1) / b) - 1) * ((simpF N (ratF (c * 1 - (((a + b - 1) / b) - 1) * d) (d * 1)).2 (ratF (c * 1 - (((a + b - 1) / b) - 1) * d) (d * 1)).1 (ratF (a * 1 - (((a + b - 1) / b) - 1) * b) (b * 1)).2 (ratF (a * 1 - (((a + b - 1) / b) - 1) * b) (b * 1)).1).1)) + ((simpF N (ratF (c * 1 - (((a + b - 1) / b) - 1) * d) (d * 1)).2 (ratF (c * 1 - (((a + b - 1) / b) - 1) * d) (d * 1)).1 (ratF (a * 1 - (((a + b - 1) / b) - 1) * b) (b * 1)).2 (ratF (a * 1 - (((a + b - 1) / b) - 1) * b) (b * 1)).1).2))) = .int .i64 ((((((a + b) - 1) / b) - 1) * ((simpF N (ratF (c * 1 - (((a + b - 1) / b) - 1) * d) (d * 1)).2 (ratF (c * 1 - (((a + b - 1) / b) - 1) * d) (d * 1)).1 (ratF (a * 1 - (((a + b - 1) / b) - 1) * b) (b * 1)).2 (ratF (a * 1 - (((a + b - 1) / b) - 1) * b) (b * 1)).1).1)) + ((simpF N (ratF (c * 1 - (((a + b - 1) / b) - 1) * d) (d * 1)).2 (ratF (c * 1 - (((a + b - 1) / b) - 1) * d) (d * 1)).1 (ratF (a * 1 - (((a + b - 1) / b) - 1) * b) (b * 1)).2 (ratF (a * 1 - (((a + b - 1) / b) - 1) * b) (b * 1)).1).2)) from wrp (by first | omega | exact pb1 (by omega) (by omega) | exact pb2 (by omega) (by omega) (by omega))) on)) (by kernel_rfl) fun w65 hA => ?_
      exact ret (v := .agg #[.int .i64 ((((((a + b) - 1) / b) - 1) * ((simpF N (ratF (c * 1 - (((a + b - 1) / b) - 1) * d) (d * 1)).2 (ratF (c * 1 - (((a + b - 1) / b) - 1) * d) (d * 1)).1 (ratF (a * 1 - (((a + b - 1) / b) - 1) * b) (b * 1)).2 (ratF (a * 1 - (((a + b - 1) / b) - 1) * b) (b * 1)).1).1)) + ((simpF N (ratF (c * 1 - (((a + b - 1) / b) - 1) * d) (d * 1)).2 (ratF (c * 1 - (((a + b - 1) / b) - 1) * d) (d * 1)).1 (ratF (a * 1 - (((a + b - 1) / b) - 1) * b) (b * 1)).2 (ratF (a * 1 - (((a + b - 1) / b) - 1) * b) (b * 1)).1).2)), .int .i64 ((simpF N (ratF (c * 1 - (((a + b - 1) / b) - 1) * d) (d * 1)).2 (ratF (c * 1 - (((a + b - 1) / b) - 1) * d) (d * 1)).1 (ratF (a * 1 - (((a + b - 1) / b) - 1) * b) (b * 1)).2 (ratF (a * 1 - (((a + b - 1) / b) - 1) * b) (b * 1)).1).1)]) hA [.k 2, .k 2] (by kernel_rfl) ⟨by rw [e9], hA.below⟩
def simpE (a b c d : Int) : Int := if isFracF a b = true ∧ isFracF c d = true ∧ ¬ c * b < a * d then 0 else 3
def simpA (a b c d : Int) : Rt := if simpE a b c d = 0 then simpF (b + d).toNat a b c d else (0, 0)
theorem simpE_ok {a b c d : Int} : simpE a b c d = 0 ↔ (((1 ≤ b ∧ b ≤ 1000000) ∧ 0 ≤ a ∧ a ≤ 1000 * b) ∧ ((1 ≤ d ∧ d ≤ 1000000) ∧ 0 ≤ c ∧ c ≤ 1000 * d) ∧ a * d ≤ c * b) := by
  unfold simpE
  rw [← frac_iff, ← frac_iff, ← Int.not_lt]
  by_cases h : isFracF a b = true ∧ isFracF c d = true ∧ ¬ c * b < a * d
  · rw [if_pos h]; exact ⟨fun _ => h, fun _ => rfl⟩
  · rw [if_neg h]; exact ⟨fun h9 => absurd h9 (by decide), fun h9 => absurd h9 h⟩
theorem simpE_or (a b c d : Int) : simpE a b c d = 0 ∨ simpE a b c d = 3 := by
  unfold simpE
  split <;> simp
set_option maxRecDepth 20000 in
theorem Simplest_any (w : World) (a b c d : Int) :
    Calls Try.prog 23 #[.agg #[.int .i64 a, .int .i64 b], .agg #[.int .i64 c, .int .i64 d]] w fun e w' => e = .returned (.tuple #[.agg #[.int .i64 ((simpA a b c d).1), .int .i64 ((simpA a b c d).2)], .int .i64 (simpE a b c d)]) ∧ Below w.heap.size w w' := by
  refine enter 23 Try.func23 (by kernel_rfl) fun hA => ?_
  refine runS hA 12 [.k 0, .k 0] xn on (by kernel_rfl) fun w1 hA => ?_
  refine callB hA [] on (isFraction_any w1 a b ) (by kernel_rfl) fun w2 hb2 hA => ?_
  refine runS hA 2 [.t 0] xn on (by kernel_rfl) fun w3 hA => ?_
  have hq9 := Bool.eq_false_or_eq_true ((isFracF a b))
  rcases hq9 with ht1 | ht1
  ·
    refine runS hA 1 [.g false, .k 1, .k 1] xn (oc (show Value.bool (!(isFracF a b)) = .bool false by rw [ht1] <;> rfl) on) (by kernel_rfl) fun w4 hA => ?_
    refine callB hA [] on (isFraction_any w4 c d ) (by kernel_rfl) fun w5 hb5 hA => ?_
    refine runS hA 3 [.g false, .t 0] xn (oc (rfl : Value.bool false = .bool false) on) (by kernel_rfl) fun w6 hA => ?_
    have hq9 := Bool.eq_false_or_eq_true ((isFracF c d))
    rcases hq9 with ht2 | ht2
    ·
      refine runS hA 2 [.g false, .k 1, .k 1, .g false, .k 0, .k 0] xn (oc (show Value.bool (!(isFracF c d)) = .bool false by rw [ht2] <;> rfl) (oc (rfl : Value.bool false = .bool false) on)) (by kernel_rfl) fun w7 hA => ?_
      refine callB hA [] on (less_any w7 c d a b ((by have h8 := frac_iff.1 ht1; have h9 := frac_iff.1 ht2; exact pc1 (by omega) (by omega))) ((by have h8 := frac_iff.1 ht1; have h9 := frac_iff.1 ht2; exact pc1 (by omega) (by omega)))) (by kernel_rfl) fun w8 hb8 hA => ?_
      refine runS hA 3 [.t 0] xn on (by kernel_rfl) fun w9 hA => ?_
      by_cases ht3 : c * b < a * d
      case pos =>
        refine runS hA 10 [.b true, .k 2, .k 2] xn (oc (dec_t ht3) on) (by kernel_rfl) fun w10 hA => ?_
        have hE : simpE a b c d = 3 := by simp [simpE, ht1, ht2, ht3]
        exact ret (v := .tuple #[.agg #[.int .i64 0, .int .i64 0], .int .i64 3]) hA [.k 2, .k 2] (by kernel_rfl) ⟨by unfold simpA; rw [hE]; rfl, hA.below⟩
      case neg =>
        refine runS hA 7 [.b false, .k 0, .k 0, .k 1, .k 1] xn (oc (dec_f ht3) on) (by kernel_rfl) fun w10 hA => ?_
        have hE : simpE a b c d = 0 := by simp [simpE, ht1, ht2, ht3]
        have hk9 := simpE_ok.1 hE
        refine callB hA [] on (simplest_any (b + d).toNat w10 a b c d (by omega) (by omega) (by omega) (by omega) hk9.2.2 (by omega)) (by kernel_rfl) fun w11 hb11 hA => ?_
        refine runS hA 5 [.k 2, .k 2] xn on (by kernel_rfl) fun w12 hA => ?_
        exact ret (v := .tuple #[.agg #[.int .i64 ((simpF (b + d).toNat a b c d).1), .int .i64 ((simpF (b + d).toNat a b c d).2)], .int .i64 0]) hA [.k 2, .k 2] (by kernel_rfl) ⟨by unfold simpA; rw [if_pos hE, hE], hA.below⟩
    ·
      refine runS hA 16 [.g true, .g true, .g true, .k 2, .k 2] xn (oc (show Value.bool (!(isFracF c d)) = .bool true by rw [ht2] <;> rfl) (oc (rfl : Value.bool true = .bool true) (oc (rfl : Value.bool true = .bool true) on))) (by kernel_rfl) fun w7 hA => ?_
      have hE : simpE a b c d = 3 := by simp [simpE, ht1, ht2]
      exact ret (v := .tuple #[.agg #[.int .i64 0, .int .i64 0], .int .i64 3]) hA [.k 2, .k 2] (by kernel_rfl) ⟨by unfold simpA; rw [hE]; rfl, hA.below⟩
  ·
    refine runS hA 21 (List.replicate 6 (.g true) ++ [.k 2, .k 2]) xn (oc (show Value.bool (!(isFracF a b)) = .bool true by rw [ht1] <;> rfl) (oc (rfl : Value.bool true = .bool true) (oc (rfl : Value.bool true = .bool true) (oc (rfl : Value.bool true = .bool true) (oc (rfl : Value.bool true = .bool true) (oc (rfl : Value.bool true = .bool true) on)))))) (by kernel_rfl) fun w4 hA => ?_
    have hE : simpE a b c d = 3 := by simp [simpE, ht1]
    exact ret (v := .tuple #[.agg #[.int .i64 0, .int .i64 0], .int .i64 3]) hA [.k 2, .k 2] (by kernel_rfl) ⟨by unfold simpA; rw [hE]; rfl, hA.below⟩
end Go.Proofs.Ytfidkgpimlpdbaa
