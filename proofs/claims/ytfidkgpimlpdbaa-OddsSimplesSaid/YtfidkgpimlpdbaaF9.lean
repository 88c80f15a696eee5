/- Parts of a proof: OK OL OM ON OO. -/
import Derived.Test.YtfidkgpimlpdbaaF8

/- odds: pools. -/
namespace Go.Proofs.Ytfidkgpimlpdbaa
open Go.RowKit Go.Shelf

def oddsF (cut stake others : Int) : Rt := ratF (max ((stake + others) * (1000 - cut) - stake * 1000) 0) (stake * 1000)
theorem odds_mul {cut s t : Int} (hc : 0 ≤ cut ∧ cut ≤ 500) (hs : 0 < s ∧ s ≤ 1000000) (ht : 0 ≤ t ∧ t ≤ 7000000) : 0 ≤ (s + t) * (1000 - cut) ∧ (s + t) * (1000 - cut) ≤ 8000000000 := by
  have h1 := Int.mul_nonneg (show 0 ≤ s + t by omega) (show 0 ≤ 1000 - cut by omega)
  have h2 := Int.mul_le_mul (show s + t ≤ 8000000 by omega) (show 1000 - cut ≤ 1000 by omega) (by omega) (by decide)
  omega
theorem odds_bd {cut s t : Int} (hc : 0 ≤ cut ∧ cut ≤ 500) (hs : 0 < s ∧ s ≤ 1000000) (ht : 0 ≤ t ∧ t ≤ 7000000) : (0 ≤ (oddsF cut s t).1 ∧ (oddsF cut s t).1 ≤ 8000000000) ∧ 0 < (oddsF cut s t).2 ∧ (oddsF cut s t).2 ≤ 1000000000 := by
  have hm := odds_mul hc hs ht
  have h1 := rat_pos (n := max ((s + t) * (1000 - cut) - s * 1000) 0) (d := s * 1000) (by omega)
  have h2 := rat_nonneg (n := max ((s + t) * (1000 - cut) - s * 1000) 0) (d := s * 1000) (by omega) (by omega)
  unfold oddsF
  omega
def poolE (xs : List Rt) (cut : Int) : Int := if ¬ (1 ≤ (xs.length : Int) ∧ (xs.length : Int) ≤ 8) then 6 else if (xs.any fun x => refusesF x.1 x.2) = true ∨ ¬ (0 ≤ cut ∧ cut ≤ 500) then 3 else 0
def runE (xs : List Rt) (cut r : Int) : Int := if poolE xs cut ≠ 0 then poolE xs cut else if 0 ≤ r ∧ r ≤ (xs.length : Int) - 1 then 0 else 2
/-- A valid pool. -/
structure ValidP (xs : List Rt) (cut : Int) : Prop where
  len : 1 ≤ (xs.length : Int) ∧ (xs.length : Int) ≤ 8
  all : ∀ x ∈ xs, 0 ≤ x.1 ∧ x.1 ≤ x.2 ∧ x.2 ≤ 1000000
  cut : 0 ≤ cut ∧ cut ≤ 500
theorem valid_p {xs : List Rt} {cut : Int} (h : poolE xs cut = 0) : ValidP xs cut := by
  unfold poolE at h
  split at h
  · cases h
  · rename_i h1
    split at h
    · cases h
    · rename_i h2
      refine ⟨by omega, fun x hx => ?_, by omega⟩
      have h3 : ¬ (xs.any fun x => refusesF x.1 x.2) = true := fun h => h2 (.inl h)
      rw [Bool.not_eq_true, List.any_eq_false] at h3
      have := h3 x hx
      simp only [refusesF, Bool.or_eq_true, Bool.not_eq_true', Bool.and_eq_false_iff, decide_eq_false_iff_not, decide_eq_true_eq] at this
      omega
theorem run_ok {xs : List Rt} {cut r : Int} (h : runE xs cut r = 0) : poolE xs cut = 0 ∧ 0 ≤ r ∧ r ≤ (xs.length : Int) - 1 := by
  unfold runE at h
  split at h
  · rename_i h1; exact absurd h h1
  · rename_i h1
    split at h
    · rename_i h2; exact ⟨by omega, h2⟩
    · cases h
def othS (f : Rt → Int) (xs : List Rt) (k : Int) : Nat → Int
  | 0 => 0
  | j + 1 => othS f xs k j + if (j : Int) = k then 0 else f (xs[j]?.getD (0, 0))
theorem oth_bd {f : Rt → Int} {xs : List Rt} {k : Int} (h : ∀ x ∈ xs, 0 ≤ f x ∧ f x ≤ 1000000) : ∀ j, j ≤ xs.length → 0 ≤ othS f xs k j ∧ othS f xs k j ≤ 1000000 * j ∧ (0 ≤ k → k < j → othS f xs k j ≤ 1000000 * (j - 1))
  | 0, _ => ⟨by simp [othS], by simp [othS], fun h0 h1 => by omega⟩
  | j + 1, hj => by
    have ih := oth_bd (k := k) h j (by omega)
    have hm := h _ (get_mem (d := (0, 0)) (show j < xs.length by omega))
    unfold othS
    by_cases e : (j : Int) = k
    · rw [if_pos e]; omega
    · rw [if_neg e]
      refine ⟨by omega, by omega, fun h0 h1 => ?_⟩
      have := ih.2.2 h0 (by omega)
      omega
set_option maxRecDepth 20000 in
theorem odds_any (w : World) (A : Option Addr) (n c : Nat) (cut s t : Int) (hc : 0 ≤ cut ∧ cut ≤ 500) (hs : 0 < s ∧ s ≤ 1000000) (ht : 0 ≤ t ∧ t ≤ 7000000) :
    Calls Try.prog 102 #[.agg #[.slice A n c, .int .i64 cut], .int .i64 s, .int .i64 t] w fun e w' => e = .returned (.agg #[.int .i64 ((oddsF cut s t).1), .int .i64 ((oddsF cut s t).2)]) ∧ Below w.heap.size w w' := by
  have hm := odds_mul hc hs ht
  refine enter 24 Try.func102 (by kernel_rfl) fun hA => ?_
  refine runS hA 28 [.v (.int .i64 (s + t)), .k 0, .v (.int .i64 (1000 - cut)), .v (.int .i64 ((s + t) * (1000 - cut))), .v (.int .i64 (s * 1000)), .v (.int .i64 (((s + t) * (1000 - cut)) - (s * 1000))), .v (.int .i64 (max (((s + t) * (1000 - cut)) - (s * 1000)) 0)), .v (.int .i64 (s * 1000))] xn (oc (show Value.int .i64 (IntKind.i64.wrap (s + t)) = .int .i64 (s + t) from wrp (by omega)) (oc (show Value.int .i64 (IntKind.i64.wrap (1000 - cut)) = .int .i64 (1000 - cut) from wrp (by omega)) (oc (show Value.int .i64 (IntKind.i64.wrap ((s + t) * (1000 - cut))) = .int .i64 ((s + t) * (1000 - cut)) from wrp (by omega)) (oc (show Value.int .i64 (IntKind.i64.wrap (s * 1000)) = .int .i64 (s * 1000) from wrp (by omega)) (oc (show Value.int .i64 (IntKind.i64.wrap (((s + t) * (1000 - cut)) - (s * 1000))) = .int .i64 (((s + t) * (1000 - cut)) - (s * 1000)) from wrp (by omega)) (oc (show Value.int .i64 (if 0 > (((s + t) * (1000 - cut)) - (s * 1000)) then 0 else ((s + t) * (1000 - cut)) - (s * 1000)) = .int .i64 (max (((s + t) * (1000 - cut)) - (s * 1000)) 0) from mxq) (oc (show Value.int .i64 (IntKind.i64.wrap (s * 1000)) = .int .i64 (s * 1000) from wrp (by omega)) on))))))) (by kernel_rfl) fun w1 hA => ?_
  refine callB hA [] on (ratio_any w1 (max (((s + t) * (1000 - cut)) - (s * 1000)) 0) (s * 1000) (by omega) (by omega)) (by kernel_rfl) fun w2 hb2 hA => ?_
  refine runS hA 4 [.k 1, .k 1] xn on (by kernel_rfl) fun w3 hA => ?_
  exact ret (v := .agg #[.int .i64 ((ratF (max (((s + t) * (1000 - cut)) - (s * 1000)) 0) (s * 1000)).1), .int .i64 ((ratF (max (((s + t) * (1000 - cut)) - (s * 1000)) 0) (s * 1000)).2)]) hA [.k 1, .k 1] (by kernel_rfl) ⟨by rfl, hA.below⟩
set_option maxRecDepth 20000 in
theorem span_any (w : World) (B : Nat) (A : Option Addr) (n c : Nat) (xs : List Rt) (cut : Int) (k : Int) (hx : RatsAt w B A n xs) (hB : B ≤ w.heap.size) (V : ValidP xs cut) (hk : 0 ≤ k ∧ k ≤ (xs.length : Int) - 1) (hp : 0 < (xs[k.toNat]?.getD (0, 0)).1) :
    Calls Try.prog 75 #[.agg #[.slice A n c, .int .i64 cut], .int .i64 k] w fun e w' => e = .returned (.tuple #[.agg #[.int .i64 ((oddsF cut (xs[k.toNat]?.getD (0, 0)).2 (othS (·.1) xs k xs.length)).1), .int .i64 ((oddsF cut (xs[k.toNat]?.getD (0, 0)).2 (othS (·.1) xs k xs.length)).2)], .agg #[.int .i64 ((oddsF cut (xs[k.toNat]?.getD (0, 0)).1 (othS (·.2) xs k xs.length)).1), .int .i64 ((oddsF cut (xs[k.toNat]?.getD (0, 0)).1 (othS (·.2) xs k xs.length)).2)]]) ∧ Below w.heap.size w w' := by
  have hl := hx.1
  have hv := V.len
  have hc := V.cut
  refine enter 53 Try.func75 (by kernel_rfl) fun hA => ?_
  refine runS hA 23 [.k 0] xn on (by kernel_rfl) fun w1 hA => ?_
  refine loop (γ := Nat) (fun i => [(1, .int .i64 k), (2, .pointer (some ⟨w.heap.size, 0, none⟩)), (4, .pointer (some ⟨w.heap.size + 1, 0, none⟩)), (5, .pointer (some ⟨w.heap.size + 2, 0, none⟩)), (6, .pointer (some ⟨w.heap.size + 3, 0, none⟩)), (12, .slice A n c), (13, .int .i64 n), (14, .int .i64 (i : Int))]) (fun i => [⟨w.heap.size, .cells #[.slice A n c, .int .i64 cut] 91 (0, 0)⟩, ⟨w.heap.size + 1, .cells #[.int .i64 0, .int .i64 0] 23 (0, 0)⟩, ⟨w.heap.size + 2, .cells #[.int .i64 0, .int .i64 0] 23 (0, 0)⟩, ⟨w.heap.size + 3, .cells #[.int .i64 (othS (·.1) xs k i), .int .i64 (othS (·.2) xs k i)] 66 (0, 0)⟩]) (fun _ => []) (fun g i wr => i ≤ n ∧ g = n - i) n 0 [true, true, true, true] hA (by kernel_rfl) (⟨by omega, rfl⟩) ?_
  rintro _ i wr ⟨hi, rfl⟩ J hJ hA
  have b1 := oth_bd (k := k) (f := (·.1)) (fun x hx => ⟨(V.all x hx).1, by have := V.all x hx; omega⟩) i (by omega)
  have b2 := oth_bd (k := k) (f := (·.2)) (fun x hx => ⟨by have := V.all x hx; omega, (V.all x hx).2.2⟩) i (by omega)
  by_cases hlt : i < n
  case pos =>
    have hq9 := hx.at hlt
    obtain ⟨b, off, rfl, hbB, hcc⟩ := hq9
    have k0 := hcc 0 _ rfl
    have k1 := hcc 1 _ rfl
    refine runS hA 28 [.b true, .i, .x (.int .i64 ((xs[i]?.getD (0, 0)).1)), .x (.int .i64 ((xs[i]?.getD (0, 0)).2)), .k 4, .k 4, .t 0] (xc (a := ⟨b, off + i * 2, none⟩) ⟨Nat.lt_of_lt_of_le hbB hB, k0⟩ (xc (a := ⟨b, off + i * 2 + 1, none⟩) ⟨Nat.lt_of_lt_of_le hbB hB, k1⟩ xn)) (oc (dec_t (show (((i : Int) : Int) < (n : Int)) by omega)) (oc (show (0 : Int) ≤ ((i : Int) : Int) ∧ ((i : Int) : Int) < (n : Int) by omega) on)) (by kernel_rfl) fun w2 hA => ?_
    have hm := V.all _ (get_mem (d := (0, 0)) (show i < xs.length by omega))
    by_cases ht1 : (i : Int) = (k : Int)
    case pos =>
      refine runS hA 8 [.b false, .v (.int .i64 ((i : Int) + 1))] xn (oc (ne_f ht1) (oc (show Value.int .i64 (IntKind.i64.wrap ((i : Int) + 1)) = .int .i64 ((i : Int) + 1) from wrp (by omega)) on)) (by kernel_rfl) fun w3 hA => ?_
      have e1 : othS (·.1) xs k (i + 1) = othS (·.1) xs k i := by show othS (·.1) xs k i + _ = _; rw [if_pos ht1]; omega
      have e2 : othS (·.2) xs k (i + 1) = othS (·.2) xs k i := by show othS (·.2) xs k i + _ = _; rw [if_pos ht1]; omega
      refine revals hA (rc 14 (show .int .i64 ((i : Int) + 1) = .int .i64 ((i + 1 : Nat) : Int) by rw [show ((i + 1 : Nat) : Int) = (i : Int) + 1 by omega]) rn) (by kernel_rfl) fun hA => ?_
      have hAk9 : At w w3 [⟨w.heap.size, .cells #[.slice (some ⟨b, off, none⟩) n c, .int .i64 cut] 91 (0, 0)⟩, ⟨w.heap.size + 1, .cells #[.int .i64 0, .int .i64 0] 23 (0, 0)⟩, ⟨w.heap.size + 2, .cells #[.int .i64 0, .int .i64 0] 23 (0, 0)⟩, ⟨w.heap.size + 3, .cells #[.int .i64 (othS (·.1) xs k (i + 1)), .int .i64 (othS (·.2) xs k (i + 1))] 66 (0, 0)⟩, ⟨wr.heap.size, .cells #[.int .i64 ((xs[i]?.getD (0, 0)).1), .int .i64 ((xs[i]?.getD (0, 0)).2)] 66 (0, 0)⟩] [] w3.heap.size := by rw [e1, e2]; exact (hA.atK [⟨w.heap.size, .cells #[.slice (some ⟨b, off, none⟩) n c, .int .i64 cut] 91 (0, 0)⟩, ⟨w.heap.size + 1, .cells #[.int .i64 0, .int .i64 0] 23 (0, 0)⟩, ⟨w.heap.size + 2, .cells #[.int .i64 0, .int .i64 0] 23 (0, 0)⟩, ⟨w.heap.size + 3, .cells #[.int .i64 (othS (·.1) xs k i), .int .i64 (othS (·.2) xs k i)] 66 (0, 0)⟩, ⟨wr.heap.size, .cells #[.int .i64 ((xs[i]?.getD (0, 0)).1), .int .i64 ((xs[i]?.getD (0, 0)).2)] 66 (0, 0)⟩] (by kernel_rfl)).resize
      refine reknow ⟨[⟨w.heap.size, .cells #[.slice (some ⟨b, off, none⟩) n c, .int .i64 cut] 91 (0, 0)⟩, ⟨w.heap.size + 1, .cells #[.int .i64 0, .int .i64 0] 23 (0, 0)⟩, ⟨w.heap.size + 2, .cells #[.int .i64 0, .int .i64 0] 23 (0, 0)⟩, ⟨w.heap.size + 3, .cells #[.int .i64 (othS (·.1) xs k (i + 1)), .int .i64 (othS (·.2) xs k (i + 1))] 66 (0, 0)⟩, ⟨wr.heap.size, .cells #[.int .i64 ((xs[i]?.getD (0, 0)).1), .int .i64 ((xs[i]?.getD (0, 0)).2)] 66 (0, 0)⟩], w3.heap.size, [], [], [], [], []⟩ hAk9 (Nat.zero_le _) fun hA => ?_
      exact again hJ (n - (i + 1)) (i + 1) [true, true, true, true, false] hA (by omega) (by kernel_rfl) ⟨by omega, rfl⟩
    case neg =>
      refine runS hA 27 [.b true, .k 3, .k 4, .v (.int .i64 ((othS (·.1) xs k i) + ((xs[i]?.getD (0, 0)).1))), .k 3, .k 3, .k 4, .v (.int .i64 ((othS (·.2) xs k i) + ((xs[i]?.getD (0, 0)).2))), .k 3, .v (.int .i64 ((i : Int) + 1))] xn (oc (ne_t ht1) (oc (show Value.int .i64 (IntKind.i64.wrap ((othS (·.1) xs k i) + ((xs[i]?.getD (0, 0)).1))) = .int .i64 ((othS (·.1) xs k i) + ((xs[i]?.getD (0, 0)).1)) from wrp (by omega)) (oc (show Value.int .i64 (IntKind.i64.wrap ((othS (·.2) xs k i) + ((xs[i]?.getD (0, 0)).2))) = .int .i64 ((othS (·.2) xs k i) + ((xs[i]?.getD (0, 0)).2)) from wrp (by omega)) (oc (show Value.int .i64 (IntKind.i64.wrap ((i : Int) + 1)) = .int .i64 ((i : Int) + 1) from wrp (by omega)) on)))) (by kernel_rfl) fun w3 hA => ?_
      have e1 : othS (·.1) xs k (i + 1) = othS (·.1) xs k i + (xs[i]?.getD (0, 0)).1 := by show othS (·.1) xs k i + _ = _; rw [if_neg ht1]
      have e2 : othS (·.2) xs k (i + 1) = othS (·.2) xs k i + (xs[i]?.getD (0, 0)).2 := by show othS (·.2) xs k i + _ = _; rw [if_neg ht1]
      refine revals hA (rc 14 (show .int .i64 ((i : Int) + 1) = .int .i64 ((i + 1 : Nat) : Int) by rw [show ((i + 1 : Nat) : Int) = (i : Int) + 1 by omega]) rn) (by kernel_rfl) fun hA => ?_
      have hAk9 : At w w3 [⟨w.heap.size, .cells #[.slice (some ⟨b, off, none⟩) n c, .int .i64 cut] 91 (0, 0)⟩, ⟨w.heap.size + 1, .cells #[.int .i64 0, .int .i64 0] 23 (0, 0)⟩, ⟨w.heap.size + 2, .cells #[.int .i64 0, .int .i64 0] 23 (0, 0)⟩, ⟨w.heap.size + 3, .cells #[.int .i64 (othS (·.1) xs k (i + 1)), .int .i64 (othS (·.2) xs k (i + 1))] 66 (0, 0)⟩, ⟨wr.heap.size, .cells #[.int .i64 ((xs[i]?.getD (0, 0)).1), .int .i64 ((xs[i]?.getD (0, 0)).2)] 66 (0, 0)⟩] [] w3.heap.size := by rw [e1, e2]; exact (hA.atK [⟨w.heap.size, .cells #[.slice (some ⟨b, off, none⟩) n c, .int .i64 cut] 91 (0, 0)⟩, ⟨w.heap.size + 1, .cells #[.int .i64 0, .int .i64 0] 23 (0, 0)⟩, ⟨w.heap.size + 2, .cells #[.int .i64 0, .int .i64 0] 23 (0, 0)⟩, ⟨w.heap.size + 3, .cells #[.int .i64 ((othS (·.1) xs k i) + ((xs[i]?.getD (0, 0)).1)), .int .i64 ((othS (·.2) xs k i) + ((xs[i]?.getD (0, 0)).2))] 66 (0, 0)⟩, ⟨wr.heap.size, .cells #[.int .i64 ((xs[i]?.getD (0, 0)).1), .int .i64 ((xs[i]?.getD (0, 0)).2)] 66 (0, 0)⟩] (by kernel_rfl)).resize
      refine reknow ⟨[⟨w.heap.size, .cells #[.slice (some ⟨b, off, none⟩) n c, .int .i64 cut] 91 (0, 0)⟩, ⟨w.heap.size + 1, .cells #[.int .i64 0, .int .i64 0] 23 (0, 0)⟩, ⟨w.heap.size + 2, .cells #[.int .i64 0, .int .i64 0] 23 (0, 0)⟩, ⟨w.heap.size + 3, .cells #[.int .i64 (othS (·.1) xs k (i + 1)), .int .i64 (othS (·.2) xs k (i + 1))] 66 (0, 0)⟩, ⟨wr.heap.size, .cells #[.int .i64 ((xs[i]?.getD (0, 0)).1), .int .i64 ((xs[i]?.getD (0, 0)).2)] 66 (0, 0)⟩], w3.heap.size, [], [], [], [], []⟩ hAk9 (Nat.zero_le _) fun hA => ?_
      exact again hJ (n - (i + 1)) (i + 1) [true, true, true, true, false] hA (by omega) (by kernel_rfl) ⟨by omega, rfl⟩
  case neg =>
    obtain rfl : i = n := by omega
    refine runS hA 9 [.b false] xn (oc (dec_f (show ¬ (((i : Int) : Int) < (i : Int)) by omega)) on) (by kernel_rfl) fun w2 hA => ?_
    refine leave hA (by kernel_rfl) fun hA => ?_
    have hq9 := hx.at (j := k.toNat) (show k.toNat < i by omega)
    obtain ⟨b, off, rfl, hbB, hcc⟩ := hq9
    have k0 := hcc 0 _ rfl
    have k1 := hcc 1 _ rfl
    have hm := V.all _ (get_mem (d := (0, 0)) (show k.toNat < xs.length by omega))
    have b3 := b1.2.2 (by omega) (by omega)
    have b4 := b2.2.2 (by omega) (by omega)
    refine runS hA 15 [.k 0, .i, .x (.int .i64 ((xs[k.toNat]?.getD (0, 0)).1)), .x (.int .i64 ((xs[k.toNat]?.getD (0, 0)).2)), .k 4, .k 4] (xc (a := ⟨b, off + k.toNat * 2, none⟩) ⟨Nat.lt_of_lt_of_le hbB hB, k0⟩ (xc (a := ⟨b, off + k.toNat * 2 + 1, none⟩) ⟨Nat.lt_of_lt_of_le hbB hB, k1⟩ xn)) (oc (show (0 : Int) ≤ (k : Int) ∧ (k : Int) < (i : Int) by omega) on) (by kernel_rfl) fun w3 hA => ?_
    refine draw hA [true, false, false, true, true] [0, 1, 2, 3, 4, 5, 6, 7, 8, 9, 10, 11, 12, 13] (by kernel_rfl) (by kernel_rfl) fun hA => ?_
    refine runS hA 10 [.t 0, .k 0, .k 0, .t 1, .t 2, .k 2, .t 3, .t 4, .k 1, .t 6, .k 0, .k 0, .t 7, .t 8, .k 2, .t 9, .t 10, .k 1] xn on (by kernel_rfl) fun w4 hA => ?_
    have hA0D2 := hA
    refine latK hA0D2 [5, 11, 12, 13] (γ := Unit) (fun _ => [(4, .pointer (some ⟨w.heap.size + 1, 0, none⟩)), (5, .pointer (some ⟨w.heap.size + 2, 0, none⟩))]) (fun _ => [⟨w.heap.size, .cells #[.slice (some ⟨b, off, none⟩) i c, .int .i64 cut] 91 (0, 0)⟩, ⟨w.heap.size + 1, .cells #[.int .i64 ((oddsF cut ((xs[k.toNat]?.getD (0, 0)).2) (othS (·.1) xs k i)).1), .int .i64 ((oddsF cut ((xs[k.toNat]?.getD (0, 0)).2) (othS (·.1) xs k i)).2)] 23 (0, 0)⟩, ⟨w.heap.size + 2, .cells #[.int .i64 ((oddsF cut ((xs[k.toNat]?.getD (0, 0)).1) (othS (·.2) xs k i)).1), .int .i64 ((oddsF cut ((xs[k.toNat]?.getD (0, 0)).1) (othS (·.2) xs k i)).2)] 23 (0, 0)⟩, ⟨w.heap.size + 3, .cells #[.int .i64 (othS (·.1) xs k i), .int .i64 (othS (·.2) xs k i)] 66 (0, 0)⟩, ⟨wr.heap.size, .cells #[.int .i64 ((xs[k.toNat]?.getD (0, 0)).1), .int .i64 ((xs[k.toNat]?.getD (0, 0)).2)] 66 (0, 0)⟩]) (fun _ => []) (fun _ _ => True) (fun hD25_11_12_13 => ?_) ?_
    ·
      refine latS hA0D2 [5, 11, 12] (γ := Unit) (fun _ => [(2, .pointer (some ⟨w.heap.size, 0, none⟩)), (4, .pointer (some ⟨w.heap.size + 1, 0, none⟩)), (5, .pointer (some ⟨w.heap.size + 2, 0, none⟩)), (6, .pointer (some ⟨w.heap.size + 3, 0, none⟩)), (9, .pointer (some ⟨wr.heap.size, 0, none⟩)), (41, .agg #[.slice (some ⟨b, off, none⟩) i c, .int .i64 cut]), (42, .pointer (some ⟨wr.heap.size, 1, none⟩)), (43, .int .i64 ((xs[k.toNat]?.getD (0, 0)).2)), (44, .pointer (some ⟨w.heap.size + 3, 0, none⟩)), (45, .int .i64 (othS (·.1) xs k i)), (46, .agg #[.int .i64 ((oddsF cut ((xs[k.toNat]?.getD (0, 0)).2) (othS (·.1) xs k i)).1), .int .i64 ((oddsF cut ((xs[k.toNat]?.getD (0, 0)).2) (othS (·.1) xs k i)).2)]), (47, .agg #[.slice (some ⟨b, off, none⟩) i c, .int .i64 cut]), (48, .pointer (some ⟨wr.heap.size, 0, none⟩)), (49, .int .i64 ((xs[k.toNat]?.getD (0, 0)).1)), (50, .pointer (some ⟨w.heap.size + 3, 1, none⟩)), (51, .int .i64 (othS (·.2) xs k i)), (52, .agg #[.int .i64 ((oddsF cut ((xs[k.toNat]?.getD (0, 0)).1) (othS (·.2) xs k i)).1), .int .i64 ((oddsF cut ((xs[k.toNat]?.getD (0, 0)).1) (othS (·.2) xs k i)).2)])]) (fun _ => [⟨w.heap.size, .cells #[.slice (some ⟨b, off, none⟩) i c, .int .i64 cut] 91 (0, 0)⟩, ⟨w.heap.size + 1, .cells #[.int .i64 ((oddsF cut ((xs[k.toNat]?.getD (0, 0)).2) (othS (·.1) xs k i)).1), .int .i64 ((oddsF cut ((xs[k.toNat]?.getD (0, 0)).2) (othS (·.1) xs k i)).2)] 23 (0, 0)⟩, ⟨w.heap.size + 2, .cells #[.int .i64 0, .int .i64 0] 23 (0, 0)⟩, ⟨w.heap.size + 3, .cells #[.int .i64 (othS (·.1) xs k i), .int .i64 (othS (·.2) xs k i)] 66 (0, 0)⟩, ⟨wr.heap.size, .cells #[.int .i64 ((xs[k.toNat]?.getD (0, 0)).1), .int .i64 ((xs[k.toNat]?.getD (0, 0)).2)] 66 (0, 0)⟩]) (fun _ => []) (fun _ _ => True) ?_ (fun hD25_11_12 => ?_)
      · rintro _ wl5 _ hA
        refine runS hA 1 [.h 13, .k 2, .k 2] xn on (by kernel_rfl) fun w106 hA => ?_
        exact joinE hD25_11_12_13 () trivial [0, 1, 2, 3, 4] hA rfl (by kernel_rfl) (by decide)
      refine latS hA0D2 [5, 11] (γ := Unit) (fun _ => [(2, .pointer (some ⟨w.heap.size, 0, none⟩)), (4, .pointer (some ⟨w.heap.size + 1, 0, none⟩)), (5, .pointer (some ⟨w.heap.size + 2, 0, none⟩)), (6, .pointer (some ⟨w.heap.size + 3, 0, none⟩)), (9, .pointer (some ⟨wr.heap.size, 0, none⟩)), (41, .agg #[.slice (some ⟨b, off, none⟩) i c, .int .i64 cut]), (42, .pointer (some ⟨wr.heap.size, 1, none⟩)), (43, .int .i64 ((xs[k.toNat]?.getD (0, 0)).2)), (44, .pointer (some ⟨w.heap.size + 3, 0, none⟩)), (45, .int .i64 (othS (·.1) xs k i)), (46, .agg #[.int .i64 ((oddsF cut ((xs[k.toNat]?.getD (0, 0)).2) (othS (·.1) xs k i)).1), .int .i64 ((oddsF cut ((xs[k.toNat]?.getD (0, 0)).2) (othS (·.1) xs k i)).2)]), (47, .agg #[.slice (some ⟨b, off, none⟩) i c, .int .i64 cut]), (48, .pointer (some ⟨wr.heap.size, 0, none⟩)), (49, .int .i64 ((xs[k.toNat]?.getD (0, 0)).1)), (50, .pointer (some ⟨w.heap.size + 3, 1, none⟩)), (51, .int .i64 (othS (·.2) xs k i)), (52, .agg #[.int .i64 ((oddsF cut ((xs[k.toNat]?.getD (0, 0)).1) (othS (·.2) xs k i)).1), .int .i64 ((oddsF cut ((xs[k.toNat]?.getD (0, 0)).1) (othS (·.2) xs k i)).2)])]) (fun _ => [⟨w.heap.size, .cells #[.slice (some ⟨b, off, none⟩) i c, .int .i64 cut] 91 (0, 0)⟩, ⟨w.heap.size + 1, .cells #[.int .i64 0, .int .i64 0] 23 (0, 0)⟩, ⟨w.heap.size + 2, .cells #[.int .i64 0, .int .i64 0] 23 (0, 0)⟩, ⟨w.heap.size + 3, .cells #[.int .i64 (othS (·.1) xs k i), .int .i64 (othS (·.2) xs k i)] 66 (0, 0)⟩, ⟨wr.heap.size, .cells #[.int .i64 ((xs[k.toNat]?.getD (0, 0)).1), .int .i64 ((xs[k.toNat]?.getD (0, 0)).2)] 66 (0, 0)⟩]) (fun _ => []) (fun _ _ => True) ?_ (fun hD25_11 => ?_)
      · rintro _ wl6 _ hA
        refine runS hA 1 [.h 12, .k 1, .k 1] xn on (by kernel_rfl) fun w107 hA => ?_
        exact joinE hD25_11_12 () trivial [0, 1, 2, 3, 4] hA rfl (by kernel_rfl) (by decide)
      refine latS hA0D2 [5] (γ := Unit) (fun _ => [(2, .pointer (some ⟨w.heap.size, 0, none⟩)), (4, .pointer (some ⟨w.heap.size + 1, 0, none⟩)), (5, .pointer (some ⟨w.heap.size + 2, 0, none⟩)), (6, .pointer (some ⟨w.heap.size + 3, 0, none⟩)), (9, .pointer (some ⟨wr.heap.size, 0, none⟩)), (41, .agg #[.slice (some ⟨b, off, none⟩) i c, .int .i64 cut]), (42, .pointer (some ⟨wr.heap.size, 1, none⟩)), (43, .int .i64 ((xs[k.toNat]?.getD (0, 0)).2)), (44, .pointer (some ⟨w.heap.size + 3, 0, none⟩)), (45, .int .i64 (othS (·.1) xs k i)), (46, .agg #[.int .i64 ((oddsF cut ((xs[k.toNat]?.getD (0, 0)).2) (othS (·.1) xs k i)).1), .int .i64 ((oddsF cut ((xs[k.toNat]?.getD (0, 0)).2) (othS (·.1) xs k i)).2)]), (47, .agg #[.slice (some ⟨b, off, none⟩) i c, .int .i64 cut]), (48, .pointer (some ⟨wr.heap.size, 0, none⟩)), (49, .int .i64 ((xs[k.toNat]?.getD (0, 0)).1)), (50, .pointer (some ⟨w.heap.size + 3, 1, none⟩)), (51, .int .i64 (othS (·.2) xs k i))]) (fun _ => [⟨w.heap.size, .cells #[.slice (some ⟨b, off, none⟩) i c, .int .i64 cut] 91 (0, 0)⟩, ⟨w.heap.size + 1, .cells #[.int .i64 0, .int .i64 0] 23 (0, 0)⟩, ⟨w.heap.size + 2, .cells #[.int .i64 0, .int .i64 0] 23 (0, 0)⟩, ⟨w.heap.size + 3, .cells #[.int .i64 (othS (·.1) xs k i), .int .i64 (othS (·.2) xs k i)] 66 (0, 0)⟩, ⟨wr.heap.size, .cells #[.int .i64 ((xs[k.toNat]?.getD (0, 0)).1), .int .i64 ((xs[k.toNat]?.getD (0, 0)).2)] 66 (0, 0)⟩]) (fun _ => []) (fun _ _ => True) ?_ (fun hD25 => ?_)
      · rintro _ wl7 _ hA
        refine callB hA [] on (odds_any wl7 (some ⟨b, off, none⟩) i c cut ((xs[k.toNat]?.getD (0, 0)).1) (othS (·.2) xs k i) (by omega) (by omega) (by omega)) (by kernel_rfl) fun w108 hb108 hA => ?_
        exact joinE hD25_11 () trivial [0, 1, 2, 3, 4] hA rfl (by kernel_rfl) (by decide)
      replace hA := hA0D2
      refine callB hA [] on (odds_any w4 (some ⟨b, off, none⟩) i c cut ((xs[k.toNat]?.getD (0, 0)).2) (othS (·.1) xs k i) (by omega) (by omega) (by omega)) (by kernel_rfl) fun w8 hb8 hA => ?_
      exact joinE hD25 () trivial [0, 1, 2, 3, 4] hA rfl (by kernel_rfl) (by decide)
    rintro _ w57 _ hA
    refine runS hA 3 [.b true] xn on (by kernel_rfl) fun w58 hA => ?_
    exact ret (v := .tuple #[.agg #[.int .i64 ((oddsF cut ((xs[k.toNat]?.getD (0, 0)).2) (othS (·.1) xs k i)).1), .int .i64 ((oddsF cut ((xs[k.toNat]?.getD (0, 0)).2) (othS (·.1) xs k i)).2)], .agg #[.int .i64 ((oddsF cut ((xs[k.toNat]?.getD (0, 0)).1) (othS (·.2) xs k i)).1), .int .i64 ((oddsF cut ((xs[k.toNat]?.getD (0, 0)).1) (othS (·.2) xs k i)).2)]]) hA [.k 1, .k 1, .k 2, .k 2] (by kernel_rfl) ⟨by rw [show xs.length = i from hx.1], hA.below⟩
def shownF (r1 r2 s : Int) : Rt := if 1000 * r2 < r1 * 1 then (1000, 1) else ((nbF r1 r2 s).1, (nbF r1 r2 s).2.1)
set_option maxRecDepth 20000 in
theorem shown_any (w : World) (r1 r2 s : Int) (hr : (1 ≤ r2 ∧ r2 ≤ 1000000000) ∧ 0 ≤ r1 ∧ r1 ≤ 9000000000) (hs : 1 ≤ s ∧ s ≤ 100) :
    Calls Try.prog 78 #[.agg #[.int .i64 r1, .int .i64 r2], .int .i64 s] w fun e w' => e = .returned (.agg #[.int .i64 ((shownF r1 r2 s).1), .int .i64 ((shownF r1 r2 s).2)]) ∧ Below w.heap.size w w' := by
  refine enter 20 Try.func78 (by kernel_rfl) fun hA => ?_
  refine runS hA 18 (List.replicate 4 (.k 2) ++ [.k 0, .k 0]) xn on (by kernel_rfl) fun w1 hA => ?_
  refine callB hA [] on (less_any w1 1000 1 r1 r2 (by first | omega | exact pc1 (by omega) (by omega) | exact pd1 (by omega) (by omega) | exact pd2 (by omega) (by omega)) (by first | omega | exact pc1 (by omega) (by omega) | exact pd1 (by omega) (by omega) | exact pd2 (by omega) (by omega))) (by kernel_rfl) fun w2 hb2 hA => ?_
  refine runS hA 2 [.t 0] xn on (by kernel_rfl) fun w3 hA => ?_
  by_cases ht1 : 1000 * r2 < r1 * 1
  case pos =>
    refine runS hA 9 [.b true, .k 2, .k 2, .k 1, .k 1] xn (oc (dec_t ht1) on) (by kernel_rfl) fun w4 hA => ?_
    exact ret (v := .agg #[.int .i64 1000, .int .i64 1]) hA [.k 1, .k 1] (by kernel_rfl) ⟨by rw [show shownF r1 r2 s = (1000, 1) from if_pos ht1], hA.below⟩
  case neg =>
    refine runS hA 7 [.b false, .k 0, .k 0] xn (oc (dec_f ht1) on) (by kernel_rfl) fun w4 hA => ?_
    refine callB hA [] on (neighbours_any w4 r1 r2 s (by omega) (by omega)) (by kernel_rfl) fun w5 hb5 hA => ?_
    refine runS hA 16 [.k 3, .k 3, .k 4, .k 4, .k 3, .k 3, .k 1, .k 1] xn on (by kernel_rfl) fun w6 hA => ?_
    exact ret (v := .agg #[.int .i64 ((nbF r1 r2 s).1), .int .i64 ((nbF r1 r2 s).2.1)]) hA [.k 1, .k 1] (by kernel_rfl) ⟨by rw [show shownF r1 r2 s = ((nbF r1 r2 s).1, (nbF r1 r2 s).2.1) from if_neg ht1], hA.below⟩
set_option maxRecDepth 20000 in
theorem CheckPool_any (w : World) (B : Nat) (A : Option Addr) (n c : Nat) (xs : List Rt) (cut : Int) (hx : RatsAt w B A n xs) (hB : B ≤ w.heap.size) :
    Calls Try.prog 30 #[.agg #[.slice A n c, .int .i64 cut]] w fun e w' => e = .returned (.int .i64 (poolE xs cut)) ∧ Below w.heap.size w w' := by
  have hl := hx.1
  have hn9 := hx.2.1
  refine enter 19 Try.func30 (by kernel_rfl) fun hA => ?_
  refine runS hA 13 [.k 0] xn on (by kernel_rfl) fun w1 hA => ?_
  have hwi := within_c w1 w1.heap.size 1 8 (some ⟨w.heap.size + 1, 0, none⟩) 1 1 [n] (ints1 (hA.at_.ok ⟨w.heap.size + 1, .cells #[.int .i64 n] 2 (0, 0)⟩ (List.mem_of_getElem? (i := 1) (by kernel_rfl)))) (Nat.le_refl _)
  rw [within1] at hwi
  refine callB hA [] on (hwi) (by kernel_rfl) fun w2 hb2 hA => ?_
  refine runS hA 3 [.t 0] xn on (by kernel_rfl) fun w3 hA => ?_
  by_cases ht1 : 1 ≤ (n : Int) ∧ (n : Int) ≤ 8
  case pos =>
    refine runS hA 8 [.b false, .k 0] xn (oc (show Value.bool (!(decide (1 ≤ (n : Int) ∧ (n : Int) ≤ 8))) = .bool false by rw [show decide (1 ≤ (n : Int) ∧ (n : Int) ≤ 8) = true from decide_eq_true ht1] <;> rfl) on) (by kernel_rfl) fun w4 hA => ?_
    refine callB hA [] on (containsR_any w4 B A n c xs (fun x => refusesF x.1 x.2) (hx.below hA.below hB) (Nat.le_trans hB hA.size) (fun W hW x _ => refuses_any W x.1 x.2)) (by kernel_rfl) fun w5 hb5 hA => ?_
    refine runS hA 1 [.t 0] xn on (by kernel_rfl) fun w6 hA => ?_
    have hq9 := Bool.eq_false_or_eq_true ((xs.any fun x => refusesF x.1 x.2))
    rcases hq9 with ht2 | ht2
    ·
      refine runS hA 16 (List.replicate 5 (.g true)) xn (oc (show Value.bool (xs.any fun x => refusesF x.1 x.2) = .bool true by rw [ht2] <;> rfl) (oc (rfl : Value.bool true = .bool true) (oc (rfl : Value.bool true = .bool true) (oc (rfl : Value.bool true = .bool true) (oc (rfl : Value.bool true = .bool true) on))))) (by kernel_rfl) fun w7 hA => ?_
      exact ret (v := .int .i64 3) hA [] (by kernel_rfl) ⟨by unfold poolE; rw [show (xs.length : Int) = (n : Int) by omega]; simp [ht1, ht2] <;> omega, hA.below⟩
    ·
      refine runS hA 3 [.g false, .g false, .k 0, .g false] xn (oc (show Value.bool (xs.any fun x => refusesF x.1 x.2) = .bool false by rw [ht2] <;> rfl) (oc (rfl : Value.bool false = .bool false) (oc (rfl : Value.bool false = .bool false) on))) (by kernel_rfl) fun w7 hA => ?_
      have hwi := within_c w7 w7.heap.size 0 500 (some ⟨w5.heap.size, 0, none⟩) 1 1 [cut] (ints1 (hA.at_.ok ⟨w5.heap.size, .cells #[.int .i64 cut] 2 (0, 0)⟩ (List.mem_of_getElem? (i := 2) (by kernel_rfl)))) (Nat.le_refl _)
      rw [within1] at hwi
      refine callB hA [] on (hwi) (by kernel_rfl) fun w8 hb8 hA => ?_
      refine runS hA 4 [.g false, .t 0] xn (oc (rfl : Value.bool false = .bool false) on) (by kernel_rfl) fun w9 hA => ?_
      by_cases ht3 : 0 ≤ (cut : Int) ∧ (cut : Int) ≤ 500
      case pos =>
        refine runS hA 9 [.b false] xn (oc (show Value.bool (!(decide (0 ≤ (cut : Int) ∧ (cut : Int) ≤ 500))) = .bool false by rw [show decide (0 ≤ (cut : Int) ∧ (cut : Int) ≤ 500) = true from decide_eq_true ht3] <;> rfl) on) (by kernel_rfl) fun w10 hA => ?_
        exact ret (v := .int .i64 0) hA [] (by kernel_rfl) ⟨by unfold poolE; rw [show (xs.length : Int) = (n : Int) by omega]; simp [ht1, ht2, ht3] <;> omega, hA.below⟩
      case neg =>
        refine runS hA 8 [.b true] xn (oc (show Value.bool (!(decide (0 ≤ (cut : Int) ∧ (cut : Int) ≤ 500))) = .bool true by rw [show decide (0 ≤ (cut : Int) ∧ (cut : Int) ≤ 500) = false from decide_eq_false ht3] <;> rfl) on) (by kernel_rfl) fun w10 hA => ?_
        exact ret (v := .int .i64 3) hA [] (by kernel_rfl) ⟨by unfold poolE; rw [show (xs.length : Int) = (n : Int) by omega]; simp [ht1, ht2, ht3] <;> omega, hA.below⟩
  case neg =>
    refine runS hA 8 [.b true] xn (oc (show Value.bool (!(decide (1 ≤ (n : Int) ∧ (n : Int) ≤ 8))) = .bool true by rw [show decide (1 ≤ (n : Int) ∧ (n : Int) ≤ 8) = false from decide_eq_false ht1] <;> rfl) on) (by kernel_rfl) fun w4 hA => ?_
    exact ret (v := .int .i64 6) hA [] (by kernel_rfl) ⟨by unfold poolE; rw [show (xs.length : Int) = (n : Int) by omega]; simp [ht1] <;> omega, hA.below⟩
set_option maxRecDepth 20000 in
theorem checkRunner_any (w : World) (B : Nat) (A : Option Addr) (n c : Nat) (xs : List Rt) (cut : Int) (r : Int) (hx : RatsAt w B A n xs) (hB : B ≤ w.heap.size) (_hr : -9223372036854775808 ≤ r ∧ r ≤ 9223372036854775807) :
    Calls Try.prog 74 #[.agg #[.slice A n c, .int .i64 cut], .int .i64 r] w fun e w' => e = .returned (.int .i64 (runE xs cut r)) ∧ Below w.heap.size w w' := by
  have hl := hx.1
  have hn9 := hx.2.1
  refine enter 19 Try.func74 (by kernel_rfl) fun hA => ?_
  refine runS hA 10 [.k 0, .k 0] xn on (by kernel_rfl) fun w1 hA => ?_
  refine callB hA [] on (CheckPool_any w1 B A n c xs cut (hx.below hA.below hB) (Nat.le_trans hB hA.size)) (by kernel_rfl) fun w2 hb2 hA => ?_
  refine runS hA 9 [.t 0] xn on (by kernel_rfl) fun w3 hA => ?_
  by_cases ht1 : (poolE xs cut) = (0 : Int)
  case pos =>
    refine runS hA 12 [.b false, .k 0, .v (.int .i64 (n - 1))] xn (oc (ne_f ht1) (oc (show Value.int .i64 (IntKind.i64.wrap (n - 1)) = .int .i64 (n - 1) from wrp (by omega)) on)) (by kernel_rfl) fun w4 hA => ?_
    have hwi := within_c w4 w4.heap.size 0 (n - 1) (some ⟨w2.heap.size, 0, none⟩) 1 1 [r] (ints1 (hA.at_.ok ⟨w2.heap.size, .cells #[.int .i64 r] 2 (0, 0)⟩ (List.mem_of_getElem? (i := 1) (by kernel_rfl)))) (Nat.le_refl _)
    rw [within1] at hwi
    refine callB hA [] on (hwi) (by kernel_rfl) fun w5 hb5 hA => ?_
    refine runS hA 3 [.t 0] xn on (by kernel_rfl) fun w6 hA => ?_
    by_cases ht2 : 0 ≤ (r : Int) ∧ (r : Int) ≤ (n - 1)
    case pos =>
      refine runS hA 9 [.b false] xn (oc (show Value.bool (!(decide (0 ≤ (r : Int) ∧ (r : Int) ≤ (n - 1)))) = .bool false by rw [show decide (0 ≤ (r : Int) ∧ (r : Int) ≤ (n - 1)) = true from decide_eq_true ht2] <;> rfl) on) (by kernel_rfl) fun w7 hA => ?_
      exact ret (v := .int .i64 0) hA [] (by kernel_rfl) ⟨by unfold runE; rw [show (xs.length : Int) = (n : Int) by omega]; simp [ht1, ht2] <;> omega, hA.below⟩
    case neg =>
      refine runS hA 8 [.b true] xn (oc (show Value.bool (!(decide (0 ≤ (r : Int) ∧ (r : Int) ≤ (n - 1)))) = .bool true by rw [show decide (0 ≤ (r : Int) ∧ (r : Int) ≤ (n - 1)) = false from decide_eq_false ht2] <;> rfl) on) (by kernel_rfl) fun w7 hA => ?_
      exact ret (v := .int .i64 2) hA [] (by kernel_rfl) ⟨by unfold runE; rw [show (xs.length : Int) = (n : Int) by omega]; simp [ht1, ht2] <;> omega, hA.below⟩
  case neg =>
    refine runS hA 9 [.b true] xn (oc (ne_t ht1) on) (by kernel_rfl) fun w4 hA => ?_
    exact ret (v := .int .i64 (poolE xs cut)) hA [] (by kernel_rfl) ⟨by unfold runE; rw [show (xs.length : Int) = (n : Int) by omega]; simp [ht1] <;> omega, hA.below⟩
def spanE (xs : List Rt) (cut k : Int) : Int := if runE xs cut k ≠ 0 then runE xs cut k else if (xs[k.toNat]?.getD (0, 0)).1 = 0 then 20 else 0
def spanA (xs : List Rt) (cut k : Int) : Rt × Rt := if spanE xs cut k = 0 then (oddsF cut (xs[k.toNat]?.getD (0, 0)).2 (othS (·.1) xs k xs.length), oddsF cut (xs[k.toNat]?.getD (0, 0)).1 (othS (·.2) xs k xs.length)) else ((0, 0), (0, 0))
def boardE (xs : List Rt) (cut k s : Int) : Int := if runE xs cut k ≠ 0 then runE xs cut k else if stepF s = false then 2 else spanE xs cut k
def boardA (xs : List Rt) (cut k s : Int) : Rt × Rt := if boardE xs cut k s = 0 then (shownF (spanA xs cut k).1.1 (spanA xs cut k).1.2 s, shownF (spanA xs cut k).2.1 (spanA xs cut k).2.2 s) else ((0, 0), (0, 0))
theorem span_ok {xs : List Rt} {cut k : Int} (h : spanE xs cut k = 0) : runE xs cut k = 0 ∧ (xs[k.toNat]?.getD (0, 0)).1 ≠ 0 := by
  unfold spanE at h
  split at h
  · rename_i h1; exact absurd h h1
  · rename_i h1
    split at h
    · cases h
    · rename_i h2; exact ⟨by omega, h2⟩
theorem span_bd {xs : List Rt} {cut k : Int} (h : spanE xs cut k = 0) : ((0 ≤ (spanA xs cut k).1.1 ∧ (spanA xs cut k).1.1 ≤ 8000000000) ∧ 0 < (spanA xs cut k).1.2 ∧ (spanA xs cut k).1.2 ≤ 1000000000) ∧ (0 ≤ (spanA xs cut k).2.1 ∧ (spanA xs cut k).2.1 ≤ 8000000000) ∧ 0 < (spanA xs cut k).2.2 ∧ (spanA xs cut k).2.2 ≤ 1000000000 := by
  obtain ⟨h1, h2⟩ := span_ok h
  obtain ⟨h3, h4⟩ := run_ok h1
  have V := valid_p h3
  have hl := V.len
  have hm := V.all _ (get_mem (d := (0, 0)) (show k.toNat < xs.length by omega))
  have b1 := oth_bd (k := k) (f := (·.1)) (fun x hx => ⟨(V.all x hx).1, by have := V.all x hx; omega⟩) xs.length (Nat.le_refl _)
  have b2 := oth_bd (k := k) (f := (·.2)) (fun x hx => ⟨by have := V.all x hx; omega, (V.all x hx).2.2⟩) xs.length (Nat.le_refl _)
  have c1 := b1.2.2 (by omega) (by omega)
  have c2 := b2.2.2 (by omega) (by omega)
  unfold spanA
  rw [if_pos h]
  exact ⟨odds_bd V.cut (by omega) (by omega), odds_bd V.cut (by omega) (by omega)⟩
set_option maxRecDepth 20000 in
theorem Span_any (w : World) (B : Nat) (A : Option Addr) (n c : Nat) (xs : List Rt) (cut : Int) (k : Int) (hx : RatsAt w B A n xs) (hB : B ≤ w.heap.size) (hk : -9223372036854775808 ≤ k ∧ k ≤ 9223372036854775807) :
    Calls Try.prog 26 #[.agg #[.slice A n c, .int .i64 cut], .int .i64 k] w fun e w' => e = .returned (.tuple #[.agg #[.int .i64 ((spanA xs cut k).1.1), .int .i64 ((spanA xs cut k).1.2)], .agg #[.int .i64 ((spanA xs cut k).2.1), .int .i64 ((spanA xs cut k).2.2)], .int .i64 (spanE xs cut k)]) ∧ Below w.heap.size w w' := by
  have hl := hx.1
  have hn9 := hx.2.1
  refine enter 36 Try.func26 (by kernel_rfl) fun hA => ?_
  refine runS hA 13 [.k 0, .k 0] xn on (by kernel_rfl) fun w1 hA => ?_
  refine callB hA [] on (checkRunner_any w1 B A n c xs cut k (hx.below hA.below hB) (Nat.le_trans hB hA.size) (by omega)) (by kernel_rfl) fun w2 hb2 hA => ?_
  refine runS hA 9 [.t 0] xn on (by kernel_rfl) fun w3 hA => ?_
  by_cases ht1 : (runE xs cut k) = (0 : Int)
  case pos =>
    have hrk := run_ok (show runE xs cut k = 0 by omega)
    have V := valid_p hrk.1
    have hq9 := hx.at (j := k.toNat) (show k.toNat < n by omega)
    obtain ⟨b, off, rfl, hbB, hcc⟩ := hq9
    have k0 := hcc 0 _ rfl
    have hm := V.all _ (get_mem (d := (0, 0)) (show k.toNat < xs.length by omega))
    refine runS hA 15 [.b false, .k 0, .i, .x (.int .i64 ((xs[k.toNat]?.getD (0, 0)).1)), .t 0] (xc (a := ⟨b, off + k.toNat * 2, none⟩) ⟨Nat.lt_of_lt_of_le hbB hB, k0⟩ xn) (oc (ne_f ht1) (oc (show (0 : Int) ≤ (k : Int) ∧ (k : Int) < (n : Int) by omega) on)) (by kernel_rfl) fun w4 hA => ?_
    by_cases ht2 : ((xs[k.toNat]?.getD (0, 0)).1) = (0 : Int)
    case pos =>
      refine runS hA 12 [.b true, .k 1, .k 1, .k 2, .k 2] xn (oc (eq_t ht2) on) (by kernel_rfl) fun w5 hA => ?_
      have hE : spanE xs cut k = 20 := by unfold spanE; rw [if_neg (by omega), if_pos ht2]
      exact ret (v := .tuple #[.agg #[.int .i64 0, .int .i64 0], .agg #[.int .i64 0, .int .i64 0], .int .i64 20]) hA [.k 1, .k 1, .k 2, .k 2] (by kernel_rfl) ⟨by unfold spanA; rw [hE, if_neg (by decide)], hA.below⟩
    case neg =>
      refine runS hA 8 [.b false, .k 0, .k 0] xn (oc (eq_f ht2) on) (by kernel_rfl) fun w5 hA => ?_
      have hE : spanE xs cut k = 0 := by unfold spanE; rw [if_neg (by omega), if_neg ht2]
      refine callB hA [] on (span_any w5 B (some ⟨b, off, none⟩) n c xs cut k (hx.below hA.below hB) (Nat.le_trans hB hA.size) (V) (hrk.2) ((by omega))) (by kernel_rfl) fun w6 hb6 hA => ?_
      refine runS hA 10 [.k 3, .k 3, .k 4, .k 4] xn on (by kernel_rfl) fun w7 hA => ?_
      refine draw hA [true, false, false, true, true] [0, 1, 2, 3, 4] (by kernel_rfl) (by kernel_rfl) fun hA => ?_
      refine runS hA 2 [.t 0, .k 1, .k 1, .t 1, .k 2, .k 2] xn on (by kernel_rfl) fun w8 hA => ?_
      have hA0D3 := hA
      refine latK hA0D3 [2, 3, 4] (γ := Unit) (fun _ => [(4, .pointer (some ⟨w.heap.size + 1, 0, none⟩)), (5, .pointer (some ⟨w.heap.size + 2, 0, none⟩)), (6, .int .i64 0)]) (fun _ => [⟨w.heap.size, .cells #[.slice (some ⟨b, off, none⟩) n c, .int .i64 cut] 36 (0, 0)⟩, ⟨w.heap.size + 1, .cells #[.int .i64 ((oddsF cut (xs[k.toNat]?.getD (0, 0)).2 (othS (·.1) xs k xs.length)).1), .int .i64 ((oddsF cut (xs[k.toNat]?.getD (0, 0)).2 (othS (·.1) xs k xs.length)).2)] 23 (0, 0)⟩, ⟨w.heap.size + 2, .cells #[.int .i64 ((oddsF cut (xs[k.toNat]?.getD (0, 0)).1 (othS (·.2) xs k xs.length)).1), .int .i64 ((oddsF cut (xs[k.toNat]?.getD (0, 0)).1 (othS (·.2) xs k xs.length)).2)] 23 (0, 0)⟩, ⟨w6.heap.size, .cells #[.int .i64 ((oddsF cut (xs[k.toNat]?.getD (0, 0)).2 (othS (·.1) xs k xs.length)).1), .int .i64 ((oddsF cut (xs[k.toNat]?.getD (0, 0)).2 (othS (·.1) xs k xs.length)).2)] 23 (0, 0)⟩, ⟨w6.heap.size + 1, .cells #[.int .i64 ((oddsF cut (xs[k.toNat]?.getD (0, 0)).1 (othS (·.2) xs k xs.length)).1), .int .i64 ((oddsF cut (xs[k.toNat]?.getD (0, 0)).1 (othS (·.2) xs k xs.length)).2)] 23 (0, 0)⟩]) (fun _ => []) (fun _ _ => True) (fun hD32_3 => ?_) ?_
      ·
        refine latS hA0D3 [2] (γ := Unit) (fun _ => [(4, .pointer (some ⟨w.heap.size + 1, 0, none⟩)), (5, .pointer (some ⟨w.heap.size + 2, 0, none⟩)), (6, .int .i64 0), (8, .pointer (some ⟨w6.heap.size, 0, none⟩)), (9, .pointer (some ⟨w6.heap.size + 1, 0, none⟩)), (34, .agg #[.int .i64 ((oddsF cut (xs[k.toNat]?.getD (0, 0)).2 (othS (·.1) xs k xs.length)).1), .int .i64 ((oddsF cut (xs[k.toNat]?.getD (0, 0)).2 (othS (·.1) xs k xs.length)).2)]), (35, .agg #[.int .i64 ((oddsF cut (xs[k.toNat]?.getD (0, 0)).1 (othS (·.2) xs k xs.length)).1), .int .i64 ((oddsF cut (xs[k.toNat]?.getD (0, 0)).1 (othS (·.2) xs k xs.length)).2)])]) (fun _ => [⟨w.heap.size, .cells #[.slice (some ⟨b, off, none⟩) n c, .int .i64 cut] 36 (0, 0)⟩, ⟨w.heap.size + 1, .cells #[.int .i64 ((oddsF cut (xs[k.toNat]?.getD (0, 0)).2 (othS (·.1) xs k xs.length)).1), .int .i64 ((oddsF cut (xs[k.toNat]?.getD (0, 0)).2 (othS (·.1) xs k xs.length)).2)] 23 (0, 0)⟩, ⟨w.heap.size + 2, .cells #[.int .i64 0, .int .i64 0] 23 (0, 0)⟩, ⟨w6.heap.size, .cells #[.int .i64 ((oddsF cut (xs[k.toNat]?.getD (0, 0)).2 (othS (·.1) xs k xs.length)).1), .int .i64 ((oddsF cut (xs[k.toNat]?.getD (0, 0)).2 (othS (·.1) xs k xs.length)).2)] 23 (0, 0)⟩, ⟨w6.heap.size + 1, .cells #[.int .i64 ((oddsF cut (xs[k.toNat]?.getD (0, 0)).1 (othS (·.2) xs k xs.length)).1), .int .i64 ((oddsF cut (xs[k.toNat]?.getD (0, 0)).1 (othS (·.2) xs k xs.length)).2)] 23 (0, 0)⟩]) (fun _ => []) (fun _ _ => True) ?_ (fun hD32 => ?_)
        · rintro _ wl9 _ hA
          refine runS hA 2 [.h 3, .k 2, .k 2, .t 4] xn on (by kernel_rfl) fun w110 hA => ?_
          exact joinE hD32_3 () trivial [0, 1, 2, 3, 4] hA rfl (by kernel_rfl) (by decide)
        replace hA := hA0D3
        refine runS hA 1 [.h 2, .k 1, .k 1] xn on (by kernel_rfl) fun w10 hA => ?_
        exact joinE hD32 () trivial [0, 1, 2, 3, 4] hA rfl (by kernel_rfl) (by decide)
      rintro _ w59 _ hA
      refine runS hA 3 [.b true] xn on (by kernel_rfl) fun w60 hA => ?_
      exact ret (v := .tuple #[.agg #[.int .i64 ((oddsF cut (xs[k.toNat]?.getD (0, 0)).2 (othS (·.1) xs k xs.length)).1), .int .i64 ((oddsF cut (xs[k.toNat]?.getD (0, 0)).2 (othS (·.1) xs k xs.length)).2)], .agg #[.int .i64 ((oddsF cut (xs[k.toNat]?.getD (0, 0)).1 (othS (·.2) xs k xs.length)).1), .int .i64 ((oddsF cut (xs[k.toNat]?.getD (0, 0)).1 (othS (·.2) xs k xs.length)).2)], .int .i64 0]) hA [.k 1, .k 1, .k 2, .k 2] (by kernel_rfl) ⟨by unfold spanA; rw [hE, if_pos rfl], hA.below⟩
  case neg =>
    refine runS hA 13 [.b true, .k 1, .k 1, .k 2, .k 2] xn (oc (ne_t ht1) on) (by kernel_rfl) fun w4 hA => ?_
    have hE : spanE xs cut k = runE xs cut k := by unfold spanE; rw [if_pos ht1]
    exact ret (v := .tuple #[.agg #[.int .i64 0, .int .i64 0], .agg #[.int .i64 0, .int .i64 0], .int .i64 (runE xs cut k)]) hA [.k 1, .k 1, .k 2, .k 2] (by kernel_rfl) ⟨by unfold spanA; rw [hE, if_neg ht1], hA.below⟩
set_option maxRecDepth 20000 in
theorem Board_any (w : World) (B : Nat) (A : Option Addr) (n c : Nat) (xs : List Rt) (cut : Int) (k s : Int) (hx : RatsAt w B A n xs) (hB : B ≤ w.heap.size) (hk : -9223372036854775808 ≤ k ∧ k ≤ 9223372036854775807) (hs : -9223372036854775808 ≤ s ∧ s ≤ 9223372036854775807) :
    Calls Try.prog 28 #[.agg #[.slice A n c, .int .i64 cut], .int .i64 k, .int .i64 s] w fun e w' => e = .returned (.tuple #[.agg #[.int .i64 ((boardA xs cut k s).1.1), .int .i64 ((boardA xs cut k s).1.2)], .agg #[.int .i64 ((boardA xs cut k s).2.1), .int .i64 ((boardA xs cut k s).2.2)], .int .i64 (boardE xs cut k s)]) ∧ Below w.heap.size w w' := by
  have hl := hx.1
  have hn9 := hx.2.1
  refine enter 44 Try.func28 (by kernel_rfl) fun hA => ?_
  refine runS hA 13 [.k 0, .k 0] xn on (by kernel_rfl) fun w1 hA => ?_
  refine callB hA [] on (checkRunner_any w1 B A n c xs cut k (hx.below hA.below hB) (Nat.le_trans hB hA.size) (by omega)) (by kernel_rfl) fun w2 hb2 hA => ?_
  refine runS hA 9 [.t 0] xn on (by kernel_rfl) fun w3 hA => ?_
  by_cases ht1 : (runE xs cut k) = (0 : Int)
  case pos =>
    refine runS hA 7 [.b false] xn (oc (ne_f ht1) on) (by kernel_rfl) fun w4 hA => ?_
    refine callB hA [] on (isStep_any w4 s (by omega)) (by kernel_rfl) fun w5 hb5 hA => ?_
    refine runS hA 3 [.t 0] xn on (by kernel_rfl) fun w6 hA => ?_
    have hq9 := Bool.eq_false_or_eq_true ((stepF s))
    rcases hq9 with ht2 | ht2
    ·
      refine runS hA 7 [.b false, .k 0, .k 0] xn (oc (show Value.bool (!(stepF s)) = .bool false by rw [ht2] <;> rfl) on) (by kernel_rfl) fun w7 hA => ?_
      refine callB hA [] on (Span_any w7 B A n c xs cut k (hx.below hA.below hB) (Nat.le_trans hB hA.size) (by omega)) (by kernel_rfl) fun w8 hb8 hA => ?_
      refine runS hA 18 [.k 3, .k 3, .k 4, .k 4, .t 0] xn on (by kernel_rfl) fun w9 hA => ?_
      by_cases ht3 : (spanE xs cut k) = (0 : Int)
      case pos =>
        refine runS hA 4 [.b false] xn (oc (ne_f ht3) on) (by kernel_rfl) fun w10 hA => ?_
        have hsE : spanE xs cut k = 0 := by omega
        refine draw hA [true, false, false, true, true] [0, 1, 2, 3, 4, 5, 6, 7, 8] (by kernel_rfl) (by kernel_rfl) fun hA => ?_
        refine runS hA 4 [.t 0, .k 1, .k 1, .t 1, .t 3, .k 2, .k 2, .t 4] xn on (by kernel_rfl) fun w11 hA => ?_
        have hA0D4 := hA
        refine latK hA0D4 [2, 5, 6, 7, 8] (γ := Unit) (fun _ => [(6, .pointer (some ⟨w.heap.size + 1, 0, none⟩)), (7, .pointer (some ⟨w.heap.size + 2, 0, none⟩)), (8, .int .i64 0)]) (fun _ => [⟨w.heap.size, .cells #[.slice A n c, .int .i64 cut] 36 (0, 0)⟩, ⟨w.heap.size + 1, .cells #[.int .i64 ((shownF ((spanA xs cut k).1.1) ((spanA xs cut k).1.2) s).1), .int .i64 ((shownF ((spanA xs cut k).1.1) ((spanA xs cut k).1.2) s).2)] 23 (0, 0)⟩, ⟨w.heap.size + 2, .cells #[.int .i64 ((shownF ((spanA xs cut k).2.1) ((spanA xs cut k).2.2) s).1), .int .i64 ((shownF ((spanA xs cut k).2.1) ((spanA xs cut k).2.2) s).2)] 23 (0, 0)⟩, ⟨w8.heap.size, .cells #[.int .i64 ((spanA xs cut k).1.1), .int .i64 ((spanA xs cut k).1.2)] 23 (0, 0)⟩, ⟨w8.heap.size + 1, .cells #[.int .i64 ((spanA xs cut k).2.1), .int .i64 ((spanA xs cut k).2.2)] 23 (0, 0)⟩]) (fun _ => []) (fun _ _ => True) (fun hD42_5_6_7 => ?_) ?_
        ·
          refine latS hA0D4 [2, 5, 6] (γ := Unit) (fun _ => [(2, .int .i64 s), (6, .pointer (some ⟨w.heap.size + 1, 0, none⟩)), (7, .pointer (some ⟨w.heap.size + 2, 0, none⟩)), (8, .int .i64 0), (10, .pointer (some ⟨w8.heap.size, 0, none⟩)), (11, .pointer (some ⟨w8.heap.size + 1, 0, none⟩)), (38, .agg #[.int .i64 ((spanA xs cut k).1.1), .int .i64 ((spanA xs cut k).1.2)]), (39, .int .i64 s), (40, .agg #[.int .i64 ((shownF ((spanA xs cut k).1.1) ((spanA xs cut k).1.2) s).1), .int .i64 ((shownF ((spanA xs cut k).1.1) ((spanA xs cut k).1.2) s).2)]), (41, .agg #[.int .i64 ((spanA xs cut k).2.1), .int .i64 ((spanA xs cut k).2.2)]), (42, .int .i64 s), (43, .agg #[.int .i64 ((shownF ((spanA xs cut k).2.1) ((spanA xs cut k).2.2) s).1), .int .i64 ((shownF ((spanA xs cut k).2.1) ((spanA xs cut k).2.2) s).2)])]) (fun _ => [⟨w.heap.size, .cells #[.slice A n c, .int .i64 cut] 36 (0, 0)⟩, ⟨w.heap.size + 1, .cells #[.int .i64 ((shownF ((spanA xs cut k).1.1) ((spanA xs cut k).1.2) s).1), .int .i64 ((shownF ((spanA xs cut k).1.1) ((spanA xs cut k).1.2) s).2)] 23 (0, 0)⟩, ⟨w.heap.size + 2, .cells #[.int .i64 0, .int .i64 0] 23 (0, 0)⟩, ⟨w8.heap.size, .cells #[.int .i64 ((spanA xs cut k).1.1), .int .i64 ((spanA xs cut k).1.2)] 23 (0, 0)⟩, ⟨w8.heap.size + 1, .cells #[.int .i64 ((spanA xs cut k).2.1), .int .i64 ((spanA xs cut k).2.2)] 23 (0, 0)⟩]) (fun _ => []) (fun _ _ => True) ?_ (fun hD42_5_6 => ?_)
          · rintro _ wl12 _ hA
            refine runS hA 2 [.h 7, .k 2, .k 2, .t 8] xn on (by kernel_rfl) fun w113 hA => ?_
            exact joinE hD42_5_6_7 () trivial [0, 1, 2, 3, 4] hA rfl (by kernel_rfl) (by decide)
          refine latS hA0D4 [2, 5] (γ := Unit) (fun _ => [(2, .int .i64 s), (6, .pointer (some ⟨w.heap.size + 1, 0, none⟩)), (7, .pointer (some ⟨w.heap.size + 2, 0, none⟩)), (8, .int .i64 0), (10, .pointer (some ⟨w8.heap.size, 0, none⟩)), (11, .pointer (some ⟨w8.heap.size + 1, 0, none⟩)), (38, .agg #[.int .i64 ((spanA xs cut k).1.1), .int .i64 ((spanA xs cut k).1.2)]), (39, .int .i64 s), (40, .agg #[.int .i64 ((shownF ((spanA xs cut k).1.1) ((spanA xs cut k).1.2) s).1), .int .i64 ((shownF ((spanA xs cut k).1.1) ((spanA xs cut k).1.2) s).2)]), (41, .agg #[.int .i64 ((spanA xs cut k).2.1), .int .i64 ((spanA xs cut k).2.2)]), (42, .int .i64 s), (43, .agg #[.int .i64 ((shownF ((spanA xs cut k).2.1) ((spanA xs cut k).2.2) s).1), .int .i64 ((shownF ((spanA xs cut k).2.1) ((spanA xs cut k).2.2) s).2)])]) (fun _ => [⟨w.heap.size, .cells #[.slice A n c, .int .i64 cut] 36 (0, 0)⟩, ⟨w.heap.size + 1, .cells #[.int .i64 0, .int .i64 0] 23 (0, 0)⟩, ⟨w.heap.size + 2, .cells #[.int .i64 0, .int .i64 0] 23 (0, 0)⟩, ⟨w8.heap.size, .cells #[.int .i64 ((spanA xs cut k).1.1), .int .i64 ((spanA xs cut k).1.2)] 23 (0, 0)⟩, ⟨w8.heap.size + 1, .cells #[.int .i64 ((spanA xs cut k).2.1), .int .i64 ((spanA xs cut k).2.2)] 23 (0, 0)⟩]) (fun _ => []) (fun _ _ => True) ?_ (fun hD42_5 => ?_)
          · rintro _ wl13 _ hA
            refine runS hA 1 [.h 6, .k 1, .k 1] xn on (by kernel_rfl) fun w114 hA => ?_
            exact joinE hD42_5_6 () trivial [0, 1, 2, 3, 4] hA rfl (by kernel_rfl) (by decide)
          refine latS hA0D4 [2] (γ := Unit) (fun _ => [(2, .int .i64 s), (6, .pointer (some ⟨w.heap.size + 1, 0, none⟩)), (7, .pointer (some ⟨w.heap.size + 2, 0, none⟩)), (8, .int .i64 0), (10, .pointer (some ⟨w8.heap.size, 0, none⟩)), (11, .pointer (some ⟨w8.heap.size + 1, 0, none⟩)), (38, .agg #[.int .i64 ((spanA xs cut k).1.1), .int .i64 ((spanA xs cut k).1.2)]), (39, .int .i64 s), (40, .agg #[.int .i64 ((shownF ((spanA xs cut k).1.1) ((spanA xs cut k).1.2) s).1), .int .i64 ((shownF ((spanA xs cut k).1.1) ((spanA xs cut k).1.2) s).2)]), (41, .agg #[.int .i64 ((spanA xs cut k).2.1), .int .i64 ((spanA xs cut k).2.2)]), (42, .int .i64 s)]) (fun _ => [⟨w.heap.size, .cells #[.slice A n c, .int .i64 cut] 36 (0, 0)⟩, ⟨w.heap.size + 1, .cells #[.int .i64 0, .int .i64 0] 23 (0, 0)⟩, ⟨w.heap.size + 2, .cells #[.int .i64 0, .int .i64 0] 23 (0, 0)⟩, ⟨w8.heap.size, .cells #[.int .i64 ((spanA xs cut k).1.1), .int .i64 ((spanA xs cut k).1.2)] 23 (0, 0)⟩, ⟨w8.heap.size + 1, .cells #[.int .i64 ((spanA xs cut k).2.1), .int .i64 ((spanA xs cut k).2.2)] 23 (0, 0)⟩]) (fun _ => []) (fun _ _ => True) ?_ (fun hD42 => ?_)
          · rintro _ wl14 _ hA
            refine callB hA [] on (shown_any wl14 ((spanA xs cut k).2.1) ((spanA xs cut k).2.2) s ((by have hb := span_bd hsE; omega)) ((by simpa [stepF] using ht2))) (by kernel_rfl) fun w115 hb115 hA => ?_
            exact joinE hD42_5 () trivial [0, 1, 2, 3, 4] hA rfl (by kernel_rfl) (by decide)
          replace hA := hA0D4
          refine callB hA [] on (shown_any w11 ((spanA xs cut k).1.1) ((spanA xs cut k).1.2) s ((by have hb := span_bd hsE; omega)) ((by simpa [stepF] using ht2))) (by kernel_rfl) fun w15 hb15 hA => ?_
          exact joinE hD42 () trivial [0, 1, 2, 3, 4] hA rfl (by kernel_rfl) (by decide)
        rintro _ w64 _ hA
        refine runS hA 3 [.b true] xn on (by kernel_rfl) fun w65 hA => ?_
        exact ret (v := .tuple #[.agg #[.int .i64 ((shownF ((spanA xs cut k).1.1) ((spanA xs cut k).1.2) s).1), .int .i64 ((shownF ((spanA xs cut k).1.1) ((spanA xs cut k).1.2) s).2)], .agg #[.int .i64 ((shownF ((spanA xs cut k).2.1) ((spanA xs cut k).2.2) s).1), .int .i64 ((shownF ((spanA xs cut k).2.1) ((spanA xs cut k).2.2) s).2)], .int .i64 0]) hA [.k 1, .k 1, .k 2, .k 2] (by kernel_rfl) ⟨by simp [boardA, boardE, ht1, ht2, ht3], hA.below⟩
      case neg =>
        refine runS hA 13 [.b true, .k 1, .k 1, .k 2, .k 2] xn (oc (ne_t ht3) on) (by kernel_rfl) fun w10 hA => ?_
        exact ret (v := .tuple #[.agg #[.int .i64 0, .int .i64 0], .agg #[.int .i64 0, .int .i64 0], .int .i64 (spanE xs cut k)]) hA [.k 1, .k 1, .k 2, .k 2] (by kernel_rfl) ⟨by simp [boardA, boardE, ht1, ht2, ht3], hA.below⟩
    ·
      refine runS hA 12 [.b true, .k 1, .k 1, .k 2, .k 2] xn (oc (show Value.bool (!(stepF s)) = .bool true by rw [ht2] <;> rfl) on) (by kernel_rfl) fun w7 hA => ?_
      exact ret (v := .tuple #[.agg #[.int .i64 0, .int .i64 0], .agg #[.int .i64 0, .int .i64 0], .int .i64 2]) hA [.k 1, .k 1, .k 2, .k 2] (by kernel_rfl) ⟨by simp [boardA, boardE, ht1, ht2], hA.below⟩
  case neg =>
    refine runS hA 13 [.b true, .k 1, .k 1, .k 2, .k 2] xn (oc (ne_t ht1) on) (by kernel_rfl) fun w4 hA => ?_
    exact ret (v := .tuple #[.agg #[.int .i64 0, .int .i64 0], .agg #[.int .i64 0, .int .i64 0], .int .i64 (runE xs cut k)]) hA [.k 1, .k 1, .k 2, .k 2] (by kernel_rfl) ⟨by simp [boardA, boardE, ht1], hA.below⟩
end Go.Proofs.Ytfidkgpimlpdbaa

/- odds: net, winSurely, total, multiple. -/
namespace Go.Proofs.Ytfidkgpimlpdbaa
open Go.RowKit Go.Shelf

structure ValidM (m : Int) (qs : List Qt) : Prop where
  few : 1 ≤ m ∧ m ≤ 5
  len : (qs.length : Int) ≤ 12
  all : ∀ q ∈ qs, (0 ≤ q.r ∧ q.r ≤ m - 1) ∧ (0 ≤ q.n ∧ q.n ≤ 190) ∧ 1 ≤ q.d ∧ q.d ≤ 10
def Stk (n : Nat) (ss : List Int) : Prop := ss.length = n ∧ ∀ x ∈ ss, 0 ≤ x ∧ x ≤ 1099511627776
def wonF (q : Qt) (s r : Int) : Int := if q.lay then -(if q.r = r then s * q.n * (2520 / q.d) else -s * 2520) else if q.r = r then s * q.n * (2520 / q.d) else -s * 2520
theorem won_ok {q : Qt} {s : Int} (hs : 0 ≤ s ∧ s ≤ 1099511627776) (hn : 0 ≤ q.n ∧ q.n ≤ 190) (hd : 1 ≤ q.d ∧ q.d ≤ 10) : (0 ≤ s * q.n ∧ s * q.n ≤ 208907209277440) ∧ (0 ≤ 2520 / q.d ∧ 2520 / q.d ≤ 2520) ∧ 0 ≤ s * q.n * (2520 / q.d) ∧ s * q.n * (2520 / q.d) ≤ 526446167379148800 := by
  have h0 := Int.mul_nonneg hs.1 hn.1
  have h1 := Int.mul_le_mul hs.2 hn.2 hn.1 (by decide)
  have h2 : 0 ≤ 2520 / q.d := Int.ediv_nonneg (by decide) (by omega)
  have h3 : 2520 / q.d ≤ 2520 := Int.ediv_le_self _ (by decide)
  have h4 := Int.mul_nonneg h0 h2
  have h5 := Int.mul_le_mul (show s * q.n ≤ 208907209277440 by omega) h3 h2 (by decide)
  omega
theorem won_bd {q : Qt} {s r : Int} (hs : 0 ≤ s ∧ s ≤ 1099511627776) (hn : 0 ≤ q.n ∧ q.n ≤ 190) (hd : 1 ≤ q.d ∧ q.d ≤ 10) : -526446167379148800 ≤ wonF q s r ∧ wonF q s r ≤ 526446167379148800 := by
  have := won_ok hs hn hd
  unfold wonF
  split <;> split <;> omega
def netP (qs : List Qt) (ss : List Int) (r : Int) : Nat → Int
  | 0 => 0
  | i + 1 => netP qs ss r i + wonF (qs[i]?.getD noQ) (ss[i]?.getD 0) r
theorem net_bd {m : Int} {qs : List Qt} {ss : List Int} {r : Int} (V : ValidM m qs) (S : Stk qs.length ss) : ∀ i, i ≤ qs.length → -526446167379148800 * (i : Int) ≤ netP qs ss r i ∧ netP qs ss r i ≤ 526446167379148800 * (i : Int)
  | 0, _ => by simp [netP]
  | i + 1, h => by
    have ih := net_bd (r := r) V S i (by omega)
    have hq := V.all _ (get_mem (d := noQ) (show i < qs.length by omega))
    have hs := S.2 _ (get_mem (d := 0) (show i < ss.length by rw [S.1]; omega))
    have := won_bd (r := r) hs hq.2.1 hq.2.2
    unfold netP
    omega
def netF (qs : List Qt) (ss : List Int) (r : Int) : Int := netP qs ss r qs.length
theorem netF_bd {m : Int} {qs : List Qt} {ss : List Int} {r : Int} (V : ValidM m qs) (S : Stk qs.length ss) : -6317354008549785600 ≤ netF qs ss r ∧ netF qs ss r ≤ 6317354008549785600 := by
  have h := net_bd (r := r) V S qs.length (Nat.le_refl _)
  have := V.len
  unfold netF
  omega
set_option maxRecDepth 20000 in
theorem net_any (w : World) (B : Nat) (m : Int) (A : Option Addr) (n c : Nat) (mv : Value) (qs : List Qt) (A2 : Option Addr) (c2 : Nat) (ss : List Int) (r : Int) (hx : QtsAt w B A n qs) (hB : B ≤ w.heap.size) (V : ValidM m qs) (hs : IntsAt w B A2 n ss) (S : Stk qs.length ss) :
    Calls Try.prog 86 #[.agg #[.int .i64 m, .slice A n c, mv], .slice A2 n c2, .int .i64 r] w fun e w' => e = .returned (.int .i64 (netF qs ss r)) ∧ Below w.heap.size w w' := by
  refine enter 50 Try.func86 (by kernel_rfl) fun hA => ?_
  have hl := hx.1
  have hn9 := hx.2.1
  have hv := V.len
  refine runS hA 22 [.k 0] xn on (by kernel_rfl) fun w1 hA => ?_
  refine loop (γ := Nat) (fun i => [(1, .slice A2 n c2), (2, .int .i64 r), (6, .int .i64 0), (7, .int .i64 (netP qs ss r i)), (13, .slice A n c), (14, .int .i64 n), (15, .int .i64 (i : Int))]) (fun i => [⟨w.heap.size, .cells #[.int .i64 m, .slice A n c, mv] 100 (0, 0)⟩]) (fun _ => []) (fun g i wr => i ≤ n ∧ g = n - i) n 0 [true] hA (by kernel_rfl) (⟨by omega, rfl⟩) ?_
  rintro _ i wr ⟨hi, rfl⟩ J hJ hA
  by_cases hlt : i < n
  case neg =>
    refine runS hA 9 [.b false] xn (oc (dec_f (show ¬ (((i : Int) : Int) < (n : Int)) by omega)) on) (by kernel_rfl) fun w2 hA => ?_
    refine leave hA (by kernel_rfl) fun hA => ?_
    refine runS hA 9 [] xn on (by kernel_rfl) fun w3 hA => ?_
    exact ret (v := .int .i64 (netP qs ss r i)) hA [] (by kernel_rfl) ⟨by rw [show i = qs.length by omega]; rfl, hA.below⟩
  case pos =>
    have hq9 := hx.at (hlt)
    obtain ⟨b, off, rfl, hlb, hcb⟩ := hq9
    have k0 := hcb 0 _ rfl
    have k1 := hcb 1 _ rfl
    have k2 := hcb 2 _ rfl
    have k3 := hcb 3 _ rfl
    have hq9 := hs.at (hlt)
    obtain ⟨b2, off2, rfl, hlb2, hcb2⟩ := hq9
    have s0 := hcb2 0 _ rfl
    have hq := V.all _ (get_mem (d := noQ) (show i < qs.length by omega))
    have hsx := S.2 _ (get_mem (d := 0) (show i < ss.length by rw [S.1]; omega))
    have hw1 := won_ok hsx hq.2.1 hq.2.2
    have hnb := net_bd (r := r) V S (i + 1) (by omega)
    have hnb0 := net_bd (r := r) V S i (by omega)
    have hstep : netP qs ss r (i + 1) = netP qs ss r i + wonF (qs[i]?.getD noQ) (ss[i]?.getD 0) r := rfl
    refine runS hA 41 ([.b true, .i, .x (.int .i64 ((qs[i]?.getD noQ).r)), .x (.int .i64 ((qs[i]?.getD noQ).n)), .x (.int .i64 ((qs[i]?.getD noQ).d)), .x (.bool ((qs[i]?.getD noQ).lay))] ++ List.replicate 4 (.k 1) ++ [.i, .x (.int .i64 (ss[i]?.getD 0)), .v (.int .i64 (-(ss[i]?.getD 0))), .v (.int .i64 ((-(ss[i]?.getD 0)) * 2520)), .k 1, .t 0]) (xc (a := ⟨b, off + i * 4, none⟩) ⟨Nat.lt_of_lt_of_le hlb hB, k0⟩ (xc (a := ⟨b, off + i * 4 + 1, none⟩) ⟨Nat.lt_of_lt_of_le hlb hB, k1⟩ (xc (a := ⟨b, off + i * 4 + 2, none⟩) ⟨Nat.lt_of_lt_of_le hlb hB, k2⟩ (xc (a := ⟨b, off + i * 4 + 3, none⟩) ⟨Nat.lt_of_lt_of_le hlb hB, k3⟩ (xc (a := ⟨b2, off2 + i * 1, none⟩) ⟨Nat.lt_of_lt_of_le hlb2 hB, s0⟩ xn))))) (oc (dec_t (show (((i : Int) : Int) < (n : Int)) by omega)) (oc (show (0 : Int) ≤ ((i : Int) : Int) ∧ ((i : Int) : Int) < (n : Int) by omega) (oc (show (0 : Int) ≤ ((i : Int) : Int) ∧ ((i : Int) : Int) < (n : Int) by omega) (oc (show Value.int .i64 (IntKind.i64.wrap (0 - (ss[i]?.getD 0))) = .int .i64 (-(ss[i]?.getD 0)) from wrn (by omega)) (oc (show Value.int .i64 (IntKind.i64.wrap ((-(ss[i]?.getD 0)) * 2520)) = .int .i64 ((-(ss[i]?.getD 0)) * 2520) from wrp (by omega)) on))))) (by kernel_rfl) fun w2 hA => ?_
    by_cases ht1 : ((qs[i]?.getD noQ).r) = (r : Int)
    case pos =>
      refine runS hA 1 [.b true] xn (oc (eq_t ht1) on) (by kernel_rfl) fun w3 hA => ?_
      refine draw hA [true, true] [0, 1, 2, 3, 4, 5, 6, 7, 8, 9, 10, 11] (by kernel_rfl) (by kernel_rfl) fun hA => ?_
      refine runS hA 21 [.t 0, .t 1, .t 2, .i, .t 3, .x (.int .i64 (ss[i]?.getD 0)), .t 4, .t 5, .k 1, .t 6, .v (.int .i64 ((ss[i]?.getD 0) * ((qs[i]?.getD noQ).n))), .t 7, .t 8, .k 1, .t 9, .v (.int .i64 (2520 / ((qs[i]?.getD noQ).d))), .z, .t 10, .v (.int .i64 (((ss[i]?.getD 0) * ((qs[i]?.getD noQ).n)) * (2520 / ((qs[i]?.getD noQ).d)))), .t 11, .b true, .k 1, .t 0] (xc (a := ⟨b2, off2 + i * 1, none⟩) ⟨Nat.lt_of_lt_of_le hlb2 hB, s0⟩ xn) (oc (show (0 : Int) ≤ ((i : Int) : Int) ∧ ((i : Int) : Int) < (n : Int) by omega) (oc (show Value.int .i64 (IntKind.i64.wrap ((ss[i]?.getD 0) * ((qs[i]?.getD noQ).n))) = .int .i64 ((ss[i]?.getD 0) * ((qs[i]?.getD noQ).n)) from wrp (by omega)) (oc (show ((qs[i]?.getD noQ).d) ≠ (0 : Int) by omega) (oc (show Value.int .i64 (IntKind.i64.wrap (Int.tdiv 2520 ((qs[i]?.getD noQ).d))) = .int .i64 (2520 / ((qs[i]?.getD noQ).d)) from wrq (by omega)) (oc (show Value.int .i64 (IntKind.i64.wrap (((ss[i]?.getD 0) * ((qs[i]?.getD noQ).n)) * (2520 / ((qs[i]?.getD noQ).d)))) = .int .i64 (((ss[i]?.getD 0) * ((qs[i]?.getD noQ).n)) * (2520 / ((qs[i]?.getD noQ).d))) from wrp (by omega)) on))))) (by kernel_rfl) fun w4 hA => ?_
      have hq9 := Bool.eq_false_or_eq_true ((qs[i]?.getD noQ).lay)
      rcases hq9 with ht2 | ht2
      ·
        have hwon : wonF (qs[i]?.getD noQ) (ss[i]?.getD 0) r = -((ss[i]?.getD 0) * (qs[i]?.getD noQ).n * (2520 / (qs[i]?.getD noQ).d)) := by unfold wonF; rw [ht2]; simp [ht1]
        refine runS hA 19 [.b true, .v (.int .i64 (-(((ss[i]?.getD 0) * ((qs[i]?.getD noQ).n)) * (2520 / ((qs[i]?.getD noQ).d))))), .v (.int .i64 ((netP qs ss r i) + (-(((ss[i]?.getD 0) * ((qs[i]?.getD noQ).n)) * (2520 / ((qs[i]?.getD noQ).d)))))), .v (.int .i64 ((i : Int) + 1))] xn (oc (show Value.bool ((qs[i]?.getD noQ).lay) = .bool true by rw [ht2] <;> rfl) (oc (show Value.int .i64 (IntKind.i64.wrap (0 - (((ss[i]?.getD 0) * ((qs[i]?.getD noQ).n)) * (2520 / ((qs[i]?.getD noQ).d))))) = .int .i64 (-(((ss[i]?.getD 0) * ((qs[i]?.getD noQ).n)) * (2520 / ((qs[i]?.getD noQ).d)))) from wrn (by omega)) (oc (show Value.int .i64 (IntKind.i64.wrap ((netP qs ss r i) + (-(((ss[i]?.getD 0) * ((qs[i]?.getD noQ).n)) * (2520 / ((qs[i]?.getD noQ).d)))))) = .int .i64 ((netP qs ss r i) + (-(((ss[i]?.getD 0) * ((qs[i]?.getD noQ).n)) * (2520 / ((qs[i]?.getD noQ).d))))) from wrp (by omega)) (oc (show Value.int .i64 (IntKind.i64.wrap ((i : Int) + 1)) = .int .i64 ((i : Int) + 1) from wrp (by omega)) on)))) (by kernel_rfl) fun w5 hA => ?_
        refine revals hA (rc 7 (show .int .i64 ((netP qs ss r i) + (-(((ss[i]?.getD 0) * ((qs[i]?.getD noQ).n)) * (2520 / ((qs[i]?.getD noQ).d))))) = .int .i64 (netP qs ss r (i + 1)) by rw [hstep, hwon]) rn) (by kernel_rfl) fun hA => ?_
        refine revals hA (rc 15 (show .int .i64 ((i : Int) + 1) = .int .i64 ((i + 1 : Nat) : Int) by rw [show ((i + 1 : Nat) : Int) = (i : Int) + 1 by omega]) rn) (by kernel_rfl) fun hA => ?_
        exact again hJ (n - (i + 1)) (i + 1) [true, false] hA (by omega) (by kernel_rfl) (⟨by omega, rfl⟩)
      ·
        have hwon : wonF (qs[i]?.getD noQ) (ss[i]?.getD 0) r = (ss[i]?.getD 0) * (qs[i]?.getD noQ).n * (2520 / (qs[i]?.getD noQ).d) := by unfold wonF; rw [ht2]; simp [ht1]
        refine runS hA 15 [.b false, .v (.int .i64 ((netP qs ss r i) + (((ss[i]?.getD 0) * ((qs[i]?.getD noQ).n)) * (2520 / ((qs[i]?.getD noQ).d))))), .v (.int .i64 ((i : Int) + 1))] xn (oc (show Value.bool ((qs[i]?.getD noQ).lay) = .bool false by rw [ht2] <;> rfl) (oc (show Value.int .i64 (IntKind.i64.wrap ((netP qs ss r i) + (((ss[i]?.getD 0) * ((qs[i]?.getD noQ).n)) * (2520 / ((qs[i]?.getD noQ).d))))) = .int .i64 ((netP qs ss r i) + (((ss[i]?.getD 0) * ((qs[i]?.getD noQ).n)) * (2520 / ((qs[i]?.getD noQ).d)))) from wrp (by omega)) (oc (show Value.int .i64 (IntKind.i64.wrap ((i : Int) + 1)) = .int .i64 ((i : Int) + 1) from wrp (by omega)) on))) (by kernel_rfl) fun w5 hA => ?_
        refine revals hA (rc 7 (show .int .i64 ((netP qs ss r i) + (((ss[i]?.getD 0) * ((qs[i]?.getD noQ).n)) * (2520 / ((qs[i]?.getD noQ).d)))) = .int .i64 (netP qs ss r (i + 1)) by rw [hstep, hwon]) rn) (by kernel_rfl) fun hA => ?_
        refine revals hA (rc 15 (show .int .i64 ((i : Int) + 1) = .int .i64 ((i + 1 : Nat) : Int) by rw [show ((i + 1 : Nat) : Int) = (i : Int) + 1 by omega]) rn) (by kernel_rfl) fun hA => ?_
        exact again hJ (n - (i + 1)) (i + 1) [true, false] hA (by omega) (by kernel_rfl) (⟨by omega, rfl⟩)
    case neg =>
      refine runS hA 10 [.b false, .k 1, .t 0] xn (oc (eq_f ht1) on) (by kernel_rfl) fun w3 hA => ?_
      have hq9 := Bool.eq_false_or_eq_true ((qs[i]?.getD noQ).lay)
      rcases hq9 with ht3 | ht3
      ·
        have hwon : wonF (qs[i]?.getD noQ) (ss[i]?.getD 0) r = -(-(ss[i]?.getD 0) * 2520) := by unfold wonF; rw [ht3]; simp [ht1]
        refine runS hA 19 [.b true, .v (.int .i64 (-((-(ss[i]?.getD 0)) * 2520))), .v (.int .i64 ((netP qs ss r i) + (-((-(ss[i]?.getD 0)) * 2520)))), .v (.int .i64 ((i : Int) + 1))] xn (oc (show Value.bool ((qs[i]?.getD noQ).lay) = .bool true by rw [ht3] <;> rfl) (oc (show Value.int .i64 (IntKind.i64.wrap (0 - ((-(ss[i]?.getD 0)) * 2520))) = .int .i64 (-((-(ss[i]?.getD 0)) * 2520)) from wrn (by omega)) (oc (show Value.int .i64 (IntKind.i64.wrap ((netP qs ss r i) + (-((-(ss[i]?.getD 0)) * 2520)))) = .int .i64 ((netP qs ss r i) + (-((-(ss[i]?.getD 0)) * 2520))) from wrp (by omega)) (oc (show Value.int .i64 (IntKind.i64.wrap ((i : Int) + 1)) = .int .i64 ((i : Int) + 1) from wrp (by omega)) on)))) (by kernel_rfl) fun w4 hA => ?_
        refine revals hA (rc 7 (show .int .i64 ((netP qs ss r i) + (-((-(ss[i]?.getD 0)) * 2520))) = .int .i64 (netP qs ss r (i + 1)) by rw [hstep, hwon]) rn) (by kernel_rfl) fun hA => ?_
        refine revals hA (rc 15 (show .int .i64 ((i : Int) + 1) = .int .i64 ((i + 1 : Nat) : Int) by rw [show ((i + 1 : Nat) : Int) = (i : Int) + 1 by omega]) rn) (by kernel_rfl) fun hA => ?_
        exact again hJ (n - (i + 1)) (i + 1) [true, false] hA (by omega) (by kernel_rfl) (⟨by omega, rfl⟩)
      ·
        have hwon : wonF (qs[i]?.getD noQ) (ss[i]?.getD 0) r = -(ss[i]?.getD 0) * 2520 := by unfold wonF; rw [ht3]; simp [ht1]
        refine runS hA 15 [.b false, .v (.int .i64 ((netP qs ss r i) + ((-(ss[i]?.getD 0)) * 2520))), .v (.int .i64 ((i : Int) + 1))] xn (oc (show Value.bool ((qs[i]?.getD noQ).lay) = .bool false by rw [ht3] <;> rfl) (oc (show Value.int .i64 (IntKind.i64.wrap ((netP qs ss r i) + ((-(ss[i]?.getD 0)) * 2520))) = .int .i64 ((netP qs ss r i) + ((-(ss[i]?.getD 0)) * 2520)) from wrp (by omega)) (oc (show Value.int .i64 (IntKind.i64.wrap ((i : Int) + 1)) = .int .i64 ((i : Int) + 1) from wrp (by omega)) on))) (by kernel_rfl) fun w4 hA => ?_
        refine revals hA (rc 7 (show .int .i64 ((netP qs ss r i) + ((-(ss[i]?.getD 0)) * 2520)) = .int .i64 (netP qs ss r (i + 1)) by rw [hstep, hwon]) rn) (by kernel_rfl) fun hA => ?_
        refine revals hA (rc 15 (show .int .i64 ((i : Int) + 1) = .int .i64 ((i + 1 : Nat) : Int) by rw [show ((i + 1 : Nat) : Int) = (i : Int) + 1 by omega]) rn) (by kernel_rfl) fun hA => ?_
        exact again hJ (n - (i + 1)) (i + 1) [true, false] hA (by omega) (by kernel_rfl) (⟨by omega, rfl⟩)
end Go.Proofs.Ytfidkgpimlpdbaa

/- odds: winSurely, total, multiple, numbers. -/
namespace Go.Proofs.Ytfidkgpimlpdbaa
open Go.RowKit Go.Shelf

def winF (qs : List Qt) (ss : List Int) (k : Nat) : Bool := (List.range k).all fun r => decide (0 < netF qs ss (r : Int))
theorem win_step (qs : List Qt) (ss : List Int) (k : Nat) : winF qs ss (k + 1) = (winF qs ss k && decide (0 < netF qs ss (k : Int))) := by
  unfold winF
  rw [List.range_succ, List.all_append]
  simp
theorem win_no {qs : List Qt} {ss : List Int} {k n : Nat} (hk : k < n) (h : netF qs ss (k : Int) ≤ 0) : winF qs ss n = false := by
  unfold winF
  rw [List.all_eq_false]
  exact ⟨k, List.mem_range.2 hk, by simp; omega⟩
def sumP (xs : List Int) : Nat → Int
  | 0 => 0
  | i + 1 => sumP xs i + xs[i]?.getD 0
theorem sum_bd {xs : List Int} (h : ∀ x ∈ xs, 0 ≤ x ∧ x ≤ 1099511627776) : ∀ i, i ≤ xs.length → 0 ≤ sumP xs i ∧ sumP xs i ≤ 1099511627776 * (i : Int)
  | 0, _ => by simp [sumP]
  | i + 1, hi => by
    have ih := sum_bd h i (by omega)
    have := h _ (get_mem (d := 0) (show i < xs.length by omega))
    unfold sumP
    omega
theorem within_all {lo hi : Int} {xs : List Int} (h : withinF lo hi xs = true) : ∀ x ∈ xs, lo ≤ x ∧ x ≤ hi := fun x hx => by
  unfold withinF at h
  have := List.all_eq_true.1 h x hx
  simpa using this
def totA (xs : List Int) : Int := if withinF 0 1099511627776 xs = true then sumP xs xs.length else 0
def totB (xs : List Int) : Bool := withinF 0 1099511627776 xs && decide (1 ≤ sumP xs xs.length ∧ sumP xs xs.length ≤ 1099511627776)
def lcmZ (a b : Int) : Int := a / gcdZ a b * b
theorem lcm_quo {a b : Int} (ha : 0 < a) (hb : 0 < b) : 0 < a / gcdZ a b ∧ a / gcdZ a b ≤ a := by
  have hg := gcdZ_pos (a := a) hb
  have h1 := gcdZ_le (a := b) ha
  have hc : gcdZ a b = gcdZ b a := by unfold gcdZ; rw [Int.gcd_comm]
  exact ⟨Int.ediv_pos_of_pos_of_dvd ha (Int.le_of_lt hg) (Int.gcd_dvd_left ..), Int.ediv_le_self _ (Int.le_of_lt ha)⟩
theorem lcm_pos {a b : Int} (ha : 0 < a) (hb : 0 < b) : 0 < lcmZ a b := Int.mul_pos (lcm_quo ha hb).1 hb
def lcmP (xs : List Rt) : Nat → Int
  | 0 => 1
  | i + 1 => lcmZ (lcmP xs i) (xs[i]?.getD (0, 0)).2
def numsF (xs : List Rt) : List Int := xs.map fun r => lcmP xs xs.length / r.2 * r.1
def ints (xs : List Int) : List Value := xs.map (Value.int .i64)
theorem own_cells {w : World} {base g n : Nat} {T : TypeId} {cur : Array Value} {L : List Int} (h : w.heap[g]? = some (.cells cur T (0, 0))) (hg : base ≤ g) (hs : cur.size = n) (hL : L.length = n) (hn : n ≤ 1000000)
    (hc : ∀ j, j < n → cur[j]? = some (.int .i64 (L[j]?.getD 0))) : w.ownsRow base T 1 (.slice (some ⟨g, 0, none⟩) n n) n (ints L) := by
  refine ⟨by simp [ints, hL], .inr ⟨g, n, cur, rfl, hg, h, Nat.le_refl _, by simp only [maxLen]; omega, by omega, ?_⟩⟩
  apply List.ext_getElem?
  intro j
  unfold ints
  rw [List.getElem?_map]
  by_cases hj : j < n
  · rw [List.getElem?_take_of_lt (by omega), Array.getElem?_toList, hc j hj, List.getElem?_eq_getElem (by omega)]
    rfl
  · rw [List.getElem?_eq_none (by simp; omega), List.getElem?_eq_none (by omega)]
    rfl
set_option maxRecDepth 20000 in
theorem winSurely_any (w : World) (B : Nat) (m : Int) (A : Option Addr) (n c : Nat) (mv : Value) (qs : List Qt) (A2 : Option Addr) (c2 : Nat) (ss : List Int) (hx : QtsAt w B A n qs) (hB : B ≤ w.heap.size) (V : ValidM m qs) (hs : IntsAt w B A2 n ss) (S : Stk qs.length ss) :
    Calls Try.prog 89 #[.agg #[.int .i64 m, .slice A n c, mv], .slice A2 n c2] w fun e w' => e = .returned (.bool (winF qs ss m.toNat)) ∧ Below w.heap.size w w' := by
  refine enter 18 Try.func89 (by kernel_rfl) fun hA => ?_
  have hq9 : ∃ M : Nat, m = (M : Int) := ⟨m.toNat, by have := V.few; omega⟩
  obtain ⟨M, hM⟩ := hq9
  have hfew := V.few
  refine runS hA 16 [.k 0] xn on (by kernel_rfl) fun w1 hA => ?_
  refine loop (γ := Nat) (fun i => [(1, .slice A2 n c2), (2, .pointer (some ⟨w.heap.size, 0, none⟩)), (8, .int .i64 m), (9, .int .i64 (i : Int))]) (fun i => [⟨w.heap.size, .cells #[.int .i64 m, .slice A n c, mv] 100 (0, 0)⟩]) (fun _ => []) (fun g i wr => i ≤ M ∧ g = M - i ∧ winF qs ss i = true) M 0 [true] hA (by kernel_rfl) (⟨by omega, rfl, rfl⟩) ?_
  rintro _ i wr ⟨hi, rfl, hwi⟩ J hJ hA
  have hmt : m.toNat = M := by omega
  by_cases hlt : i < M
  case neg =>
    refine runS hA 9 [.b false] xn (oc (dec_f (show ¬ ((i : Int) < m) by omega)) on) (by kernel_rfl) fun w2 hA => ?_
    refine leave hA (by kernel_rfl) fun hA => ?_
    refine runS hA 8 [] xn on (by kernel_rfl) fun w3 hA => ?_
    exact ret (v := .bool true) hA [] (by kernel_rfl) ⟨by rw [hmt, show M = i by omega, hwi], hA.below⟩
  case pos =>
    refine runS hA 22 [.b true, .k 0, .k 0, .k 0] xn (oc (dec_t (show (i : Int) < m by omega)) on) (by kernel_rfl) fun w2 hA => ?_
    refine callB hA [] on (net_any w2 B m A n c mv qs A2 c2 ss (i : Int) (hx.below hA.below hB) (Nat.le_trans hB hA.size) (V) (hs.below hA.below hB) (S)) (by kernel_rfl) fun w3 hb3 hA => ?_
    refine runS hA 3 [.t 0] xn on (by kernel_rfl) fun w4 hA => ?_
    by_cases ht1 : ((netF qs ss (i : Int)) : Int) ≤ (0 : Int)
    case pos =>
      refine runS hA 9 [.b true] xn (oc (dec_t ht1) on) (by kernel_rfl) fun w5 hA => ?_
      refine leave hA (by kernel_rfl) fun hA => ?_
      refine runS hA 2 [] xn on (by kernel_rfl) fun w6 hA => ?_
      exact ret (v := .bool false) hA [] (by kernel_rfl) ⟨by rw [hmt, win_no hlt ht1], hA.below⟩
    case neg =>
      refine runS hA 8 [.b false, .v (.int .i64 ((i : Int) + 1))] xn (oc (dec_f ht1) (oc (show Value.int .i64 (IntKind.i64.wrap ((i : Int) + 1)) = .int .i64 ((i : Int) + 1) from wrp (by omega)) on)) (by kernel_rfl) fun w5 hA => ?_
      refine revals hA (rc 9 (show .int .i64 ((i : Int) + 1) = .int .i64 ((i + 1 : Nat) : Int) by rw [show ((i + 1 : Nat) : Int) = (i : Int) + 1 by omega]) rn) (by kernel_rfl) fun hA => ?_
      exact again hJ (M - (i + 1)) (i + 1) [true] hA (by omega) (by kernel_rfl) (⟨by omega, rfl, by rw [win_step, hwi, decide_eq_true (by omega)]; rfl⟩)
set_option maxRecDepth 20000 in
theorem total_any (w : World) (B : Nat) (A : Option Addr) (n c : Nat) (xs : List Int) (hs : IntsAt w B A n xs) (hB : B ≤ w.heap.size) (hn : n ≤ 5) :
    Calls Try.prog 95 #[.slice A n c] w fun e w' => e = .returned (.tuple #[.int .i64 (totA xs), .bool (totB xs)]) ∧ Below w.heap.size w w' := by
  refine enter 23 Try.func95 (by kernel_rfl) fun hA => ?_
  have hl := hs.1
  refine runS hA 10 [] xn on (by kernel_rfl) fun w1 hA => ?_
  refine callB hA [] on (within_c w1 B 0 1099511627776 A n c xs (hs.below hA.below hB) (Nat.le_trans hB hA.size)) (by kernel_rfl) fun w2 hb2 hA => ?_
  refine runS hA 3 [.t 0] xn on (by kernel_rfl) fun w3 hA => ?_
  have hq9 := Bool.eq_false_or_eq_true ((withinF 0 1099511627776 xs))
  rcases hq9 with ht1 | ht1
  ·
    refine runS hA 12 [.b false] xn (oc (show Value.bool (!(withinF 0 1099511627776 xs)) = .bool false by rw [ht1] <;> rfl) on) (by kernel_rfl) fun w4 hA => ?_
    have hwa := within_all ht1
    refine loop (γ := Nat) (fun i => [(2, .int .i64 (sumP xs i)), (3, .bool false), (9, .slice A n c), (10, .int .i64 n), (11, .int .i64 (i : Int))]) (fun i => []) (fun _ => []) (fun g i wr => i ≤ n ∧ g = n - i) n 0 [] hA (by kernel_rfl) (⟨by omega, rfl⟩) ?_
    rintro _ i wr ⟨hi, rfl⟩ J hJ hA
    have hb0 := sum_bd hwa i (by omega)
    by_cases hlt : i < n
    case pos =>
      have hb1 := sum_bd hwa (i + 1) (by omega)
      have hst : sumP xs (i + 1) = sumP xs i + xs[i]?.getD 0 := rfl
      have hq9 := hs.at (hlt)
      obtain ⟨b, off, rfl, hlb, hcb⟩ := hq9
      have k0 := hcb 0 _ rfl
      refine runS hA 30 [.b true, .i, .x (.int .i64 (xs[i]?.getD 0)), .v (.int .i64 ((sumP xs i) + (xs[i]?.getD 0))), .v (.int .i64 ((i : Int) + 1))] (xc (a := ⟨b, off + i * 1, none⟩) ⟨Nat.lt_of_lt_of_le hlb hB, k0⟩ xn) (oc (dec_t (show (((i : Int) : Int) < (n : Int)) by omega)) (oc (show (0 : Int) ≤ ((i : Int) : Int) ∧ ((i : Int) : Int) < (n : Int) by omega) (oc (show Value.int .i64 (IntKind.i64.wrap ((sumP xs i) + (xs[i]?.getD 0))) = .int .i64 ((sumP xs i) + (xs[i]?.getD 0)) from wrp (by omega)) (oc (show Value.int .i64 (IntKind.i64.wrap ((i : Int) + 1)) = .int .i64 ((i : Int) + 1) from wrp (by omega)) on)))) (by kernel_rfl) fun w5 hA => ?_
      refine revals hA (rc 2 (show .int .i64 ((sumP xs i) + (xs[i]?.getD 0)) = .int .i64 (sumP xs (i + 1)) by rw [hst]) rn) (by kernel_rfl) fun hA => ?_
      refine revals hA (rc 11 (show .int .i64 ((i : Int) + 1) = .int .i64 ((i + 1 : Nat) : Int) by rw [show ((i + 1 : Nat) : Int) = (i : Int) + 1 by omega]) rn) (by kernel_rfl) fun hA => ?_
      exact again hJ (n - (i + 1)) (i + 1) [] hA (by omega) (by kernel_rfl) (⟨by omega, rfl⟩)
    case neg =>
      refine runS hA 9 [.b false] xn (oc (dec_f (show ¬ (((i : Int) : Int) < (n : Int)) by omega)) on) (by kernel_rfl) fun w5 hA => ?_
      refine leave hA (by kernel_rfl) fun hA => ?_
      refine runS hA 7 [] xn on (by kernel_rfl) fun w6 hA => ?_
      have hwi := within_c w6 w6.heap.size 1 1099511627776 (some ⟨wr.heap.size, 0, none⟩) 1 1 [(sumP xs i)] (ints1 (hA.at_.ok ⟨wr.heap.size, .cells #[.int .i64 (sumP xs i)] 2 (0, 0)⟩ (List.mem_of_getElem? (i := 0) (by kernel_rfl)))) (Nat.le_refl _)
      rw [within1] at hwi
      refine callB hA [] on (hwi) (by kernel_rfl) fun w7 hb7 hA => ?_
      refine runS hA 5 [] xn on (by kernel_rfl) fun w8 hA => ?_
      exact ret (v := .tuple #[.int .i64 (sumP xs i), .bool (decide (1 ≤ (sumP xs i) ∧ (sumP xs i) ≤ 1099511627776))]) hA [] (by kernel_rfl) ⟨by simp only [totA, totB]; rw [ht1, show i = xs.length by omega]; rfl, hA.below⟩
  ·
    refine runS hA 9 [.b true] xn (oc (show Value.bool (!(withinF 0 1099511627776 xs)) = .bool true by rw [ht1] <;> rfl) on) (by kernel_rfl) fun w4 hA => ?_
    exact ret (v := .tuple #[.int .i64 0, .bool false]) hA [] (by kernel_rfl) ⟨by simp [totA, totB, ht1], hA.below⟩
set_option maxRecDepth 20000 in
theorem multiple_any (w : World) (a b : Int) (ha : 0 < a ∧ a ≤ 9223372036854775807) (hb : 0 < b ∧ b ≤ 9223372036854775807) (hl : lcmZ a b ≤ 9223372036854775807) :
    Calls Try.prog 114 #[.int .i64 a, .int .i64 b] w fun e w' => e = .returned (.int .i64 (lcmZ a b)) ∧ Below w.heap.size w w' := by
  have hq := lcm_quo ha.1 hb.1
  have hg := gcdZ_pos (a := a) hb.1
  have hp := lcm_pos ha.1 hb.1
  have e9 : lcmZ a b = a / gcdZ a b * b := rfl
  rw [e9] at hp hl
  refine enter 12 Try.func114 (by kernel_rfl) fun hA => ?_
  refine runS hA 10 [] xn on (by kernel_rfl) fun w1 hA => ?_
  refine callB hA [] on (divisor_any w1 a b (by omega) (by omega)) (by kernel_rfl) fun w2 hb2 hA => ?_
  refine runS hA 7 [.v (.int .i64 (a / (gcdZ a b))), .z, .v (.int .i64 ((a / (gcdZ a b)) * b))] xn (oc (show (gcdZ a b) ≠ (0 : Int) by omega) (oc (show Value.int .i64 (IntKind.i64.wrap (Int.tdiv a (gcdZ a b))) = .int .i64 (a / (gcdZ a b)) from wrq (by omega)) (oc (show Value.int .i64 (IntKind.i64.wrap ((a / (gcdZ a b)) * b)) = .int .i64 ((a / (gcdZ a b)) * b) from wrp (by omega)) on))) (by kernel_rfl) fun w3 hA => ?_
  exact ret (v := .int .i64 ((a / (gcdZ a b)) * b)) hA [] (by kernel_rfl) ⟨by rfl, hA.below⟩
end Go.Proofs.Ytfidkgpimlpdbaa

/- odds: numbers. -/
namespace Go.Proofs.Ytfidkgpimlpdbaa
open Go.RowKit Go.Shelf

theorem made_len (z : Array Value) (k : Nat) : (madeCells z k).size = k := size_madeCells _ _
theorem set_cells {cur : Array Value} {L : List Int} {i n : Nat} {v : Value} (hs : cur.size = n) (hi : i < n) (hc : ∀ j, j < i → cur[j]? = some (.int .i64 (L[j]?.getD 0))) (hv : v = .int .i64 (L[i]?.getD 0)) :
    (cur.setIfInBounds i v).size = n ∧ ∀ j, j < i + 1 → (cur.setIfInBounds i v)[j]? = some (.int .i64 (L[j]?.getD 0)) := by
  refine ⟨by rw [Array.size_setIfInBounds]; exact hs, fun j hj => ?_⟩
  rw [Array.getElem?_setIfInBounds]
  by_cases e : i = j
  · subst e
    rw [if_pos rfl, if_pos (by omega), hv]
  · rw [if_neg e]
    exact hc j (by omega)
theorem old_cell {cur : Array Value} {i n : Nat} (hs : cur.size = n) (hi : i < n) : cur[i]? = some (cur[i]?.getD undef) := by
  rw [Array.getElem?_eq_getElem (by omega)]
  rfl
set_option maxHeartbeats 1000000 in
set_option maxRecDepth 20000 in
theorem numbers_any (w : World) (B : Nat) (A : Option Addr) (n c : Nat) (xs : List Rt) (hx : RatsAt w B A n xs) (hB : B ≤ w.heap.size) (hn : n ≤ 1000) (hb : ∀ i, i ≤ n → 0 < lcmP xs i ∧ lcmP xs i ≤ 9000000000000000000) (hd : ∀ r ∈ xs, 0 < r.2 ∧ r.2 ≤ 9000000000000000000) (hr : ∀ r ∈ xs, 0 ≤ r.1 ∧ r.1 ≤ r.2) :
    Calls Try.prog 93 #[.slice A n c] w fun e w' => ∃ A', e = .returned (.slice A' n n) ∧ Below w.heap.size w w' ∧ w'.ownsRow w.heap.size 2 1 (.slice A' n n) n (ints (numsF xs)) := by
  have hl := hx.1
  have hn9 := hx.2.1
  refine enter 42 Try.func93 (by kernel_rfl) fun hA => ?_
  refine runS hA 19 [] xn on (by kernel_rfl) fun w1 hA => ?_
  refine loop (γ := Nat) (fun i => [(0, .slice A n c), (2, .slice none 0 0), (3, .int .i64 (lcmP xs i)), (9, .slice A n c), (10, .int .i64 n), (11, .int .i64 (i : Int))]) (fun i => []) (fun _ => []) (fun g i wr => i ≤ n ∧ g = n - i) n 0 [] hA (by kernel_rfl) (⟨by omega, rfl⟩) ?_
  rintro _ i wr ⟨hi, rfl⟩ J hJ hA
  by_cases hlt : i < n
  case pos =>
    have hq9 := hx.at (hlt)
    obtain ⟨b, off, rfl, hlb, hcb⟩ := hq9
    have k0 := hcb 0 _ rfl
    have k1 := hcb 1 _ rfl
    have h1 := hb i (by omega)
    have h2 := hb (i + 1) (by omega)
    have h3 := hd _ (get_mem (d := (0, 0)) (show i < xs.length by omega))
    have hst : lcmP xs (i + 1) = lcmZ (lcmP xs i) (xs[i]?.getD (0, 0)).2 := rfl
    rw [hst] at h2
    refine runS hA 23 [.b true, .i, .x (.int .i64 ((xs[i]?.getD (0, 0)).1)), .x (.int .i64 ((xs[i]?.getD (0, 0)).2)), .k 0, .k 0, .k 0] (xc (a := ⟨b, off + i * 2, none⟩) ⟨Nat.lt_of_lt_of_le hlb hB, k0⟩ (xc (a := ⟨b, off + i * 2 + 1, none⟩) ⟨Nat.lt_of_lt_of_le hlb hB, k1⟩ xn)) (oc (dec_t (show (((i : Int) : Int) < (n : Int)) by omega)) (oc (show (0 : Int) ≤ ((i : Int) : Int) ∧ ((i : Int) : Int) < (n : Int) by omega) on)) (by kernel_rfl) fun w2 hA => ?_
    refine callB hA [] on (multiple_any w2 (lcmP xs i) ((xs[i]?.getD (0, 0)).2) (by omega) (by omega) (by omega)) (by kernel_rfl) fun w3 hb3 hA => ?_
    refine runS hA 8 [.v (.int .i64 ((i : Int) + 1))] xn (oc (show Value.int .i64 (IntKind.i64.wrap ((i : Int) + 1)) = .int .i64 ((i : Int) + 1) from wrp (by omega)) on) (by kernel_rfl) fun w4 hA => ?_
    refine revals hA (rc 3 (show .int .i64 (lcmZ (lcmP xs i) ((xs[i]?.getD (0, 0)).2)) = .int .i64 (lcmP xs (i + 1)) by rw [hst]) rn) (by kernel_rfl) fun hA => ?_
    refine revals hA (rc 11 (show .int .i64 ((i : Int) + 1) = .int .i64 ((i + 1 : Nat) : Int) by rw [show ((i + 1 : Nat) : Int) = (i : Int) + 1 by omega]) rn) (by kernel_rfl) fun hA => ?_
    exact again hJ (n - (i + 1)) (i + 1) [false] hA (by omega) (by kernel_rfl) (⟨by omega, rfl⟩)
  case neg =>
    obtain rfl : i = n := by omega
    refine runS hA 9 [.b false] xn (oc (dec_f (show ¬ (((i : Int) : Int) < (i : Int)) by omega)) on) (by kernel_rfl) fun w2 hA => ?_
    refine leave hA (by kernel_rfl) fun hA => ?_
    refine runS hA 6 [] xn on (by kernel_rfl) fun w3 hA => ?_
    refine mkS (t := 45) (e := 2) (z := .int .i64 0) (size := 1) (bytes := 8) (n := i) (l := (i : Int)) (kl := .i64) (kc := .i64) hA rfl (by kernel_rfl) (by omega) (by omega) fun w4 hzm hbm hA => ?_
    refine runS hA 12 [] xn on (by kernel_rfl) fun w5 hA => ?_
    have hnl : (numsF xs).length = i := by unfold numsF; rw [List.length_map]; exact hl
    have hms : (madeCells (Value.int .i64 0).cells (i * 1)).size = i := by rw [made_len, Nat.mul_one]
    have hbT := hb i (by omega)
    refine loop (γ := Nat × Array Value) (fun ⟨j, cur⟩ => [(0, .slice A i c), (2, .slice none 0 0), (3, .int .i64 (lcmP xs i)), (6, .slice (some ⟨w3.heap.size, 0, none⟩) i i), (9, .slice A i c), (10, .int .i64 i), (11, .int .i64 (i : Int)), (23, .slice A i c), (24, .int .i64 i), (25, .int .i64 (j : Int))]) (fun ⟨j, cur⟩ => [⟨w3.heap.size, .cells cur 2 (0, 0)⟩]) (fun _ => []) (fun g ⟨j, cur⟩ wt => j ≤ i ∧ g = i - j ∧ cur.size = i ∧ ∀ k, k < j → cur[k]? = some (.int .i64 ((numsF xs)[k]?.getD 0))) i ⟨0, (madeCells (Value.int .i64 0).cells (i * 1))⟩ [true] hA (by kernel_rfl) (⟨by omega, rfl, hms, fun k hk => absurd hk (by omega)⟩) ?_
    rintro _ ⟨j, cur⟩ wt ⟨hj, rfl, hcs, hcc⟩ J2 hJ2 hA
    by_cases hlj : j < i
    case pos =>
      have hq9 := hx.at (hlj)
      obtain ⟨b, off, rfl, hlb, hcb⟩ := hq9
      have k0 := hcb 0 _ rfl
      have k1 := hcb 1 _ rfl
      have h3 := hd _ (get_mem (d := (0, 0)) (show j < xs.length by omega))
      have h4 := hr _ (get_mem (d := (0, 0)) (show j < xs.length by omega))
      have hq0 : 0 ≤ lcmP xs i / (xs[j]?.getD (0, 0)).2 := Int.ediv_nonneg (by omega) (by omega)
      have hq1 : lcmP xs i / (xs[j]?.getD (0, 0)).2 * (xs[j]?.getD (0, 0)).2 ≤ lcmP xs i := Int.ediv_mul_le _ (by omega)
      have hq2 := Int.mul_le_mul_of_nonneg_left h4.2 hq0
      have hq3 := Int.mul_nonneg hq0 h4.1
      have hval : (numsF xs)[j]?.getD 0 = lcmP xs i / (xs[j]?.getD (0, 0)).2 * (xs[j]?.getD (0, 0)).1 := by unfold numsF; rw [hl, List.getElem?_map, List.getElem?_eq_getElem (by omega)]; rfl
      refine runS hA 21 [.b true, .i, .x (.int .i64 ((xs[j]?.getD (0, 0)).1)), .x (.int .i64 ((xs[j]?.getD (0, 0)).2)), .k 1, .k 1] (xc (a := ⟨b, off + j * 2, none⟩) ⟨Nat.lt_of_lt_of_le hlb hB, k0⟩ (xc (a := ⟨b, off + j * 2 + 1, none⟩) ⟨Nat.lt_of_lt_of_le hlb hB, k1⟩ xn)) (oc (dec_t (show (((j : Int) : Int) < (i : Int)) by omega)) (oc (show (0 : Int) ≤ ((j : Int) : Int) ∧ ((j : Int) : Int) < (i : Int) by omega) on)) (by kernel_rfl) fun w6 hA => ?_
      refine draw hA [false, true] [0, 1, 2, 3, 4, 5, 6, 7, 8, 9, 10] (by kernel_rfl) (by kernel_rfl) fun hA => ?_
      refine runS hA 18 [.t 0, .t 1, .t 2, .t 3, .t 4, .k 0, .t 5, .v (.int .i64 ((lcmP xs i) / ((xs[j]?.getD (0, 0)).2))), .z, .t 6, .t 7, .k 0, .t 8, .v (.int .i64 (((lcmP xs i) / ((xs[j]?.getD (0, 0)).2)) * ((xs[j]?.getD (0, 0)).1))), .t 9, .i, .h 10, .y 0 ((cur[j]?.getD undef)), .b true, .v (.int .i64 ((j : Int) + 1))] xn (oc (show ((xs[j]?.getD (0, 0)).2) ≠ (0 : Int) by omega) (oc (show Value.int .i64 (IntKind.i64.wrap (Int.tdiv (lcmP xs i) ((xs[j]?.getD (0, 0)).2))) = .int .i64 ((lcmP xs i) / ((xs[j]?.getD (0, 0)).2)) from wrq (by omega)) (oc (show Value.int .i64 (IntKind.i64.wrap (((lcmP xs i) / ((xs[j]?.getD (0, 0)).2)) * ((xs[j]?.getD (0, 0)).1))) = .int .i64 (((lcmP xs i) / ((xs[j]?.getD (0, 0)).2)) * ((xs[j]?.getD (0, 0)).1)) from wrp (by omega)) (oc (show (0 : Int) ≤ ((j : Int) : Int) ∧ ((j : Int) : Int) < (i : Int) by omega) (oc (show cur[0 + j * 1]? = some ((cur[j]?.getD undef)) from by rw [Nat.zero_add, Nat.mul_one]; exact old_cell hcs hlj) (oc (show Value.int .i64 (IntKind.i64.wrap ((j : Int) + 1)) = .int .i64 ((j : Int) + 1) from wrp (by omega)) on)))))) (by kernel_rfl) fun w7 hA => ?_
      refine revals hA (rc 25 (show .int .i64 ((j : Int) + 1) = .int .i64 ((j + 1 : Nat) : Int) by rw [show ((j + 1 : Nat) : Int) = (j : Int) + 1 by omega]) rn) (by kernel_rfl) fun hA => ?_
      have hset := set_cells (v := .int .i64 (lcmP xs i / (xs[j]?.getD (0, 0)).2 * (xs[j]?.getD (0, 0)).1)) hcs hlj hcc (by rw [hval])
      have hs9 : (cur.setIfInBounds (0 + j * 1) (.int .i64 ((lcmP xs i / (xs[j]?.getD (0, 0)).2) * (xs[j]?.getD (0, 0)).1))) = cur.setIfInBounds j (.int .i64 (lcmP xs i / (xs[j]?.getD (0, 0)).2 * (xs[j]?.getD (0, 0)).1)) := by rw [Nat.zero_add, Nat.mul_one]
      have hAk9 : At w w7 [⟨w3.heap.size, .cells (cur.setIfInBounds j (.int .i64 (lcmP xs i / (xs[j]?.getD (0, 0)).2 * (xs[j]?.getD (0, 0)).1))) 2 (0, 0)⟩, ⟨wt.heap.size, .cells #[.int .i64 ((xs[j]?.getD (0, 0)).1), .int .i64 ((xs[j]?.getD (0, 0)).2)] 23 (0, 0)⟩] [] w7.heap.size := by rw [← hs9]; exact (hA.atK [⟨w3.heap.size, .cells (cur.setIfInBounds (0 + j * 1) (.int .i64 (((lcmP xs i) / ((xs[j]?.getD (0, 0)).2)) * ((xs[j]?.getD (0, 0)).1)))) 2 (0, 0)⟩, ⟨wt.heap.size, .cells #[.int .i64 ((xs[j]?.getD (0, 0)).1), .int .i64 ((xs[j]?.getD (0, 0)).2)] 23 (0, 0)⟩] (by kernel_rfl)).resize
      refine reknow ⟨[⟨w3.heap.size, .cells (cur.setIfInBounds j (.int .i64 (lcmP xs i / (xs[j]?.getD (0, 0)).2 * (xs[j]?.getD (0, 0)).1))) 2 (0, 0)⟩, ⟨wt.heap.size, .cells #[.int .i64 ((xs[j]?.getD (0, 0)).1), .int .i64 ((xs[j]?.getD (0, 0)).2)] 23 (0, 0)⟩], w7.heap.size, [], [], [], [], []⟩ hAk9 (Nat.zero_le _) fun hA => ?_
      exact again hJ2 (i - (j + 1)) (⟨j + 1, (cur.setIfInBounds j (.int .i64 (lcmP xs i / (xs[j]?.getD (0, 0)).2 * (xs[j]?.getD (0, 0)).1)))⟩) [true, false] hA (by omega) (by kernel_rfl) (⟨by omega, rfl, hset.1, hset.2⟩)
    case neg =>
      obtain rfl : j = i := by omega
      refine runS hA 9 [.b false] xn (oc (dec_f (show ¬ (((j : Int) : Int) < (j : Int)) by omega)) on) (by kernel_rfl) fun w6 hA => ?_
      refine leave hA (by kernel_rfl) fun hA => ?_
      refine runS hA 9 [] xn on (by kernel_rfl) fun w7 hA => ?_
      have hown := own_cells (base := w.heap.size) (hA.at_.ok ⟨w3.heap.size, .cells cur 2 (0, 0)⟩ (List.mem_of_getElem? (i := 0) (by kernel_rfl))) (hA.at_.low ⟨w3.heap.size, .cells cur 2 (0, 0)⟩ (List.mem_of_getElem? (i := 0) (by kernel_rfl))) hcs hnl (by omega) hcc
      exact ret (v := .slice (some ⟨w3.heap.size, 0, none⟩) j j) hA [] (by kernel_rfl) ⟨_, rfl, hA.below, hown⟩
end Go.Proofs.Ytfidkgpimlpdbaa

/- odds: the best quotes. -/
namespace Go.Proofs.Ytfidkgpimlpdbaa
open Go.RowKit Go.Shelf

def sideV (x : Int × Bool) : Value := .agg #[.int .i64 x.1, .bool x.2]
theorem checkKey_sd (em : Bool) (p : Int × Bool) (w : World) : (Instr.checkKey em 10000 129 (sideV p)).run Try.prog w = .ok () w := by kernel_rfl
theorem part_sd0 (p : Int × Bool) (w : World) : (part 3 #[.int .i64 p.1, .bool p.2] 0).run Try.prog w = .ok (.int .i64 p.1) w := by kernel_rfl
theorem part_sd1 (p : Int × Bool) (w : World) : (part 4 #[.int .i64 p.1, .bool p.2] 1).run Try.prog w = .ok (.bool p.2) w := by kernel_rfl
theorem eqIntD (d : Nat) (x y : Int) (w : World) : (Op.equalIn (d + 1) 3 (.int .i64 x) (.int .i64 y)).run Try.prog w = .ok (decide (x = y)) w := by
  rw [run_equalIn_int w d 3 .i64 .i64 x y Try.underlying3]
  rfl
theorem eqBoolD (d : Nat) (x y : Bool) (w : World) : (Op.equalIn (d + 1) 4 (.bool x) (.bool y)).run Try.prog w = .ok (decide (x = y)) w := by
  rw [run_equalIn_bool' w d 4 x y Try.underlying4]
  cases x <;> cases y <;> rfl
theorem equal_sd (p q : Int × Bool) (w : World) : (Op.equal 129 (sideV p) (sideV q)).run Try.prog w = .ok (decide (p = q)) w := by
  have hiff : decide (p = q) = (decide (p.1 = q.1) && decide (p.2 = q.2)) := by
    obtain ⟨n, a⟩ := p
    obtain ⟨n', a'⟩ := q
    simp
  rw [hiff]
  unfold Op.equal Op.maxDepth sideV
  rw [show (10000 : Nat) = 9999 + 1 from rfl, run_equalIn_struct w 9999 129 _ _ (by kernel_rfl) (by kernel_rfl)]
  have hfs : (Try.prog.fieldsOf 129).toList = [((Try.prog.fieldsOf 129)[0]?).getD default, ((Try.prog.fieldsOf 129)[1]?).getD default] := by kernel_rfl
  have n1 : (((Try.prog.fieldsOf 129)[0]?).getD default).name = "runner" := by kernel_rfl
  have t1 : (((Try.prog.fieldsOf 129)[0]?).getD default).type = 3 := by kernel_rfl
  have o1 : (((Try.prog.fieldsOf 129)[0]?).getD default).offset = 0 := by kernel_rfl
  have n2 : (((Try.prog.fieldsOf 129)[1]?).getD default).name = "lay" := by kernel_rfl
  have t2 : (((Try.prog.fieldsOf 129)[1]?).getD default).type = 4 := by kernel_rfl
  have o2 : (((Try.prog.fieldsOf 129)[1]?).getD default).offset = 1 := by kernel_rfl
  generalize ((Try.prog.fieldsOf 129)[0]?).getD default = f1 at *
  generalize ((Try.prog.fieldsOf 129)[1]?).getD default = f2 at *
  rw [hfs]
  have w1 : f1.name ≠ "_" := by rw [n1]; decide
  have w2 : f2.name ≠ "_" := by rw [n2]; decide
  simp only [Op.eqFields, w1, w2, t1, t2, o1, o2, ne_eq, not_false_eq_true, if_true, Sem.run_bind, part_sd0, Result.andThen_ok, eqIntD]
  cases decide (p.1 = q.1)
  · simp
  simp only [Sem.run_bind, part_sd1, Result.andThen_ok, eqBoolD, Bool.not_true, if_false, Bool.true_and, Bool.false_eq_true]
  cases decide (p.2 = q.2) <;> simp
theorem keySide : KeyT Try.prog 129 sideV := ⟨checkKey_sd, equal_sd, fun p => by simp [sideV, Instr.sameBits], by kernel_rfl⟩
def idxV (i : Nat) : Value := .int .i64 (i : Int)
theorem strict_ok {m : Int} {qs : List Qt} (V : ValidM m qs) {i : Nat} (h : i < qs.length) : (0 ≤ (qs[i]?.getD noQ).n ∧ (qs[i]?.getD noQ).n ≤ 190) ∧ 1 ≤ (qs[i]?.getD noQ).d ∧ (qs[i]?.getD noQ).d ≤ 10 := (V.all _ (get_mem h)).2
/-- Whether a quote is stricter than another one. -/
def stricF (qs : List Qt) (i j : Nat) : Bool := !fairF (qs[i]?.getD noQ).n (qs[i]?.getD noQ).d (qs[i]?.getD noQ).lay (bndF (qs[j]?.getD noQ).n (qs[j]?.getD noQ).d).1 (bndF (qs[j]?.getD noQ).n (qs[j]?.getD noQ).d).2
def sideF (q : Qt) : Int × Bool := (q.r, q.lay)
def bstep (qs : List Qt) (M : List ((Int × Bool) × Nat)) (i : Nat) : List ((Int × Bool) × Nat) :=
  match mfind (sideF (qs[i]?.getD noQ)) M with
  | some r => mset (sideF (qs[i]?.getD noQ)) (if stricF qs i r.2 then i else r.2) M
  | none => mset (sideF (qs[i]?.getD noQ)) i M
def bestM (qs : List Qt) : Nat → List ((Int × Bool) × Nat)
  | 0 => []
  | i + 1 => bstep qs (bestM qs i) i
theorem mem_mset {κ α : Type} [DecidableEq κ] {p : κ} {v : α} : ∀ {m : List (κ × α)} {e : κ × α}, e ∈ mset p v m → e = (p, v) ∨ e ∈ m
  | [], e, h => by
    have : e ∈ [(p, v)] := h
    exact .inl (List.mem_singleton.1 this)
  | x :: m, e, h => by
    have h : e ∈ (if p = x.1 then (x.1, v) :: m else x :: mset p v m) := h
    split at h
    · rename_i hx
      rcases List.mem_cons.1 h with rfl | h
      · exact .inl (by rw [hx])
      · exact .inr (List.mem_cons_of_mem _ h)
    · rcases List.mem_cons.1 h with rfl | h
      · exact .inr List.mem_cons_self
      · exact (mem_mset h).imp id (List.mem_cons_of_mem _)
theorem bestM_lt (qs : List Qt) : ∀ (i : Nat) (e : (Int × Bool) × Nat), e ∈ bestM qs i → e.2 < i ∧ e.1 = sideF (qs[e.2]?.getD noQ)
  | 0, e, h => nomatch h
  | i + 1, e, h => by
    have ih := bestM_lt qs i
    unfold bestM bstep at h
    split at h
    · rename_i r hr
      have hm := mfind_at hr
      have hmem : (sideF (qs[i]?.getD noQ), r.2) ∈ bestM qs i := List.mem_of_getElem? hm.2
      rcases mem_mset h with rfl | h
      · have := ih _ hmem
        simp only at this ⊢
        split
        · exact ⟨by omega, rfl⟩
        · exact ⟨by omega, this.2⟩
      · have := ih e h
        exact ⟨by omega, this.2⟩
    · rcases mem_mset h with rfl | h
      · exact ⟨by simp, rfl⟩
      · have := ih e h
        exact ⟨by omega, this.2⟩
set_option maxRecDepth 20000 in
theorem isStricter_any (w : World) (B : Nat) (m : Int) (A : Option Addr) (n c : Nat) (mv : Value) (qs : List Qt) (i j : Nat) (hx : QtsAt w B A n qs) (hB : B ≤ w.heap.size) (V : ValidM m qs) (hi : i < n) (hj : j < n) :
    Calls Try.prog 124 #[.agg #[.int .i64 m, .slice A n c, mv], .int .i64 (i : Int), .int .i64 (j : Int)] w fun e w' => e = .returned (.bool (stricF qs i j)) ∧ Below w.heap.size w w' := by
  have hl := hx.1
  have hqi := strict_ok V (i := i) (by omega)
  have hqj := strict_ok V (i := j) (by omega)
  have hbj := bnd_ok hqj.1 hqj.2
  refine enter 22 Try.func124 (by kernel_rfl) fun hA => ?_
  refine runS hA 7 [] xn on (by kernel_rfl) fun w1 hA => ?_
  have hq9 := hx.2.2 (by omega)
  obtain ⟨b, off, rfl, hlb, hcb⟩ := hq9
  have k0 := hcb i (by omega) 0 _ rfl
  have k1 := hcb i (by omega) 1 _ rfl
  have k2 := hcb i (by omega) 2 _ rfl
  have k3 := hcb i (by omega) 3 _ rfl
  have s0 := hcb j (by omega) 0 _ rfl
  have s1 := hcb j (by omega) 1 _ rfl
  have s2 := hcb j (by omega) 2 _ rfl
  have s3 := hcb j (by omega) 3 _ rfl
  refine draw hA [true] [0, 1, 2, 3, 4, 5, 6, 7, 8, 9, 10, 11, 12, 13, 14, 15] (by kernel_rfl) (by kernel_rfl) fun hA => ?_
  refine runS hA 12 [.t 0, .t 1, .t 2, .k 0, .t 3, .t 4, .i, .t 5, .x (.int .i64 ((qs[i]?.getD noQ).r)), .x (.int .i64 ((qs[i]?.getD noQ).n)), .x (.int .i64 ((qs[i]?.getD noQ).d)), .x (.bool ((qs[i]?.getD noQ).lay)), .t 6, .t 7, .t 8, .k 0, .t 9, .t 10, .i, .t 11, .x (.int .i64 ((qs[j]?.getD noQ).r)), .x (.int .i64 ((qs[j]?.getD noQ).n)), .x (.int .i64 ((qs[j]?.getD noQ).d)), .x (.bool ((qs[j]?.getD noQ).lay))] (xc (a := ⟨b, off + i * 4, none⟩) ⟨Nat.lt_of_lt_of_le hlb hB, k0⟩ (xc (a := ⟨b, off + i * 4 + 1, none⟩) ⟨Nat.lt_of_lt_of_le hlb hB, k1⟩ (xc (a := ⟨b, off + i * 4 + 2, none⟩) ⟨Nat.lt_of_lt_of_le hlb hB, k2⟩ (xc (a := ⟨b, off + i * 4 + 3, none⟩) ⟨Nat.lt_of_lt_of_le hlb hB, k3⟩ (xc (a := ⟨b, off + j * 4, none⟩) ⟨Nat.lt_of_lt_of_le hlb hB, s0⟩ (xc (a := ⟨b, off + j * 4 + 1, none⟩) ⟨Nat.lt_of_lt_of_le hlb hB, s1⟩ (xc (a := ⟨b, off + j * 4 + 2, none⟩) ⟨Nat.lt_of_lt_of_le hlb hB, s2⟩ (xc (a := ⟨b, off + j * 4 + 3, none⟩) ⟨Nat.lt_of_lt_of_le hlb hB, s3⟩ xn)))))))) (oc (show (0 : Int) ≤ ((i : Int) : Int) ∧ ((i : Int) : Int) < (n : Int) by omega) (oc (show (0 : Int) ≤ ((j : Int) : Int) ∧ ((j : Int) : Int) < (n : Int) by omega) on)) (by kernel_rfl) fun w2 hA => ?_
  refine callB hA [] on (bound_any w2 ((qs[j]?.getD noQ).r) ((qs[j]?.getD noQ).n) ((qs[j]?.getD noQ).d) ((qs[j]?.getD noQ).lay) (by omega) (by omega)) (by kernel_rfl) fun w3 hb3 hA => ?_
  refine callB hA [] on (isFair_any w3 ((qs[i]?.getD noQ).r) ((qs[i]?.getD noQ).n) ((qs[i]?.getD noQ).d) ((qs[i]?.getD noQ).lay) ((bndF ((qs[j]?.getD noQ).n) ((qs[j]?.getD noQ).d)).1) ((bndF ((qs[j]?.getD noQ).n) ((qs[j]?.getD noQ).d)).2) (by omega) (by omega) ((by omega)) ((by omega))) (by kernel_rfl) fun w4 hb4 hA => ?_
  refine runS hA 5 [.t 14, .t 15, .b true] xn on (by kernel_rfl) fun w5 hA => ?_
  exact ret (v := .bool (!(fairF ((qs[i]?.getD noQ).n) ((qs[i]?.getD noQ).d) ((qs[i]?.getD noQ).lay) ((bndF ((qs[j]?.getD noQ).n) ((qs[j]?.getD noQ).d)).1) ((bndF ((qs[j]?.getD noQ).n) ((qs[j]?.getD noQ).d)).2)))) hA [] (by kernel_rfl) ⟨rfl, hA.below⟩
set_option maxRecDepth 20000 in
theorem bestI_any (w : World) (B : Nat) (m : Int) (A : Option Addr) (n c : Nat) (mv : Value) (qs : List Qt) (i j g : Nat) (hx : QtsAt w B A n qs) (hB : B ≤ w.heap.size) (V : ValidM m qs) (hi : i < n) (hj : j < n) (hg : w.heap[g]? = some (.cells #[.int .i64 (j : Int), .int .i64 (i : Int)] 3 (0, 0))) :
    Calls Try.prog 123 #[.func (.func 124) #[.agg #[.int .i64 m, .slice A n c, mv]] #[], .slice (some ⟨g, 0, none⟩) 2 2] w fun e w' => e = .returned (.int .i64 ((if stricF qs i j then i else j : Nat) : Int)) ∧ Below w.heap.size w w' := by
  refine enter 25 Try.func123 (by kernel_rfl) fun hA => ?_
  have hgl : g < w.heap.size := (Array.getElem?_eq_some_iff.1 hg).1
  refine runS hA 23 [.x (.int .i64 (j : Int)), .i] (xc (a := ⟨g, 0, none⟩) ⟨hgl, cell_of_obj hg rfl rfl⟩ xn) (oc (show (0 : Int) ≤ (1 : Int) ∧ (1 : Int) ≤ (2 : Int) ∧ (2 : Int) ≤ (2 : Int) ∧ (2 : Int) ≤ (2 : Int) by omega) on) (by kernel_rfl) fun w1 hA => ?_
  refine loop (γ := Nat × Nat) (fun ⟨k, x⟩ => [(0, .func (.func 124) #[.agg #[.int .i64 m, .slice A n c, mv]] #[]), (4, .int .i64 0), (5, .int .i64 (x : Int)), (12, .slice (some ⟨g, 1, none⟩) 1 1), (13, .int .i64 1), (14, .int .i64 (k : Int))]) (fun ⟨k, x⟩ => []) (fun _ => []) (fun g ⟨k, x⟩ wr => g = 1 - k ∧ ((k = 0 ∧ x = j) ∨ (k = 1 ∧ x = if stricF qs i j then i else j))) 1 ⟨0, j⟩ [] hA (by kernel_rfl) (⟨rfl, .inl ⟨rfl, rfl⟩⟩) ?_
  rintro _ ⟨k, x⟩ wr ⟨rfl, (⟨rfl, rfl⟩ | ⟨rfl, hxy⟩)⟩ J hJ hA
  ·
    refine runS hA 23 [.x (.int .i64 (i : Int))] (xc (a := ⟨g, 1, none⟩) ⟨hgl, cell_of_obj hg rfl rfl⟩ xn) on (by kernel_rfl) fun w2 hA => ?_
    refine callB hA [] on (isStricter_any w2 B m A n c mv qs i x (hx.below hA.below hB) (Nat.le_trans hB hA.size) V hi hj) (by kernel_rfl) fun w3 hb3 hA => ?_
    have hq9 := Bool.eq_false_or_eq_true ((stricF qs i x))
    rcases hq9 with ht1 | ht1
    ·
      refine runS hA 13 [.b true, .v (.int .i64 1)] xn (oc (show Value.bool (stricF qs i x) = .bool true by rw [ht1] <;> rfl) (oc (show (.int .i64 1 : Value) = .int .i64 1 from rfl) on)) (by kernel_rfl) fun w4 hA => ?_
      exact again hJ 0 ⟨1, i⟩ [] hA (by omega) (by kernel_rfl) ⟨rfl, .inr ⟨rfl, by simp [ht1]⟩⟩
    ·
      refine runS hA 10 [.b false, .v (.int .i64 1)] xn (oc (show Value.bool (stricF qs i x) = .bool false by rw [ht1] <;> rfl) (oc (show (.int .i64 1 : Value) = .int .i64 1 from rfl) on)) (by kernel_rfl) fun w4 hA => ?_
      exact again hJ 0 ⟨1, x⟩ [] hA (by omega) (by kernel_rfl) ⟨rfl, .inr ⟨rfl, by simp [ht1]⟩⟩
  ·
    refine runS hA 9 [] xn on (by kernel_rfl) fun w2 hA => ?_
    refine leave hA (by kernel_rfl) fun hA => ?_
    refine runS hA 9 [] xn on (by kernel_rfl) fun w3 hA => ?_
    exact ret (v := .int .i64 (x : Int)) hA [] (by kernel_rfl) ⟨by rw [hxy], hA.below⟩
end Go.Proofs.Ytfidkgpimlpdbaa
