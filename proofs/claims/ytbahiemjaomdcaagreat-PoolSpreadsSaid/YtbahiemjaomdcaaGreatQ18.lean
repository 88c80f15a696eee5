/- PoolSpreads answers true whatever the book; the argument reads behind the call as it did. No condition. -/
import Derived.Test.YtbahiemjaomdcaaGreatQ17
import Derived.Test.YtbahiemjaomdcaaGreatRows
import Derived.WalkKit
import Derived.ProofKit
import Derived.OpenShut
import Derived.Carry
import Derived.Deep.Slices
import Derived.ChangeSame

/- pool: the finishes of at most three groups, by number. -/
namespace Go.Proofs.YtbahiemjaomdcaaGreat
open Go.RowKit Go.Shelf

theorem dig_exists (d : Nat → Nat) (hd : ∀ i, d i < 3) : ∀ n, ∃ k, k < 3 ^ n ∧ ∀ i, i < n → k / 3 ^ i % 3 = d i
  | 0 => ⟨0, by decide, fun i hi => absurd hi (Nat.not_lt_zero i)⟩
  | n + 1 => by
    obtain ⟨k, hk, h⟩ := dig_exists d hd n
    refine ⟨k + d n * 3 ^ n, ?_, fun i hi => ?_⟩
    · have h1 := hd n
      have h2 : d n * 3 ^ n ≤ 2 * 3 ^ n := Nat.mul_le_mul_right _ (by omega)
      rw [Nat.pow_succ]
      omega
    · have hp : 0 < 3 ^ i := Nat.pow_pos (by decide)
      by_cases e : i = n
      · subst e
        rw [Nat.add_mul_div_right _ _ hp, Nat.div_eq_of_lt hk, Nat.zero_add, Nat.mod_eq_of_lt (hd i)]
      · have hi2 : i < n := by omega
        obtain ⟨j, rfl⟩ : ∃ j, n = i + 1 + j := ⟨n - i - 1, by omega⟩
        have e2 : d (i + 1 + j) * 3 ^ (i + 1 + j) = (d (i + 1 + j) * 3 ^ j * 3) * 3 ^ i := by
          rw [Nat.pow_add, Nat.pow_succ]
          simp only [Nat.mul_assoc, Nat.mul_comm, Nat.mul_left_comm]
        rw [e2, Nat.add_mul_div_right _ _ hp, Nat.add_mul_mod_self_right]
        exact h i hi2
theorem ite3_lt (p q : Prop) [Decidable p] [Decidable q] : (if p then 0 else if q then 1 else 2) < 3 := by
  by_cases hp : p
  · rw [if_pos hp]; decide
  · rw [if_neg hp]
    by_cases hq : q
    · rw [if_pos hq]; decide
    · rw [if_neg hq]; decide
/-- The runners whose digit is j, of the first n. -/
def g3 (rs : List Int) (k j : Nat) : Nat → List Int
  | 0 => []
  | i + 1 => g3 rs k j i ++ if k / 3 ^ i % 3 = j then [rs[i]?.getD 0] else []
theorem g3_mem {rs : List Int} {k j : Nat} {x : Int} : ∀ {n : Nat}, x ∈ g3 rs k j n ↔ ∃ i, i < n ∧ rs[i]?.getD 0 = x ∧ k / 3 ^ i % 3 = j
  | 0 => by simp [g3]
  | n + 1 => by
    rw [g3, List.mem_append, g3_mem (n := n)]
    constructor
    · rintro (⟨i, h1, h2⟩ | h)
      · exact ⟨i, by omega, h2⟩
      · split at h
        · rename_i h1
          exact ⟨n, by omega, (List.mem_singleton.1 h).symm, h1⟩
        · cases h
    · rintro ⟨i, h1, h2, h3⟩
      by_cases e : i = n
      · subst e
        right
        rw [if_pos h3]
        exact List.mem_singleton.2 h2.symm
      · exact .inl ⟨i, by omega, h2, h3⟩
theorem g3_len (rs : List Int) (k j : Nat) : ∀ n, (g3 rs k j n).length ≤ n
  | 0 => Nat.le_refl _
  | n + 1 => by
    have := g3_len rs k j n
    rw [g3, List.length_append]
    split <;> simp <;> omega
theorem g3_pw {rs : List Int} (hp : rs.Pairwise fun x y => x < y) (k j : Nat) : ∀ n, n ≤ rs.length → (g3 rs k j n).Pairwise fun x y => x < y
  | 0, _ => List.Pairwise.nil
  | n + 1, h => by
    rw [g3, List.pairwise_append]
    refine ⟨g3_pw hp k j n (by omega), by split <;> simp, fun x hx y hy => ?_⟩
    obtain ⟨i, h1, rfl, -⟩ := g3_mem.1 hx
    split at hy
    · rw [List.mem_singleton.1 hy, List.getElem?_eq_getElem (show i < rs.length by omega), List.getElem?_eq_getElem (show n < rs.length by omega)]
      exact List.pairwise_iff_getElem.1 hp i n (by omega) (by omega) h1
    · cases hy
theorem at_inj {rs : List Int} (hn : rs.Nodup) {i j : Nat} (hi : i < rs.length) (hj : j < rs.length) (h : rs[i]?.getD 0 = rs[j]?.getD 0) : i = j := by
  rw [List.getElem?_eq_getElem hi, List.getElem?_eq_getElem hj] at h
  exact (List.getElem_inj hn).1 h
/-- The groups of a number; its finish; whether no group before another is empty. -/
def gr3 (rs : List Int) (k j : Nat) : List Int := g3 rs k j rs.length
def f3 (rs : List Int) (k : Nat) : List (List Int) := [gr3 rs k 0, gr3 rs k 1, gr3 rs k 2].filter fun F => decide (F ≠ [])
def ok3 (rs : List Int) (k : Nat) : Prop := gr3 rs k 0 ≠ [] ∧ (gr3 rs k 1 = [] → gr3 rs k 2 = [])
instance (rs : List Int) (k : Nat) : Decidable (ok3 rs k) := inferInstanceAs (Decidable (_ ∧ _))
theorem f3_one {rs : List Int} {k : Nat} (h0 : gr3 rs k 0 ≠ []) (h1 : gr3 rs k 1 = []) (h2 : gr3 rs k 2 = []) : f3 rs k = [gr3 rs k 0] := by
  unfold f3
  simp [h0, h1, h2]
theorem f3_two {rs : List Int} {k : Nat} (h0 : gr3 rs k 0 ≠ []) (h1 : gr3 rs k 1 ≠ []) (h2 : gr3 rs k 2 = []) : f3 rs k = [gr3 rs k 0, gr3 rs k 1] := by
  unfold f3
  simp [h0, h1, h2]
theorem f3_three {rs : List Int} {k : Nat} (h0 : gr3 rs k 0 ≠ []) (h1 : gr3 rs k 1 ≠ []) (h2 : gr3 rs k 2 ≠ []) : f3 rs k = [gr3 rs k 0, gr3 rs k 1, gr3 rs k 2] := by
  unfold f3
  simp [h0, h1, h2]
theorem racN_pw (b : Bk) : (racN b).Pairwise fun x y => x < y := by
  have key : ∀ k, (racL b k).Pairwise fun x y => x < y := by
    intro k
    induction k with
    | zero => exact List.Pairwise.nil
    | succ k ih =>
      rw [racL, List.pairwise_append]
      refine ⟨ih, by split <;> simp, fun x hx y hy => ?_⟩
      have h1 := (racL_mem b).1 hx
      split at hy
      · cases hy
      · rw [List.mem_singleton.1 hy]; omega
  exact key _
theorem fin_code (b : Bk) (k : Nat) : isFinF b (f3 (racN b) k) = true := by
  have hp := racN_pw b
  have hn := racN_nodup b
  have hin : ∀ j, (gr3 (racN b) k j).Pairwise (fun x y => x < y) ∧ ∀ x ∈ gr3 (racN b) k j, x ∈ racN b := fun j => ⟨g3_pw hp k j _ (Nat.le_refl _), fun x hx => by
    obtain ⟨i, h1, rfl, -⟩ := g3_mem.1 hx
    exact get_mem h1⟩
  have hdis : ∀ i j, i ≠ j → ∀ x ∈ gr3 (racN b) k i, x ∉ gr3 (racN b) k j := fun i j hij x hx hy => by
    obtain ⟨p, h1, h2, h3⟩ := g3_mem.1 hx
    obtain ⟨q, k1, k2, k3⟩ := g3_mem.1 hy
    have := at_inj hn h1 k1 (by rw [h2, k2])
    subst this
    exact hij (h3.symm.trans k3)
  refine fin_of_parts (fun F hF => ?_) ?_ fun x hx => ?_
  · unfold f3 at hF
    rw [List.mem_filter] at hF
    obtain ⟨h1, h2⟩ := hF
    have h2 := of_decide_eq_true h2
    simp only [List.mem_cons, List.not_mem_nil, or_false] at h1
    rcases h1 with rfl | rfl | rfl
    · exact ⟨h2, hin 0⟩
    · exact ⟨h2, hin 1⟩
    · exact ⟨h2, hin 2⟩
  · unfold f3
    refine List.Pairwise.filter _ ?_
    refine List.pairwise_cons.2 ⟨fun G hG => ?_, List.pairwise_cons.2 ⟨fun G hG => ?_, List.pairwise_cons.2 ⟨fun G hG => (by cases hG), List.Pairwise.nil⟩⟩⟩
    · simp only [List.mem_cons, List.not_mem_nil, or_false] at hG
      rcases hG with rfl | rfl
      · exact hdis 0 1 (by decide)
      · exact hdis 0 2 (by decide)
    · simp only [List.mem_cons, List.not_mem_nil, or_false] at hG
      subst hG
      exact hdis 1 2 (by decide)
  · obtain ⟨i, hi, rfl⟩ := List.mem_iff_getElem.1 hx
    have hd : k / 3 ^ i % 3 < 3 := Nat.mod_lt _ (by decide)
    have hm : (racN b)[i] ∈ gr3 (racN b) k (k / 3 ^ i % 3) := g3_mem.2 ⟨i, hi, by rw [List.getElem?_eq_getElem hi]; rfl, rfl⟩
    refine ⟨gr3 (racN b) k (k / 3 ^ i % 3), ?_, hm⟩
    unfold f3
    rw [List.mem_filter]
    refine ⟨?_, decide_eq_true fun e => by rw [e] at hm; cases hm⟩
    generalize k / 3 ^ i % 3 = d at hd
    match d, hd with
    | 0, _ => simp
    | 1, _ => simp
    | 2, _ => simp
/-- Each finish of at most three groups has a number. -/
theorem code_fin {b : Bk} {fs : List (List Int)} (h : isFinF b fs = true) (hl : fs.length ≤ 3) (hl0 : 0 < fs.length) : ∃ k, k < 3 ^ (racN b).length ∧ ok3 (racN b) k ∧ f3 (racN b) k = fs := by
  obtain ⟨p1, p2⟩ := fin_sub h
  have hn := racN_nodup b
  obtain ⟨k, hk, hd⟩ := dig_exists (fun i => if (racN b)[i]?.getD 0 ∈ fs[0]?.getD [] then 0 else if (racN b)[i]?.getD 0 ∈ fs[1]?.getD [] then 1 else 2) (fun i => ite3_lt _ _) (racN b).length
  have hat : ∀ (j : Nat) (x : Int), x ∈ fs[j]?.getD [] → j < fs.length ∧ x ∈ racN b := fun j x hx => by
    cases e : fs[j]? with
    | none => rw [e] at hx; cases hx
    | some F =>
      rw [e] at hx
      exact ⟨(List.getElem?_eq_some_iff.1 e).1, (p1 F (List.mem_of_getElem? e)).2.2 x hx⟩
  have hds : ∀ (i j : Nat) (x : Int), i < j → x ∈ fs[i]?.getD [] → x ∉ fs[j]?.getD [] := fun i j x hij hx hy => by
    exact pw_get p2 (hat j x hy).1 hij hx hy
  have hg : ∀ j, j < 3 → gr3 (racN b) k j = fs[j]?.getD [] := fun j hj => by
    refine incr_ext (g3_pw (racN_pw b) k j _ (Nat.le_refl _)) ?_ fun x => ?_
    · cases e : fs[j]? with
      | none => exact List.Pairwise.nil
      | some F => exact incF_pw (p1 F (List.mem_of_getElem? e)).2.1
    · have key : ∀ i, i < (racN b).length → ((racN b)[i]?.getD 0 ∈ fs[j]?.getD [] ↔ k / 3 ^ i % 3 = j) := fun i hi => by
        have hr : (racN b)[i]?.getD 0 ∈ racN b := get_mem hi
        obtain ⟨F, hF, hxF⟩ := fin_cov h hr
        obtain ⟨q, hq, rfl⟩ := List.mem_iff_getElem.1 hF
        have hxq : (racN b)[i]?.getD 0 ∈ fs[q]?.getD [] := by rw [List.getElem?_eq_getElem hq]; exact hxF
        rw [hd i hi]
        generalize (racN b)[i]?.getD 0 = x at hxq
        have one : ∀ p, x ∈ fs[p]?.getD [] → p = q := fun p hp => by
          rcases Nat.lt_trichotomy p q with h9 | h9 | h9
          · exact absurd hxq (hds p q x h9 hp)
          · exact h9
          · exact absurd hp (hds q p x h9 hxq)
        by_cases a0 : x ∈ fs[0]?.getD []
        · simp only [if_pos a0]
          constructor
          · intro hj9
            have e1 := one 0 a0
            have e2 := one j hj9
            omega
          · intro e
            subst e
            exact a0
        · by_cases a1 : x ∈ fs[1]?.getD []
          · simp only [if_neg a0, if_pos a1]
            constructor
            · intro hj9
              have e1 := one 1 a1
              have e2 := one j hj9
              omega
            · intro e
              subst e
              exact a1
          · simp only [if_neg a0, if_neg a1]
            have q2 : q = 2 := by
              have n0 : q ≠ 0 := fun e => a0 (by rw [← e]; exact hxq)
              have n1 : q ≠ 1 := fun e => a1 (by rw [← e]; exact hxq)
              omega
            constructor
            · intro hj9
              have e2 := one j hj9
              omega
            · intro e
              rw [← e, ← q2]
              exact hxq
      unfold gr3
      rw [g3_mem]
      constructor
      · rintro ⟨i, h1, rfl, h3⟩
        exact (key i h1).2 h3
      · intro hx
        obtain ⟨i, hi, e⟩ := List.mem_iff_getElem.1 (hat j x hx).2
        have e2 : (racN b)[i]?.getD 0 = x := by rw [List.getElem?_eq_getElem hi]; exact e
        exact ⟨i, hi, e2, (key i hi).1 (by rw [e2]; exact hx)⟩
  have hne : ∀ j, j < fs.length → fs[j]?.getD [] ≠ [] := fun j hj e => by
    rw [List.getElem?_eq_getElem hj] at e
    have e : fs[j] = [] := e
    exact (p1 fs[j] (List.getElem_mem hj)).1 (by rw [e]; rfl)
  refine ⟨k, hk, ⟨by rw [hg 0 (by decide)]; exact hne 0 hl0, fun e => ?_⟩, ?_⟩
  · rw [hg 1 (by decide)] at e
    rw [hg 2 (by decide)]
    have : ¬ 1 < fs.length := fun h9 => hne 1 h9 e
    rw [List.getElem?_eq_none (by omega)]
    rfl
  · unfold f3
    rw [hg 0 (by decide), hg 1 (by decide), hg 2 (by decide)]
    rcases fs with _ | ⟨F, _ | ⟨G, _ | ⟨H, _ | ⟨I, fs⟩⟩⟩⟩
    · simp at hl0
    · have a := hne 0 (by simp)
      simp at a
      simp [a]
    · have a := hne 0 (by simp)
      have c := hne 1 (by simp)
      simp at a c
      simp [a, c]
    · have a := hne 0 (by simp)
      have c := hne 1 (by simp)
      have d := hne 2 (by simp)
      simp at a c d
      simp [a, c, d]
    · simp at hl
/-! ### heads and finishes -/
theorem grp_in {b : Bk} {F : List Int} (h : F ∈ groupsF b) : ∀ x ∈ F, x ∈ racN b := fun x hx => by
  have h1 : F ∈ grsF (racN b) := List.mem_of_mem_drop h
  have h2 := grsF_mem (racN b) (racN b).length (Nat.le_refl _) F (by rw [List.take_length]; exact h1)
  exact h2 x hx
/-- The groups with all the others behind them. -/
def fillF (b : Bk) (hd : List (List Int)) : List (List Int) :=
  hd ++ if (racN b).filter (fun x => decide (∀ F ∈ hd, x ∉ F)) = [] then [] else [(racN b).filter (fun x => decide (∀ F ∈ hd, x ∉ F))]
theorem fill_fin {b : Bk} {hd : List (List Int)} (h1 : ∀ F ∈ hd, F ≠ [] ∧ F.Pairwise (fun x y => x < y) ∧ ∀ x ∈ F, x ∈ racN b) (h2 : hd.Pairwise fun F G => ∀ x ∈ F, x ∉ G) : isFinF b (fillF b hd) = true := by
  have hmem : ∀ x, x ∈ (racN b).filter (fun x => decide (∀ F ∈ hd, x ∉ F)) ↔ x ∈ racN b ∧ ∀ F ∈ hd, x ∉ F := fun x => by rw [List.mem_filter, decide_eq_true_eq]
  have hpw : ((racN b).filter (fun x => decide (∀ F ∈ hd, x ∉ F))).Pairwise fun x y => x < y := (racN_pw b).filter _
  unfold fillF
  generalize (racN b).filter (fun x => decide (∀ F ∈ hd, x ∉ F)) = T at hmem hpw
  by_cases hT : T = []
  · rw [if_pos hT, List.append_nil]
    refine fin_of_parts h1 h2 fun x hx => ?_
    by_cases he : ∃ F ∈ hd, x ∈ F
    · exact he
    · have := (hmem x).2 ⟨hx, fun F hF hm => he ⟨F, hF, hm⟩⟩
      rw [hT] at this
      cases this
  · rw [if_neg hT]
    refine fin_of_parts (fun F hF => ?_) ?_ fun x hx => ?_
    · rcases List.mem_append.1 hF with hF | hF
      · exact h1 F hF
      · rw [List.mem_singleton.1 hF]
        exact ⟨hT, hpw, fun x hx => ((hmem x).1 hx).1⟩
    · rw [List.pairwise_append]
      refine ⟨h2, by simp, fun F hF G hG x hx hx2 => ?_⟩
      rw [List.mem_singleton.1 hG] at hx2
      exact ((hmem x).1 hx2).2 F hF hx
    · by_cases he : ∃ F ∈ hd, x ∈ F
      · obtain ⟨F, hF, hxF⟩ := he
        exact ⟨F, List.mem_append_left _ hF, hxF⟩
      · exact ⟨T, List.mem_append_right _ List.mem_cons_self, (hmem x).2 ⟨hx, fun F hF hm => he ⟨F, hF, hm⟩⟩⟩
theorem fill_len (b : Bk) (hd : List (List Int)) : (fillF b hd).length ≤ hd.length + 1 := by
  unfold fillF
  rw [List.length_append]
  split <;> simp
theorem head_fin {b : Bk} {hd : List (List Int)} (h : hd ∈ headsL (groupsF b)) : ∃ fs, isFinF b fs = true ∧ fs.length ≤ 3 ∧ 0 < fs.length ∧ winF b fs = winF b hd := by
  unfold headsL at h
  rw [List.mem_flatMap] at h
  obtain ⟨f, hf, hh⟩ := h
  obtain ⟨f0, f1⟩ := grp_sub hf
  have f0' : f ≠ [] := fun e => f0 (by rw [e]; rfl)
  unfold headF at hh
  by_cases hl : 1 < f.length
  · rw [if_pos hl] at hh
    rw [List.mem_singleton.1 hh]
    have hfl := fill_len b [f]
    refine ⟨fillF b [f], fill_fin (fun F hF => ?_) (by simp), Nat.le_trans hfl (show 1 + 1 ≤ 3 by decide), by unfold fillF; simp, ?_⟩
    · rw [List.mem_singleton.1 hF]
      exact ⟨f0', f1, grp_in hf⟩
    · have e0 : (fillF b [f])[0]?.getD [] = f := by unfold fillF; rfl
      have ep : plaF (fillF b [f]) = plaF [f] := by
        unfold plaF
        rw [e0]
        show (if f.length = 1 then _ else _) = if f.length = 1 then _ else _
        rw [if_neg (by omega), if_neg (by omega)]
        rfl
      unfold winF
      rw [e0, ep]
      rfl
  · rw [if_neg hl] at hh
    unfold secW at hh
    rw [List.mem_map] at hh
    obtain ⟨s, hs, rfl⟩ := hh
    rw [List.mem_filter] at hs
    obtain ⟨s0, s1⟩ := grp_sub hs.1
    have s0' : s ≠ [] := fun e => s0 (by rw [e]; rfl)
    have hx : f = [f[0]?.getD 0] := by
      rcases f with _ | ⟨x, _ | ⟨y, f⟩⟩
      · exact absurd rfl f0
      · rfl
      · simp at hl
    have hn : f[0]?.getD 0 ∉ s := by simpa using hs.2
    have hfl := fill_len b [f, s]
    refine ⟨fillF b [f, s], fill_fin (fun F hF => ?_) ?_, by simpa using hfl, by unfold fillF; simp, ?_⟩
    · simp only [List.mem_cons, List.not_mem_nil, or_false] at hF
      rcases hF with rfl | rfl
      · exact ⟨f0', f1, grp_in hf⟩
      · exact ⟨s0', s1, grp_in hs.1⟩
    · refine List.pairwise_cons.2 ⟨fun G hG x hx2 => ?_, by simp⟩
      rw [List.mem_singleton.1 hG]
      rw [hx, List.mem_singleton] at hx2
      rw [hx2]
      exact hn
    · have e0 : (fillF b [f, s])[0]?.getD [] = f := by unfold fillF; rfl
      have e1 : (fillF b [f, s])[1]?.getD [] = s := by unfold fillF; rfl
      have ep : plaF (fillF b [f, s]) = plaF [f, s] := by
        unfold plaF
        rw [e0, e1]
        rfl
      unfold winF
      rw [e0, ep]
      rfl
theorem spr_at (b : Bk) : ∀ (l : List (List (List Int))) (p : Int × Int), ((l.foldl (spr1 b) p).1 = p.1 ∨ ∃ x ∈ l, paidF b x = (l.foldl (spr1 b) p).1) ∧ ((l.foldl (spr1 b) p).2 = p.2 ∨ ∃ x ∈ l, paidF b x = (l.foldl (spr1 b) p).2)
  | [], p => ⟨.inl rfl, .inl rfl⟩
  | y :: l, p => by
    obtain ⟨i1, i2⟩ := spr_at b l (spr1 b p y)
    have e1 : (spr1 b p y).1 = p.1 ∨ (spr1 b p y).1 = paidF b y := by unfold spr1; simp only; split <;> simp
    have e2 : (spr1 b p y).2 = p.2 ∨ (spr1 b p y).2 = paidF b y := by unfold spr1; simp only; split <;> simp
    rw [List.foldl_cons]
    constructor
    · rcases i1 with h | ⟨x, hx, h⟩
      · rcases e1 with e | e
        · exact .inl (h.trans e)
        · exact .inr ⟨y, List.mem_cons_self, by rw [h, e]⟩
      · exact .inr ⟨x, List.mem_cons_of_mem _ hx, h⟩
    · rcases i2 with h | ⟨x, hx, h⟩
      · rcases e2 with e | e
        · exact .inl (h.trans e)
        · exact .inr ⟨y, List.mem_cons_self, by rw [h, e]⟩
      · exact .inr ⟨x, List.mem_cons_of_mem _ hx, h⟩
/-- The least and the most are met by finishes of at most three groups. -/
theorem spread_hit {b : Bk} (h0 : bookF b = 0) (hr : racN b ≠ []) : (∃ fs, isFinF b fs = true ∧ fs.length ≤ 3 ∧ 0 < fs.length ∧ pdF (tilF b) fs = (sprF b).1) ∧ ∃ fs, isFinF b fs = true ∧ fs.length ≤ 3 ∧ 0 < fs.length ∧ pdF (tilF b) fs = (sprF b).2 := by
  have V := valid_of h0
  have hn := net_facts V
  have hall : isFinF b [racN b] = true := fin_of_parts (fun F hF => by rw [List.mem_singleton.1 hF]; exact ⟨hr, racN_pw b, fun x hx => hx⟩) (by simp) fun x hx => ⟨_, List.mem_cons_self, hx⟩
  have hb := spread_ok h0 hall
  have hpd := pd_facts (fs := [racN b]) V
  have back : ∀ {v : Int}, (∃ x ∈ headsL (groupsF b), paidF b x = v) → ∃ fs, isFinF b fs = true ∧ fs.length ≤ 3 ∧ 0 < fs.length ∧ pdF (tilF b) fs = v := by
    rintro v ⟨x, hx, rfl⟩
    obtain ⟨fs, k1, k2, k3, k4⟩ := head_fin hx
    exact ⟨fs, k1, k2, k3, by rw [pd_win k4, paid_pd V (head_nd hx)]⟩
  by_cases hno : noneF (tallyF (okT (tilF b)) (s1T (tilF b)) b.bets) = true
  · have hz : pdF (tilF b) [racN b] = 0 := by unfold pdF; rw [none_bkd V hno]; rfl
    have hs : sprF b = (0, 0) := by unfold sprF; rw [if_pos h0, if_pos hno]
    rw [hs]
    exact ⟨⟨_, hall, show 1 ≤ 3 by decide, show 0 < 1 by decide, hz⟩, ⟨_, hall, show 1 ≤ 3 by decide, show 0 < 1 by decide, hz⟩⟩
  · have hs : sprF b = (headsL (groupsF b)).foldl (spr1 b) (9223372036854775807, 0) := by unfold sprF; rw [if_pos h0, if_neg hno]
    obtain ⟨i1, i2⟩ := spr_at b (headsL (groupsF b)) (9223372036854775807, 0)
    rw [← hs] at i1 i2
    constructor
    · rcases i1 with h | h
      · have h : (sprF b).1 = 9223372036854775807 := h
        omega
      · exact back h
    · rcases i2 with h | h
      · have h : (sprF b).2 = 0 := h
        exact ⟨_, hall, by simp, by simp, by omega⟩
      · exact back h
/-- The least and the most that are paid by the finishes of the first n numbers, once there is one. -/
def cdF (b : Bk) : Nat → Option (Int × Int)
  | 0 => none
  | k + 1 => if ok3 (racN b) k then some (match cdF b k with | none => (pdF (tilF b) (f3 (racN b) k), pdF (tilF b) (f3 (racN b) k)) | some p => (min p.1 (pdF (tilF b) (f3 (racN b) k)), max p.2 (pdF (tilF b) (f3 (racN b) k)))) else cdF b k
theorem cd_all (b : Bk) : ∀ n, (∀ k, k < n → ok3 (racN b) k → ∃ p, cdF b n = some p ∧ p.1 ≤ pdF (tilF b) (f3 (racN b) k) ∧ pdF (tilF b) (f3 (racN b) k) ≤ p.2) ∧ ∀ p, cdF b n = some p → (∃ k, k < n ∧ p.1 = pdF (tilF b) (f3 (racN b) k)) ∧ ∃ k, k < n ∧ p.2 = pdF (tilF b) (f3 (racN b) k)
  | 0 => ⟨fun k hk => absurd hk (Nat.not_lt_zero k), fun p h => by cases h⟩
  | n + 1 => by
    obtain ⟨i1, i2⟩ := cd_all b n
    generalize hv : pdF (tilF b) (f3 (racN b) n) = v
    by_cases ho : ok3 (racN b) n
    · rcases hc : cdF b n with _ | q
      · have e : cdF b (n + 1) = some (v, v) := by rw [cdF, if_pos ho, hc, hv]
        rw [e]
        refine ⟨fun k hk hk2 => ⟨_, rfl, ?_⟩, fun p h => ?_⟩
        · by_cases hkn : k = n
          · subst hkn; rw [hv]; exact ⟨Int.le_refl _, Int.le_refl _⟩
          · obtain ⟨p, hp, -⟩ := i1 k (by omega) hk2
            rw [hc] at hp
            cases hp
        · cases h
          exact ⟨⟨n, by omega, hv.symm⟩, ⟨n, by omega, hv.symm⟩⟩
      · have e : cdF b (n + 1) = some (min q.1 v, max q.2 v) := by rw [cdF, if_pos ho, hc, hv]
        rw [e]
        refine ⟨fun k hk hk2 => ⟨_, rfl, ?_⟩, fun p h => ?_⟩
        · show min q.1 v ≤ _ ∧ _ ≤ max q.2 v
          by_cases hkn : k = n
          · subst hkn; rw [hv]; omega
          · obtain ⟨p, hp, h1, h2⟩ := i1 k (by omega) hk2
            rw [hc] at hp
            cases hp
            omega
        · cases h
          obtain ⟨⟨k1, a1, c1⟩, k2, a2, c2⟩ := i2 q hc
          constructor
          · by_cases h9 : q.1 ≤ v
            · exact ⟨k1, by omega, by rw [← c1]; show min q.1 v = _; omega⟩
            · exact ⟨n, by omega, by rw [hv]; show min q.1 v = _; omega⟩
          · by_cases h9 : v ≤ q.2
            · exact ⟨k2, by omega, by rw [← c2]; show max q.2 v = _; omega⟩
            · exact ⟨n, by omega, by rw [hv]; show max q.2 v = _; omega⟩
    · have e : cdF b (n + 1) = cdF b n := by rw [cdF, if_neg ho]
      rw [e]
      refine ⟨fun k hk hk2 => ?_, fun p h => ?_⟩
      · exact i1 k (by have : k ≠ n := fun h9 => ho (h9 ▸ hk2); omega) hk2
      · obtain ⟨⟨k1, a1, c1⟩, k2, a2, c2⟩ := i2 p h
        exact ⟨⟨k1, by omega, c1⟩, k2, by omega, c2⟩
/-- All the numbers together give the spread. -/
theorem cd_spread {b : Bk} (h0 : bookF b = 0) (hr : racN b ≠ []) : cdF b (3 ^ (racN b).length) = some (sprF b) := by
  obtain ⟨i1, i2⟩ := cd_all b (3 ^ (racN b).length)
  obtain ⟨⟨fs, a1, a2, a3, a4⟩, gs, c1, c2, c3, c4⟩ := spread_hit h0 hr
  obtain ⟨k, hk, hok, rfl⟩ := code_fin a1 a2 a3
  obtain ⟨j, hj, hok2, rfl⟩ := code_fin c1 c2 c3
  obtain ⟨p, hp, p1, p2⟩ := i1 k hk hok
  obtain ⟨q, hq, q1, q2⟩ := i1 j hj hok2
  rw [hp] at hq
  cases hq
  obtain ⟨⟨k1, d1, e1⟩, k2, d2, e2⟩ := i2 p hp
  have s1 := spread_ok h0 (fin_code b k1)
  have s2 := spread_ok h0 (fin_code b k2)
  rw [hp]
  congr 1
  exact Prod.ext (by omega) (by omega)
end Go.Proofs.YtbahiemjaomdcaaGreat

/- quinellaref03: Spread. -/
namespace Go.Proofs.YtbahiemjaomdcaaGreat
open Go.RowKit Go.Shelf

theorem fin_made {w : World} {g n : Nat} {v0 v1 v2 : Value} {vs : List Value} {fs : List (List Int)} (hk : w.heap[g]? = some ((⟨g, .cells #[v0, v1, v2] 23 (0, 0)⟩ : KB).obj)) (hn : n ≤ 3) (hvs : vs = [v0, v1, v2].take n) (hv : ValsAt w w.heap.size fs vs) : FinAt w w.heap.size (some ⟨g, 0, none⟩) n fs :=
  fin_row (n := n) (c := 3) (vs := vs) (ob := [⟨g, .cells #[v0, v1, v2] 23 (0, 0)⟩]) ⟨by rw [hvs, List.length_take]; simp; omega, .inr ⟨g, 3, _, rfl, rfl, hn, by simp only [maxLen]; omega, rfl, by rw [Nat.mul_one, hvs]⟩⟩ (fun kb hkb => by rw [List.mem_singleton.1 hkb]; exact hk) hv (by omega)
theorem vals_nil (w : World) : ValsAt w w.heap.size [] [] := ⟨rfl, fun j hj => absurd hj (Nat.not_lt_zero j)⟩
/-- What the box and the flag hold of the first k numbers. -/
def CdAt (b : Bk) (k : Nat) (lo hi : Int) (sn : Bool) : Prop := (sn = false ∧ cdF b k = none) ∨ (sn = true ∧ cdF b k = some (lo, hi))
theorem CdAt.skip {b : Bk} {k : Nat} {lo hi : Int} {sn : Bool} (h : CdAt b k lo hi sn) (hno : ¬ ok3 (racN b) k) : CdAt b (k + 1) lo hi sn := by
  unfold CdAt
  rw [cdF, if_neg hno]
  exact h
theorem CdAt.pay {b : Bk} {k : Nat} {lo hi p : Int} {sn : Bool} (h : CdAt b k lo hi sn) (hok : ok3 (racN b) k) (hp : p = pdF (tilF b) (f3 (racN b) k)) :
    (sn = true → CdAt b (k + 1) (if p < lo then p else lo) (if p > hi then p else hi) true) ∧ (sn = false → CdAt b (k + 1) (if p < p then p else p) (if p > p then p else p) true) := by
  rcases h with ⟨h1, h2⟩ | ⟨h1, h2⟩
  · refine ⟨fun e => absurd (h1.symm.trans e) (by decide), fun _ => .inr ⟨rfl, ?_⟩⟩
    rw [cdF, if_pos hok, h2, ← hp]
    simp
  · refine ⟨fun _ => .inr ⟨rfl, ?_⟩, fun e => absurd (h1.symm.trans e) (by decide)⟩
    rw [cdF, if_pos hok, h2, ← hp]
    show some (min lo p, max hi p) = _
    congr 1
    refine Prod.ext ?_ ?_
    · show min lo p = if p < lo then p else lo
      split <;> omega
    · show max hi p = if p > hi then p else hi
      split <;> omega
set_option maxHeartbeats 2000000 in
set_option maxRecDepth 20000 in
theorem rSpread_any (w : World) (B : Nat) (b : Bk) (A : Option Addr) (n c : Nat) (A2 : Option Addr) (m c2 : Nat) (h : BkAt w B b A n c A2 m c2) (hB : B ≤ w.heap.size) : Calls Tryz.prog 18 #[bkV b A n c A2 m c2] w fun e w' => e = .returned (.tuple #[.agg #[.int .i64 (sprF b).1, .int .i64 (sprF b).2], .int .i64 (bookF b)]) ∧ Below w.heap.size w w' := by
  have hbl := h.bets.1
  have ht3 : ∀ a : Nat, (a : Int).tmod 3 = ((a % 3 : Nat) : Int) := fun a => (Int.ofNat_tmod a 3).symm
  have hq3 : ∀ a : Nat, a ≤ 7000 → IntKind.i64.wrap ((a : Int).tdiv 3) = ((a / 3 : Nat) : Int) := fun a ha => by rw [show (a : Int).tdiv 3 = ((a / 3 : Nat) : Int) from (Int.ofNat_tdiv a 3).symm, IntKind.wrap_i64]; omega
  refine enter 115 Tryz.func18 (by kernel_rfl) fun hA => ?_
  refine runS hA 11 (List.replicate 8 (.k 0)) xn on (by kernel_rfl) fun w1 hA => ?_
  refine callB hA [] on (rcheckBook_any w1 B b A n c A2 m c2 (h.below hA.below hB) (Nat.le_trans hB hA.size)) (by kernel_rfl) fun w2 hb2 hA => ?_
  by_cases h0 : bookF b = 0
  case neg =>
    have hs0 : sprF b = (0, 0) := if_neg h0
    refine runS hA 8 ([.b true] ++ List.replicate 8 (.k 0)) xn (oc (ne_t h0) on) (by kernel_rfl) fun w3 hA => ?_
    refine callB hA [] on (rcheckBook_any w3 B b A n c A2 m c2 (h.below hA.below hB) (Nat.le_trans hB hA.size)) (by kernel_rfl) fun w4 hb4 hA => ?_
    refine runS hA 6 [.k 1, .k 1] xn on (by kernel_rfl) fun w5 hA => ?_
    exact ret (v := .tuple #[.agg #[.int .i64 0, .int .i64 0], .int .i64 (bookF b)]) hA [.k 1, .k 1] (by kernel_rfl) ⟨by rw [hs0], hA.below⟩
  case pos =>
    have V := valid_of h0
    have hv1 := V.run
    have hv2 := V.len
    have hq9 : ∃ RN, RN = (racN b).length := ⟨_, rfl⟩
    obtain ⟨RN, hRN⟩ := hq9
    have hR8 : RN ≤ 8 := by have := racL_scr V; omega
    have hR2 : 2 ≤ RN := by have := racL_scr V; have := (scratchable_false V.scr).1.1; omega
    refine runS hA 9 ([.b false] ++ List.replicate 8 (.k 0)) xn (oc (ne_f h0) on) (by kernel_rfl) fun w3 hA => ?_
    have hApl := hA.atK [⟨w.heap.size, .cells #[.int .i64 b.kind, .int .i64 b.runners, .slice A n c, .slice A2 m c2, .bool b.fav, .int .i64 b.car, .int .i64 b.dut, .int .i64 b.stp] 25 (0, 0)⟩, ⟨w.heap.size + 1, .cells #[.int .i64 0, .int .i64 0] 44 (0, 0)⟩] (by kernel_rfl)
    have hP := running_any w3 B b A n c A2 m c2 (h.below hA.below hB) (Nat.le_trans hB hA.size) V
    rw [← hRN] at hP
    refine call hA [] on (hP) (by kernel_rfl) (by rintro e v ⟨vl, rfl, hbl9, hol⟩; exact hbl9) ?_
    rintro e w4 ⟨vl, rfl, hbl9, hol⟩
    refine ⟨_, rfl, fun hA => ?_⟩
    have hq9 := At.own hApl hbl9 hol
    obtain ⟨ob, hrl, hA2l⟩ := hq9
    obtain ⟨gl, cl, cul, rfl, rfl, hcl⟩ : ∃ gl cl cul, vl = .slice (some ⟨gl, 0, none⟩) RN cl ∧ ob = [⟨gl, .cells cul 3 (0, 0)⟩] ∧ ∀ j, j < RN → cul[j]? = some (.int .i64 ((racN b)[j]?.getD 0)) := by
      have hq9 := hrl.2
      rcases hq9 with ⟨-, e2, -⟩ | ⟨g, cap, cur, e1, e2, h3, h4, h5, h6⟩
      · omega
      · rw [Nat.mul_one] at h6
        exact ⟨g, cap, cur, e1, e2, fun j hj => take_get h6 hj hRN.symm⟩
    have hA3l := hA2l.up
    refine reknow ⟨[⟨w.heap.size, .cells #[.int .i64 b.kind, .int .i64 b.runners, .slice A n c, .slice A2 m c2, .bool b.fav, .int .i64 b.car, .int .i64 b.dut, .int .i64 b.stp] 25 (0, 0)⟩, ⟨w.heap.size + 1, .cells #[.int .i64 0, .int .i64 0] 44 (0, 0)⟩, ⟨gl, .cells cul 3 (0, 0)⟩], w4.heap.size, [], [], [], [], []⟩ hA3l (Nat.zero_le _) fun hA => ?_
    refine runS hA 15 [] xn on (by kernel_rfl) fun w5 hA => ?_
    refine loop (γ := Nat) (fun i => [(1, .pointer (some ⟨w.heap.size, 0, none⟩)), (2, .pointer (some ⟨w.heap.size + 1, 0, none⟩)), (3, .int .i64 0), (4, .slice (some ⟨gl, 0, none⟩) RN cl), (5, .int .i64 ((3 ^ i : Nat) : Int)), (6, .int .i64 (i : Int))]) (fun i => [⟨w.heap.size, .cells #[.int .i64 b.kind, .int .i64 b.runners, .slice A n c, .slice A2 m c2, .bool b.fav, .int .i64 b.car, .int .i64 b.dut, .int .i64 b.stp] 25 (0, 0)⟩, ⟨w.heap.size + 1, .cells #[.int .i64 0, .int .i64 0] 44 (0, 0)⟩, ⟨gl, .cells cul 3 (0, 0)⟩]) (fun _ => []) (fun g i wr => i ≤ RN ∧ g = RN - i) RN 0 [true, true, true] hA (by kernel_rfl) (⟨Nat.zero_le _, rfl⟩) ?_
    rintro _ i wr ⟨hi, rfl⟩ J hJ hA
    by_cases hlt : i < RN
    case pos =>
      have hpw : 3 ^ i ≤ 3 ^ 8 := Nat.pow_le_pow_right (by decide) (by omega)
      have hp8 : 3 ^ 8 = 6561 := by decide
      have hps : 3 ^ (i + 1) = 3 ^ i * 3 := Nat.pow_succ 3 i
      refine runS hA 17 [.b true] xn (oc (dec_t (show (((i : Int) : Int) < (RN : Int)) by omega)) on) (by kernel_rfl) fun w6 hA => ?_
      refine revals hA (rc 30 (wr64 (x := ((3 ^ i : Nat) : Int) * 3) (y := ((3 ^ (i + 1) : Nat) : Int)) (by omega) (by omega)) rn) (by kernel_rfl) fun hA => ?_
      refine runS hA 9 [] xn on (by kernel_rfl) fun w7 hA => ?_
      refine revals hA (rc 6 (wr64 (x := (i : Int) + 1) (y := ((i + 1 : Nat) : Int)) (by omega) (by omega)) rn) (by kernel_rfl) fun hA => ?_
      exact again hJ (RN - (i + 1)) (i + 1) [true, true, true] hA (by omega) (by kernel_rfl) (⟨by omega, rfl⟩)
    case neg =>
      have hiR : i = RN := by omega
      have hq9 : ∃ C, C = 3 ^ i := ⟨_, rfl⟩
      obtain ⟨C, hC⟩ := hq9
      have hC9 : C ≤ 6561 := by rw [hC]; exact Nat.le_trans (Nat.pow_le_pow_right (by decide) (show i ≤ 8 by omega)) (by decide)
      refine runS hA 12 [.b false] xn (oc (dec_f (show ¬ (((i : Int) : Int) < (RN : Int)) by omega)) on) (by kernel_rfl) fun w6 hA => ?_
      refine leave hA (by kernel_rfl) fun hA => ?_
      refine revals hA (rc 5 (show .int .i64 ((3 ^ i : Nat) : Int) = .int .i64 (C : Int) by rw [hC]) rn) (by kernel_rfl) fun hA => ?_
      refine runS hA 17 [.k 3, .k 3] xn on (by kernel_rfl) fun w7 hA => ?_
      refine loop (γ := Nat × Int × Int × Bool) (fun ⟨k, lo, hi, sn⟩ => [(1, .pointer (some ⟨w.heap.size, 0, none⟩)), (2, .pointer (some ⟨w.heap.size + 1, 0, none⟩)), (3, .int .i64 0), (4, .slice (some ⟨gl, 0, none⟩) RN cl), (5, .int .i64 (C : Int)), (7, .pointer (some ⟨wr.heap.size, 0, none⟩)), (8, .bool sn), (9, .int .i64 (k : Int))]) (fun ⟨k, lo, hi, sn⟩ => [⟨w.heap.size, .cells #[.int .i64 b.kind, .int .i64 b.runners, .slice A n c, .slice A2 m c2, .bool b.fav, .int .i64 b.car, .int .i64 b.dut, .int .i64 b.stp] 25 (0, 0)⟩, ⟨w.heap.size + 1, .cells #[.int .i64 0, .int .i64 0] 44 (0, 0)⟩, ⟨gl, .cells cul 3 (0, 0)⟩, ⟨wr.heap.size, .cells #[.int .i64 lo, .int .i64 hi] 44 (0, 0)⟩]) (fun _ => []) (fun g ⟨k, lo, hi, sn⟩ wk => (k ≤ C ∧ g = C - k) ∧ CdAt b k lo hi sn) C ⟨0, 0, 0, false⟩ [true, true, true, true] hA (by kernel_rfl) (⟨⟨Nat.zero_le _, rfl⟩, .inl ⟨rfl, rfl⟩⟩) ?_
      rintro _ ⟨k, lo, hi, sn⟩ wk ⟨⟨hk, rfl⟩, hcd⟩ J hJ hA
      by_cases hlk : k < C
      case neg =>
        have hkC : cdF b k = some (sprF b) := by rw [show k = 3 ^ (racN b).length by rw [← hRN, ← hiR, ← hC]; omega]; exact cd_spread h0 (fun e => by rw [e] at hRN; simp at hRN; omega)
        have hcV : (lo, hi) = sprF b := by rcases hcd with ⟨-, h9⟩ | ⟨-, h9⟩; exact absurd (hkC.symm.trans h9) (by simp); exact (Option.some.inj (hkC.symm.trans h9)).symm
        have hc1 : (sprF b).1 = lo := by rw [← hcV]
        have hc2 : (sprF b).2 = hi := by rw [← hcV]
        refine runS hA 11 [.b false] xn (oc (dec_f (show ¬ (((k : Int) : Int) < ((C : Int) : Int)) by omega)) on) (by kernel_rfl) fun w8 hA => ?_
        refine leave hA (by kernel_rfl) fun hA => ?_
        refine runS hA 10 [.k 3, .k 3, .k 1, .k 1] xn on (by kernel_rfl) fun w9 hA => ?_
        exact ret (v := .tuple #[.agg #[.int .i64 lo, .int .i64 hi], .int .i64 0]) hA [.k 1, .k 1] (by kernel_rfl) ⟨by rw [hc1, hc2, h0], hA.below⟩
      case pos =>
        refine runS hA 15 [.b true] xn (oc (dec_t (show (((k : Int) : Int) < ((C : Int) : Int)) by omega)) on) (by kernel_rfl) fun w8 hA => ?_
        refine mkS (t := 26) (e := 23) (z := .slice none 0 0) (size := 1) (bytes := 24) (n := 3) (l := (3 : Int)) (kl := .i64) (kc := .i64) hA rfl (by kernel_rfl) (by omega) (by omega) fun w9 hzm hbm hA => ?_
        refine runS hA 16 [] xn on (by kernel_rfl) fun w10 hA => ?_
        refine revals hA (rc 11 (show .int .i64 (k : Int) = .int .i64 ((k / 3 ^ 0 : Nat) : Int) by rw [Nat.pow_zero, Nat.div_one]) rn) (by kernel_rfl) fun hA => ?_
        have hq0 : RowV 3 1 (.slice none 0 0) 0 (ints (g3 (racN b) k 0 0)) [] := RowV.nil _ _
        have hq1 : RowV 3 1 (.slice none 0 0) 0 (ints (g3 (racN b) k 1 0)) [] := RowV.nil _ _
        have hq2 : RowV 3 1 (.slice none 0 0) 0 (ints (g3 (racN b) k 2 0)) [] := RowV.nil _ _
        refine loop (γ := Nat × Nat × Option Addr × Nat × List KB × Nat × Option Addr × Nat × List KB × Nat × Option Addr × Nat × List KB) (fun ⟨i, l0, X0, d0, o0, l1, X1, d1, o1, l2, X2, d2, o2⟩ => [(1, .pointer (some ⟨w.heap.size, 0, none⟩)), (2, .pointer (some ⟨w.heap.size + 1, 0, none⟩)), (3, .int .i64 0), (4, .slice (some ⟨gl, 0, none⟩) RN cl), (5, .int .i64 (C : Int)), (7, .pointer (some ⟨wr.heap.size, 0, none⟩)), (8, .bool sn), (9, .int .i64 (k : Int)), (10, .slice (some ⟨w8.heap.size, 0, none⟩) 3 3), (11, .int .i64 ((k / 3 ^ i : Nat) : Int)), (12, .int .i64 (i : Int))]) (fun ⟨i, l0, X0, d0, o0, l1, X1, d1, o1, l2, X2, d2, o2⟩ => [⟨w.heap.size, .cells #[.int .i64 b.kind, .int .i64 b.runners, .slice A n c, .slice A2 m c2, .bool b.fav, .int .i64 b.car, .int .i64 b.dut, .int .i64 b.stp] 25 (0, 0)⟩, ⟨w.heap.size + 1, .cells #[.int .i64 0, .int .i64 0] 44 (0, 0)⟩, ⟨gl, .cells cul 3 (0, 0)⟩, ⟨wr.heap.size, .cells #[.int .i64 lo, .int .i64 hi] 44 (0, 0)⟩, ⟨w8.heap.size, .cells #[.slice X0 l0 d0, .slice X1 l1 d1, .slice X2 l2 d2] 23 (0, 0)⟩]) (fun ⟨i, l0, X0, d0, o0, l1, X1, d1, o1, l2, X2, d2, o2⟩ => o0 ++ (o1 ++ (o2 ++ ([])))) (fun g ⟨i, l0, X0, d0, o0, l1, X1, d1, o1, l2, X2, d2, o2⟩ wi => (i ≤ RN ∧ g = RN - i) ∧ RowV 3 1 (.slice X0 l0 d0) l0 (ints (g3 (racN b) k 0 i)) o0 ∧ RowV 3 1 (.slice X1 l1 d1) l1 (ints (g3 (racN b) k 1 i)) o1 ∧ RowV 3 1 (.slice X2 l2 d2) l2 (ints (g3 (racN b) k 2 i)) o2) RN ⟨0, 0, none, 0, [], 0, none, 0, [], 0, none, 0, []⟩ [true, true, true, true, true] hA (by kernel_rfl) (⟨⟨Nat.zero_le _, rfl⟩, hq0, hq1, hq2⟩) ?_
        rintro _ ⟨i, l0, X0, d0, o0, l1, X1, d1, o1, l2, X2, d2, o2⟩ wi ⟨⟨hin, rfl⟩, hq0, hq1, hq2⟩ J hJi hA
        by_cases hli : i < RN
        case neg =>
          have hiN : i = RN := by omega
          have hG0 : (g3 (racN b) k 0 i) = (gr3 (racN b) k 0) := by unfold gr3; rw [← hRN, hiN]
          rw [hG0] at hq0
          have hL0 : (gr3 (racN b) k 0).length = l0 := by have h1 := hq0.1; unfold ints at h1; rw [List.length_map] at h1; omega
          have hM0 : l0 ≤ 8 := by rw [← hL0]; unfold gr3; exact Nat.le_trans (g3_len _ _ _ _) (by omega)
          have hZ0 : (gr3 (racN b) k 0) = [] ↔ l0 = 0 := by rw [← hL0]; exact List.length_eq_zero_iff.symm
          have hI0 := ints_at_row hq0 (by omega)
          have hG1 : (g3 (racN b) k 1 i) = (gr3 (racN b) k 1) := by unfold gr3; rw [← hRN, hiN]
          rw [hG1] at hq1
          have hL1 : (gr3 (racN b) k 1).length = l1 := by have h1 := hq1.1; unfold ints at h1; rw [List.length_map] at h1; omega
          have hM1 : l1 ≤ 8 := by rw [← hL1]; unfold gr3; exact Nat.le_trans (g3_len _ _ _ _) (by omega)
          have hZ1 : (gr3 (racN b) k 1) = [] ↔ l1 = 0 := by rw [← hL1]; exact List.length_eq_zero_iff.symm
          have hI1 := ints_at_row hq1 (by omega)
          have hG2 : (g3 (racN b) k 2 i) = (gr3 (racN b) k 2) := by unfold gr3; rw [← hRN, hiN]
          rw [hG2] at hq2
          have hL2 : (gr3 (racN b) k 2).length = l2 := by have h1 := hq2.1; unfold ints at h1; rw [List.length_map] at h1; omega
          have hM2 : l2 ≤ 8 := by rw [← hL2]; unfold gr3; exact Nat.le_trans (g3_len _ _ _ _) (by omega)
          have hZ2 : (gr3 (racN b) k 2) = [] ↔ l2 = 0 := by rw [← hL2]; exact List.length_eq_zero_iff.symm
          have hI2 := ints_at_row hq2 (by omega)
          refine runS hA 12 [.b false] xn (oc (dec_f (show ¬ (((i : Int) : Int) < (RN : Int)) by omega)) on) (by kernel_rfl) fun w11 hA => ?_
          refine leave hA (by kernel_rfl) fun hA => ?_
          refine runS hA 18 [.k 4, .t 0] xn on (by kernel_rfl) fun w12 hA => ?_
          by_cases z2 : l2 = 0
          case pos =>
            refine runS hA 17 [.b true, .i, .k 4, .t 0] xn (oc (eq_t (a := (l2 : Int)) (b := 0) (by omega)) (oc (show (0 : Int) ≤ (0 : Int) ∧ (0 : Int) ≤ (2 : Int) ∧ (2 : Int) ≤ (3 : Int) ∧ (3 : Int) ≤ (3 : Int) by omega) on)) (by kernel_rfl) fun w13 hA => ?_
            by_cases z1 : l1 = 0
            case pos =>
              refine runS hA 16 [.b true, .i, .k 4, .t 0] xn (oc (eq_t (a := (l1 : Int)) (b := 0) (by omega)) (oc (show (0 : Int) ≤ (0 : Int) ∧ (0 : Int) ≤ (1 : Int) ∧ (1 : Int) ≤ (3 : Int) ∧ (3 : Int) ≤ (3 : Int) by omega) on)) (by kernel_rfl) fun w14 hA => ?_
              by_cases z0 : l0 = 0
              case pos =>
                refine runS hA 25 (List.replicate 7 (.g true)) xn (oc (eq_t (a := (l0 : Int)) (b := 0) (by omega)) (oc (rfl : Value.bool true = .bool true) (oc (rfl : Value.bool true = .bool true) (oc (rfl : Value.bool true = .bool true) (oc (rfl : Value.bool true = .bool true) (oc (rfl : Value.bool true = .bool true) (oc (rfl : Value.bool true = .bool true) on))))))) (by kernel_rfl) fun w15 hA => ?_
                have hno : ¬ ok3 (racN b) k := fun h9 => h9.1 (hZ0.2 z0)
                refine revals hA (rc 9 (wr64 (x := (k : Int) + 1) (y := ((k + 1 : Nat) : Int)) (by omega) (by omega)) rn) (by kernel_rfl) fun hA => ?_
                replace hA := hA.bare
                exact again hJ (C - (k + 1)) (⟨k + 1, lo, hi, sn⟩) [true, true, true, true] hA (by omega) (by kernel_rfl) (⟨⟨by omega, rfl⟩, hcd.skip hno⟩)
              case neg =>
                refine runS hA 22 ([.g false, .g false, .g false, .k 4, .g false, .g false, .g false, .g true, .g true, .g true, .k 4, .g true, .g true, .g false, .b false] ++ List.replicate 8 (.k 0)) xn (oc (eq_f (a := (l0 : Int)) (b := 0) (by omega)) (oc (rfl : Value.bool false = .bool false) (oc (rfl : Value.bool false = .bool false) (oc (rfl : Value.bool false = .bool false) (oc (rfl : Value.bool false = .bool false) (oc (rfl : Value.bool false = .bool false) (oc (eq_t (a := (l1 : Int)) (b := 0) (by omega)) (oc (rfl : Value.bool true = .bool true) (oc (rfl : Value.bool true = .bool true) (oc (rfl : Value.bool true = .bool true) (oc (rfl : Value.bool true = .bool true) (oc (rfl : Value.bool false = .bool false) (oc (dec_f (show ¬ ((l2 : Int) > 0) by omega)) on))))))))))))) (by kernel_rfl) fun w15 hA => ?_
                have hok : ok3 (racN b) k := ⟨(fun e9 => z0 (hZ0.1 e9)), fun _ => (hZ2.2 z2)⟩
                have hf3 : f3 (racN b) k = [(gr3 (racN b) k 0)] := f3_one (fun e9 => z0 (hZ0.1 e9)) (hZ1.2 z1) (hZ2.2 z2)
                have hff : isFinF b [(gr3 (racN b) k 0)] = true := by rw [← hf3]; exact fin_code b k
                have hq9 : ∃ p, p = pdF (tilF b) (f3 (racN b) k) := ⟨_, rfl⟩
                obtain ⟨p, hp⟩ := hq9
                have hi0 : (gr3 (racN b) k 0).length ≤ d0 ∧ IntsAt w15 w15.heap.size X0 (gr3 (racN b) k 0).length (gr3 (racN b) k 0) := by rw [hL0]; exact ⟨hI0.1, hI0.2 _ (fun kb hk9 => hA.at_.rok kb (List.mem_append_left _ hk9))⟩
                have hfa : FinAt w15 w15.heap.size (some ⟨w8.heap.size, 0, none⟩) 1 [(gr3 (racN b) k 0)] := fin_made (hA.at_.ok ⟨w8.heap.size, .cells #[.slice X0 l0 d0, .slice X1 l1 d1, .slice X2 l2 d2] 23 (0, 0)⟩ (List.mem_of_getElem? (i := 4) (by kernel_rfl))) (by decide) (by rw [hL0]; rfl) (ValsAt.snoc (vals_nil w15) hi0.1 hi0.2)
                refine callB hA [] on (rAccountOf_any w15 w15.heap.size b A n c A2 m c2 (some ⟨w8.heap.size, 0, none⟩) 1 3 [(gr3 (racN b) k 0)] ((h.below hA.below hB).more (Nat.le_trans hB hA.size)) hfa (Nat.le_refl _) h0 hff) (by kernel_rfl) fun w16 hb16 hA => ?_
                refine runS hA 2 [] xn on (by kernel_rfl) fun w17 hA => ?_
                refine revals hA (rc 14 (show .int .i64 ((AccountF b [(gr3 (racN b) k 0)]).paid) = .int .i64 p by rw [(acc_left h0 hff).1, hp, hf3]) rn) (by kernel_rfl) fun hA => ?_
                have hcp := hcd.pay hok hp
                have hq9 := Bool.eq_false_or_eq_true sn
                rcases hq9 with hsn | hsn
                ·
                  refine revals hA (rc 8 (show .bool sn = .bool true by rw [hsn]) rn) (by kernel_rfl) fun hA => ?_
                  refine runS hA 31 (List.replicate 4 (.k 3)) xn on (by kernel_rfl) fun w18 hA => ?_
                  refine revals hA (rc 9 (wr64 (x := (k : Int) + 1) (y := ((k + 1 : Nat) : Int)) (by omega) (by omega)) rn) (by kernel_rfl) fun hA => ?_
                  replace hA := hA.bare
                  exact again hJ (C - (k + 1)) (⟨k + 1, if p < lo then p else lo, if p > hi then p else hi, true⟩) [true, true, true, true] hA (by omega) (by kernel_rfl) (⟨⟨by omega, rfl⟩, hcp.1 hsn⟩)
                ·
                  refine revals hA (rc 8 (show .bool sn = .bool false by rw [hsn]) rn) (by kernel_rfl) fun hA => ?_
                  refine runS hA 37 (List.replicate 6 (.k 3)) xn on (by kernel_rfl) fun w18 hA => ?_
                  refine revals hA (rc 9 (wr64 (x := (k : Int) + 1) (y := ((k + 1 : Nat) : Int)) (by omega) (by omega)) rn) (by kernel_rfl) fun hA => ?_
                  replace hA := hA.bare
                  exact again hJ (C - (k + 1)) (⟨k + 1, if p < p then p else p, if p > p then p else p, true⟩) [true, true, true, true] hA (by omega) (by kernel_rfl) (⟨⟨by omega, rfl⟩, hcp.2 hsn⟩)
            case neg =>
              refine runS hA 12 [.b false, .k 4, .t 0] xn (oc (eq_f (a := (l1 : Int)) (b := 0) (by omega)) on) (by kernel_rfl) fun w14 hA => ?_
              by_cases z0 : l0 = 0
              case pos =>
                refine runS hA 25 (List.replicate 7 (.g true)) xn (oc (eq_t (a := (l0 : Int)) (b := 0) (by omega)) (oc (rfl : Value.bool true = .bool true) (oc (rfl : Value.bool true = .bool true) (oc (rfl : Value.bool true = .bool true) (oc (rfl : Value.bool true = .bool true) (oc (rfl : Value.bool true = .bool true) (oc (rfl : Value.bool true = .bool true) on))))))) (by kernel_rfl) fun w15 hA => ?_
                have hno : ¬ ok3 (racN b) k := fun h9 => h9.1 (hZ0.2 z0)
                refine revals hA (rc 9 (wr64 (x := (k : Int) + 1) (y := ((k + 1 : Nat) : Int)) (by omega) (by omega)) rn) (by kernel_rfl) fun hA => ?_
                replace hA := hA.bare
                exact again hJ (C - (k + 1)) (⟨k + 1, lo, hi, sn⟩) [true, true, true, true] hA (by omega) (by kernel_rfl) (⟨⟨by omega, rfl⟩, hcd.skip hno⟩)
              case neg =>
                refine runS hA 22 ([.g false, .g false, .g false, .k 4] ++ List.replicate 9 (.g false) ++ List.replicate 8 (.k 0)) xn (oc (eq_f (a := (l0 : Int)) (b := 0) (by omega)) (oc (rfl : Value.bool false = .bool false) (oc (rfl : Value.bool false = .bool false) (oc (rfl : Value.bool false = .bool false) (oc (rfl : Value.bool false = .bool false) (oc (rfl : Value.bool false = .bool false) (oc (eq_f (a := (l1 : Int)) (b := 0) (by omega)) (oc (rfl : Value.bool false = .bool false) (oc (rfl : Value.bool false = .bool false) (oc (rfl : Value.bool false = .bool false) (oc (rfl : Value.bool false = .bool false) (oc (rfl : Value.bool false = .bool false) on)))))))))))) (by kernel_rfl) fun w15 hA => ?_
                have hok : ok3 (racN b) k := ⟨(fun e9 => z0 (hZ0.1 e9)), fun _ => (hZ2.2 z2)⟩
                have hf3 : f3 (racN b) k = [(gr3 (racN b) k 0), (gr3 (racN b) k 1)] := f3_two (fun e9 => z0 (hZ0.1 e9)) (fun e9 => z1 (hZ1.1 e9)) (hZ2.2 z2)
                have hff : isFinF b [(gr3 (racN b) k 0), (gr3 (racN b) k 1)] = true := by rw [← hf3]; exact fin_code b k
                have hq9 : ∃ p, p = pdF (tilF b) (f3 (racN b) k) := ⟨_, rfl⟩
                obtain ⟨p, hp⟩ := hq9
                have hi0 : (gr3 (racN b) k 0).length ≤ d0 ∧ IntsAt w15 w15.heap.size X0 (gr3 (racN b) k 0).length (gr3 (racN b) k 0) := by rw [hL0]; exact ⟨hI0.1, hI0.2 _ (fun kb hk9 => hA.at_.rok kb (List.mem_append_left _ hk9))⟩
                have hi1 : (gr3 (racN b) k 1).length ≤ d1 ∧ IntsAt w15 w15.heap.size X1 (gr3 (racN b) k 1).length (gr3 (racN b) k 1) := by rw [hL1]; exact ⟨hI1.1, hI1.2 _ (fun kb hk9 => hA.at_.rok kb (List.mem_append_right _ (List.mem_append_left _ hk9)))⟩
                have hfa : FinAt w15 w15.heap.size (some ⟨w8.heap.size, 0, none⟩) 2 [(gr3 (racN b) k 0), (gr3 (racN b) k 1)] := fin_made (hA.at_.ok ⟨w8.heap.size, .cells #[.slice X0 l0 d0, .slice X1 l1 d1, .slice X2 l2 d2] 23 (0, 0)⟩ (List.mem_of_getElem? (i := 4) (by kernel_rfl))) (by decide) (by rw [hL0, hL1]; rfl) (ValsAt.snoc (ValsAt.snoc (vals_nil w15) hi0.1 hi0.2) hi1.1 hi1.2)
                refine callB hA [] on (rAccountOf_any w15 w15.heap.size b A n c A2 m c2 (some ⟨w8.heap.size, 0, none⟩) 2 3 [(gr3 (racN b) k 0), (gr3 (racN b) k 1)] ((h.below hA.below hB).more (Nat.le_trans hB hA.size)) hfa (Nat.le_refl _) h0 hff) (by kernel_rfl) fun w16 hb16 hA => ?_
                refine runS hA 2 [] xn on (by kernel_rfl) fun w17 hA => ?_
                refine revals hA (rc 14 (show .int .i64 ((AccountF b [(gr3 (racN b) k 0), (gr3 (racN b) k 1)]).paid) = .int .i64 p by rw [(acc_left h0 hff).1, hp, hf3]) rn) (by kernel_rfl) fun hA => ?_
                have hcp := hcd.pay hok hp
                have hq9 := Bool.eq_false_or_eq_true sn
                rcases hq9 with hsn | hsn
                ·
                  refine revals hA (rc 8 (show .bool sn = .bool true by rw [hsn]) rn) (by kernel_rfl) fun hA => ?_
                  refine runS hA 31 (List.replicate 4 (.k 3)) xn on (by kernel_rfl) fun w18 hA => ?_
                  refine revals hA (rc 9 (wr64 (x := (k : Int) + 1) (y := ((k + 1 : Nat) : Int)) (by omega) (by omega)) rn) (by kernel_rfl) fun hA => ?_
                  replace hA := hA.bare
                  exact again hJ (C - (k + 1)) (⟨k + 1, if p < lo then p else lo, if p > hi then p else hi, true⟩) [true, true, true, true] hA (by omega) (by kernel_rfl) (⟨⟨by omega, rfl⟩, hcp.1 hsn⟩)
                ·
                  refine revals hA (rc 8 (show .bool sn = .bool false by rw [hsn]) rn) (by kernel_rfl) fun hA => ?_
                  refine runS hA 37 (List.replicate 6 (.k 3)) xn on (by kernel_rfl) fun w18 hA => ?_
                  refine revals hA (rc 9 (wr64 (x := (k : Int) + 1) (y := ((k + 1 : Nat) : Int)) (by omega) (by omega)) rn) (by kernel_rfl) fun hA => ?_
                  replace hA := hA.bare
                  exact again hJ (C - (k + 1)) (⟨k + 1, if p < p then p else p, if p > p then p else p, true⟩) [true, true, true, true] hA (by omega) (by kernel_rfl) (⟨⟨by omega, rfl⟩, hcp.2 hsn⟩)
          case neg =>
            refine runS hA 12 [.b false, .k 4, .t 0] xn (oc (eq_f (a := (l2 : Int)) (b := 0) (by omega)) on) (by kernel_rfl) fun w13 hA => ?_
            by_cases z0 : l0 = 0
            case pos =>
              refine runS hA 25 (List.replicate 7 (.g true)) xn (oc (eq_t (a := (l0 : Int)) (b := 0) (by omega)) (oc (rfl : Value.bool true = .bool true) (oc (rfl : Value.bool true = .bool true) (oc (rfl : Value.bool true = .bool true) (oc (rfl : Value.bool true = .bool true) (oc (rfl : Value.bool true = .bool true) (oc (rfl : Value.bool true = .bool true) on))))))) (by kernel_rfl) fun w14 hA => ?_
              have hno : ¬ ok3 (racN b) k := fun h9 => h9.1 (hZ0.2 z0)
              refine revals hA (rc 9 (wr64 (x := (k : Int) + 1) (y := ((k + 1 : Nat) : Int)) (by omega) (by omega)) rn) (by kernel_rfl) fun hA => ?_
              replace hA := hA.bare
              exact again hJ (C - (k + 1)) (⟨k + 1, lo, hi, sn⟩) [true, true, true, true] hA (by omega) (by kernel_rfl) (⟨⟨by omega, rfl⟩, hcd.skip hno⟩)
            case neg =>
              refine runS hA 6 [.g false, .g false, .g false, .k 4, .g false, .g false, .g false, .t 0] xn (oc (eq_f (a := (l0 : Int)) (b := 0) (by omega)) (oc (rfl : Value.bool false = .bool false) (oc (rfl : Value.bool false = .bool false) (oc (rfl : Value.bool false = .bool false) (oc (rfl : Value.bool false = .bool false) (oc (rfl : Value.bool false = .bool false) on)))))) (by kernel_rfl) fun w14 hA => ?_
              by_cases z1 : l1 = 0
              case pos =>
                refine runS hA 19 [.g true, .g true, .g true, .k 4, .g true, .g true, .g false, .b true] xn (oc (eq_t (a := (l1 : Int)) (b := 0) (by omega)) (oc (rfl : Value.bool true = .bool true) (oc (rfl : Value.bool true = .bool true) (oc (rfl : Value.bool true = .bool true) (oc (rfl : Value.bool true = .bool true) (oc (rfl : Value.bool false = .bool false) (oc (dec_t (show (l2 : Int) > 0 by omega)) on))))))) (by kernel_rfl) fun w15 hA => ?_
                have hno : ¬ ok3 (racN b) k := fun h9 => z2 (hZ2.1 (h9.2 (hZ1.2 z1)))
                refine revals hA (rc 9 (wr64 (x := (k : Int) + 1) (y := ((k + 1 : Nat) : Int)) (by omega) (by omega)) rn) (by kernel_rfl) fun hA => ?_
                replace hA := hA.bare
                exact again hJ (C - (k + 1)) (⟨k + 1, lo, hi, sn⟩) [true, true, true, true] hA (by omega) (by kernel_rfl) (⟨⟨by omega, rfl⟩, hcd.skip hno⟩)
              case neg =>
                refine runS hA 16 (List.replicate 6 (.g false) ++ List.replicate 8 (.k 0)) xn (oc (eq_f (a := (l1 : Int)) (b := 0) (by omega)) (oc (rfl : Value.bool false = .bool false) (oc (rfl : Value.bool false = .bool false) (oc (rfl : Value.bool false = .bool false) (oc (rfl : Value.bool false = .bool false) (oc (rfl : Value.bool false = .bool false) on)))))) (by kernel_rfl) fun w15 hA => ?_
                have hok : ok3 (racN b) k := ⟨fun e9 => z0 (hZ0.1 e9), fun e9 => absurd (hZ1.1 e9) z1⟩
                have hf3 : f3 (racN b) k = [(gr3 (racN b) k 0), (gr3 (racN b) k 1), (gr3 (racN b) k 2)] := f3_three (fun e9 => z0 (hZ0.1 e9)) (fun e9 => z1 (hZ1.1 e9)) (fun e9 => z2 (hZ2.1 e9))
                have hff : isFinF b [(gr3 (racN b) k 0), (gr3 (racN b) k 1), (gr3 (racN b) k 2)] = true := by rw [← hf3]; exact fin_code b k
                have hq9 : ∃ p, p = pdF (tilF b) (f3 (racN b) k) := ⟨_, rfl⟩
                obtain ⟨p, hp⟩ := hq9
                have hi0 : (gr3 (racN b) k 0).length ≤ d0 ∧ IntsAt w15 w15.heap.size X0 (gr3 (racN b) k 0).length (gr3 (racN b) k 0) := by rw [hL0]; exact ⟨hI0.1, hI0.2 _ (fun kb hk9 => hA.at_.rok kb (List.mem_append_left _ hk9))⟩
                have hi1 : (gr3 (racN b) k 1).length ≤ d1 ∧ IntsAt w15 w15.heap.size X1 (gr3 (racN b) k 1).length (gr3 (racN b) k 1) := by rw [hL1]; exact ⟨hI1.1, hI1.2 _ (fun kb hk9 => hA.at_.rok kb (List.mem_append_right _ (List.mem_append_left _ hk9)))⟩
                have hi2 : (gr3 (racN b) k 2).length ≤ d2 ∧ IntsAt w15 w15.heap.size X2 (gr3 (racN b) k 2).length (gr3 (racN b) k 2) := by rw [hL2]; exact ⟨hI2.1, hI2.2 _ (fun kb hk9 => hA.at_.rok kb (List.mem_append_right _ (List.mem_append_right _ (List.mem_append_left _ hk9))))⟩
                have hfa : FinAt w15 w15.heap.size (some ⟨w8.heap.size, 0, none⟩) 3 [(gr3 (racN b) k 0), (gr3 (racN b) k 1), (gr3 (racN b) k 2)] := fin_made (hA.at_.ok ⟨w8.heap.size, .cells #[.slice X0 l0 d0, .slice X1 l1 d1, .slice X2 l2 d2] 23 (0, 0)⟩ (List.mem_of_getElem? (i := 4) (by kernel_rfl))) (by decide) (by rw [hL0, hL1, hL2]; rfl) (ValsAt.snoc (ValsAt.snoc (ValsAt.snoc (vals_nil w15) hi0.1 hi0.2) hi1.1 hi1.2) hi2.1 hi2.2)
                refine callB hA [] on (rAccountOf_any w15 w15.heap.size b A n c A2 m c2 (some ⟨w8.heap.size, 0, none⟩) 3 3 [(gr3 (racN b) k 0), (gr3 (racN b) k 1), (gr3 (racN b) k 2)] ((h.below hA.below hB).more (Nat.le_trans hB hA.size)) hfa (Nat.le_refl _) h0 hff) (by kernel_rfl) fun w16 hb16 hA => ?_
                refine runS hA 2 [] xn on (by kernel_rfl) fun w17 hA => ?_
                refine revals hA (rc 14 (show .int .i64 ((AccountF b [(gr3 (racN b) k 0), (gr3 (racN b) k 1), (gr3 (racN b) k 2)]).paid) = .int .i64 p by rw [(acc_left h0 hff).1, hp, hf3]) rn) (by kernel_rfl) fun hA => ?_
                have hcp := hcd.pay hok hp
                have hq9 := Bool.eq_false_or_eq_true sn
                rcases hq9 with hsn | hsn
                ·
                  refine revals hA (rc 8 (show .bool sn = .bool true by rw [hsn]) rn) (by kernel_rfl) fun hA => ?_
                  refine runS hA 31 (List.replicate 4 (.k 3)) xn on (by kernel_rfl) fun w18 hA => ?_
                  refine revals hA (rc 9 (wr64 (x := (k : Int) + 1) (y := ((k + 1 : Nat) : Int)) (by omega) (by omega)) rn) (by kernel_rfl) fun hA => ?_
                  replace hA := hA.bare
                  exact again hJ (C - (k + 1)) (⟨k + 1, if p < lo then p else lo, if p > hi then p else hi, true⟩) [true, true, true, true] hA (by omega) (by kernel_rfl) (⟨⟨by omega, rfl⟩, hcp.1 hsn⟩)
                ·
                  refine revals hA (rc 8 (show .bool sn = .bool false by rw [hsn]) rn) (by kernel_rfl) fun hA => ?_
                  refine runS hA 37 (List.replicate 6 (.k 3)) xn on (by kernel_rfl) fun w18 hA => ?_
                  refine revals hA (rc 9 (wr64 (x := (k : Int) + 1) (y := ((k + 1 : Nat) : Int)) (by omega) (by omega)) rn) (by kernel_rfl) fun hA => ?_
                  replace hA := hA.bare
                  exact again hJ (C - (k + 1)) (⟨k + 1, if p < p then p else p, if p > p then p else p, true⟩) [true, true, true, true] hA (by omega) (by kernel_rfl) (⟨⟨by omega, rfl⟩, hcp.2 hsn⟩)
        case pos =>
          refine runS hA 15 [.b true] xn (oc (dec_t (show (((i : Int) : Int) < (RN : Int)) by omega)) on) (by kernel_rfl) fun w11 hA => ?_
          have hki : k / 3 ^ i ≤ 7000 := Nat.le_trans (Nat.div_le_self _ _) (by omega)
          have hdl : k / 3 ^ i % 3 < 3 := Nat.mod_lt _ (by decide)
          have hq9 := (show k / 3 ^ i % 3 = 0 ∨ k / 3 ^ i % 3 = 1 ∨ k / 3 ^ i % 3 = 2 by omega)
          rcases hq9 with hd | hd | hd
          ·
            have hl9 : l0 ≤ 8 := by have h1 := hq0.1; have h2 := g3_len (racN b) k 0 i; unfold ints at h1; rw [List.length_map] at h1; omega
            refine draw hA [true, true, true, true, true] [0, 1, 2, 3, 4, 5, 6, 7, 8, 9, 10, 11, 12, 13] (by kernel_rfl) (by kernel_rfl) fun hA => ?_
            refine runS hA 3 [.t 0, .t 1, .t 2] xn on (by kernel_rfl) fun w12 hA => ?_
            refine revals hA (rc 47 (congrArg (Value.int .i64) (show ((k / 3 ^ i : Nat) : Int).tmod 3 = (0 : Int) from (ht3 _).trans (congrArg (fun q : Nat => (q : Int)) hd))) rn) (by kernel_rfl) fun hA => ?_
            refine runS hA 3 [.t 3, .t 4, .t 5] xn on (by kernel_rfl) fun w13 hA => ?_
            refine revals hA (rc 50 (congrArg (Value.int .i64) (show ((k / 3 ^ i : Nat) : Int).tmod 3 = (0 : Int) from (ht3 _).trans (congrArg (fun q : Nat => (q : Int)) hd))) rn) (by kernel_rfl) fun hA => ?_
            refine runS hA 7 [.t 6, .t 7, .k 4, .t 8, .t 9, .t 10, .i, .t 11, .y 2 (.int .i64 ((racN b)[i]?.getD 0)), .h 12] xn (oc (show (0 : Int) ≤ ((i : Int) : Int) ∧ ((i : Int) : Int) < (RN : Int) by omega) (oc (show cul[0 + i * 1]? = some (.int .i64 ((racN b)[i]?.getD 0)) from by simpa using hcl i hli) on)) (by kernel_rfl) fun w14 hA => ?_
            have hob9 := cell_of_obj (a := ⟨wi.heap.size, 0, none⟩) (hA.at_.ok ⟨wi.heap.size, .cells #[.int .i64 ((racN b)[i]?.getD 0)] 3 (0, 0)⟩ (List.mem_of_getElem? (i := 5) (by kernel_rfl))) rfl rfl
            refine appEDS (t := 23) (e := 3) (ty := 23) (z := .int .i64 0) (size := 1) (bytes := 8) (v := .slice X0 l0 d0) (n := l0) (m := 1) (cp := 1) (A := some ⟨wi.heap.size, 0, none⟩) (vs := ints (g3 (racN b) k 0 i)) (ob := o0) [.int .i64 ((racN b)[i]?.getD 0)] hA hq0 (by kernel_rfl) rfl (fun _ => ⟨_, rfl, fun p u hu => by match p, hu with | 0, hu => cases hu; exact hob9⟩) rfl (by omega) (by omega) (by omega) fun g2 c2' w15 ob2q hr2q hA => ?_
            refine runS hA 8 [.b false, .k 4] xn on (by kernel_rfl) fun w16 hA => ?_
            have hst : (g3 (racN b) k 0 (i + 1)) = (g3 (racN b) k 0 i) ++ [((racN b)[i]?.getD 0)] := by rw [g3, if_pos hd]
            have hrk : RowV 3 1 (.slice (some ⟨g2, 0, none⟩) (l0 + 1) c2') (l0 + 1) (ints (g3 (racN b) k 0 (i + 1))) ob2q := by rw [hst, ints_append]; exact hr2q
            have hk1 : RowV 3 1 (.slice X1 l1 d1) l1 (ints (g3 (racN b) k 1 (i + 1))) o1 := by rw [g3, if_neg (by omega), List.append_nil]; exact hq1
            have hk2 : RowV 3 1 (.slice X2 l2 d2) l2 (ints (g3 (racN b) k 2 (i + 1))) o2 := by rw [g3, if_neg (by omega), List.append_nil]; exact hq2
            refine revals hA (rc 61 (congrArg (Value.int .i64) (show IntKind.i64.wrap (((k / 3 ^ i : Nat) : Int).tdiv 3) = ((k / 3 ^ (i + 1) : Nat) : Int) from (hq3 _ hki).trans (by rw [Nat.div_div_eq_div_mul, ← Nat.pow_succ]))) rn) (by kernel_rfl) fun hA => ?_
            refine runS hA 9 [] xn on (by kernel_rfl) fun w17 hA => ?_
            refine revals hA (rc 12 (wr64 (x := (i : Int) + 1) (y := ((i + 1 : Nat) : Int)) (by omega) (by omega)) rn) (by kernel_rfl) fun hA => ?_
            exact again hJi (RN - (i + 1)) (⟨i + 1, l0 + 1, some ⟨g2, 0, none⟩, c2', ob2q, l1, X1, d1, o1, l2, X2, d2, o2⟩) [true, true, true, true, true] hA (by omega) (by kernel_rfl) (⟨⟨by omega, rfl⟩, hrk, hk1, hk2⟩)
          ·
            replace hA := hA.perm (List.perm_append_comm_assoc o0 o1 (o2 ++ []))
            have hl9 : l1 ≤ 8 := by have h1 := hq1.1; have h2 := g3_len (racN b) k 1 i; unfold ints at h1; rw [List.length_map] at h1; omega
            refine draw hA [true, true, true, true, true] [0, 1, 2, 3, 4, 5, 6, 7, 8, 9, 10, 11, 12, 13] (by kernel_rfl) (by kernel_rfl) fun hA => ?_
            refine runS hA 3 [.t 0, .t 1, .t 2] xn on (by kernel_rfl) fun w12 hA => ?_
            refine revals hA (rc 47 (congrArg (Value.int .i64) (show ((k / 3 ^ i : Nat) : Int).tmod 3 = (1 : Int) from (ht3 _).trans (congrArg (fun q : Nat => (q : Int)) hd))) rn) (by kernel_rfl) fun hA => ?_
            refine runS hA 3 [.t 3, .t 4, .t 5] xn on (by kernel_rfl) fun w13 hA => ?_
            refine revals hA (rc 50 (congrArg (Value.int .i64) (show ((k / 3 ^ i : Nat) : Int).tmod 3 = (1 : Int) from (ht3 _).trans (congrArg (fun q : Nat => (q : Int)) hd))) rn) (by kernel_rfl) fun hA => ?_
            refine runS hA 7 [.t 6, .t 7, .k 4, .t 8, .t 9, .t 10, .i, .t 11, .y 2 (.int .i64 ((racN b)[i]?.getD 0)), .h 12] xn (oc (show (0 : Int) ≤ ((i : Int) : Int) ∧ ((i : Int) : Int) < (RN : Int) by omega) (oc (show cul[0 + i * 1]? = some (.int .i64 ((racN b)[i]?.getD 0)) from by simpa using hcl i hli) on)) (by kernel_rfl) fun w14 hA => ?_
            have hob9 := cell_of_obj (a := ⟨wi.heap.size, 0, none⟩) (hA.at_.ok ⟨wi.heap.size, .cells #[.int .i64 ((racN b)[i]?.getD 0)] 3 (0, 0)⟩ (List.mem_of_getElem? (i := 5) (by kernel_rfl))) rfl rfl
            refine appEDS (t := 23) (e := 3) (ty := 23) (z := .int .i64 0) (size := 1) (bytes := 8) (v := .slice X1 l1 d1) (n := l1) (m := 1) (cp := 1) (A := some ⟨wi.heap.size, 0, none⟩) (vs := ints (g3 (racN b) k 1 i)) (ob := o1) [.int .i64 ((racN b)[i]?.getD 0)] hA hq1 (by kernel_rfl) rfl (fun _ => ⟨_, rfl, fun p u hu => by match p, hu with | 0, hu => cases hu; exact hob9⟩) rfl (by omega) (by omega) (by omega) fun g2 c2' w15 ob2q hr2q hA => ?_
            refine runS hA 8 [.b false, .k 4] xn on (by kernel_rfl) fun w16 hA => ?_
            have hst : (g3 (racN b) k 1 (i + 1)) = (g3 (racN b) k 1 i) ++ [((racN b)[i]?.getD 0)] := by rw [g3, if_pos hd]
            have hrk : RowV 3 1 (.slice (some ⟨g2, 0, none⟩) (l1 + 1) c2') (l1 + 1) (ints (g3 (racN b) k 1 (i + 1))) ob2q := by rw [hst, ints_append]; exact hr2q
            have hk0 : RowV 3 1 (.slice X0 l0 d0) l0 (ints (g3 (racN b) k 0 (i + 1))) o0 := by rw [g3, if_neg (by omega), List.append_nil]; exact hq0
            have hk2 : RowV 3 1 (.slice X2 l2 d2) l2 (ints (g3 (racN b) k 2 (i + 1))) o2 := by rw [g3, if_neg (by omega), List.append_nil]; exact hq2
            replace hA := hA.perm (List.perm_append_comm_assoc ob2q o0 (o2 ++ []))
            refine revals hA (rc 61 (congrArg (Value.int .i64) (show IntKind.i64.wrap (((k / 3 ^ i : Nat) : Int).tdiv 3) = ((k / 3 ^ (i + 1) : Nat) : Int) from (hq3 _ hki).trans (by rw [Nat.div_div_eq_div_mul, ← Nat.pow_succ]))) rn) (by kernel_rfl) fun hA => ?_
            refine runS hA 9 [] xn on (by kernel_rfl) fun w17 hA => ?_
            refine revals hA (rc 12 (wr64 (x := (i : Int) + 1) (y := ((i + 1 : Nat) : Int)) (by omega) (by omega)) rn) (by kernel_rfl) fun hA => ?_
            exact again hJi (RN - (i + 1)) (⟨i + 1, l0, X0, d0, o0, l1 + 1, some ⟨g2, 0, none⟩, c2', ob2q, l2, X2, d2, o2⟩) [true, true, true, true, true] hA (by omega) (by kernel_rfl) (⟨⟨by omega, rfl⟩, hk0, hrk, hk2⟩)
          ·
            replace hA := hA.perm (((List.perm_append_comm_assoc o1 o2 []).append_left o0).trans (List.perm_append_comm_assoc o0 o2 (o1 ++ [])))
            have hl9 : l2 ≤ 8 := by have h1 := hq2.1; have h2 := g3_len (racN b) k 2 i; unfold ints at h1; rw [List.length_map] at h1; omega
            refine draw hA [true, true, true, true, true] [0, 1, 2, 3, 4, 5, 6, 7, 8, 9, 10, 11, 12, 13] (by kernel_rfl) (by kernel_rfl) fun hA => ?_
            refine runS hA 3 [.t 0, .t 1, .t 2] xn on (by kernel_rfl) fun w12 hA => ?_
            refine revals hA (rc 47 (congrArg (Value.int .i64) (show ((k / 3 ^ i : Nat) : Int).tmod 3 = (2 : Int) from (ht3 _).trans (congrArg (fun q : Nat => (q : Int)) hd))) rn) (by kernel_rfl) fun hA => ?_
            refine runS hA 3 [.t 3, .t 4, .t 5] xn on (by kernel_rfl) fun w13 hA => ?_
            refine revals hA (rc 50 (congrArg (Value.int .i64) (show ((k / 3 ^ i : Nat) : Int).tmod 3 = (2 : Int) from (ht3 _).trans (congrArg (fun q : Nat => (q : Int)) hd))) rn) (by kernel_rfl) fun hA => ?_
            refine runS hA 7 [.t 6, .t 7, .k 4, .t 8, .t 9, .t 10, .i, .t 11, .y 2 (.int .i64 ((racN b)[i]?.getD 0)), .h 12] xn (oc (show (0 : Int) ≤ ((i : Int) : Int) ∧ ((i : Int) : Int) < (RN : Int) by omega) (oc (show cul[0 + i * 1]? = some (.int .i64 ((racN b)[i]?.getD 0)) from by simpa using hcl i hli) on)) (by kernel_rfl) fun w14 hA => ?_
            have hob9 := cell_of_obj (a := ⟨wi.heap.size, 0, none⟩) (hA.at_.ok ⟨wi.heap.size, .cells #[.int .i64 ((racN b)[i]?.getD 0)] 3 (0, 0)⟩ (List.mem_of_getElem? (i := 5) (by kernel_rfl))) rfl rfl
            refine appEDS (t := 23) (e := 3) (ty := 23) (z := .int .i64 0) (size := 1) (bytes := 8) (v := .slice X2 l2 d2) (n := l2) (m := 1) (cp := 1) (A := some ⟨wi.heap.size, 0, none⟩) (vs := ints (g3 (racN b) k 2 i)) (ob := o2) [.int .i64 ((racN b)[i]?.getD 0)] hA hq2 (by kernel_rfl) rfl (fun _ => ⟨_, rfl, fun p u hu => by match p, hu with | 0, hu => cases hu; exact hob9⟩) rfl (by omega) (by omega) (by omega) fun g2 c2' w15 ob2q hr2q hA => ?_
            refine runS hA 8 [.b false, .k 4] xn on (by kernel_rfl) fun w16 hA => ?_
            have hst : (g3 (racN b) k 2 (i + 1)) = (g3 (racN b) k 2 i) ++ [((racN b)[i]?.getD 0)] := by rw [g3, if_pos hd]
            have hrk : RowV 3 1 (.slice (some ⟨g2, 0, none⟩) (l2 + 1) c2') (l2 + 1) (ints (g3 (racN b) k 2 (i + 1))) ob2q := by rw [hst, ints_append]; exact hr2q
            have hk0 : RowV 3 1 (.slice X0 l0 d0) l0 (ints (g3 (racN b) k 0 (i + 1))) o0 := by rw [g3, if_neg (by omega), List.append_nil]; exact hq0
            have hk1 : RowV 3 1 (.slice X1 l1 d1) l1 (ints (g3 (racN b) k 1 (i + 1))) o1 := by rw [g3, if_neg (by omega), List.append_nil]; exact hq1
            replace hA := hA.perm ((List.perm_append_comm_assoc ob2q o0 (o1 ++ [])).trans ((List.perm_append_comm_assoc ob2q o1 []).append_left o0))
            refine revals hA (rc 61 (congrArg (Value.int .i64) (show IntKind.i64.wrap (((k / 3 ^ i : Nat) : Int).tdiv 3) = ((k / 3 ^ (i + 1) : Nat) : Int) from (hq3 _ hki).trans (by rw [Nat.div_div_eq_div_mul, ← Nat.pow_succ]))) rn) (by kernel_rfl) fun hA => ?_
            refine runS hA 9 [] xn on (by kernel_rfl) fun w17 hA => ?_
            refine revals hA (rc 12 (wr64 (x := (i : Int) + 1) (y := ((i + 1 : Nat) : Int)) (by omega) (by omega)) rn) (by kernel_rfl) fun hA => ?_
            exact again hJi (RN - (i + 1)) (⟨i + 1, l0, X0, d0, o0, l1, X1, d1, o1, l2 + 1, some ⟨g2, 0, none⟩, c2', ob2q⟩) [true, true, true, true, true] hA (by omega) (by kernel_rfl) (⟨⟨by omega, rfl⟩, hk0, hk1, hrk⟩)
end Go.Proofs.YtbahiemjaomdcaaGreat

/- law of pool: PoolSpreads. -/
namespace Go.Proofs.YtbahiemjaomdcaaGreat
open Go.RowKit Go.Shelf

set_option maxHeartbeats 1000000 in
set_option maxRecDepth 20000 in
theorem PoolSpreads_any (w : World) (B : Nat) (b : Bk) (A : Option Addr) (n c : Nat) (A2 : Option Addr) (m c2 : Nat) (h : BkAt w B b A n c A2 m c2) (hB : B ≤ w.heap.size) : Calls Tryz.prog 4 #[bkV b A n c A2 m c2] w fun e w' => e = .returned (.bool true) ∧ Below w.heap.size w w' := by
  have hbl := h.bets.1
  refine enter 47 Tryz.func4 (by kernel_rfl) fun hA => ?_
  refine runS hA 10 (List.replicate 8 (.k 0)) xn on (by kernel_rfl) fun w1 hA => ?_
  refine callB hA [] on (great_any w1 b A n c A2 m c2) (by kernel_rfl) fun w2 hb2 hA => ?_
  by_cases hgr : 110 < n ∨ 20 < m
  case pos =>
    refine revals hA (rc 8 (show .bool (decide (110 < n ∨ 20 < m)) = .bool true by rw [decide_eq_true hgr]) rn) (by kernel_rfl) fun hA => ?_
    refine runS hA 21 (List.replicate 5 (.g true)) xn (oc (rfl : Value.bool true = .bool true) (oc (rfl : Value.bool true = .bool true) (oc (rfl : Value.bool true = .bool true) (oc (rfl : Value.bool true = .bool true) (oc (rfl : Value.bool true = .bool true) on))))) (by kernel_rfl) fun w3 hA => ?_
    refine callB hA [] on (Works_any w3) (by kernel_rfl) fun w4 hb4 hA => ?_
    refine runS hA 5 [] xn on (by kernel_rfl) fun w5 hA => ?_
    exact ret (v := .bool true) hA [] (by kernel_rfl) ⟨rfl, hA.below⟩
  case neg =>
    refine revals hA (rc 8 (show .bool (decide (110 < n ∨ 20 < m)) = .bool false by rw [decide_eq_false hgr]) rn) (by kernel_rfl) fun hA => ?_
    refine runS hA 2 ([.g false] ++ List.replicate 8 (.k 0)) xn (oc (rfl : Value.bool false = .bool false) on) (by kernel_rfl) fun w3 hA => ?_
    refine callB hA [] on (rcheckBook_any w3 B b A n c A2 m c2 (h.below hA.below hB) (Nat.le_trans hB hA.size)) (by kernel_rfl) fun w4 hb4 hA => ?_
    refine runS hA 1 [.g false] xn (oc (rfl : Value.bool false = .bool false) on) (by kernel_rfl) fun w5 hA => ?_
    by_cases h0 : bookF b = 0
    case neg =>
      refine revals hA (rc 12 (eq_f h0) rn) (by kernel_rfl) fun hA => ?_
      refine runS hA 20 (List.replicate 7 (.g false) ++ List.replicate 8 (.k 0)) xn (oc (rfl : Value.bool false = .bool false) (oc (rfl : Value.bool false = .bool false) (oc (rfl : Value.bool false = .bool false) (oc (rfl : Value.bool false = .bool false) (oc (rfl : Value.bool false = .bool false) (oc (rfl : Value.bool false = .bool false) (oc (rfl : Value.bool false = .bool false) on))))))) (by kernel_rfl) fun w6 hA => ?_
      refine callB hA [] on (Spread_any w6 B b A n c A2 m c2 (h.below hA.below hB) (Nat.le_trans hB hA.size)) (by kernel_rfl) fun w7 hb7 hA => ?_
      refine runS hA 11 ([.k 1, .k 1] ++ List.replicate 8 (.k 0)) xn on (by kernel_rfl) fun w8 hA => ?_
      refine callB hA [] on (rSpread_any w8 B b A n c A2 m c2 (h.below hA.below hB) (Nat.le_trans hB hA.size)) (by kernel_rfl) fun w9 hb9 hA => ?_
      refine runS hA 12 [.k 2, .k 2, .k 1, .k 1, .k 2, .k 2] xn on (by kernel_rfl) fun w10 hA => ?_
      refine opv (v := .bool (decide (True))) hA [] on (s := cmpSem .eql 44 (.tmp 36) (.tmp 37) (.agg #[.int .i64 ((sprF b).1), .int .i64 ((sprF b).2)]) (.agg #[.int .i64 ((sprF b).1), .int .i64 ((sprF b).2)])) (by kernel_rfl) (cmp_flat (n := 2) false (by kernel_rfl) _ (by kernel_rfl) (fun i hi => by match i, hi with | 0, _ => exact ⟨_, _, _, rfl, rfl⟩ | 1, _ => exact ⟨_, _, _, rfl, rfl⟩) (True) (by simp) (by kernel_rfl)) fun hA => ?_
      refine revals hA (rc 38 (show .bool (decide (True)) = .bool true by simp) rn) (by kernel_rfl) fun hA => ?_
      refine runS hA 6 [.g true, .g true, .g true, .t 0] xn (oc (rfl : Value.bool true = .bool true) (oc (rfl : Value.bool true = .bool true) (oc (rfl : Value.bool true = .bool true) on))) (by kernel_rfl) fun w11 hA => ?_
      refine revals hA (rc 44 (eq_t (a := bookF b) (b := bookF b) rfl) rn) (by kernel_rfl) fun hA => ?_
      refine callB hA [] on (Works_any w11) (by kernel_rfl) fun w12 hb12 hA => ?_
      refine runS hA 5 [] xn on (by kernel_rfl) fun w13 hA => ?_
      exact ret (v := .bool true) hA [] (by kernel_rfl) ⟨rfl, hA.below⟩
    case pos =>
      refine revals hA (rc 12 (eq_t h0) rn) (by kernel_rfl) fun hA => ?_
      refine runS hA 5 [.g false, .g true, .g true, .k 0, .g true, .g true, .t 0] xn (oc (rfl : Value.bool false = .bool false) (oc (rfl : Value.bool true = .bool true) (oc (rfl : Value.bool true = .bool true) (oc (rfl : Value.bool true = .bool true) (oc (rfl : Value.bool true = .bool true) on))))) (by kernel_rfl) fun w6 hA => ?_
      by_cases h6 : b.runners > 6
      case pos =>
        refine runS hA 12 (List.replicate 5 (.g true) ++ [.g false]) xn (oc (dec_t (show ((b.runners : Int) > (6 : Int)) by omega)) (oc (rfl : Value.bool true = .bool true) (oc (rfl : Value.bool true = .bool true) (oc (rfl : Value.bool true = .bool true) (oc (rfl : Value.bool true = .bool true) (oc (rfl : Value.bool false = .bool false) on)))))) (by kernel_rfl) fun w7 hA => ?_
        refine callB hA [] on (Works_any w7) (by kernel_rfl) fun w8 hb8 hA => ?_
        refine runS hA 5 [] xn on (by kernel_rfl) fun w9 hA => ?_
        exact ret (v := .bool true) hA [] (by kernel_rfl) ⟨rfl, hA.below⟩
      case neg =>
        refine runS hA 9 [.g false, .g false, .k 0, .g false, .g false, .g true, .g false, .t 0] xn (oc (dec_f (show ¬ ((b.runners : Int) > (6 : Int)) by omega)) (oc (rfl : Value.bool false = .bool false) (oc (rfl : Value.bool false = .bool false) (oc (rfl : Value.bool false = .bool false) (oc (rfl : Value.bool true = .bool true) (oc (rfl : Value.bool false = .bool false) on)))))) (by kernel_rfl) fun w7 hA => ?_
        by_cases h20 : (n : Int) > 20
        case pos =>
          refine runS hA 3 [.b true] xn (oc (dec_t (show ((n : Int) > (20 : Int)) by omega)) on) (by kernel_rfl) fun w8 hA => ?_
          refine callB hA [] on (Works_any w8) (by kernel_rfl) fun w9 hb9 hA => ?_
          refine runS hA 5 [] xn on (by kernel_rfl) fun w10 hA => ?_
          exact ret (v := .bool true) hA [] (by kernel_rfl) ⟨rfl, hA.below⟩
        case neg =>
          refine runS hA 6 ([.b false] ++ List.replicate 8 (.k 0)) xn (oc (dec_f (show ¬ ((n : Int) > (20 : Int)) by omega)) on) (by kernel_rfl) fun w8 hA => ?_
          refine callB hA [] on (Spread_any w8 B b A n c A2 m c2 (h.below hA.below hB) (Nat.le_trans hB hA.size)) (by kernel_rfl) fun w9 hb9 hA => ?_
          refine runS hA 11 ([.k 1, .k 1] ++ List.replicate 8 (.k 0)) xn on (by kernel_rfl) fun w10 hA => ?_
          refine callB hA [] on (rSpread_any w10 B b A n c A2 m c2 (h.below hA.below hB) (Nat.le_trans hB hA.size)) (by kernel_rfl) fun w11 hb11 hA => ?_
          refine runS hA 12 [.k 2, .k 2, .k 1, .k 1, .k 2, .k 2] xn on (by kernel_rfl) fun w12 hA => ?_
          refine opv (v := .bool (decide (True))) hA [] on (s := cmpSem .eql 44 (.tmp 36) (.tmp 37) (.agg #[.int .i64 ((sprF b).1), .int .i64 ((sprF b).2)]) (.agg #[.int .i64 ((sprF b).1), .int .i64 ((sprF b).2)])) (by kernel_rfl) (cmp_flat (n := 2) false (by kernel_rfl) _ (by kernel_rfl) (fun i hi => by match i, hi with | 0, _ => exact ⟨_, _, _, rfl, rfl⟩ | 1, _ => exact ⟨_, _, _, rfl, rfl⟩) (True) (by simp) (by kernel_rfl)) fun hA => ?_
          refine revals hA (rc 38 (show .bool (decide (True)) = .bool true by simp) rn) (by kernel_rfl) fun hA => ?_
          refine runS hA 6 [.g true, .g true, .g true, .t 0] xn (oc (rfl : Value.bool true = .bool true) (oc (rfl : Value.bool true = .bool true) (oc (rfl : Value.bool true = .bool true) on))) (by kernel_rfl) fun w13 hA => ?_
          refine revals hA (rc 44 (eq_t (a := bookF b) (b := bookF b) rfl) rn) (by kernel_rfl) fun hA => ?_
          refine callB hA [] on (Works_any w13) (by kernel_rfl) fun w14 hb14 hA => ?_
          refine runS hA 5 [] xn on (by kernel_rfl) fun w15 hA => ?_
          exact ret (v := .bool true) hA [] (by kernel_rfl) ⟨rfl, hA.below⟩
end Go.Proofs.YtbahiemjaomdcaaGreat

/- PoolSpreads answers true whatever the book; the argument reads behind the call as it did. No condition. -/
namespace Go.Proofs.YtbahiemjaomdcaaGreat.poolSpreads
open Go.ChangeShapes Go.WideShapes Go.ChangeAt Go.RowKit

theorem own : ownKnob Tryz.prog.godebug = none := by kernel_rfl
theorem laidOut : laidOutB Tryz.prog = true := by kernel_rfl
theorem cellsInt : Tryz.prog.cellsOf 3 = 1 := by kernel_rfl
/-- A slice of numbers among the arguments. -/
theorem ints_arg {H : Type} {enc : TypeId × Value → H} {W : World} {fuel : Nat} {v : Value} {x : DataW H × List MemPlace} (h : DataW.trod enc Tryz.prog W 0 (fun _ => true) true fuel 23 [v] = some x) :
    ∃ A n c xs, v = .slice A n c ∧ n ≤ c ∧ IntsAt W W.heap.size A n xs := by
  rcases open_ints Tryz.underlying23 Tryz.underlying3 cellsInt h with ⟨hcs, -⟩ | ⟨a, n, c, zs, hcs, -, hl, hm, hz, -, hcell, -⟩
  · obtain rfl : v = .slice none 0 0 := by simpa using hcs
    exact ⟨none, 0, 0, [], rfl, Nat.le_refl _, IntsAt.nil⟩
  · obtain rfl : v = .slice (some a) n c := by simpa using hcs
    have hz : zs.length = c := by simpa using hz
    refine ⟨some a, n, c, zs.take n, rfl, hl, by rw [List.length_take]; omega, by simp only [maxLen] at hm; omega, fun h0 => ?_⟩
    obtain ⟨b, off, rfl, hc⟩ := Go.ints_at hcell (by omega)
    refine ⟨b, off, rfl, ?_, fun j hj => ?_⟩
    · rcases Nat.lt_or_ge b W.heap.size with hb | hb
      · exact hb
      · have := hc 0 (by omega)
        simp [World.cell?, Array.getElem?_eq_none hb] at this
    · rw [hc j (by omega), List.getElem?_take, if_pos hj, List.getD_eq_getElem?_getD]
theorem cellsI64 : Tryz.prog.cellsOf 2 = 1 := by kernel_rfl
theorem cellsBool : Tryz.prog.cellsOf 4 = 1 := by kernel_rfl
theorem cellsBet : Tryz.prog.cellsOf 93 = 3 := by kernel_rfl
theorem cellsBets : Tryz.prog.cellsOf 22 = 1 := by kernel_rfl
theorem cellsInts : Tryz.prog.cellsOf 23 = 1 := by kernel_rfl
theorem cellsBook : Tryz.prog.cellsOf 25 = 8 := by kernel_rfl
theorem bet_gen {H : Type} {enc : TypeId × Value → H} {P : Program} {W : World} {fuel : Nat} {T I J : TypeId} {f0 f1 f2 : Field} (ht : P.underlying T = some (.struct #[f0, f1, f2])) (hi : P.underlying I = some (.int .i64)) (hj : P.underlying J = some (.int .i64)) (cI : P.cellsOf I = 1) (cJ : P.cellsOf J = 1) (cT : P.cellsOf T = 3)
    (o0 : f0.offset = 0 ∧ f0.type = I) (o1 : f1.offset = 1 ∧ f1.type = I) (o2 : f2.offset = 2 ∧ f2.type = J) {cs : List Value} {x : DataW H × List MemPlace} (h : DataW.trod enc P W 0 (fun _ => true) true fuel T cs = some x) :
    ∃ y : Bet, cs = [.int .i64 y.first, .int .i64 y.second, .int .i64 y.units] := by
  obtain ⟨xs, m, -, -, hl, hn, hf⟩ := Go.DataW.trod_struct ht h
  rw [cT] at hl
  obtain ⟨v0, v1, v2, rfl⟩ : ∃ v0 v1 v2, cs = [v0, v1, v2] := by
    match cs, hl with
    | [a, b, c], _ => exact ⟨a, b, c, rfl⟩
  have g0 := hf 0 f0 rfl
  have g1 := hf 1 f1 rfl
  have g2 := hf 2 f2 rfl
  simp only [List.size_toArray, List.length_cons, List.length_nil] at hn
  rw [List.getElem?_eq_getElem (by omega)] at g0 g1 g2
  rw [o0.1, o0.2, cI] at g0
  rw [o1.1, o1.2, cI] at g1
  rw [o2.1, o2.2, cJ] at g2
  obtain ⟨a, e0, -, -⟩ := Go.DataW.trod_int hi g0
  obtain ⟨b, e1, -, -⟩ := Go.DataW.trod_int hi g1
  obtain ⟨c, e2, -, -⟩ := Go.DataW.trod_int hj g2
  simp at e0 e1 e2
  exact ⟨⟨a, b, c⟩, by rw [e0, e1, e2]⟩
theorem bet_arg {H : Type} {enc : TypeId × Value → H} {W : World} {fuel : Nat} {cs : List Value} {x : DataW H × List MemPlace} (h : DataW.trod enc Tryz.prog W 0 (fun _ => true) true fuel 93 cs = some x) :
    ∃ y : Bet, cs = [.int .i64 y.first, .int .i64 y.second, .int .i64 y.units] := bet_gen Tryz.underlying93 Tryz.underlying3 Tryz.underlying2 cellsInt cellsI64 cellsBet ⟨rfl, rfl⟩ ⟨rfl, rfl⟩ ⟨rfl, rfl⟩ h
/-- A slice of bets among the arguments. -/
theorem bets_arg {H : Type} {enc : TypeId × Value → H} {W : World} {fuel : Nat} {v : Value} {x : DataW H × List MemPlace} (h : DataW.trod enc Tryz.prog W 0 (fun _ => true) true fuel 22 [v] = some x) :
    ∃ A n c bs, v = .slice A n c ∧ n ≤ c ∧ BetsAt W W.heap.size A n bs := by
  rcases Go.Deep.open_slice Tryz.underlying22 h with ⟨hcs, -⟩ | ⟨a, len, cap, m, n', D, Pl, hcs, -, hl, hm, hmm, -, hel⟩
  · obtain rfl : v = .slice none 0 0 := by simpa using hcs
    exact ⟨none, 0, 0, [], rfl, Nat.le_refl _, rfl, by omega, fun h => absurd h (by omega)⟩
  · obtain rfl : v = .slice (some a) len cap := by simpa using hcs
    have hmc : m = cap := by simpa using hmm
    have each : ∀ i, i < len → ∃ y : Bet, W.cell? (a.add (i * 3)) = some (.int .i64 y.first) ∧ W.cell? (a.add (i * 3 + 1)) = some (.int .i64 y.second) ∧ W.cell? (a.add (i * 3 + 2)) = some (.int .i64 y.units) := by
      intro i hi
      obtain ⟨cs', h1, h2⟩ := hel i (by omega)
      obtain ⟨y, rfl⟩ := bet_arg h2
      rw [cellsBet] at h1
      obtain ⟨_, hlen, hcell⟩ := World.cells?_some h1
      have g0 := hcell 0 (by omega)
      have g1 := hcell 1 (by omega)
      have g2 := hcell 2 (by omega)
      rw [Go.Deep.add_add] at g0 g1 g2
      exact ⟨y, by simpa using g0, by simpa using g1, by simpa using g2⟩
    obtain ⟨fx, hfx⟩ := Go.Deep.choose_lt each
    refine ⟨some a, len, cap, (List.range len).map fx, rfl, hl, by simp, by simp only [maxLen] at hm; omega, fun h0 => ?_⟩
    obtain ⟨b, off, spot⟩ := a
    have hc0 := (hfx 0 h0).1
    have hspot : spot = none := by simpa [Addr.add] using World.cell?_spot hc0
    subst hspot
    refine ⟨b, off, rfl, ?_, fun j hj => ?_⟩
    · rcases Nat.lt_or_ge b W.heap.size with hb | hb
      · exact hb
      · simp [World.cell?, Addr.add, Array.getElem?_eq_none hb] at hc0
    · have e := hfx j hj
      rw [Go.WideShapes.add_plain, Go.WideShapes.add_plain, Go.WideShapes.add_plain] at e
      rw [List.getElem?_map, List.getElem?_range hj, Option.map_some, Option.getD_some]
      exact e
theorem book_gen {H : Type} {enc : TypeId × Value → H} {P : Program} {W : World} {fuel : Nat} {T I J S R C : TypeId} {f0 f1 f2 f3 f4 f5 f6 f7 : Field} (ht : P.underlying T = some (.struct #[f0, f1, f2, f3, f4, f5, f6, f7])) (hi : P.underlying I = some (.int .i64)) (hj : P.underlying J = some (.int .i64)) (hb : P.underlying C = some .bool)
    (cI : P.cellsOf I = 1) (cJ : P.cellsOf J = 1) (cS : P.cellsOf S = 1) (cR : P.cellsOf R = 1) (cC : P.cellsOf C = 1) (cT : P.cellsOf T = 8)
    (o0 : f0.offset = 0 ∧ f0.type = I) (o1 : f1.offset = 1 ∧ f1.type = I) (o2 : f2.offset = 2 ∧ f2.type = S) (o3 : f3.offset = 3 ∧ f3.type = R) (o4 : f4.offset = 4 ∧ f4.type = C) (o5 : f5.offset = 5 ∧ f5.type = J) (o6 : f6.offset = 6 ∧ f6.type = J) (o7 : f7.offset = 7 ∧ f7.type = J)
    {cs : Array Value} {x : DataW H × List MemPlace} (h : DataW.trod enc P W 0 (fun _ => true) true fuel T cs.toList = some x) :
    ∃ (a0 a1 : Int) (v2 v3 : Value) (a4 : Bool) (a5 a6 a7 : Int) (q : Nat) (x2 x3 : DataW H × List MemPlace), cs = #[.int .i64 a0, .int .i64 a1, v2, v3, .bool a4, .int .i64 a5, .int .i64 a6, .int .i64 a7] ∧
      DataW.trod enc P W 0 (fun _ => true) true q S [v2] = some x2 ∧ DataW.trod enc P W 0 (fun _ => true) true q R [v3] = some x3 := by
  obtain ⟨xs, q, -, -, hl, hn, hf⟩ := Go.DataW.trod_struct ht h
  rw [cT] at hl
  obtain ⟨v0, v1, v2, v3, v4, v5, v6, v7, hc⟩ : ∃ v0 v1 v2 v3 v4 v5 v6 v7, cs.toList = [v0, v1, v2, v3, v4, v5, v6, v7] := by
    generalize cs.toList = l at hl
    match l, hl with
    | [a, b, c, d, e, f, g, h], _ => exact ⟨a, b, c, d, e, f, g, h, rfl⟩
  rw [hc] at hf
  simp only [List.size_toArray, List.length_cons, List.length_nil] at hn
  have g0 := hf 0 f0 rfl
  have g1 := hf 1 f1 rfl
  have g2 := hf 2 f2 rfl
  have g3 := hf 3 f3 rfl
  have g4 := hf 4 f4 rfl
  have g5 := hf 5 f5 rfl
  have g6 := hf 6 f6 rfl
  have g7 := hf 7 f7 rfl
  rw [List.getElem?_eq_getElem (by omega)] at g0 g1 g2 g3 g4 g5 g6 g7
  rw [o0.1, o0.2, cI] at g0
  rw [o1.1, o1.2, cI] at g1
  rw [o2.1, o2.2, cS] at g2
  rw [o3.1, o3.2, cR] at g3
  rw [o4.1, o4.2, cC] at g4
  rw [o5.1, o5.2, cJ] at g5
  rw [o6.1, o6.2, cJ] at g6
  rw [o7.1, o7.2, cJ] at g7
  obtain ⟨a0, e0, -, -⟩ := Go.DataW.trod_int hi g0
  obtain ⟨a1, e1, -, -⟩ := Go.DataW.trod_int hi g1
  obtain ⟨a4, e4, -⟩ := Go.DataW.trod_bool hb g4
  obtain ⟨a5, e5, -, -⟩ := Go.DataW.trod_int hj g5
  obtain ⟨a6, e6, -, -⟩ := Go.DataW.trod_int hj g6
  obtain ⟨a7, e7, -, -⟩ := Go.DataW.trod_int hj g7
  simp at e0 e1 e4 e5 e6 e7
  refine ⟨a0, a1, v2, v3, a4, a5, a6, a7, q, _, _, ?_, by simpa using g2, by simpa using g3⟩
  apply Array.toList_inj.1
  rw [hc, e0, e1, e4, e5, e6, e7]
/-- A book among the arguments. -/
theorem book_arg {H : Type} {enc : TypeId × Value → H} {W : World} {fuel : Nat} {cs : Array Value} {x : DataW H × List MemPlace} (h : DataW.trod enc Tryz.prog W 0 (fun _ => true) true fuel 25 cs.toList = some x) :
    ∃ b A n c A2 m c2, cs = bkC b A n c A2 m c2 ∧ BkAt W W.heap.size b A n c A2 m c2 := by
  obtain ⟨a0, a1, v2, v3, a4, a5, a6, a7, q, x2, x3, rfl, f2, f3⟩ := book_gen Tryz.underlying25 Tryz.underlying3 Tryz.underlying2 Tryz.underlying4 cellsInt cellsI64 cellsBets cellsInts cellsBool cellsBook ⟨rfl, rfl⟩ ⟨rfl, rfl⟩ ⟨rfl, rfl⟩ ⟨rfl, rfl⟩ ⟨rfl, rfl⟩ ⟨rfl, rfl⟩ ⟨rfl, rfl⟩ ⟨rfl, rfl⟩ h
  obtain ⟨A, n, c, bs, rfl, l2, i2⟩ := bets_arg f2
  obtain ⟨A2, m, c2, ss, rfl, l3, i3⟩ := ints_arg f3
  exact ⟨⟨a0, a1, bs, ss, a4, a5, a6, a7⟩, A, n, c, A2, m, c2, rfl, i2, i3, l2, l3⟩

/-! ### THE ROW's STEP -/
set_option maxRecDepth 100000 in
theorem lifted (os : Os) (started : os.Started) (H : Type) (enc : TypeId × Value → H) :
    ReturnsInHanded {} Tryz.checked os 4 .any (Rows.poolSpreadsSpec.pre6 enc Tryz.prog Tryz.f4 Rows.poolSpreadsRow.domain false) (Rows.poolSpreadsSpec.post enc Tryz.prog Tryz.f4 false true false false) := by
  refine returnsInHanded_of_change (C := Tryz.checked) own started (by kernel_rfl) Tryz.func4
    (ChangeSpec.witness6 (enc := enc) (C := Tryz.checked) false ⟨#[], #[.agg #[.int .i64 0, .int .i64 0, .slice none 0 0, .slice none 0 0, .bool false, .int .i64 0, .int .i64 0, .int .i64 0]], []⟩ 8 (by kernel_rfl) (by kernel_rfl) (by kernel_rfl) (by kernel_rfl)) ?_
  intro W base args ds gs before hval0 hW hcnd _
  have hval : ∀ (j : Nat) t v, Tryz.f4.params[j]? = some t → args[j]? = some v → Value.okWide Tryz.prog W .any base t v := hval0
  have hW' := hW
  obtain ⟨p, q, hA0, hV, rfl, hfz, hnd⟩ := hW
  have hA : DataW.TrodAll enc Tryz.prog W 0 (fun _ => true) true Tryz.f4.params.toList args.toList ds p := hA0
  rw [Tryz.params4] at hA hval
  obtain ⟨v0, d0, rfl, rfl, h0⟩ := trodAll_one hA
  obtain ⟨rfl, rfl⟩ := trodVars_none hV
  obtain ⟨cs0, rfl, -⟩ := okWide_struct Tryz.underlying25 (hval 0 25 v0 rfl rfl)
  have h0k := h0
  obtain ⟨f0, hf0⟩ := h0
  obtain ⟨b0, A0, n0, c0, B0, m0, d0, e0, i0⟩ := book_arg (cs := cs0) hf0
  subst e0
  clear hA0 hval0
  simp only [List.append_nil] at hW'
  have hlt0 : ∀ x ∈ p, x.block < W.heap.size := fun x hx => by simpa using hW'.lt x (by simp [hx])
  refine (PoolSpreads_any W W.heap.size b0 A0 n0 c0 B0 m0 d0 i0 (Nat.le_refl _)).mono fun e W' ⟨he, hg⟩ => ?_
  subst he
  exact ⟨_, rfl, _, _, _, [], p, [], hW', trodAll_cons_mk (shut_bool Tryz.underlying4 _) trodAll_mk0,
    trodAll_mk1 (Below.trod laidOut (by kernel_rfl) (of_decide_eq_true (by kernel_rfl)) h0k hg hlt0),
    rfl, hg.frame _, fun h => by cases h⟩

theorem over : Rows.poolSpreadsRow.holds Tryz.pinned (OpenSpec.ofChange Rows.poolSpreadsSpec) :=
  OpenClaim.holds_of_wide 4 Tryz.f4 rfl rfl rfl rfl rfl rfl rfl ⟨rfl, rfl, rfl, rfl, rfl⟩ rfl rfl rfl rfl rfl (by kernel_rfl) Tryz.func4 (by kernel_rfl)
    (of_decide_eq_true (by kernel_rfl)) (by unfold Func.isWrapper; first | (rw [if_pos (by decide +kernel)]; kernel_rfl) | (rw [if_neg (by decide +kernel)]; exact ⟨rfl, rfl⟩))
    (fun os started H enc _ => lifted os started H enc)

/-- The statement. -/
theorem proved : Rows.PoolSpreadsSaid :=
  over
#print axioms proved
end Go.Proofs.YtbahiemjaomdcaaGreat.poolSpreads
