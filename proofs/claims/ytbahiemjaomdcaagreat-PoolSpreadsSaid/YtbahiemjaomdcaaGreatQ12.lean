/- Parts of a proof: VR VM VN. -/
import Derived.Test.YtbahiemjaomdcaaGreatF11

/- pool: finishes and winners. -/
namespace Go.Proofs.YtbahiemjaomdcaaGreat
open Go.RowKit Go.Shelf

theorem posF_get {x : Int} {xs : List Int} (h : x ∈ xs) : ∃ q, posF x xs = some q ∧ ∃ hq : q < xs.length, xs[q] = x := by
  unfold posF
  cases h1 : xs.findIdx? (fun y => y == x) with
  | none =>
    rw [List.findIdx?_eq_none_iff] at h1
    have := h1 x h
    simp at this
  | some q =>
    rw [List.findIdx?_eq_some_iff_getElem] at h1
    obtain ⟨hq, h2, -⟩ := h1
    exact ⟨q, rfl, hq, by simpa using h2⟩
theorem posF_out {x : Int} {xs : List Int} (h : x ∉ xs) : posF x xs = none := by
  unfold posF
  rw [List.findIdx?_eq_none_iff]
  intro y hy
  have : y ≠ x := fun e => h (e ▸ hy)
  simpa using this
theorem erase_mem {xs : List Int} (hn : xs.Nodup) {q : Nat} (hq : q < xs.length) (x : Int) : x ∈ xs.eraseIdx q ↔ x ∈ xs ∧ x ≠ xs[q] := by
  rw [List.mem_eraseIdx_iff_getElem]
  constructor
  · rintro ⟨i, hi, hne, rfl⟩
    exact ⟨List.getElem_mem _, fun e => hne ((List.getElem_inj hn).1 e)⟩
  · rintro ⟨hx, hne⟩
    obtain ⟨i, hi, rfl⟩ := List.getElem_of_mem hx
    exact ⟨i, hi, fun e => hne (by subst e; rfl), rfl⟩
theorem remF_step {co : List Int} {r : Int} (h : r ∈ co) (hn : co.Nodup) : ∃ c, (∀ rs, remF co (r :: rs) = remF c rs) ∧ c.Nodup ∧ (∀ x, x ∈ c ↔ x ∈ co ∧ x ≠ r) ∧ c.length + 1 = co.length := by
  obtain ⟨q, h1, hq, h2⟩ := posF_get h
  refine ⟨co.eraseIdx q, fun rs => by rw [remF, h1], hn.sublist (List.eraseIdx_sublist co q), fun x => by rw [erase_mem hn hq, h2], ?_⟩
  rw [List.length_eraseIdx, if_pos hq]
  omega
theorem remF_stop {co : List Int} {r : Int} (h : r ∉ co) (rs : List Int) : remF co (r :: rs) = none := by rw [remF, posF_out h]
theorem remF_append : ∀ (xs : List Int) (co ys : List Int), remF co (xs ++ ys) = (remF co xs).bind fun c => remF c ys
  | [], co, ys => rfl
  | x :: xs, co, ys => by
    rw [List.cons_append, remF, remF]
    cases posF x co with
    | none => rfl
    | some q => exact remF_append xs _ ys
theorem grpF_append : ∀ (fs : List (List Int)) (co : List Int) (gs : List (List Int)), grpF co (fs ++ gs) = (grpF co fs).bind fun c => grpF c gs
  | [], co, gs => rfl
  | F :: fs, co, gs => by
    rw [List.cons_append, grpF, grpF]
    split
    · rfl
    · cases remF co F with
      | none => rfl
      | some c => exact grpF_append fs c gs
theorem take_snoc {α : Type} {l : List α} {k : Nat} {d : α} (h : k < l.length) : l.take (k + 1) = l.take k ++ [l[k]?.getD d] := by
  rw [List.take_add_one, List.getElem?_eq_getElem h]
  rfl
theorem split_at {α : Type} {l : List α} {k : Nat} {d : α} (h : k < l.length) : l = l.take k ++ l[k]?.getD d :: l.drop (k + 1) := by
  rw [List.getElem?_eq_getElem h, Option.getD_some, ← List.drop_eq_getElem_cons h, List.take_append_drop]
/-- What is known when the groups below i have come in. -/
structure FinInv (b : Bk) (fs : List (List Int)) (i : Nat) (co : List Int) (all : Nat) : Prop where
  grp : grpF (racN b) (fs.take i) = some co
  nd : co.Nodup
  mem : ∀ x, x ∈ co ↔ x ∈ racN b ∧ ∀ j, j < i → x ∉ fs[j]?.getD []
  cnt : all + co.length = (racN b).length
/-- What is known when the first k of a group have come in. -/
structure GrpInv (b : Bk) (co F : List Int) (k : Nat) (c : List Int) (all : Nat) : Prop where
  rem : remF co (F.take k) = some c
  nd : c.Nodup
  mem : ∀ x, x ∈ c ↔ x ∈ co ∧ x ∉ F.take k
  cnt : all + c.length = (racN b).length
  inc : ∀ j, j + 1 < k → F[j]?.getD 0 < F[j + 1]?.getD 0
theorem racN_nodup (b : Bk) : (racN b).Nodup := by
  have key : ∀ k, (racL b k).Nodup := by
    intro k
    induction k with
    | zero => exact List.nodup_nil
    | succ k ih =>
      rw [racL, List.nodup_append]
      refine ⟨ih, by split <;> simp, fun a ha c hc e => ?_⟩
      have h1 := (racL_mem b).1 ha
      split at hc
      · cases hc
      · rw [List.mem_singleton.1 hc] at e; omega
  exact key _
theorem FinInv.zero (b : Bk) (fs : List (List Int)) : FinInv b fs 0 (racN b) 0 := ⟨rfl, racN_nodup b, fun x => ⟨fun h => ⟨h, fun j hj => absurd hj (Nat.not_lt_zero j)⟩, fun h => h.1⟩, by omega⟩
theorem GrpInv.step {b : Bk} {co F c : List Int} {k all : Nat} (G : GrpInv b co F k c all) (hk : k < F.length) (hm : F[k]?.getD 0 ∈ co) (hi : 0 < k → F[k - 1]?.getD 0 < F[k]?.getD 0) : ∃ c2, GrpInv b co F (k + 1) c2 (all + 1) := by
  have hc : F[k]?.getD 0 ∈ c := (G.mem _).2 ⟨hm, fun h => by
    obtain ⟨j, hj, e⟩ := List.getElem_of_mem h
    have hjk : j < k := by rw [List.length_take] at hj; omega
    rw [List.getElem_take] at e
    have key : ∀ d, j + d + 1 ≤ k → F[j]?.getD 0 < F[j + d + 1]?.getD 0 := by
      intro d
      induction d with
      | zero =>
        intro hd
        rcases Nat.lt_or_ge (j + 1) k with h1 | h1
        · exact G.inc j h1
        · have := hi (by omega); rw [show k - 1 = j by omega] at this; rw [show j + 0 + 1 = k by omega]; exact this
      | succ d ih =>
        intro hd
        have h1 := ih (by omega)
        have h2 : F[j + d + 1]?.getD 0 < F[j + d + 1 + 1]?.getD 0 := by
          rcases Nat.lt_or_ge (j + d + 1 + 1) k with h2 | h2
          · exact G.inc _ h2
          · have := hi (by omega); rw [show k - 1 = j + d + 1 by omega] at this; rw [show j + d + 1 + 1 = k by omega]; exact this
        exact Int.lt_trans h1 h2
    have := key (k - j - 1) (by omega)
    rw [show j + (k - j - 1) + 1 = k by omega, ← e, List.getElem?_eq_getElem (by omega), Option.getD_some] at this
    omega⟩
  obtain ⟨c2, h1, h2, h3, h4⟩ := remF_step hc G.nd
  refine ⟨c2, ?_, h2, fun x => ?_, by have := G.cnt; omega, fun j hj => ?_⟩
  · rw [take_snoc (d := 0) hk, remF_append, G.rem]
    exact h1 []
  · rw [h3, G.mem, take_snoc (d := 0) hk, List.mem_append, List.mem_singleton]
    exact ⟨fun h => ⟨h.1.1, fun h9 => h9.elim h.1.2 h.2⟩, fun h => ⟨⟨h.1, fun h9 => h.2 (.inl h9)⟩, fun h9 => h.2 (.inr h9)⟩⟩
  · rcases Nat.lt_or_ge (j + 1) k with h5 | h5
    · exact G.inc j h5
    · have := hi (by omega); rw [show k - 1 = j by omega] at this; rw [show j + 1 = k by omega]; exact this
theorem FinInv.step {b : Bk} {fs : List (List Int)} {i all a2 : Nat} {co c : List Int} (H : FinInv b fs i co all) (hi : i < fs.length) (G : GrpInv b co (fs[i]?.getD []) (fs[i]?.getD []).length c a2) (h0 : (fs[i]?.getD []).length ≠ 0) : FinInv b fs (i + 1) c a2 := by
  have hinc : incF (fs[i]?.getD []) = true := incF_true fun j hj => G.inc j hj
  have hr := G.rem
  have hmm := G.mem
  rw [List.take_length] at hr hmm
  refine ⟨?_, G.nd, fun x => ?_, G.cnt⟩
  · rw [take_snoc (d := []) hi, grpF_append, H.grp]
    show grpF co [fs[i]?.getD []] = _
    rw [grpF, if_neg (fun h => h.elim h0 (fun h => by rw [hinc] at h; cases h)), hr]
    rfl
  · rw [hmm, H.mem]
    constructor
    · rintro ⟨⟨h1, h2⟩, h3⟩
      refine ⟨h1, fun j hj => ?_⟩
      rcases Nat.lt_or_ge j i with h4 | h4
      · exact h2 j h4
      · rw [show j = i by omega]; exact h3
    · rintro ⟨h1, h2⟩
      exact ⟨⟨h1, fun j hj => h2 j (by omega)⟩, h2 i (by omega)⟩
theorem GrpInv.out {b : Bk} {co F c : List Int} {k all : Nat} (G : GrpInv b co F k c all) (hk : k < F.length) (h : F[k]?.getD 0 ∉ co) : remF co F = none := by
  rw [split_at (d := 0) hk, remF_append, G.rem, Option.bind_some]
  exact remF_stop (fun hc => h ((G.mem _).1 hc).1) _
/-- Whether a pair wins. -/
def winB (b : Bk) (fs : List (List Int)) (x y : Int) : Bool :=
  if b.kind = 0 then decide (y = -1) && decide (x ∈ fs[0]?.getD [])
  else if b.kind = 1 then decide (y = -1) && (decide (x ∈ fs[0]?.getD []) || (decide ((fs[0]?.getD []).length = 1) && decide (x ∈ fs[1]?.getD [])))
  else if b.kind = 2 then decide (x ≠ y) && decide (x ∈ fs[0]?.getD []) && (if (fs[0]?.getD []).length = 1 then decide (y ∈ fs[1]?.getD []) else decide (y ∈ fs[0]?.getD []))
  else decide (x < y) && (if (fs[0]?.getD []).length = 1 then decide (x ∈ fs[0]?.getD []) && decide (y ∈ fs[1]?.getD []) || decide (y ∈ fs[0]?.getD []) && decide (x ∈ fs[1]?.getD []) else decide (x ∈ fs[0]?.getD []) && decide (y ∈ fs[0]?.getD []))
/-- The pairs of a first runner with the first j second ones (none, 0, 1 ..) that win; those of the first k first ones. -/
def rowR (b : Bk) (fs : List (List Int)) (one : Int) : Nat → List (Int × Int)
  | 0 => []
  | j + 1 => rowR b fs one j ++ if winB b fs one ((j : Int) - 1) = true then [(one, (j : Int) - 1)] else []
def allR (b : Bk) (fs : List (List Int)) (R : Nat) : Nat → List (Int × Int)
  | 0 => []
  | k + 1 => allR b fs R k ++ rowR b fs (k : Int) (R + 1)
theorem rowR_len (b : Bk) (fs : List (List Int)) (one : Int) : ∀ j, (rowR b fs one j).length ≤ j
  | 0 => Nat.le_refl _
  | j + 1 => by
    have := rowR_len b fs one j
    rw [rowR, List.length_append]
    split <;> simp <;> omega
theorem allR_len (b : Bk) (fs : List (List Int)) (R : Nat) : ∀ k, (allR b fs R k).length ≤ k * (R + 1)
  | 0 => Nat.zero_le _
  | k + 1 => by
    have h1 := allR_len b fs R k
    have h2 := rowR_len b fs (k : Int) (R + 1)
    rw [allR, List.length_append, Nat.succ_mul]
    omega
theorem rowR_mem (b : Bk) (fs : List (List Int)) (one : Int) {p : Int × Int} : ∀ {j : Nat}, p ∈ rowR b fs one j ↔ (p.1 = one ∧ -1 ≤ p.2 ∧ p.2 < (j : Int) - 1) ∧ winB b fs p.1 p.2 = true
  | 0 => by simp [rowR]; omega
  | j + 1 => by
    rw [rowR, List.mem_append, rowR_mem b fs one (j := j)]
    obtain ⟨x, y⟩ := p
    by_cases h : winB b fs one ((j : Int) - 1) = true
    · rw [if_pos h, List.mem_singleton, Prod.mk.injEq]
      constructor
      · rintro (⟨h1, h2⟩ | ⟨rfl, rfl⟩)
        · exact ⟨by simp only at h1 ⊢; omega, h2⟩
        · exact ⟨⟨rfl, show -1 ≤ (j : Int) - 1 by omega, show (j : Int) - 1 < ((j + 1 : Nat) : Int) - 1 by omega⟩, h⟩
      · rintro ⟨⟨h1, h2, h3⟩, h4⟩
        simp only at h1 h2 h3 h4
        subst h1
        by_cases hy : y = (j : Int) - 1
        · exact .inr ⟨rfl, hy⟩
        · exact .inl ⟨⟨rfl, h2, by simp only; omega⟩, h4⟩
    · rw [if_neg h]
      simp only [List.not_mem_nil, or_false]
      constructor
      · rintro ⟨⟨h1, h2, h3⟩, h4⟩
        exact ⟨⟨h1, h2, by omega⟩, h4⟩
      · rintro ⟨⟨h1, h2, h3⟩, h4⟩
        refine ⟨⟨h1, h2, ?_⟩, h4⟩
        by_cases hy : y = (j : Int) - 1
        · subst hy; subst h1; exact absurd h4 h
        · omega
theorem allR_mem (b : Bk) (fs : List (List Int)) (R : Nat) {p : Int × Int} : ∀ {k : Nat}, p ∈ allR b fs R k ↔ ((0 ≤ p.1 ∧ p.1 < (k : Int)) ∧ -1 ≤ p.2 ∧ p.2 < (R : Int)) ∧ winB b fs p.1 p.2 = true
  | 0 => by simp [allR]; omega
  | k + 1 => by
    rw [allR, List.mem_append, allR_mem b fs R (k := k), rowR_mem]
    constructor
    · rintro (⟨h1, h2⟩ | ⟨h1, h2⟩)
      · exact ⟨by omega, h2⟩
      · exact ⟨by omega, h2⟩
    · rintro ⟨h1, h2⟩
      by_cases hp : p.1 = (k : Int)
      · exact .inr ⟨by omega, h2⟩
      · exact .inl ⟨by omega, h2⟩
def lexB (p q : Int × Int) : Prop := p.1 < q.1 ∨ p.1 = q.1 ∧ p.2 < q.2
theorem rowR_pw (b : Bk) (fs : List (List Int)) (one : Int) : ∀ j, (rowR b fs one j).Pairwise lexB
  | 0 => List.Pairwise.nil
  | j + 1 => by
    rw [rowR, List.pairwise_append]
    refine ⟨rowR_pw b fs one j, by split <;> simp, fun p hp q hq => ?_⟩
    have h1 := ((rowR_mem b fs one).1 hp).1
    split at hq
    · rw [List.mem_singleton.1 hq]
      exact .inr ⟨h1.1, by simp only; omega⟩
    · cases hq
theorem allR_pw (b : Bk) (fs : List (List Int)) (R : Nat) : ∀ k, (allR b fs R k).Pairwise lexB
  | 0 => List.Pairwise.nil
  | k + 1 => by
    rw [allR, List.pairwise_append]
    refine ⟨allR_pw b fs R k, rowR_pw b fs _ _, fun p hp q hq => ?_⟩
    have h1 := ((allR_mem b fs R).1 hp).1
    have h2 := ((rowR_mem b fs _).1 hq).1
    exact .inl (by omega)
theorem lex_ext {xs ys : List (Int × Int)} (hx : xs.Pairwise lexB) (hy : ys.Pairwise lexB) (h : ∀ p, p ∈ xs ↔ p ∈ ys) : xs = ys := by
  have ne : ∀ p q : Int × Int, lexB p q → p ≠ q := fun p q h e => by subst e; unfold lexB at h; omega
  refine List.Perm.eq_of_pairwise (le := lexB) (fun p q _ _ h1 h2 => ?_) hx hy ?_
  · unfold lexB at h1 h2; omega
  · exact (List.perm_ext_iff_of_nodup (hx.imp fun h => ne _ _ h) (hy.imp fun h => ne _ _ h)).2 h
theorem sinF_pw {xs : List Int} (h : xs.Pairwise fun x y => x < y) : (sinF xs).Pairwise lexB := by
  unfold sinF
  rw [List.pairwise_map]
  exact h.imp fun h => .inl h
theorem prsF_mem (p : Int × Int → Bool) (xs : List Int) (q : Int × Int) : q ∈ prsF p xs ↔ (q.1 ∈ xs ∧ q.2 ∈ xs) ∧ p q = true := by
  unfold prsF rowW
  rw [List.mem_flatMap]
  constructor
  · rintro ⟨a, ha, h⟩
    rw [List.mem_filter, List.mem_map] at h
    obtain ⟨⟨c, hc, rfl⟩, hp⟩ := h
    exact ⟨⟨ha, hc⟩, hp⟩
  · rintro ⟨⟨h1, h2⟩, h3⟩
    refine ⟨q.1, h1, ?_⟩
    rw [List.mem_filter, List.mem_map]
    exact ⟨⟨q.2, h2, rfl⟩, h3⟩
theorem rowW_pw (p : Int × Int → Bool) {ys : List Int} (h : ys.Pairwise fun x y => x < y) (a : Int) : (rowW p ys a).Pairwise lexB := by
  unfold rowW
  refine List.Pairwise.filter _ ?_
  rw [List.pairwise_map]
  exact h.imp fun h => .inr ⟨rfl, h⟩
theorem prsF_pw (p : Int × Int → Bool) {xs : List Int} (h : xs.Pairwise fun x y => x < y) : (prsF p xs).Pairwise lexB := by
  unfold prsF
  have key : ∀ ys : List Int, ys.Pairwise (fun x y => x < y) → (ys.flatMap fun one => rowW p xs one).Pairwise lexB := by
    intro ys
    induction ys with
    | nil => intro _; exact List.Pairwise.nil
    | cons y ys ih =>
      intro hy
      rw [List.pairwise_cons] at hy
      rw [List.flatMap_cons, List.pairwise_append]
      refine ⟨rowW_pw p h y, ih hy.2, fun q hq r hr => ?_⟩
      unfold rowW at hq
      rw [List.mem_filter, List.mem_map] at hq
      obtain ⟨⟨c, -, rfl⟩, -⟩ := hq
      rw [List.mem_flatMap] at hr
      obtain ⟨z, hz, hr⟩ := hr
      unfold rowW at hr
      rw [List.mem_filter, List.mem_map] at hr
      obtain ⟨⟨d, -, rfl⟩, -⟩ := hr
      exact .inl (hy.1 z hz)
  exact key xs h
theorem remF_sub : ∀ (F co c : List Int), co.Nodup → remF co F = some c → (∀ x ∈ F, x ∈ co) ∧ (∀ x, x ∈ c ↔ x ∈ co ∧ x ∉ F) ∧ c.Nodup
  | [], co, c, hn, h => by
    rw [remF] at h
    cases h
    exact ⟨fun x hx => (List.not_mem_nil hx).elim, fun x => by simp, hn⟩
  | r :: F, co, c, hn, h => by
    by_cases hr : r ∈ co
    · obtain ⟨c2, h1, h2, h3, -⟩ := remF_step hr hn
      rw [h1] at h
      obtain ⟨k1, k2, k3⟩ := remF_sub F c2 c h2 h
      refine ⟨fun x hx => ?_, fun x => ?_, k3⟩
      · rcases List.mem_cons.1 hx with rfl | hx
        · exact hr
        · exact ((h3 x).1 (k1 x hx)).1
      · rw [k2, h3, List.mem_cons]
        exact ⟨fun h => ⟨h.1.1, fun h9 => h9.elim h.1.2 h.2⟩, fun h => ⟨⟨h.1, fun h9 => h.2 (.inl h9)⟩, fun h9 => h.2 (.inr h9)⟩⟩
    · rw [remF_stop hr] at h; cases h
theorem grpF_sub : ∀ (fs : List (List Int)) (co c : List Int), co.Nodup → grpF co fs = some c → (∀ F ∈ fs, F.length ≠ 0 ∧ incF F = true ∧ ∀ x ∈ F, x ∈ co) ∧ fs.Pairwise (fun F G => ∀ x ∈ F, x ∉ G)
  | [], co, c, hn, h => ⟨fun F hF => (List.not_mem_nil hF).elim, List.Pairwise.nil⟩
  | F :: fs, co, c, hn, h => by
    rw [grpF] at h
    split at h
    · cases h
    · rename_i h0
      cases hr : remF co F with
      | none => rw [hr] at h; cases h
      | some c2 =>
        rw [hr, Option.bind_some] at h
        obtain ⟨k1, k2, k3⟩ := remF_sub F co c2 hn hr
        obtain ⟨i1, i2⟩ := grpF_sub fs c2 c k3 h
        refine ⟨fun G hG => ?_, List.pairwise_cons.2 ⟨fun G hG x hx hxG => ?_, i2⟩⟩
        · rcases List.mem_cons.1 hG with rfl | hG
          · refine ⟨fun e => h0 (.inl e), ?_, k1⟩
            cases hi : incF G with
            | true => rfl
            | false => exact absurd (.inr hi) h0
          · obtain ⟨a1, a2, a3⟩ := i1 G hG
            exact ⟨a1, a2, fun x hx => ((k2 x).1 (a3 x hx)).1⟩
        · exact ((k2 x).1 ((i1 G hG).2.2 x hxG)).2 hx
theorem fin_sub {b : Bk} {fs : List (List Int)} (h : isFinF b fs = true) : (∀ F ∈ fs, F.length ≠ 0 ∧ incF F = true ∧ ∀ x ∈ F, x ∈ racN b) ∧ fs.Pairwise (fun F G => ∀ x ∈ F, x ∉ G) :=
  grpF_sub fs _ _ (racN_nodup b) (of_decide_eq_true h)
theorem srtF_pw {xs : List Int} (h : xs.Nodup) : (srtF xs).Pairwise fun x y => x < y := by
  unfold srtF
  have h1 : (xs.mergeSort fun x y => decide (x ≤ y)).Pairwise fun x y => decide (x ≤ y) = true := List.pairwise_mergeSort (fun a c d h1 h2 => by simp at h1 h2 ⊢; omega) (fun a c => by simp; omega) xs
  have h2 : (xs.mergeSort fun x y => decide (x ≤ y)).Nodup := (List.mergeSort_perm xs _).nodup_iff.2 h
  exact (h1.and h2).imp fun ⟨h3, h4⟩ => by simp at h3; have h4 : _ ≠ _ := h4; omega
theorem srtF_mem {xs : List Int} {x : Int} : x ∈ srtF xs ↔ x ∈ xs := (List.mergeSort_perm xs _).mem_iff
theorem grp_at {fs : List (List Int)} {i : Nat} {F : List Int} (hi : i < fs.length) (h : F = fs[i]?.getD []) : F ∈ fs := by
  rw [h, List.getElem?_eq_getElem hi]
  exact List.getElem_mem _
/-- Who is placed, in order. -/
theorem pla_facts {b : Bk} {fs : List (List Int)} (V : ValidB b) (h : isFinF b fs = true) : (plaF fs).Pairwise (fun x y => x < y) ∧ ∀ x, x ∈ plaF fs ↔ x ∈ fs[0]?.getD [] ∨ (fs[0]?.getD []).length = 1 ∧ x ∈ fs[1]?.getD [] := by
  have K := fin_ok V h
  obtain ⟨h1, h2⟩ := fin_sub h
  have g0 := h1 _ (grp_at K.pos rfl)
  unfold plaF
  by_cases ha : (fs[0]?.getD []).length = 1
  · rw [if_pos ha]
    have hl := (K.one ha).1
    have g1 := h1 _ (grp_at hl rfl)
    refine ⟨srtF_pw ?_, fun x => ?_⟩
    · rw [List.nodup_append]
      refine ⟨(incF_pw g0.2.1).imp fun h => by omega, (incF_pw g1.2.1).imp fun h => by omega, fun x hx y hy e => ?_⟩
      subst e
      have := List.pairwise_iff_getElem.1 h2 0 1 K.pos hl (by decide)
      rw [List.getElem?_eq_getElem K.pos] at hx
      rw [List.getElem?_eq_getElem hl] at hy
      exact this x hx hy
    · rw [srtF_mem, List.mem_append]
      exact ⟨fun h => h.imp id fun h => ⟨ha, h⟩, fun h => h.imp id fun h => h.2⟩
  · rw [if_neg ha]
    exact ⟨incF_pw g0.2.1, fun x => ⟨.inl, fun h => h.elim id fun h => absurd h.1 ha⟩⟩
theorem one_mem {xs : List Int} (h : xs.length = 1) {x y : Int} (hx : x ∈ xs) (hy : y ∈ xs) : x = y := by
  obtain ⟨a, rfl⟩ := List.length_eq_one_iff.1 h
  rw [List.mem_singleton.1 hx, List.mem_singleton.1 hy]
theorem win_eq {b : Bk} {fs : List (List Int)} (V : ValidB b) (h : isFinF b fs = true) : allR b fs b.runners.toNat b.runners.toNat = winF b fs := by
  have hv := V.run
  have K := fin_ok V h
  obtain ⟨hp, hm⟩ := pla_facts V h
  obtain ⟨h1, -⟩ := fin_sub h
  have g0 := h1 _ (grp_at K.pos rfl)
  have hr : ∀ x, x ∈ racN b → 0 ≤ x ∧ x < b.runners := fun x hx => by have := (racL_mem b).1 hx; omega
  have r0 : ∀ x, x ∈ fs[0]?.getD [] → 0 ≤ x ∧ x < b.runners := fun x hx => hr x (g0.2.2 x hx)
  have r1 : (fs[0]?.getD []).length = 1 → ∀ x, x ∈ fs[1]?.getD [] → 0 ≤ x ∧ x < b.runners := fun ha x hx => hr x ((h1 _ (grp_at (K.one ha).1 rfl)).2.2 x hx)
  refine lex_ext (allR_pw b fs _ _) ?_ fun q => ?_
  · unfold winF
    split
    · exact sinF_pw (incF_pw g0.2.1)
    · split
      · exact sinF_pw hp
      · split
        · exact prsF_pw _ hp
        · exact prsF_pw _ hp
  · rw [allR_mem]
    obtain ⟨x, y⟩ := q
    have hR : ((b.runners.toNat : Nat) : Int) = b.runners := by omega
    rw [hR]
    unfold winF winB
    by_cases hk0 : b.kind = 0
    · rw [if_pos hk0, if_pos hk0]
      unfold sinF
      simp only [Bool.and_eq_true, decide_eq_true_eq, List.mem_map, Prod.mk.injEq]
      constructor
      · rintro ⟨-, rfl, hx⟩; exact ⟨x, hx, rfl, rfl⟩
      · rintro ⟨a, ha, rfl, rfl⟩; exact ⟨⟨r0 a ha, by omega, by omega⟩, rfl, ha⟩
    · rw [if_neg hk0, if_neg hk0]
      by_cases hk1 : b.kind = 1
      · rw [if_pos hk1, if_pos hk1]
        unfold sinF
        simp only [Bool.and_eq_true, Bool.or_eq_true, decide_eq_true_eq, List.mem_map, Prod.mk.injEq, hm]
        constructor
        · rintro ⟨-, rfl, hx⟩; exact ⟨x, hx, rfl, rfl⟩
        · rintro ⟨a, ha, rfl, rfl⟩; exact ⟨⟨ha.elim (r0 a) (fun h => r1 h.1 a h.2), by omega, by omega⟩, rfl, ha⟩
      · rw [if_neg hk1, if_neg hk1]
        have rng : ∀ z, (z ∈ fs[0]?.getD [] ∨ (fs[0]?.getD []).length = 1 ∧ z ∈ fs[1]?.getD []) → 0 ≤ z ∧ z < b.runners := fun z hz => hz.elim (r0 z) (fun h => r1 h.1 z h.2)
        by_cases hk2 : b.kind = 2
        · rw [if_pos hk2, if_pos hk2, prsF_mem]
          unfold pairF
          simp only [Bool.and_eq_true, decide_eq_true_eq, hm]
          by_cases ha : (fs[0]?.getD []).length = 1
          · rw [if_pos ha]
            simp only [decide_eq_true_eq]
            constructor
            · rintro ⟨-, ⟨hne, hx⟩, hy⟩; exact ⟨⟨.inl hx, .inr ⟨ha, hy⟩⟩, hne, hx⟩
            · rintro ⟨⟨hx', hy⟩, hne, hx⟩
              refine ⟨⟨rng x hx', by have := rng y hy; omega, (rng y hy).2⟩, ⟨hne, hx⟩, ?_⟩
              exact hy.elim (fun hy => absurd (one_mem ha hx hy) hne) (fun h => h.2)
          · rw [if_neg ha]
            simp only [decide_eq_true_eq]
            constructor
            · rintro ⟨-, ⟨hne, hx⟩, hy⟩; exact ⟨⟨.inl hx, .inl hy⟩, hne, hx⟩
            · rintro ⟨⟨hx', hy⟩, hne, hx⟩
              exact ⟨⟨rng x hx', by have := rng y hy; omega, (rng y hy).2⟩, ⟨hne, hx⟩, hy.elim id fun h => absurd h.1 ha⟩
        · rw [if_neg hk2, if_neg hk2, prsF_mem]
          unfold bothF
          simp only [Bool.and_eq_true, Bool.or_eq_true, decide_eq_true_eq, hm]
          by_cases ha : (fs[0]?.getD []).length = 1
          · rw [if_pos ha]
            simp only [Bool.and_eq_true, Bool.or_eq_true, decide_eq_true_eq]
            constructor
            · rintro ⟨-, hl, ⟨hx, hy⟩ | ⟨hy, hx⟩⟩
              · exact ⟨⟨.inl hx, .inr ⟨ha, hy⟩⟩, hl, .inl hx⟩
              · exact ⟨⟨.inr ⟨ha, hx⟩, .inl hy⟩, hl, .inr hy⟩
            · rintro ⟨⟨hx, hy⟩, hl, h01⟩
              refine ⟨⟨rng x hx, by have := rng y hy; omega, (rng y hy).2⟩, hl, ?_⟩
              rcases h01 with h0 | h0
              · exact .inl ⟨h0, hy.elim (fun hy => absurd (one_mem ha h0 hy) (by omega)) (fun h => h.2)⟩
              · exact .inr ⟨h0, hx.elim (fun hx => absurd (one_mem ha hx h0) (by omega)) (fun h => h.2)⟩
          · rw [if_neg ha]
            simp only [Bool.and_eq_true, decide_eq_true_eq]
            constructor
            · rintro ⟨-, hl, hx, hy⟩; exact ⟨⟨.inl hx, .inl hy⟩, hl, .inl hx⟩
            · rintro ⟨⟨hx, hy⟩, hl, -⟩
              exact ⟨⟨rng x hx, by have := rng y hy; omega, (rng y hy).2⟩, hl, hx.elim id fun h => absurd h.1 ha, hy.elim id fun h => absurd h.1 ha⟩
theorem encW_app (xs ys : List (Int × Int)) : encW (xs ++ ys) = encW xs ++ encW ys := by unfold encW; exact List.flatMap_append
end Go.Proofs.YtbahiemjaomdcaaGreat

/- law of pool: fine, Finish. -/
namespace Go.Proofs.YtbahiemjaomdcaaGreat
open Go.RowKit Go.Shelf

def U8At (w : World) (B : Nat) (A : Option Addr) (n : Nat) (xs : List Int) : Prop :=
  xs.length = n ∧ n ≤ 9223372036854775807 ∧ (0 < n → ∃ b off, A = some ⟨b, off, none⟩ ∧ b < B ∧ ∀ j, j < n → w.cell? ⟨b, off + j, none⟩ = some (.int .u8 (xs[j]?.getD 0)) ∧ 0 ≤ xs[j]?.getD 0 ∧ xs[j]?.getD 0 ≤ 255)
theorem U8At.below {w w' : World} {B D : Nat} {A : Option Addr} {n : Nat} {xs : List Int} (h : U8At w B A n xs) (hb : Below D w w') (hD : B ≤ D) : U8At w' B A n xs := by
  refine ⟨h.1, h.2.1, fun h0 => ?_⟩
  obtain ⟨b, off, e, hlt, hc⟩ := h.2.2 h0
  exact ⟨b, off, e, hlt, fun j hj => ⟨(hb.cell (p := ⟨b, off + j, none⟩) (show b < D by omega)).trans (hc j hj).1, (hc j hj).2⟩⟩
/-- Which group a runner comes in with; the runners below j that come in with group k; the groups. -/
def keyF (ys : List Int) (j : Nat) : Int := if 0 < ys.length then (ys[j % ys.length]?.getD 0) % 8 else (j : Int)
def grpL (b : Bk) (ys : List Int) (k : Nat) : Nat → List Int
  | 0 => []
  | j + 1 => grpL b ys k j ++ if keyF ys j = (k : Int) ∧ (j : Int) ∉ b.scr then [(j : Int)] else []
def finL (b : Bk) (ys : List Int) : Nat → List (List Int)
  | 0 => []
  | k + 1 => finL b ys k ++ if grpL b ys k b.runners.toNat = [] then [] else [grpL b ys k b.runners.toNat]
theorem incF_of {xs : List Int} (h : xs.Pairwise fun x y => x < y) : incF xs = true := incF_true fun k hk => by
  have := List.pairwise_iff_getElem.1 h k (k + 1) (by omega) hk (by omega)
  rw [List.getElem?_eq_getElem (by omega), List.getElem?_eq_getElem hk]
  exact this
theorem remF_ok : ∀ (F co : List Int), co.Nodup → F.Nodup → (∀ x ∈ F, x ∈ co) → ∃ c, remF co F = some c ∧ c.Nodup ∧ ∀ x, x ∈ c ↔ x ∈ co ∧ x ∉ F
  | [], co, hn, _, _ => ⟨co, rfl, hn, fun x => by simp⟩
  | r :: F, co, hn, hF, hs => by
    obtain ⟨c2, h1, h2, h3, -⟩ := remF_step (hs r List.mem_cons_self) hn
    rw [List.nodup_cons] at hF
    obtain ⟨c, k1, k2, k3⟩ := remF_ok F c2 h2 hF.2 (fun x hx => (h3 x).2 ⟨hs x (List.mem_cons_of_mem _ hx), fun e => hF.1 (e ▸ hx)⟩)
    refine ⟨c, by rw [h1]; exact k1, k2, fun x => ?_⟩
    rw [k3, h3, List.mem_cons]
    exact ⟨fun h => ⟨h.1.1, fun h9 => h9.elim h.1.2 h.2⟩, fun h => ⟨⟨h.1, fun h9 => h.2 (.inl h9)⟩, fun h9 => h.2 (.inr h9)⟩⟩
theorem grpF_ok : ∀ (fs : List (List Int)) (co : List Int), co.Nodup → (∀ F ∈ fs, F ≠ [] ∧ F.Pairwise (fun x y => x < y) ∧ ∀ x ∈ F, x ∈ co) → fs.Pairwise (fun F G => ∀ x ∈ F, x ∉ G) → (∀ x ∈ co, ∃ F ∈ fs, x ∈ F) → grpF co fs = some []
  | [], co, _, _, _, hc => by
    rw [grpF]
    cases co with
    | nil => rfl
    | cons x co =>
      obtain ⟨F, hF, -⟩ := hc x List.mem_cons_self
      cases hF
  | F :: fs, co, hn, ha, hp, hc => by
    obtain ⟨h1, h2, h3⟩ := ha F List.mem_cons_self
    rw [List.pairwise_cons] at hp
    obtain ⟨c, k1, k2, k3⟩ := remF_ok F co hn (h2.imp fun h => by omega) h3
    rw [grpF, if_neg (fun h => h.elim (fun h => h1 (List.length_eq_zero_iff.1 h)) (fun h => by rw [incF_of h2] at h; cases h)), k1, Option.bind_some]
    refine grpF_ok fs c k2 (fun G hG => ⟨(ha G (List.mem_cons_of_mem _ hG)).1, (ha G (List.mem_cons_of_mem _ hG)).2.1, fun x hx => (k3 x).2 ⟨(ha G (List.mem_cons_of_mem _ hG)).2.2 x hx, fun h9 => hp.1 G hG x h9 hx⟩⟩) hp.2 fun x hx => ?_
    obtain ⟨h4, h5⟩ := (k3 x).1 hx
    obtain ⟨G, hG, hxG⟩ := hc x h4
    rcases List.mem_cons.1 hG with rfl | hG
    · exact absurd hxG h5
    · exact ⟨G, hG, hxG⟩
/-- Blocks of a call's own. -/
def OwnL (z : Nat) (w : World) (ob : List KB) : Prop := (∀ kb ∈ ob, w.heap[kb.id]? = some kb.obj ∧ z ≤ kb.id) ∧ (ob.map KB.id).Nodup
theorem At.outL {w0 w : World} {kn rows : List KB} {sz : Nat} (h : At w0 w kn rows sz) : OwnL w0.heap.size w rows :=
  ⟨fun kb hk => ⟨h.rok kb hk, h.rlow kb hk⟩, by have := h.nd; rw [List.map_append, List.nodup_append] at this; exact this.1⟩
/-- A finish, in blocks. -/
def FinK (A : Option Addr) (n : Nat) (fs : List (List Int)) (ob : List KB) : Prop := ∀ w : World, (∀ kb ∈ ob, w.heap[kb.id]? = some kb.obj) → FinAt w w.heap.size A n fs
/-- A row of a call's own, as what it holds. -/
theorem row_open {T : TypeId} {k n : Nat} {v : Value} {vs : List Value} {ob : List KB} (hr : RowV T k v n vs ob) (hn : n ≤ 1000) : ∃ A c, v = .slice A n c ∧ ∀ w : World, (∀ kb ∈ ob, w.heap[kb.id]? = some kb.obj) → PartsAt w w.heap.size A n k vs := by
  rcases hr.2 with ⟨e1, e2, e3⟩ | ⟨g, cap, cur, e1, e2, h3, h4, h5, h6⟩
  · subst e2
    exact ⟨none, 0, e1, fun w hk => ⟨hr.1, by omega, fun h => absurd h (by omega)⟩⟩
  · subst e1 e2
    exact ⟨some ⟨g, 0, none⟩, cap, rfl, fun w hk => row_parts hr (hk _ List.mem_cons_self) hn⟩
end Go.Proofs.YtbahiemjaomdcaaGreat

/- pool: accounts and dividends as sums over the winners that are backed. -/
namespace Go.Proofs.YtbahiemjaomdcaaGreat
open Go.RowKit Go.Shelf

theorem sum_perm {l l' : List Int} (h : l.Perm l') : l.sum = l'.sum := by
  induction h with
  | nil => rfl
  | cons x _ ih => simp [ih]
  | swap x y l => simp only [List.sum_cons]; omega
  | trans _ _ h1 h2 => exact h1.trans h2
theorem sum_le {α : Type} {l : List α} {f : α → Int} {c : Int} (h : ∀ x ∈ l, f x ≤ c) : (l.map f).sum ≤ c * (l.length : Int) := by
  induction l with
  | nil => simp
  | cons x l ih =>
    have h1 := h x List.mem_cons_self
    have h2 := ih fun y hy => h y (List.mem_cons_of_mem _ hy)
    rw [List.map_cons, List.sum_cons, List.length_cons, Int.natCast_succ, Int.mul_add, Int.mul_one]
    omega
theorem sum_nonneg {α : Type} {l : List α} {f : α → Int} (h : ∀ x ∈ l, 0 ≤ f x) : 0 ≤ (l.map f).sum := by
  induction l with
  | nil => simp
  | cons x l ih =>
    have h1 := h x List.mem_cons_self
    have h2 := ih fun y hy => h y (List.mem_cons_of_mem _ hy)
    rw [List.map_cons, List.sum_cons]
    omega
theorem sum_congr {α : Type} {l : List α} {f g : α → Int} (h : ∀ x ∈ l, f x = g x) : (l.map f).sum = (l.map g).sum := by rw [List.map_congr_left h]
/-- What a bet is on; the units of the bets on a spot. -/
def spX (t : Till) (x : Bet) : Int × Int := (s1T t x, x.second)
def uL (t : Till) (bs : List Bet) (s : Int × Int) : Int := (bs.map fun x => if okT t x = true ∧ spX t x = s then x.units else 0).sum
theorem uL_cons (t : Till) (x : Bet) (bs : List Bet) (s : Int × Int) : uL t (x :: bs) s = (if okT t x = true ∧ spX t x = s then x.units else 0) + uL t bs s := by simp [uL]
theorem uL_bound (t : Till) (s : Int × Int) : ∀ bs : List Bet, (∀ x ∈ bs, 0 ≤ x.units ∧ x.units ≤ 1000) → 0 ≤ uL t bs s ∧ uL t bs s ≤ 1000 * (bs.length : Int)
  | [], _ => by simp [uL]
  | y :: bs, h => by
    have ih := uL_bound t s bs fun x hx => h x (List.mem_cons_of_mem _ hx)
    have hy := h y (List.mem_cons_self)
    rw [uL_cons, List.length_cons]
    split <;> omega
/-! ### the map of the winners -/
theorem mfind_some {p : Int × Int} : ∀ {m : PM}, p ∈ keysL m → ∃ r, mfind p m = some r
  | [], h => by cases h
  | x :: m, h => by
    rw [mfind_cons]
    by_cases hp : p = x.1
    · exact ⟨_, if_pos hp⟩
    · rcases List.mem_cons.1 (show p ∈ x.1 :: keysL m from h) with h1 | h1
      · exact absurd h1 hp
      · obtain ⟨r, hr⟩ := mfind_some h1
        exact ⟨(r.1 + 1, r.2), by rw [if_neg hp, hr]; rfl⟩
theorem stepU_keys (t : Till) (m : PM) (x : Bet) : keysL (stepU t m x) = keysL m := unitF_keys t [x] m
theorem stepU_get (t : Till) (m : PM) (x : Bet) (q : Int × Int) : mget 0 (stepU t m x) q = mget 0 m q + if q ∈ keysL m then (if okT t x = true ∧ spX t x = q then x.units else 0) else 0 := by
  unfold stepU
  by_cases h : okT t x = true ∧ (mfind (s1T t x, x.second) m).isSome = true
  · rw [if_pos h, mget_set]
    obtain ⟨r, hr⟩ := Option.isSome_iff_exists.1 h.2
    have hk := mfind_mem hr
    by_cases hq : q = (s1T t x, x.second)
    · subst hq
      rw [if_pos rfl, if_pos hk, if_pos ⟨h.1, rfl⟩]
    · rw [if_neg hq, if_neg (show ¬ (okT t x = true ∧ spX t x = q) from fun h9 => hq h9.2.symm)]
      split <;> simp
  · rw [if_neg h]
    by_cases hk : q ∈ keysL m
    · rw [if_pos hk, if_neg, Int.add_zero]
      rintro ⟨h1, rfl⟩
      obtain ⟨r, hr⟩ := mfind_some hk
      exact h ⟨h1, by show (mfind (spX t x) m).isSome = true; rw [hr]; rfl⟩
    · rw [if_neg hk, Int.add_zero]
theorem unitF_get (t : Till) : ∀ (bs : List Bet) (m : PM) (q : Int × Int), mget 0 (unitF t bs m) q = mget 0 m q + if q ∈ keysL m then uL t bs q else 0
  | [], m, q => by
    show mget 0 m q = _
    simp [uL]
  | x :: bs, m, q => by
    show mget 0 (unitF t bs (stepU t m x)) q = _
    rw [unitF_get t bs, stepU_get, stepU_keys, uL_cons]
    split <;> omega
theorem zerF_in : ∀ (ws : List (Int × Int)) (m : PM) (s : Int × Int), s ∈ keysL m ∨ s ∈ ws → s ∈ keysL (ws.foldl (fun m s => mset s 0 m) m)
  | [], m, s, h => h.elim id fun h => by cases h
  | x :: ws, m, s, h => by
    refine zerF_in ws (mset x 0 m) s ?_
    rw [mset_keys]
    rcases h with h | h
    · left
      split
      · exact h
      · exact List.mem_append_left _ h
    · rcases List.mem_cons.1 h with rfl | h
      · left
        split
        · assumption
        · exact List.mem_append_right _ List.mem_cons_self
      · exact .inr h
theorem delF_in : ∀ (ws : List (Int × Int)) (m : PM) (s : Int × Int), (keysL m).Nodup → s ∈ keysL m → mget 0 m s ≠ 0 → s ∈ keysL (delF ws m)
  | [], m, s, _, h, _ => h
  | x :: ws, m, s, hn, h, h0 => by
    show s ∈ keysL (delF ws (if mget 0 m x = 0 then mdel x m else m))
    by_cases hx : mget 0 m x = 0
    · rw [if_pos hx]
      have hne : s ≠ x := fun e => h0 (by rw [e]; exact hx)
      refine delF_in ws _ s (by rw [mdel_keys]; exact hn.erase x) (by rw [mdel_keys]; exact (List.mem_erase_of_ne hne).2 h) (by rw [mdel_get hn hne]; exact h0)
    · rw [if_neg hx]
      exact delF_in ws m s hn h h0
/-- The keys of the map, and what it holds. -/
theorem payF_keys (t : Till) (fs : List (List Int)) : (keysL (payF t fs)).Nodup ∧ (∀ s, s ∈ keysL (payF t fs) ↔ s ∈ winF t.b fs ∧ uL t t.b.bets s ≠ 0) ∧ ∀ s, s ∈ keysL (payF t fs) → mget 0 (payF t fs) s = uL t t.b.bets s := by
  obtain ⟨z1, z2, -⟩ := zerF_keys (winF t.b fs) [] List.nodup_nil
  have z1 : (keysL (zerF (winF t.b fs))).Nodup := z1
  have hk := unitF_keys t t.b.bets (zerF (winF t.b fs))
  have hz : ∀ s, s ∈ keysL (zerF (winF t.b fs)) ↔ s ∈ winF t.b fs := fun s => ⟨fun h => (z2 s h).elim (fun h => by cases h) id, fun h => zerF_in _ [] s (.inr h)⟩
  have hg : ∀ s, s ∈ winF t.b fs → mget 0 (unitF t t.b.bets (zerF (winF t.b fs))) s = uL t t.b.bets s := fun s hs => by
    rw [unitF_get, if_pos ((hz s).2 hs), show mget 0 (zerF (winF t.b fs)) s = 0 from zerF_get _ [] s rfl, Int.zero_add]
  obtain ⟨d1, d2, -, d4, d5⟩ := delF_keys (unitF t t.b.bets (zerF (winF t.b fs))) (by rw [hk]; exact z1) (winF t.b fs)
  rw [payF_eq]
  have hw : ∀ s, s ∈ keysL (delF (winF t.b fs) (unitF t t.b.bets (zerF (winF t.b fs)))) → s ∈ winF t.b fs := fun s hs => (hz s).1 (by rw [← hk]; exact d2 s hs)
  refine ⟨d1, fun s => ⟨fun h => ⟨hw s h, ?_⟩, fun h => ?_⟩, fun s h => ?_⟩
  · rw [← hg s (hw s h), ← d4 s h]
    exact d5 s (hw s h) h
  · refine delF_in _ _ s (by rw [hk]; exact z1) (by rw [hk]; exact (hz s).2 h.1) ?_
    rw [hg s h.1]
    exact h.2
  · rw [d4 s h, hg s (hw s h)]
/-- The winners that are backed. -/
def bkd (t : Till) (fs : List (List Int)) : List (Int × Int) := (winF t.b fs).filter fun s => decide (uL t t.b.bets s ≠ 0)
def dvF (t : Till) (fs : List (List Int)) (s : Int × Int) : Int := if s ∈ bkd t fs then ((netF t.a).tdiv ((bkd t fs).length : Int)).tdiv (uL t t.b.bets s * t.b.stp) * t.b.stp else 0
def pdF (t : Till) (fs : List (List Int)) : Int := ((bkd t fs).map fun s => dvF t fs s * uL t t.b.bets s).sum
theorem win_nodup {b : Bk} {fs : List (List Int)} (V : ValidB b) (h : isFinF b fs = true) : (winF b fs).Pairwise lexB ∧ (winF b fs).Nodup := by
  have h1 : (winF b fs).Pairwise lexB := by rw [← win_eq V h]; exact allR_pw b fs _ _
  exact ⟨h1, h1.imp fun h e => by subst e; unfold lexB at h; omega⟩
theorem keys_perm {t : Till} {fs : List (List Int)} (hw : (winF t.b fs).Nodup) : (keysL (payF t fs)).Perm (bkd t fs) := by
  obtain ⟨k1, k2, -⟩ := payF_keys t fs
  refine (List.perm_ext_iff_of_nodup k1 (hw.filter _)).2 fun s => ?_
  rw [k2, List.mem_filter, decide_eq_true_eq]
theorem pay_len {t : Till} {fs : List (List Int)} (hw : (winF t.b fs).Nodup) : (payF t fs).length = (bkd t fs).length := by
  have h := (keys_perm hw).length_eq
  unfold keysL at h
  rw [List.length_map] at h
  exact h
theorem bkd_mem {t : Till} {fs : List (List Int)} {s : Int × Int} : s ∈ bkd t fs ↔ s ∈ winF t.b fs ∧ uL t t.b.bets s ≠ 0 := by
  unfold bkd
  rw [List.mem_filter, decide_eq_true_eq]
theorem divF_eq {t : Till} {fs : List (List Int)} (hw : (winF t.b fs).Nodup) (s : Int × Int) : divF t (payF t fs) s = dvF t fs s := by
  obtain ⟨k1, k2, k3⟩ := payF_keys t fs
  unfold divF dvF
  by_cases hs : s ∈ bkd t fs
  · have hk := (k2 s).2 (bkd_mem.1 hs)
    obtain ⟨r, hr⟩ := mfind_some hk
    rw [hr, if_pos hs]
    have h1 := k3 s hk
    rw [mfind_get hr] at h1
    simp only
    rw [h1, pay_len hw]
  · rw [if_neg hs, mfind_none (fun h => hs (bkd_mem.2 ((k2 s).1 h)))]
theorem sumI_map (t : Till) (m : PM) : ∀ l : List Nat, (∀ i ∈ l, i < m.length) → sumI t m l = (l.map fun i => (fun e : (Int × Int) × Int => divF t m e.1 * e.2) (m[i]?.getD ((0, 0), 0))).sum
  | [], _ => rfl
  | i :: l, h => by
    have hi := h i List.mem_cons_self
    rw [sumI, sumI_map t m l fun j hj => h j (List.mem_cons_of_mem _ hj), List.map_cons, List.sum_cons, List.getElem?_eq_getElem hi]
    simp only [Option.getD_some]
    omega
theorem range_map (m : PM) (f : (Int × Int) × Int → Int) : ((List.range m.length).map fun i => f (m[i]?.getD ((0, 0), 0))) = m.map f := by
  apply List.ext_getElem
  · simp
  · intro i h1 h2
    rw [List.getElem_map, List.getElem_map, List.getElem_range, List.getElem?_eq_getElem (by simpa using h2), Option.getD_some]
theorem padF_eq {t : Till} {fs : List (List Int)} (hw : (winF t.b fs).Nodup) : padF t (payF t fs) = pdF t fs := by
  obtain ⟨k1, k2, k3⟩ := payF_keys t fs
  unfold padF pdF
  rw [sumI_map t _ _ fun i hi => List.mem_range.1 hi, range_map (payF t fs) fun e => divF t (payF t fs) e.1 * e.2]
  have e1 : ((payF t fs).map fun e => divF t (payF t fs) e.1 * e.2) = (keysL (payF t fs)).map fun s => dvF t fs s * uL t t.b.bets s := by
    unfold keysL
    rw [List.map_map]
    refine List.map_congr_left fun e he => ?_
    have hm : e.1 ∈ keysL (payF t fs) := List.mem_map_of_mem he
    have h1 := k3 e.1 hm
    obtain ⟨i, hi, rfl⟩ := List.getElem_of_mem he
    have h2 := keys_of k1 i _ (List.getElem?_eq_getElem hi)
    rw [mfind_get h2] at h1
    show divF t (payF t fs) _ * _ = dvF t fs _ * uL t t.b.bets _
    rw [divF_eq hw, ← h1]
  rw [e1]
  exact sum_perm ((keys_perm hw).map _)
/-- The account, and what is paid for a bet. -/
theorem acc_eq {b : Bk} {fs : List (List Int)} (h0 : bookF b = 0) (h : isFinF b fs = true) : AccountF b fs = if bkd (tilF b) fs = [] then ⟨(tilF b).a.inn, (tilF b).a.back, (tilF b).a.duty, 0, 0, netF (tilF b).a⟩ else ⟨(tilF b).a.inn, (tilF b).a.back, (tilF b).a.duty, pdF (tilF b) fs, netF (tilF b).a - pdF (tilF b) fs, 0⟩ := by
  have V := valid_of h0
  have hw := (win_nodup V h).2
  have hp := (acc_ok V).2
  unfold AccountF accF
  rw [if_pos (by unfold atF; rw [if_pos h0, if_pos h]), padF_eq hw, hp, Int.zero_add, pay_len (t := tilF b) hw]
  by_cases hb : bkd (tilF b) fs = []
  · rw [if_pos hb, if_pos (by rw [hb]; rfl), ← hp]
    rfl
  · rw [if_neg hb, if_neg (fun h9 => hb (List.length_eq_zero_iff.1 h9))]
    rfl
/-- The share, and what a dividend comes to. -/
def shF (t : Till) (fs : List (List Int)) : Int := (netF t.a).tdiv ((bkd t fs).length : Int)
theorem net_facts {b : Bk} (V : ValidB b) : (0 ≤ (tilF b).a.back ∧ 0 ≤ (tilF b).a.duty ∧ 0 ≤ netF (tilF b).a) ∧ (tilF b).a.inn ≤ 20000000 ∧ (tilF b).a.inn = (tilF b).a.back + (tilF b).a.duty + netF (tilF b).a := by
  have h1 := sumF_bound allB b.bets (units_ok V)
  have h2 := sumF_bound (notOn ⟨b, favF b, acc0⟩) b.bets (units_ok V)
  have h3 := sumF_le (notOn ⟨b, favF b, acc0⟩) allB b.bets (fun x hx => (units_ok V x hx).1) (fun x _ => rfl)
  have hc := V.car
  have hd := V.dut
  have hl := V.len
  obtain ⟨U, hU⟩ : ∃ U, U = sumF allB b.bets := ⟨_, rfl⟩
  obtain ⟨K, hK⟩ : ∃ K, K = sumF (notOn ⟨b, favF b, acc0⟩) b.bets := ⟨_, rfl⟩
  rw [← hU] at h1 h3
  rw [← hK] at h2 h3
  have e : (tilF b).a = incF' U K b.car b.dut := by rw [hU, hK]; rfl
  rw [e]
  have h4 : 0 ≤ (U - K) * 100 := by omega
  have h5 : (U - K) * 100 * b.dut ≤ (U - K) * 100 * 500 := Int.mul_le_mul_of_nonneg_left hd.2 h4
  have h6 : 0 ≤ (U - K) * 100 * b.dut := Int.mul_nonneg h4 hd.1
  unfold netF incF'
  simp only
  rw [Int.tdiv_eq_ediv_of_nonneg h6]
  omega
theorem dv_facts {b : Bk} {fs : List (List Int)} (V : ValidB b) {s : Int × Int} (hs : s ∈ bkd (tilF b) fs) : 0 < uL (tilF b) b.bets s ∧ 0 ≤ shF (tilF b) fs ∧ 0 ≤ dvF (tilF b) fs s ∧ dvF (tilF b) fs s * uL (tilF b) b.bets s ≤ shF (tilF b) fs ∧ dvF (tilF b) fs s = (shF (tilF b) fs / (uL (tilF b) b.bets s * b.stp)) * b.stp := by
  have hu := uL_bound (tilF b) s b.bets (units_ok V)
  have hne := (bkd_mem.1 hs).2
  have hn := (net_facts V).1.2.2
  have hst := V.stp
  have hup : 0 < uL (tilF b) b.bets s := by
    have : uL (tilF b) b.bets s ≠ 0 := hne
    omega
  have hlen : 0 < (bkd (tilF b) fs).length := List.length_pos_of_mem hs
  have hsh : 0 ≤ shF (tilF b) fs := by
    unfold shF
    rw [Int.tdiv_eq_ediv_of_nonneg hn]
    exact Int.ediv_nonneg hn (by omega)
  have hd : dvF (tilF b) fs s = (shF (tilF b) fs / (uL (tilF b) b.bets s * b.stp)) * b.stp := by
    unfold dvF
    rw [if_pos hs]
    show (shF (tilF b) fs).tdiv (uL (tilF b) b.bets s * b.stp) * b.stp = _
    rw [Int.tdiv_eq_ediv_of_nonneg hsh]
  have hpos : 0 < uL (tilF b) b.bets s * b.stp := Int.mul_pos hup (by omega)
  have hq : 0 ≤ shF (tilF b) fs / (uL (tilF b) b.bets s * b.stp) := Int.ediv_nonneg hsh (by omega)
  refine ⟨hup, hsh, ?_, ?_, hd⟩
  · rw [hd]
    exact Int.mul_nonneg hq (by omega)
  · rw [hd, Int.mul_assoc, Int.mul_comm b.stp]
    exact Int.ediv_mul_le _ (by omega)
theorem dv_nonneg {b : Bk} {fs : List (List Int)} (V : ValidB b) (s : Int × Int) : 0 ≤ dvF (tilF b) fs s := by
  by_cases hs : s ∈ bkd (tilF b) fs
  · exact (dv_facts V hs).2.2.1
  · unfold dvF
    rw [if_neg hs]
    exact Int.le_refl 0
theorem sh_net {b : Bk} {fs : List (List Int)} (V : ValidB b) : shF (tilF b) fs * ((bkd (tilF b) fs).length : Int) ≤ netF (tilF b).a := by
  have hn := (net_facts V).1.2.2
  unfold shF
  rw [Int.tdiv_eq_ediv_of_nonneg hn]
  by_cases h : (bkd (tilF b) fs).length = 0
  · rw [h]; simpa using hn
  · exact Int.ediv_mul_le _ (by omega)
theorem pd_facts {b : Bk} {fs : List (List Int)} (V : ValidB b) : 0 ≤ pdF (tilF b) fs ∧ pdF (tilF b) fs ≤ netF (tilF b).a := by
  constructor
  · exact sum_nonneg fun s hs => Int.mul_nonneg (dv_nonneg V s) (Int.le_of_lt (dv_facts V hs).1)
  · exact Int.le_trans (sum_le fun s hs => (dv_facts V hs).2.2.2.1) (sh_net V)
/-- What is paid for all bets. -/
def paL (b : Bk) (fs : List (List Int)) (bs : List Bet) : Int := (bs.map fun x => if okT (tilF b) x = true then dvF (tilF b) fs (spX (tilF b) x) * x.units else 100 * x.units).sum
end Go.Proofs.YtbahiemjaomdcaaGreat
