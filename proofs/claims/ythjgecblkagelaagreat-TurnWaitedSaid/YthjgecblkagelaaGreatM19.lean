/- Parts of a proof: BF. -/
import Derived.Test.YthjgecblkagelaaGreatM18

/- circle: what it computes, what the memory holds. -/
namespace Go.Proofs.YthjgecblkagelaaGreat
open Go.RowKit Go.Shelf

attribute [local go_sem] Oper.semAt_some

/-- The window with the most threads, the first of them. -/
def IsWin (ts : List Int) (k : Nat) : Prop := k < ts.length ∧ (∀ j, j < ts.length → ts[j]?.getD 0 ≤ ts[k]?.getD 0) ∧ ∀ j, j < k → ts[j]?.getD 0 ≠ ts[k]?.getD 0
theorem IsWin.unique {ts : List Int} {k j : Nat} (h : IsWin ts k) (h' : IsWin ts j) : k = j := by
  have e : ts[k]?.getD 0 = ts[j]?.getD 0 := by
    have h1 := h.2.1 j h'.1
    have h2 := h'.2.1 k h.1
    omega
  rcases Nat.lt_trichotomy k j with hlt | h0 | hlt
  · exact absurd e (h'.2.2 k hlt)
  · exact h0
  · exact absurd e.symm (h.2.2 j hlt)
def loopV : WSt ⊕ (List Int × Bool) → List Int × Bool
  | .inl _ => ([], false)
  | .inr r => r
theorem loopE_exists (ts : List Int) (m : List (Pl × Int)) (start : Pl) (limit : Int) : ∃ r, r = loopV (loopN ts m start limit 1001) := ⟨_, rfl⟩
noncomputable def loopE (ts : List Int) (m : List (Pl × Int)) (start : Pl) (limit : Int) : List Int × Bool := Classical.choose (loopE_exists ts m start limit)
theorem loopE_eq (ts : List Int) (m : List (Pl × Int)) (start : Pl) (limit : Int) : loopE ts m start limit = loopV (loopN ts m start limit 1001) := Classical.choose_spec (loopE_exists ts m start limit)
def LEnds (ts : List Int) (m : List (Pl × Int)) : Prop := ∀ p ∈ (statesL ts).map plOf, ∀ limit : Int, limit ≤ 1000 → ∃ r, loopN ts m p limit 1001 = .inr r
theorem LEnds.at {ts : List Int} {m : List (Pl × Int)} (h : LEnds ts m) {p : Pl} (hp : p ∈ (statesL ts).map plOf) (limit : Int) (hl : limit ≤ 1000) : loopN ts m p limit 1001 = .inr (loopE ts m p limit) := by
  obtain ⟨r, hr⟩ := h p hp limit hl
  rw [loopE_eq, hr]
  rfl
theorem loopN_limit {ts : List Int} {m : List (Pl × Int)} {p : Pl} {l L : Int} (hl : l ≤ L) : ∀ (k : Nat) (s : WSt), loopN ts m p l k = .inl s → loopN ts m p L k = .inl s
  | 0, _, h => h
  | k + 1, s, h => by
    unfold loopN at h ⊢
    cases hk : loopN ts m p l k with
    | inr r => rw [hk] at h; cases h
    | inl s0 =>
      rw [loopN_limit hl k s0 hk]
      rw [hk] at h
      unfold loopStep at h ⊢
      dsimp only at h ⊢
      cases hq : s0.1[k]? with
      | none => rw [hq] at h; cases h
      | some q =>
        rw [hq] at h
        dsimp only at h ⊢
        by_cases h1 : l ≤ (q.2.length : Int)
        · rw [if_pos h1] at h; cases h
        · rw [if_neg h1] at h
          rw [if_neg (by omega)]
          exact h
def isEnd : WSt ⊕ (List Int × Bool) → Bool
  | .inl _ => false
  | .inr _ => true
theorem LEnds.of {ts : List Int} {m : List (Pl × Int)} {N : Nat} (hN : N ≤ 1001) (h : (((statesL ts).map plOf).all fun p => isEnd (loopN ts m p 1000 N)) = true) : LEnds ts m := by
  intro p hp limit hl
  have h1 := (List.all_eq_true.1 h) p hp
  cases hk : loopN ts m p limit 1001 with
  | inr r => exact ⟨r, rfl⟩
  | inl s =>
    have h2 := loopN_limit hl 1001 s hk
    cases h3 : loopN ts m p 1000 N with
    | inl s' => rw [h3] at h1; cases h1
    | inr r =>
      rw [loopN_stay h3 1001 hN] at h2
      cases h2
theorem loopE_of {ts : List Int} {m : List (Pl × Int)} {p : Pl} {limit : Int} {r : List Int × Bool} {N : Nat} (h : loopN ts m p limit N = .inr r) (hN : N ≤ 1001) : loopE ts m p limit = r := by
  rw [loopE_eq, loopN_stay h 1001 hN]
  rfl
theorem wkL_ne {m : List (Pl × Int)} {start : Pl} {q : Pl × List Int} : ∀ (l : List (Nat × Pl)) (s : WSt) (row : List Int), wkL m start q l s = .inr row → row ≠ []
  | [], _, _, h => by cases h
  | x :: l, s, row, h => by
    unfold wkL at h
    split at h
    · cases h; simp
    · exact wkL_ne l _ row h
theorem loopN_ne {ts : List Int} {m : List (Pl × Int)} {p : Pl} {limit : Int} {row : List Int} : ∀ (k : Nat), loopN ts m p limit k = .inr (row, true) → row ≠ [] ∧ ∃ j s, loopN ts m p limit j = .inl s ∧ ∃ q, s.1[j]? = some q ∧ (q.2.length : Int) < limit ∧ row.length = q.2.length + 1
  | 0, h => by cases h
  | k + 1, h => by
    unfold loopN at h
    cases hk : loopN ts m p limit k with
    | inr r =>
      rw [hk] at h
      cases h
      exact loopN_ne k hk
    | inl s =>
      rw [hk] at h
      unfold loopStep at h
      dsimp only at h
      split at h
      · cases h
      · rename_i q hq
        split at h
        · cases h
        · rename_i hlm
          cases hw : wkL m p q (visitsF ts q.1) s with
          | inl s1 => rw [hw] at h; cases h
          | inr row' =>
            rw [hw] at h
            cases h
            refine ⟨wkL_ne _ _ _ hw, k, s, hk, q, hq, by omega, ?_⟩
            have key : ∀ (l : List (Nat × Pl)) (s : WSt), wkL m p q l s = .inr row → row.length = q.2.length + 1 := by
              intro l
              induction l with
              | nil => intro s h; cases h
              | cons x l ih =>
                intro s h
                unfold wkL at h
                split at h
                · cases h; simp
                · exact ih _ h
            exact key _ _ hw
def circV (s : List Int × Int) (r : List Int × Bool) : List Int × Int := if r.2 = true then (r.1, (r.1.length : Int) - 1) else s
noncomputable def circStep (ts : List Int) (m : List (Pl × Int)) (win : Nat) (s : List Int × Int) (p : Pl) : List Int × Int := if 0 < p.get win then s else if 0 < mget 0 m p then circV s (loopE ts m p s.2) else s
noncomputable def circP (ts : List Int) (m : List (Pl × Int)) (win : Nat) (ps : List Pl) : List Int × Int := ps.foldl (circStep ts m win) ([], 1000)
theorem circP_snoc (ts : List Int) (m : List (Pl × Int)) (win : Nat) (ps : List Pl) (p : Pl) : circP ts m win (ps ++ [p]) = circStep ts m win (circP ts m win ps) p := by simp [circP]
theorem circP_lim (ts : List Int) (m : List (Pl × Int)) (win : Nat) : ∀ (ps : List Pl), (circP ts m win ps).2 ≤ 1000 ∧ -1 ≤ (circP ts m win ps).2 := by
  have step : ∀ (s : List Int × Int) (p : Pl), s.2 ≤ 1000 ∧ -1 ≤ s.2 → (circStep ts m win s p).2 ≤ 1000 ∧ -1 ≤ (circStep ts m win s p).2 := by
    intro s p h
    unfold circStep
    split
    · exact h
    · split
      · unfold circV
        split
        · rename_i hr
          cases hl : loopN ts m p s.2 1001 with
          | inl s1 => rw [loopE_eq, hl] at hr; cases hr
          | inr r =>
            obtain ⟨row, ok⟩ := r
            have e : loopE ts m p s.2 = (row, ok) := by rw [loopE_eq, hl]; rfl
            rw [e] at hr ⊢
            dsimp only at hr ⊢
            subst hr
            obtain ⟨h1, j, s0, -, q, -, h2, h3⟩ := loopN_ne 1001 hl
            omega
        · exact h
      · exact h
  have : ∀ (ps : List Pl) (s : List Int × Int), s.2 ≤ 1000 ∧ -1 ≤ s.2 → (ps.foldl (circStep ts m win) s).2 ≤ 1000 ∧ -1 ≤ (ps.foldl (circStep ts m win) s).2 := by
    intro ps
    induction ps with
    | nil => intro s h; exact h
    | cons p ps ih => intro s h; exact ih _ (step s p h)
  intro ps
  exact this ps ([], 1000) (by simp)

/-- What the memory holds while circles are looked for. -/
structure CcB (w : World) (B : Nat) (A : Option Addr) (n c ms ml win : Nat) (m : List (Pl × Int)) (s : List Int × Int) (X : Nat → Prop) (W : World) : Prop where
  hX : ∀ k, X k → B ≤ k
  hz : B ≤ W.heap.size
  tb : TbAt W w.heap.size A n c ms ml
  bc : ∃ A' k c', Boxed W (w.heap.size + 1) 22 (.slice A' k c') ∧ IntsAt W W.heap.size A' k s.1 ∧ k ≤ c' ∧ ∀ a : Addr, A' = some a → 0 < k → ¬ X a.block
  bl : Boxed W (w.heap.size + 2) 3 (.int .i64 s.2)
  seen : ∃ m', MapAt Bool Value.bool W (w.heap.size + 3) m'
  bm : Boxed W (w.heap.size + 4) 109 (.map (some (w.heap.size + 3)))
  bw : Boxed W (w.heap.size + 5) 3 (.int .i64 (win : Int))
  msafe : MapAt Int encI W ms m
  bel : Below w.heap.size w W
theorem CcB.st {w : World} {B : Nat} {A : Option Addr} {n c ms ml win : Nat} {m : List (Pl × Int)} {s : List Int × Int} {X X' : Nat → Prop} {W W' : World} (h : CcB w B A n c ms ml win m s X W) (hst : St B X W W') (hgr : Grows X X' W) (hH : w.heap.size + 6 ≤ B) (hms : ms < w.heap.size) : CcB w B A n c ms ml win m s X' W' := by
  obtain ⟨A', k, c', v1, v2, v30, v3⟩ := h.bc
  obtain ⟨m', v4⟩ := h.seen
  have hX := h.hX
  have hz := h.hz
  have hbz := h.bel.size
  refine ⟨fun k hk => (hgr.2 k hk).elim (hX k) (fun h => by omega), Nat.le_trans hz hst.base.size, hst.tb h.tb (fun h => by have := hX _ h; omega),
    ⟨A', k, c', hst.bx v1 (fun h => by have := hX _ h; omega), ints_at v2 hst.base.size fun a ha h0 => ?_, v30, fun a ha h0 => ?_⟩, hst.bx h.bl (fun h => by have := hX _ h; omega), ⟨m', hst.mp v4 (fun h => by have := hX _ h; omega) (by omega)⟩,
    hst.bx h.bm (fun h => by have := hX _ h; omega), hst.bx h.bw (fun h => by have := hX _ h; omega), hst.mp h.msafe (fun h => by have := hX _ h; omega) (by omega), h.bel.trans (hst.below (fun k h => by have := hX k h; omega) (by omega) hbz)⟩
  · have h5 := v3 a ha h0
    subst ha
    obtain ⟨o, ho, hc⟩ := ints_block v2 h0
    exact (hst.same _ _ ho h5 (.inl hc)).trans ho.symm
  · have h5 := v3 a ha h0
    subst ha
    obtain ⟨o, ho, -⟩ := ints_block v2 h0
    exact hgr.not h5 (Array.getElem?_eq_some_iff.1 ho).1
end Go.Proofs.YthjgecblkagelaaGreat
