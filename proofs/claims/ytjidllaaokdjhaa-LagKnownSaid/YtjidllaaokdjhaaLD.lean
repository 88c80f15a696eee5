/- lag: iterators. Who may turn what while an iterator goes on; cuts, between, slices.Values. -/
import Derived.Test.YtjidllaaokdjhaaLC
import Derived.RangeFuncNested
import Derived.RangeFuncBound
import Derived.RangeFuncCalls
import Derived.RangeFuncLeaves
import Derived.RangeFuncBox
import Derived.Shelf.Abstract
import Derived.Shelf.RegionOpen
import Derived.OwnWalkIn
import Derived.TacticsInMore
import Derived.LoopNIn
import Derived.LoopIn
import Derived.Sort.LoopGhostIn
import Derived.Carry
namespace Go.Proofs.Ytjidllaaokdjhaa
open Go.RowKit Go.Shelf

attribute [local go_sem] Oper.semAt_some

theorem KeepsFrom.of_below {B : Nat} {W W' : World} (h : Below W.heap.size W W') : KeepsFrom B W W' :=
  ⟨h.size, fun k _ _ hk _ => (h.block k (Array.getElem?_eq_some_iff.1 hk).1).trans hk⟩

theorem bxBelow {W W' : World} {B D : Nat} {t : TypeId} {v : Value} (h : Boxed W B t v) (hb : Below D W W') (hD : B < D) : Boxed W' B t v := (hb.block B hD).trans h
theorem bxDrew {W : World} {B : Nat} {t : TypeId} {v : Value} (h : Boxed W B t v) : Boxed W.drew B t v := h
theorem bxOwn {W W' : World} {row : Option Nat} {B : Nat} {t : TypeId} {v : Value} (h : Boxed W B t v) (hg : W.grownBy W' row) (hr : ∀ r, row = some r → ∃ o : Obj, W.heap[r]? = some o ∧ o.isCells = false) : Boxed W' B t v :=
  h.kept hg (fun e => by
    obtain ⟨o, ho, hc⟩ := hr B e.symm
    have h' : W.heap[B]? = some (.cells #[v] t (0, 0)) := h
    rw [ho] at h'
    cases h'
    cases hc)
theorem bxPut {W : World} {D B : Nat} {t : TypeId} {v : Value} (h : Boxed W B t v) (hD : W.heap[D]? = some (.deferred (some []))) : Boxed (W.putObj D (.deferred none)) B t v :=
  bxOwn h (grownBy_putObj' _ D (.deferred none)) (fun r e => by cases e; exact ⟨_, hD, rfl⟩)

theorem below_put {w0 W : World} {D : Nat} (hb : Below w0.heap.size w0 W) (h : W.heap[D]? = some (.deferred (some []))) (hD : w0.heap.size ≤ D) : Below w0.heap.size w0 (W.putObj D (.deferred none)) :=
  hb.trans (belowK_b (w := w0) (Nat.le_refl _) W D _ _ hD h rfl rfl)

/-- From W to W' only blocks of X have been turned, or such as hold no cells and lie at or beyond B. -/
structure St (B : Nat) (X : Nat → Prop) (W W' : World) : Prop where
  base : Below 0 W W'
  same : ∀ k o, W.heap[k]? = some o → ¬ X k → (o.isCells = true ∨ k < B) → W'.heap[k]? = some o
def Grows (X X' : Nat → Prop) (W : World) : Prop := (∀ k, X k → X' k) ∧ ∀ k, X' k → X k ∨ W.heap.size ≤ k
def Stable {α : Type} (B : Nat) (J : List α → (Nat → Prop) → World → Prop) : Prop := ∀ pre X X' W W', J pre X W → St B X W W' → Grows X X' W → J pre X' W'
/-- A round leaves the iterator's blocks, and the protected ones, as they are. -/
structure Keep (n₀ : Nat) (C X : Nat → Prop) (W W' : World) : Prop where
  below : Below n₀ W W'
  same : ∀ k o, W.heap[k]? = some o → (X k ∨ C k) → W'.heap[k]? = some o
def noBlock : Nat → Prop := fun _ => False

section
variable {α : Type} {B n₀ : Nat} {C X X' : Nat → Prop} {W W' W'' : World}
theorem Grows.refl (X : Nat → Prop) (W : World) : Grows X X W := ⟨fun _ h => h, fun _ h => .inl h⟩
theorem Keep.refl (W : World) : Keep n₀ C X W W := ⟨Below.refl _ _, fun _ _ h _ => h⟩
theorem Keep.trans (h : Keep n₀ C X W W') (k : Keep n₀ C X W' W'') : Keep n₀ C X W W'' := ⟨h.below.trans k.below, fun i o hi hc => k.same i o (h.same i o hi hc) hc⟩
theorem Keep.of_below (h : Below W.heap.size W W') (hn : n₀ ≤ W.heap.size) : Keep n₀ C X W W' := ⟨h.mono hn, fun k _ hk _ => (h.block k (Array.getElem?_eq_some_iff.1 hk).1).trans hk⟩
theorem Keep.setCell {b : Nat} (hn : n₀ ≤ b) (hX : ¬ X b) (hC : ¬ C b) (o : Nat) (u : Value) : Keep n₀ C X W (W.setCell ⟨b, o, none⟩ u) :=
  ⟨(Below.refl _ _).setCell (p := ⟨b, o, none⟩) hn _, fun k v hk hc => (Below.heap_setCell W ⟨b, o, none⟩ u k (by rintro rfl; rcases hc with h | h; exact hX h; exact hC h)).trans hk⟩
theorem Keep.putObj {b : Nat} {o : Obj} (hn : n₀ ≤ b) (hX : ¬ X b) (hC : ¬ C b) (hb : b < W.heap.size) : Keep n₀ C X W (W.putObj b o) :=
  ⟨(Below.refl _ _).grown (grownBy_putObj' W b o) (by omega) (fun k e => by cases e; exact hn), fun k v hk hc => (World.putObj_heap_other (by rintro rfl; rcases hc with h | h; exact hX h; exact hC h)).trans hk⟩
theorem St.of_below (h : Below W.heap.size W W') : St B X W W' := ⟨h.mono (Nat.zero_le _), fun k _ hk _ _ => (h.block k (Array.getElem?_eq_some_iff.1 hk).1).trans hk⟩
theorem St.refl (W : World) : St B X W W := St.of_below (Below.refl _ _)
theorem St.alloc (W : World) (o : Obj) : St B X W (W.alloc o) := St.of_below ((Below.refl _ _).alloc (Nat.le_refl _) _)
theorem St.putObj {l : Nat} {o o' : Obj} (hl : W.heap[l]? = some o) (ho : o.isCells = false) (hB : B ≤ l) : St B X W (W.putObj l o') :=
  ⟨(Below.refl 0 W).grown (grownBy_putObj' W l o') (Nat.zero_le _) (fun _ _ => Nat.zero_le _), fun k v hk _ hc => by
    by_cases hkl : k = l
    · subst hkl
      rw [hl] at hk
      cases hk
      rcases hc with h | h
      · rw [ho] at h; cases h
      · omega
    · exact (World.putObj_heap_other hkl).trans hk⟩
theorem St.mono {B' : Nat} (h : St B X W W') (hB : B' ≤ B) : St B' X W W' := ⟨h.base, fun k o hk hX hc => h.same k o hk hX (hc.imp id (fun h => by omega))⟩
theorem Stable.put {J : List α → (Nat → Prop) → World → Prop} (h : Stable B J) {pre : List α} {l : Nat} {o : Obj} (o' : Obj) (hs : J pre X W) (hB : B ≤ l) (hl : W.heap[l]? = some o) (ho : o.isCells = false) : J pre X (W.putObj l o') :=
  h _ _ _ _ _ hs (St.putObj hl ho hB) (Grows.refl _ _)
end

def IterAt {α : Type} (P : Program) (g : Nat) (lb : Array Value) (encs : α → Array Value) (n₀ : Nat) (C : Nat → Prop) (S Sp : List α → Prop) (N : Nat) (w0 : World) : Prop :=
  ∀ (l : Nat) (J Jx : List α → (Nat → Prop) → World → Prop) (W : World), Below w0.heap.size w0 W → Stable W.heap.size J → Stable W.heap.size Jx →
    (∀ pre x X W1, J pre X W1 → W.heap.size ≤ W1.heap.size → (∀ k, X k → k < W1.heap.size) → pre.length < N → YieldAt Fence.wide 1 P l (encs x) W1 fun e W' =>
      ((e = .returned (.bool true) ∧ J (pre ++ [x]) X W') ∨ (e = .returned (.bool false) ∧ Jx (pre ++ [x]) X W')) ∧ Keep n₀ C X W1 W' ∧ KeepsFrom W.heap.size W1 W') →
    J [] noBlock W →
    Calls P g (#[.func (.yield l) #[] #[]] ++ lb) W fun e W' => (∃ v, e = .returned v) ∧ ∃ X, (∃ xs, S xs ∧ J xs X W') ∨ (∃ pre, Sp pre ∧ Jx pre X W')

def itPost {α : Type} (B n₀ : Nat) (C X : Nat → Prop) (I : List α → (Nat → Prop) → World → Prop) (Ix : Code → List α → (Nat → Prop) → World → Prop) (xs : List α) (W : World) : Exit → Act → World → Prop
  | .normal, _, W' => KeepsFrom B W W' ∧ Keep n₀ C X W W' ∧ I xs X W'
  | .ret, _, W' => KeepsFrom B W W' ∧ Keep n₀ C X W W' ∧ Ix .ret xs X W'
  | .exit id, _, W' => KeepsFrom B W W' ∧ Keep n₀ C X W W' ∧ Ix (.exit id) xs X W'
  | .goto t, _, W' => KeepsFrom B W W' ∧ Keep n₀ C X W W' ∧ Ix (.goto t) xs X W'
  | .panic _, _, _ => False
  | .outgrown, _, _ => False

theorem KeepsFrom.up {B B' : Nat} {W W' : World} (h : KeepsFrom B W W') (hB : B ≤ B') : KeepsFrom B' W W' := ⟨h.size, fun k o hk => h.same k o (by omega)⟩
theorem KeepsFrom.put {B : Nat} {W : World} {l : Nat} {o : Obj} (hl : l < B) : KeepsFrom B W (W.putObj l o) := ⟨by simp, fun k v hk h _ => (World.putObj_heap_other (by omega)).trans h⟩

set_option maxHeartbeats 1000000 in
theorem range_iter {α : Type} {P : Program} {g : Operand} {ps : Array Tmp} {assign body : Code} {Q : Exit → Act → World → Prop} {a : Act} {w : World} {gf : Nat} {lb : Array Value}
    (hg : a.eval g = .func (.func gf) #[] lb) (eg : ∀ args w, (callFunc gf args).run P w = .ok (.enter gf args) w)
    {encs : α → Array Value} {n₀ : Nat} {C : Nat → Prop} {S Sp : List α → Prop} {N : Nat} {w0 : World} (hseq : IterAt P gf lb encs n₀ C S Sp N w0)
    (hb0 : Below w0.heap.size w0 w) (hC : ∀ k, C k → k < w.heap.size) (hn₀ : n₀ ≤ w.heap.size) (hps : ∀ x, (encs x).size = ps.size)
    (I : List α → (Nat → Prop) → World → Prop) (Ix : Code → List α → (Nat → Prop) → World → Prop) (hI : Stable w.heap.size I) (hIx : ∀ c, Stable w.heap.size (Ix c)) (h0 : I [] noBlock w)
    (Ax : α → Act → World → Prop) (hAx : ∀ x a' W W', Ax x a' W → St w.heap.size noBlock W W' → Ax x a' W')
    (hassign : ∀ (l : Nat) (pre : List α) (x : α) (X : Nat → Prop) (W : World) (K : Act → World → Prop), I pre X W → w.heap.size ≤ W.heap.size → (∀ k, X k → w.heap.size ≤ k ∧ k < W.heap.size) → (∀ a' W', Keep n₀ C X W W' → KeepsFrom w.heap.size W W' → I pre X W' → Ax x a' W' → K a' W') →
      assign.wpIn (Fence.wide.inRound l) 1 P (Exit.then K (fun _ _ _ => False)) { tmps := (ps.zip (encs x)).foldl (fun t (p, v) => t.setIfInBounds p v) a.tmps, defers := [] } W)
    (hbody : ∀ (l : Nat) (pre : List α) (x : α) (X : Nat → Prop) (a' : Act) (W : World), I pre X W → Ax x a' W → w.heap.size ≤ W.heap.size → (∀ k, X k → w.heap.size ≤ k ∧ k < W.heap.size) → pre.length < N → body.wpIn (Fence.wide.inRound l) 1 P (itPost w.heap.size n₀ C X I Ix (pre ++ [x]) W) a' W)
    (hdone : ∀ (D : Nat) (xs : List α) (X : Nat → Prop) (W : World), w.heap.size ≤ D → S xs → I xs X W → W.heap[D]? = some (.deferred (some [])) → Q .normal { a with defers := { target := .collected D, args := #[] } :: a.defers } W)
    (hstop : ∀ (D : Nat) (c : Code) (pre : List α) (X : Nat → Prop) (W : World), w.heap.size ≤ D → Sp pre → Ix c pre X W → W.heap[D]? = some (.deferred (some [])) → c.wpIn Fence.wide 3 P Q { a with defers := { target := .collected D, args := #[] } :: a.defers } W) :
    (Code.rangeFunc g ps assign body).wpIn Fence.wide 3 P Q a w := by
  refine wpIn_rangeFunc ?_
  intro fn _
  obtain ⟨rec, hrec⟩ : ∃ rec : LoopState → Option Code → Loop, rec = fun st pe => { state := st, pending := pe, fn, tmps := a.tmps, params := ps, assign, body, defers := w.heap.size } := ⟨_, rfl⟩
  obtain ⟨W1, hW1⟩ : ∃ W1, (w.alloc (.deferred (some []))).alloc (.loop (rec .ready none)) = W1 := ⟨_, rfl⟩
  have hs1 : W1.heap.size = w.heap.size + 2 := by rw [← hW1]; simp
  have hL1 : W1.heap[w.heap.size + 1]? = some (.loop (rec .ready none)) := by
    rw [← hW1]; have := World.alloc_heap_new (w.alloc (.deferred (some []))) (.loop (rec .ready none)); rwa [World.size_alloc] at this
  have hK1 : W1.heap[w.heap.size]? = some (.deferred (some [])) := by
    rw [← hW1]; exact (Below.heap_alloc _ _ _ (by simp)).trans (World.alloc_heap_new w _)
  have hI1 : I [] noBlock W1 := by
    rw [← hW1]
    exact hI _ _ _ _ _ (hI _ _ _ _ _ h0 (St.alloc _ _) (Grows.refl _ _)) (St.alloc _ _) (Grows.refl _ _)
  have hb1 : Below w0.heap.size w0 W1 := by
    rw [← hW1]; exact hb0.trans ((((Below.refl _ w).alloc (Nat.le_refl _) _).alloc (by simp) _).mono hb0.size)
  refine ⟨w.heap.size + 1, [{ target := .collected w.heap.size, args := #[] }], W1, { target := .fn (.func gf) lb, args := #[.func (.yield (w.heap.size + 1)) #[] #[]] }, W1, gf,
    #[.func (.yield (w.heap.size + 1)) #[] #[]] ++ lb, W1, ?_, ?_, ?_, ?_, fun _ => by omega, ?_⟩
  · rw [← hW1, hrec]; exact run_enterLoop_outer _ _ _ _ _
  · simp only [resolve, hg]
    simp [go_sem]
  · intro f' _; trivial
  · simp [invoke, go_sem, eg]
  · refine callsIn_wide.2 ((hseq (w.heap.size + 1)
      (fun pre X W => W1.heap.size ≤ W.heap.size ∧ I pre X W ∧ (∀ k, X k → W1.heap.size ≤ k) ∧ W.heap[w.heap.size + 1]? = some (.loop (rec .ready none)) ∧ W.heap[w.heap.size]? = some (.deferred (some [])))
      (fun pre X W => ∃ c, W1.heap.size ≤ W.heap.size ∧ Ix c pre X W ∧ W.heap[w.heap.size + 1]? = some (.loop (rec .done (some c))) ∧ W.heap[w.heap.size]? = some (.deferred (some [])) ∧ (∀ k, X k → W1.heap.size ≤ k))
      W1 hb1 ?_ ?_ ?_ ⟨Nat.le_refl _, hI1, fun _ h => h.elim, hL1, hK1⟩).mono ?_)
    · rintro pre X X' A B ⟨hz, hi, hx, hl, hk⟩ hst hgr
      have hz' := hst.base.size
      refine ⟨by omega, hI _ _ _ _ _ hi (hst.mono (by omega)) hgr, ?_, hst.same _ _ hl (fun h => by have := hx _ h; omega) (.inr (by omega)), hst.same _ _ hk (fun h => by have := hx _ h; omega) (.inr (by omega))⟩
      intro k h
      rcases hgr.2 k h with h | h
      · exact hx k h
      · omega
    · rintro pre X X' A B ⟨c, hz, hi, hl, hk, hx⟩ hst hgr
      have hz' := hst.base.size
      refine ⟨c, by omega, hIx c _ _ _ _ _ hi (hst.mono (by omega)) hgr, hst.same _ _ hl (fun h => by have := hx _ h; omega) (.inr (by omega)), hst.same _ _ hk (fun h => by have := hx _ h; omega) (.inr (by omega)), ?_⟩
      intro k h
      rcases hgr.2 k h with h | h
      · exact hx k h
      · omega
    · rintro pre x X W ⟨hz, hi, hx, hl, hk⟩ hsz hup hlen
      have hy := run_yield (P := P) (args := encs x) hl (by rw [hrec]; exact hps x)
      rw [hrec] at hy
      have hxw : ∀ k, X k → w.heap.size ≤ k ∧ k < W.heap.size := fun k h => ⟨by have := hx k h; omega, hup k h⟩
      have hXl : ¬ X (w.heap.size + 1) := fun h => by have := hx _ h; omega
      have hCl : ¬ C (w.heap.size + 1) := fun h => by have := hC _ h; omega
      refine ⟨fn, _, assign, body, hy, roundIn_of_wpIn trivial (hassign _ pre x X W _ hi (by omega) hxw ?_)⟩
      clear hy
      intro a' Wa hka hfa hia hax
      have hla := hfa.same _ _ (by omega) hl rfl
      have hda := hfa.same _ _ (Nat.le_refl _) hk rfl
      have hlta : w.heap.size + 1 < Wa.heap.size := (Array.getElem?_eq_some_iff.1 hla).1
      refine ⟨_, run_beginRound hla (by rw [hrec]), ?_⟩
      obtain ⟨Wb, hWb⟩ : ∃ Wb, Wb = Wa.putObj (w.heap.size + 1) (.loop { rec .ready none with state := .busy }) := ⟨_, rfl⟩
      rw [← hWb]
      have hlb : Wb.heap[w.heap.size + 1]? = some (.loop { rec .ready none with state := .busy }) := by rw [hWb]; exact World.putObj_heap_same hlta
      have hdb : Wb.heap[w.heap.size]? = some (.deferred (some [])) := by rw [hWb]; exact (World.putObj_heap_other (by omega)).trans hda
      have hkb : Keep n₀ C X W Wb := by rw [hWb]; exact hka.trans (Keep.putObj (by omega) hXl hCl hlta)
      have hfb : KeepsFrom W1.heap.size W Wb := by rw [hWb]; exact (KeepsFrom.up hfa (by omega)).trans (KeepsFrom.put (by omega))
      have hszb : w.heap.size ≤ Wb.heap.size := by rw [hWb]; simp; omega
      have hib : I pre X Wb := by rw [hWb]; exact hI.put _ hia (by omega) hla rfl
      have haxb : Ax x a' Wb := by rw [hWb]; exact hAx _ _ _ _ hax (St.putObj hla rfl (by omega))
      refine wpIn_mono (hbody _ pre x X a' Wb hib haxb hszb (fun k h => ⟨(hxw k h).1, Nat.lt_of_lt_of_le (hxw k h).2 hkb.below.size⟩) hlen) ?_
      have fin : ∀ (jump : Option Code) (W3 : World), KeepsFrom w.heap.size Wb W3 → Keep n₀ C X Wb W3 →
          (Instr.endRound (w.heap.size + 1) jump).run P W3 = .ok (.bool jump.isNone) (W3.putObj (w.heap.size + 1) (.loop (rec (if jump.isNone then .ready else .done) jump))) ∧
          W3.heap[w.heap.size + 1]? = some (.loop { rec .ready none with state := .busy }) ∧
          (W3.putObj (w.heap.size + 1) (.loop (rec (if jump.isNone then .ready else .done) jump))).heap[w.heap.size + 1]? = some (.loop (rec (if jump.isNone then .ready else .done) jump)) ∧
          (W3.putObj (w.heap.size + 1) (.loop (rec (if jump.isNone then .ready else .done) jump))).heap[w.heap.size]? = some (.deferred (some [])) ∧
          Keep n₀ C X W (W3.putObj (w.heap.size + 1) (.loop (rec (if jump.isNone then .ready else .done) jump))) ∧
          KeepsFrom W1.heap.size W (W3.putObj (w.heap.size + 1) (.loop (rec (if jump.isNone then .ready else .done) jump))) := fun jump W3 hk3 hkk3 => by
        have hl3 := hk3.same _ _ (by omega) hlb rfl
        have hlt3 : w.heap.size + 1 < W3.heap.size := (Array.getElem?_eq_some_iff.1 hl3).1
        have he := run_endRound (P := P) jump hl3
        refine ⟨?_, hl3, World.putObj_heap_same hlt3, (World.putObj_heap_other (by omega)).trans (hk3.same _ _ (Nat.le_refl _) hdb rfl), (hkb.trans hkk3).trans (Keep.putObj (by omega) hXl hCl hlt3), (hfb.trans (KeepsFrom.up hk3 (by omega))).trans (KeepsFrom.put (by omega))⟩
        rw [hrec] at he ⊢
        exact he
      rintro e a3 W3 hp
      cases e with
      | normal =>
        obtain ⟨hk3, hkp3, hi3⟩ := hp
        have hz3 := hkp3.below.size
        have hz2 := hkb.below.size
        obtain ⟨hr, hl3, hl4, hk4, h5, h6⟩ := fin none W3 hk3 hkp3
        exact ⟨_, _, hr, .inl ⟨rfl, by simp; omega, hI.put _ hi3 (by omega) hl3 rfl, hx, hl4, hk4⟩, h5, h6⟩
      | ret =>
        obtain ⟨hk3, hkp3, hi3⟩ := hp
        have hz3 := hkp3.below.size
        have hz2 := hkb.below.size
        obtain ⟨hr, hl3, hl4, hk4, h5, h6⟩ := fin (some .ret) W3 hk3 hkp3
        exact ⟨_, _, hr, .inr ⟨rfl, .ret, by simp; omega, (hIx _).put _ hi3 (by omega) hl3 rfl, hl4, hk4, hx⟩, h5, h6⟩
      | exit id =>
        obtain ⟨hk3, hkp3, hi3⟩ := hp
        have hz3 := hkp3.below.size
        have hz2 := hkb.below.size
        obtain ⟨hr, hl3, hl4, hk4, h5, h6⟩ := fin (some (.exit id)) W3 hk3 hkp3
        exact ⟨_, _, hr, .inr ⟨rfl, .exit id, by simp; omega, (hIx _).put _ hi3 (by omega) hl3 rfl, hl4, hk4, hx⟩, h5, h6⟩
      | goto t =>
        obtain ⟨hk3, hkp3, hi3⟩ := hp
        have hz3 := hkp3.below.size
        have hz2 := hkb.below.size
        obtain ⟨hr, hl3, hl4, hk4, h5, h6⟩ := fin (some (.goto t)) W3 hk3 hkp3
        exact ⟨_, _, hr, .inr ⟨rfl, .goto t, by simp; omega, (hIx _).put _ hi3 (by omega) hl3 rfl, hl4, hk4, hx⟩, h5, h6⟩
      | panic ch => exact hp.elim
      | outgrown => exact hp.elim
    · rintro e W2 ⟨⟨v, rfl⟩, X, (⟨xs, hS, -, hi, hx, hl, hk⟩ | ⟨pre, hSp, c, -, hi, hl, hk, hx⟩)⟩
      · exact ⟨none, _, by have := run_endLoop (P := P) hl (by rw [hrec]; simp); rw [hrec] at this; exact this, hdone _ xs X _ (Nat.le_refl _) hS (hI.put _ hi (by omega) hl rfl) ((World.putObj_heap_other (by omega)).trans hk)⟩
      · exact ⟨some c, _, by have := run_endLoop (P := P) hl (by rw [hrec]; simp); rw [hrec] at this; exact this, hstop _ c pre X _ (Nat.le_refl _) hSp ((hIx c).put _ hi (by omega) hl rfl) ((World.putObj_heap_other (by omega)).trans hk)⟩

/-! ### the numbers from lo to M -/
def partsL (lo M : Nat) : List Nat := (List.range (M + 1 - lo)).map fun i => lo + i
theorem parts_len (lo M : Nat) : (partsL lo M).length = M + 1 - lo := by simp [partsL]
theorem parts_get {lo M k : Nat} (h : k < (partsL lo M).length) : (partsL lo M)[k] = lo + k := by simp [partsL]
theorem parts_mem {lo M p : Nat} : p ∈ partsL lo M ↔ lo ≤ p ∧ p ≤ M := by
  unfold partsL
  rw [List.mem_map]
  constructor
  · rintro ⟨i, hi, rfl⟩
    have := List.mem_range.1 hi
    omega
  · intro h
    exact ⟨p - lo, List.mem_range.2 (by omega), by omega⟩
abbrev Part (lo M : Nat) := { p : Nat // p ∈ partsL lo M }
def partsS (lo M : Nat) : List (Part lo M) := (partsL lo M).attach
theorem partsS_len (lo M : Nat) : (partsS lo M).length = M + 1 - lo := by unfold partsS; rw [List.length_attach, parts_len]
theorem partsS_val (lo M : Nat) : (partsS lo M).map (·.1) = partsL lo M := by unfold partsS; exact List.attach_map_subtype_val _
theorem partsS_take {lo M k : Nat} (h : lo + k ≤ M) : (partsS lo M).take (k + 1) = (partsS lo M).take k ++ [⟨lo + k, parts_mem.2 ⟨by omega, h⟩⟩] := by
  have hk : k < (partsS lo M).length := by rw [partsS_len]; omega
  rw [List.take_succ_eq_append_getElem hk]
  congr 2
  apply Subtype.ext
  have e := partsS_val lo M
  have e2 := congrArg (fun l => l[k]?) e
  simp only [List.getElem?_map] at e2
  rw [List.getElem?_eq_getElem hk, List.getElem?_eq_getElem (show k < (partsL lo M).length by rw [parts_len]; rw [partsS_len] at hk; exact hk), parts_get] at e2
  simpa using e2

set_option maxRecDepth 100000 in
set_option maxHeartbeats 4000000 in
theorem cuts1_any (w0 : World) (bl bh bt n₀ lo hi turns : Nat) (h1 : Boxed w0 bl 3 (.int .i64 (lo : Int))) (h2 : Boxed w0 bh 3 (.int .i64 (hi : Int))) (h3 : Boxed w0 bt 3 (.int .i64 (turns : Int))) (_hn₀ : n₀ ≤ w0.heap.size) (hs1 : hi ≤ 1000000) (hs2 : turns ≤ 1000000) (_hs3 : lo ≤ 1000000) (M : Nat) (hM : M = min hi turns) :
    IterAt Try.prog 113 #[.pointer (some ⟨bl, 0, none⟩), .pointer (some ⟨bh, 0, none⟩), .pointer (some ⟨bt, 0, none⟩)] (fun p : Part lo M => #[.agg #[.int .i64 (p.1 : Int), .int .i64 ((turns : Int) - (p.1 : Int))]]) n₀ (fun k => (k = bl ∨ k = bh) ∨ k = bt)
      (fun xs => xs = partsS lo M) (fun pre => ∃ rest, pre ++ rest = partsS lo M) (partsS lo M).length w0 := by
  intro l J Jx W hW hJs hJxs hY h0
  have y1 := bxBelow h1 hW h1.lt
  have y2 := bxBelow h2 hW h2.lt
  have y3 := bxBelow h3 hW h3.lt
  have c1 := y1.cell
  refine (callsIn_wide (n := 2)).1 ?_
  refine callsIn_of_wp Try.func113 rfl trivial ?_ rfl
  simp only [Try.ntmps113, List.size_toArray, List.length_cons, List.length_nil, Nat.reduceAdd, Nat.reduceSub, Array.replicate_succ, Array.replicate_zero, List.push_toArray, List.append_toArray, List.nil_append, List.cons_append]
  gi_wp2_with (fail)
  have hMi : min (hi : Int) (turns : Int) = (M : Int) := by rw [hM]; omega
  have hMs : M ≤ 1000000 := by omega
  have HM := Lib.hid hM
  clear hM c1
  gi_loopg [5] (M + 1 - lo) (fun g v5 wr => ∃ k p : Nat, (k ≤ M + 1 - lo ∧ g = M + 1 - lo - k ∧ v5 = .int .i64 (p : Int)) ∧ Hid (p = lo + k) ∧ J ((partsS lo M).take k) noBlock wr ∧ Boxed wr bl 3 (.int .i64 (lo : Int)) ∧ Boxed wr bh 3 (.int .i64 (hi : Int)) ∧ Boxed wr bt 3 (.int .i64 (turns : Int)) ∧ W.heap.size ≤ wr.heap.size)
  case atStart => exact ⟨0, lo, ⟨Nat.zero_le _, rfl, rfl⟩, Lib.hid rfl, by simpa using h0, y1, y2, y3, Nat.le_refl _⟩
  case round =>
    clear y1 y2 y3
    obtain ⟨k, p, ⟨hk, rfl, rfl⟩, Hp, hJ, y1, y2, y3, hz⟩ := hrel
    have c1 := y1.cell
    have c2 := y2.cell
    have c3 := y3.cell
    by_cases hlt : p ≤ M
    · have hpl : lo + k ≤ M := by rw [← Hp.out]; exact hlt
      have hle2 : (p : Int) ≤ (hi : Int) ∧ (p : Int) ≤ (turns : Int) := by have := HM.out; omega
      have hle3 := hle2.1
      have hle4 := hle2.2
      have hws : IntKind.i64.wrap ((turns : Int) - (p : Int)) = (turns : Int) - (p : Int) := by rw [IntKind.wrap_i64]; omega
      have hwp : IntKind.i64.wrap ((p : Int) + 1) = (p : Int) + 1 := by rw [IntKind.wrap_i64]; omega
      have hlen : ((partsS lo M).take k).length < (partsS lo M).length := by rw [List.length_take, partsS_len]; omega
      have htk : (partsS lo M).take (k + 1) = (partsS lo M).take k ++ [⟨p, parts_mem.2 ⟨by rw [Hp.out]; omega, hlt⟩⟩] := by rw [partsS_take hpl]; congr 2; exact Subtype.ext Hp.out.symm
      obtain ⟨fn, tmps, assign, body, hy, hR⟩ := hY _ ⟨p, parts_mem.2 ⟨by rw [Hp.out]; omega, hlt⟩⟩ noBlock wr hJ hz (fun _ h => h.elim) hlen
      dsimp only at hy
      have Hl := Lib.hid (And.intro hlen (And.intro htk hpl))
      clear hlen htk hpl hle2
      gi_wp2
      all_goals first | (exfalso; omega) | skip
      all_goals
        refine hR.mono ?_
        rintro e W3 ⟨hJ3, hkeep, hkf⟩
        rcases hJ3 with ⟨rfl, hJ3⟩ | ⟨rfl, hJx3⟩
        · gi_wp2
          gi_roundg (M + 1 - lo - (k + 1))
          case measure => have := Hl.out.2.2; omega
          case rel => exact ⟨k + 1, p + 1, ⟨by have := Hl.out.2.2; omega, rfl, by simp⟩, Lib.hid (by have := Hp.out; omega), by rw [Hl.out.2.1]; exact hJ3, hkeep.same _ _ y1 (.inr (.inl (.inl rfl))), hkeep.same _ _ y2 (.inr (.inl (.inr rfl))), hkeep.same _ _ y3 (.inr (.inr rfl)), Nat.le_trans hz hkeep.below.size⟩
        · gi_wp2
          refine bodyPost_ret (results_none rfl _ _ _) rfl ⟨⟨_, rfl⟩, noBlock, .inr ⟨_, ⟨(partsS lo M).drop (k + 1), ?_⟩, hJx3⟩⟩
          rw [← Hl.out.2.1, List.take_append_drop]
    · have hle2 : ¬ ((p : Int) ≤ (hi : Int) ∧ (p : Int) ≤ (turns : Int)) := by have := HM.out; omega
      rw [List.take_of_length_le (by rw [partsS_len]; have := Hp.out; omega)] at hJ
      gi_wp2
      all_goals first | (exfalso; omega) | skip
      all_goals
        refine bodyPost_end (v := .tuple #[]) (results_none rfl _ _ _) rfl ?_
        exact ⟨⟨_, rfl⟩, noBlock, .inl hJ⟩

set_option maxRecDepth 100000 in
set_option maxHeartbeats 4000000 in
theorem between1_any (w0 : World) (bl bh n₀ lo hi : Nat) (h1 : Boxed w0 bl 3 (.int .i64 (lo : Int))) (h2 : Boxed w0 bh 3 (.int .i64 (hi : Int))) (_hn₀ : n₀ ≤ w0.heap.size) (hs1 : hi ≤ 1000000) (_hs3 : lo ≤ 1000000) :
    IterAt Try.prog 106 #[.pointer (some ⟨bl, 0, none⟩), .pointer (some ⟨bh, 0, none⟩)] (fun p : Part lo hi => #[.int .i64 (p.1 : Int)]) n₀ (fun k => k = bl ∨ k = bh)
      (fun xs => xs = partsS lo hi) (fun pre => ∃ rest, pre ++ rest = partsS lo hi) (partsS lo hi).length w0 := by
  intro l J Jx W hW hJs hJxs hY h0
  have y1 := bxBelow h1 hW h1.lt
  have y2 := bxBelow h2 hW h2.lt
  have c1 := y1.cell
  refine (callsIn_wide (n := 2)).1 ?_
  refine callsIn_of_wp Try.func106 rfl trivial ?_ rfl
  simp only [Try.ntmps106, List.size_toArray, List.length_cons, List.length_nil, Nat.reduceAdd, Nat.reduceSub, Array.replicate_succ, Array.replicate_zero, List.push_toArray, List.append_toArray, List.nil_append, List.cons_append]
  gi_wp2_with (fail)
  clear c1
  gi_loopg [4] (hi + 1 - lo) (fun g v4 wr => ∃ k p : Nat, (k ≤ hi + 1 - lo ∧ g = hi + 1 - lo - k ∧ v4 = .int .i64 (p : Int)) ∧ Hid (p = lo + k) ∧ J ((partsS lo hi).take k) noBlock wr ∧ Boxed wr bl 3 (.int .i64 (lo : Int)) ∧ Boxed wr bh 3 (.int .i64 (hi : Int)) ∧ W.heap.size ≤ wr.heap.size)
  case atStart => exact ⟨0, lo, ⟨Nat.zero_le _, rfl, rfl⟩, Lib.hid rfl, by simpa using h0, y1, y2, Nat.le_refl _⟩
  case round =>
    clear y1 y2
    obtain ⟨k, p, ⟨hk, rfl, rfl⟩, Hp, hJ, y1, y2, hz⟩ := hrel
    have c1 := y1.cell
    have c2 := y2.cell
    by_cases hlt : p ≤ hi
    · have hpl : lo + k ≤ hi := by rw [← Hp.out]; exact hlt
      have hle3 : (p : Int) ≤ (hi : Int) := by omega
      have hwp : IntKind.i64.wrap ((p : Int) + 1) = (p : Int) + 1 := by rw [IntKind.wrap_i64]; omega
      have hlen : ((partsS lo hi).take k).length < (partsS lo hi).length := by rw [List.length_take, partsS_len]; omega
      have htk : (partsS lo hi).take (k + 1) = (partsS lo hi).take k ++ [⟨p, parts_mem.2 ⟨by rw [Hp.out]; omega, hlt⟩⟩] := by rw [partsS_take hpl]; congr 2; exact Subtype.ext Hp.out.symm
      obtain ⟨fn, tmps, assign, body, hy, hR⟩ := hY _ ⟨p, parts_mem.2 ⟨by rw [Hp.out]; omega, hlt⟩⟩ noBlock wr hJ hz (fun _ h => h.elim) hlen
      dsimp only at hy
      have Hl := Lib.hid (And.intro hlen (And.intro htk hpl))
      clear hlen htk hpl
      gi_wp2
      refine hR.mono ?_
      rintro e W3 ⟨hJ3, hkeep, hkf⟩
      rcases hJ3 with ⟨rfl, hJ3⟩ | ⟨rfl, hJx3⟩
      · gi_wp2
        gi_roundg (hi + 1 - lo - (k + 1))
        case measure => have := Hl.out.2.2; omega
        case rel => exact ⟨k + 1, p + 1, ⟨by have := Hl.out.2.2; omega, rfl, by simp⟩, Lib.hid (by have := Hp.out; omega), by rw [Hl.out.2.1]; exact hJ3, hkeep.same _ _ y1 (.inr (.inl rfl)), hkeep.same _ _ y2 (.inr (.inr rfl)), Nat.le_trans hz hkeep.below.size⟩
      · gi_wp2
        refine bodyPost_ret (results_none rfl _ _ _) rfl ⟨⟨_, rfl⟩, noBlock, .inr ⟨_, ⟨(partsS lo hi).drop (k + 1), ?_⟩, hJx3⟩⟩
        rw [← Hl.out.2.1, List.take_append_drop]
    · have hle2 : ¬ (p : Int) ≤ (hi : Int) := by omega
      rw [List.take_of_length_le (by rw [partsS_len]; have := Hp.out; omega)] at hJ
      gi_wp2
      refine bodyPost_end (v := .tuple #[]) (results_none rfl _ _ _) rfl ?_
      exact ⟨⟨_, rfl⟩, noBlock, .inl hJ⟩

/-- The first k of the n indices. -/
def idx (n k : Nat) : List (Fin n) := (List.finRange n).take k
theorem idx_succ {n k : Nat} (h : k < n) : idx n (k + 1) = idx n k ++ [⟨k, h⟩] := by
  unfold idx
  rw [List.take_succ_eq_append_getElem (by simpa using h)]
  simp
theorem idx_length {n k : Nat} (h : k ≤ n) : (idx n k).length = k := by unfold idx; simp [h]
theorem idx_all (n : Nat) : idx n n = List.finRange n := by unfold idx; rw [List.take_of_length_le (by simp)]

set_option maxRecDepth 100000 in
set_option maxHeartbeats 4000000 in
theorem values1_any (w0 : World) (bs n₀ : Nat) (A : Option Addr) (n c : Nat) (vals : Nat → Value) (h1 : Boxed w0 bs 85 (.slice A n c)) (hn₀ : n₀ ≤ w0.heap.size) (hn : n ≤ 1000000) (hv : ∀ j, j < n → ∃ b off, A = some ⟨b, off, none⟩ ∧ b < n₀ ∧ w0.cell? ⟨b, off + j, none⟩ = some (vals j)) :
    IterAt Try.prog 118 #[.pointer (some ⟨bs, 0, none⟩)] (fun i : Fin n => #[vals i.1]) n₀ (fun k => k = bs)
      (fun xs => xs = List.finRange n) (fun pre => ∃ rest, pre ++ rest = List.finRange n) n w0 := by
  intro l J Jx W hW hJs hJxs hY h0
  have y1 := bxBelow h1 hW h1.lt
  have c1 := y1.cell
  have hb0 : Below n₀ w0 W := hW.mono hn₀
  have Hv := Lib.hid hv
  clear hv
  refine (callsIn_wide (n := 2)).1 ?_
  refine callsIn_of_wp Try.func118 rfl trivial ?_ rfl
  simp only [Try.ntmps118, List.size_toArray, List.length_cons, List.length_nil, Nat.reduceAdd, Nat.reduceSub, Array.replicate_succ, Array.replicate_zero, List.push_toArray, List.append_toArray, List.nil_append, List.cons_append]
  gi_wp2_with (fail)
  clear c1
  gi_loopg [7] n (fun g v7 wr => ∃ k : Nat, (k ≤ n ∧ g = n - k ∧ v7 = .int .i64 (k : Int)) ∧ J (idx n k) noBlock wr ∧ Below n₀ w0 wr ∧ W.heap.size ≤ wr.heap.size)
  case atStart => exact ⟨0, ⟨Nat.zero_le _, rfl, rfl⟩, by simpa [idx] using h0, hb0, Nat.le_refl _⟩
  case round =>
    clear y1 hb0
    obtain ⟨k, ⟨hk, rfl, rfl⟩, hJ, hb, hz⟩ := hrel
    by_cases hlt : k < n
    · obtain ⟨b, off, hA, hbn, hc⟩ := Hv.out k hlt
      have hc' := (hb.cell (p := ⟨b, off + k, none⟩) hbn).trans hc
      subst hA
      have hwp : IntKind.i64.wrap ((k : Int) + 1) = (k : Int) + 1 := by rw [IntKind.wrap_i64]; omega
      have hlen : (idx n k).length < n := by rw [idx_length hk]; exact hlt
      obtain ⟨fn, tmps, assign, body, hy, hR⟩ := hY _ ⟨k, hlt⟩ noBlock wr hJ hz (fun _ h => h.elim) hlen
      dsimp only at hy
      have Hl := Lib.hid (And.intro hlen (idx_succ hlt))
      clear hlen
      gi_wp2
      refine hR.mono ?_
      rintro e W3 ⟨hJ3, hkeep, hkf⟩
      rcases hJ3 with ⟨rfl, hJ3⟩ | ⟨rfl, hJx3⟩
      · gi_wp2
        gi_roundg (n - (k + 1))
        case measure => omega
        case rel => exact ⟨k + 1, ⟨by omega, rfl, by simp⟩, by rw [Hl.out.2]; exact hJ3, hb.trans hkeep.below, Nat.le_trans hz hkeep.below.size⟩
      · gi_wp2
        refine bodyPost_ret (results_none rfl _ _ _) rfl ⟨⟨_, rfl⟩, noBlock, .inr ⟨_, ⟨(List.finRange n).drop (k + 1), ?_⟩, hJx3⟩⟩
        rw [← Hl.out.2]
        exact List.take_append_drop _ _
    · obtain rfl : n = k := by omega
      rw [idx_all] at hJ
      gi_wp2
      refine bodyPost_end (v := .tuple #[]) (results_none rfl _ _ _) rfl ?_
      exact ⟨⟨_, rfl⟩, noBlock, .inl ⟨_, rfl, hJ⟩⟩

/-! ### the functions that return them -/
theorem cuts_box (t lo hi : Int) (w : World) :
    Calls Try.prog 95 #[.int .i64 t, .int .i64 lo, .int .i64 hi] w fun e w' =>
      ∃ bl bh bt, e = .returned (.func (.func 113) #[] #[.pointer (some ⟨bl, 0, none⟩), .pointer (some ⟨bh, 0, none⟩), .pointer (some ⟨bt, 0, none⟩)]) ∧ Boxed w' bl 3 (.int .i64 lo) ∧ Boxed w' bh 3 (.int .i64 hi) ∧ Boxed w' bt 3 (.int .i64 t) ∧ Below w.heap.size w w' := by
  go_enter Try.func95, Try.ntmps95
  go_wp2
  go_ret
  refine ⟨w.heap.size + 1, w.heap.size + 1 + 1, w.heap.size, by simp, ?_, ?_, ?_, (((Below.refl _ _).alloc (Nat.le_refl _) _).alloc (by simp) _).alloc (by simp; omega) _⟩
  · have := (Boxed.new (w.alloc (.cells #[.int .i64 t] 3)) 3 (.int .i64 lo)).alloc (.cells #[.int .i64 hi] 3)
    simpa using this
  · have := Boxed.new ((w.alloc (.cells #[.int .i64 t] 3)).alloc (.cells #[.int .i64 lo] 3)) 3 (.int .i64 hi)
    simpa using this
  · exact ((Boxed.new w 3 (.int .i64 t)).alloc _).alloc _
theorem between_box (lo hi : Int) (w : World) :
    Calls Try.prog 79 #[.int .i64 lo, .int .i64 hi] w fun e w' =>
      ∃ bl bh, e = .returned (.func (.func 106) #[] #[.pointer (some ⟨bl, 0, none⟩), .pointer (some ⟨bh, 0, none⟩)]) ∧ Boxed w' bl 3 (.int .i64 lo) ∧ Boxed w' bh 3 (.int .i64 hi) ∧ Below w.heap.size w w' := by
  go_enter Try.func79, Try.ntmps79
  go_wp2
  go_ret
  refine ⟨w.heap.size, w.heap.size + 1, by simp, ?_, ?_, ((Below.refl _ _).alloc (Nat.le_refl _) _).alloc (by simp) _⟩
  · exact (Boxed.new w 3 (.int .i64 lo)).alloc _
  · have := Boxed.new (w.alloc (.cells #[.int .i64 lo] 3)) 3 (.int .i64 hi)
    simpa using this
theorem values_box (A : Option Addr) (n c : Nat) (w : World) :
    Calls Try.prog 116 #[.slice A n c] w fun e w' =>
      ∃ bs, e = .returned (.func (.func 118) #[] #[.pointer (some ⟨bs, 0, none⟩)]) ∧ Boxed w' bs 85 (.slice A n c) ∧ Below w.heap.size w w' := by
  go_enter Try.func116, Try.ntmps116
  go_wp2
  go_ret
  exact ⟨w.heap.size, by simp, Boxed.new w 85 (.slice A n c), (Below.refl _ _).alloc (Nat.le_refl _) _⟩
end Go.Proofs.Ytjidllaaokdjhaa
