/- Parts of a proof: SV SW SX SZ SU. -/
import Derived.Test.YtfidkgpimlpdbaaF3
import Derived.Laws.MakeOwn
import Derived.Laws.CopyOwn
import Derived.ArgAppend
import Derived.Laws.StructEq
import Derived.ChangeKeysEq

/- Symbolic runs: ranges over functions whose elements come with a fact on the world. -/
namespace Go.Proofs.Ytfidkgpimlpdbaa
open Go.RowKit Go.Shelf

attribute [local go_sem] Oper.semAt_some

def IterV {α : Type} (P : Program) (g : Nat) (lb : Array Value) (encs : α → Array Value) (n₀ : Nat) (C : Nat → Prop) (S Sp : List α → Prop) (N : Nat) (V : α → (Nat → Prop) → World → Prop) (w0 : World) : Prop :=
  ∀ (l : Nat) (J Jx : List α → (Nat → Prop) → World → Prop) (W : World), Below w0.heap.size w0 W → Stable W.heap.size J → Stable W.heap.size Jx →
    (∀ pre x X W1, J pre X W1 → W.heap.size ≤ W1.heap.size → (∀ k, X k → k < W1.heap.size) → pre.length < N → V x X W1 → YieldAt Fence.wide 1 P l (encs x) W1 fun e W' =>
      ((e = .returned (.bool true) ∧ J (pre ++ [x]) X W') ∨ (e = .returned (.bool false) ∧ Jx (pre ++ [x]) X W')) ∧ Keep n₀ C X W1 W' ∧ KeepsFrom W.heap.size W1 W') →
    J [] noBlock W →
    Calls P g (#[.func (.yield l) #[] #[]] ++ lb) W fun e W' => (∃ v, e = .returned v) ∧ ∃ X, (∃ xs, S xs ∧ J xs X W') ∨ (∃ pre, Sp pre ∧ Jx pre X W')

set_option maxHeartbeats 1000000 in
theorem range_iterV {α : Type} {P : Program} {g : Operand} {ps : Array Tmp} {assign body : Code} {Q : Exit → Act → World → Prop} {a : Act} {w : World} {gf : Nat} {lb : Array Value}
    (hg : a.eval g = .func (.func gf) #[] lb) (eg : ∀ args w, (callFunc gf args).run P w = .ok (.enter gf args) w)
    {encs : α → Array Value} {n₀ : Nat} {C : Nat → Prop} {S Sp : List α → Prop} {N : Nat} {V : α → (Nat → Prop) → World → Prop} {w0 : World} (hseq : IterV P gf lb encs n₀ C S Sp N V w0) (hV : ∀ x X W W', V x X W → Keep n₀ C X W W' → V x X W')
    (hb0 : Below w0.heap.size w0 w) (hC : ∀ k, C k → k < w.heap.size) (hn₀ : n₀ ≤ w.heap.size) (hps : ∀ x, (encs x).size = ps.size)
    (I : List α → (Nat → Prop) → World → Prop) (Ix : Code → List α → (Nat → Prop) → World → Prop) (hI : Stable w.heap.size I) (hIx : ∀ c, Stable w.heap.size (Ix c)) (h0 : I [] noBlock w)
    (Ax : List α → (Nat → Prop) → α → Act → World → Prop) (hAx : ∀ pre X x a' W W', Ax pre X x a' W → St w.heap.size noBlock W W' → Ax pre X x a' W')
    (hassign : ∀ (l : Nat) (pre : List α) (x : α) (X : Nat → Prop) (W : World) (K : Act → World → Prop), I pre X W → w.heap.size ≤ W.heap.size → (∀ k, X k → w.heap.size ≤ k ∧ k < W.heap.size) → (∀ a' W', Keep n₀ C X W W' → KeepsFrom w.heap.size W W' → I pre X W' → Ax pre X x a' W' → K a' W') →
      assign.wpIn (Fence.wide.inRound l) 1 P (Exit.then K (fun _ _ _ => False)) { tmps := (ps.zip (encs x)).foldl (fun t (p, v) => t.setIfInBounds p v) a.tmps, defers := [] } W)
    (hbody : ∀ (l : Nat) (pre : List α) (x : α) (X : Nat → Prop) (a' : Act) (W : World), I pre X W → Ax pre X x a' W → w.heap.size ≤ W.heap.size → (∀ k, X k → w.heap.size ≤ k ∧ k < W.heap.size) → pre.length < N → V x X W → body.wpIn (Fence.wide.inRound l) 1 P (itPost w.heap.size n₀ C X I Ix (pre ++ [x]) W) a' W)
    (hdone : ∀ (D : Nat) (xs : List α) (X : Nat → Prop) (W : World), w.heap.size ≤ D → S xs → I xs X W → W.heap[D]? = some (.deferred (some [])) → Q .normal { a with defers := { target := .collected D, args := #[] } :: a.defers } W)
    (hstop : ∀ (D : Nat) (c : Code) (pre : List α) (X : Nat → Prop) (W : World), w.heap.size ≤ D → Sp pre → Ix c pre X W → W.heap[D]? = some (.deferred (some [])) → c.wpIn Fence.wide 3 P Q { a with defers := { target := .collected D, args := #[] } :: a.defers } W) :
    (Code.rangeFunc g ps assign body).wpIn Fence.wide 3 P Q a w := by
  refine wpIn_rangeFunc ?_
  intro fn _
  obtain ⟨rec, hrec⟩ : ∃ rec : LoopState → Option Code → Loop, rec = fun st pe => { state := st, pending := pe, fn, tmps := a.tmps, params := ps, assign, body, defers := w.heap.size } := ⟨_, rfl⟩
  obtain ⟨W1, hW1⟩ : ∃ W1, (w.alloc (.deferred (some []))).alloc (.loop (rec .ready none)) = W1 := ⟨_, rfl⟩
  have hs1 : W1.heap.size = w.heap.size + 2 := by rw [← hW1]; simp
  have hL1 : W1.heap[w.heap.size + 1]? = some (.loop (rec .ready none)) := by
    rw [← hW1]; have := World.alloc_heap_new (w.alloc (.deferred (some []))) (.loop (rec .ready none)); rwa [World.size_alloc] at this
  have hK1 : W1.heap[w.heap.size]? = some (.deferred (some [])) := by
    rw [← hW1]; exact (Below.heap_alloc _ _ _ (by simp)).trans (World.alloc_heap_new w _)
  have hI1 : I [] noBlock W1 := by
    rw [← hW1]
    exact hI _ _ _ _ _ (hI _ _ _ _ _ h0 (St.alloc _ _) (Grows.refl _ _)) (St.alloc _ _) (Grows.refl _ _)
  have hb1 : Below w0.heap.size w0 W1 := by
    rw [← hW1]; exact hb0.trans ((((Below.refl _ w).alloc (Nat.le_refl _) _).alloc (by simp) _).mono hb0.size)
  refine ⟨w.heap.size + 1, [{ target := .collected w.heap.size, args := #[] }], W1, { target := .fn (.func gf) lb, args := #[.func (.yield (w.heap.size + 1)) #[] #[]] }, W1, gf,
    #[.func (.yield (w.heap.size + 1)) #[] #[]] ++ lb, W1, ?_, ?_, ?_, ?_, fun _ => by omega, ?_⟩
  · rw [← hW1, hrec]; exact run_enterLoop_outer _ _ _ _ _
  · simp only [resolve, hg]
    simp [go_sem]
  · intro f' _; trivial
  · simp [invoke, go_sem, eg]
  · refine callsIn_wide.2 ((hseq (w.heap.size + 1)
      (fun pre X W => W1.heap.size ≤ W.heap.size ∧ I pre X W ∧ (∀ k, X k → W1.heap.size ≤ k) ∧ W.heap[w.heap.size + 1]? = some (.loop (rec .ready none)) ∧ W.heap[w.heap.size]? = some (.deferred (some [])))
      (fun pre X W => ∃ c, W1.heap.size ≤ W.heap.size ∧ Ix c pre X W ∧ W.heap[w.heap.size + 1]? = some (.loop (rec .done (some c))) ∧ W.heap[w.heap.size]? = some (.deferred (some [])) ∧ (∀ k, X k → W1.heap.size ≤ k))
      W1 hb1 ?_ ?_ ?_ ⟨Nat.le_refl _, hI1, fun _ h => h.elim, hL1, hK1⟩).mono ?_)
    · rintro pre X X' A B ⟨hz, hi, hx, hl, hk⟩ hst hgr
      have hz' := hst.base.size
      refine ⟨by omega, hI _ _ _ _ _ hi (hst.mono (by omega)) hgr, ?_, hst.same _ _ hl (fun h => by have := hx _ h; omega) (.inr (by omega)), hst.same _ _ hk (fun h => by have := hx _ h; omega) (.inr (by omega))⟩
      intro k h
      rcases hgr.2 k h with h | h
      · exact hx k h
      · omega
    · rintro pre X X' A B ⟨c, hz, hi, hl, hk, hx⟩ hst hgr
      have hz' := hst.base.size
      refine ⟨c, by omega, hIx c _ _ _ _ _ hi (hst.mono (by omega)) hgr, hst.same _ _ hl (fun h => by have := hx _ h; omega) (.inr (by omega)), hst.same _ _ hk (fun h => by have := hx _ h; omega) (.inr (by omega)), ?_⟩
      intro k h
      rcases hgr.2 k h with h | h
      · exact hx k h
      · omega
    · rintro pre x X W ⟨hz, hi, hx, hl, hk⟩ hsz hup hlen hvv
      have hy := run_yield (P := P) (args := encs x) hl (by rw [hrec]; exact hps x)
      rw [hrec] at hy
      have hxw : ∀ k, X k → w.heap.size ≤ k ∧ k < W.heap.size := fun k h => ⟨by have := hx k h; omega, hup k h⟩
      have hXl : ¬ X (w.heap.size + 1) := fun h => by have := hx _ h; omega
      have hCl : ¬ C (w.heap.size + 1) := fun h => by have := hC _ h; omega
      refine ⟨fn, _, assign, body, hy, roundIn_of_wpIn trivial (hassign _ pre x X W _ hi (by omega) hxw ?_)⟩
      clear hy
      intro a' Wa hka hfa hia hax
      have hla := hfa.same _ _ (by omega) hl rfl
      have hda := hfa.same _ _ (Nat.le_refl _) hk rfl
      have hlta : w.heap.size + 1 < Wa.heap.size := (Array.getElem?_eq_some_iff.1 hla).1
      refine ⟨_, run_beginRound hla (by rw [hrec]), ?_⟩
      obtain ⟨Wb, hWb⟩ : ∃ Wb, Wb = Wa.putObj (w.heap.size + 1) (.loop { rec .ready none with state := .busy }) := ⟨_, rfl⟩
      rw [← hWb]
      have hlb : Wb.heap[w.heap.size + 1]? = some (.loop { rec .ready none with state := .busy }) := by rw [hWb]; exact World.putObj_heap_same hlta
      have hdb : Wb.heap[w.heap.size]? = some (.deferred (some [])) := by rw [hWb]; exact (World.putObj_heap_other (by omega)).trans hda
      have hkb : Keep n₀ C X W Wb := by rw [hWb]; exact hka.trans (Keep.putObj (by omega) hXl hCl hlta)
      have hfb : KeepsFrom W1.heap.size W Wb := by rw [hWb]; exact (KeepsFrom.up hfa (by omega)).trans (KeepsFrom.put (by omega))
      have hszb : w.heap.size ≤ Wb.heap.size := by rw [hWb]; simp; omega
      have hib : I pre X Wb := by rw [hWb]; exact hI.put _ hia (by omega) hla rfl
      have haxb : Ax pre X x a' Wb := by rw [hWb]; exact hAx _ _ _ _ _ _ hax (St.putObj hla rfl (by omega))
      refine wpIn_mono (hbody _ pre x X a' Wb hib haxb hszb (fun k h => ⟨(hxw k h).1, Nat.lt_of_lt_of_le (hxw k h).2 hkb.below.size⟩) hlen (hV _ _ _ _ hvv hkb)) ?_
      have fin : ∀ (jump : Option Code) (W3 : World), KeepsFrom w.heap.size Wb W3 → Keep n₀ C X Wb W3 →
          (Instr.endRound (w.heap.size + 1) jump).run P W3 = .ok (.bool jump.isNone) (W3.putObj (w.heap.size + 1) (.loop (rec (if jump.isNone then .ready else .done) jump))) ∧
          W3.heap[w.heap.size + 1]? = some (.loop { rec .ready none with state := .busy }) ∧
          (W3.putObj (w.heap.size + 1) (.loop (rec (if jump.isNone then .ready else .done) jump))).heap[w.heap.size + 1]? = some (.loop (rec (if jump.isNone then .ready else .done) jump)) ∧
          (W3.putObj (w.heap.size + 1) (.loop (rec (if jump.isNone then .ready else .done) jump))).heap[w.heap.size]? = some (.deferred (some [])) ∧
          Keep n₀ C X W (W3.putObj (w.heap.size + 1) (.loop (rec (if jump.isNone then .ready else .done) jump))) ∧
          KeepsFrom W1.heap.size W (W3.putObj (w.heap.size + 1) (.loop (rec (if jump.isNone then .ready else .done) jump))) := fun jump W3 hk3 hkk3 => by
        have hl3 := hk3.same _ _ (by omega) hlb rfl
        have hlt3 : w.heap.size + 1 < W3.heap.size := (Array.getElem?_eq_some_iff.1 hl3).1
        have he := run_endRound (P := P) jump hl3
        refine ⟨?_, hl3, World.putObj_heap_same hlt3, (World.putObj_heap_other (by omega)).trans (hk3.same _ _ (Nat.le_refl _) hdb rfl), (hkb.trans hkk3).trans (Keep.putObj (by omega) hXl hCl hlt3), (hfb.trans (KeepsFrom.up hk3 (by omega))).trans (KeepsFrom.put (by omega))⟩
        rw [hrec] at he ⊢
        exact he
      rintro e a3 W3 hp
      cases e with
      | normal =>
        obtain ⟨hk3, hkp3, hi3⟩ := hp
        have hz3 := hkp3.below.size
        have hz2 := hkb.below.size
        obtain ⟨hr, hl3, hl4, hk4, h5, h6⟩ := fin none W3 hk3 hkp3
        exact ⟨_, _, hr, .inl ⟨rfl, by simp; omega, hI.put _ hi3 (by omega) hl3 rfl, hx, hl4, hk4⟩, h5, h6⟩
      | ret =>
        obtain ⟨hk3, hkp3, hi3⟩ := hp
        have hz3 := hkp3.below.size
        have hz2 := hkb.below.size
        obtain ⟨hr, hl3, hl4, hk4, h5, h6⟩ := fin (some .ret) W3 hk3 hkp3
        exact ⟨_, _, hr, .inr ⟨rfl, .ret, by simp; omega, (hIx _).put _ hi3 (by omega) hl3 rfl, hl4, hk4, hx⟩, h5, h6⟩
      | exit id =>
        obtain ⟨hk3, hkp3, hi3⟩ := hp
        have hz3 := hkp3.below.size
        have hz2 := hkb.below.size
        obtain ⟨hr, hl3, hl4, hk4, h5, h6⟩ := fin (some (.exit id)) W3 hk3 hkp3
        exact ⟨_, _, hr, .inr ⟨rfl, .exit id, by simp; omega, (hIx _).put _ hi3 (by omega) hl3 rfl, hl4, hk4, hx⟩, h5, h6⟩
      | goto t =>
        obtain ⟨hk3, hkp3, hi3⟩ := hp
        have hz3 := hkp3.below.size
        have hz2 := hkb.below.size
        obtain ⟨hr, hl3, hl4, hk4, h5, h6⟩ := fin (some (.goto t)) W3 hk3 hkp3
        exact ⟨_, _, hr, .inr ⟨rfl, .goto t, by simp; omega, (hIx _).put _ hi3 (by omega) hl3 rfl, hl4, hk4, hx⟩, h5, h6⟩
      | panic ch => exact hp.elim
      | outgrown => exact hp.elim
    · rintro e W2 ⟨⟨v, rfl⟩, X, (⟨xs, hS, -, hi, hx, hl, hk⟩ | ⟨pre, hSp, c, -, hi, hl, hk, hx⟩)⟩
      · exact ⟨none, _, by have := run_endLoop (P := P) hl (by rw [hrec]; simp); rw [hrec] at this; exact this, hdone _ xs X _ (Nat.le_refl _) hS (hI.put _ hi (by omega) hl rfl) ((World.putObj_heap_other (by omega)).trans hk)⟩
      · exact ⟨some c, _, by have := run_endLoop (P := P) hl (by rw [hrec]; simp); rw [hrec] at this; exact this, hstop _ c pre X _ (Nat.le_refl _) hSp ((hIx c).put _ hi (by omega) hl rfl) ((World.putObj_heap_other (by omega)).trans hk)⟩

section
variable {α γ : Type}
/-- A range over a function whose rounds all come to their end. -/
theorem rangeSV {c : Ctx} {S : Sta} {w : World} {gf : Nat} {lb : Array Value} {encs : α → Array Value} {n₀ : Nat} {C : Nat → Prop} {Sx Sp : List α → Prop} {M : Nat} {V : α → (Nat → Prop) → World → Prop}
    (kn rw : γ → List KB) (rel : List α → γ → Prop) (fr1 : α → Nat → Fr) (nb : α → Nat → List KB) (m : List Bool) (g0 : γ) (np : Nat)
    (hA : AtS c S w (rw g0)) (hro : c.ro = none) (h : (rfV S, pick m S.env.known) = (some (.func (.func gf) #[] lb, np), kn g0)) (eg : ∀ args w, (callFunc gf args).run c.P w = .ok (.enter gf args) w)
    (hseq : IterV c.P gf lb encs n₀ C Sx Sp M V w) (hV : ∀ x X W W', V x X W → Keep n₀ C X W W' → V x X W') (U : α → World → Prop) (hU : ∀ x X W, V x X W → U x W) (hps : ∀ x, (encs x).size = np) (hn₀ : n₀ ≤ c.w0.heap.size) (hC : ∀ k, C k → k < w.heap.size) (hCk : ∀ kb ∈ rw g0 ++ kn g0, ¬ C kb.id) (hcells : ∀ g, ∀ kb ∈ rw g, kb.obj.isCells = true) (hold : ∀ g, ∀ kb ∈ kn g, kb.id < w.heap.size)
    (hnb : ∀ x z, ∀ kb ∈ nb x z, kb.obj.isCells = true ∧ z ≤ kb.id) (hrel0 : rel [] g0)
    (hassign : ∀ (l : Nat) (x : α) (g : γ) (rows : List KB) (W : World) (J : Act → World → Prop), (∀ a' W', Rep c.N (fr1 x W.heap.size) a' → a'.defers = [] → At c.w0 W' (kn g ++ nb x W.heap.size) rows W'.heap.size → W.heap.size ≤ W'.heap.size → J a' W') →
      AtS (c.round l J W.heap.size) ⟨.code (rfA S), [], rfFr c.N S (encs x).toList, ⟨kn g, W.heap.size, [], [], [], [], []⟩⟩ W rows → Run (c.round l J W.heap.size) ⟨.code (rfA S), [], rfFr c.N S (encs x).toList, ⟨kn g, W.heap.size, [], [], [], [], []⟩⟩ W)
    (hbody : ∀ (l : Nat) (pre : List α) (x : α) (g : γ) (z : Nat) (prot : List KB) (W : World) (J : Act → World → Prop), rel pre g → pre.length < M → w.heap.size ≤ W.heap.size → U x W → (∀ g' a' W', rel (pre ++ [x]) g' → Rep c.N [] a' → a'.defers = [] → At c.w0 W' (kn g') (rw g' ++ prot) W'.heap.size → W.heap.size ≤ W'.heap.size → J a' W') →
      AtS (c.round l J W.heap.size) ⟨.code (rfB S), [], fr1 x z, ⟨kn g ++ nb x z, W.heap.size, [], [], [], [], []⟩⟩ W (rw g ++ prot) → Run (c.round l J W.heap.size) ⟨.code (rfB S), [], fr1 x z, ⟨kn g ++ nb x z, W.heap.size, [], [], [], [], []⟩⟩ W)
    (hdone : ∀ (D : Nat) (xs : List α) (g : γ) (W : World), Sx xs → rel xs g → w.heap.size ≤ D → AtS (c.marked D) ⟨.out .normal, S.stk, S.fr, ⟨kn g ++ [⟨D, .deferred (some [])⟩], W.heap.size, [], [], [], [], []⟩⟩ W (rw g) → Run (c.marked D) ⟨.out .normal, S.stk, S.fr, ⟨kn g ++ [⟨D, .deferred (some [])⟩], W.heap.size, [], [], [], [], []⟩⟩ W) : Run c S w := by
  refine ⟨fun a hR hd => ?_⟩
  simp only [Prod.mk.injEq] at h
  obtain ⟨h, hpk⟩ := h
  obtain ⟨ctl, stk, fr, e⟩ := S
  cases ctl with
  | ops _ _ => cases h
  | tail _ _ => cases h
  | draw _ _ _ _ _ _ => cases h
  | pick _ _ _ _ _ _ _ => cases h
  | out _ => cases h
  | code x =>
    cases x with
    | rangeFunc f ps as' bd =>
      have h : cond (knows fr f) (some (rho fr f, ps.size)) none = some (.func (.func gf) #[] lb, np) := h
      cases hkf : knows fr f with
      | false => rw [hkf] at h; cases h
      | true =>
        rw [hkf] at h
        simp only [cond_true, Option.some.injEq, Prod.mk.injEq] at h
        obtain ⟨h1, h2⟩ := h
        have hw0 : c.w0.heap.size ≤ w.heap.size := hA.below.size
        have hA0 := (At.pick hA.at_ m hpk).resize
        show (Code.rangeFunc f ps as' bd).wpIn (fen c.ro) 1 c.P (kQ c stk) a w
        rw [hro]
        refine wpIn_level rfl (n := 3) (range_iterV (α := α) ((hR.eval hkf).trans h1) eg hseq hV (Below.refl _ _) hC (Nat.le_trans hn₀ hw0) (fun x => (hps x).trans h2.symm)
          (fun pre X W => ∃ g, RInv c w C rel kn rw pre X W g) (fun _ _ _ _ => False) (RInv.stable hw0) (fun _ _ _ _ _ _ h _ _ => h) ⟨g0, hrel0, hA0, fun kb hk => ⟨fun hx => hx.elim, hCk kb hk⟩, hcells g0, hold g0, fun _ hx => hx.elim, Nat.le_refl _⟩
          (fun pre X x a' W => ∃ g z, RInv c w C rel kn rw pre X W g ∧ Rep c.N (fr1 x z) a' ∧ a'.defers = [] ∧ At c.w0 W (kn g ++ nb x z) (rw g) W.heap.size ∧ ∀ kb ∈ nb x z, ¬ X kb.id ∧ ¬ C kb.id) ?_ ?_ ?_ ?_ ?_)
        · rintro pre X x a' W W' ⟨g, z, q1, q2, q3, q4, q5⟩ hs
          have hz := hs.base.size
          have hgr : Grows X X W := Grows.refl _ _
          have q4' := at_st (X := noBlock) q4 hw0 hs (fun _ _ h => h) (fun _ h => h.elim) q1.cells (fun kb hk => by
            rcases List.mem_append.1 hk with hk | hk
            · exact .inr (q1.old kb hk)
            · exact .inl (hnb x z kb hk).1)
          exact ⟨g, z, ⟨q1.rel, q4'.sub (List.sublist_append_left _ _), q1.noX, q1.cells, q1.old, q1.xs, Nat.le_trans q1.size hz⟩, q2, q3, q4', q5⟩
        · rintro l pre x X W K ⟨g, hI⟩ hsz hX hK
          have hpr := hI.at_.withProts (w := w) (C := C) (X := X)
          have hrun := hassign l x g _ W K ?_ ⟨hpr, Nat.le_refl _⟩
          · have := hrun.go { tmps := (ps.zip (encs x)).foldl (fun t (p, v) => t.setIfInBounds p v) a.tmps, defers := [] } ?_ rfl
            · exact this
            · have hz := rep_zip (a := a) (N := c.N) (ps.toList.zip (encs x).toList) fr hR
              have e1 : (ps.zip (encs x)).foldl (fun t (p : Nat × Value) => t.setIfInBounds p.1 p.2) a.tmps = (ps.toList.zip (encs x).toList).foldl (fun t (p : Nat × Value) => t.setIfInBounds p.1 p.2) a.tmps := by
                rw [← Array.foldl_toList, Array.toList_zip]
              show Rep c.N _ ⟨(ps.zip (encs x)).foldl (fun t (p : Nat × Value) => t.setIfInBounds p.1 p.2) a.tmps, []⟩
              rw [e1]
              exact hz
          · intro a' W' r1 r2 r3 r4
            have hpro : ∀ k o, W.heap[k]? = some o → c.w0.heap.size ≤ k → k ∉ (rw g ++ kn g).map KB.id → (X k ∨ C k ∨ (w.heap.size ≤ k ∧ o.isCells = false)) → W'.heap[k]? = some o := fun k o ho h0 hni hc =>
              r3.rok ⟨k, o⟩ (List.mem_append_right _ (prots_mem.2 ⟨ho, h0, hni, hc.imp id (fun h => h.imp id fun h => ⟨h.1, o, ho, h.2⟩)⟩))
            have hni : ∀ k, (X k ∨ C k) → k ∉ (rw g ++ kn g).map KB.id := fun k hk hm => by
              obtain ⟨kb, hkb, rfl⟩ := List.mem_map.1 hm
              exact hk.elim (hI.noX kb hkb).1 (hI.noX kb hkb).2
            have hkf : KeepsFrom w.heap.size W W' := keepsFrom_prots hI.at_ hI.cells hI.old hw0 r4 hpro
            have hkeep : Keep n₀ C X W W' := keep_prots hI.at_ r3.below hn₀ r4 hni hpro
            have hA' := r3.dropR
            have hI' : RInv c w C rel kn rw pre X W' g := ⟨hI.rel, hA'.sub (List.sublist_append_left _ _), hI.noX, hI.cells, hI.old, hI.xs, Nat.le_trans hI.size r4⟩
            refine hK a' W' hkeep hkf ⟨g, hI'⟩ ⟨g, W.heap.size, hI', r1, r2, hA', fun kb hkb => ⟨fun hx => ?_, fun hc => ?_⟩⟩
            · have := (hX _ hx).2; have := (hnb x _ kb hkb).2; omega
            · have := hC _ hc; have := (hnb x _ kb hkb).2; omega
        · rintro l pre x X a' W _ ⟨g, z, hI, q2, q3, q4, q5⟩ hsz hX hlen hvv
          have hpr := q4.withProts (w := w) (C := C) (X := X)
          have hcl : ∀ kb ∈ rw g ++ (kn g ++ nb x z), ¬ X kb.id ∧ ¬ C kb.id := fun kb hk => by
            rcases List.mem_append.1 hk with hk | hk
            · exact hI.noX kb (List.mem_append_left _ hk)
            · rcases List.mem_append.1 hk with hk | hk
              · exact hI.noX kb (List.mem_append_right _ hk)
              · exact q5 kb hk
          have hrun := hbody l pre x g z _ W (fun a' W' => itPost w.heap.size n₀ C X (fun pre X W => ∃ g, RInv c w C rel kn rw pre X W g) (fun _ _ _ _ => False) (pre ++ [x]) W .normal a' W') hI.rel hlen hsz (hU _ _ _ hvv) ?_ ⟨hpr, Nat.le_refl _⟩
          · refine wpIn_mono (hrun.go a' q2 q3) fun e b v h => ?_
            cases e with
            | normal => exact h
            | _ => exact h.elim
          · intro g' b W' r0 _ _ r3 r4
            have hpm : ∀ k o, W.heap[k]? = some o → c.w0.heap.size ≤ k → k ∉ (rw g ++ (kn g ++ nb x z)).map KB.id → (X k ∨ C k ∨ (w.heap.size ≤ k ∧ o.isCells = false)) → (⟨k, o⟩ : KB) ∈ prots c.w0 w W C X (rw g ++ (kn g ++ nb x z)) := fun k o ho h0 hni hc =>
              prots_mem.2 ⟨ho, h0, hni, hc.imp id (fun h => h.imp id fun h => ⟨h.1, o, ho, h.2⟩)⟩
            have hpro : ∀ k o, W.heap[k]? = some o → c.w0.heap.size ≤ k → k ∉ (rw g ++ (kn g ++ nb x z)).map KB.id → (X k ∨ C k ∨ (w.heap.size ≤ k ∧ o.isCells = false)) → W'.heap[k]? = some o := fun k o ho h0 hni hc =>
              r3.rok ⟨k, o⟩ (List.mem_append_right _ (hpm k o ho h0 hni hc))
            have hni : ∀ k, (X k ∨ C k) → k ∉ (rw g ++ (kn g ++ nb x z)).map KB.id := fun k hk hm => by
              obtain ⟨kb, hkb, rfl⟩ := List.mem_map.1 hm
              exact hk.elim (hcl kb hkb).1 (hcl kb hkb).2
            have hno : ∀ kb ∈ rw g' ++ kn g', ∀ k, k = kb.id → (X k ∨ C k) → False := fun kb hk k ek hc => by
              have h0 : c.w0.heap.size ≤ k := by
                rw [ek]
                rcases List.mem_append.1 hk with hk | hk
                · exact r3.rlow kb (List.mem_append_left _ hk)
                · exact r3.low kb hk
              have hlt : k < W.heap.size := hc.elim (fun h => (hX k h).2) fun h => Nat.lt_of_lt_of_le (hC k h) hsz
              have hm := hpm k _ (Array.getElem?_eq_getElem hlt) h0 (hni k hc) (hc.imp id .inl)
              have hnd := r3.nd
              rw [List.append_assoc, List.map_append, List.nodup_append, List.map_append, List.nodup_append] at hnd
              rcases List.mem_append.1 hk with hk | hk
              · exact hnd.2.2 _ (List.mem_map_of_mem hk) _ (List.mem_append_left _ (List.mem_map_of_mem hm)) ek.symm
              · exact hnd.2.1.2.2 _ (List.mem_map_of_mem hm) _ (List.mem_map_of_mem hk) ek
            have hkf : KeepsFrom w.heap.size W W' := ⟨r4, fun k o hk ho hc => hpro k o ho (by omega) (fun hm => by
              obtain ⟨kb, hkb, rfl⟩ := List.mem_map.1 hm
              rcases List.mem_append.1 hkb with hkb | hkb
              · have := q4.rok kb hkb
                rw [ho] at this
                cases this
                rw [hI.cells kb hkb] at hc
                cases hc
              · have := q4.ok kb hkb
                rcases List.mem_append.1 hkb with hkb | hkb
                · have := hI.old kb hkb; omega
                · rw [ho] at this
                  cases this
                  rw [(hnb x z kb hkb).1] at hc
                  cases hc) (.inr (.inr ⟨hk, hc⟩))⟩
            have hkeep : Keep n₀ C X W W' := keep_prots q4 r3.below hn₀ r4 hni hpro
            exact ⟨hkf, hkeep, g', r0, r3.dropR, fun kb hk => ⟨fun hx => hno kb hk _ rfl (.inl hx), fun hx => hno kb hk _ rfl (.inr hx)⟩, hcells g', hold g', hI.xs, Nat.le_trans hI.size r4⟩
        · rintro D xs X W hD hS ⟨g, hI⟩ hDo
          have hAD : At c.w0 W (kn g ++ [⟨D, .deferred (some [])⟩]) (rw g) W.heap.size := by
            refine ⟨fun kb hk => ?_, hI.at_.rok, fun kb hk => ?_, hI.at_.rlow, ?_, rfl, hI.at_.below⟩
            · rcases List.mem_append.1 hk with hk | hk
              · exact hI.at_.ok kb hk
              · rw [List.mem_singleton.1 hk]; exact hDo
            · rcases List.mem_append.1 hk with hk | hk
              · exact hI.at_.low kb hk
              · rw [List.mem_singleton.1 hk]; exact Nat.le_trans hw0 hD
            · rw [← List.append_assoc, List.map_append, List.nodup_append]
              refine ⟨hI.at_.nd, by simp, ?_⟩
              intro i hi j hj e
              simp only [List.map_cons, List.map_nil, List.mem_singleton] at hj
              obtain ⟨kb, hkb, rfl⟩ := List.mem_map.1 hi
              rcases List.mem_append.1 hkb with hkb | hkb
              · have h1 := hI.at_.rok kb hkb
                rw [e, hj, hDo] at h1
                have h2 := hI.cells kb hkb
                rw [← Option.some.inj h1] at h2
                cases h2
              · have := hI.old kb hkb
                omega
          have := (hdone D xs g W hS hI.rel hD ⟨hAD, Nat.le_trans hA.lo hI.size⟩).go { a with defers := markOf D :: a.defers } ⟨hR.1, hR.2⟩ (by show markOf D :: a.defers = markOf D :: c.ds; rw [hd])
          have this : kQ (c.marked D) stk .normal { a with defers := markOf D :: a.defers } W := this
          rw [kQ_marked] at this
          exact this
        · rintro D cc pre X W _ _ h
          exact h.elim
    | _ => cases h
end
theorem IterV.later {α : Type} {P : Program} {g : Nat} {lb : Array Value} {encs : α → Array Value} {n₀ : Nat} {C : Nat → Prop} {S Sp : List α → Prop} {N : Nat} {V : α → (Nat → Prop) → World → Prop} {w0 w1 : World} (h : IterV P g lb encs n₀ C S Sp N V w0) (hb : Below w0.heap.size w0 w1) : IterV P g lb encs n₀ C S Sp N V w1 :=
  fun l J Jx W hW => h l J Jx W (hb.trans (hW.mono hb.size))
end Go.Proofs.Ytfidkgpimlpdbaa

/- Symbolic runs: rows that are made, copied to, and appended to from slices of any kind. -/
namespace Go.Proofs.Ytfidkgpimlpdbaa
open Go.RowKit Go.Shelf

/-- Cells that a slice begins with. -/
def ReadsAt (w : World) (A : Option Addr) (cs : List Value) : Prop := cs ≠ [] → ∃ a, A = some a ∧ ∀ j u, cs[j]? = some u → w.cell? (a.add j) = some u
theorem ReadsAt.nil (w : World) (A : Option Addr) : ReadsAt w A [] := fun h => absurd rfl h
section
variable {P : Program}
theorem run_append_empty (w : World) (t ty e : TypeId) (i : TypeInfo) (ht : P.underlying t = some (.slice e)) (hi : P.info? e = some i) (A A' : Option Addr) (n c c' : Nat) (hle : n ≤ c) :
    (Builtin.append_ #[t, t] ty #[.slice A n c, .slice A' 0 c']).run P w = .ok (.slice A n c) w := by
  have hl : ∀ w, (Builtin.lenOf (.slice A' 0 c')).run P w = .ok 0 w := fun w => by simp [Builtin.lenOf]
  have hf : ∀ w, (Builtin.firstCells i.size 0 (.slice A' 0 c')).run P w = .ok #[] w := fun w => by cases A' <;> simp [Builtin.firstCells, loadCells, loadCellsFrom]
  cases A <;> simp [Builtin.append_, run_underlying ht, sizeOf, typeInfo, hi, hle, storeCells, hl, hf]
/-- append to a slice without room, whatever it is. -/
theorem run_append_new (w : World) (t ty e : TypeId) (i : TypeInfo) (z : Value) (size bytes : Nat) (ht : P.underlying t = some (.slice e)) (hi : P.info? e = some i) (hz : i.zero = some z)
    (hsize : i.size = size) (hby : i.bytes = bytes) (hzs : z.cells.size = size) (hsz : 0 < size)
    (A : Option Addr) (n cap : Nat) (olds : List Value) (hlo : olds.length = n * size) (holds : ReadsAt w A olds) (hA : A = none → cap = 0) (hnc : n ≤ cap)
    (A' : Option Addr) (m c : Nat) (news : List Value) (hl : news.length = m * size) (hnews : ReadsAt w A' news) (h1 : ∀ u ∈ news, u.oneCell' = true)
    (hg : cap < n + m) (h63 : n + m ≤ maxLen) (hbytes : (n + m) * bytes ≤ 140737488355328) :
    ∃ v' w', (Builtin.append_ #[t, t] ty #[.slice A n cap, .slice A' m c]).run P w = .ok v' w' ∧ w'.ownsRow w.heap.size e size v' (n + m) (olds ++ news) ∧ w.grownBy w' none := by
  have hm : 0 < m := by omega
  have hnn : news ≠ [] := fun h => by
    rw [h] at hl
    have := Nat.mul_pos hm hsz
    simp at hl
    omega
  obtain ⟨a, rfl, hna⟩ := hnews hnn
  cases A with
  | none =>
    have hc := hA rfl
    have hn : n = 0 := by omega
    subst hn
    subst hc
    have hol : olds = [] := by simpa using hlo
    subst hol
    obtain ⟨v', w', hr, h2, h3, -, -⟩ := run_append_own_at (P := P) w w.heap.size t ty e i z size bytes ht hi hz hsize hby hzs hsz (.slice none 0 0) 0 [] (World.ownsRow_nil _ _ _ _) a m c news hl hna h1 h63 hbytes (Nat.le_refl _)
    exact ⟨v', w', hr, h2, h3⟩
  | some b =>
    refine run_append_arg_grows (P := P) w t ty e i z size bytes ht hi hz hsize hby hzs hsz b n cap olds hlo (fun j u hu => ?_) a m c news hl hna hg h63 hbytes
    obtain ⟨b', e', hb⟩ := holds (fun h => by rw [h] at hu; cases hu)
    cases e'
    exact hb j u hu
theorem run_copy_cells (w : World) (dT sT ty elem : TypeId) (g o dLen dCap : Nat) (A : Option Addr) (sLen sCap : Nat) (cur : Array Value) (t : TypeId) (cs : List Value) (i : TypeInfo)
    (hu : P.underlying dT = some (.slice elem)) (hq : P.info? elem = some i)
    (hg : w.heap[g]? = some (.cells cur t (0, 0))) (hn : cs.length = Nat.min sLen dLen * i.size) (hA : cs = [] → Nat.min sLen dLen = 0)
    (hsrc : ReadsAt w A cs) (hfit : o + cs.length ≤ cur.size) (h1 : ∀ v ∈ cs, v.oneCell' = true) :
    (Builtin.copy_ #[dT, sT] ty #[.slice (some ⟨g, o, none⟩) dLen dCap, .slice A sLen sCap]).run P w =
      .ok (goInt (Nat.min sLen dLen)) (w.setRow g (cur.toList.take o ++ cs ++ cur.toList.drop (o + cs.length)).toArray) := by
  have hst := run_storeCells_at P g o t cs 0 cur w hg (by simpa using hfit) h1
  by_cases hcs : cs = []
  · have h0 := hA hcs
    subst hcs
    have hf : ∀ w, (Builtin.firstCells i.size 0 (.slice A sLen sCap)).run P w = .ok #[] w := fun w => by cases A <;> simp [Builtin.firstCells, loadCells, loadCellsFrom]
    simp [Builtin.copy_, run_underlying hu, Builtin.lenOf, sizeOf, typeInfo, hq, h0, hf]
    simp only [Nat.add_zero, List.append_nil, List.length_nil, List.take_append_drop, Array.toArray_toList] at hst
    simp [hst]
  · obtain ⟨a, rfl, hs⟩ := hsrc hcs
    have hl := run_loadCells_list (P := P) w a cs hs
    simp [Builtin.copy_, run_underlying hu, Builtin.lenOf, Builtin.firstCells, sizeOf, typeInfo, hq, ← hn, hl, hst]
end
/-! ### as steps -/
noncomputable def mkSem (t : TypeId) (x y : Value) : Sem Next := (Instr.makeSlice t x y).bind fun v => .pure (.value v)
noncomputable def cpySem (t t' ty : TypeId) (x y : Value) : Sem Next := (Builtin.copy_ #[t, t'] ty #[x, y]).bind fun v => .pure (.value v)
/-- A row of n zero values is made: a known block. -/
theorem mkS {c : Ctx} {S : Sta} {w : World} {rows : List KB} {t e : TypeId} {z : Value} {size bytes n : Nat} {l : Int} {kl kc : IntKind} (hA : AtS c S w rows) (hl : l = (n : Int))
    (h : (holdL S (S.env.known ++ [⟨w.heap.size, .cells (madeCells z.cells (n * size)) e (0, 0)⟩]), semOf c.P c.N S [], infoOf c.P t) = (holdR S, some (mkSem t (.int kl l) (.int kc l), []), some (e, z, size, bytes)))
    (hmax : n ≤ 1000000000) (hb : bytes ≤ 140000)
    (k : ∀ w', w'.heap.size = w.heap.size + 1 → Below w.heap.size w w' → AtS c (knS (valS c.N S (.slice (some ⟨w.heap.size, 0, none⟩) n n) w'.heap.size) (S.env.known ++ [⟨w.heap.size, .cells (madeCells z.cells (n * size)) e (0, 0)⟩])) w' rows →
      Run c (knS (valS c.N S (.slice (some ⟨w.heap.size, 0, none⟩) n n) w'.heap.size) (S.env.known ++ [⟨w.heap.size, .cells (madeCells z.cells (n * size)) e (0, 0)⟩])) w') : Run c S w := by
  subst hl
  simp only [Prod.mk.injEq] at h
  obtain ⟨h0, hsem, hinf⟩ := h
  obtain ⟨i, ht, hi, hz, hsize, hby, hzs, hsz⟩ := infoOf_spec hinf
  have hr := run_make (P := c.P) w t e i z ht hi hz kl kc (n : Int) (n : Int) (by omega) (Int.le_refl _) (by
    rw [hby]
    have : bytes * n ≤ 140000 * 1000000000 := Nat.mul_le_mul hb hmax
    have h2 : ((bytes * n : Nat) : Int) ≤ 281474976710656 := by omega
    rwa [Int.natCast_mul] at h2) (by omega)
  rw [Int.toNat_natCast, hsize] at hr
  have hA' := hA.at_.resize.new (.cells (madeCells z.cells (n * size)) e (0, 0))
  have hz1 : (w.alloc (.cells (madeCells z.cells (n * size)) e)).heap.size = w.heap.size + 1 := by simp
  rw [← hz1] at hA'
  have hb' : Below w.heap.size w (w.alloc (.cells (madeCells z.cells (n * size)) e)) := (Below.refl _ _).alloc (Nat.le_refl _) _
  refine opwD [] on (s := mkSem t (.int kl n) (.int kc n)) (by rw [h0, hsem]) (nx := .value (.slice (some ⟨w.heap.size, 0, none⟩) n n)) ?_ (.inl rfl) hA' (Nat.le_trans hA.lo hb'.size) (k _ hz1 hb')
  unfold mkSem
  rw [Sem.run_bind', hr]
  rfl
theorem At.setR {w0 w : World} {kn rows : List KB} {sz g j : Nat} {cur : Array Value} {T : TypeId} (h : At w0 w kn rows sz) (hj : kn[j]? = some ⟨g, .cells cur T (0, 0)⟩) (cs : Array Value) :
    At w0 (w.setRow g cs) (kn.set j ⟨g, .cells cs T (0, 0)⟩) rows sz := by
  have hg := h.ok _ (List.mem_of_getElem? hj)
  exact h.turn (kb := ⟨g, .cells cur T (0, 0)⟩) hj (.cells cs T (0, 0)) (by simp [World.setRow]) (setRow_heap w g cur cs T (0, 0) hg) (fun k hk => setRow_other w g k cs hk) rfl rfl rfl
/-- copy to a known block, from a slice that is read. -/
theorem cpyS {c : Ctx} {S : Sta} {w : World} {rows kn' : List KB} {t t' ty e : TypeId} {z : Value} {size bytes g o dLen dCap sLen sCap j : Nat} {A : Option Addr} {cur : Array Value} {T : TypeId} (cs : List Value) (hA : AtS c S w rows)
    (h : (noDraw S, semOf c.P c.N S [], infoOf c.P t) = (true, some (cpySem t t' ty (.slice (some ⟨g, o, none⟩) dLen dCap) (.slice A sLen sCap), []), some (e, z, size, bytes)))
    (hj : (nth S.env.known j, S.env.known.set j ⟨g, .cells (cur.toList.take o ++ cs ++ cur.toList.drop (o + cs.length)).toArray T (0, 0)⟩) = (some ⟨g, .cells cur T (0, 0)⟩, kn')) (hn : cs.length = Nat.min sLen dLen * size) (hsrc : ReadsAt w A cs) (hfit : o + cs.length ≤ cur.size) (h1 : (cs.all fun u => oneCell u) = true)
    (k : ∀ w', w'.heap.size = w.heap.size → AtS c (knS (valS c.N S (goInt (Nat.min sLen dLen)) w'.heap.size) kn') w' rows →
      Run c (knS (valS c.N S (goInt (Nat.min sLen dLen)) w'.heap.size) kn') w') : Run c S w := by
  simp only [Prod.mk.injEq] at h hj
  obtain ⟨h0, hsem, hinf⟩ := h
  obtain ⟨hj, rfl⟩ := hj
  obtain ⟨i, ht, hi, hz, hsize, hby, hzs, hsz⟩ := infoOf_spec hinf
  rw [nth_eq] at hj
  have hr := run_copy_cells (P := c.P) w t t' ty e g o dLen dCap A sLen sCap cur T cs i ht hi (hA.at_.ok _ (List.mem_of_getElem? hj)) (by rw [hsize]; exact hn) (fun h => by
    rw [h] at hn
    rcases Nat.eq_zero_or_pos (Nat.min sLen dLen) with h' | h'
    · exact h'
    · have := Nat.mul_pos h' hsz
      simp at hn
      omega) hsrc hfit (ones_of h1)
  have hA' := At.setR hA.at_ hj (cur.toList.take o ++ cs ++ cur.toList.drop (o + cs.length)).toArray
  have hz1 : (w.setRow g (cur.toList.take o ++ cs ++ cur.toList.drop (o + cs.length)).toArray).heap.size = w.heap.size := by simp [World.setRow]
  refine opw [] on (s := cpySem t t' ty (.slice (some ⟨g, o, none⟩) dLen dCap) (.slice A sLen sCap)) (by rw [h0, hsem]) (nx := .value (goInt (Nat.min sLen dLen))) ?_ (.inl rfl) hA'.resize (by rw [hz1]; exact hA.lo) (k _ hz1)
  unfold cpySem
  rw [Sem.run_bind', hr]
  rfl
/-- append to a slice without room, whatever it is: a new row. -/
theorem appN {c : Ctx} {S : Sta} {w : World} {rows : List KB} {t e ty : TypeId} {z : Value} {size bytes n cap m cp : Nat} {A A' : Option Addr} (olds news : List Value) (hA : AtS c S w rows)
    (h : (noDraw S, appOf c.P c.N S, semOf c.P c.N S [], infoOf c.P t) = (true, some (t, .slice A n cap, .slice A' m cp, ty), some (appSem t ty (.slice A n cap) (.slice A' m cp), []), some (e, z, size, bytes)))
    (hlo : olds.length = n * size) (holds : ReadsAt w A olds) (hc : A = none → cap = 0) (hnc : n ≤ cap) (hl : news.length = m * size) (hnews : ReadsAt w A' news) (h1 : (news.all fun u => oneCell u) = true) (hg : cap < n + m) (hmax : n + m ≤ 1000000000) (hb : bytes ≤ 140000)
    (k : ∀ v' w' ob', RowV e size v' (n + m) (olds ++ news) ob' → (∀ g, v'.ownBlock = some g → w.heap.size ≤ g) → Below w.heap.size w w' → AtS c (knS (valS c.N S v' w'.heap.size) S.env.known) w' (ob' ++ rows) → Run c (knS (valS c.N S v' w'.heap.size) S.env.known) w') : Run c S w := by
  simp only [Prod.mk.injEq] at h
  obtain ⟨h0, -, hsem, hinf⟩ := h
  obtain ⟨i, ht, hi, hz, hsize, hby, hzs, hsz⟩ := infoOf_spec hinf
  obtain ⟨v', w', hrun, hown, hgr⟩ := run_append_new (P := c.P) w t ty e i z size bytes ht hi hz hsize hby hzs hsz A n cap olds hlo holds hc hnc A' m cp news hl hnews (ones_of h1) hg (by simp only [maxLen]; omega) (by
      have : (n + m) * bytes ≤ 1000000000 * 140000 := Nat.mul_le_mul hmax hb
      omega)
  have hge : ∀ g, v'.ownBlock = some g → w.heap.size ≤ g := fun g e => by
    rcases hown.2 with ⟨h1, -⟩ | ⟨g', cap', cur, h1, h2, -⟩
    · rw [h1] at e; cases e
    · rw [h1] at e
      have : g' = g := by simpa [Value.ownBlock] using e
      omega
  have hown' : w'.ownsRow c.w0.heap.size e size v' (n + m) (olds ++ news) := by
    refine ⟨hown.1, ?_⟩
    rcases hown.2 with h1 | ⟨g', cap', cur, h1, h2, h3⟩
    · exact .inl h1
    · exact .inr ⟨g', cap', cur, h1, Nat.le_trans hA.below.size h2, h3⟩
  obtain ⟨ob', hr', hA'⟩ := At.row (ob := []) hA.at_ (RowV.nil e size) hown' hgr (.inr hge)
  refine opw [] on (s := appSem t ty (.slice A n cap) (.slice A' m cp)) (by rw [h0, hsem]) (nx := .value v') ?_ (.inl rfl) hA' (Nat.le_trans hA.lo hgr.size) (k v' w' ob' hr' hge ((Below.refl _ _).grown hgr (Nat.le_refl _) (fun _ e => by cases e)))
  unfold appSem
  rw [Sem.run_bind', hrun]
  rfl
/-- append to a row of the call's own, from a slice that is read, which may be empty. -/
theorem appE {c : Ctx} {S : Sta} {w : World} {ob rest : List KB} {t e ty : TypeId} {z v : Value} {size bytes n m cp : Nat} {A : Option Addr} {vs : List Value} (news : List Value) (hA : AtS c S w (ob ++ rest)) (hr : RowV e size v n vs ob)
    (h : (noDraw S, appOf c.P c.N S, semOf c.P c.N S [], infoOf c.P t) = (true, some (t, v, .slice A m cp, ty), some (appSem t ty v (.slice A m cp), []), some (e, z, size, bytes)))
    (hl : news.length = m * size) (hnews : ReadsAt w A news) (h1 : (news.all fun u => oneCell u) = true) (hmax : n + m ≤ 1000000000) (hb : bytes ≤ 140000)
    (k : ∀ v' w' ob', RowV e size v' (n + m) (vs ++ news) ob' → (v' = .slice none 0 0 ↔ v = .slice none 0 0 ∧ m = 0) → (v'.ownBlock = v.ownBlock ∨ v'.ownBlock = some w.heap.size) → w.heap.size ≤ w'.heap.size → AtS c (knS (valS c.N S v' w'.heap.size) S.env.known) w' (ob' ++ rest) → Run c (knS (valS c.N S v' w'.heap.size) S.env.known) w') : Run c S w := by
  by_cases hm : m = 0
  · subst hm
    have hn0 : news = [] := by simpa using hl
    subst hn0
    simp only [Prod.mk.injEq] at h
    obtain ⟨h0, -, hsem, hinf⟩ := h
    obtain ⟨i, ht, hi, hz, hsize, hby, hzs, hsz⟩ := infoOf_spec hinf
    have hrun : (appSem t ty v (.slice A 0 cp)).run c.P w = .ok (.value v) w := by
      unfold appSem
      rw [Sem.run_bind']
      rcases hr.2 with ⟨rfl, rfl, -⟩ | ⟨g, cap, cur, rfl, -, hc, -⟩
      · rw [run_append_empty w t ty e i ht hi none A 0 0 cp (Nat.le_refl _)]; rfl
      · rw [run_append_empty w t ty e i ht hi _ A n cap cp hc]; rfl
    exact opw [] on (s := appSem t ty v (.slice A 0 cp)) (by rw [h0, hsem]) (nx := .value v) hrun (.inl rfl) hA.at_.resize hA.lo (k v w ob (by rw [List.append_nil]; exact hr) ⟨fun h => ⟨h, rfl⟩, fun h => h.1⟩ (.inl rfl) (Nat.le_refl _))
  · have hnn : news ≠ [] := fun h' => by
      obtain ⟨i, ht, hi, hz, hsize, hby, hzs, hsz⟩ := infoOf_spec (Prod.mk.inj (Prod.mk.inj (Prod.mk.inj h).2).2).2
      rw [h'] at hl
      have := Nat.mul_pos (Nat.pos_of_ne_zero hm) hsz
      simp at hl
      omega
    obtain ⟨a, rfl, hs⟩ := hnews hnn
    exact appG news hA hr h hl hs h1 hmax hb k
/-! ### scopes to whose labels nobody goes -/
def NoG (c : Ctx) : Prop := ∀ l a w, ¬ c.Q (.goto l) a w
theorem NoG.stk {c : Ctx} (h : NoG c) : ∀ (s : List KI) l a w, ¬ kQ c s (.goto l) a w
  | [], l, a, w, hq => h l a w hq
  | .seq _ :: s, l, a, w, hq => NoG.stk h s l a w hq
  | .blk _ :: s, l, a, w, hq => NoG.stk h s l a w hq
theorem NoG.inner {c : Ctx} (h : NoG c) (s : List KI) (J : Act → World → Prop) : NoG (c.inner s J) := fun l a w hq => h.stk s l a w hq
theorem NoG.reb {c : Ctx} (h : NoG c) (w0 : World) : NoG (c.reb w0) := h
theorem NoG.fctx (P : Program) (N : Nat) (fn : Func) (R : Ending → World → Prop) (w0 : World) : NoG (fctx P N fn R w0) := fun _ _ _ hq => hq
noncomputable def scB (S : Sta) : Code := match S.ctl with | .code (.scope x) => x | _ => .skip
noncomputable def scI (S : Sta) : Bool := match S.ctl with | .code (.scope _) => true | _ => false
theorem scopeS {c : Ctx} {S : Sta} {w : World} {rows : List KB} (hA : AtS c S w rows) (hro : c.ro = none) (hg : NoG c) (h : scI S = true)
    (k : AtS c ⟨.code (scB S), S.stk, S.fr, S.env⟩ w rows → Run c ⟨.code (scB S), S.stk, S.fr, S.env⟩ w) : Run c S w := by
  refine ⟨fun a hR hd => ?_⟩
  obtain ⟨ctl, s, fr, e⟩ := S
  unfold scI at h
  split at h
  · rename_i x hctl
    simp only at hctl
    subst hctl
    have hk := (k ⟨hA.at_, hA.lo⟩).go a hR hd
    show (Code.scope x).wpIn (fen c.ro) 1 c.P (kQ c s) a w
    have hk : x.wpIn (fen c.ro) 1 c.P (kQ c s) a w := hk
    rw [hro] at hk ⊢
    refine wpIn_scope_wide (wpIn_mono hk fun e a' w' hq => ?_)
    cases e with
    | goto l => exact (hg.stk s l a' w' hq).elim
    | _ => exact hq
  · cases h
/-! ### read from what lies below one's own blocks -/
theorem rebaseC {c : Ctx} {S : Sta} {w : World} {rows : List KB} (hA : AtS c S w rows) (g : Nat) (kn : List KB) (he : S.env.known = kn) (_ : c.w0.heap.size ≤ g) (hg : g ≤ w.heap.size) (hkn : ∀ kb ∈ kn, g ≤ kb.id) (hnd : noDraw S = true)
    (k : AtS (c.reb (cutW w g)) ⟨S.ctl, S.stk, S.fr, ⟨kn, w.heap.size, [], [], [], [], []⟩⟩ w (others (cutW w g) w kn) → Run (c.reb (cutW w g)) ⟨S.ctl, S.stk, S.fr, ⟨kn, w.heap.size, [], [], [], [], []⟩⟩ w) : Run c S w := by
  subst he
  have hz : (cutW w g).heap.size = g := cut_size hg
  have h0 : At (cutW w g) w S.env.known [] w.heap.size := ⟨hA.at_.ok, by simp, fun kb hk => by rw [hz]; exact hkn kb hk, by simp, by have := hA.at_.nd; rw [List.map_append, List.nodup_append] at this; exact this.2.1, rfl, cut_below hg (Below.refl _ _)⟩
  exact rebase hA (cutW w g) hnd h0.others k
theorem backC {c : Ctx} {S : Sta} {w w1 : World} {g : Nat} {rows : List KB} (hA : AtS (c.reb (cutW w1 g)) S w rows) (kn : List KB) (he : S.env.known = kn) (hb : Below c.w0.heap.size c.w0 w1) (hg0 : c.w0.heap.size ≤ g) (hg : g ≤ w1.heap.size) (hnd : noDraw S = true)
    (k : AtS c ⟨S.ctl, S.stk, S.fr, ⟨kn, w.heap.size, [], [], [], [], []⟩⟩ w [] → Run c ⟨S.ctl, S.stk, S.fr, ⟨kn, w.heap.size, [], [], [], [], []⟩⟩ w) : Run (c.reb (cutW w1 g)) S w := by
  subst he
  have hz : (cutW w1 g).heap.size = g := cut_size hg
  have hA' : At (cutW w1 g) w S.env.known rows S.env.sz := hA.at_
  have hbb : Below c.w0.heap.size c.w0 w := by
    have h2 := hA'.below
    rw [hz] at h2
    refine ⟨h2.os.trans hb.os, h2.tape.trans hb.tape, h2.output.trans hb.output, Nat.le_trans hg0 (Nat.le_trans (by have := h2.size; rw [hz] at this; exact this) (Nat.le_refl _)), fun k hk => ?_⟩
    rw [h2.block k (by omega), cut_block (by omega), hb.block k hk]
  exact back hA hnd ⟨hA'.ok, by simp, fun kb hk => by have := hA'.low kb hk; rw [hz] at this; omega, by simp, by have := hA'.nd; rw [List.map_append, List.nodup_append] at this; exact this.2.1, rfl, hbb⟩ k
/-- Only known blocks have turned. -/
theorem st_others {w0 w w' : World} {kn kn' r r' : List KB} {sz sz' B : Nat} {X : Nat → Prop} (hA : At w0 w kn r sz) (hA' : At w0 w' kn' r' sz') (hr : r' = others w0 w kn) (hz : w.heap.size ≤ w'.heap.size) (hX : ∀ kb ∈ kn, X kb.id) : St B X w w' := by
  subst hr
  refine ⟨⟨hA'.below.os.trans hA.below.os.symm, hA'.below.tape.trans hA.below.tape.symm, hA'.below.output.trans hA.below.output.symm, hz, fun k hk => absurd hk (Nat.not_lt_zero _)⟩, fun k o ho hx _ => ?_⟩
  refine others_block hA hA' ho fun hm => ?_
  obtain ⟨kb, hkb, rfl⟩ := List.mem_map.1 hm
  exact hx (hX kb hkb)
end Go.Proofs.Ytfidkgpimlpdbaa

/- Symbolic runs: loads by a fact; appends that remember the old row. -/
namespace Go.Proofs.Ytfidkgpimlpdbaa
open Go.RowKit Go.Shelf

noncomputable def ldSem (t : TypeId) (x : Value) : Sem Next := (Instr.loadAt t x).bind fun v => .pure (.value v)
theorem cell_lt {w : World} {p : Addr} {v : Value} (h : w.cell? p = some v) : p.block < w.heap.size ∧ w.cell? p = some v := by
  refine ⟨?_, h⟩
  rcases Nat.lt_or_ge p.block w.heap.size with h' | h'
  · exact h'
  · unfold World.cell? at h
    rw [Array.getElem?_eq_none h'] at h
    cases h
theorem ld_run {P : Program} {w : World} {s : Sem Next} {v : Value} (hs : List Hint) {ext : List (Addr × Value)} (he : ExtL w ext) (h : sy P true s ⟨[], w.heap.size, hs, [], [], [], []⟩ = some (.value v, ⟨[], w.heap.size, [], [], ext, [], []⟩)) : s.run P w = .ok (.value v) w := by
  obtain ⟨-, -, hr⟩ := sy_read (w0 := w) s _ _ _ h ⟨by simp, fun p hp => he.mem p hp, by simp, by simp⟩
  exact hr w ⟨by simp, Below.refl _ _⟩
theorem AtS.perm {c : Ctx} {S : Sta} {w : World} {rows rows' : List KB} (h : AtS c S w rows) (hp : rows.Perm rows') : AtS c S w rows' :=
  ⟨⟨h.at_.ok, fun kb hk => h.at_.rok kb (hp.mem_iff.2 hk), h.at_.low, fun kb hk => h.at_.rlow kb (hp.mem_iff.2 hk), ((hp.append_right _).map KB.id).nodup_iff.1 h.at_.nd, h.at_.size, h.at_.below⟩, h.lo⟩
theorem AtS.cast {c : Ctx} {S : Sta} {w : World} {rows rows' : List KB} (h : AtS c S w rows) (e : rows = rows') : AtS c S w rows' := e ▸ h
theorem At.lower {w0 w : World} {kn rows : List KB} {kb : KB} {sz : Nat} (h : At w0 w (kn ++ [kb]) rows sz) : At w0 w kn (kb :: rows) sz := by
  refine ⟨fun x hx => h.ok x (List.mem_append_left _ hx), fun x hx => ?_, fun x hx => h.low x (List.mem_append_left _ hx), fun x hx => ?_, ?_, h.size, h.below⟩
  · rcases List.mem_cons.1 hx with rfl | hx
    · exact h.ok x (List.mem_append_right _ List.mem_cons_self)
    · exact h.rok x hx
  · rcases List.mem_cons.1 hx with rfl | hx
    · exact h.low x (List.mem_append_right _ List.mem_cons_self)
    · exact h.rlow x hx
  · have hp : (rows ++ (kn ++ [kb])).Perm ((kb :: rows) ++ kn) := by
      have h1 : (kn ++ [kb]).Perm (kb :: kn) := List.perm_append_comm (l₁ := kn) (l₂ := [kb])
      exact (h1.append_left rows).trans List.perm_middle
    exact (hp.map KB.id).nodup_iff.1 h.nd
/-- append to a row of the call's own; the old block is remembered. -/
theorem appK {c : Ctx} {S : Sta} {w : World} {ob rest : List KB} {t e ty : TypeId} {z v : Value} {size bytes n m cp : Nat} {a : Addr} {vs : List Value} (news : List Value) (hA : AtS c S w (ob ++ rest)) (hr : RowV e size v n vs ob)
    (h : (noDraw S, appOf c.P c.N S, semOf c.P c.N S [], infoOf c.P t) = (true, some (t, v, .slice (some a) m cp, ty), some (appSem t ty v (.slice (some a) m cp), []), some (e, z, size, bytes)))
    (hl : news.length = m * size) (hnews : ∀ j u, news[j]? = some u → w.cell? (a.add j) = some u) (h1 : (news.all fun u => oneCell u) = true) (hmax : n + m ≤ 1000000000) (hb : bytes ≤ 140000)
    (k : ∀ v' w' ob' old, RowV e size v' (n + m) (vs ++ news) ob' → (v' = .slice none 0 0 ↔ v = .slice none 0 0 ∧ m = 0) → ((old = [] ∧ v'.ownBlock = v.ownBlock) ∨ old = ob) → w.heap.size ≤ w'.heap.size → AtS c (knS (valS c.N S v' w'.heap.size) S.env.known) w' (ob' ++ (old ++ rest)) → Run c (knS (valS c.N S v' w'.heap.size) S.env.known) w') : Run c S w := by
  have h9 := h
  simp only [Prod.mk.injEq] at h
  obtain ⟨h0, -, hsem, hinf⟩ := h
  obtain ⟨i, ht, hi, hz, hsize, hby, hzs, hsz⟩ := infoOf_spec hinf
  rcases hr.2 with ⟨hv0, hn0, hob⟩ | ⟨g, cap, cur, hv, hob, hnc, hcm, hcs, htk⟩
  · subst hob
    exact appG news hA hr h9 hl hnews h1 hmax hb fun v' w' ob' h1 h2 h3 h4 h5 => k v' w' ob' [] h1 h2 (.inr rfl) h4 (by rw [List.nil_append]; exact h5)
  · subst hv
    subst hob
    have hg := hA.at_.rok ⟨g, .cells cur e (0, 0)⟩ (by simp)
    have hbytes : (n + m) * bytes ≤ 140737488355328 := by
      have : (n + m) * bytes ≤ 1000000000 * 140000 := Nat.mul_le_mul hmax hb
      omega
    by_cases hroom : n + m ≤ cap
    · obtain ⟨v', w', hrun, hown, hgr, hnil, -⟩ := run_append_own_at (P := c.P) w c.w0.heap.size t ty e i z size bytes ht hi hz hsize hby hzs hsz _ n vs (hr.own hA.at_) a m cp news hl hnews (ones_of h1) (by simp only [maxLen]; omega) hbytes hA.below.size
      have hfit : n * size + m * size ≤ cur.size := by rw [hcs, ← Nat.add_mul]; exact Nat.mul_le_mul_right _ hroom
      have hrun2 := run_append_room_cells (P := c.P) w t ty e i ht hi g 0 n cap a m cp news (by rw [hsize]; exact hl) hnews (ones_of h1) hroom (fun j hj => by
        have : 0 + n * i.size + j < cur.size := by rw [hsize]; omega
        rw [cell_of_obj (a := ⟨g, 0 + n * i.size + j, none⟩) (v := cur[0 + n * i.size + j]) hg rfl (Array.getElem?_eq_getElem this)]
        rfl) (fun j hj => by
        have hg' : w.heap[g]? = some (.cells cur e (0, 0)) := hg
        unfold World.frozen?
        rw [hg']
        simp)
      have hat : v'.ownBlock = some g := by
        rw [hrun] at hrun2
        cases hrun2
        rfl
      obtain ⟨ob', hr', hA'⟩ := At.row hA.at_ hr hown hgr (.inl (by rw [hat]; rfl))
      refine opw [] on (s := appSem t ty _ (.slice (some a) m cp)) (by rw [h0, hsem]) (nx := .value v') ?_ (.inl rfl) hA' (Nat.le_trans hA.lo hgr.size) (k v' w' ob' [] hr' hnil (.inl ⟨rfl, by rw [hat]; rfl⟩) hgr.size)
      unfold appSem
      rw [Sem.run_bind', hrun]
      rfl
    · refine appF vs news hA h9 hr.1 (fun j u hu => ?_) hl hnews (by omega) hmax hb fun v' w' ob' h1 h2 h3 h4 => k v' w' ob' _ h1 ⟨fun h => ?_, fun h => by cases h.1⟩ (.inr rfl) h3.size h4
      · rw [add_place]
        refine cell_of_obj hg rfl ?_
        show cur[0 + j]? = some u
        rw [Nat.zero_add]
        have hj : j < n * size := by rw [← hr.1]; exact (List.getElem?_eq_some_iff.1 hu).1
        rw [← htk, List.getElem?_take_of_lt hj] at hu
        simpa using hu
      · subst h
        rcases h1.2 with ⟨-, h6, -⟩ | ⟨_, _, _, h6, -⟩
        · omega
        · cases h6
end Go.Proofs.Ytfidkgpimlpdbaa

/- Symbolic runs: regions that draw, whatever comes first; the ways meet again. -/
namespace Go.Proofs.Ytfidkgpimlpdbaa
open Go.RowKit Go.Shelf

noncomputable def manyB (S : Sta) : Option (List Nat) := match S.ctl with
  | .draw all listed (_ + 1) _ _ _ => cond ((Region.ready .any all listed).all fun i => (all[i]?).isSome) (some (Region.ready .any all listed)) none
  | _ => none
def AllK (p : Nat → Prop) : List Nat → Prop
  | [] => True
  | i :: is => p i ∧ AllK p is
theorem AllK.mem {p : Nat → Prop} : ∀ {is : List Nat}, AllK p is → ∀ i ∈ is, p i
  | _ :: _, h, i, hi => by
    rcases List.mem_cons.1 hi with rfl | hi
    · exact h.1
    · exact AllK.mem h.2 i hi
/-- Any of these operations may come up. -/
theorem manyS {c : Ctx} {S : Sta} {w : World} {rows : List KB} (hA : AtS c S w rows) (i0 : Nat) (is : List Nat) (h : manyB S = some (i0 :: is)) (k : AllK (fun i => AtS c (pickS S i) w rows → Run c (pickS S i) w) (i0 :: is)) : Run c S w := by
  refine ⟨fun a hR hd => ?_⟩
  obtain ⟨ctl, s, fr, e⟩ := S
  unfold manyB at h
  split at h
  · rename_i all listed f kn0 m nd hctl
    simp only at hctl
    subst hctl
    cases hc : ((Region.ready .any all listed).all fun i => (all[i]?).isSome) with
    | false => rw [hc] at h; cases h
    | true =>
      rw [hc] at h
      simp only [cond_true, Option.some.injEq] at h
      intro hH
      refine ⟨fun h0 => (by rw [h] at h0; cases h0), fun j hj => ?_⟩
      have hs := List.all_eq_true.1 hc j hj
      obtain ⟨oj, hoj⟩ := Option.isSome_iff_exists.1 hs
      rw [h] at hj
      have g := (k.mem j hj ⟨hA.at_, hA.lo⟩).go a hR hd
      exact wpOpIn_step hoj (fun K' hK' => g hH oj hoj K' hK')
  · cases h
/-- The state in which these operations are done. -/
noncomputable def jctl (S : Sta) (D : List Nat) : Ctl := match S.ctl with
  | .draw all listed f kn0 m nd => .draw all (D.foldl (fun l i => l.setIfInBounds i true) listed) (f - D.length) kn0 m nd
  | x => x
noncomputable def jst (S : Sta) (D : List Nat) (fr : Fr) (kn : List KB) (z : Nat) : Sta := ⟨jctl S D, S.stk, fr, ⟨kn, z, [], [], [], [], []⟩⟩
def Goes (c : Ctx) (S : Sta) {γ : Type} (D : List Nat) (fr : γ → Fr) (kn rw : γ → List KB) (rel : γ → World → Prop) : Prop :=
  ∀ g w', rel g w' → AtS c (jst S D (fr g) (kn g) w'.heap.size) w' (rw g) → Run c (jst S D (fr g) (kn g) w'.heap.size) w'
theorem latS {c : Ctx} {S : Sta} {w : World} {rows : List KB} (_ : AtS c S w rows) {γ : Type} (D : List Nat) (fr : γ → Fr) (kn rw : γ → List KB) (rel : γ → World → Prop) (H : Goes c S D fr kn rw rel) (k : Goes c S D fr kn rw rel → Run c S w) : Run c S w := k H
theorem latK {c : Ctx} {S : Sta} {w : World} {rows : List KB} (_ : AtS c S w rows) {γ : Type} (D : List Nat) (fr : γ → Fr) (kn rw : γ → List KB) (rel : γ → World → Prop) (k : Goes c S D fr kn rw rel → Run c S w) (H : Goes c S D fr kn rw rel) : Run c S w := k H
theorem nth_lt {α : Type} {l : List α} {i : Nat} {x : α} (h : nth l i = some x) : l[i]? = some x := by rw [← nth_eq]; exact h
theorem At.sel {w0 w : World} {kn kn' rows : List KB} {sz : Nat} (h : At w0 w kn rows sz) (idx : List Nat) (e : idx.map (nth kn) = kn'.map some) (hn : idx.Nodup) : At w0 w kn' rows sz := by
  have hmem : ∀ kb ∈ kn', kb ∈ kn := fun kb hk => by
    have : some kb ∈ idx.map (nth kn) := by rw [e]; exact List.mem_map_of_mem hk
    obtain ⟨i, -, hi⟩ := List.mem_map.1 this
    exact List.mem_of_getElem? (nth_lt hi)
  have hnd := h.nd
  rw [List.map_append, List.nodup_append] at hnd
  have key : ∀ (idx : List Nat) (kn' : List KB), idx.map (nth kn) = kn'.map some → idx.Nodup → (kn'.map KB.id).Nodup ∧ ∀ a ∈ kn'.map KB.id, ∃ i ∈ idx, (kn.map KB.id)[i]? = some a := by
    intro idx
    induction idx with
    | nil =>
      intro kn' e _
      cases kn' with
      | nil => exact ⟨by simp, by simp⟩
      | cons x l => cases e
    | cons i idx ih =>
      intro kn' e hn
      cases kn' with
      | nil => cases e
      | cons x l =>
        simp only [List.map_cons, List.cons.injEq] at e
        obtain ⟨h1, h2⟩ := ih l e.2 (List.nodup_cons.1 hn).2
        have hx : (kn.map KB.id)[i]? = some x.id := by rw [List.getElem?_map, nth_lt e.1]; rfl
        refine ⟨?_, fun a ha => ?_⟩
        · rw [List.map_cons, List.nodup_cons]
          refine ⟨fun hm => ?_, h1⟩
          obtain ⟨j, hj, hjx⟩ := h2 _ hm
          have hij : i = j := by
            obtain ⟨b1, c1⟩ := List.getElem?_eq_some_iff.1 hx
            obtain ⟨b2, c2⟩ := List.getElem?_eq_some_iff.1 hjx
            rcases Nat.lt_trichotomy i j with hlt | h0 | hlt
            · exact absurd (c1.trans c2.symm) (List.pairwise_iff_getElem.1 hnd.2.1 i j b1 b2 hlt)
            · exact h0
            · exact absurd (c2.trans c1.symm) (List.pairwise_iff_getElem.1 hnd.2.1 j i b2 b1 hlt)
          exact (List.nodup_cons.1 hn).1 (hij ▸ hj)
        · rw [List.map_cons] at ha
          rcases List.mem_cons.1 ha with rfl | ha
          · exact ⟨i, List.mem_cons_self, hx⟩
          · obtain ⟨j, hj, hjx⟩ := h2 a ha
            exact ⟨j, List.mem_cons_of_mem _ hj, hjx⟩
  refine ⟨fun kb hk => h.ok kb (hmem kb hk), h.rok, fun kb hk => h.low kb (hmem kb hk), h.rlow, ?_, h.size, h.below⟩
  rw [List.map_append, List.nodup_append]
  refine ⟨hnd.1, (key idx kn' e hn).1, fun a ha b hb => ?_⟩
  obtain ⟨kb, hkb, rfl⟩ := List.mem_map.1 hb
  exact hnd.2.2 a ha kb.id (List.mem_map_of_mem (hmem kb hkb))
/-- Here the ways meet. -/
theorem joinE {c : Ctx} {S S0 : Sta} {w : World} {rows : List KB} {γ : Type} {D : List Nat} {fr : γ → Fr} {kn rw : γ → List KB} {rel : γ → World → Prop} (H : Goes c S0 D fr kn rw rel) (g : γ) (hrel : rel g w) (idx : List Nat) (hA : AtS c S w rows) (hrw : rows = rw g)
    (h : (S.ctl, S.stk, ((fr g).map fun p => S.fr.get p.1), idx.map (nth S.env.known)) = (jctl S0 D, S0.stk, ((fr g).map fun p => some p.2), (kn g).map some)) (hn : idx.Nodup) : Run c S w := by
  simp only [Prod.mk.injEq] at h
  obtain ⟨h1, h2, h3, h4⟩ := h
  subst hrw
  have k := H g w hrel ⟨(hA.at_.sel idx h4 hn).resize, hA.lo⟩
  refine ⟨fun a hR hd => ?_⟩
  have k := k.go a (hR.sub h3) hd
  obtain ⟨ctl, s, f, e⟩ := S
  simp only at h1 h2
  subst h1
  subst h2
  exact k
end Go.Proofs.Ytfidkgpimlpdbaa

/- Symbolic runs: structs and arrays of integers, compared. -/
namespace Go.Proofs.Ytfidkgpimlpdbaa
open Go.RowKit Go.Shelf

def isIntT (P : Program) (t : TypeId) : Bool := match P.underlying t with | some (.int _) => true | _ => false
theorem isIntT_spec {P : Program} {t : TypeId} (h : isIntT P t = true) : ∃ k, P.underlying t = some (.int k) := by
  unfold isIntT at h
  split at h
  · rename_i k hk; exact ⟨k, hk⟩
  · cases h
theorem part_int {P : Program} {w : World} {t : TypeId} {k : IntKind} {cs : Array Value} {off : Nat} {v : Value} (ht : P.underlying t = some (.int k)) (h : cs[off]? = some v) : (part t cs off).run P w = .ok v w := by
  simp [part, isAgg, run_underlying ht, h]
theorem beq_iff_int (a b : Int) : (a == b) = true ↔ a = b := by simp
/-- What holds at a place in both. -/
def BothInt (xs ys : Array Value) (i : Nat) : Prop := ∃ k a b, xs[i]? = some (.int k a) ∧ ys[i]? = some (.int k b)
theorem eq_fields {P : Program} (w : World) (d : Nat) (xs ys : Array Value) : ∀ l : List Field, (∀ f ∈ l, (f.name ≠ "_" ∧ isIntT P f.type = true) ∧ BothInt xs ys f.offset) →
    ∃ r, (Op.eqFields (d + 1) xs ys l).run P w = .ok r w ∧ (r = true ↔ ∀ f ∈ l, xs[f.offset]? = ys[f.offset]?)
  | [], _ => ⟨true, by simp [Op.eqFields], by simp⟩
  | f :: l, h => by
    obtain ⟨⟨h1, h2⟩, k, a, b, h3, h4⟩ := h f List.mem_cons_self
    obtain ⟨k', hk⟩ := isIntT_spec h2
    obtain ⟨r, hr, hiff⟩ := eq_fields w d xs ys l fun g hg => h g (List.mem_cons_of_mem _ hg)
    have he := run_equalIn_int (P := P) w d f.type k k' a b hk
    have e9 : xs[f.offset]? = ys[f.offset]? ↔ a = b := by rw [h3, h4]; simp
    by_cases hab : a = b
    · refine ⟨r, ?_, ?_⟩
      · simp only [Op.eqFields, h1, ne_eq, not_false_eq_true, if_true, Sem.run_bind, part_int hk h3, part_int hk h4, Result.andThen_ok, he, (beq_iff_int a b).2 hab]
        simpa using hr
      · rw [hiff]
        constructor
        · intro hh g hg
          rcases List.mem_cons.1 hg with rfl | hg
          · exact e9.2 hab
          · exact hh g hg
        · exact fun hh g hg => hh g (List.mem_cons_of_mem _ hg)
    · have hne : (a == b) = false := by simpa using hab
      refine ⟨false, ?_, ?_⟩
      · simp only [Op.eqFields, h1, ne_eq, not_false_eq_true, if_true, Sem.run_bind, part_int hk h3, part_int hk h4, Result.andThen_ok, he, hne]
        simp
      · simp only [Bool.false_eq_true, false_iff]
        intro hh
        exact hab (e9.1 (hh f List.mem_cons_self))
theorem eq_items {P : Program} (w : World) (d : Nat) {e : TypeId} {k' : IntKind} (hk : P.underlying e = some (.int k')) (xs ys : Array Value) : ∀ l : List Nat, (∀ i ∈ l, BothInt xs ys (i * 1)) →
    ∃ r, (Op.eqItems (d + 1) e 1 xs ys l).run P w = .ok r w ∧ (r = true ↔ ∀ i ∈ l, xs[i * 1]? = ys[i * 1]?)
  | [], _ => ⟨true, by simp [Op.eqItems], by simp⟩
  | i :: l, h => by
    obtain ⟨k, a, b, h3, h4⟩ := h i List.mem_cons_self
    obtain ⟨r, hr, hiff⟩ := eq_items w d hk xs ys l fun g hg => h g (List.mem_cons_of_mem _ hg)
    have he := run_equalIn_int (P := P) w d e k k' a b hk
    have e9 : xs[i * 1]? = ys[i * 1]? ↔ a = b := by rw [h3, h4]; simp
    by_cases hab : a = b
    · refine ⟨r, ?_, ?_⟩
      · simp only [Op.eqItems, Sem.run_bind, part_int hk h3, part_int hk h4, Result.andThen_ok, he, (beq_iff_int a b).2 hab]
        simpa using hr
      · rw [hiff]
        constructor
        · intro hh g hg
          rcases List.mem_cons.1 hg with rfl | hg
          · exact e9.2 hab
          · exact hh g hg
        · exact fun hh g hg => hh g (List.mem_cons_of_mem _ hg)
    · have hne : (a == b) = false := by simpa using hab
      refine ⟨false, ?_, ?_⟩
      · simp only [Op.eqItems, Sem.run_bind, part_int hk h3, part_int hk h4, Result.andThen_ok, he, hne]
        simp
      · simp only [Bool.false_eq_true, false_iff]
        intro hh
        exact hab (e9.1 (hh i List.mem_cons_self))
/-- A type of n integers. -/
def flatB (P : Program) (t : TypeId) (n : Nat) : Bool := match P.underlying t with
  | some (.struct _) => !P.stoodInHeld t && decide ((P.fieldsOf t).toList.map (fun f => f.offset) = List.range n) && (P.fieldsOf t).toList.all fun f => f.name != "_" && isIntT P f.type
  | some (.array m e) => Nat.beq m n && isIntT P e && Nat.beq (P.cellsOf e) 1 && (P.info? e).isSome
  | _ => false
theorem all_places {xs ys : Array Value} {n : Nat} (hx : xs.size = n) (hy : ys.size = n) (h : ∀ i ∈ List.range n, xs[i]? = ys[i]?) : xs = ys := by
  apply Array.ext_getElem?
  intro i
  by_cases hi : i < n
  · exact h i (List.mem_range.2 hi)
  · rw [Array.getElem?_eq_none (by omega), Array.getElem?_eq_none (by omega)]
theorem eq_flat {P : Program} {t : TypeId} {n : Nat} (h : flatB P t n = true) (w : World) (xs ys : Array Value) (hx : xs.size = n) (hy : ys.size = n) (hb : ∀ i, i < n → BothInt xs ys i) :
    ∃ r, (Op.equal t (.agg xs) (.agg ys)).run P w = .ok r w ∧ (r = true ↔ xs = ys) := by
  unfold flatB at h
  unfold Op.equal Op.maxDepth
  split at h
  · rename_i fs hu
    simp only [Bool.and_eq_true, decide_eq_true_eq, Bool.not_eq_true'] at h
    obtain ⟨⟨h2, h3⟩, h4⟩ := h
    rw [show (10000 : Nat) = 9999 + 1 from rfl, run_equalIn_struct w 9999 t xs ys (by simp [Program.fieldsOf, hu]) h2]
    have hof : ∀ f ∈ (P.fieldsOf t).toList, f.offset < n := fun f hf => by
      have : f.offset ∈ (P.fieldsOf t).toList.map (fun f => f.offset) := List.mem_map_of_mem hf
      rw [h3] at this
      exact List.mem_range.1 this
    obtain ⟨r, hr, hiff⟩ := eq_fields (P := P) w 9998 xs ys (P.fieldsOf t).toList fun f hf => ⟨by
      have := List.all_eq_true.1 h4 f hf
      simp only [Bool.and_eq_true, bne_iff_ne, ne_eq] at this
      exact this, hb _ (hof f hf)⟩
    refine ⟨r, hr, hiff.trans ⟨fun hh => all_places hx hy fun i hi => ?_, fun hh f _ => by rw [hh]⟩⟩
    rw [← h3] at hi
    obtain ⟨f, hf, rfl⟩ := List.mem_map.1 hi
    exact hh f hf
  · rename_i m e hu
    simp only [Bool.and_eq_true] at h
    obtain ⟨⟨⟨h1, h2⟩, h3⟩, h4⟩ := h
    obtain rfl := Nat.eq_of_beq_eq_true h1
    obtain ⟨k', hk⟩ := isIntT_spec h2
    obtain ⟨i, hi⟩ := Option.isSome_iff_exists.1 h4
    rw [show (10000 : Nat) = 9999 + 1 from rfl, run_equalIn_array (P := P) w 9999 xs ys hu hi, Nat.eq_of_beq_eq_true h3]
    obtain ⟨r, hr, hiff⟩ := eq_items (P := P) w 9998 hk xs ys (List.range m) fun i hi => by rw [Nat.mul_one]; exact hb i (List.mem_range.1 hi)
    refine ⟨r, hr, hiff.trans ⟨fun hh => all_places hx hy fun i hi => by have := hh i hi; rwa [Nat.mul_one] at this, fun hh f _ => by rw [hh]⟩⟩
  · cases h
noncomputable def cmpSem (op : BinOp) (t : TypeId) (xo yo : Operand) (x y : Value) : Sem Next := (Sem.bind (eqGuard op t xo yo x y) fun _ => binOp op t x y).bind fun v => .pure (.value v)
/-- x == y, x != y. -/
theorem cmp_flat {P : Program} {t : TypeId} {n : Nat} {xo yo : Operand} {xs ys : Array Value} (ne : Bool) (h : flatB P t n = true) (w : World) (hx : (xs.size, ys.size) = (n, n)) (hb : ∀ i, i < n → BothInt xs ys i) (p : Prop) [Decidable p] (hp : xs = ys ↔ p)
    (hg : sy P true (eqGuard (cond ne .neq .eql) t xo yo (.agg xs) (.agg ys)) ⟨[], w.heap.size, [], [], [], [], []⟩ = some ((), ⟨[], w.heap.size, [], [], [], [], []⟩)) :
    (cmpSem (cond ne .neq .eql) t xo yo (.agg xs) (.agg ys)).run P w = .ok (.value (.bool (cond ne (!decide p) (decide p)))) w := by
  simp only [Prod.mk.injEq] at hx
  obtain ⟨r, hr, hiff⟩ := eq_flat h w xs ys hx.1 hx.2 hb
  have hr2 : r = decide p := by
    cases r with
    | true => exact (decide_eq_true (hp.1 (hiff.1 rfl))).symm
    | false =>
      symm
      exact decide_eq_false fun hh => by have := hiff.2 (hp.2 hh); cases this
  subst hr2
  obtain ⟨-, -, hq⟩ := sy_read (w0 := w) _ _ _ _ hg ⟨by simp, by simp, by simp, by simp⟩
  have hq := hq w ⟨by simp, Below.refl _ _⟩
  unfold cmpSem
  cases ne with
  | false =>
    have e : binOp .eql t (.agg xs) (.agg ys) = Sem.bind (Op.equal t (.agg xs) (.agg ys)) fun r => Sem.pure (.bool r) := rfl
    have hq : (eqGuard .eql t xo yo (.agg xs) (.agg ys)).run P w = .ok () w := hq
    show (Sem.bind (Sem.bind (eqGuard .eql t xo yo (.agg xs) (.agg ys)) fun _ => binOp .eql t (.agg xs) (.agg ys)) _).run P w = _
    rw [Sem.run_bind', Sem.run_bind', hq]
    show (Result.andThen ((binOp .eql t (.agg xs) (.agg ys)).run P w) _) = _
    rw [e, Sem.run_bind', hr]
    rfl
  | true =>
    have e : binOp .neq t (.agg xs) (.agg ys) = Sem.bind (Op.equal t (.agg xs) (.agg ys)) fun r => Sem.pure (.bool (!r)) := rfl
    have hq : (eqGuard .neq t xo yo (.agg xs) (.agg ys)).run P w = .ok () w := hq
    show (Sem.bind (Sem.bind (eqGuard .neq t xo yo (.agg xs) (.agg ys)) fun _ => binOp .neq t (.agg xs) (.agg ys)) _).run P w = _
    rw [Sem.run_bind', Sem.run_bind', hq]
    show (Result.andThen ((binOp .neq t (.agg xs) (.agg ys)).run P w) _) = _
    rw [e, Sem.run_bind', hr]
    rfl
end Go.Proofs.Ytfidkgpimlpdbaa
