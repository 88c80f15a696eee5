/- Parts of a proof: SQ YC. -/
import Derived.Test.YtfidkgpimlpdbaaF4

/- Symbolic runs: ranges over functions that the body ends. -/
namespace Go.Proofs.Ytfidkgpimlpdbaa
open Go.RowKit Go.Shelf

/-- An iterator that goes on until the body breaks; what its user holds bounds how often it is called. -/
def IterB {α : Type} (P : Program) (g : Nat) (lb : Array Value) (encs : α → Array Value) (n₀ : Nat) (C : Nat → Prop) (El : List α → α → Prop) (Bd : List α → Prop) (w0 : World) : Prop :=
  ∀ (l : Nat) (J Jx : List α → (Nat → Prop) → World → Prop) (W : World), Below w0.heap.size w0 W → Stable W.heap.size J → Stable W.heap.size Jx →
    (∀ pre X W1, J pre X W1 → Bd pre) →
    (∀ pre x X W1, J pre X W1 → El pre x → W.heap.size ≤ W1.heap.size → (∀ k, X k → k < W1.heap.size) → YieldAt Fence.wide 1 P l (encs x) W1 fun e W' =>
      ((e = .returned (.bool true) ∧ J (pre ++ [x]) X W') ∨ (e = .returned (.bool false) ∧ Jx (pre ++ [x]) X W')) ∧ Keep n₀ C X W1 W' ∧ KeepsFrom W.heap.size W1 W') →
    J [] noBlock W →
    Calls P g (#[.func (.yield l) #[] #[]] ++ lb) W fun e W' => (∃ v, e = .returned v) ∧ ∃ X pre, Jx pre X W'
theorem IterB.later {α : Type} {P : Program} {g : Nat} {lb : Array Value} {encs : α → Array Value} {n₀ : Nat} {C : Nat → Prop} {El : List α → α → Prop} {Bd : List α → Prop} {w0 w1 : World} (h : IterB P g lb encs n₀ C El Bd w0) (hb : Below w0.heap.size w0 w1) : IterB P g lb encs n₀ C El Bd w1 :=
  fun l J Jx W hW => h l J Jx W (hb.trans (hW.mono hb.size))

set_option maxHeartbeats 1000000 in
theorem range_iterB {α : Type} {P : Program} {g : Operand} {ps : Array Tmp} {assign body : Code} {Q : Exit → Act → World → Prop} {a : Act} {w : World} {gf : Nat} {lb : Array Value}
    (hg : a.eval g = .func (.func gf) #[] lb) (eg : ∀ args w, (callFunc gf args).run P w = .ok (.enter gf args) w)
    {encs : α → Array Value} {n₀ : Nat} {C : Nat → Prop} {El : List α → α → Prop} {Bd : List α → Prop} {w0 : World} (hseq : IterB P gf lb encs n₀ C El Bd w0)
    (hb0 : Below w0.heap.size w0 w) (hC : ∀ k, C k → k < w.heap.size) (hn₀ : n₀ ≤ w.heap.size) (hps : ∀ x, (encs x).size = ps.size)
    (I : List α → (Nat → Prop) → World → Prop) (Ix : Code → List α → (Nat → Prop) → World → Prop) (hI : Stable w.heap.size I) (hIx : ∀ c, Stable w.heap.size (Ix c)) (h0 : I [] noBlock w) (hbd : ∀ pre X W, I pre X W → Bd pre)
    (Ax : List α → (Nat → Prop) → α → Act → World → Prop) (hAx : ∀ pre X x a' W W', Ax pre X x a' W → St w.heap.size noBlock W W' → Ax pre X x a' W')
    (hassign : ∀ (l : Nat) (pre : List α) (x : α) (X : Nat → Prop) (W : World) (K : Act → World → Prop), I pre X W → El pre x → w.heap.size ≤ W.heap.size → (∀ k, X k → w.heap.size ≤ k ∧ k < W.heap.size) → (∀ a' W', Keep n₀ C X W W' → KeepsFrom w.heap.size W W' → I pre X W' → Ax pre X x a' W' → K a' W') →
      assign.wpIn (Fence.wide.inRound l) 1 P (Exit.then K (fun _ _ _ => False)) { tmps := (ps.zip (encs x)).foldl (fun t (p, v) => t.setIfInBounds p v) a.tmps, defers := [] } W)
    (hbody : ∀ (l : Nat) (pre : List α) (x : α) (X : Nat → Prop) (a' : Act) (W : World), I pre X W → El pre x → Ax pre X x a' W → w.heap.size ≤ W.heap.size → (∀ k, X k → w.heap.size ≤ k ∧ k < W.heap.size) → body.wpIn (Fence.wide.inRound l) 1 P (itPost w.heap.size n₀ C X I Ix (pre ++ [x]) W) a' W)
    (hstop : ∀ (D : Nat) (c : Code) (pre : List α) (X : Nat → Prop) (W : World), w.heap.size ≤ D → Ix c pre X W → W.heap[D]? = some (.deferred (some [])) → c.wpIn Fence.wide 3 P Q { a with defers := { target := .collected D, args := #[] } :: a.defers } W) :
    (Code.rangeFunc g ps assign body).wpIn Fence.wide 3 P Q a w := by
  refine wpIn_rangeFunc ?_
  intro fn _
  obtain ⟨rec, hrec⟩ : ∃ rec : LoopState → Option Code → Loop, rec = fun st pe => { state := st, pending := pe, fn, tmps := a.tmps, params := ps, assign, body, defers := w.heap.size } := ⟨_, rfl⟩
  obtain ⟨W1, hW1⟩ : ∃ W1, (w.alloc (.deferred (some []))).alloc (.loop (rec .ready none)) = W1 := ⟨_, rfl⟩
  have hs1 : W1.heap.size = w.heap.size + 2 := by rw [← hW1]; simp
  have hL1 : W1.heap[w.heap.size + 1]? = some (.loop (rec .ready none)) := by
    rw [← hW1]; have := World.alloc_heap_new (w.alloc (.deferred (some []))) (.loop (rec .ready none)); rwa [World.size_alloc] at this
  have hK1 : W1.heap[w.heap.size]? = some (.deferred (some [])) := by
    rw [← hW1]; exact (Below.heap_alloc _ _ _ (by simp)).trans (World.alloc_heap_new w _)
  have hI1 : I [] noBlock W1 := by
    rw [← hW1]
    exact hI _ _ _ _ _ (hI _ _ _ _ _ h0 (St.alloc _ _) (Grows.refl _ _)) (St.alloc _ _) (Grows.refl _ _)
  have hb1 : Below w0.heap.size w0 W1 := by
    rw [← hW1]; exact hb0.trans ((((Below.refl _ w).alloc (Nat.le_refl _) _).alloc (by simp) _).mono hb0.size)
  refine ⟨w.heap.size + 1, [{ target := .collected w.heap.size, args := #[] }], W1, { target := .fn (.func gf) lb, args := #[.func (.yield (w.heap.size + 1)) #[] #[]] }, W1, gf,
    #[.func (.yield (w.heap.size + 1)) #[] #[]] ++ lb, W1, ?_, ?_, ?_, ?_, fun _ => by omega, ?_⟩
  · rw [← hW1, hrec]; exact run_enterLoop_outer _ _ _ _ _
  · simp only [resolve, hg]
    simp [go_sem]
  · intro f' _; trivial
  · simp [invoke, go_sem, eg]
  · refine callsIn_wide.2 ((hseq (w.heap.size + 1)
      (fun pre X W => W1.heap.size ≤ W.heap.size ∧ I pre X W ∧ (∀ k, X k → W1.heap.size ≤ k) ∧ W.heap[w.heap.size + 1]? = some (.loop (rec .ready none)) ∧ W.heap[w.heap.size]? = some (.deferred (some [])))
      (fun pre X W => ∃ c, W1.heap.size ≤ W.heap.size ∧ Ix c pre X W ∧ W.heap[w.heap.size + 1]? = some (.loop (rec .done (some c))) ∧ W.heap[w.heap.size]? = some (.deferred (some [])) ∧ (∀ k, X k → W1.heap.size ≤ k))
      W1 hb1 ?_ ?_ (fun pre X W h => hbd pre X W h.2.1) ?_ ⟨Nat.le_refl _, hI1, fun _ h => h.elim, hL1, hK1⟩).mono ?_)
    · rintro pre X X' A B ⟨hz, hi, hx, hl, hk⟩ hst hgr
      have hz' := hst.base.size
      refine ⟨by omega, hI _ _ _ _ _ hi (hst.mono (by omega)) hgr, ?_, hst.same _ _ hl (fun h => by have := hx _ h; omega) (.inr (by omega)), hst.same _ _ hk (fun h => by have := hx _ h; omega) (.inr (by omega))⟩
      intro k h
      rcases hgr.2 k h with h | h
      · exact hx k h
      · omega
    · rintro pre X X' A B ⟨c, hz, hi, hl, hk, hx⟩ hst hgr
      have hz' := hst.base.size
      refine ⟨c, by omega, hIx c _ _ _ _ _ hi (hst.mono (by omega)) hgr, hst.same _ _ hl (fun h => by have := hx _ h; omega) (.inr (by omega)), hst.same _ _ hk (fun h => by have := hx _ h; omega) (.inr (by omega)), ?_⟩
      intro k h
      rcases hgr.2 k h with h | h
      · exact hx k h
      · omega
    · rintro pre x X W ⟨hz, hi, hx, hl, hk⟩ hel hsz hup
      have hy := run_yield (P := P) (args := encs x) hl (by rw [hrec]; exact hps x)
      rw [hrec] at hy
      have hxw : ∀ k, X k → w.heap.size ≤ k ∧ k < W.heap.size := fun k h => ⟨by have := hx k h; omega, hup k h⟩
      have hXl : ¬ X (w.heap.size + 1) := fun h => by have := hx _ h; omega
      have hCl : ¬ C (w.heap.size + 1) := fun h => by have := hC _ h; omega
      refine ⟨fn, _, assign, body, hy, roundIn_of_wpIn trivial (hassign _ pre x X W _ hi hel (by omega) hxw ?_)⟩
      clear hy
      intro a' Wa hka hfa hia hax
      have hla := hfa.same _ _ (by omega) hl rfl
      have hda := hfa.same _ _ (Nat.le_refl _) hk rfl
      have hlta : w.heap.size + 1 < Wa.heap.size := (Array.getElem?_eq_some_iff.1 hla).1
      refine ⟨_, run_beginRound hla (by rw [hrec]), ?_⟩
      obtain ⟨Wb, hWb⟩ : ∃ Wb, Wb = Wa.putObj (w.heap.size + 1) (.loop { rec .ready none with state := .busy }) := ⟨_, rfl⟩
      rw [← hWb]
      have hlb : Wb.heap[w.heap.size + 1]? = some (.loop { rec .ready none with state := .busy }) := by rw [hWb]; exact World.putObj_heap_same hlta
      have hdb : Wb.heap[w.heap.size]? = some (.deferred (some [])) := by rw [hWb]; exact (World.putObj_heap_other (by omega)).trans hda
      have hkb : Keep n₀ C X W Wb := by rw [hWb]; exact hka.trans (Keep.putObj (by omega) hXl hCl hlta)
      have hfb : KeepsFrom W1.heap.size W Wb := by rw [hWb]; exact (KeepsFrom.up hfa (by omega)).trans (KeepsFrom.put (by omega))
      have hszb : w.heap.size ≤ Wb.heap.size := by rw [hWb]; simp; omega
      have hib : I pre X Wb := by rw [hWb]; exact hI.put _ hia (by omega) hla rfl
      have haxb : Ax pre X x a' Wb := by rw [hWb]; exact hAx _ _ _ _ _ _ hax (St.putObj hla rfl (by omega))
      refine wpIn_mono (hbody _ pre x X a' Wb hib hel haxb hszb (fun k h => ⟨(hxw k h).1, Nat.lt_of_lt_of_le (hxw k h).2 hkb.below.size⟩)) ?_
      have fin : ∀ (jump : Option Code) (W3 : World), KeepsFrom w.heap.size Wb W3 → Keep n₀ C X Wb W3 →
          (Instr.endRound (w.heap.size + 1) jump).run P W3 = .ok (.bool jump.isNone) (W3.putObj (w.heap.size + 1) (.loop (rec (if jump.isNone then .ready else .done) jump))) ∧
          W3.heap[w.heap.size + 1]? = some (.loop { rec .ready none with state := .busy }) ∧
          (W3.putObj (w.heap.size + 1) (.loop (rec (if jump.isNone then .ready else .done) jump))).heap[w.heap.size + 1]? = some (.loop (rec (if jump.isNone then .ready else .done) jump)) ∧
          (W3.putObj (w.heap.size + 1) (.loop (rec (if jump.isNone then .ready else .done) jump))).heap[w.heap.size]? = some (.deferred (some [])) ∧
          Keep n₀ C X W (W3.putObj (w.heap.size + 1) (.loop (rec (if jump.isNone then .ready else .done) jump))) ∧
          KeepsFrom W1.heap.size W (W3.putObj (w.heap.size + 1) (.loop (rec (if jump.isNone then .ready else .done) jump))) := fun jump W3 hk3 hkk3 => by
        have hl3 := hk3.same _ _ (by omega) hlb rfl
        have hlt3 : w.heap.size + 1 < W3.heap.size := (Array.getElem?_eq_some_iff.1 hl3).1
        have he := run_endRound (P := P) jump hl3
        refine ⟨?_, hl3, World.putObj_heap_same hlt3, (World.putObj_heap_other (by omega)).trans (hk3.same _ _ (Nat.le_refl _) hdb rfl), (hkb.trans hkk3).trans (Keep.putObj (by omega) hXl hCl hlt3), (hfb.trans (KeepsFrom.up hk3 (by omega))).trans (KeepsFrom.put (by omega))⟩
        rw [hrec] at he ⊢
        exact he
      rintro e a3 W3 hp
      cases e with
      | normal =>
        obtain ⟨hk3, hkp3, hi3⟩ := hp
        have hz3 := hkp3.below.size
        have hz2 := hkb.below.size
        obtain ⟨hr, hl3, hl4, hk4, h5, h6⟩ := fin none W3 hk3 hkp3
        exact ⟨_, _, hr, .inl ⟨rfl, by simp; omega, hI.put _ hi3 (by omega) hl3 rfl, hx, hl4, hk4⟩, h5, h6⟩
      | ret =>
        obtain ⟨hk3, hkp3, hi3⟩ := hp
        have hz3 := hkp3.below.size
        have hz2 := hkb.below.size
        obtain ⟨hr, hl3, hl4, hk4, h5, h6⟩ := fin (some .ret) W3 hk3 hkp3
        exact ⟨_, _, hr, .inr ⟨rfl, .ret, by simp; omega, (hIx _).put _ hi3 (by omega) hl3 rfl, hl4, hk4, hx⟩, h5, h6⟩
      | exit id =>
        obtain ⟨hk3, hkp3, hi3⟩ := hp
        have hz3 := hkp3.below.size
        have hz2 := hkb.below.size
        obtain ⟨hr, hl3, hl4, hk4, h5, h6⟩ := fin (some (.exit id)) W3 hk3 hkp3
        exact ⟨_, _, hr, .inr ⟨rfl, .exit id, by simp; omega, (hIx _).put _ hi3 (by omega) hl3 rfl, hl4, hk4, hx⟩, h5, h6⟩
      | goto t =>
        obtain ⟨hk3, hkp3, hi3⟩ := hp
        have hz3 := hkp3.below.size
        have hz2 := hkb.below.size
        obtain ⟨hr, hl3, hl4, hk4, h5, h6⟩ := fin (some (.goto t)) W3 hk3 hkp3
        exact ⟨_, _, hr, .inr ⟨rfl, .goto t, by simp; omega, (hIx _).put _ hi3 (by omega) hl3 rfl, hl4, hk4, hx⟩, h5, h6⟩
      | panic ch => exact hp.elim
      | outgrown => exact hp.elim
    · rintro e W2 ⟨⟨v, rfl⟩, X, pre, c, -, hi, hl, hk, hx⟩
      exact ⟨some c, _, by have := run_endLoop (P := P) hl (by rw [hrec]; simp); rw [hrec] at this; exact this, hstop _ c pre X _ (Nat.le_refl _) ((hIx c).put _ hi (by omega) hl rfl) ((World.putObj_heap_other (by omega)).trans hk)⟩

/-- A round of a range that an exit ends. -/
def Ctx.roundX (c : Ctx) (l id : Nat) (J Jx : Act → World → Prop) (z : Nat) : Ctx := ⟨c.P, some l, c.N, [], fun e a w => match e with | .normal => J a w | .exit i => i = id ∧ Jx a w | _ => False, c.w0, z⟩
def exitX (S : Sta) (id : Nat) : Bool := match S.ctl, S.stk with | .out (.exit i), [] => decide (i = id) | _, _ => false
theorem rendX {c : Ctx} {l z id : Nat} {J Jx : Act → World → Prop} {S : Sta} {w : World} {kn' rows : List KB} (hJ : ∀ a' W', a'.defers = [] → At c.w0 W' kn' rows W'.heap.size → z ≤ W'.heap.size → J a' W') (m : List Bool) (hA : AtS (c.roundX l id J Jx z) S w rows)
    (ho : (normB S, pick m S.env.known) = (true, kn')) : Run (c.roundX l id J Jx z) S w := by
  refine ⟨fun a hR hd => ?_⟩
  simp only [Prod.mk.injEq] at ho
  obtain ⟨ho, hk⟩ := ho
  obtain ⟨ctl, st, f, e⟩ := S
  unfold normB at ho
  split at ho
  · rename_i h3 h4
    simp only at h3 h4
    subst h3; subst h4
    exact hJ a w hd (At.pick hA.at_ m hk).resize hA.lo
  · cases ho
theorem rexitX {c : Ctx} {l z id : Nat} {J Jx : Act → World → Prop} {S : Sta} {w : World} {kn' rows : List KB} (hJ : ∀ a' W', a'.defers = [] → At c.w0 W' kn' rows W'.heap.size → z ≤ W'.heap.size → Jx a' W') (m : List Bool) (hA : AtS (c.roundX l id J Jx z) S w rows)
    (ho : (exitX S id, pick m S.env.known) = (true, kn')) : Run (c.roundX l id J Jx z) S w := by
  refine ⟨fun a hR hd => ?_⟩
  simp only [Prod.mk.injEq] at ho
  obtain ⟨ho, hk⟩ := ho
  obtain ⟨ctl, st, f, e⟩ := S
  unfold exitX at ho
  split at ho
  · rename_i i h3 h4
    simp only at h3 h4
    subst h3; subst h4
    exact ⟨of_decide_eq_true ho, hJ a w hd (At.pick hA.at_ m hk).resize hA.lo⟩
  · cases ho

section
variable {α γ : Type}
/-- A range over a function that goes on until an exit of the body ends it. -/
theorem rangeX {c : Ctx} {S : Sta} {w : World} {gf : Nat} {lb : Array Value} {encs : α → Array Value} {n₀ : Nat} {C : Nat → Prop} {El : List α → α → Prop} {Bd : List α → Prop} (xid : Nat)
    (kn rw : γ → List KB) (rel relx : List α → γ → Prop) (asg : α → γ → Prop) (fr1 : α → Nat → Fr) (nb : α → Nat → List KB) (m : List Bool) (g0 : γ) (np : Nat)
    (hA : AtS c S w (rw g0)) (hro : c.ro = none) (h : (rfV S, pick m S.env.known) = (some (.func (.func gf) #[] lb, np), kn g0)) (eg : ∀ args w, (callFunc gf args).run c.P w = .ok (.enter gf args) w)
    (hseq : IterB c.P gf lb encs n₀ C El Bd w) (hbd : ∀ pre g, rel pre g → Bd pre) (hps : ∀ x, (encs x).size = np) (hn₀ : n₀ ≤ c.w0.heap.size) (hC : ∀ k, C k → k < w.heap.size) (hCk : ∀ kb ∈ rw g0 ++ kn g0, ¬ C kb.id) (hcells : ∀ g, ∀ kb ∈ rw g, kb.obj.isCells = true) (hold : ∀ g, ∀ kb ∈ kn g, kb.id < w.heap.size)
    (hnb : ∀ x z, ∀ kb ∈ nb x z, kb.obj.isCells = true ∧ z ≤ kb.id) (hrel0 : rel [] g0)
    (hids : ∀ g g', (kn g).map KB.id = (kn g').map KB.id) (hassign : ∀ (l : Nat) (pre : List α) (x : α) (g : γ) (rows : List KB) (W : World) (J : Act → World → Prop), rel pre g → El pre x → (∀ g' a' W', rel pre g' → asg x g' → rw g' = rw g → Rep c.N (fr1 x W.heap.size) a' → a'.defers = [] → At c.w0 W' (kn g' ++ nb x W.heap.size) rows W'.heap.size → W.heap.size ≤ W'.heap.size → J a' W') →
      AtS (c.round l J W.heap.size) ⟨.code (rfA S), [], rfFr c.N S (encs x).toList, ⟨kn g, W.heap.size, [], [], [], [], []⟩⟩ W rows → Run (c.round l J W.heap.size) ⟨.code (rfA S), [], rfFr c.N S (encs x).toList, ⟨kn g, W.heap.size, [], [], [], [], []⟩⟩ W)
    (hbody : ∀ (l : Nat) (pre : List α) (x : α) (g : γ) (z : Nat) (prot : List KB) (W : World) (J Jx : Act → World → Prop), rel pre g → El pre x → asg x g → w.heap.size ≤ W.heap.size →
      (∀ g' a' W', rel (pre ++ [x]) g' → a'.defers = [] → At c.w0 W' (kn g') (rw g' ++ prot) W'.heap.size → W.heap.size ≤ W'.heap.size → J a' W') →
      (∀ g' a' W', relx (pre ++ [x]) g' → a'.defers = [] → At c.w0 W' (kn g') (rw g' ++ prot) W'.heap.size → W.heap.size ≤ W'.heap.size → Jx a' W') →
      AtS (c.roundX l xid J Jx W.heap.size) ⟨.code (rfB S), [], fr1 x z, ⟨kn g ++ nb x z, W.heap.size, [], [], [], [], []⟩⟩ W (rw g ++ prot) → Run (c.roundX l xid J Jx W.heap.size) ⟨.code (rfB S), [], fr1 x z, ⟨kn g ++ nb x z, W.heap.size, [], [], [], [], []⟩⟩ W)
    (hdone : ∀ (D : Nat) (xs : List α) (g : γ) (W : World), relx xs g → w.heap.size ≤ D → AtS (c.marked D) ⟨.out (.exit xid), S.stk, S.fr, ⟨kn g ++ [⟨D, .deferred (some [])⟩], W.heap.size, [], [], [], [], []⟩⟩ W (rw g) → Run (c.marked D) ⟨.out (.exit xid), S.stk, S.fr, ⟨kn g ++ [⟨D, .deferred (some [])⟩], W.heap.size, [], [], [], [], []⟩⟩ W) : Run c S w := by
  refine ⟨fun a hR hd => ?_⟩
  simp only [Prod.mk.injEq] at h
  obtain ⟨h, hpk⟩ := h
  obtain ⟨ctl, stk, fr, e⟩ := S
  cases ctl with
  | ops _ _ => cases h
  | tail _ _ => cases h
  | draw _ _ _ _ _ _ => cases h
  | pick _ _ _ _ _ _ _ => cases h
  | out _ => cases h
  | code x =>
    cases x with
    | rangeFunc f ps as' bd =>
      have h : cond (knows fr f) (some (rho fr f, ps.size)) none = some (.func (.func gf) #[] lb, np) := h
      cases hkf : knows fr f with
      | false => rw [hkf] at h; cases h
      | true =>
        rw [hkf] at h
        simp only [cond_true, Option.some.injEq, Prod.mk.injEq] at h
        obtain ⟨h1, h2⟩ := h
        have hw0 : c.w0.heap.size ≤ w.heap.size := hA.below.size
        have hA0 := (At.pick hA.at_ m hpk).resize
        show (Code.rangeFunc f ps as' bd).wpIn (fen c.ro) 1 c.P (kQ c stk) a w
        rw [hro]
        refine wpIn_level rfl (n := 3) (range_iterB (α := α) ((hR.eval hkf).trans h1) eg hseq (Below.refl _ _) hC (Nat.le_trans hn₀ hw0) (fun x => (hps x).trans h2.symm)
          (fun pre X W => ∃ g, RInv c w C rel kn rw pre X W g) (fun cc pre X W => cc = .exit xid ∧ ∃ g, RInv c w C relx kn rw pre X W g) (RInv.stable hw0) (fun cc pre X X' W W' h hs hg => ⟨h.1, RInv.stable hw0 pre X X' W W' h.2 hs hg⟩) ⟨g0, hrel0, hA0, fun kb hk => ⟨fun hx => hx.elim, hCk kb hk⟩, hcells g0, hold g0, fun _ hx => hx.elim, Nat.le_refl _⟩ (fun pre X W ⟨g, hg⟩ => hbd pre g hg.rel)
          (fun pre X x a' W => ∃ g z, RInv c w C rel kn rw pre X W g ∧ Rep c.N (fr1 x z) a' ∧ a'.defers = [] ∧ At c.w0 W (kn g ++ nb x z) (rw g) W.heap.size ∧ asg x g ∧ ∀ kb ∈ nb x z, ¬ X kb.id ∧ ¬ C kb.id) ?_ ?_ ?_ ?_)
        · rintro pre X x a' W W' ⟨g, z, q1, q2, q3, q4, q6, q5⟩ hs
          have hz := hs.base.size
          have hgr : Grows X X W := Grows.refl _ _
          have q4' := at_st (X := noBlock) q4 hw0 hs (fun _ _ h => h) (fun _ h => h.elim) q1.cells (fun kb hk => by
            rcases List.mem_append.1 hk with hk | hk
            · exact .inr (q1.old kb hk)
            · exact .inl (hnb x z kb hk).1)
          exact ⟨g, z, ⟨q1.rel, q4'.sub (List.sublist_append_left _ _), q1.noX, q1.cells, q1.old, q1.xs, Nat.le_trans q1.size hz⟩, q2, q3, q4', q6, q5⟩
        · rintro l pre x X W K ⟨g, hI⟩ hel hsz hX hK
          have hpr := hI.at_.withProts (w := w) (C := C) (X := X)
          have hrun := hassign l pre x g _ W K hI.rel hel ?_ ⟨hpr, Nat.le_refl _⟩
          · have := hrun.go { tmps := (ps.zip (encs x)).foldl (fun t (p, v) => t.setIfInBounds p v) a.tmps, defers := [] } ?_ rfl
            · exact this
            · have hz := rep_zip (a := a) (N := c.N) (ps.toList.zip (encs x).toList) fr hR
              have e1 : (ps.zip (encs x)).foldl (fun t (p : Nat × Value) => t.setIfInBounds p.1 p.2) a.tmps = (ps.toList.zip (encs x).toList).foldl (fun t (p : Nat × Value) => t.setIfInBounds p.1 p.2) a.tmps := by
                rw [← Array.foldl_toList, Array.toList_zip]
              show Rep c.N _ ⟨(ps.zip (encs x)).foldl (fun t (p : Nat × Value) => t.setIfInBounds p.1 p.2) a.tmps, []⟩
              rw [e1]
              exact hz
          · intro g' a' W' r0 r9 r8 r1 r2 r3 r4
            have hin : ∀ kb ∈ rw g' ++ kn g', ∃ kb0 ∈ rw g ++ kn g, kb0.id = kb.id := fun kb hk => by
              rcases List.mem_append.1 hk with hk | hk
              · exact ⟨kb, List.mem_append_left _ (r8 ▸ hk), rfl⟩
              · have hm := List.mem_map_of_mem (f := KB.id) hk
                rw [hids g' g] at hm
                obtain ⟨kb0, h1, h2⟩ := List.mem_map.1 hm
                exact ⟨kb0, List.mem_append_right _ h1, h2⟩
            have hpro : ∀ k o, W.heap[k]? = some o → c.w0.heap.size ≤ k → k ∉ (rw g ++ kn g).map KB.id → (X k ∨ C k ∨ (w.heap.size ≤ k ∧ o.isCells = false)) → W'.heap[k]? = some o := fun k o ho h0 hni hc =>
              r3.rok ⟨k, o⟩ (List.mem_append_right _ (prots_mem.2 ⟨ho, h0, hni, hc.imp id (fun h => h.imp id fun h => ⟨h.1, o, ho, h.2⟩)⟩))
            have hni : ∀ k, (X k ∨ C k) → k ∉ (rw g ++ kn g).map KB.id := fun k hk hm => by
              obtain ⟨kb, hkb, rfl⟩ := List.mem_map.1 hm
              exact hk.elim (hI.noX kb hkb).1 (hI.noX kb hkb).2
            have hkf : KeepsFrom w.heap.size W W' := keepsFrom_prots hI.at_ hI.cells hI.old hw0 r4 hpro
            have hkeep : Keep n₀ C X W W' := keep_prots hI.at_ r3.below hn₀ r4 hni hpro
            have hA' := r3.dropR
            rw [← r8] at hA'
            have hI' : RInv c w C rel kn rw pre X W' g' := ⟨r0, hA'.sub (List.sublist_append_left _ _), fun kb hk => by obtain ⟨kb0, h1, h2⟩ := hin kb hk; rw [← h2]; exact hI.noX kb0 h1, hcells g', hold g', hI.xs, Nat.le_trans hI.size r4⟩
            refine hK a' W' hkeep hkf ⟨g', hI'⟩ ⟨g', W.heap.size, hI', r1, r2, hA', r9, fun kb hkb => ⟨fun hx => ?_, fun hc => ?_⟩⟩
            · have := (hX _ hx).2; have := (hnb x _ kb hkb).2; omega
            · have := hC _ hc; have := (hnb x _ kb hkb).2; omega
        · rintro l pre x X a' W _ hel ⟨g, z, hI, q2, q3, q4, q6, q5⟩ hsz hX
          have hpr := q4.withProts (w := w) (C := C) (X := X)
          have hcl : ∀ kb ∈ rw g ++ (kn g ++ nb x z), ¬ X kb.id ∧ ¬ C kb.id := fun kb hk => by
            rcases List.mem_append.1 hk with hk | hk
            · exact hI.noX kb (List.mem_append_left _ hk)
            · rcases List.mem_append.1 hk with hk | hk
              · exact hI.noX kb (List.mem_append_right _ hk)
              · exact q5 kb hk
          have hend : ∀ (rl : List α → γ → Prop) g' W', rl (pre ++ [x]) g' → At c.w0 W' (kn g') (rw g' ++ prots c.w0 w W C X (rw g ++ (kn g ++ nb x z))) W'.heap.size → W.heap.size ≤ W'.heap.size → KeepsFrom w.heap.size W W' ∧ Keep n₀ C X W W' ∧ ∃ g, RInv c w C rl kn rw (pre ++ [x]) X W' g := by
            intro rl g' W' r0 r3 r4
            have hpm : ∀ k o, W.heap[k]? = some o → c.w0.heap.size ≤ k → k ∉ (rw g ++ (kn g ++ nb x z)).map KB.id → (X k ∨ C k ∨ (w.heap.size ≤ k ∧ o.isCells = false)) → (⟨k, o⟩ : KB) ∈ prots c.w0 w W C X (rw g ++ (kn g ++ nb x z)) := fun k o ho h0 hni hc =>
              prots_mem.2 ⟨ho, h0, hni, hc.imp id (fun h => h.imp id fun h => ⟨h.1, o, ho, h.2⟩)⟩
            have hpro : ∀ k o, W.heap[k]? = some o → c.w0.heap.size ≤ k → k ∉ (rw g ++ (kn g ++ nb x z)).map KB.id → (X k ∨ C k ∨ (w.heap.size ≤ k ∧ o.isCells = false)) → W'.heap[k]? = some o := fun k o ho h0 hni hc =>
              r3.rok ⟨k, o⟩ (List.mem_append_right _ (hpm k o ho h0 hni hc))
            have hni : ∀ k, (X k ∨ C k) → k ∉ (rw g ++ (kn g ++ nb x z)).map KB.id := fun k hk hm => by
              obtain ⟨kb, hkb, rfl⟩ := List.mem_map.1 hm
              exact hk.elim (hcl kb hkb).1 (hcl kb hkb).2
            have hno : ∀ kb ∈ rw g' ++ kn g', ∀ k, k = kb.id → (X k ∨ C k) → False := fun kb hk k ek hc => by
              have h0 : c.w0.heap.size ≤ k := by
                rw [ek]
                rcases List.mem_append.1 hk with hk | hk
                · exact r3.rlow kb (List.mem_append_left _ hk)
                · exact r3.low kb hk
              have hlt : k < W.heap.size := hc.elim (fun h => (hX k h).2) fun h => Nat.lt_of_lt_of_le (hC k h) hsz
              have hm := hpm k _ (Array.getElem?_eq_getElem hlt) h0 (hni k hc) (hc.imp id .inl)
              have hnd := r3.nd
              rw [List.append_assoc, List.map_append, List.nodup_append, List.map_append, List.nodup_append] at hnd
              rcases List.mem_append.1 hk with hk | hk
              · exact hnd.2.2 _ (List.mem_map_of_mem hk) _ (List.mem_append_left _ (List.mem_map_of_mem hm)) ek.symm
              · exact hnd.2.1.2.2 _ (List.mem_map_of_mem hm) _ (List.mem_map_of_mem hk) ek
            have hkf : KeepsFrom w.heap.size W W' := ⟨r4, fun k o hk ho hc => hpro k o ho (by omega) (fun hm => by
              obtain ⟨kb, hkb, rfl⟩ := List.mem_map.1 hm
              rcases List.mem_append.1 hkb with hkb | hkb
              · have := q4.rok kb hkb
                rw [ho] at this
                cases this
                rw [hI.cells kb hkb] at hc
                cases hc
              · have := q4.ok kb hkb
                rcases List.mem_append.1 hkb with hkb | hkb
                · have := hI.old kb hkb; omega
                · rw [ho] at this
                  cases this
                  rw [(hnb x z kb hkb).1] at hc
                  cases hc) (.inr (.inr ⟨hk, hc⟩))⟩
            have hkeep : Keep n₀ C X W W' := keep_prots q4 r3.below hn₀ r4 hni hpro
            exact ⟨hkf, hkeep, g', r0, r3.dropR, fun kb hk => ⟨fun hx => hno kb hk _ rfl (.inl hx), fun hx => hno kb hk _ rfl (.inr hx)⟩, hcells g', hold g', hI.xs, Nat.le_trans hI.size r4⟩
          have hrun := hbody l pre x g z _ W (fun a' W' => itPost w.heap.size n₀ C X (fun pre X W => ∃ g, RInv c w C rel kn rw pre X W g) (fun cc pre X W => cc = .exit xid ∧ ∃ g, RInv c w C relx kn rw pre X W g) (pre ++ [x]) W .normal a' W') (fun a' W' => itPost w.heap.size n₀ C X (fun pre X W => ∃ g, RInv c w C rel kn rw pre X W g) (fun cc pre X W => cc = .exit xid ∧ ∃ g, RInv c w C relx kn rw pre X W g) (pre ++ [x]) W (.exit xid) a' W') hI.rel hel q6 hsz ?_ ?_ ⟨hpr, Nat.le_refl _⟩
          · refine wpIn_mono (hrun.go a' q2 q3) fun e b v h => ?_
            cases e with
            | normal => exact h
            | exit i => obtain ⟨rfl, h⟩ := h; exact h
            | _ => exact h.elim
          · intro g' b W' r0 _ r3 r4
            exact hend rel g' W' r0 r3 r4
          · intro g' b W' r0 _ r3 r4
            obtain ⟨h1, h2, h3⟩ := hend relx g' W' r0 r3 r4
            exact ⟨h1, h2, rfl, h3⟩
        · rintro D cc xs X W hD ⟨rfl, g, hI⟩ hDo
          have hAD : At c.w0 W (kn g ++ [⟨D, .deferred (some [])⟩]) (rw g) W.heap.size := by
            refine ⟨fun kb hk => ?_, hI.at_.rok, fun kb hk => ?_, hI.at_.rlow, ?_, rfl, hI.at_.below⟩
            · rcases List.mem_append.1 hk with hk | hk
              · exact hI.at_.ok kb hk
              · rw [List.mem_singleton.1 hk]; exact hDo
            · rcases List.mem_append.1 hk with hk | hk
              · exact hI.at_.low kb hk
              · rw [List.mem_singleton.1 hk]; exact Nat.le_trans hw0 hD
            · rw [← List.append_assoc, List.map_append, List.nodup_append]
              refine ⟨hI.at_.nd, by simp, ?_⟩
              intro i hi j hj e
              simp only [List.map_cons, List.map_nil, List.mem_singleton] at hj
              obtain ⟨kb, hkb, rfl⟩ := List.mem_map.1 hi
              rcases List.mem_append.1 hkb with hkb | hkb
              · have h1 := hI.at_.rok kb hkb
                rw [e, hj, hDo] at h1
                have h2 := hI.cells kb hkb
                rw [← Option.some.inj h1] at h2
                cases h2
              · have := hI.old kb hkb
                omega
          have := (hdone D xs g W hI.rel hD ⟨hAD, Nat.le_trans hA.lo hI.size⟩).go { a with defers := markOf D :: a.defers } ⟨hR.1, hR.2⟩ (by show markOf D :: a.defers = markOf D :: c.ds; rw [hd])
          have this : kQ (c.marked D) stk (.exit xid) { a with defers := markOf D :: a.defers } W := this
          rw [kQ_marked] at this
          exact wpIn_exit this
    | _ => cases h
end
end Go.Proofs.Ytfidkgpimlpdbaa

/- Symbolic runs: appends anywhere in a region that draws. -/
namespace Go.Proofs.Ytfidkgpimlpdbaa
open Go.RowKit Go.Shelf

theorem appGD {c : Ctx} {S : Sta} {w : World} {ob rest : List KB} {t e ty : TypeId} {z v : Value} {size bytes n m cp : Nat} {a : Addr} {vs : List Value} (news : List Value) (hA : AtS c S w (ob ++ rest)) (hr : RowV e size v n vs ob)
    (h : (holdL S S.env.known, appOf c.P c.N S, semOf c.P c.N S [], infoOf c.P t) = (holdR S, some (t, v, .slice (some a) m cp, ty), some (appSem t ty v (.slice (some a) m cp), []), some (e, z, size, bytes)))
    (hl : news.length = m * size) (hnews : ∀ j u, news[j]? = some u → w.cell? (a.add j) = some u) (h1 : (news.all fun u => oneCell u) = true) (hmax : n + m ≤ 1000000000) (hb : bytes ≤ 140000)
    (k : ∀ v' w' ob', RowV e size v' (n + m) (vs ++ news) ob' → (v' = .slice none 0 0 ↔ v = .slice none 0 0 ∧ m = 0) → (v'.ownBlock = v.ownBlock ∨ v'.ownBlock = some w.heap.size) → w.heap.size ≤ w'.heap.size → AtS c (knS (valS c.N S v' w'.heap.size) S.env.known) w' (ob' ++ rest) → Run c (knS (valS c.N S v' w'.heap.size) S.env.known) w') : Run c S w := by
  simp only [Prod.mk.injEq] at h
  obtain ⟨h0, -, hsem, hinf⟩ := h
  obtain ⟨i, ht, hi, hz, hsize, hby, hzs, hsz⟩ := infoOf_spec hinf
  obtain ⟨v', w', hrun, hown, hg, hnil, hat⟩ := run_append_own_at (P := c.P) w c.w0.heap.size t ty e i z size bytes ht hi hz hsize hby hzs hsz v n vs (hr.own hA.at_) a m cp news hl hnews (ones_of h1) (by simp only [maxLen]; omega) (by
      have : (n + m) * bytes ≤ 1000000000 * 140000 := Nat.mul_le_mul hmax hb
      omega) hA.below.size
  obtain ⟨ob', hr', hA'⟩ := At.row hA.at_ hr hown hg (by rcases hat with h | h; exact .inl h; exact .inr fun g e => by rw [h] at e; cases e; exact Nat.le_refl _)
  refine opwD [] on (s := appSem t ty v (.slice (some a) m cp)) (by rw [h0, hsem]) (nx := .value v') ?_ (.inl rfl) hA' (Nat.le_trans hA.lo hg.size) (k v' w' ob' hr' hnil hat hg.size)
  unfold appSem
  rw [Sem.run_bind', hrun]
  rfl
theorem appND {c : Ctx} {S : Sta} {w : World} {rows : List KB} {t e ty : TypeId} {z : Value} {size bytes n cap m cp : Nat} {A A' : Option Addr} (olds news : List Value) (hA : AtS c S w rows)
    (h : (holdL S S.env.known, appOf c.P c.N S, semOf c.P c.N S [], infoOf c.P t) = (holdR S, some (t, .slice A n cap, .slice A' m cp, ty), some (appSem t ty (.slice A n cap) (.slice A' m cp), []), some (e, z, size, bytes)))
    (hlo : olds.length = n * size) (holds : ReadsAt w A olds) (hc : A = none → cap = 0) (hnc : n ≤ cap) (hl : news.length = m * size) (hnews : ReadsAt w A' news) (h1 : (news.all fun u => oneCell u) = true) (hg : cap < n + m) (hmax : n + m ≤ 1000000000) (hb : bytes ≤ 140000)
    (k : ∀ v' w' ob', RowV e size v' (n + m) (olds ++ news) ob' → (∀ g, v'.ownBlock = some g → w.heap.size ≤ g) → Below w.heap.size w w' → AtS c (knS (valS c.N S v' w'.heap.size) S.env.known) w' (ob' ++ rows) → Run c (knS (valS c.N S v' w'.heap.size) S.env.known) w') : Run c S w := by
  simp only [Prod.mk.injEq] at h
  obtain ⟨h0, -, hsem, hinf⟩ := h
  obtain ⟨i, ht, hi, hz, hsize, hby, hzs, hsz⟩ := infoOf_spec hinf
  obtain ⟨v', w', hrun, hown, hgr⟩ := run_append_new (P := c.P) w t ty e i z size bytes ht hi hz hsize hby hzs hsz A n cap olds hlo holds hc hnc A' m cp news hl hnews (ones_of h1) hg (by simp only [maxLen]; omega) (by
      have : (n + m) * bytes ≤ 1000000000 * 140000 := Nat.mul_le_mul hmax hb
      omega)
  have hge : ∀ g, v'.ownBlock = some g → w.heap.size ≤ g := fun g e => by
    rcases hown.2 with ⟨h1, -⟩ | ⟨g', cap', cur, h1, h2, -⟩
    · rw [h1] at e; cases e
    · rw [h1] at e
      have : g' = g := by simpa [Value.ownBlock] using e
      omega
  have hown' : w'.ownsRow c.w0.heap.size e size v' (n + m) (olds ++ news) := by
    refine ⟨hown.1, ?_⟩
    rcases hown.2 with h1 | ⟨g', cap', cur, h1, h2, h3⟩
    · exact .inl h1
    · exact .inr ⟨g', cap', cur, h1, Nat.le_trans hA.below.size h2, h3⟩
  obtain ⟨ob', hr', hA'⟩ := At.row (ob := []) hA.at_ (RowV.nil e size) hown' hgr (.inr hge)
  refine opwD [] on (s := appSem t ty (.slice A n cap) (.slice A' m cp)) (by rw [h0, hsem]) (nx := .value v') ?_ (.inl rfl) hA' (Nat.le_trans hA.lo hgr.size) (k v' w' ob' hr' hge ((Below.refl _ _).grown hgr (Nat.le_refl _) (fun _ e => by cases e)))
  unfold appSem
  rw [Sem.run_bind', hrun]
  rfl
theorem appED {c : Ctx} {S : Sta} {w : World} {ob rest : List KB} {t e ty : TypeId} {z v : Value} {size bytes n m cp : Nat} {A : Option Addr} {vs : List Value} (news : List Value) (hA : AtS c S w (ob ++ rest)) (hr : RowV e size v n vs ob)
    (h : (holdL S S.env.known, appOf c.P c.N S, semOf c.P c.N S [], infoOf c.P t) = (holdR S, some (t, v, .slice A m cp, ty), some (appSem t ty v (.slice A m cp), []), some (e, z, size, bytes)))
    (hl : news.length = m * size) (hnews : ReadsAt w A news) (h1 : (news.all fun u => oneCell u) = true) (hmax : n + m ≤ 1000000000) (hb : bytes ≤ 140000)
    (k : ∀ v' w' ob', RowV e size v' (n + m) (vs ++ news) ob' → (v' = .slice none 0 0 ↔ v = .slice none 0 0 ∧ m = 0) → (v'.ownBlock = v.ownBlock ∨ v'.ownBlock = some w.heap.size) → w.heap.size ≤ w'.heap.size → AtS c (knS (valS c.N S v' w'.heap.size) S.env.known) w' (ob' ++ rest) → Run c (knS (valS c.N S v' w'.heap.size) S.env.known) w') : Run c S w := by
  by_cases hm : m = 0
  · subst hm
    have hn0 : news = [] := by simpa using hl
    subst hn0
    simp only [Prod.mk.injEq] at h
    obtain ⟨h0, -, hsem, hinf⟩ := h
    obtain ⟨i, ht, hi, hz, hsize, hby, hzs, hsz⟩ := infoOf_spec hinf
    have hrun : (appSem t ty v (.slice A 0 cp)).run c.P w = .ok (.value v) w := by
      unfold appSem
      rw [Sem.run_bind']
      rcases hr.2 with ⟨rfl, rfl, -⟩ | ⟨g, cap, cur, rfl, -, hc, -⟩
      · rw [run_append_empty w t ty e i ht hi none A 0 0 cp (Nat.le_refl _)]; rfl
      · rw [run_append_empty w t ty e i ht hi _ A n cap cp hc]; rfl
    exact opwD [] on (s := appSem t ty v (.slice A 0 cp)) (by rw [h0, hsem]) (nx := .value v) hrun (.inl rfl) hA.at_.resize hA.lo (k v w ob (by rw [List.append_nil]; exact hr) ⟨fun h => ⟨h, rfl⟩, fun h => h.1⟩ (.inl rfl) (Nat.le_refl _))
  · have hnn : news ≠ [] := fun h' => by
      obtain ⟨i, ht, hi, hz, hsize, hby, hzs, hsz⟩ := infoOf_spec (Prod.mk.inj (Prod.mk.inj (Prod.mk.inj h).2).2).2
      rw [h'] at hl
      have := Nat.mul_pos (Nat.pos_of_ne_zero hm) hsz
      simp at hl
      omega
    obtain ⟨a, rfl, hs⟩ := hnews hnn
    exact appGD news hA hr h hl hs h1 hmax hb k
/-- The same; the new row is told as a slice. -/
theorem appEDS {c : Ctx} {S : Sta} {w : World} {ob rest : List KB} {t e ty : TypeId} {z v : Value} {size bytes n m cp : Nat} {A : Option Addr} {vs : List Value} (news : List Value) (hA : AtS c S w (ob ++ rest)) (hr : RowV e size v n vs ob)
    (h : (holdL S S.env.known, appOf c.P c.N S, semOf c.P c.N S [], infoOf c.P t) = (holdR S, some (t, v, .slice A m cp, ty), some (appSem t ty v (.slice A m cp), []), some (e, z, size, bytes)))
    (hl : news.length = m * size) (hnews : ReadsAt w A news) (h1 : (news.all fun u => oneCell u) = true) (hmax : n + m ≤ 1000000000) (hb : bytes ≤ 140000)
    (h0 : 0 < n + m)
    (k : ∀ g' c' w' ob', RowV e size (.slice (some ⟨g', 0, none⟩) (n + m) c') (n + m) (vs ++ news) ob' → AtS c (knS (valS c.N S (.slice (some ⟨g', 0, none⟩) (n + m) c') w'.heap.size) S.env.known) w' (ob' ++ rest) → Run c (knS (valS c.N S (.slice (some ⟨g', 0, none⟩) (n + m) c') w'.heap.size) S.env.known) w') : Run c S w := by
  refine appED news hA hr h hl hnews h1 hmax hb fun v' w' ob' hr2 _ _ _ hA2 => ?_
  rcases hr2.2 with ⟨-, h9, -⟩ | ⟨g2, c2, u2, e2, -⟩
  · omega
  · subst e2
    exact k _ _ w' ob' hr2 hA2
theorem appES {c : Ctx} {S : Sta} {w : World} {ob rest : List KB} {t e ty : TypeId} {z v : Value} {size bytes n m cp : Nat} {A : Option Addr} {vs : List Value} (news : List Value) (hA : AtS c S w (ob ++ rest)) (hr : RowV e size v n vs ob)
    (h : (noDraw S, appOf c.P c.N S, semOf c.P c.N S [], infoOf c.P t) = (true, some (t, v, .slice A m cp, ty), some (appSem t ty v (.slice A m cp), []), some (e, z, size, bytes)))
    (hl : news.length = m * size) (hnews : ReadsAt w A news) (h1 : (news.all fun u => oneCell u) = true) (hmax : n + m ≤ 1000000000) (hb : bytes ≤ 140000)
    (h0 : 0 < n + m)
    (k : ∀ g' c' w' ob', RowV e size (.slice (some ⟨g', 0, none⟩) (n + m) c') (n + m) (vs ++ news) ob' → AtS c (knS (valS c.N S (.slice (some ⟨g', 0, none⟩) (n + m) c') w'.heap.size) S.env.known) w' (ob' ++ rest) → Run c (knS (valS c.N S (.slice (some ⟨g', 0, none⟩) (n + m) c') w'.heap.size) S.env.known) w') : Run c S w := by
  refine appE news hA hr h hl hnews h1 hmax hb fun v' w' ob' hr2 _ _ _ hA2 => ?_
  rcases hr2.2 with ⟨-, h9, -⟩ | ⟨g2, c2, u2, e2, -⟩
  · omega
  · subst e2
    exact k _ _ w' ob' hr2 hA2
theorem appNDS {c : Ctx} {S : Sta} {w : World} {rows : List KB} {t e ty : TypeId} {z : Value} {size bytes n cap m cp : Nat} {A A' : Option Addr} (olds news : List Value) (hA : AtS c S w rows)
    (h : (holdL S S.env.known, appOf c.P c.N S, semOf c.P c.N S [], infoOf c.P t) = (holdR S, some (t, .slice A n cap, .slice A' m cp, ty), some (appSem t ty (.slice A n cap) (.slice A' m cp), []), some (e, z, size, bytes)))
    (hlo : olds.length = n * size) (holds : ReadsAt w A olds) (hc : A = none → cap = 0) (hnc : n ≤ cap) (hl : news.length = m * size) (hnews : ReadsAt w A' news) (h1 : (news.all fun u => oneCell u) = true) (hg : cap < n + m) (hmax : n + m ≤ 1000000000) (hb : bytes ≤ 140000)
    (h0 : 0 < n + m)
    (k : ∀ g' c' w' ob', RowV e size (.slice (some ⟨g', 0, none⟩) (n + m) c') (n + m) (olds ++ news) ob' → AtS c (knS (valS c.N S (.slice (some ⟨g', 0, none⟩) (n + m) c') w'.heap.size) S.env.known) w' (ob' ++ rows) → Run c (knS (valS c.N S (.slice (some ⟨g', 0, none⟩) (n + m) c') w'.heap.size) S.env.known) w') : Run c S w := by
  refine appND olds news hA h hlo holds hc hnc hl hnews h1 hg hmax hb fun v' w' ob' hr2 _ _ hA2 => ?_
  rcases hr2.2 with ⟨-, h9, -⟩ | ⟨g2, c2, u2, e2, -⟩
  · omega
  · subst e2
    exact k _ _ w' ob' hr2 hA2
end Go.Proofs.Ytfidkgpimlpdbaa
