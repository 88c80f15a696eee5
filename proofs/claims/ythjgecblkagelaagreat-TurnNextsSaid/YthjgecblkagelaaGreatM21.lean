/- Parts of a proof: BI BJ. -/
import Derived.Test.YthjgecblkagelaaGreatM20
import Derived.RangeFuncNested

/- A range whose body may range again; leastLeft: what it computes. -/
namespace Go.Proofs.YthjgecblkagelaaGreat
open Go.RowKit Go.Shelf

attribute [local go_sem] Oper.semAt_some

theorem round_level {n m : Nat} {P : Program} {l : Nat} {f : FuncId} {tmps : Array Value} {assign body : Code} {w : World} {R : Ending → World → Prop} (h : RoundIn Fence.wide n P l f tmps assign body w R) : RoundIn Fence.wide m P l f tmps assign body w R :=
  ⟨h.1, fun c cs _ => h.2 c cs (room_wide _)⟩

set_option maxHeartbeats 1000000 in
theorem range_iterN {α : Type} {P : Program} {g : Operand} {ps : Array Tmp} {assign body : Code} {Q : Exit → Act → World → Prop} {a : Act} {w : World} {gf : Nat} {lb : Array Value}
    (hg : a.eval g = .func (.func gf) #[] lb) (eg : ∀ args w, (callFunc gf args).run P w = .ok (.enter gf args) w)
    {encs : α → Array Value} {n₀ : Nat} {C : Nat → Prop} {S Sp : List α → Prop} {N : Nat} {w0 : World} (hseq : IterAt P gf lb encs n₀ C S Sp N w0)
    (hb0 : Below w0.heap.size w0 w) (hC : ∀ k, C k → k < w.heap.size) (hn₀ : n₀ ≤ w.heap.size) (hps : ∀ x, (encs x).size = ps.size)
    (I : List α → (Nat → Prop) → World → Prop) (Ix : Code → List α → (Nat → Prop) → World → Prop) (hI : Stable w.heap.size I) (hIx : ∀ c, Stable w.heap.size (Ix c)) (h0 : I [] noBlock w)
    (Ax : α → Act → World → Prop) (hAx : ∀ x a' W W', Ax x a' W → St w.heap.size noBlock W W' → Ax x a' W')
    (hassign : ∀ (l : Nat) (pre : List α) (x : α) (X : Nat → Prop) (W : World) (K : Act → World → Prop), I pre X W → w.heap.size ≤ W.heap.size → (∀ k, X k → w.heap.size ≤ k ∧ k < W.heap.size) → (∀ a' W', Keep n₀ C X W W' → KeepsFrom w.heap.size W W' → I pre X W' → Ax x a' W' → K a' W') →
      assign.wpIn (Fence.wide.inRound l) 4 P (Exit.then K (fun _ _ _ => False)) { tmps := (ps.zip (encs x)).foldl (fun t (p, v) => t.setIfInBounds p v) a.tmps, defers := [] } W)
    (hbody : ∀ (l : Nat) (pre : List α) (x : α) (X : Nat → Prop) (a' : Act) (W : World), w.heap.size ≤ l → (∃ r, W.heap[l]? = some (.loop r)) → ¬ X l → I pre X W → Ax x a' W → w.heap.size ≤ W.heap.size → (∀ k, X k → w.heap.size ≤ k ∧ k < W.heap.size) → pre.length < N → body.wpIn (Fence.wide.inRound l) 4 P (itPost w.heap.size n₀ C X I Ix (pre ++ [x]) W) a' W)
    (hdone : ∀ (D : Nat) (xs : List α) (X : Nat → Prop) (W : World), w.heap.size ≤ D → S xs → I xs X W → W.heap[D]? = some (.deferred (some [])) → Q .normal { a with defers := { target := .collected D, args := #[] } :: a.defers } W)
    (hstop : ∀ (D : Nat) (c : Code) (pre : List α) (X : Nat → Prop) (W : World), w.heap.size ≤ D → Sp pre → Ix c pre X W → W.heap[D]? = some (.deferred (some [])) → c.wpIn Fence.wide 3 P Q { a with defers := { target := .collected D, args := #[] } :: a.defers } W) :
    (Code.rangeFunc g ps assign body).wpIn Fence.wide 3 P Q a w := by
  refine wpIn_rangeFunc ?_
  intro fn _
  obtain ⟨rec, hrec⟩ : ∃ rec : LoopState → Option Code → Loop, rec = fun st pe => { state := st, pending := pe, fn, tmps := a.tmps, params := ps, assign, body, defers := w.heap.size } := ⟨_, rfl⟩
  obtain ⟨W1, hW1⟩ : ∃ W1, (w.alloc (.deferred (some []))).alloc (.loop (rec .ready none)) = W1 := ⟨_, rfl⟩
  have hs1 : W1.heap.size = w.heap.size + 2 := by rw [← hW1]; simp
  have hL1 : W1.heap[w.heap.size + 1]? = some (.loop (rec .ready none)) := by
    rw [← hW1]; have := World.alloc_heap_new (w.alloc (.deferred (some []))) (.loop (rec .ready none)); rwa [World.size_alloc] at this
  have hK1 : W1.heap[w.heap.size]? = some (.deferred (some [])) := by
    rw [← hW1]; exact (Below.heap_alloc _ _ _ (by simp)).trans (World.alloc_heap_new w _)
  have hI1 : I [] noBlock W1 := by
    rw [← hW1]
    exact hI _ _ _ _ _ (hI _ _ _ _ _ h0 (St.alloc _ _) (Grows.refl _ _)) (St.alloc _ _) (Grows.refl _ _)
  have hb1 : Below w0.heap.size w0 W1 := by
    rw [← hW1]; exact hb0.trans ((((Below.refl _ w).alloc (Nat.le_refl _) _).alloc (by simp) _).mono hb0.size)
  refine ⟨w.heap.size + 1, [{ target := .collected w.heap.size, args := #[] }], W1, { target := .fn (.func gf) lb, args := #[.func (.yield (w.heap.size + 1)) #[] #[]] }, W1, gf,
    #[.func (.yield (w.heap.size + 1)) #[] #[]] ++ lb, W1, ?_, ?_, ?_, ?_, fun _ => by omega, ?_⟩
  · rw [← hW1, hrec]; exact run_enterLoop_outer _ _ _ _ _
  · simp only [resolve, hg]
    simp [go_sem]
  · intro f' _; trivial
  · simp [invoke, go_sem, eg]
  · refine callsIn_wide.2 ((hseq (w.heap.size + 1)
      (fun pre X W => W1.heap.size ≤ W.heap.size ∧ I pre X W ∧ (∀ k, X k → W1.heap.size ≤ k) ∧ W.heap[w.heap.size + 1]? = some (.loop (rec .ready none)) ∧ W.heap[w.heap.size]? = some (.deferred (some [])))
      (fun pre X W => ∃ c, W1.heap.size ≤ W.heap.size ∧ Ix c pre X W ∧ W.heap[w.heap.size + 1]? = some (.loop (rec .done (some c))) ∧ W.heap[w.heap.size]? = some (.deferred (some [])) ∧ (∀ k, X k → W1.heap.size ≤ k))
      W1 hb1 ?_ ?_ ?_ ⟨Nat.le_refl _, hI1, fun _ h => h.elim, hL1, hK1⟩).mono ?_)
    · rintro pre X X' A B ⟨hz, hi, hx, hl, hk⟩ hst hgr
      have hz' := hst.base.size
      refine ⟨by omega, hI _ _ _ _ _ hi (hst.mono (by omega)) hgr, ?_, hst.same _ _ hl (fun h => by have := hx _ h; omega) (.inr (by omega)), hst.same _ _ hk (fun h => by have := hx _ h; omega) (.inr (by omega))⟩
      intro k h
      rcases hgr.2 k h with h | h
      · exact hx k h
      · omega
    · rintro pre X X' A B ⟨c, hz, hi, hl, hk, hx⟩ hst hgr
      have hz' := hst.base.size
      refine ⟨c, by omega, hIx c _ _ _ _ _ hi (hst.mono (by omega)) hgr, hst.same _ _ hl (fun h => by have := hx _ h; omega) (.inr (by omega)), hst.same _ _ hk (fun h => by have := hx _ h; omega) (.inr (by omega)), ?_⟩
      intro k h
      rcases hgr.2 k h with h | h
      · exact hx k h
      · omega
    · rintro pre x X W ⟨hz, hi, hx, hl, hk⟩ hsz hup hlen
      have hy := run_yield (P := P) (args := encs x) hl (by rw [hrec]; exact hps x)
      rw [hrec] at hy
      have hxw : ∀ k, X k → w.heap.size ≤ k ∧ k < W.heap.size := fun k h => ⟨by have := hx k h; omega, hup k h⟩
      have hXl : ¬ X (w.heap.size + 1) := fun h => by have := hx _ h; omega
      have hCl : ¬ C (w.heap.size + 1) := fun h => by have := hC _ h; omega
      refine ⟨fn, _, assign, body, hy, round_level (roundIn_of_wpIn (n := 4) trivial (hassign _ pre x X W _ hi (by omega) hxw ?_))⟩
      clear hy
      intro a' Wa hka hfa hia hax
      have hla := hfa.same _ _ (by omega) hl rfl
      have hda := hfa.same _ _ (Nat.le_refl _) hk rfl
      have hlta : w.heap.size + 1 < Wa.heap.size := (Array.getElem?_eq_some_iff.1 hla).1
      refine ⟨_, run_beginRound hla (by rw [hrec]), ?_⟩
      obtain ⟨Wb, hWb⟩ : ∃ Wb, Wb = Wa.putObj (w.heap.size + 1) (.loop { rec .ready none with state := .busy }) := ⟨_, rfl⟩
      rw [← hWb]
      have hlb : Wb.heap[w.heap.size + 1]? = some (.loop { rec .ready none with state := .busy }) := by rw [hWb]; exact World.putObj_heap_same hlta
      have hdb : Wb.heap[w.heap.size]? = some (.deferred (some [])) := by rw [hWb]; exact (World.putObj_heap_other (by omega)).trans hda
      have hkb : Keep n₀ C X W Wb := by rw [hWb]; exact hka.trans (Keep.putObj (by omega) hXl hCl hlta)
      have hfb : KeepsFrom W1.heap.size W Wb := by rw [hWb]; exact (KeepsFrom.up hfa (by omega)).trans (KeepsFrom.put (by omega))
      have hszb : w.heap.size ≤ Wb.heap.size := by rw [hWb]; simp; omega
      have hib : I pre X Wb := by rw [hWb]; exact hI.put _ hia (by omega) hla rfl
      have haxb : Ax x a' Wb := by rw [hWb]; exact hAx _ _ _ _ hax (St.putObj hla rfl (by omega))
      refine wpIn_mono (hbody _ pre x X a' Wb (by omega) ⟨_, hlb⟩ hXl hib haxb hszb (fun k h => ⟨(hxw k h).1, Nat.lt_of_lt_of_le (hxw k h).2 hkb.below.size⟩) hlen) ?_
      have fin : ∀ (jump : Option Code) (W3 : World), KeepsFrom w.heap.size Wb W3 → Keep n₀ C X Wb W3 →
          (Instr.endRound (w.heap.size + 1) jump).run P W3 = .ok (.bool jump.isNone) (W3.putObj (w.heap.size + 1) (.loop (rec (if jump.isNone then .ready else .done) jump))) ∧
          W3.heap[w.heap.size + 1]? = some (.loop { rec .ready none with state := .busy }) ∧
          (W3.putObj (w.heap.size + 1) (.loop (rec (if jump.isNone then .ready else .done) jump))).heap[w.heap.size + 1]? = some (.loop (rec (if jump.isNone then .ready else .done) jump)) ∧
          (W3.putObj (w.heap.size + 1) (.loop (rec (if jump.isNone then .ready else .done) jump))).heap[w.heap.size]? = some (.deferred (some [])) ∧
          Keep n₀ C X W (W3.putObj (w.heap.size + 1) (.loop (rec (if jump.isNone then .ready else .done) jump))) ∧
          KeepsFrom W1.heap.size W (W3.putObj (w.heap.size + 1) (.loop (rec (if jump.isNone then .ready else .done) jump))) := fun jump W3 hk3 hkk3 => by
        have hl3 := hk3.same _ _ (by omega) hlb rfl
        have hlt3 : w.heap.size + 1 < W3.heap.size := (Array.getElem?_eq_some_iff.1 hl3).1
        have he := run_endRound (P := P) jump hl3
        refine ⟨?_, hl3, World.putObj_heap_same hlt3, (World.putObj_heap_other (by omega)).trans (hk3.same _ _ (Nat.le_refl _) hdb rfl), (hkb.trans hkk3).trans (Keep.putObj (by omega) hXl hCl hlt3), (hfb.trans (KeepsFrom.up hk3 (by omega))).trans (KeepsFrom.put (by omega))⟩
        rw [hrec] at he ⊢
        exact he
      rintro e a3 W3 hp
      cases e with
      | normal =>
        obtain ⟨hk3, hkp3, hi3⟩ := hp
        have hz3 := hkp3.below.size
        have hz2 := hkb.below.size
        obtain ⟨hr, hl3, hl4, hk4, h5, h6⟩ := fin none W3 hk3 hkp3
        exact ⟨_, _, hr, .inl ⟨rfl, by simp; omega, hI.put _ hi3 (by omega) hl3 rfl, hx, hl4, hk4⟩, h5, h6⟩
      | ret =>
        obtain ⟨hk3, hkp3, hi3⟩ := hp
        have hz3 := hkp3.below.size
        have hz2 := hkb.below.size
        obtain ⟨hr, hl3, hl4, hk4, h5, h6⟩ := fin (some .ret) W3 hk3 hkp3
        exact ⟨_, _, hr, .inr ⟨rfl, .ret, by simp; omega, (hIx _).put _ hi3 (by omega) hl3 rfl, hl4, hk4, hx⟩, h5, h6⟩
      | exit id =>
        obtain ⟨hk3, hkp3, hi3⟩ := hp
        have hz3 := hkp3.below.size
        have hz2 := hkb.below.size
        obtain ⟨hr, hl3, hl4, hk4, h5, h6⟩ := fin (some (.exit id)) W3 hk3 hkp3
        exact ⟨_, _, hr, .inr ⟨rfl, .exit id, by simp; omega, (hIx _).put _ hi3 (by omega) hl3 rfl, hl4, hk4, hx⟩, h5, h6⟩
      | goto t =>
        obtain ⟨hk3, hkp3, hi3⟩ := hp
        have hz3 := hkp3.below.size
        have hz2 := hkb.below.size
        obtain ⟨hr, hl3, hl4, hk4, h5, h6⟩ := fin (some (.goto t)) W3 hk3 hkp3
        exact ⟨_, _, hr, .inr ⟨rfl, .goto t, by simp; omega, (hIx _).put _ hi3 (by omega) hl3 rfl, hl4, hk4, hx⟩, h5, h6⟩
      | panic ch => exact hp.elim
      | outgrown => exact hp.elim
    · rintro e W2 ⟨⟨v, rfl⟩, X, (⟨xs, hS, -, hi, hx, hl, hk⟩ | ⟨pre, hSp, c, -, hi, hl, hk, hx⟩)⟩
      · exact ⟨none, _, by have := run_endLoop (P := P) hl (by rw [hrec]; simp); rw [hrec] at this; exact this, hdone _ xs X _ (Nat.le_refl _) hS (hI.put _ hi (by omega) hl rfl) ((World.putObj_heap_other (by omega)).trans hk)⟩
      · exact ⟨some c, _, by have := run_endLoop (P := P) hl (by rw [hrec]; simp); rw [hrec] at this; exact this, hstop _ c pre X _ (Nat.le_refl _) hSp ((hIx c).put _ hi (by omega) hl rfl) ((World.putObj_heap_other (by omega)).trans hk)⟩

/-- A range over an iterator whose last element is a place, in a function that is called plainly: the loop's variable is a new block. -/
theorem range_plN {α : Type} {P : Program} {g : Operand} {ps : Array Tmp} {assign body : Code} {Q : Exit → Act → World → Prop} {a : Act} {w : World} {gf : Nat} {lb : Array Value}
    (hg : a.eval g = .func (.func gf) #[] lb) (eg : ∀ args w, (callFunc gf args).run P w = .ok (.enter gf args) w)
    {encs : α → Array Value} (pl : α → Pl) {n₀ : Nat} {C : Nat → Prop} {S Sp : List α → Prop} {N : Nat} {w0 : World} (hseq : IterAt P gf lb encs n₀ C S Sp N w0)
    (hb0 : Below w0.heap.size w0 w) (hC : ∀ k, C k → k < w.heap.size) (hn₀ : n₀ ≤ w.heap.size) (hps : ∀ x, (encs x).size = ps.size)
    (I : List α → (Nat → Prop) → World → Prop) (Ix : Code → List α → (Nat → Prop) → World → Prop) (hI : Stable w.heap.size I) (hIx : ∀ c, Stable w.heap.size (Ix c)) (h0 : I [] noBlock w)
    (a₁ : α → Nat → Act)
    (hassign : ∀ (l : Nat) (x : α) (W : World) (b : Nat) (K : Act → World → Prop), b = W.heap.size → K (a₁ x b) (W.alloc (.cells (plc (pl x)) 64)) →
      assign.wpIn (Fence.wide.inRound l) 4 P (Exit.then K (fun _ _ _ => False)) { tmps := (ps.zip (encs x)).foldl (fun t (p, v) => t.setIfInBounds p v) a.tmps, defers := [] } W)
    (hbody : ∀ (l : Nat) (pre : List α) (x : α) (X : Nat → Prop) (b : Nat) (W : World), w.heap.size ≤ l → (∃ r, W.heap[l]? = some (.loop r)) → ¬ X l → I pre X W → PlAt W b (pl x) → w.heap.size ≤ b → w.heap.size ≤ W.heap.size → (∀ k, X k → w.heap.size ≤ k ∧ k < W.heap.size) → pre.length < N → body.wpIn (Fence.wide.inRound l) 4 P (itPost w.heap.size n₀ C X I Ix (pre ++ [x]) W) (a₁ x b) W)
    (hdone : ∀ (D : Nat) (xs : List α) (X : Nat → Prop) (W : World), w.heap.size ≤ D → S xs → I xs X W → W.heap[D]? = some (.deferred (some [])) → Q .normal { a with defers := { target := .collected D, args := #[] } :: a.defers } W)
    (hstop : ∀ (D : Nat) (c : Code) (pre : List α) (X : Nat → Prop) (W : World), w.heap.size ≤ D → Sp pre → Ix c pre X W → W.heap[D]? = some (.deferred (some [])) → c.wpIn Fence.wide 3 P Q { a with defers := { target := .collected D, args := #[] } :: a.defers } W) :
    (Code.rangeFunc g ps assign body).wpIn Fence.wide 3 P Q a w :=
  range_iterN hg eg hseq hb0 hC hn₀ hps I Ix hI hIx h0 (fun x a' W => ∃ b, a' = a₁ x b ∧ PlAt W b (pl x) ∧ w.heap.size ≤ b)
    (fun x a' W W' ⟨b, h1, h2, h3⟩ hst => ⟨b, h1, hst.same _ _ h2 (fun h => h) (.inl rfl), h3⟩)
    (fun l pre x X W K hi hz hX hK => hassign l x W _ K rfl (by
      have hbb : Below W.heap.size W (W.alloc (.cells (plc (pl x)) 64)) := (Below.refl _ W).alloc (Nat.le_refl _) _
      exact hK _ _ (Keep.of_below hbb (by omega)) (KeepsFrom.of_below hbb) (hI _ _ _ _ _ hi (St.of_below hbb) (Grows.refl _ _)) ⟨W.heap.size, rfl, PlAt.new W _, hz⟩))
    (fun l pre x X a' W hl hr hXl hi ⟨b, h1, h2, h3⟩ hz hX hlen => by subst h1; exact hbody l pre x X b W hl hr hXl hi h2 h3 hz hX hlen)
    hdone hstop


theorem lookup_ok {α : Type} {enc : α → Value} {W : World} {b : Nat} {m : List (Pl × α)} (h : MapAt α enc W b m) (mt et : TypeId) (z : α) (hm : Tryz.prog.underlying mt = some (.map 64 et)) (hz : ∀ w, (zeroValue et).run Tryz.prog w = .ok (enc z) w) (p : Pl) :
    (Instr.lookup mt (.map (some b)) (plv p) true).run Tryz.prog W = .ok (.tuple #[enc (mget z m p), .bool (mfind p m).isSome]) W := by
  obtain ⟨es, clock, hh, he, -, -⟩ := h
  have hg : (getObj b).run Tryz.prog W = .ok (.map es clock) W := by simp [getObj, Sem.run, hh]
  simp only [Instr.lookup, Sem.run_bind, run_underlying hm, Result.andThen_ok, hg, Sem.run_pure, checkKey_pl, findKey_pl enc p W es.toList m he]
  unfold mget
  cases mfind p m with
  | none => simp [hz]
  | some r => simp
theorem zeroI64 (w : World) : (zeroValue 2).run Tryz.prog w = .ok (encI 0) w := by kernel_rfl

def ownStep (o : List (Pl × Int)) (s : List Int × Int) : List (Pl × Int) := if (mfind (plOf s.1) o).isSome = true then (if s.2 < mget 0 o (plOf s.1) then mset (plOf s.1) s.2 o else o) else mset (plOf s.1) s.2 o
def ownF (ss : List (List Int × Int)) : List (Pl × Int) := ss.foldl ownStep []
theorem ownF_snoc (ss : List (List Int × Int)) (s : List Int × Int) : ownF (ss ++ [s]) = ownStep (ownF ss) s := by simp [ownF]
def left0 (o : List (Pl × Int)) (p : Pl) : Int := if (mfind p o).isSome = true then mget 0 o p else 1099511627777
def minStep (p : Pl) (ls : List (Pl × Int)) (left : Int) (i : Nat) : Int := if 0 < p.get i then (if mget 0 ls (p.set i (p.get i - 1)) < left then mget 0 ls (p.set i (p.get i - 1)) else left) else left
def minL (p : Pl) (ls : List (Pl × Int)) (left : Int) (l : List Nat) : Int := l.foldl (minStep p ls) left
theorem minL_snoc (p : Pl) (ls : List (Pl × Int)) (left : Int) (l : List Nat) (i : Nat) : minL p ls left (l ++ [i]) = minStep p ls (minL p ls left l) i := by simp [minL]
def llStep (ts : List Int) (o ls : List (Pl × Int)) (p : Pl) : List (Pl × Int) := mset p (minL p ls (left0 o p) (List.range ts.length)) ls
def llP (ts : List Int) (o : List (Pl × Int)) (ps : List Pl) : List (Pl × Int) := ps.foldl (llStep ts o) []
theorem llP_snoc (ts : List Int) (o : List (Pl × Int)) (ps : List Pl) (p : Pl) : llP ts o (ps ++ [p]) = llStep ts o (llP ts o ps) p := by simp [llP]
/-- The least Left of steps, for each state. -/
def llF (ts : List Int) (ss : List (List Int × Int)) : List (Pl × Int) := llP ts (ownF ss) ((statesL ts).map plOf)
theorem ownFrom_keep {β : Type} {n₀ B : Nat} {C X : Nat → Prop} {w₀ : World} (hz : w₀.heap.size ≤ B) (hn : n₀ ≤ w₀.heap.size) : OwnFrom B (fun (_ : β) W => Keep n₀ C X w₀ W) := fun _ W W' row hs hg hr =>
  ⟨hs.below.trans ((Below.refl _ W).grown hg (by have := hs.below.size; omega) (fun r e => by have := (hr r e).1; omega)), fun k o hk hc => by
    have h1 := hs.same k o hk hc
    have h2 := (Array.getElem?_eq_some_iff.1 hk).1
    exact (hg.block k (Array.getElem?_eq_some_iff.1 h1).1 (fun e => by have := (hr k e.symm).1; omega)).trans h1⟩
end Go.Proofs.YthjgecblkagelaaGreat

/- leastLeft. -/
namespace Go.Proofs.YthjgecblkagelaaGreat
open Go.RowKit Go.Shelf

attribute [local go_sem] Oper.semAt_some

/-- A range over slices.All(ts) within a round. -/
theorem range_allN {l₀ : Nat} {g : Operand} {ps : Array Tmp} {assign body : Code} {Q : Exit → Act → World → Prop} {a : Act} {w : World} {Bs n₀ : Nat} {A : Option Addr} {len cap : Nat} {ts : List Int} (hl₀ : ∃ r, w.heap[l₀]? = some (.loop r))
    (hg : a.eval g = .func (.func 108) #[] #[.pointer (some ⟨Bs, 0, none⟩)]) (hBs : Bs < w.heap.size) (hn₀ : n₀ ≤ w.heap.size) (hc : w.cell? ⟨Bs, 0, none⟩ = some (.slice A len cap)) (hx : IntsAt w n₀ A len ts) (hps : ps.size = 2)
    (I : List (Fin len) → World → Prop) (hI : OwnFrom w.heap.size I) (h0 : I [] w) (a₁ : Fin len → Act)
    (hassign : ∀ (l : Nat) (x : Fin len) (W : World) (K : Act → World → Prop), K (a₁ x) W →
      assign.wpIn (Fence.wide.inRound l) 2 Tryz.prog (Exit.then K (fun _ _ _ => False)) { tmps := (ps.zip #[.int .i64 (x.1 : Int), .int .i64 (ts[x.1]?.getD 0)]).foldl (fun t (p, v) => t.setIfInBounds p v) a.tmps, defers := [] } W)
    (hbody : ∀ (l : Nat) (pre : List (Fin len)) (x : Fin len) (W : World), I pre W → pre.length < len → body.wpIn (Fence.wide.inRound l) 2 Tryz.prog (ownPostG w.heap.size (Below n₀) I (fun _ _ _ => False) (pre ++ [x]) W) (a₁ x) W)
    (hdone : ∀ (W : World), I (List.finRange len) W → Q .normal a W) :
    (Code.rangeFunc g ps assign body).wpIn (Fence.wide.inRound l₀) 4 Tryz.prog Q a w := by
  obtain ⟨r, hr⟩ := hl₀
  exact wpIn_rangeFunc_ownN (F := Fence.wide.inRound l₀) (n := 4) rfl hr (by omega) hg trivial (enters_of Tryz.func108 (by kernel_rfl) rfl)
    (SeqStopsK.inRound l₀ (all_stops Fence.wide 3 trivial rfl (by omega) Bs n₀ A len cap ts w hBs hn₀ hc hx)) belowK_t (belowK_b hn₀) (Below.refl _ _) (fun _ => by simp [encIx, hps])
    I (fun _ _ _ => False) hI (fun _ _ _ _ _ h => h.elim) h0 (fun x a' _ => a' = a₁ x) (fun x a' => ownFrom_pure _ (fun _ => a' = a₁ x))
    (fun l pre x W K hi hK => hassign l x W K (hK _ _ (KeepsFrom.refl _ _) (Below.refl _ _) hi rfl))
    (fun l pre x a' W _ _ hi e hlen => by subst e; exact hbody l pre x W hi hlen) (fun xs W hS h => by subst hS; exact hdone W h) (fun _ _ _ _ h => h.elim)

/-- What the memory holds while the least Left are counted. -/
structure LlB (w : World) (B bl : Nat) (A : Option Addr) (n c : Nat) (o ls : List (Pl × Int)) (X : Nat → Prop) (W : World) : Prop where
  hX : ∀ k, X k → B ≤ k
  hz : B ≤ W.heap.size
  hb : Boxed W w.heap.size 57 (.slice A n c)
  bo : Boxed W (w.heap.size + 2) 122 (.map (some (w.heap.size + 1)))
  mo : MapAt Int encI W (w.heap.size + 1) o
  bm : Boxed W (bl + 1) 122 (.map (some bl))
  ml : MapAt Int encI W bl ls
  bel : Below w.heap.size w W
section
variable {w : World} {B bl : Nat} {A : Option Addr} {n c : Nat} {o ls : List (Pl × Int)} {X X' : Nat → Prop} {W W' : World}
theorem LlB.st (h : LlB w B bl A n c o ls X W) (hst : St B X W W') (hgr : Grows X X' W) (h1 : w.heap.size + 3 ≤ bl) (h2 : bl + 2 ≤ B) : LlB w B bl A n c o ls X' W' := by
  have hX := h.hX
  have hz := h.hz
  have hbz := h.bel.size
  exact ⟨fun k hk => (hgr.2 k hk).elim (hX k) (fun h => by omega), Nat.le_trans hz hst.base.size, hst.bx h.hb (fun h => by have := hX _ h; omega), hst.bx h.bo (fun h => by have := hX _ h; omega), hst.mp h.mo (fun h => by have := hX _ h; omega) (by omega),
    hst.bx h.bm (fun h => by have := hX _ h; omega), hst.mp h.ml (fun h => by have := hX _ h; omega) (by omega), h.bel.trans (hst.below (fun k h => by have := hX k h; omega) (by omega) hbz)⟩
/-- A store into a block that is none of these. -/
theorem LlB.setO (h : LlB w B bl A n c o ls X W) (h2 : bl + 2 ≤ B) (h1 : w.heap.size + 3 ≤ bl) (b i : Nat) (hb : B ≤ b) (u : Value) : LlB w B bl A n c o ls X (W.setCell ⟨b, i, none⟩ u) := by
  have key : ∀ k, k < B → (W.setCell ⟨b, i, none⟩ u).heap[k]? = W.heap[k]? := fun k hk => Below.heap_setCell _ ⟨b, i, none⟩ _ _ (show k ≠ b by omega)
  have hz := h.hz
  exact ⟨h.hX, by simpa [World.setCell] using hz, (key _ (by omega)).trans h.hb, (key _ (by omega)).trans h.bo, h.mo.same (key _ (by omega)), (key _ (by omega)).trans h.bm, h.ml.same (key _ (by omega)), h.bel.setCell (p := ⟨b, i, none⟩) (show w.heap.size ≤ b by omega) _⟩
end

theorem plc_set (p : Pl) {i : Nat} (hi : i < 5) (v : Int) : ([Value.int .i64 p.n, Value.int .i64 p.a, Value.int .i64 p.b, Value.int .i64 p.c, Value.int .i64 p.d, Value.int .i64 p.e].set (1 + i) (Value.int .i64 v)).toArray = plc (p.set i v) := by
  have h5 : i = 0 ∨ i = 1 ∨ i = 2 ∨ i = 3 ∨ i = 4 := by omega
  rcases h5 with rfl | rfl | rfl | rfl | rfl <;> rfl

set_option maxRecDepth 100000 in
set_option maxHeartbeats 8000000 in
theorem leastLeft_any (w : World) (B B2 : Nat) (A A2 : Option Addr) (n c k d : Nat) (ts : List Int) (ss : List (List Int × Int)) (hx : IntsAt w B A n ts) (hB : B ≤ w.heap.size) (hv : Valid ts) (hs : StepsAt w B2 A2 k ss) (hB2 : B2 ≤ w.heap.size) (hs5 : ∀ s ∈ ss, s.1.length ≤ 5) :
    Calls Tryz.prog 87 #[.agg #[.slice A n c], .slice A2 k d] w fun e w' => ∃ b, e = .returned (.map (some b)) ∧ w.heap.size ≤ b ∧ MapAt Int encI w' b (llF ts ss) ∧ Below w.heap.size w w' := by
  have hn := hx.len
  have hmm := @run_makeMap Tryz.prog
  have hk9 := hs.2.1
  have hsl := hs.1
  have hv5 := hv.h5
  have hv1 := hv.h1
  obtain ⟨V, hV⟩ : ∃ V, V = ((w.alloc (.cells #[.slice A n c] 57)).alloc (.map #[] 0)).alloc (.cells #[.map (some (w.heap.size + 1))] 122) := ⟨_, rfl⟩
  have hzV : V.heap.size = w.heap.size + 3 := by rw [hV]; simp
  have hbV : Below w.heap.size w V := by rw [hV]; exact (((Below.refl _ w).alloc (Nat.le_refl _) _).alloc (by simp) _).alloc (by simp; omega) _
  have x0 : Boxed V w.heap.size 57 (.slice A n c) := by rw [hV]; exact ((Boxed.new w 57 (.slice A n c)).alloc _).alloc _
  have x1 : MapAt Int encI V (w.heap.size + 1) [] := by
    rw [hV]
    have := MapAt.new (α := Int) (enc := encI) (w.alloc (.cells #[.slice A n c] 57))
    simp only [World.size_alloc] at this
    exact this.alloc _
  have x2 : Boxed V (w.heap.size + 2) 122 (.map (some (w.heap.size + 1))) := by
    rw [hV]
    have := Boxed.new ((w.alloc (.cells #[.slice A n c] 57)).alloc (.map #[] 0)) 122 (.map (some (w.heap.size + 1)))
    simp only [World.size_alloc, Nat.add_assoc, Nat.reduceAdd] at this
    exact this
  have HV := Lib.hid hV
  have Hn := Lib.hid (And.intro hn (And.intro hv5 (And.intro hv1 (And.intro hsl hs5))))
  have hn5 : n ≤ 5 := by omega
  have hn1 : 1 ≤ n := by omega
  clear hV hn hv5 hv1 hsl hs5
  refine (callsIn_wide (n := 3)).1 ?_
  refine callsIn_of_wp_marks Tryz.func87 rfl trivial ?_ rfl
  simp only [Tryz.ntmps87, List.size_toArray, List.length_cons, List.length_nil, Nat.reduceAdd, Nat.reduceSub, Array.replicate_succ, Array.replicate_zero, List.push_toArray, List.append_toArray, List.nil_append, List.cons_append]
  gi_wp2_with (fail)
  rw [← HV.out]
  gi_loopg [20] k (fun gk v20 wr => ∃ j : Nat, (j ≤ k ∧ gk = k - j ∧ v20 = .int .i64 (j : Int)) ∧ (Boxed wr w.heap.size 57 (.slice A n c) ∧ Boxed wr (w.heap.size + 2) 122 (.map (some (w.heap.size + 1))) ∧ MapAt Int encI wr (w.heap.size + 1) (ownF (ss.take j))) ∧ Below w.heap.size w wr)
  case atStart => exact ⟨0, ⟨Nat.zero_le _, rfl, rfl⟩, ⟨x0, x2, x1⟩, hbV⟩
  case round =>
    clear x0 x1 x2 hbV hzV HV
    obtain ⟨j, ⟨hjk, rfl, rfl⟩, ⟨y0, y2, y1⟩, hBr⟩ := hrel
    have hzr := y2.lt
    have hl0 : w.heap.size < wr.heap.size := by omega
    have c2 : wr.cell? ⟨w.heap.size + 1 + 1, 0, none⟩ = some (.map (some (w.heap.size + 1))) := y2.cell
    by_cases hj : j < k
    · have hjj : IntKind.i64.wrap ((j : Int) + 1) = (j : Int) + 1 := by rw [IntKind.wrap_i64]; omega
      obtain ⟨b, off, rfl, hbB, hcs⟩ := (hs.below hBr hB2).2.2 (by omega)
      obtain ⟨s, hsj⟩ : ∃ s, ss[j]? = some s := ⟨_, List.getElem?_eq_getElem (by have := Hn.out.2.2.2.1; omega)⟩
      obtain ⟨A', m, c', h1, h2, h3⟩ := hcs j s hsj
      have hm5 : m ≤ 5 := by rw [← h3.len]; exact Hn.out.2.2.2.2 s (List.mem_of_getElem? hsj)
      have htk : ss.take (j + 1) = ss.take j ++ [s] := by
        obtain ⟨hlt, rfl⟩ := List.getElem?_eq_some_iff.1 hsj
        exact List.take_succ_eq_append_getElem hlt
      have hown := ownF_snoc (ss.take j) s
      rw [← htk] at hown
      obtain ⟨o, ho⟩ : ∃ o, o = ownF (ss.take j) := ⟨_, rfl⟩
      rw [← ho] at hown y1
      have Ho := Lib.hid hown
      clear hown ho htk hsj hcs
      gi_wp2_with (fail)
      refine ⟨trivial, (callsIn_wide.2 (placeOf_any _ B2 A' m c' s.1 (h3.alloc (by have := hBr.size; omega) _) (by have := hBr.size; simp; omega) hm5)).mono ?_⟩
      rintro e w3 ⟨rfl, hb3⟩
      have h7 : w3.heap[wr.heap.size]? = some (.cells #[.slice A' m c', .int .i64 s.2] 54 (0, 0)) := (hb3.block _ (by simp)).trans (World.alloc_heap_new wr _)
      have hb3' : Below wr.heap.size wr w3 := ((Below.refl _ _).alloc (Nat.le_refl _) _).trans (hb3.mono (by simp))
      have hz3 : wr.heap.size + 1 ≤ w3.heap.size := by have := hb3.size; simpa using this
      have y0' := bxBelow y0 hb3' y0.lt
      have y1' := y1.below hb3' y1.lt
      have y2' := bxBelow y2 hb3' y2.lt
      have hB3 := hBr.trans (hb3'.mono hBr.size)
      obtain ⟨p, hp⟩ : ∃ p, p = plOf s.1 := ⟨_, rfl⟩
      rw [← hp]
      have hlk := lookup_ok (y1'.alloc (.cells (plc p) 64)) 122 2 0 Tryz.underlying122 zeroI64 p
      obtain ⟨fb, hfb⟩ : ∃ fb, fb = (mfind p o).isSome := ⟨_, rfl⟩
      obtain ⟨lf, hlf⟩ : ∃ lf, lf = mget 0 o p := ⟨_, rfl⟩
      rw [← hfb, ← hlf] at hlk
      obtain ⟨ob, hob, hup, hm4⟩ := update_pl (y1'.alloc (.cells (plc p) 64)) 122 2 Tryz.underlying122 p s.2
      have Hp := Lib.hid (And.intro hp (And.intro hfb hlf))
      clear hp hfb hlf
      have e2 : w3.cell? ⟨w.heap.size + 1 + 1, 0, none⟩ = some (.map (some (w.heap.size + 1))) := y2'.cell
      have e7 : w3.cell? ⟨wr.heap.size, 0, none⟩ = some (.slice A' m c') := by simp [World.cell?, h7]
      have e8 : w3.cell? ⟨wr.heap.size, 1, none⟩ = some (.int .i64 s.2) := by simp [World.cell?, h7]
      have hl3 : w.heap.size + 1 + 1 < w3.heap.size := by omega
      have hl7 : wr.heap.size < w3.heap.size := by omega
      have hB4 := hB3.alloc hB3.size (.cells (plc p) 64)
      have yes : ownStep o s = mset p s.2 o → ∃ j' : Nat, (j' ≤ k ∧ k - (j + 1) = k - j' ∧ (Value.int .i64 ((j : Int) + 1)) = .int .i64 (j' : Int)) ∧ (Boxed ((w3.alloc (.cells (plc p) 64)).putObj (w.heap.size + 1) ob) w.heap.size 57 (.slice A n c) ∧ Boxed ((w3.alloc (.cells (plc p) 64)).putObj (w.heap.size + 1) ob) (w.heap.size + 2) 122 (.map (some (w.heap.size + 1))) ∧ MapAt Int encI ((w3.alloc (.cells (plc p) 64)).putObj (w.heap.size + 1) ob) (w.heap.size + 1) (ownF (ss.take j'))) ∧ Below w.heap.size w ((w3.alloc (.cells (plc p) 64)).putObj (w.heap.size + 1) ob) := fun hs =>
        ⟨j + 1, ⟨hj, rfl, by simp⟩, ⟨(World.putObj_heap_other (by omega)).trans (y0'.alloc _), (World.putObj_heap_other (by omega)).trans (y2'.alloc _), by rw [Ho.out, hs]; exact hm4⟩, put_below hB4 (by omega) (by have := hB4.size; omega) _⟩
      have no : ownStep o s = o → ∃ j' : Nat, (j' ≤ k ∧ k - (j + 1) = k - j' ∧ (Value.int .i64 ((j : Int) + 1)) = .int .i64 (j' : Int)) ∧ (Boxed (w3.alloc (.cells (plc p) 64)) w.heap.size 57 (.slice A n c) ∧ Boxed (w3.alloc (.cells (plc p) 64)) (w.heap.size + 2) 122 (.map (some (w.heap.size + 1))) ∧ MapAt Int encI (w3.alloc (.cells (plc p) 64)) (w.heap.size + 1) (ownF (ss.take j'))) ∧ Below w.heap.size w (w3.alloc (.cells (plc p) 64)) := fun hs =>
        ⟨j + 1, ⟨hj, rfl, by simp⟩, ⟨y0'.alloc _, y2'.alloc _, by rw [Ho.out, hs]; exact y1'.alloc _⟩, hB4⟩
      have Yes := Lib.hid yes
      have No := Lib.hid no
      clear yes no hm4
      cases fb
      · have hst : ownStep o s = mset p s.2 o := by unfold ownStep; rw [← Hp.out.1, ← Hp.out.2.1, if_neg (by simp)]
        have Hst := Lib.hid hst
        clear hst
        gi_wp2_with (fail)
        gi_roundg (k - (j + 1))
        case measure => omega
        case rel => exact Yes.out Hst.out
      · by_cases hlt : s.2 < lf
        · have hst : ownStep o s = mset p s.2 o := by unfold ownStep; rw [← Hp.out.1, ← Hp.out.2.1, ← Hp.out.2.2, if_pos rfl, if_pos hlt]
          have Hst := Lib.hid hst
          clear hst
          gi_wp2_with (fail)
          gi_roundg (k - (j + 1))
          case measure => omega
          case rel => exact Yes.out Hst.out
        · have hst : ownStep o s = o := by unfold ownStep; rw [← Hp.out.1, ← Hp.out.2.1, ← Hp.out.2.2, if_pos rfl, if_neg hlt]
          have Hst := Lib.hid hst
          clear hst
          gi_wp2_with (fail)
          gi_roundg (k - (j + 1))
          case measure => omega
          case rel => exact No.out Hst.out
    · obtain rfl : k = j := by omega
      have hnj : ¬ (k : Int) < (k : Int) := by omega
      have htk : ss.take k = ss := List.take_of_length_le (by rw [Hn.out.2.2.2.1]; exact Nat.le_refl _)
      rw [htk] at y1
      obtain ⟨o, ho⟩ : ∃ o, o = ownF ss := ⟨_, rfl⟩
      rw [← ho] at y1
      have Ho := Lib.hid ho
      clear ho htk
      have c0 := y0.cell
      gi_wp2_with (fail)
      have hb4 : Below wr.heap.size wr ((wr.alloc (.map #[] 0)).alloc (.cells #[.map (some wr.heap.size)] 122)) := ((Below.refl _ wr).alloc (Nat.le_refl _) _).alloc (by simp) _
      have z1 : MapAt Int encI ((wr.alloc (.map #[] 0)).alloc (.cells #[.map (some wr.heap.size)] 122)) wr.heap.size [] := (MapAt.new (α := Int) (enc := encI) wr).alloc _
      have z2 : Boxed ((wr.alloc (.map #[] 0)).alloc (.cells #[.map (some wr.heap.size)] 122)) (wr.heap.size + 1) 122 (.map (some wr.heap.size)) := by
        have := Boxed.new (wr.alloc (.map #[] 0)) 122 (.map (some wr.heap.size))
        rwa [World.size_alloc] at this
      refine ⟨trivial, (callsIn_wide.2 (places_box _ _ _ _)).mono ?_⟩
      rintro e w2 ⟨Bh, rfl, hBh, hgh, hb2⟩
      have hgh : wr.heap.size + 2 ≤ Bh := by simpa using hgh
      have hz2 : wr.heap.size + 2 ≤ w2.heap.size := by have := hb2.size; simpa using this
      have hb5 : Below wr.heap.size wr w2 := hb4.trans (hb2.mono (by simp; omega))
      have hB2' : Below w.heap.size w w2 := hBr.trans (hb5.mono hBr.size)
      have hG : LlB w w2.heap.size wr.heap.size A n c o [] noBlock w2 := ⟨fun _ h => h.elim, Nat.le_refl _, bxBelow y0 hb5 y0.lt, bxBelow y2 hb5 y2.lt, y1.below hb5 y1.lt, bxBelow z2 hb2 z2.lt, z1.below hb2 z1.lt, hB2'⟩
      obtain ⟨bl, hbl⟩ : ∃ bl, bl = wr.heap.size := ⟨_, rfl⟩
      rw [← hbl] at hG hgh hz2 ⊢
      have hlb : w.heap.size + 3 ≤ bl := by omega
      clear hbl hb4 hb5 z1 z2 y0 y1 y2 c0 c2 hb2 hBr hl0 hzr
      gi_wp2_with (fail)
      refine range_plN (P := Tryz.prog) (gf := 98) rfl (enters_of Tryz.func98 (by kernel_rfl) rfl) (encs := fun d : {d // d ∈ statesL ts} => #[plv (plOf d.1)]) (fun d => plOf d.1) (n₀ := w.heap.size)
        (places1_any w2 Bh w.heap.size A n c ts hBh hB2'.size ((hx.below hB2' hB).more hB) hn1 hn5 (fun i hi => hv.h12 i (by have := Hn.out.1; omega))) (Below.refl _ _) (by rintro k rfl; exact hBh.lt) hB2'.size (fun _ => rfl)
        (fun pre X W => LlB w w2.heap.size bl A n c o (llP ts o (pm pre)) X W)
        (fun _ _ _ _ => False)
        ?hI (fun _ _ _ _ _ _ h => h.elim) ?h0 ?a1 ?assign ?body ?done ?stop
      case assign =>
        intro l x W b K hb hK
        gi_wp2
        rw [← hb]
        exact hK
      case hI =>
        rintro pre X X' W W' h hst hgr
        exact h.st hst hgr hlb hz2
      case h0 => exact hG
      case stop => exact fun _ _ _ _ _ _ _ h => h.elim
      case done =>
        rintro D xs X W hD hS hC hK
        have hc := hC.bm.cell
        have HC := Lib.hid (And.intro hC hS)
        clear hS hC
        gi_wp2_with (fail)
        refine ⟨by simp, .inl ⟨_, _, rfl, run_takeDeferred hK, ?_⟩⟩
        refine ⟨_, results_tmp rfl _ _ _, bl, rfl, by omega, ?_, below_put HC.out.1.bel hK (by omega)⟩
        have h1 := HC.out.1.ml
        rw [pm_all HC.out.2] at h1
        unfold llF
        rw [← Ho.out]
        exact h1.putOther (by omega) _
      case body =>
        rintro l pre x0 X b W hlw hlr hXl hC zb hbz hWz hXz hlen
        have hsn := llP_snoc ts o (pm pre) (plOf x0.1)
        rw [← pm_snoc] at hsn
        have hgood : PlGood ts (plOf x0.1) := ⟨plOf_ok x0.2 hv.h5 (fun i hi => by have := hv.h12 i hi; omega), by simp [plOf, (states_mem x0.2).1]⟩
        obtain ⟨x, hxx⟩ : ∃ x, x = plOf x0.1 := ⟨_, rfl⟩
        have zb : PlAt W b x := by rw [hxx]; exact zb
        rw [← hxx] at hsn hgood
        clear hxx
        obtain ⟨ls, hls⟩ : ∃ ls, ls = llP ts o (pm pre) := ⟨_, rfl⟩
        rw [← hls] at hC hsn
        clear hls
        have hX := hC.hX
        have hbe := hC.bel.size
        have Hsn := Lib.hid (And.intro hsn (And.intro hXz (And.intro hX hgood)))
        clear hsn hXz hX hgood
        have hlk := lookup_ok hC.mo 122 2 0 Tryz.underlying122 zeroI64 x
        obtain ⟨fb, hfb⟩ : ∃ fb, fb = (mfind x o).isSome := ⟨_, rfl⟩
        obtain ⟨lf, hlf⟩ : ∃ lf, lf = mget 0 o x := ⟨_, rfl⟩
        rw [← hfb, ← hlf] at hlk
        have hl0 : left0 o x = if fb = true then lf else 1099511627777 := by rw [hfb, hlf]; rfl
        obtain ⟨L0, hL0⟩ : ∃ L0, L0 = left0 o x := ⟨_, rfl⟩
        rw [← hL0] at hl0
        have HL := Lib.hid hL0
        clear hL0 hfb hlf
        have c2 : W.cell? ⟨w.heap.size + 1 + 1, 0, none⟩ = some (.map (some (w.heap.size + 1))) := hC.bo.cell
        have c0 := hC.hb.cell
        obtain ⟨e0, e1, e2, e3, e4, e5⟩ := zb.cells
        have hh0 : w.heap.size < W.heap.size := by omega
        cases fb
        · rw [if_neg (by simp)] at hl0
          have Hl0 := Lib.hid hl0
          clear hl0
          gi_wp2_with (fail)
          rw [← Hl0.out]
          refine ⟨trivial, (CallsIn.inRound l (callsIn_wide.2 (screws_box _ _ _ _))).mono ?_⟩
          rintro e W2 ⟨Bs, rfl, hBs, hb2⟩
          have hb2' : Below W.heap.size W W2 := ((Below.refl _ W).alloc (Nat.le_refl _) (.cells #[.int .i64 L0] 2)).trans (hb2.mono (by simp))
          have z3 : Boxed W2 W.heap.size 2 (.int .i64 L0) := bxBelow (Boxed.new W 2 (.int .i64 L0)) hb2 (by simp)
          have hC2 := hC.st (St.of_below hb2') (Grows.refl _ _) hlb hz2
          have zb2 := zb.below hb2' zb.lt
          have hlr2 : ∃ r, W2.heap[l]? = some (.loop r) := by
            obtain ⟨r, hr⟩ := hlr
            exact ⟨r, (hb2'.block l (Array.getElem?_eq_some_iff.1 hr).1).trans hr⟩
          have hzz : W.heap.size + 1 ≤ W2.heap.size := by have := hb2.size; simpa using this
          have hk2 : Keep w.heap.size (fun k => k = Bh) X W W2 := Keep.of_below hb2' (by omega)
          have hf2 : KeepsFrom w2.heap.size W W2 := KeepsFrom.of_below hb2'
          clear e0 e1 e2 e3 e4 e5 c2 c0 hlk hb2 hb2' hC zb
          gi_wp2_with (fail)
          refine range_allN hlr2 (n₀ := w.heap.size) (ts := ts) (Bs := Bs) (A := A) (cap := c) rfl hBs.lt (by omega) hBs.cell ((hx.below hC2.bel hB).more hB) rfl
            (fun pre' W' => Boxed W' W.heap.size 2 (.int .i64 (minL x ls L0 (pre'.map (fun i => i.1)))) ∧ LlB w w2.heap.size bl A n c o ls X W' ∧ PlAt W' b x ∧ Keep w.heap.size (fun k => k = Bh) X W W' ∧ KeepsFrom w2.heap.size W W' ∧ W2.heap.size ≤ W'.heap.size)
            ?hIF ?h0F ?a1F ?assignF ?bodyF ?doneF
          case assignF =>
            intro l' x' W' K hK
            gi_wp2
            exact hK
          case hIF =>
            rintro s Wa Wb row ⟨h1, h2, h3, h4, h5, h6⟩ hg hr
            have hst : ∀ X : Nat → Prop, St w2.heap.size X Wa Wb := fun X => St.grown hg (fun r e => ⟨by have := (hr r e).1; omega, (hr r e).2⟩)
            exact ⟨(hst noBlock).bx h1 (fun h => h.elim), h2.st (hst X) (Grows.refl _ _) hlb hz2, (hst noBlock).pl h3 (fun h => h.elim), (ownFrom_keep (β := Unit) (by omega) (by omega)) () Wa Wb row h4 hg hr, (ownFrom_keepsFrom (β := Unit) (by omega)) () Wa Wb row h5 hg hr, Nat.le_trans h6 hg.size⟩
          case h0F => exact ⟨z3, hC2, zb2, hk2, hf2, Nat.le_refl _⟩
          case doneF =>
            rintro W3 ⟨h1, h2, h3, h4, h5, h6⟩
            have hmin : minL x ls L0 ((List.finRange n).map (fun i => i.1)) = minL x ls (left0 o x) (List.range ts.length) := by
              rw [← HL.out, Hn.out.1, ← finRange_vals n (fun i => i)]
              simp
            obtain ⟨v, hv'⟩ : ∃ v, v = minL x ls L0 ((List.finRange n).map (fun i => i.1)) := ⟨_, rfl⟩
            rw [← hv'] at h1
            have Hv := Lib.hid (hv'.trans hmin)
            clear hv' hmin
            obtain ⟨ob, hob, hup, hm4⟩ := update_pl h2.ml 122 2 Tryz.underlying122 x v
            have c1 := h1.cell
            have c2 := h2.bm.cell
            obtain ⟨e0, e1, e2, e3, e4, e5⟩ := h3.cells
            have hXl3 : ¬ X bl := fun h => by have := Hsn.out.2.2.1 _ h; omega
            have hz3 := h2.hz
            gi_wp2_with (fail)
            refine ⟨h5.trans (KeepsFrom.put (by omega)), h4.trans (Keep.putObj (by omega) hXl3 (by omega) (by omega)), ?_⟩
            show LlB w w2.heap.size bl A n c o (llP ts o (pm (pre ++ [x0]))) X _
            rw [Hsn.out.1]
            unfold llStep
            rw [← Hv.out]
            exact ⟨h2.hX, by simpa using h2.hz, (World.putObj_heap_other (by omega)).trans h2.hb, (World.putObj_heap_other (by omega)).trans h2.bo, h2.mo.putOther (by omega) _, (World.putObj_heap_other (by omega)).trans h2.bm, hm4, put_below h2.bel (by omega) (by omega) _⟩
          case bodyF =>
            rintro l' pre' i W' ⟨h1, h2, h3, h4, h5, h6⟩ hlen'
            have hi5 : i.1 < 5 := Nat.lt_of_lt_of_le i.2 hn5
            have hget := h3.get hi5
            have hms : minL x ls L0 ((pre' ++ [i]).map (fun i => i.1)) = minStep x ls (minL x ls L0 (pre'.map (fun i => i.1))) i.1 := by rw [List.map_append]; exact minL_snoc _ _ _ _ _
            obtain ⟨lf', hlf'⟩ : ∃ lf', lf' = minL x ls L0 (pre'.map (fun i => i.1)) := ⟨_, rfl⟩
            rw [← hlf'] at h1 hms
            have hgi := Hsn.out.2.2.2.1 i.1 (by have := Hn.out.1; have := i.2; omega)
            have hgt := hv.h12 i.1 (by have := Hn.out.1; have := i.2; omega)
            have hng := (PlAt.new W' x).get hi5
            have hnf := (PlAt.new W' x).frozen (1 + i.1)
            have hps := (PlAt.new W' x).set hi5 (x.get i.1 - 1)
            obtain ⟨y, hy⟩ : ∃ y, y = x.get i.1 := ⟨_, rfl⟩
            rw [← hy] at hget hgi hng hps
            have hwy : IntKind.i64.wrap (y - 1) = y - 1 := by rw [IntKind.wrap_i64]; omega
            have Hms := Lib.hid (And.intro hms hy)
            clear hms hy hlf'
            obtain ⟨e0, e1, e2, e3, e4, e5⟩ := h3.cells
            have hb3 := h3.lt
            have hi5' : (i.1 : Int) < 5 := by omega
            have hz' := h2.hz
            by_cases hgt0 : 0 < y
            · gi_wp2_with (fail)
              rw [plc_set x hi5 (y - 1)]
              obtain ⟨q, hq⟩ : ∃ q, q = x.set i.1 (y - 1) := ⟨_, rfl⟩
              rw [← hq]
              have hst : minStep x ls lf' i.1 = (if mget 0 ls q < lf' then mget 0 ls q else lf') := by unfold minStep; rw [← Hms.out.2, if_pos hgt0, hq]
              obtain ⟨nv, hnv⟩ : ∃ nv, nv = (if mget 0 ls q < lf' then mget 0 ls q else lf') := ⟨_, rfl⟩
              have Hst := Lib.hid ((Hms.out.1.trans hst).trans hnv.symm)
              clear hst hq hps hng hnf
              have hbW : Below W'.heap.size W' (W'.alloc (.cells (plc q) 64)) := (Below.refl _ _).alloc (Nat.le_refl _) _
              have g1 := bxBelow h1 hbW h1.lt
              have g2 := h2.st (St.of_below hbW) (Grows.refl _ _) hlb hz2
              have g3 := PlAt.new W' q
              have g4 := h3.below hbW h3.lt
              have hzV : (W'.alloc (.cells (plc q) 64)).heap.size = W'.heap.size + 1 := by simp
              obtain ⟨V, hV⟩ : ∃ V, V = W'.alloc (.cells (plc q) 64) := ⟨_, rfl⟩
              rw [← hV] at hbW g1 g2 g3 g4 hzV ⊢
              clear hV
              have hS0 : Boxed V.drew W.heap.size 2 (.int .i64 lf') ∧ Boxed V.drew (bl + 1) 122 (.map (some bl)) ∧ PlAt V.drew W'.heap.size q ∧ MapAt Int encI V.drew bl ls := ⟨g1, g2.bm, g3, g2.ml.same rfl⟩
              refine region_held_round (fun V' => Boxed V' W.heap.size 2 (.int .i64 lf') ∧ Boxed V' (bl + 1) 122 (.map (some bl)) ∧ PlAt V' W'.heap.size q ∧ MapAt Int encI V' bl ls) (fun j => decide (j ≤ 4)) (by kernel_rfl) (by kernel_rfl) ?_
              intro KR hKR
              refine wpAnyHI_takeE (i := 0) (v := .int .i64 lf') (some 75) rfl rfl (by kernel_rfl) (by kernel_rfl) (by kernel_rfl) (by kernel_rfl) (by kernel_rfl) (fun _ _ _ h => h) hS0 (.inl ⟨by kernel_rfl, fun W'' hS' => ?_⟩) ?_
              · obtain ⟨a1, a2, a3, a4⟩ := hS'
                have b1 := Boxed.cell a1
                have b2 := Boxed.cell a2
                obtain ⟨b30, b31, b32, b33, b34, b35⟩ := a3.cells
                have b4 := lookup_pl a4 122 2 0 Tryz.underlying122 zeroI64 q
                go_simp
              refine wpAnyHI_takeE (i := 1) (v := .map (some bl)) (some 76) rfl rfl (by kernel_rfl) (by kernel_rfl) (by kernel_rfl) (by kernel_rfl) (by kernel_rfl) (fun _ _ _ h => h) hS0 (.inl ⟨by kernel_rfl, fun W'' hS' => ?_⟩) ?_
              · obtain ⟨a1, a2, a3, a4⟩ := hS'
                have b1 := Boxed.cell a1
                have b2 := Boxed.cell a2
                obtain ⟨b30, b31, b32, b33, b34, b35⟩ := a3.cells
                have b4 := lookup_pl a4 122 2 0 Tryz.underlying122 zeroI64 q
                go_simp
              refine wpAnyHI_takeE (i := 2) (v := plv q) (some 77) rfl rfl (by kernel_rfl) (by kernel_rfl) (by kernel_rfl) (by kernel_rfl) (by kernel_rfl) (fun _ _ _ h => h) hS0 (.inl ⟨by kernel_rfl, fun W'' hS' => ?_⟩) ?_
              · obtain ⟨a1, a2, a3, a4⟩ := hS'
                have b1 := Boxed.cell a1
                have b2 := Boxed.cell a2
                obtain ⟨b30, b31, b32, b33, b34, b35⟩ := a3.cells
                have b4 := lookup_pl a4 122 2 0 Tryz.underlying122 zeroI64 q
                go_simp
              refine wpAnyHI_takeE (i := 3) (v := .int .i64 (mget 0 ls q)) (some 78) rfl rfl (by kernel_rfl) (by kernel_rfl) (by kernel_rfl) (by kernel_rfl) (by kernel_rfl) (fun _ _ _ h => h) hS0 (.inl ⟨by kernel_rfl, fun W'' hS' => ?_⟩) ?_
              · obtain ⟨a1, a2, a3, a4⟩ := hS'
                have b1 := Boxed.cell a1
                have b2 := Boxed.cell a2
                obtain ⟨b30, b31, b32, b33, b34, b35⟩ := a3.cells
                have b4 := lookup_pl a4 122 2 0 Tryz.underlying122 zeroI64 q
                go_simp
              refine wpAnyHI_takeE (i := 4) (v := .int .i64 nv) (some 79) rfl rfl (by kernel_rfl) (by kernel_rfl) (by kernel_rfl) (by kernel_rfl) (by kernel_rfl) (fun _ _ _ h => h) hS0 (.inl ⟨by kernel_rfl, fun W'' hS' => ?_⟩) ?_
              · obtain ⟨a1, a2, a3, a4⟩ := hS'
                have b1 := Boxed.cell a1
                have b2 := Boxed.cell a2
                obtain ⟨b30, b31, b32, b33, b34, b35⟩ := a3.cells
                have b4 := lookup_pl a4 122 2 0 Tryz.underlying122 zeroI64 q
                go_simp
                all_goals (simp only [Int.min_def]; split <;> split <;> omega)
              refine wpAnyHI_tail (k := 5) rfl rfl (by kernel_rfl) (by kernel_rfl) ?_
              simp only [List.drop_succ_cons, List.drop_zero]
              clear hnv
              have c9 := g1.cell
              have f9 := g1.frozen
              gi_wp2_with (fail)
              rw [← Hst.out]
              have hbe' := h2.bel.size
              have key : ∀ k, k ≠ W.heap.size → (V.setCell ⟨W.heap.size, 0, none⟩ (.int .i64 (minL x ls L0 ((pre' ++ [i]).map (fun i => i.1))))).heap[k]? = V.heap[k]? := fun k hk => Below.heap_setCell _ ⟨W.heap.size, 0, none⟩ _ _ hk
              have hXW : ¬ X W.heap.size := fun h => by have := (Hsn.out.2.1 _ h).2; omega
              have hzz' : W.heap.size ≤ W'.heap.size := by omega
              have hbV : Below W.heap.size W' (V.setCell ⟨W.heap.size, 0, none⟩ (.int .i64 (minL x ls L0 ((pre' ++ [i]).map (fun i => i.1))))) := (hbW.mono hzz').setCell (p := ⟨W.heap.size, 0, none⟩) (Nat.le_refl _) _
              have hfV : KeepsFrom w2.heap.size W' (V.setCell ⟨W.heap.size, 0, none⟩ (.int .i64 (minL x ls L0 ((pre' ++ [i]).map (fun i => i.1))))) := (KeepsFrom.of_below hbW).trans ((KeepsOthers.setCell _ _ _).from _)
              obtain ⟨U, hU⟩ : ∃ U, U = V.setCell ⟨W.heap.size, 0, none⟩ (.int .i64 (minL x ls L0 ((pre' ++ [i]).map (fun i => i.1)))) := ⟨_, rfl⟩
              have hbd : Below U.heap.size U U.drew := ⟨rfl, rfl, rfl, Nat.le_refl _, fun _ _ => rfl⟩
              have k1 : KeepsFrom W2.heap.size W' U := by rw [hU]; exact ((show KeepsOthers W' V from ⟨hbW.size, fun k o hk _ => (hbW.block k (Array.getElem?_eq_some_iff.1 hk).1).trans hk⟩).trans (KeepsOthers.setCell _ _ _)).from _
              have k2 : Boxed U W.heap.size 2 (.int .i64 (minL x ls L0 ((pre' ++ [i]).map (fun i => i.1)))) := by rw [hU]; exact g1.set _
              have k3 : LlB w w2.heap.size bl A n c o ls X U := by rw [hU]; exact g2.setO hz2 hlb W.heap.size 0 (by omega) _
              have k4 : PlAt U b x := by
                rw [hU]
                refine (key _ ?_).trans g4
                rintro rfl
                have h8 : W'.heap[W.heap.size]? = some (.cells (plc x) 64 (0, 0)) := h3
                have h9 : W'.heap[W.heap.size]? = some (.cells #[.int .i64 lf'] 2 (0, 0)) := h1
                rw [h8] at h9
                cases h9
              have hBl := hBh.lt
              have hU1 := k3.bel.size
              have hU2 := hC2.bel.size
              have hU3 := k3.hz
              have k5 : Keep w.heap.size (fun k => k = Bh) X W U := by rw [hU]; exact h4.trans ((Keep.of_below hbW (by omega)).trans (Keep.setCell (by omega) hXW (by omega) _ _))
              have k6 : W2.heap.size ≤ U.heap.size := by rw [hU]; simp only [World.setCell, Array.size_modify]; omega
              rw [← hU] at hbV hfV ⊢
              clear hU key
              exact ⟨k1.trans (KeepsFrom.of_below hbd), (hbV.mono (by omega)).trans (hbd.mono (by omega)), bxBelow k2 hbd k2.lt, k3.st (St.of_below hbd) (Grows.refl _ _) hlb hz2, k4.below hbd k4.lt, k5.trans (Keep.of_below hbd (by omega)), (h5.trans hfV).trans (KeepsFrom.of_below hbd), k6⟩
            · have hst : minStep x ls lf' i.1 = lf' := by unfold minStep; rw [← Hms.out.2, if_neg hgt0]
              have Hst := Lib.hid (Hms.out.1.trans hst)
              clear hst
              gi_wp2_with (fail)
              exact ⟨KeepsFrom.refl _ _, Below.refl _ _, by rw [Hst.out]; exact h1, h2, h3, h4, h5, h6⟩
        · obtain rfl : L0 = lf := by rw [hl0, if_pos rfl]
          clear hl0
          gi_wp2_with (fail)
          refine ⟨trivial, (CallsIn.inRound l (callsIn_wide.2 (screws_box _ _ _ _))).mono ?_⟩
          rintro e W2 ⟨Bs, rfl, hBs, hb2⟩
          have hb2' : Below W.heap.size W W2 := ((Below.refl _ W).alloc (Nat.le_refl _) (.cells #[.int .i64 L0] 2)).trans (hb2.mono (by simp))
          have z3 : Boxed W2 W.heap.size 2 (.int .i64 L0) := bxBelow (Boxed.new W 2 (.int .i64 L0)) hb2 (by simp)
          have hC2 := hC.st (St.of_below hb2') (Grows.refl _ _) hlb hz2
          have zb2 := zb.below hb2' zb.lt
          have hlr2 : ∃ r, W2.heap[l]? = some (.loop r) := by
            obtain ⟨r, hr⟩ := hlr
            exact ⟨r, (hb2'.block l (Array.getElem?_eq_some_iff.1 hr).1).trans hr⟩
          have hzz : W.heap.size + 1 ≤ W2.heap.size := by have := hb2.size; simpa using this
          have hk2 : Keep w.heap.size (fun k => k = Bh) X W W2 := Keep.of_below hb2' (by omega)
          have hf2 : KeepsFrom w2.heap.size W W2 := KeepsFrom.of_below hb2'
          clear e0 e1 e2 e3 e4 e5 c2 c0 hlk hb2 hb2' hC zb
          gi_wp2_with (fail)
          refine range_allN hlr2 (n₀ := w.heap.size) (ts := ts) (Bs := Bs) (A := A) (cap := c) rfl hBs.lt (by omega) hBs.cell ((hx.below hC2.bel hB).more hB) rfl
            (fun pre' W' => Boxed W' W.heap.size 2 (.int .i64 (minL x ls L0 (pre'.map (fun i => i.1)))) ∧ LlB w w2.heap.size bl A n c o ls X W' ∧ PlAt W' b x ∧ Keep w.heap.size (fun k => k = Bh) X W W' ∧ KeepsFrom w2.heap.size W W' ∧ W2.heap.size ≤ W'.heap.size)
            ?hIT ?h0T ?a1T ?assignT ?bodyT ?doneT
          case assignT =>
            intro l' x' W' K hK
            gi_wp2
            exact hK
          case hIT =>
            rintro s Wa Wb row ⟨h1, h2, h3, h4, h5, h6⟩ hg hr
            have hst : ∀ X : Nat → Prop, St w2.heap.size X Wa Wb := fun X => St.grown hg (fun r e => ⟨by have := (hr r e).1; omega, (hr r e).2⟩)
            exact ⟨(hst noBlock).bx h1 (fun h => h.elim), h2.st (hst X) (Grows.refl _ _) hlb hz2, (hst noBlock).pl h3 (fun h => h.elim), (ownFrom_keep (β := Unit) (by omega) (by omega)) () Wa Wb row h4 hg hr, (ownFrom_keepsFrom (β := Unit) (by omega)) () Wa Wb row h5 hg hr, Nat.le_trans h6 hg.size⟩
          case h0T => exact ⟨z3, hC2, zb2, hk2, hf2, Nat.le_refl _⟩
          case doneT =>
            rintro W3 ⟨h1, h2, h3, h4, h5, h6⟩
            have hmin : minL x ls L0 ((List.finRange n).map (fun i => i.1)) = minL x ls (left0 o x) (List.range ts.length) := by
              rw [← HL.out, Hn.out.1, ← finRange_vals n (fun i => i)]
              simp
            obtain ⟨v, hv'⟩ : ∃ v, v = minL x ls L0 ((List.finRange n).map (fun i => i.1)) := ⟨_, rfl⟩
            rw [← hv'] at h1
            have Hv := Lib.hid (hv'.trans hmin)
            clear hv' hmin
            obtain ⟨ob, hob, hup, hm4⟩ := update_pl h2.ml 122 2 Tryz.underlying122 x v
            have c1 := h1.cell
            have c2 := h2.bm.cell
            obtain ⟨e0, e1, e2, e3, e4, e5⟩ := h3.cells
            have hXl3 : ¬ X bl := fun h => by have := Hsn.out.2.2.1 _ h; omega
            have hz3 := h2.hz
            gi_wp2_with (fail)
            refine ⟨h5.trans (KeepsFrom.put (by omega)), h4.trans (Keep.putObj (by omega) hXl3 (by omega) (by omega)), ?_⟩
            show LlB w w2.heap.size bl A n c o (llP ts o (pm (pre ++ [x0]))) X _
            rw [Hsn.out.1]
            unfold llStep
            rw [← Hv.out]
            exact ⟨h2.hX, by simpa using h2.hz, (World.putObj_heap_other (by omega)).trans h2.hb, (World.putObj_heap_other (by omega)).trans h2.bo, h2.mo.putOther (by omega) _, (World.putObj_heap_other (by omega)).trans h2.bm, hm4, put_below h2.bel (by omega) (by omega) _⟩
          case bodyT =>
            rintro l' pre' i W' ⟨h1, h2, h3, h4, h5, h6⟩ hlen'
            have hi5 : i.1 < 5 := Nat.lt_of_lt_of_le i.2 hn5
            have hget := h3.get hi5
            have hms : minL x ls L0 ((pre' ++ [i]).map (fun i => i.1)) = minStep x ls (minL x ls L0 (pre'.map (fun i => i.1))) i.1 := by rw [List.map_append]; exact minL_snoc _ _ _ _ _
            obtain ⟨lf', hlf'⟩ : ∃ lf', lf' = minL x ls L0 (pre'.map (fun i => i.1)) := ⟨_, rfl⟩
            rw [← hlf'] at h1 hms
            have hgi := Hsn.out.2.2.2.1 i.1 (by have := Hn.out.1; have := i.2; omega)
            have hgt := hv.h12 i.1 (by have := Hn.out.1; have := i.2; omega)
            have hng := (PlAt.new W' x).get hi5
            have hnf := (PlAt.new W' x).frozen (1 + i.1)
            have hps := (PlAt.new W' x).set hi5 (x.get i.1 - 1)
            obtain ⟨y, hy⟩ : ∃ y, y = x.get i.1 := ⟨_, rfl⟩
            rw [← hy] at hget hgi hng hps
            have hwy : IntKind.i64.wrap (y - 1) = y - 1 := by rw [IntKind.wrap_i64]; omega
            have Hms := Lib.hid (And.intro hms hy)
            clear hms hy hlf'
            obtain ⟨e0, e1, e2, e3, e4, e5⟩ := h3.cells
            have hb3 := h3.lt
            have hi5' : (i.1 : Int) < 5 := by omega
            have hz' := h2.hz
            by_cases hgt0 : 0 < y
            · gi_wp2_with (fail)
              rw [plc_set x hi5 (y - 1)]
              obtain ⟨q, hq⟩ : ∃ q, q = x.set i.1 (y - 1) := ⟨_, rfl⟩
              rw [← hq]
              have hst : minStep x ls lf' i.1 = (if mget 0 ls q < lf' then mget 0 ls q else lf') := by unfold minStep; rw [← Hms.out.2, if_pos hgt0, hq]
              obtain ⟨nv, hnv⟩ : ∃ nv, nv = (if mget 0 ls q < lf' then mget 0 ls q else lf') := ⟨_, rfl⟩
              have Hst := Lib.hid ((Hms.out.1.trans hst).trans hnv.symm)
              clear hst hq hps hng hnf
              have hbW : Below W'.heap.size W' (W'.alloc (.cells (plc q) 64)) := (Below.refl _ _).alloc (Nat.le_refl _) _
              have g1 := bxBelow h1 hbW h1.lt
              have g2 := h2.st (St.of_below hbW) (Grows.refl _ _) hlb hz2
              have g3 := PlAt.new W' q
              have g4 := h3.below hbW h3.lt
              have hzV : (W'.alloc (.cells (plc q) 64)).heap.size = W'.heap.size + 1 := by simp
              obtain ⟨V, hV⟩ : ∃ V, V = W'.alloc (.cells (plc q) 64) := ⟨_, rfl⟩
              rw [← hV] at hbW g1 g2 g3 g4 hzV ⊢
              clear hV
              have hS0 : Boxed V.drew W.heap.size 2 (.int .i64 lf') ∧ Boxed V.drew (bl + 1) 122 (.map (some bl)) ∧ PlAt V.drew W'.heap.size q ∧ MapAt Int encI V.drew bl ls := ⟨g1, g2.bm, g3, g2.ml.same rfl⟩
              refine region_held_round (fun V' => Boxed V' W.heap.size 2 (.int .i64 lf') ∧ Boxed V' (bl + 1) 122 (.map (some bl)) ∧ PlAt V' W'.heap.size q ∧ MapAt Int encI V' bl ls) (fun j => decide (j ≤ 4)) (by kernel_rfl) (by kernel_rfl) ?_
              intro KR hKR
              refine wpAnyHI_takeE (i := 0) (v := .int .i64 lf') (some 75) rfl rfl (by kernel_rfl) (by kernel_rfl) (by kernel_rfl) (by kernel_rfl) (by kernel_rfl) (fun _ _ _ h => h) hS0 (.inl ⟨by kernel_rfl, fun W'' hS' => ?_⟩) ?_
              · obtain ⟨a1, a2, a3, a4⟩ := hS'
                have b1 := Boxed.cell a1
                have b2 := Boxed.cell a2
                obtain ⟨b30, b31, b32, b33, b34, b35⟩ := a3.cells
                have b4 := lookup_pl a4 122 2 0 Tryz.underlying122 zeroI64 q
                go_simp
              refine wpAnyHI_takeE (i := 1) (v := .map (some bl)) (some 76) rfl rfl (by kernel_rfl) (by kernel_rfl) (by kernel_rfl) (by kernel_rfl) (by kernel_rfl) (fun _ _ _ h => h) hS0 (.inl ⟨by kernel_rfl, fun W'' hS' => ?_⟩) ?_
              · obtain ⟨a1, a2, a3, a4⟩ := hS'
                have b1 := Boxed.cell a1
                have b2 := Boxed.cell a2
                obtain ⟨b30, b31, b32, b33, b34, b35⟩ := a3.cells
                have b4 := lookup_pl a4 122 2 0 Tryz.underlying122 zeroI64 q
                go_simp
              refine wpAnyHI_takeE (i := 2) (v := plv q) (some 77) rfl rfl (by kernel_rfl) (by kernel_rfl) (by kernel_rfl) (by kernel_rfl) (by kernel_rfl) (fun _ _ _ h => h) hS0 (.inl ⟨by kernel_rfl, fun W'' hS' => ?_⟩) ?_
              · obtain ⟨a1, a2, a3, a4⟩ := hS'
                have b1 := Boxed.cell a1
                have b2 := Boxed.cell a2
                obtain ⟨b30, b31, b32, b33, b34, b35⟩ := a3.cells
                have b4 := lookup_pl a4 122 2 0 Tryz.underlying122 zeroI64 q
                go_simp
              refine wpAnyHI_takeE (i := 3) (v := .int .i64 (mget 0 ls q)) (some 78) rfl rfl (by kernel_rfl) (by kernel_rfl) (by kernel_rfl) (by kernel_rfl) (by kernel_rfl) (fun _ _ _ h => h) hS0 (.inl ⟨by kernel_rfl, fun W'' hS' => ?_⟩) ?_
              · obtain ⟨a1, a2, a3, a4⟩ := hS'
                have b1 := Boxed.cell a1
                have b2 := Boxed.cell a2
                obtain ⟨b30, b31, b32, b33, b34, b35⟩ := a3.cells
                have b4 := lookup_pl a4 122 2 0 Tryz.underlying122 zeroI64 q
                go_simp
              refine wpAnyHI_takeE (i := 4) (v := .int .i64 nv) (some 79) rfl rfl (by kernel_rfl) (by kernel_rfl) (by kernel_rfl) (by kernel_rfl) (by kernel_rfl) (fun _ _ _ h => h) hS0 (.inl ⟨by kernel_rfl, fun W'' hS' => ?_⟩) ?_
              · obtain ⟨a1, a2, a3, a4⟩ := hS'
                have b1 := Boxed.cell a1
                have b2 := Boxed.cell a2
                obtain ⟨b30, b31, b32, b33, b34, b35⟩ := a3.cells
                have b4 := lookup_pl a4 122 2 0 Tryz.underlying122 zeroI64 q
                go_simp
                all_goals (simp only [Int.min_def]; split <;> split <;> omega)
              refine wpAnyHI_tail (k := 5) rfl rfl (by kernel_rfl) (by kernel_rfl) ?_
              simp only [List.drop_succ_cons, List.drop_zero]
              clear hnv
              have c9 := g1.cell
              have f9 := g1.frozen
              gi_wp2_with (fail)
              rw [← Hst.out]
              have hbe' := h2.bel.size
              have key : ∀ k, k ≠ W.heap.size → (V.setCell ⟨W.heap.size, 0, none⟩ (.int .i64 (minL x ls L0 ((pre' ++ [i]).map (fun i => i.1))))).heap[k]? = V.heap[k]? := fun k hk => Below.heap_setCell _ ⟨W.heap.size, 0, none⟩ _ _ hk
              have hXW : ¬ X W.heap.size := fun h => by have := (Hsn.out.2.1 _ h).2; omega
              have hzz' : W.heap.size ≤ W'.heap.size := by omega
              have hbV : Below W.heap.size W' (V.setCell ⟨W.heap.size, 0, none⟩ (.int .i64 (minL x ls L0 ((pre' ++ [i]).map (fun i => i.1))))) := (hbW.mono hzz').setCell (p := ⟨W.heap.size, 0, none⟩) (Nat.le_refl _) _
              have hfV : KeepsFrom w2.heap.size W' (V.setCell ⟨W.heap.size, 0, none⟩ (.int .i64 (minL x ls L0 ((pre' ++ [i]).map (fun i => i.1))))) := (KeepsFrom.of_below hbW).trans ((KeepsOthers.setCell _ _ _).from _)
              obtain ⟨U, hU⟩ : ∃ U, U = V.setCell ⟨W.heap.size, 0, none⟩ (.int .i64 (minL x ls L0 ((pre' ++ [i]).map (fun i => i.1)))) := ⟨_, rfl⟩
              have hbd : Below U.heap.size U U.drew := ⟨rfl, rfl, rfl, Nat.le_refl _, fun _ _ => rfl⟩
              have k1 : KeepsFrom W2.heap.size W' U := by rw [hU]; exact ((show KeepsOthers W' V from ⟨hbW.size, fun k o hk _ => (hbW.block k (Array.getElem?_eq_some_iff.1 hk).1).trans hk⟩).trans (KeepsOthers.setCell _ _ _)).from _
              have k2 : Boxed U W.heap.size 2 (.int .i64 (minL x ls L0 ((pre' ++ [i]).map (fun i => i.1)))) := by rw [hU]; exact g1.set _
              have k3 : LlB w w2.heap.size bl A n c o ls X U := by rw [hU]; exact g2.setO hz2 hlb W.heap.size 0 (by omega) _
              have k4 : PlAt U b x := by
                rw [hU]
                refine (key _ ?_).trans g4
                rintro rfl
                have h8 : W'.heap[W.heap.size]? = some (.cells (plc x) 64 (0, 0)) := h3
                have h9 : W'.heap[W.heap.size]? = some (.cells #[.int .i64 lf'] 2 (0, 0)) := h1
                rw [h8] at h9
                cases h9
              have hBl := hBh.lt
              have hU1 := k3.bel.size
              have hU2 := hC2.bel.size
              have hU3 := k3.hz
              have k5 : Keep w.heap.size (fun k => k = Bh) X W U := by rw [hU]; exact h4.trans ((Keep.of_below hbW (by omega)).trans (Keep.setCell (by omega) hXW (by omega) _ _))
              have k6 : W2.heap.size ≤ U.heap.size := by rw [hU]; simp only [World.setCell, Array.size_modify]; omega
              rw [← hU] at hbV hfV ⊢
              clear hU key
              exact ⟨k1.trans (KeepsFrom.of_below hbd), (hbV.mono (by omega)).trans (hbd.mono (by omega)), bxBelow k2 hbd k2.lt, k3.st (St.of_below hbd) (Grows.refl _ _) hlb hz2, k4.below hbd k4.lt, k5.trans (Keep.of_below hbd (by omega)), (h5.trans hfV).trans (KeepsFrom.of_below hbd), k6⟩
            · have hst : minStep x ls lf' i.1 = lf' := by unfold minStep; rw [← Hms.out.2, if_neg hgt0]
              have Hst := Lib.hid (Hms.out.1.trans hst)
              clear hst
              gi_wp2_with (fail)
              exact ⟨KeepsFrom.refl _ _, Below.refl _ _, by rw [Hst.out]; exact h1, h2, h3, h4, h5, h6⟩
end Go.Proofs.YthjgecblkagelaaGreat
