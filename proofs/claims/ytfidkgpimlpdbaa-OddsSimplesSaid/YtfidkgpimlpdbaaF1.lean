/- Parts of a proof: SA SH SB. -/
import Derived.Test.YtfidkgpimlpdbaaRows
import Derived.WalkKit
import Derived.Lib.Hide
import Derived.OrdersHeld
import Derived.Sort.LoopGhostIn
import Derived.RangeFuncNested
import Derived.RangeFuncBound
import Derived.RangeFuncCalls
import Derived.RangeFuncLeaves
import Derived.Maps.OwnIn
import Derived.RangeFuncBox
import Derived.Shelf.Abstract
import Derived.Shelf.RegionOpen
import Derived.OwnWalkIn
import Derived.TacticsInMore
import Derived.LoopNIn
import Derived.LoopIn
import Derived.Carry
import Derived.Deep.LoopGhost
import Derived.WalkSpells
import Derived.WalkLawsBesides
import Derived.BigQuiet
import Derived.Deep.QuietTactic
import Derived.StillTailTactics
import Derived.OrdersIn
import Derived.RegionIn
import Derived.Scope

/- Symbolic runs: a piece of code is run by evaluation over what is known of the frame and of the memory; soundness. -/
namespace Go.Proofs.Ytfidkgpimlpdbaa
open Go.RowKit

/-- A block of which all is known. -/
structure KB where
  id : Nat
  obj : Obj
/-- What the run is told at each place where it asks: a known block by its place, a cell of an argument, the truth of a test, the next operation of a region that draws, an index within its bounds, a divisor that is not 0. -/
inductive Hint where
  | k (i : Nat)
  | x (v : Value)
  | b (t : Bool)
  | t (i : Nat)
  | i
  | z
  | g (t : Bool)
  | h (i : Nat)
  | y (i : Nat) (v : Value)
  | v (v : Value)
abbrev Fr := List (Nat × Value)
noncomputable def nth {α : Type} (l : List α) : Nat → Option α := List.rec (fun _ => none) (fun a _ ih n => Nat.rec (some a) (fun m _ => ih m) n) l
theorem nth_eq {α : Type} : ∀ (l : List α) (i : Nat), nth l i = l[i]?
  | [], _ => rfl
  | _ :: _, 0 => rfl
  | _ :: l, i + 1 => nth_eq l i
noncomputable def Fr.get (l : Fr) : Nat → Option Value := List.rec (fun _ => none) (fun p _ ih t => Bool.rec (ih t) (some p.2) (Nat.beq p.1 t)) l
theorem Fr.get_cons (p : Nat × Value) (l : Fr) (t : Nat) : Fr.get (p :: l) t = if p.1 = t then some p.2 else Fr.get l t := by
  show Bool.rec (motive := fun _ => Option Value) (Fr.get l t) (some p.2) (Nat.beq p.1 t) = _
  by_cases h : p.1 = t
  · rw [if_pos h, show Nat.beq p.1 t = true by rw [h]; exact Nat.beq_refl t]
  · rw [if_neg h]
    cases hb : Nat.beq p.1 t with
    | false => rfl
    | true => exact absurd (Nat.eq_of_beq_eq_true hb) h
noncomputable def rho (fr : Fr) (x : Operand) : Value := Operand.rec (fun t => (fr.get t).getD undef) (fun v => v) (fun g => .pointer (some ⟨g, 0, none⟩)) (fun f => .func (.func f) #[] #[]) x
noncomputable def knows (fr : Fr) (x : Operand) : Bool := Operand.rec (fun t => (fr.get t).isSome) (fun _ => true) (fun _ => true) (fun _ => true) x
structure Env where
  known : List KB
  sz : Nat
  hs : List Hint
  eqs : List (Nat × Nat)
  ext : List (Addr × Value)
  obs : List Prop
  kqs : List (List KB × List KB)
noncomputable def Env.obj? (e : Env) (r : Nat) : Option (Obj × Env) :=
  match e.hs with
  | .k i :: hs => match nth e.known i with
    | some kb => some (kb.obj, { e with hs := hs, eqs := (r, kb.id) :: e.eqs })
    | none => none
  | _ => none
noncomputable def Env.load (e : Env) (a : Addr) : Option (Value × Env) :=
  match e.hs with
  | .k i :: hs => match nth e.known i with
    | some ⟨id, .cells c _ _⟩ => match a.spot, nth c.toList a.off with
      | none, some v => some (v, { e with hs := hs, eqs := (a.block, id) :: e.eqs })
      | _, _ => none
    | _ => none
  | .x v :: hs => some (v, { e with hs := hs, ext := (a, v) :: e.ext })
  | .y i v :: hs => match nth e.known i with
    | some ⟨id, .cells c _ _⟩ => match a.spot with
      | none => some (v, { e with hs := hs, eqs := (a.block, id) :: e.eqs, obs := (c[a.off]? = some v) :: e.obs })
      | some _ => none
    | _ => none
  | _ => none
def oneCell : Value → Bool
  | .agg _ => false
  | .tuple _ => false
  | _ => true
noncomputable def Env.store (e : Env) (a : Addr) (v : Value) : Option Env :=
  match e.hs with
  | .k i :: hs => match nth e.known i with
    | some ⟨id, .cells c T (lo, hi)⟩ => match a.spot, nth c.toList a.off, oneCell v, (decide (lo ≤ a.off) && decide (a.off < hi)) with
      | none, some _, true, false => some { e with hs := hs, eqs := (a.block, id) :: e.eqs, known := e.known.set i ⟨id, .cells (c.setIfInBounds a.off v) T (lo, hi)⟩ }
      | _, _, _, _ => none
    | _ => none
  | .y i u :: hs => match nth e.known i with
    | some ⟨id, .cells c T (lo, hi)⟩ => match a.spot, oneCell v, (decide (lo ≤ a.off) && decide (a.off < hi)) with
      | none, true, false => some { e with hs := hs, eqs := (a.block, id) :: e.eqs, obs := (c[a.off]? = some u) :: e.obs, known := e.known.set i ⟨id, .cells (c.setIfInBounds a.off v) T (lo, hi)⟩ }
      | _, _, _ => none
    | _ => none
  | _ => none
noncomputable def Env.setObj (e : Env) (r : Nat) (o : Obj) : Option Env :=
  match e.hs with
  | .k i :: hs => match nth e.known i with
    | some ⟨_, .cells _ _ _⟩ => none
    | some ⟨id, _⟩ => some { e with hs := hs, eqs := (r, id) :: e.eqs, known := e.known.set i ⟨id, o⟩ }
    | none => none
  | _ => none
/-- A run of an operation's own program over what is known; 'ro': it only reads. -/
noncomputable def sy (P : Program) (ro : Bool) {α : Type} (s : Sem α) : Env → Option (α × Env) :=
  Sem.rec (motive := fun _ => Env → Option (α × Env))
    (fun a e => some (a, e))
    (fun _ a _ ih e => match e.load a with | some p => ih p.1 p.2 | none => none)
    (fun _ a v _ ih e => cond ro none (match e.store a v with | some e' => ih e' | none => none))
    (fun o _ ih e => match ro with | false => ih e.sz { e with known := e.known ++ [⟨e.sz, o⟩], sz := e.sz + 1 } | true => none)
    (fun r _ ih e => match e.obj? r with | some p => ih (match p.1 with | .cells c t _ => some (t, c.size) | _ => none) p.2 | none => none)
    (fun _ _ _ _ _ => none)
    (fun a _ ih e => match e.obj? a.block with | some (.cells _ _ (lo, hi), e') => ih (decide (lo ≤ a.off) && decide (a.off < hi)) e' | _ => none)
    (fun r _ ih e => match e.obj? r with | some (.cells _ _ _, _) => none | some (o, e') => ih o e' | none => none)
    (fun r o _ ih e => cond ro none (match e.setObj r o with | some e' => ih e' | none => none))
    (fun q _ ih e => match q.forced with | true => ih 0 e | false => none)
    (fun _ _ _ _ => none)
    (fun _ ih e => ih P e)
    (fun _ _ ih e => ih e)
    (fun _ _ => none) s

/-- What is known of a world; nothing below the first block of the call's own has turned. -/
structure At (w0 w : World) (kn rows : List KB) (sz : Nat) : Prop where
  ok : ∀ kb ∈ kn, w.heap[kb.id]? = some kb.obj
  rok : ∀ kb ∈ rows, w.heap[kb.id]? = some kb.obj
  low : ∀ kb ∈ kn, w0.heap.size ≤ kb.id
  rlow : ∀ kb ∈ rows, w0.heap.size ≤ kb.id
  nd : ((rows ++ kn).map KB.id).Nodup
  size : w.heap.size = sz
  below : Below w0.heap.size w0 w
def Obl (w0 : World) (e : Env) : Prop := (∀ p ∈ e.eqs, p.1 = p.2) ∧ (∀ p ∈ e.ext, p.1.block < w0.heap.size ∧ w0.cell? p.1 = some p.2) ∧ (∀ p ∈ e.obs, p) ∧ ∀ p ∈ e.kqs, p.1 = p.2

theorem nodup_set {l : List KB} {i : Nat} {kb : KB} {o : Obj} (h : l[i]? = some kb) : (l.set i ⟨kb.id, o⟩).map KB.id = l.map KB.id := by
  apply List.ext_getElem
  · simp
  · intro j h1 h2
    simp only [List.getElem_map, List.getElem_set]
    split
    · rename_i hij
      subst hij
      simp at h2
      rw [List.getElem?_eq_getElem h2] at h
      simp only [Option.some.injEq] at h
      rw [h]
    · rfl
theorem At.lt {w0 w : World} {kn rows : List KB} {sz : Nat} (h : At w0 w kn rows sz) {kb : KB} (hk : kb ∈ kn) : kb.id < w.heap.size := (Array.getElem?_eq_some_iff.1 (h.ok kb hk)).1
theorem At.rlt {w0 w : World} {kn rows : List KB} {sz : Nat} (h : At w0 w kn rows sz) {kb : KB} (hk : kb ∈ rows) : kb.id < w.heap.size := (Array.getElem?_eq_some_iff.1 (h.rok kb hk)).1
/-- One known block turns. -/
theorem At.turn {w0 w w' : World} {kn rows : List KB} {sz : Nat} (h : At w0 w kn rows sz) {i : Nat} {kb : KB} (hi : kn[i]? = some kb) (o : Obj)
    (hs : w'.heap.size = w.heap.size) (hn : w'.heap[kb.id]? = some o) (hk : ∀ k, k ≠ kb.id → w'.heap[k]? = w.heap[k]?) (h1 : w'.os = w.os) (h2 : w'.tape = w.tape) (h3 : w'.output = w.output) : At w0 w' (kn.set i ⟨kb.id, o⟩) rows sz := by
  have hm : kb ∈ kn := List.mem_of_getElem? hi
  have hnd := h.nd
  rw [List.map_append, List.nodup_append] at hnd
  have hne : ∀ j kb', kn[j]? = some kb' → j ≠ i → kb'.id ≠ kb.id := by
    intro j kb' hj hji e
    have hndk := hnd.2.1
    have a1 : (kn.map KB.id)[j]? = some kb.id := by rw [List.getElem?_map, hj]; simp [e]
    have a2 : (kn.map KB.id)[i]? = some kb.id := by rw [List.getElem?_map, hi]; rfl
    obtain ⟨b1, c1⟩ := List.getElem?_eq_some_iff.1 a1
    obtain ⟨b2, c2⟩ := List.getElem?_eq_some_iff.1 a2
    rcases Nat.lt_or_gt_of_ne hji with hlt | hgt
    · exact (List.pairwise_iff_getElem.1 hndk j i b1 b2 hlt) (c1.trans c2.symm)
    · exact (List.pairwise_iff_getElem.1 hndk i j b2 b1 hgt) (c2.trans c1.symm)
  have hmem : ∀ kb', kb' ∈ kn.set i ⟨kb.id, o⟩ → kb' = ⟨kb.id, o⟩ ∨ (kb' ∈ kn ∧ kb'.id ≠ kb.id) := by
    intro kb' hb
    obtain ⟨j, hj, rfl⟩ := List.mem_iff_getElem.1 hb
    rw [List.getElem_set]
    split
    · exact .inl rfl
    · rename_i hij
      simp at hj
      exact .inr ⟨List.getElem_mem _, hne j _ (List.getElem?_eq_getElem hj) (fun e => hij e.symm)⟩
  refine ⟨fun kb' hb => ?_, fun kb' hb => ?_, fun kb' hb => ?_, h.rlow, ?_, hs.trans h.size, ?_⟩
  · rcases hmem kb' hb with rfl | ⟨hb', hid⟩
    · exact hn
    · rw [hk _ hid]; exact h.ok kb' hb'
  · have hid : kb'.id ≠ kb.id := fun e => hnd.2.2 kb'.id (List.mem_map_of_mem hb) kb.id (List.mem_map_of_mem hm) e
    rw [hk _ hid]; exact h.rok kb' hb
  · rcases hmem kb' hb with rfl | ⟨hb', hid⟩
    · exact h.low kb hm
    · exact h.low kb' hb'
  · rw [List.map_append, nodup_set hi, ← List.map_append]; exact h.nd
  · have hlo := h.low kb hm
    exact ⟨h1.trans h.below.os, h2.trans h.below.tape, h3.trans h.below.output, by rw [hs]; exact h.below.size, fun k hk' => (hk k (by omega)).trans (h.below.block k hk')⟩
/-- A new block. -/
theorem At.new {w0 w : World} {kn rows : List KB} {sz : Nat} (h : At w0 w kn rows sz) (o : Obj) : At w0 (w.alloc o) (kn ++ [⟨sz, o⟩]) rows (sz + 1) := by
  have hz := h.size
  refine ⟨fun kb hb => ?_, fun kb hb => ?_, fun kb hb => ?_, h.rlow, ?_, by simp [hz], h.below.alloc h.below.size o⟩
  · rcases List.mem_append.1 hb with hb | hb
    · rw [Below.heap_alloc _ _ _ (h.lt hb)]; exact h.ok kb hb
    · rw [List.mem_singleton.1 hb, ← hz]
      show (w.heap.push o)[w.heap.size]? = some o
      simp
  · rw [Below.heap_alloc _ _ _ (h.rlt hb)]; exact h.rok kb hb
  · rcases List.mem_append.1 hb with hb | hb
    · exact h.low kb hb
    · rw [List.mem_singleton.1 hb, ← hz]; exact h.below.size
  · rw [← List.append_assoc, List.map_append, List.nodup_append]
    refine ⟨h.nd, by simp, ?_⟩
    intro a ha b hb
    simp only [List.map_cons, List.map_nil, List.mem_singleton] at hb
    subst hb
    obtain ⟨kb, hm, rfl⟩ := List.mem_map.1 ha
    rcases List.mem_append.1 hm with hm | hm
    · have := h.rlt hm; omega
    · have := h.lt hm; omega
/-- Behind a call that has turned nothing that was there. -/
theorem At.call {w0 w w' : World} {kn rows : List KB} {sz : Nat} (h : At w0 w kn rows sz) (hb : Below w.heap.size w w') : At w0 w' kn rows w'.heap.size :=
  ⟨fun kb hk => (hb.block _ (h.lt hk)).trans (h.ok kb hk), fun kb hk => (hb.block _ (h.rlt hk)).trans (h.rok kb hk), h.low, h.rlow, h.nd, rfl, h.below.trans (hb.mono h.below.size)⟩
theorem At.drew {w0 w : World} {kn rows : List KB} {sz : Nat} (h : At w0 w kn rows sz) : At w0 w.drew kn rows sz := ⟨h.ok, h.rok, h.low, h.rlow, h.nd, h.size, h.below.drew⟩
theorem At.resize {w0 w : World} {kn rows : List KB} {sz : Nat} (h : At w0 w kn rows sz) : At w0 w kn rows w.heap.size := ⟨h.ok, h.rok, h.low, h.rlow, h.nd, rfl, h.below⟩
theorem At.start (w : World) : At w w [] [] w.heap.size := ⟨by simp, by simp, by simp, by simp, by simp, rfl, Below.refl _ _⟩
theorem At.cellAt {w0 w : World} {kn rows : List KB} {sz : Nat} (h : At w0 w kn rows sz) {p : Addr} {v : Value} (hb : p.block < w0.heap.size) (hv : w0.cell? p = some v) : w.cell? p = some v := (h.below.cell hb).trans hv

theorem cell_of_obj {w : World} {a : Addr} {c : Array Value} {T : TypeId} {fz : Nat × Nat} {v : Value} (h : w.heap[a.block]? = some (.cells c T fz)) (hs : a.spot = none) (hv : c[a.off]? = some v) : w.cell? a = some v := by
  unfold World.cell?
  rw [h, hs]
  simpa using hv
set_option maxHeartbeats 1000000 in
theorem sy_sound {P : Program} {ro : Bool} {α : Type} {w0 : World} (s : Sem α) : ∀ (e : Env) (x : α) (e' : Env), sy P ro s e = some (x, e') → Obl w0 e' →
    Obl w0 e ∧ ∀ w rows, At w0 w e.known rows e.sz → ∃ w', s.run P w = .ok x w' ∧ At w0 w' e'.known rows e'.sz ∧ (ro = true → w' = w ∧ e'.known = e.known ∧ e'.sz = e.sz) := by
  induction s with
  | pure a =>
    intro e x e' h ho
    cases h
    exact ⟨ho, fun w rows hA => ⟨w, rfl, hA, fun _ => ⟨rfl, rfl, rfl⟩⟩⟩
  | load m a k ih =>
    intro e x e' h ho
    have h : (match e.load a with | some p => sy P ro (k p.1) p.2 | none => none) = some (x, e') := h
    cases hl : e.load a with
    | none => rw [hl] at h; cases h
    | some p =>
      rw [hl] at h
      obtain ⟨v, e1⟩ := p
      obtain ⟨ho1, hr⟩ := ih v e1 x e' h ho
      unfold Env.load at hl
      split at hl
      · rename_i i hs hhs
        split at hl
        · rename_i id c T fz hn
          split at hl
          · rename_i v0 hsp hv
            cases hl
            obtain ⟨q1, q2, q3⟩ := ho1
            refine ⟨⟨fun p hp => q1 p (List.mem_cons_of_mem _ hp), q2, q3⟩, fun w rows hA => ?_⟩
            have hid : a.block = id := q1 _ (List.mem_cons_self)
            rw [nth_eq] at hn hv
            have hm := hA.ok _ (List.mem_of_getElem? hn)
            have hc : w.cell? a = some v := cell_of_obj (T := T) (fz := fz) (by rw [hid]; exact hm) hsp (by simpa using hv)
            obtain ⟨w', hrun, hA', hro⟩ := hr w rows hA
            exact ⟨w', by show Sem.run P (Sem.load m a k) w = _; rw [Sem.run, hc]; exact hrun, hA', hro⟩
          · cases hl
        · cases hl
      · rename_i v0 hs hhs
        cases hl
        obtain ⟨q1, q2, q3⟩ := ho1
        refine ⟨⟨q1, fun p hp => q2 p (List.mem_cons_of_mem _ hp), q3⟩, fun w rows hA => ?_⟩
        obtain ⟨hlt, hv⟩ := q2 _ (List.mem_cons_self)
        have hc : w.cell? a = some v := hA.cellAt hlt hv
        obtain ⟨w', hrun, hA', hro⟩ := hr w rows hA
        exact ⟨w', by show Sem.run P (Sem.load m a k) w = _; rw [Sem.run, hc]; exact hrun, hA', hro⟩
      · rename_i i v0 hs hhs
        split at hl
        · rename_i id c T fz hn
          split at hl
          · rename_i hsp
            cases hl
            obtain ⟨q1, q2, q3, q4⟩ := ho1
            refine ⟨⟨fun p hp => q1 p (List.mem_cons_of_mem _ hp), q2, fun p hp => q3 p (List.mem_cons_of_mem _ hp), q4⟩, fun w rows hA => ?_⟩
            have hid : a.block = id := q1 _ (List.mem_cons_self)
            have hv : c[a.off]? = some v := q3 _ (List.mem_cons_self)
            rw [nth_eq] at hn
            have hm := hA.ok _ (List.mem_of_getElem? hn)
            have hc : w.cell? a = some v := cell_of_obj (T := T) (fz := fz) (by rw [hid]; exact hm) hsp hv
            obtain ⟨w', hrun, hA', hro⟩ := hr w rows hA
            exact ⟨w', by show Sem.run P (Sem.load m a k) w = _; rw [Sem.run, hc]; exact hrun, hA', hro⟩
          · cases hl
        · cases hl
      · cases hl
  | store m a v k ih =>
    intro e x e' h ho
    have h : cond ro none (match e.store a v with | some e' => sy P ro k e' | none => none) = some (x, e') := h
    cases ro with
    | true => cases h
    | false =>
      cases hl : e.store a v with
      | none => rw [hl] at h; cases h
      | some e1 =>
        rw [hl] at h
        obtain ⟨ho1, hr⟩ := ih e1 x e' h ho
        unfold Env.store at hl
        split at hl
        · rename_i i hs hhs
          split at hl
          · rename_i id c T lo hi hn
            split at hl
            · rename_i v0 hsp hv hone hfz
              cases hl
              obtain ⟨q1, q2, q3⟩ := ho1
              refine ⟨⟨fun p hp => q1 p (List.mem_cons_of_mem _ hp), q2, q3⟩, fun w rows hA => ?_⟩
              have hid : a.block = id := q1 _ (List.mem_cons_self)
              rw [nth_eq] at hn hv
              have hm := hA.ok _ (List.mem_of_getElem? hn)
              have hm' : w.heap[a.block]? = some (.cells c T (lo, hi)) := by rw [hid]; exact hm
              have hlt : id < w.heap.size := (Array.getElem?_eq_some_iff.1 hm).1
              have hc : w.cell? a = some v0 := cell_of_obj (T := T) (fz := (lo, hi)) hm' hsp (by simpa using hv)
              have hf : w.frozen? a = false := by unfold World.frozen?; rw [hm']; exact hfz
              have hw : At w0 (w.setCell a v) (e.known.set i ⟨id, .cells (c.setIfInBounds a.off v) T (lo, hi)⟩) rows e.sz := by
                refine hA.turn (kb := ⟨id, .cells c T (lo, hi)⟩) hn _ (by simp [World.setCell]) ?_ (fun k hk => Below.heap_setCell _ _ _ _ (by rw [hid]; exact hk)) rfl rfl rfl
                show (w.heap.modify a.block _)[id]? = _
                rw [Array.getElem?_modify, if_pos hid, hm]
                simp [hsp]
              obtain ⟨w', hrun, hA', hro⟩ := hr _ rows hw
              refine ⟨w', ?_, hA', fun h => (by cases h)⟩
              cases v <;> first | (cases hone; done) | (show Sem.run P (Sem.store m a _ k) w = _; rw [Sem.run, hc, hf]; exact hrun; all_goals (intros; contradiction))
            · cases hl
          · cases hl
        · rename_i i u hs hhs
          split at hl
          · rename_i id c T lo hi hn
            split at hl
            · rename_i hsp hone hfz
              cases hl
              obtain ⟨q1, q2, q3, q4⟩ := ho1
              refine ⟨⟨fun p hp => q1 p (List.mem_cons_of_mem _ hp), q2, fun p hp => q3 p (List.mem_cons_of_mem _ hp), q4⟩, fun w rows hA => ?_⟩
              have hid : a.block = id := q1 _ (List.mem_cons_self)
              have hv : c[a.off]? = some u := q3 _ (List.mem_cons_self)
              rw [nth_eq] at hn
              have hm := hA.ok _ (List.mem_of_getElem? hn)
              have hm' : w.heap[a.block]? = some (.cells c T (lo, hi)) := by rw [hid]; exact hm
              have hlt : id < w.heap.size := (Array.getElem?_eq_some_iff.1 hm).1
              have hc : w.cell? a = some u := cell_of_obj (T := T) (fz := (lo, hi)) hm' hsp hv
              have hf : w.frozen? a = false := by unfold World.frozen?; rw [hm']; exact hfz
              have hw : At w0 (w.setCell a v) (e.known.set i ⟨id, .cells (c.setIfInBounds a.off v) T (lo, hi)⟩) rows e.sz := by
                refine hA.turn (kb := ⟨id, .cells c T (lo, hi)⟩) hn _ (by simp [World.setCell]) ?_ (fun k hk => Below.heap_setCell _ _ _ _ (by rw [hid]; exact hk)) rfl rfl rfl
                show (w.heap.modify a.block _)[id]? = _
                rw [Array.getElem?_modify, if_pos hid, hm]
                simp [hsp]
              obtain ⟨w', hrun, hA', hro⟩ := hr _ rows hw
              refine ⟨w', ?_, hA', fun h => (by cases h)⟩
              cases v <;> first | (cases hone; done) | (show Sem.run P (Sem.store m a _ k) w = _; rw [Sem.run, hc, hf]; exact hrun; all_goals (intros; contradiction))
            · cases hl
          · cases hl
        · cases hl
  | new o k ih =>
    intro e x e' h ho
    cases ro with
    | true => cases h
    | false =>
      obtain ⟨ho1, hr⟩ := ih e.sz _ x e' h ho
      refine ⟨ho1, fun w rows hA => ?_⟩
      obtain ⟨w', hrun, hA', hro⟩ := hr _ rows (hA.new o)
      exact ⟨w', by show Sem.run P (k w.heap.size) _ = _; rw [hA.size]; exact hrun, hA', fun h => (by cases h)⟩
  | shape r k ih =>
    intro e x e' h ho
    have h : (match e.obj? r with | some p => sy P ro (k (match p.1 with | .cells c t _ => some (t, c.size) | _ => none)) p.2 | none => none) = some (x, e') := h
    unfold Env.obj? at h
    split at h
    · rename_i p hp
      split at hp
      · rename_i i hs hhs
        split at hp
        · rename_i kb hn
          cases hp
          obtain ⟨ho1, hr⟩ := ih _ _ x e' h ho
          obtain ⟨q1, q2, q3⟩ := ho1
          refine ⟨⟨fun p hp => q1 p (List.mem_cons_of_mem _ hp), q2, q3⟩, fun w rows hA => ?_⟩
          have hid : r = kb.id := q1 _ (List.mem_cons_self)
          rw [nth_eq] at hn
          have hm := hA.ok _ (List.mem_of_getElem? hn)
          obtain ⟨w', hrun, hA', hro⟩ := hr w rows hA
          refine ⟨w', ?_, hA', hro⟩
          show Sem.run P (k (w.shape? r)) w = _
          rw [← hrun]
          congr 2
          unfold World.shape?
          rw [hid, hm]
          cases kb.obj <;> rfl
        · cases hp
      · cases hp
    · cases h
  | freeze a n k ih => intro e x e' h; cases h
  | frozen a k ih =>
    intro e x e' h ho
    have h : (match e.obj? a.block with | some (.cells _ _ (lo, hi), e') => sy P ro (k (decide (lo ≤ a.off) && decide (a.off < hi))) e' | _ => none) = some (x, e') := h
    unfold Env.obj? at h
    split at h
    · rename_i c T lo hi e1 hp
      split at hp
      · rename_i i hs hhs
        split at hp
        · rename_i kb hn
          simp only [Option.some.injEq, Prod.mk.injEq] at hp
          obtain ⟨hobj, rfl⟩ := hp
          obtain ⟨ho1, hr⟩ := ih _ _ x e' h ho
          obtain ⟨q1, q2, q3⟩ := ho1
          refine ⟨⟨fun p hp => q1 p (List.mem_cons_of_mem _ hp), q2, q3⟩, fun w rows hA => ?_⟩
          have hid : a.block = kb.id := q1 _ (List.mem_cons_self)
          rw [nth_eq] at hn
          have hm := hA.ok _ (List.mem_of_getElem? hn)
          obtain ⟨w', hrun, hA', hro⟩ := hr w rows hA
          refine ⟨w', ?_, hA', hro⟩
          show Sem.run P (k (w.frozen? a)) w = _
          rw [← hrun]
          unfold World.frozen?
          rw [hid, hm, hobj]
        · cases hp
      · cases hp
    · cases h
  | getObj r k ih =>
    intro e x e' h ho
    have h : (match e.obj? r with | some (.cells _ _ _, _) => none | some (o, e') => sy P ro (k o) e' | none => none) = some (x, e') := h
    unfold Env.obj? at h
    split at h
    · cases h
    · rename_i o e1 hnc hp
      split at hp
      · rename_i i hs hhs
        split at hp
        · rename_i kb hn
          simp only [Option.some.injEq, Prod.mk.injEq] at hp
          obtain ⟨hobj, rfl⟩ := hp
          obtain ⟨ho1, hr⟩ := ih _ _ x e' h ho
          obtain ⟨q1, q2, q3⟩ := ho1
          refine ⟨⟨fun p hp => q1 p (List.mem_cons_of_mem _ hp), q2, q3⟩, fun w rows hA => ?_⟩
          have hid : r = kb.id := q1 _ (List.mem_cons_self)
          rw [nth_eq] at hn
          have hm := hA.ok _ (List.mem_of_getElem? hn)
          obtain ⟨w', hrun, hA', hro⟩ := hr w rows hA
          refine ⟨w', ?_, hA', hro⟩
          show Sem.run P (Sem.getObj r k) w = _
          rw [Sem.run, hid, hm, hobj]
          split
          · rename_i heq; cases heq; exact (hnc _ _ _ rfl).elim
          · rename_i heq; cases heq; exact hrun
          · rename_i heq; cases heq
        · cases hp
      · cases hp
    · cases h
  | setObj r o k ih =>
    intro e x e' h ho
    have h : cond ro none (match e.setObj r o with | some e' => sy P ro k e' | none => none) = some (x, e') := h
    cases ro with
    | true => cases h
    | false =>
      cases hl : e.setObj r o with
      | none => rw [hl] at h; cases h
      | some e1 =>
        rw [hl] at h
        obtain ⟨ho1, hr⟩ := ih e1 x e' h ho
        unfold Env.setObj at hl
        split at hl
        · rename_i i hs hhs
          split at hl
          · cases hl
          · rename_i id o1 hnc hn
            cases hl
            obtain ⟨q1, q2, q3⟩ := ho1
            refine ⟨⟨fun p hp => q1 p (List.mem_cons_of_mem _ hp), q2, q3⟩, fun w rows hA => ?_⟩
            have hid : r = id := q1 _ (List.mem_cons_self)
            rw [nth_eq] at hn
            have hm := hA.ok _ (List.mem_of_getElem? hn)
            have hlt : id < w.heap.size := (Array.getElem?_eq_some_iff.1 hm).1
            have hw : At w0 { w with heap := w.heap.setIfInBounds r o } (e.known.set i ⟨id, o⟩) rows e.sz := by
              refine hA.turn (kb := ⟨id, o1⟩) hn _ (by simp) ?_ (fun k hk => ?_) rfl rfl rfl
              · simp [hid, hlt]
              · simp only [Array.getElem?_setIfInBounds, hid]; rw [if_neg (fun h => hk h.symm)]
            obtain ⟨w', hrun, hA', hro⟩ := hr _ rows hw
            refine ⟨w', ?_, hA', fun h => (by cases h)⟩
            show Sem.run P (Sem.setObj r o k) w = _
            rw [Sem.run, hid, hm]
            split
            · rename_i heq; cases heq; exact absurd rfl (hnc _ _ _)
            · rw [← hid]; exact hrun
            · rename_i heq; cases heq
          · cases hl
        · cases hl
  | choose q k ih =>
    intro e x e' h ho
    have h : (match q.forced with | true => sy P ro (k 0) e | false => none) = some (x, e') := h
    cases hq : q.forced with
    | false => rw [hq] at h; cases h
    | true =>
      rw [hq] at h
      obtain ⟨ho1, hr⟩ := ih 0 e x e' h ho
      refine ⟨ho1, fun w rows hA => ?_⟩
      obtain ⟨w', hrun, hA', hro⟩ := hr w rows hA
      exact ⟨w', by show Sem.run P (Sem.choose q k) w = _; rw [Sem.run, if_pos hq]; exact hrun, hA', hro⟩
  | sys c k ih => intro e x e' h; cases h
  | program k ih =>
    intro e x e' h ho
    obtain ⟨ho1, hr⟩ := ih P e x e' h ho
    exact ⟨ho1, fun w rows hA => hr w rows hA⟩
  | mark m k ih =>
    intro e x e' h ho
    obtain ⟨ho1, hr⟩ := ih e x e' h ho
    exact ⟨ho1, fun w rows hA => hr w rows hA⟩
  | halt h0 => intro e x e' h; cases h
end Go.Proofs.Ytfidkgpimlpdbaa

/- Iterators, and regions that draw. -/
namespace Go.Proofs.Ytfidkgpimlpdbaa
open Go.RowKit Go.Shelf

attribute [local go_sem] Oper.semAt_some

theorem KeepsFrom.of_below {B : Nat} {W W' : World} (h : Below W.heap.size W W') : KeepsFrom B W W' :=
  ⟨h.size, fun k _ _ hk _ => (h.block k (Array.getElem?_eq_some_iff.1 hk).1).trans hk⟩

theorem bxBelow {W W' : World} {B D : Nat} {t : TypeId} {v : Value} (h : Boxed W B t v) (hb : Below D W W') (hD : B < D) : Boxed W' B t v := (hb.block B hD).trans h
theorem bxDrew {W : World} {B : Nat} {t : TypeId} {v : Value} (h : Boxed W B t v) : Boxed W.drew B t v := h
theorem bxOwn {W W' : World} {row : Option Nat} {B : Nat} {t : TypeId} {v : Value} (h : Boxed W B t v) (hg : W.grownBy W' row) (hr : ∀ r, row = some r → ∃ o : Obj, W.heap[r]? = some o ∧ o.isCells = false) : Boxed W' B t v :=
  h.kept hg (fun e => by
    obtain ⟨o, ho, hc⟩ := hr B e.symm
    have h' : W.heap[B]? = some (.cells #[v] t (0, 0)) := h
    rw [ho] at h'
    cases h'
    cases hc)
theorem bxPut {W : World} {D B : Nat} {t : TypeId} {v : Value} (h : Boxed W B t v) (hD : W.heap[D]? = some (.deferred (some []))) : Boxed (W.putObj D (.deferred none)) B t v :=
  bxOwn h (grownBy_putObj' _ D (.deferred none)) (fun r e => by cases e; exact ⟨_, hD, rfl⟩)

theorem below_put {w0 W : World} {D : Nat} (hb : Below w0.heap.size w0 W) (h : W.heap[D]? = some (.deferred (some []))) (hD : w0.heap.size ≤ D) : Below w0.heap.size w0 (W.putObj D (.deferred none)) :=
  hb.trans (belowK_b (w := w0) (Nat.le_refl _) W D _ _ hD h rfl rfl)

/-- From W to W' only blocks of X have been turned, or such as hold no cells and lie at or beyond B. -/
structure St (B : Nat) (X : Nat → Prop) (W W' : World) : Prop where
  base : Below 0 W W'
  same : ∀ k o, W.heap[k]? = some o → ¬ X k → (o.isCells = true ∨ k < B) → W'.heap[k]? = some o
def Grows (X X' : Nat → Prop) (W : World) : Prop := (∀ k, X k → X' k) ∧ ∀ k, X' k → X k ∨ W.heap.size ≤ k
def Stable {α : Type} (B : Nat) (J : List α → (Nat → Prop) → World → Prop) : Prop := ∀ pre X X' W W', J pre X W → St B X W W' → Grows X X' W → J pre X' W'
/-- A round leaves the iterator's blocks, and the protected ones, as they are. -/
structure Keep (n₀ : Nat) (C X : Nat → Prop) (W W' : World) : Prop where
  below : Below n₀ W W'
  same : ∀ k o, W.heap[k]? = some o → (X k ∨ C k) → W'.heap[k]? = some o
def noBlock : Nat → Prop := fun _ => False

section
variable {α : Type} {B n₀ : Nat} {C X X' : Nat → Prop} {W W' W'' : World}
theorem Grows.refl (X : Nat → Prop) (W : World) : Grows X X W := ⟨fun _ h => h, fun _ h => .inl h⟩
theorem Keep.refl (W : World) : Keep n₀ C X W W := ⟨Below.refl _ _, fun _ _ h _ => h⟩
theorem Keep.trans (h : Keep n₀ C X W W') (k : Keep n₀ C X W' W'') : Keep n₀ C X W W'' := ⟨h.below.trans k.below, fun i o hi hc => k.same i o (h.same i o hi hc) hc⟩
theorem Keep.of_below (h : Below W.heap.size W W') (hn : n₀ ≤ W.heap.size) : Keep n₀ C X W W' := ⟨h.mono hn, fun k _ hk _ => (h.block k (Array.getElem?_eq_some_iff.1 hk).1).trans hk⟩
theorem Keep.setCell {b : Nat} (hn : n₀ ≤ b) (hX : ¬ X b) (hC : ¬ C b) (o : Nat) (u : Value) : Keep n₀ C X W (W.setCell ⟨b, o, none⟩ u) :=
  ⟨(Below.refl _ _).setCell (p := ⟨b, o, none⟩) hn _, fun k v hk hc => (Below.heap_setCell W ⟨b, o, none⟩ u k (by rintro rfl; rcases hc with h | h; exact hX h; exact hC h)).trans hk⟩
theorem Keep.putObj {b : Nat} {o : Obj} (hn : n₀ ≤ b) (hX : ¬ X b) (hC : ¬ C b) (hb : b < W.heap.size) : Keep n₀ C X W (W.putObj b o) :=
  ⟨(Below.refl _ _).grown (grownBy_putObj' W b o) (by omega) (fun k e => by cases e; exact hn), fun k v hk hc => (World.putObj_heap_other (by rintro rfl; rcases hc with h | h; exact hX h; exact hC h)).trans hk⟩
theorem St.of_below (h : Below W.heap.size W W') : St B X W W' := ⟨h.mono (Nat.zero_le _), fun k _ hk _ _ => (h.block k (Array.getElem?_eq_some_iff.1 hk).1).trans hk⟩
theorem St.refl (W : World) : St B X W W := St.of_below (Below.refl _ _)
theorem St.alloc (W : World) (o : Obj) : St B X W (W.alloc o) := St.of_below ((Below.refl _ _).alloc (Nat.le_refl _) _)
theorem St.putObj {l : Nat} {o o' : Obj} (hl : W.heap[l]? = some o) (ho : o.isCells = false) (hB : B ≤ l) : St B X W (W.putObj l o') :=
  ⟨(Below.refl 0 W).grown (grownBy_putObj' W l o') (Nat.zero_le _) (fun _ _ => Nat.zero_le _), fun k v hk _ hc => by
    by_cases hkl : k = l
    · subst hkl
      rw [hl] at hk
      cases hk
      rcases hc with h | h
      · rw [ho] at h; cases h
      · omega
    · exact (World.putObj_heap_other hkl).trans hk⟩
theorem St.mono {B' : Nat} (h : St B X W W') (hB : B' ≤ B) : St B' X W W' := ⟨h.base, fun k o hk hX hc => h.same k o hk hX (hc.imp id (fun h => by omega))⟩
theorem Stable.put {J : List α → (Nat → Prop) → World → Prop} (h : Stable B J) {pre : List α} {l : Nat} {o : Obj} (o' : Obj) (hs : J pre X W) (hB : B ≤ l) (hl : W.heap[l]? = some o) (ho : o.isCells = false) : J pre X (W.putObj l o') :=
  h _ _ _ _ _ hs (St.putObj hl ho hB) (Grows.refl _ _)
end

def IterAt {α : Type} (P : Program) (g : Nat) (lb : Array Value) (encs : α → Array Value) (n₀ : Nat) (C : Nat → Prop) (S Sp : List α → Prop) (N : Nat) (w0 : World) : Prop :=
  ∀ (l : Nat) (J Jx : List α → (Nat → Prop) → World → Prop) (W : World), Below w0.heap.size w0 W → Stable W.heap.size J → Stable W.heap.size Jx →
    (∀ pre x X W1, J pre X W1 → W.heap.size ≤ W1.heap.size → (∀ k, X k → k < W1.heap.size) → pre.length < N → YieldAt Fence.wide 1 P l (encs x) W1 fun e W' =>
      ((e = .returned (.bool true) ∧ J (pre ++ [x]) X W') ∨ (e = .returned (.bool false) ∧ Jx (pre ++ [x]) X W')) ∧ Keep n₀ C X W1 W' ∧ KeepsFrom W.heap.size W1 W') →
    J [] noBlock W →
    Calls P g (#[.func (.yield l) #[] #[]] ++ lb) W fun e W' => (∃ v, e = .returned v) ∧ ∃ X, (∃ xs, S xs ∧ J xs X W') ∨ (∃ pre, Sp pre ∧ Jx pre X W')

def itPost {α : Type} (B n₀ : Nat) (C X : Nat → Prop) (I : List α → (Nat → Prop) → World → Prop) (Ix : Code → List α → (Nat → Prop) → World → Prop) (xs : List α) (W : World) : Exit → Act → World → Prop
  | .normal, _, W' => KeepsFrom B W W' ∧ Keep n₀ C X W W' ∧ I xs X W'
  | .ret, _, W' => KeepsFrom B W W' ∧ Keep n₀ C X W W' ∧ Ix .ret xs X W'
  | .exit id, _, W' => KeepsFrom B W W' ∧ Keep n₀ C X W W' ∧ Ix (.exit id) xs X W'
  | .goto t, _, W' => KeepsFrom B W W' ∧ Keep n₀ C X W W' ∧ Ix (.goto t) xs X W'
  | .panic _, _, _ => False
  | .outgrown, _, _ => False

theorem KeepsFrom.up {B B' : Nat} {W W' : World} (h : KeepsFrom B W W') (hB : B ≤ B') : KeepsFrom B' W W' := ⟨h.size, fun k o hk => h.same k o (by omega)⟩
theorem KeepsFrom.put {B : Nat} {W : World} {l : Nat} {o : Obj} (hl : l < B) : KeepsFrom B W (W.putObj l o) := ⟨by simp, fun k v hk h _ => (World.putObj_heap_other (by omega)).trans h⟩

set_option maxHeartbeats 1000000 in
theorem range_iter {α : Type} {P : Program} {g : Operand} {ps : Array Tmp} {assign body : Code} {Q : Exit → Act → World → Prop} {a : Act} {w : World} {gf : Nat} {lb : Array Value}
    (hg : a.eval g = .func (.func gf) #[] lb) (eg : ∀ args w, (callFunc gf args).run P w = .ok (.enter gf args) w)
    {encs : α → Array Value} {n₀ : Nat} {C : Nat → Prop} {S Sp : List α → Prop} {N : Nat} {w0 : World} (hseq : IterAt P gf lb encs n₀ C S Sp N w0)
    (hb0 : Below w0.heap.size w0 w) (hC : ∀ k, C k → k < w.heap.size) (hn₀ : n₀ ≤ w.heap.size) (hps : ∀ x, (encs x).size = ps.size)
    (I : List α → (Nat → Prop) → World → Prop) (Ix : Code → List α → (Nat → Prop) → World → Prop) (hI : Stable w.heap.size I) (hIx : ∀ c, Stable w.heap.size (Ix c)) (h0 : I [] noBlock w)
    (Ax : List α → (Nat → Prop) → α → Act → World → Prop) (hAx : ∀ pre X x a' W W', Ax pre X x a' W → St w.heap.size noBlock W W' → Ax pre X x a' W')
    (hassign : ∀ (l : Nat) (pre : List α) (x : α) (X : Nat → Prop) (W : World) (K : Act → World → Prop), I pre X W → w.heap.size ≤ W.heap.size → (∀ k, X k → w.heap.size ≤ k ∧ k < W.heap.size) → (∀ a' W', Keep n₀ C X W W' → KeepsFrom w.heap.size W W' → I pre X W' → Ax pre X x a' W' → K a' W') →
      assign.wpIn (Fence.wide.inRound l) 1 P (Exit.then K (fun _ _ _ => False)) { tmps := (ps.zip (encs x)).foldl (fun t (p, v) => t.setIfInBounds p v) a.tmps, defers := [] } W)
    (hbody : ∀ (l : Nat) (pre : List α) (x : α) (X : Nat → Prop) (a' : Act) (W : World), I pre X W → Ax pre X x a' W → w.heap.size ≤ W.heap.size → (∀ k, X k → w.heap.size ≤ k ∧ k < W.heap.size) → pre.length < N → body.wpIn (Fence.wide.inRound l) 1 P (itPost w.heap.size n₀ C X I Ix (pre ++ [x]) W) a' W)
    (hdone : ∀ (D : Nat) (xs : List α) (X : Nat → Prop) (W : World), w.heap.size ≤ D → S xs → I xs X W → W.heap[D]? = some (.deferred (some [])) → Q .normal { a with defers := { target := .collected D, args := #[] } :: a.defers } W)
    (hstop : ∀ (D : Nat) (c : Code) (pre : List α) (X : Nat → Prop) (W : World), w.heap.size ≤ D → Sp pre → Ix c pre X W → W.heap[D]? = some (.deferred (some [])) → c.wpIn Fence.wide 3 P Q { a with defers := { target := .collected D, args := #[] } :: a.defers } W) :
    (Code.rangeFunc g ps assign body).wpIn Fence.wide 3 P Q a w := by
  refine wpIn_rangeFunc ?_
  intro fn _
  obtain ⟨rec, hrec⟩ : ∃ rec : LoopState → Option Code → Loop, rec = fun st pe => { state := st, pending := pe, fn, tmps := a.tmps, params := ps, assign, body, defers := w.heap.size } := ⟨_, rfl⟩
  obtain ⟨W1, hW1⟩ : ∃ W1, (w.alloc (.deferred (some []))).alloc (.loop (rec .ready none)) = W1 := ⟨_, rfl⟩
  have hs1 : W1.heap.size = w.heap.size + 2 := by rw [← hW1]; simp
  have hL1 : W1.heap[w.heap.size + 1]? = some (.loop (rec .ready none)) := by
    rw [← hW1]; have := World.alloc_heap_new (w.alloc (.deferred (some []))) (.loop (rec .ready none)); rwa [World.size_alloc] at this
  have hK1 : W1.heap[w.heap.size]? = some (.deferred (some [])) := by
    rw [← hW1]; exact (Below.heap_alloc _ _ _ (by simp)).trans (World.alloc_heap_new w _)
  have hI1 : I [] noBlock W1 := by
    rw [← hW1]
    exact hI _ _ _ _ _ (hI _ _ _ _ _ h0 (St.alloc _ _) (Grows.refl _ _)) (St.alloc _ _) (Grows.refl _ _)
  have hb1 : Below w0.heap.size w0 W1 := by
    rw [← hW1]; exact hb0.trans ((((Below.refl _ w).alloc (Nat.le_refl _) _).alloc (by simp) _).mono hb0.size)
  refine ⟨w.heap.size + 1, [{ target := .collected w.heap.size, args := #[] }], W1, { target := .fn (.func gf) lb, args := #[.func (.yield (w.heap.size + 1)) #[] #[]] }, W1, gf,
    #[.func (.yield (w.heap.size + 1)) #[] #[]] ++ lb, W1, ?_, ?_, ?_, ?_, fun _ => by omega, ?_⟩
  · rw [← hW1, hrec]; exact run_enterLoop_outer _ _ _ _ _
  · simp only [resolve, hg]
    simp [go_sem]
  · intro f' _; trivial
  · simp [invoke, go_sem, eg]
  · refine callsIn_wide.2 ((hseq (w.heap.size + 1)
      (fun pre X W => W1.heap.size ≤ W.heap.size ∧ I pre X W ∧ (∀ k, X k → W1.heap.size ≤ k) ∧ W.heap[w.heap.size + 1]? = some (.loop (rec .ready none)) ∧ W.heap[w.heap.size]? = some (.deferred (some [])))
      (fun pre X W => ∃ c, W1.heap.size ≤ W.heap.size ∧ Ix c pre X W ∧ W.heap[w.heap.size + 1]? = some (.loop (rec .done (some c))) ∧ W.heap[w.heap.size]? = some (.deferred (some [])) ∧ (∀ k, X k → W1.heap.size ≤ k))
      W1 hb1 ?_ ?_ ?_ ⟨Nat.le_refl _, hI1, fun _ h => h.elim, hL1, hK1⟩).mono ?_)
    · rintro pre X X' A B ⟨hz, hi, hx, hl, hk⟩ hst hgr
      have hz' := hst.base.size
      refine ⟨by omega, hI _ _ _ _ _ hi (hst.mono (by omega)) hgr, ?_, hst.same _ _ hl (fun h => by have := hx _ h; omega) (.inr (by omega)), hst.same _ _ hk (fun h => by have := hx _ h; omega) (.inr (by omega))⟩
      intro k h
      rcases hgr.2 k h with h | h
      · exact hx k h
      · omega
    · rintro pre X X' A B ⟨c, hz, hi, hl, hk, hx⟩ hst hgr
      have hz' := hst.base.size
      refine ⟨c, by omega, hIx c _ _ _ _ _ hi (hst.mono (by omega)) hgr, hst.same _ _ hl (fun h => by have := hx _ h; omega) (.inr (by omega)), hst.same _ _ hk (fun h => by have := hx _ h; omega) (.inr (by omega)), ?_⟩
      intro k h
      rcases hgr.2 k h with h | h
      · exact hx k h
      · omega
    · rintro pre x X W ⟨hz, hi, hx, hl, hk⟩ hsz hup hlen
      have hy := run_yield (P := P) (args := encs x) hl (by rw [hrec]; exact hps x)
      rw [hrec] at hy
      have hxw : ∀ k, X k → w.heap.size ≤ k ∧ k < W.heap.size := fun k h => ⟨by have := hx k h; omega, hup k h⟩
      have hXl : ¬ X (w.heap.size + 1) := fun h => by have := hx _ h; omega
      have hCl : ¬ C (w.heap.size + 1) := fun h => by have := hC _ h; omega
      refine ⟨fn, _, assign, body, hy, roundIn_of_wpIn trivial (hassign _ pre x X W _ hi (by omega) hxw ?_)⟩
      clear hy
      intro a' Wa hka hfa hia hax
      have hla := hfa.same _ _ (by omega) hl rfl
      have hda := hfa.same _ _ (Nat.le_refl _) hk rfl
      have hlta : w.heap.size + 1 < Wa.heap.size := (Array.getElem?_eq_some_iff.1 hla).1
      refine ⟨_, run_beginRound hla (by rw [hrec]), ?_⟩
      obtain ⟨Wb, hWb⟩ : ∃ Wb, Wb = Wa.putObj (w.heap.size + 1) (.loop { rec .ready none with state := .busy }) := ⟨_, rfl⟩
      rw [← hWb]
      have hlb : Wb.heap[w.heap.size + 1]? = some (.loop { rec .ready none with state := .busy }) := by rw [hWb]; exact World.putObj_heap_same hlta
      have hdb : Wb.heap[w.heap.size]? = some (.deferred (some [])) := by rw [hWb]; exact (World.putObj_heap_other (by omega)).trans hda
      have hkb : Keep n₀ C X W Wb := by rw [hWb]; exact hka.trans (Keep.putObj (by omega) hXl hCl hlta)
      have hfb : KeepsFrom W1.heap.size W Wb := by rw [hWb]; exact (KeepsFrom.up hfa (by omega)).trans (KeepsFrom.put (by omega))
      have hszb : w.heap.size ≤ Wb.heap.size := by rw [hWb]; simp; omega
      have hib : I pre X Wb := by rw [hWb]; exact hI.put _ hia (by omega) hla rfl
      have haxb : Ax pre X x a' Wb := by rw [hWb]; exact hAx _ _ _ _ _ _ hax (St.putObj hla rfl (by omega))
      refine wpIn_mono (hbody _ pre x X a' Wb hib haxb hszb (fun k h => ⟨(hxw k h).1, Nat.lt_of_lt_of_le (hxw k h).2 hkb.below.size⟩) hlen) ?_
      have fin : ∀ (jump : Option Code) (W3 : World), KeepsFrom w.heap.size Wb W3 → Keep n₀ C X Wb W3 →
          (Instr.endRound (w.heap.size + 1) jump).run P W3 = .ok (.bool jump.isNone) (W3.putObj (w.heap.size + 1) (.loop (rec (if jump.isNone then .ready else .done) jump))) ∧
          W3.heap[w.heap.size + 1]? = some (.loop { rec .ready none with state := .busy }) ∧
          (W3.putObj (w.heap.size + 1) (.loop (rec (if jump.isNone then .ready else .done) jump))).heap[w.heap.size + 1]? = some (.loop (rec (if jump.isNone then .ready else .done) jump)) ∧
          (W3.putObj (w.heap.size + 1) (.loop (rec (if jump.isNone then .ready else .done) jump))).heap[w.heap.size]? = some (.deferred (some [])) ∧
          Keep n₀ C X W (W3.putObj (w.heap.size + 1) (.loop (rec (if jump.isNone then .ready else .done) jump))) ∧
          KeepsFrom W1.heap.size W (W3.putObj (w.heap.size + 1) (.loop (rec (if jump.isNone then .ready else .done) jump))) := fun jump W3 hk3 hkk3 => by
        have hl3 := hk3.same _ _ (by omega) hlb rfl
        have hlt3 : w.heap.size + 1 < W3.heap.size := (Array.getElem?_eq_some_iff.1 hl3).1
        have he := run_endRound (P := P) jump hl3
        refine ⟨?_, hl3, World.putObj_heap_same hlt3, (World.putObj_heap_other (by omega)).trans (hk3.same _ _ (Nat.le_refl _) hdb rfl), (hkb.trans hkk3).trans (Keep.putObj (by omega) hXl hCl hlt3), (hfb.trans (KeepsFrom.up hk3 (by omega))).trans (KeepsFrom.put (by omega))⟩
        rw [hrec] at he ⊢
        exact he
      rintro e a3 W3 hp
      cases e with
      | normal =>
        obtain ⟨hk3, hkp3, hi3⟩ := hp
        have hz3 := hkp3.below.size
        have hz2 := hkb.below.size
        obtain ⟨hr, hl3, hl4, hk4, h5, h6⟩ := fin none W3 hk3 hkp3
        exact ⟨_, _, hr, .inl ⟨rfl, by simp; omega, hI.put _ hi3 (by omega) hl3 rfl, hx, hl4, hk4⟩, h5, h6⟩
      | ret =>
        obtain ⟨hk3, hkp3, hi3⟩ := hp
        have hz3 := hkp3.below.size
        have hz2 := hkb.below.size
        obtain ⟨hr, hl3, hl4, hk4, h5, h6⟩ := fin (some .ret) W3 hk3 hkp3
        exact ⟨_, _, hr, .inr ⟨rfl, .ret, by simp; omega, (hIx _).put _ hi3 (by omega) hl3 rfl, hl4, hk4, hx⟩, h5, h6⟩
      | exit id =>
        obtain ⟨hk3, hkp3, hi3⟩ := hp
        have hz3 := hkp3.below.size
        have hz2 := hkb.below.size
        obtain ⟨hr, hl3, hl4, hk4, h5, h6⟩ := fin (some (.exit id)) W3 hk3 hkp3
        exact ⟨_, _, hr, .inr ⟨rfl, .exit id, by simp; omega, (hIx _).put _ hi3 (by omega) hl3 rfl, hl4, hk4, hx⟩, h5, h6⟩
      | goto t =>
        obtain ⟨hk3, hkp3, hi3⟩ := hp
        have hz3 := hkp3.below.size
        have hz2 := hkb.below.size
        obtain ⟨hr, hl3, hl4, hk4, h5, h6⟩ := fin (some (.goto t)) W3 hk3 hkp3
        exact ⟨_, _, hr, .inr ⟨rfl, .goto t, by simp; omega, (hIx _).put _ hi3 (by omega) hl3 rfl, hl4, hk4, hx⟩, h5, h6⟩
      | panic ch => exact hp.elim
      | outgrown => exact hp.elim
    · rintro e W2 ⟨⟨v, rfl⟩, X, (⟨xs, hS, -, hi, hx, hl, hk⟩ | ⟨pre, hSp, c, -, hi, hl, hk, hx⟩)⟩
      · exact ⟨none, _, by have := run_endLoop (P := P) hl (by rw [hrec]; simp); rw [hrec] at this; exact this, hdone _ xs X _ (Nat.le_refl _) hS (hI.put _ hi (by omega) hl rfl) ((World.putObj_heap_other (by omega)).trans hk)⟩
      · exact ⟨some c, _, by have := run_endLoop (P := P) hl (by rw [hrec]; simp); rw [hrec] at this; exact this, hstop _ c pre X _ (Nat.le_refl _) hSp ((hIx c).put _ hi (by omega) hl rfl) ((World.putObj_heap_other (by omega)).trans hk)⟩

/-! ### the numbers from lo to M -/

def noDefer (ops : Array Oper) : Bool := ops.all fun o => match o.op with | .defer _ => false | _ => true
theorem noDefer_spec {ops : Array Oper} (h : noDefer ops = true) {i : Nat} {o : Oper} (hi : ops[i]? = some o) : ∀ c, o.op ≠ .defer c := by
  intro c hc
  obtain ⟨hlt, rfl⟩ := Array.getElem?_eq_some_iff.1 hi
  have := (Array.all_eq_true.1 h) i hlt
  rw [hc] at this
  cases this

section
variable {P : Program} {ops : Array Oper} {md : Region.Mode} {w : World} {lo m : Nat}
theorem wpIn_of_still {o : Oper} (hnd : ∀ c, o.op ≠ .defer c) {a : Act} {K : Act → Prop} {K' : Act → World → Prop} {Q' : Exit → Act → World → Prop} (h : ∀ a, K a → K' a w) (hh : o.still P a w K) : o.wpIn (Fence.wide.inRound lo) m P a w K' Q' := by
  unfold Oper.still at hh
  unfold Oper.wpIn
  refine ⟨fun _ _ => trivial, ?_⟩
  rw [Oper.semAt_plain _ _ _ hnd]
  generalize (execOp a.eval o).run P w = r at *
  cases r with
  | ok n w' =>
    cases n <;> simp only [Oper.stillUpon] at hh <;> simp only [Oper.uponIn]
    case enter f args =>
      obtain ⟨rfl, v, hc, hn⟩ := hh
      refine ⟨fun h => (by cases h), (CallsIn.inRound lo (callsIn_wide.2 hc)).mono fun e w'' ⟨he, hw⟩ => ?_⟩
      subst he; subst hw; exact h _ hn
    all_goals (obtain ⟨rfl, h2⟩ := hh; exact h _ h2)
  | halt x w' => simp only [Oper.stillUpon] at hh

theorem wpOpIn_of_stOp (hnd : noDefer ops = true) {i : Nat} {a : Act} {K : Act → Prop} {K' : Act → World → Prop} {Q' : Exit → Act → World → Prop} (h : ∀ a, K a → K' a w) (hh : stOp P ops w i K a) : wpOpIn (Fence.wide.inRound lo) m P ops Q' i K' a w := by
  unfold stOp at hh
  unfold wpOpIn
  split
  · rename_i ho; simp only [ho] at hh; exact h _ hh
  · rename_i o ho
    simp only [ho] at hh
    split
    · rename_i hw; simp only [hw, if_true] at hh; exact wpIn_of_still (noDefer_spec hnd ho) h hh
    · rename_i hw; simp only [hw] at hh; exact ⟨fun _ _ => trivial, h _ hh⟩

theorem wpAnyIn_of_head (hnd : noDefer ops = true) {n g : Nat} {L : Array Bool → Act → Prop} {Q' : Exit → Act → World → Prop} (hL : ∀ listed a, L listed a → wpAnyIn (Fence.wide.inRound lo) m P md ops Q' g listed a w) :
    ∀ (f : Nat) (listed : Array Bool) (a : Act), wpAnyL P md ops w n L f listed a → wpAnyIn (Fence.wide.inRound lo) m P md ops Q' (f + g) listed a w
  | 0, listed, a, h => by rw [Nat.zero_add]; exact hL _ _ h
  | f + 1, listed, a, h => by
    rw [show f + 1 + g = (f + g) + 1 by omega]
    exact ⟨fun h0 => absurd h0 h.1, fun i hi => wpOpIn_of_stOp hnd (fun a' h' => wpAnyIn_of_head hnd hL f _ a' h') (h.2 i hi).2⟩

theorem wpAnyIn_of_seq {F : Fence} {Q' : Exit → Act → World → Prop} : ∀ (l : List Oper) (k : Nat) (listed : Array Bool) (a : Act) (w : World), (∀ j, l[j]? = ops[k + j]?) →
    Region.seqB md ops l.length k listed = true → wpListIn F m P ops Q' l a w → wpAnyIn F m P md ops Q' l.length listed a w
  | [], _, _, _, _, _, hB, h => ⟨by simpa [Region.seqB] using hB, h⟩
  | o :: l, k, listed, a, w, hl, hB, h => by
    have h0 : ops[k]? = some o := by simpa using (hl 0).symm
    simp only [List.length_cons, Region.seqB, Bool.and_eq_true, decide_eq_true_eq] at hB
    refine ⟨fun h1 => (by rw [hB.1] at h1; cases h1), fun i hi => ?_⟩
    rw [hB.1] at hi
    have hik : i = k := by simpa using hi
    subst hik
    have hw : wpOpIn F m P ops Q' i (wpListIn F m P ops Q' l) a w := by unfold wpOpIn; simp only [h0]; exact h
    exact wpOpIn_mono (fun a' w' h' => wpAnyIn_of_seq l (i + 1) _ a' w' (fun j => by have := hl (j + 1); simpa [Nat.add_assoc, Nat.add_comm 1 j] using this) hB.2 h') hw

theorem wpIn_region_still_tail {id : Nat} {Q : Exit → Act → World → Prop} {a : Act} {w : World} {l : List Oper} (n : Nat) (hm : P.follows .mixedOrders = true) (hnd : noDefer l.toArray = true) (hB : Region.lexTailB .any l.toArray n = true)
    (h : wpStill P l.toArray { w with drawn := w.drawn + 1 } (fun a' => wpListIn (Fence.wide.inRound lo) m P l.toArray Q (l.drop n) a' { w with drawn := w.drawn + 1 }) (l.take n) a) : (Code.region id l.toArray true).wpIn (Fence.wide.inRound lo) m P Q a w := by
  simp only [Region.lexTailB, Bool.and_eq_true, decide_eq_true_eq] at hB
  obtain ⟨⟨⟨⟨hsel, hn⟩, hs⟩, hc⟩, hlex⟩ := hB
  have hn' : n < l.length := by simpa using hn
  have htl : (l.take n).length = n := by simp; omega
  have hdl : (l.drop n).length = l.toArray.size - n := by simp
  have inv0 : HeadInv .any l.toArray n (Array.replicate l.toArray.size false) :=
    ⟨by simp, fun j oj _ hl => (by rw [getD_replicate_false] at hl; cases hl), fun t _ ht => getD_in (by simpa using ht) (getD_replicate_false _ _)⟩
  have H := wpAnyL_lex (md := .any) (g := l.toArray.size - n) hsel hs hc hn (l.take n) 0 _ a (fun j hj => by
    have hj' : j < n := by rw [htl] at hj; exact hj
    simp [hj']) (by simpa using htl) inv0 (by rw [htl]; exact hlex) h
  refine wpIn_region_any hm ?_
  have := wpAnyIn_of_head (lo := lo) (m := m) hnd (Q' := Q) (g := l.toArray.size - n) (fun listed a' hL => by
    have := wpAnyIn_of_seq (F := Fence.wide.inRound lo) (m := m) (md := .any) (Q' := Q) (l.drop n) n listed a' { w with drawn := w.drawn + 1 } (fun j => by simp [List.getElem?_drop]) (by rw [hdl]; exact hL.1) hL.2
    rwa [hdl] at this) _ _ _ H
  rw [htl, show n + (l.toArray.size - n) = l.toArray.size by omega] at this
  exact this
theorem wpOpIn_round (hnd : noDefer ops = true) {i : Nat} {Q : Exit → Act → World → Prop} {K K' : Act → World → Prop} (hK : ∀ a w, K a w → K' a w) {a : Act} {w : World} (h : wpOpIn Fence.wide m P ops Q i K a w) : wpOpIn (Fence.wide.inRound lo) m P ops Q i K' a w := by
  have h := wpOpIn_mono hK h
  unfold wpOpIn at h ⊢
  split
  · rename_i ho; simp only [ho] at h; exact h
  · rename_i o ho
    simp only [ho] at h
    split
    · rename_i hw
      simp only [hw, if_true] at h
      obtain ⟨h1, h2⟩ := h
      refine ⟨h1, ?_⟩
      rw [Oper.semAt_plain _ _ _ (noDefer_spec hnd ho)] at h2 ⊢
      exact h2
    · rename_i hw; simp only [hw] at h; exact h
theorem wpAnyIn_round (hnd : noDefer ops = true) {Q : Exit → Act → World → Prop} : ∀ (fuel : Nat) (listed : Array Bool) (a : Act) (w : World), wpAnyIn Fence.wide m P md ops Q fuel listed a w → wpAnyIn (Fence.wide.inRound lo) m P md ops Q fuel listed a w
  | 0, _, _, _, h => h
  | fuel + 1, _, _, _, h => ⟨h.1, fun i hi => wpOpIn_round hnd (fun a' w' => wpAnyIn_round hnd fuel _ a' w') (h.2 i hi)⟩
theorem region_round {id : Nat} {a : Act} {w : World} {Q : Exit → Act → World → Prop} (hm : P.follows .mixedOrders = true) (hnd : noDefer ops = true)
    (h : wpAnyIn Fence.wide m P .any ops Q ops.size (Array.replicate ops.size false) a { w with drawn := w.drawn + 1 }) : (Code.region id ops true).wpIn (Fence.wide.inRound lo) m P Q a w :=
  wpIn_region_any hm (wpAnyIn_round hnd _ _ _ _ h)
end
section
variable {P : Program} {ops : Array Oper} {md : Region.Mode} {m : Nat} {Q : Exit → Act → World → Prop} {S : World → Prop} {needs : Nat → Bool}

def afterAll (md : Region.Mode) (listed : Array Bool) (o : Oper) : Bool := o.after.all fun e => !Region.binds md e || listed.getD e.on false
theorem afterAll_spec {listed : Array Bool} {o : Oper} (h : afterAll md listed o = true) : ∀ e ∈ o.after, Region.binds md e = true → listed.getD e.on false = true := by
  intro e he hb
  unfold afterAll at h
  rw [Array.all_eq_true_iff_forall_mem] at h
  have := h e he
  simpa [hb] using this
def Closed (md : Region.Mode) (ops : Array Oper) (listed : Array Bool) : Prop := ∀ j o, ops[j]? = some o → listed.getD j false = true → ∀ e ∈ o.after, Region.binds md e = true → listed.getD e.on false = true
def closedB (md : Region.Mode) (ops : Array Oper) (listed : Array Bool) : Bool := (List.range ops.size).all fun j => !listed.getD j false || match ops[j]? with | none => true | some o => afterAll md listed o
theorem closedB_spec {listed : Array Bool} (h : closedB md ops listed = true) : Closed md ops listed := by
  intro j o ho hl
  unfold closedB at h
  rw [List.all_eq_true] at h
  have hj := h j (List.mem_range.2 (Array.getElem?_eq_some_iff.1 ho).1)
  rw [ho, hl] at hj
  exact afterAll_spec (by simpa using hj)
theorem Closed.step {listed : Array Bool} (h : Closed md ops listed) {j : Nat} (hj : j ∈ Region.ready md ops listed) : Closed md ops (listed.setIfInBounds j true) := by
  obtain ⟨-, o, ho, hall⟩ := mem_ready.1 hj
  intro k ok hok hl e he hb
  by_cases hjk : j = k
  · subst hjk
    rw [ho] at hok
    cases hok
    exact getD_set_true (hall e he hb)
  · rw [getD_set_ne false hjk] at hl
    exact getD_set_true (h k ok hok hl e he hb)

def waitsB (md : Region.Mode) (ops : Array Oper) : Nat → Nat → Nat → Bool
  | 0, _, _ => false
  | f + 1, j, i => match ops[j]? with | none => false | some o => o.after.any fun e => Region.binds md e && (decide (e.on = i) || waitsB md ops f e.on i)
theorem waitsB_spec {listed : Array Bool} (hc : Closed md ops listed) {i : Nat} : ∀ (f j : Nat) (_ : ∀ o, ops[j]? = some o → ∀ e ∈ o.after, Region.binds md e = true → listed.getD e.on false = true), waitsB md ops f j i = true → listed.getD i false = true
  | 0, _, _, h => by cases h
  | f + 1, j, hj, h => by
    unfold waitsB at h
    split at h
    · cases h
    · rename_i o ho
      obtain ⟨k, hk, h⟩ := Array.any_eq_true.1 h
      have he : o.after[k] ∈ o.after := Array.getElem_mem hk
      generalize o.after[k] = e at h he
      rw [Bool.and_eq_true, Bool.or_eq_true] at h
      have hl := hj o ho e he h.1
      rcases h.2 with h2 | h2
      · rw [← of_decide_eq_true h2]; exact hl
      · exact waitsB_spec hc f e.on (fun o' ho' => hc e.on o' ho' hl) h2

theorem yieldsIf_wpOpIn {i : Nat} {o : Oper} {v : Value} {a : Act} (hi : ops[i]? = some o) (hy : YieldsIf P ops S o v a) {K : Act → World → Prop} {w : World} (hS : S w) (h : K (a.put o.dst v) w) : wpOpIn Fence.wide m P ops Q i K a w := by
  unfold Go.wpOpIn
  simp only [hi]
  rcases hy with ⟨hw, hv⟩ | ⟨hw, rfl⟩
  · simp only [hw, if_true]
    unfold Oper.wpIn
    refine ⟨fun _ _ => trivial, ?_⟩
    rw [show Fence.wide.round = none from rfl, Oper.semAt_none, hv w hS]
    exact h
  · simp only [hw]
    exact ⟨fun _ _ => trivial, h⟩

theorem wpOpIn_putIf {j : Nat} {oi oj : Oper} {v : Value} (hj : ops[j]? = some oj) (hap : oi.apart ops oj = true)
    (hsi : ∀ cs b, oi.op ≠ .select cs b) (hsj : ∀ cs b, oj.op ≠ .select cs b)
    (hQ : ∀ c a w, Q (.panic c) (a.put oi.dst v) w → Q (.panic c) a w) {K : Act → World → Prop} {a : Act} {w : World}
    (hy : YieldsIf P ops S oi v a) (h : wpOpIn Fence.wide m P ops Q j K (a.put oi.dst v) w) :
    wpOpIn Fence.wide m P ops Q j (fun a' w' => YieldsIf P ops S oi v a' ∧ K (a'.put oi.dst v) w') a w := by
  obtain ⟨h1, h2, h3⟩ := Oper.apart_spec hap
  have keep : ∀ (a : Act), YieldsIf P ops S oi v a → ∀ u, YieldsIf P ops S oi v (a.put oj.dst u) := fun a hy u =>
    hy.of_same (execOp_put oi hsi a oj.dst u h3) (wanted_put oi a oj.dst u h3)
  have keepD : ∀ d, YieldsIf P ops S oi v { a with defers := d :: a.defers } := fun d => hy.of_same rfl rfl
  have hro : Fence.wide.round = none := rfl
  unfold wpOpIn at *
  simp only [hj] at *
  rw [wanted_put oj a oi.dst v h1] at h
  split
  · rename_i hw
    simp only [hw, if_true] at h
    unfold Oper.wpIn at *
    refine ⟨fun _ _ => trivial, ?_⟩
    have h := h.2
    rw [hro, Oper.semAt_none, execOp_put oj hsj a oi.dst v h1] at h
    rw [hro, Oper.semAt_none]
    generalize (execOp a.eval oj).run P w = r at *
    cases r with
    | ok x w' =>
      cases x <;> simp only [Oper.uponIn] at h ⊢
      case value u => exact ⟨keep a hy u, by rw [← Act.put_comm a v u h2]; exact h⟩
      case skip => exact ⟨keep a hy _, by rw [← Act.put_comm a v undef h2]; exact h⟩
      case defer d =>
        refine ⟨keep _ (keepD d) _, ?_⟩
        rw [← Act.put_comm _ v undef h2, ← Act.put_defers]
        exact h
      case enter f args =>
        refine ⟨h.1, CallsIn.mono h.2 fun e w'' he => ?_⟩
        cases e with
        | returned u => exact ⟨keep a hy u, by rw [← Act.put_comm a v u h2]; exact he⟩
        | panicked c => exact hQ _ _ _ he
        | outgrown => exact he
      case row row args => exact ⟨h.1, RowsIn.mono h.2 fun u w'' he => ⟨keep a hy u, by rw [← Act.put_comm a v u h2]; exact he⟩⟩
      case round l f tmps assign body =>
        refine ⟨h.1, RoundIn.mono h.2 fun e w'' he => ?_⟩
        cases e with
        | returned u => exact ⟨keep a hy u, by rw [← Act.put_comm a v u h2]; exact he⟩
        | panicked c => exact hQ _ _ _ he
        | outgrown => exact he
    | halt x w' =>
      cases x <;> simp only [Oper.uponIn] at h ⊢
      case panic u => exact hQ _ _ _ h
  · rename_i hw
    simp only [hw] at h
    exact ⟨fun _ _ => trivial, keep a hy _, by rw [← Act.put_comm a v undef h2]; exact h.2⟩

/-- Whatever order is picked from here on, and S holds behind each operation that 'needs' names. -/
def wpAnyHI (m : Nat) (P : Program) (md : Region.Mode) (ops : Array Oper) (Q : Exit → Act → World → Prop) (S : World → Prop) (needs : Nat → Bool) : Nat → Array Bool → Act → World → Prop
  | 0, listed, a, w => Region.ready md ops listed = [] ∧ Q .normal a w
  | fuel + 1, listed, a, w =>
    (Region.ready md ops listed = [] → Q .normal a w) ∧
    ∀ i ∈ Region.ready md ops listed, wpOpIn Fence.wide m P ops Q i (fun a' w' => (needs i = true → S w') ∧ wpAnyHI m P md ops Q S needs fuel (listed.setIfInBounds i true) a' w') a w

theorem wpAnyIn_of_held : ∀ (fuel : Nat) (listed : Array Bool) (a : Act) (w : World), wpAnyHI m P md ops Q S needs fuel listed a w → wpAnyIn Fence.wide m P md ops Q fuel listed a w
  | 0, _, _, _, h => h
  | fuel + 1, _, _, _, h => ⟨h.1, fun i hi => wpOpIn_mono (fun a' w' h' => wpAnyIn_of_held fuel _ a' w' h'.2) (h.2 i hi)⟩

theorem wpAnyHI_first {i : Nat} {oi : Oper} {v : Value} (hi : ops[i]? = some oi) (hsel : ∀ (j : Nat) (o : Oper) cs b, ops[j]? = some o → o.op ≠ .select cs b)
    (hQ : ∀ c a w, Q (.panic c) (a.put oi.dst v) w → Q (.panic c) a w) (hneeds : ∀ j, j < ops.size → needs j = true ∨ j = i ∨ waitsB md ops ops.size j i = true) :
    ∀ (fuel : Nat) (listed : Array Bool) (a : Act) (w : World), Closed md ops listed →
      (∀ j oj, ops[j]? = some oj → j ≠ i → listed.getD j true = false → (∀ e ∈ oj.after, Region.binds md e = true → e.on ≠ i) → oi.apart ops oj = true) →
      i ∈ Region.ready md ops listed → YieldsIf P ops S oi v a → S w →
      wpAnyHI m P md ops Q S needs fuel (listed.setIfInBounds i true) (a.put oi.dst v) w → wpAnyHI m P md ops Q S needs (fuel + 1) listed a w := by
  intro fuel
  induction fuel with
  | zero =>
    intro listed a w hc _ hr hy hS H
    refine ⟨fun h => (by rw [h] at hr; cases hr), fun j hj => ?_⟩
    by_cases hji : j = i
    · subst hji; exact yieldsIf_wpOpIn hi hy hS ⟨fun _ => hS, H⟩
    · have := ready_mono hj hji
      rw [H.1] at this
      cases this
  | succ fuel ih =>
    intro listed a w hc hfree hr hy hS H
    refine ⟨fun h => (by rw [h] at hr; cases hr), fun j hj => ?_⟩
    by_cases hji : j = i
    · subst hji; exact yieldsIf_wpOpIn hi hy hS ⟨fun _ => hS, H⟩
    · have h1 := H.2 j (ready_mono hj hji)
      obtain ⟨hjun, oj, hoj, hall⟩ := mem_ready.1 hj
      have hi0 : listed.getD i false = false := by
        have h0 := (mem_ready.1 hr).1
        rcases Nat.lt_or_ge i listed.size with h' | h'
        · simp [h'] at h0 ⊢; exact h0
        · simp [Array.getElem?_eq_none h']
      have hnot : ∀ e ∈ oj.after, Region.binds md e = true → e.on ≠ i := fun e he hb heq => by
        have h1 := hall e he hb
        rw [heq, hi0] at h1
        cases h1
      have hnj : needs j = true := by
        rcases hneeds j (Array.getElem?_eq_some_iff.1 hoj).1 with h | h | h
        · exact h
        · exact absurd h hji
        · have := waitsB_spec hc _ j (fun o ho => by rw [hoj] at ho; cases ho; exact hall) h
          rw [hi0] at this
          cases this
      have h2 := wpOpIn_putIf hoj (hfree j oj hoj hji hjun hnot) (fun cs b => hsel i oi cs b hi) (fun cs b => hsel j oj cs b hoj) hQ hy h1
      have hfree' : ∀ k ok, ops[k]? = some ok → k ≠ i → (listed.setIfInBounds j true).getD k true = false →
          (∀ e ∈ ok.after, Region.binds md e = true → e.on ≠ i) → oi.apart ops ok = true := fun k ok hk hki hun hno => by
        refine hfree k ok hk hki ?_ hno
        by_cases hjk : j = k
        · subst hjk; exact hjun
        · rw [getD_set_ne true hjk] at hun; exact hun
      refine wpOpIn_mono (fun a' w' h3 => ⟨fun _ => h3.2.1 hnj, ih (listed.setIfInBounds j true) a' w' (hc.step hj) hfree' (ready_mono hr (Ne.symm hji)) h3.1 (h3.2.1 hnj) ?_⟩) h2
      rw [Array.setIfInBounds_comm _ _ hji]
      exact h3.2.2

theorem wpAnyHI_take {i : Nat} {oi : Oper} {v : Value} {fuel : Nat} {listed : Array Bool} {a : Act} {w : World} (hi : ops[i]? = some oi)
    (hs : Region.noSelect ops = true) (hf : Region.free md ops listed i = true) (hr : (Region.ready md ops listed).contains i = true) (hcl : closedB md ops listed = true)
    (hn : ((List.range ops.size).all fun j => needs j || decide (j = i) || waitsB md ops ops.size j i) = true)
    (hQ : ∀ c a w, Q (.panic c) (a.put oi.dst v) w → Q (.panic c) a w) (hS : S w) (hy : YieldsIf P ops S oi v a)
    (h : wpAnyHI m P md ops Q S needs fuel (listed.setIfInBounds i true) (a.put oi.dst v) w) : wpAnyHI m P md ops Q S needs (fuel + 1) listed a w :=
  wpAnyHI_first hi (Region.noSelect_spec hs) hQ (fun j hj => by
    have := (List.all_eq_true.1 hn) j (List.mem_range.2 hj)
    rw [Bool.or_eq_true, Bool.or_eq_true] at this
    rcases this with (h | h) | h
    · exact .inl h
    · exact .inr (.inl (of_decide_eq_true h))
    · exact .inr (.inr h)) fuel listed a w (closedB_spec hcl) (Region.free_spec hi hf) (by simpa using hr) hy hS h

/-- One operation alone may come up. -/
theorem wpAnyHI_one {i : Nat} {o : Oper} {fuel : Nat} {listed : Array Bool} {a : Act} {w : World} (ho : ops[i]? = some o) (hr : decide (Region.ready md ops listed = [i]) = true)
    (h : ∀ K' : Act → World → Prop, (∀ a' w', ((needs i = true → S w') ∧ wpAnyHI m P md ops Q S needs fuel (listed.setIfInBounds i true) a' w') → K' a' w') →
      if Region.wanted o (yielded ops a.tmps) = true then Oper.wpIn Fence.wide m P o a w K' Q else (∀ f, o.about P w a.eval = some f → Fence.wide.fn f) ∧ K' (a.put o.dst undef) w) : wpAnyHI m P md ops Q S needs (fuel + 1) listed a w := by
  have hr := of_decide_eq_true hr
  refine ⟨fun h0 => (by rw [hr] at h0; cases h0), fun j hj => ?_⟩
  rw [hr] at hj
  have hji : j = i := by simpa using hj
  subst hji
  exact wpOpIn_step ho h

/-- Where nothing is wanted any more. -/
theorem wpAnyHI_of_any : ∀ (fuel : Nat) (listed : Array Bool) (a : Act) (w : World), (∀ j, j < ops.size → listed.getD j true = false → needs j = false) → wpAnyIn Fence.wide m P md ops Q fuel listed a w → wpAnyHI m P md ops Q S needs fuel listed a w
  | 0, _, _, _, _, h => h
  | fuel + 1, listed, _, _, hn, h => by
    refine ⟨h.1, fun i hi => wpOpIn_mono (fun a' w' h' => ⟨fun hni => ?_, wpAnyHI_of_any fuel _ a' w' (fun j hj hl => hn j hj ?_) h'⟩) (h.2 i hi)⟩
    · obtain ⟨h0, o, ho, -⟩ := mem_ready.1 hi
      rw [hn i (Array.getElem?_eq_some_iff.1 ho).1 h0] at hni
      cases hni
    · by_cases hij : i = j
      · subst hij; exact (mem_ready.1 hi).1
      · rw [getD_set_ne true hij] at hl; exact hl

/-- The tail, a chain, as a list. -/
theorem wpAnyHI_tail {fuel k : Nat} {l : List Oper} {listed : Array Bool} {a : Act} {w : World} (hl : l = ops.toList.drop k) (hf : fuel = l.length) (hB : Region.seqB md ops l.length k listed = true)
    (hn : ((List.range ops.size).all fun j => listed.getD j true || !needs j) = true) (h : wpListIn Fence.wide m P ops Q l a w) : wpAnyHI m P md ops Q S needs fuel listed a w := by
  subst hf
  refine wpAnyHI_of_any _ _ _ _ (fun j hj h0 => ?_) (wpAnyIn_of_seq l k listed a w (fun j => ?_) hB h)
  · have := (List.all_eq_true.1 hn) j (List.mem_range.2 hj)
    rw [h0] at this
    simpa using this
  · rw [hl, List.getElem?_drop]
    simp
theorem region_held {id : Nat} {a : Act} {w : World} (S : World → Prop) (needs : Nat → Bool) (hm : P.follows .mixedOrders = true)
    (h : ∀ K : Act → World → Prop, (∀ a w, Q .normal a w → K a w) → wpAnyHI m P .any ops (Exit.then K (fun _ _ _ => False)) S needs ops.size (Array.replicate ops.size false) a w.drew) : (Code.region id ops true).wpIn Fence.wide m P Q a w :=
  wpIn_mono (wpIn_region_any hm (wpAnyIn_of_held _ _ _ _ (h (Q .normal) fun _ _ h => h))) (fun e a' w' hq => by
    cases e with
    | normal => exact hq
    | exit id => exact hq.elim
    | goto l => exact hq.elim
    | ret => exact hq.elim
    | panic ch => exact hq.elim
    | outgrown => exact hq.elim)
end
theorem region_held_round {P : Program} {ops : Array Oper} {m lo : Nat} {Q : Exit → Act → World → Prop} {id : Nat} {a : Act} {w : World} (S : World → Prop) (needs : Nat → Bool) (hm : P.follows .mixedOrders = true) (hnd : noDefer ops = true)
    (h : ∀ K : Act → World → Prop, (∀ a w, Q .normal a w → K a w) → wpAnyHI m P .any ops (Exit.then K (fun _ _ _ => False)) S needs ops.size (Array.replicate ops.size false) a w.drew) : (Code.region id ops true).wpIn (Fence.wide.inRound lo) m P Q a w :=
  wpIn_mono (region_round hm hnd (wpAnyIn_of_held _ _ _ _ (h (Q .normal) fun _ _ h => h))) (fun e a' w' hq => by
    cases e with
    | normal => exact hq
    | exit id => exact hq.elim
    | goto l => exact hq.elim
    | ret => exact hq.elim
    | panic ch => exact hq.elim
    | outgrown => exact hq.elim)
/-- A label to which nobody goes. -/
theorem wpIn_scope_wide {P : Program} {n : Nat} {c : Code} {Q : Exit → Act → World → Prop} {a : Act} {w : World} (h : c.wpIn Fence.wide n P (Exit.noGoto Q) a w) : (Code.scope c).wpIn Fence.wide n P Q a w :=
  wpIn_wide.2 (wp_scope_straight (wpIn_wide.1 h))
/-- A region of reads: the world stays. -/
theorem wpAnyHI_end {P : Program} {ops : Array Oper} {md : Region.Mode} {m : Nat} {Q : Exit → Act → World → Prop} {S : World → Prop} {needs : Nat → Bool} {listed : Array Bool} {a : Act} {w : World} {fuel : Nat} (hr : (Region.ready md ops listed).isEmpty = true) (h : Q .normal a w) : wpAnyHI m P md ops Q S needs fuel listed a w := by
  have hr : Region.ready md ops listed = [] := by simpa using hr
  cases fuel with
  | zero => exact ⟨hr, h⟩
  | succ f => exact ⟨fun _ => h, by rw [hr]; simp⟩

theorem wpAnyHI_takeD {P : Program} {ops : Array Oper} {md : Region.Mode} {m : Nat} {Q : Exit → Act → World → Prop} {S : World → Prop} {needs : Nat → Bool} {i : Nat} {oi : Oper} {v : Value} {fuel : Nat} {listed : Array Bool} {a : Act} {w : World} (d : Option Tmp) (hi : ops[i]? = some oi) (hd : oi.dst = d)
    (hs : Region.noSelect ops = true) (hf : Region.free md ops listed i = true) (hr : (Region.ready md ops listed).contains i = true) (hcl : closedB md ops listed = true)
    (hn : ((List.range ops.size).all fun j => needs j || decide (j = i) || waitsB md ops ops.size j i) = true)
    (hQ : ∀ c a w, Q (.panic c) (a.put oi.dst v) w → Q (.panic c) a w) (hS : S w) (hy : YieldsIf P ops S oi v a)
    (h : wpAnyHI m P md ops Q S needs fuel (listed.setIfInBounds i true) (a.put d v) w) : wpAnyHI m P md ops Q S needs (fuel + 1) listed a w := by
  subst hd
  exact wpAnyHI_take hi hs hf hr hcl hn hQ hS hy h
/-- An operation that yields in whatever world may be taken first. -/
theorem wpAnyHI_firstW {P : Program} {ops : Array Oper} {md : Region.Mode} {m : Nat} {Q : Exit → Act → World → Prop} {S : World → Prop} {needs : Nat → Bool} {i : Nat} {oi : Oper} {v : Value} (hi : ops[i]? = some oi) (hsel : ∀ (j : Nat) (o : Oper) cs b, ops[j]? = some o → o.op ≠ .select cs b)
    (hQ : ∀ c a w, Q (.panic c) (a.put oi.dst v) w → Q (.panic c) a w) (hni : needs i = false) :
    ∀ (fuel : Nat) (listed : Array Bool) (a : Act) (w : World),
      (∀ j oj, ops[j]? = some oj → j ≠ i → listed.getD j true = false → (∀ e ∈ oj.after, Region.binds md e = true → e.on ≠ i) → oi.apart ops oj = true) →
      i ∈ Region.ready md ops listed → YieldsIf P ops (fun _ => True) oi v a →
      wpAnyHI m P md ops Q S needs fuel (listed.setIfInBounds i true) (a.put oi.dst v) w → wpAnyHI m P md ops Q S needs (fuel + 1) listed a w := by
  intro fuel
  induction fuel with
  | zero =>
    intro listed a w _ hr hy H
    refine ⟨fun h => (by rw [h] at hr; cases hr), fun j hj => ?_⟩
    by_cases hji : j = i
    · subst hji; exact yieldsIf_wpOpIn hi hy trivial ⟨fun h => (by rw [hni] at h; cases h), H⟩
    · have := ready_mono hj hji
      rw [H.1] at this
      cases this
  | succ fuel ih =>
    intro listed a w hfree hr hy H
    refine ⟨fun h => (by rw [h] at hr; cases hr), fun j hj => ?_⟩
    by_cases hji : j = i
    · subst hji; exact yieldsIf_wpOpIn hi hy trivial ⟨fun h => (by rw [hni] at h; cases h), H⟩
    · have h1 := H.2 j (ready_mono hj hji)
      obtain ⟨hjun, oj, hoj, hall⟩ := mem_ready.1 hj
      have hi0 : listed.getD i false = false := by
        have h0 := (mem_ready.1 hr).1
        rcases Nat.lt_or_ge i listed.size with h' | h'
        · simp [h'] at h0 ⊢; exact h0
        · simp [Array.getElem?_eq_none h']
      have hnot : ∀ e ∈ oj.after, Region.binds md e = true → e.on ≠ i := fun e he hb heq => by
        have h1 := hall e he hb
        rw [heq, hi0] at h1
        cases h1
      have h2 := wpOpIn_putIf hoj (hfree j oj hoj hji hjun hnot) (fun cs b => hsel i oi cs b hi) (fun cs b => hsel j oj cs b hoj) hQ hy h1
      have hfree' : ∀ k ok, ops[k]? = some ok → k ≠ i → (listed.setIfInBounds j true).getD k true = false →
          (∀ e ∈ ok.after, Region.binds md e = true → e.on ≠ i) → oi.apart ops ok = true := fun k ok hk hki hun hno => by
        refine hfree k ok hk hki ?_ hno
        by_cases hjk : j = k
        · subst hjk; exact hjun
        · rw [getD_set_ne true hjk] at hun; exact hun
      refine wpOpIn_mono (fun a' w' h3 => ⟨h3.2.1, ih (listed.setIfInBounds j true) a' w' hfree' (ready_mono hr (Ne.symm hji)) h3.1 ?_⟩) h2
      rw [Array.setIfInBounds_comm _ _ hji]
      exact h3.2.2
theorem wpAnyHI_takeW {P : Program} {ops : Array Oper} {md : Region.Mode} {m : Nat} {Q : Exit → Act → World → Prop} {S : World → Prop} {needs : Nat → Bool} {i : Nat} {oi : Oper} {v : Value} {fuel : Nat} {listed : Array Bool} {a : Act} {w : World} (d : Option Tmp) (hi : ops[i]? = some oi) (hd : oi.dst = d)
    (hs : Region.noSelect ops = true) (hf : Region.free md ops listed i = true) (hr : (Region.ready md ops listed).contains i = true) (hni : needs i = false)
    (hQ : ∀ c a w, Q (.panic c) (a.put oi.dst v) w → Q (.panic c) a w) (hy : YieldsIf P ops (fun _ => True) oi v a)
    (h : wpAnyHI m P md ops Q S needs fuel (listed.setIfInBounds i true) (a.put d v) w) : wpAnyHI m P md ops Q S needs (fuel + 1) listed a w := by
  subst hd
  exact wpAnyHI_firstW hi (Region.noSelect_spec hs) hQ hni fuel listed a w (Region.free_spec hi hf) (by simpa using hr) hy h
theorem wpAnyHI_first2 {P : Program} {ops : Array Oper} {md : Region.Mode} {m : Nat} {Q : Exit → Act → World → Prop} {S : World → Prop} {needs : Nat → Bool} {i : Nat} {oi : Oper} {v : Value} (hi : ops[i]? = some oi) (hsel : ∀ (j : Nat) (o : Oper) cs b, ops[j]? = some o → o.op ≠ .select cs b)
    (hQ : ∀ c a w, Q (.panic c) (a.put oi.dst v) w → Q (.panic c) a w) :
    ∀ (fuel : Nat) (listed : Array Bool) (a : Act) (w : World), Closed md ops listed → (∀ j, j < ops.size → listed.getD j true = false → needs j = true ∨ j = i ∨ waitsB md ops ops.size j i = true) →
      (∀ j oj, ops[j]? = some oj → j ≠ i → listed.getD j true = false → (∀ e ∈ oj.after, Region.binds md e = true → e.on ≠ i) → oi.apart ops oj = true) →
      i ∈ Region.ready md ops listed → YieldsIf P ops S oi v a → S w →
      wpAnyHI m P md ops Q S needs fuel (listed.setIfInBounds i true) (a.put oi.dst v) w → wpAnyHI m P md ops Q S needs (fuel + 1) listed a w := by
  intro fuel
  induction fuel with
  | zero =>
    intro listed a w hc _ _ hr hy hS H
    refine ⟨fun h => (by rw [h] at hr; cases hr), fun j hj => ?_⟩
    by_cases hji : j = i
    · subst hji; exact yieldsIf_wpOpIn hi hy hS ⟨fun _ => hS, H⟩
    · have := ready_mono hj hji
      rw [H.1] at this
      cases this
  | succ fuel ih =>
    intro listed a w hc hneeds hfree hr hy hS H
    refine ⟨fun h => (by rw [h] at hr; cases hr), fun j hj => ?_⟩
    by_cases hji : j = i
    · subst hji; exact yieldsIf_wpOpIn hi hy hS ⟨fun _ => hS, H⟩
    · have h1 := H.2 j (ready_mono hj hji)
      obtain ⟨hjun, oj, hoj, hall⟩ := mem_ready.1 hj
      have hi0 : listed.getD i false = false := by
        have h0 := (mem_ready.1 hr).1
        rcases Nat.lt_or_ge i listed.size with h' | h'
        · simp [h'] at h0 ⊢; exact h0
        · simp [Array.getElem?_eq_none h']
      have hnot : ∀ e ∈ oj.after, Region.binds md e = true → e.on ≠ i := fun e he hb heq => by
        have h1 := hall e he hb
        rw [heq, hi0] at h1
        cases h1
      have hnj : needs j = true := by
        rcases hneeds j (Array.getElem?_eq_some_iff.1 hoj).1 hjun with h | h | h
        · exact h
        · exact absurd h hji
        · have := waitsB_spec hc _ j (fun o ho => by rw [hoj] at ho; cases ho; exact hall) h
          rw [hi0] at this
          cases this
      have h2 := wpOpIn_putIf hoj (hfree j oj hoj hji hjun hnot) (fun cs b => hsel i oi cs b hi) (fun cs b => hsel j oj cs b hoj) hQ hy h1
      have hfree' : ∀ k ok, ops[k]? = some ok → k ≠ i → (listed.setIfInBounds j true).getD k true = false →
          (∀ e ∈ ok.after, Region.binds md e = true → e.on ≠ i) → oi.apart ops ok = true := fun k ok hk hki hun hno => by
        refine hfree k ok hk hki ?_ hno
        by_cases hjk : j = k
        · subst hjk; exact hjun
        · rw [getD_set_ne true hjk] at hun; exact hun
      have hneeds' : ∀ k, k < ops.size → (listed.setIfInBounds j true).getD k true = false → needs k = true ∨ k = i ∨ waitsB md ops ops.size k i = true := fun k hk hun => hneeds k hk (by
        by_cases hjk : j = k
        · subst hjk; exact hjun
        · rw [getD_set_ne true hjk] at hun; exact hun)
      refine wpOpIn_mono (fun a' w' h3 => ⟨fun _ => h3.2.1 hnj, ih (listed.setIfInBounds j true) a' w' (hc.step hj) hneeds' hfree' (ready_mono hr (Ne.symm hji)) h3.1 (h3.2.1 hnj) ?_⟩) h2
      rw [Array.setIfInBounds_comm _ _ hji]
      exact h3.2.2

theorem wpAnyHI_takeE {P : Program} {ops : Array Oper} {md : Region.Mode} {m : Nat} {Q : Exit → Act → World → Prop} {S : World → Prop} {needs : Nat → Bool} {i : Nat} {oi : Oper} {v : Value} {fuel : Nat} {listed : Array Bool} {a : Act} {w : World} (d : Option Tmp) (hi : ops[i]? = some oi) (hd : oi.dst = d)
    (hs : Region.noSelect ops = true) (hf : Region.free md ops listed i = true) (hr : (Region.ready md ops listed).contains i = true) (hcl : closedB md ops listed = true)
    (hn : ((List.range ops.size).all fun j => listed.getD j true || (needs j || decide (j = i) || waitsB md ops ops.size j i)) = true)
    (hQ : ∀ c a w, Q (.panic c) (a.put oi.dst v) w → Q (.panic c) a w) (hS : S w) (hy : YieldsIf P ops S oi v a)
    (h : wpAnyHI m P md ops Q S needs fuel (listed.setIfInBounds i true) (a.put d v) w) : wpAnyHI m P md ops Q S needs (fuel + 1) listed a w := by
  subst hd
  refine wpAnyHI_first2 hi (Region.noSelect_spec hs) hQ fuel listed a w (closedB_spec hcl) (fun j hj hl => ?_) (Region.free_spec hi hf) (by simpa using hr) hy hS h
  have := (List.all_eq_true.1 hn) j (List.mem_range.2 hj)
  rw [hl, Bool.false_or, Bool.or_eq_true, Bool.or_eq_true] at this
  rcases this with (h | h) | h
  · exact .inl h
  · exact .inr (.inl (of_decide_eq_true h))
  · exact .inr (.inr h)
theorem act_eq {K : Act → World → Prop} {a a' : Act} {w : World} (h : a = a') (hk : K a' w) : K a w := h ▸ hk
section
variable {P : Program} {ops : Array Oper} {md : Region.Mode} {m : Nat} {Q : Exit → Act → World → Prop} {S : World → Prop} {needs : Nat → Bool}
/-- Two operations may come up. -/
theorem wpAnyHI_two {i j : Nat} {oi oj : Oper} {fuel : Nat} {listed : Array Bool} {a : Act} {w : World} (hi : ops[i]? = some oi) (hj : ops[j]? = some oj) (hr : decide (Region.ready md ops listed = [i, j]) = true)
    (h1 : ∀ K' : Act → World → Prop, (∀ a' w', ((needs i = true → S w') ∧ wpAnyHI m P md ops Q S needs fuel (listed.setIfInBounds i true) a' w') → K' a' w') →
      if Region.wanted oi (yielded ops a.tmps) = true then Oper.wpIn Fence.wide m P oi a w K' Q else (∀ f, oi.about P w a.eval = some f → Fence.wide.fn f) ∧ K' (a.put oi.dst undef) w)
    (h2 : ∀ K' : Act → World → Prop, (∀ a' w', ((needs j = true → S w') ∧ wpAnyHI m P md ops Q S needs fuel (listed.setIfInBounds j true) a' w') → K' a' w') →
      if Region.wanted oj (yielded ops a.tmps) = true then Oper.wpIn Fence.wide m P oj a w K' Q else (∀ f, oj.about P w a.eval = some f → Fence.wide.fn f) ∧ K' (a.put oj.dst undef) w) : wpAnyHI m P md ops Q S needs (fuel + 1) listed a w := by
  have hr := of_decide_eq_true hr
  refine ⟨fun h0 => (by rw [h0] at hr; cases hr), fun k hk => ?_⟩
  rw [hr] at hk
  simp only [List.mem_cons, List.not_mem_nil, or_false] at hk
  rcases hk with rfl | rfl
  · exact wpOpIn_step hi h1
  · exact wpOpIn_step hj h2
theorem region_held_wp {id : Nat} {a : Act} {w : World} (m : Nat) (S : World → Prop) (needs : Nat → Bool) (hm : P.follows .mixedOrders = true)
    (h : ∀ K : Act → World → Prop, (∀ a w, Q .normal a w → K a w) → wpAnyHI m P .any ops (Exit.then K (fun _ _ _ => False)) S needs ops.size (Array.replicate ops.size false) a w.drew) : (Code.region id ops true).wp P Q a w :=
  wpIn_wide.1 (region_held S needs hm h)
end
end Go.Proofs.Ytfidkgpimlpdbaa

/- Symbolic runs: operations, control, regions that draw their order; soundness of the run. -/
namespace Go.Proofs.Ytfidkgpimlpdbaa
open Go.RowKit Go.Shelf

def Hold (w0 : World) (kn : List KB) (w : World) : Prop := (∀ kb ∈ kn, w.heap[kb.id]? = some kb.obj) ∧ Below w0.heap.size w0 w
theorem At.hold {w0 w : World} {kn rows : List KB} {sz : Nat} (h : At w0 w kn rows sz) : Hold w0 kn w := ⟨h.ok, h.below⟩
theorem Hold.call {w0 w w' : World} {kn : List KB} (h : Hold w0 kn w) (hb : Below w.heap.size w w') : Hold w0 kn w' :=
  ⟨fun kb hk => (hb.block _ (Array.getElem?_eq_some_iff.1 (h.1 kb hk)).1).trans (h.1 kb hk), h.2.trans (hb.mono h.2.size)⟩
theorem Obl.eqs {w0 : World} {e : Env} {p : Nat × Nat} {l : List Hint} (h : Obl w0 { e with hs := l, eqs := p :: e.eqs }) : p.1 = p.2 ∧ Obl w0 e :=
  ⟨h.1 _ List.mem_cons_self, fun q hq => h.1 q (List.mem_cons_of_mem _ hq), h.2.1, h.2.2⟩
theorem Obl.eqs' {w0 : World} {e : Env} {p : Nat × Nat} {l : List Hint} {kn : List KB} (h : Obl w0 { e with hs := l, eqs := p :: e.eqs, known := kn }) : p.1 = p.2 ∧ Obl w0 e :=
  ⟨h.1 _ List.mem_cons_self, fun q hq => h.1 q (List.mem_cons_of_mem _ hq), h.2.1, h.2.2⟩
theorem Obl.exts {w0 : World} {e : Env} {p : Addr × Value} {l : List Hint} (h : Obl w0 { e with hs := l, ext := p :: e.ext }) : (p.1.block < w0.heap.size ∧ w0.cell? p.1 = some p.2) ∧ Obl w0 e :=
  ⟨h.2.1 _ List.mem_cons_self, h.1, fun q hq => h.2.1 q (List.mem_cons_of_mem _ hq), h.2.2⟩
theorem Obl.obss {w0 : World} {e : Env} {p : Prop} {l : List Hint} (h : Obl w0 { e with hs := l, obs := p :: e.obs }) : p ∧ Obl w0 e :=
  ⟨h.2.2.1 _ List.mem_cons_self, h.1, h.2.1, fun q hq => h.2.2.1 q (List.mem_cons_of_mem _ hq), h.2.2.2⟩

theorem Obl.kqss {w0 : World} {e : Env} {p : List KB × List KB} (h : Obl w0 { e with kqs := p :: e.kqs }) : p.1 = p.2 ∧ Obl w0 e :=
  ⟨h.2.2.2 _ List.mem_cons_self, h.1, h.2.1, h.2.2.1, fun q hq => h.2.2.2 q (List.mem_cons_of_mem _ hq)⟩

noncomputable def pick (m : List Bool) : List KB → List KB := List.rec (fun _ => []) (fun b _ ih l => match l with | [] => [] | x :: l => cond b (x :: ih l) (ih l)) m
theorem pick_sub : ∀ (m : List Bool) (l : List KB), (pick m l).Sublist l
  | [], l => List.nil_sublist l
  | b :: m, [] => List.Sublist.refl _
  | b :: m, x :: l => by
    have ih := pick_sub m l
    cases b with
    | true => exact ih.cons_cons x
    | false => exact ih.cons x
theorem Hold.sub {w0 w : World} {kn kn' : List KB} (h : Hold w0 kn w) (hs : kn'.Sublist kn) : Hold w0 kn' w := ⟨fun kb hk => h.1 kb (hs.subset hk), h.2⟩

theorem Env.load_sound {w0 : World} {e e1 : Env} {a : Addr} {v : Value} (hl : e.load a = some (v, e1)) (ho : Obl w0 e1) : Obl w0 e ∧ e1.known = e.known ∧ ∀ w, Hold w0 e.known w → w.cell? a = some v := by
  unfold Env.load at hl
  split at hl
  · rename_i i hs hhs
    split at hl
    · rename_i id c T fz hn
      split at hl
      · rename_i v0 hsp hv
        cases hl
        obtain ⟨hid, ho⟩ := Obl.eqs ho
        rw [nth_eq] at hn hv
        exact ⟨ho, rfl, fun w hA => cell_of_obj (T := T) (fz := fz) (by rw [show a.block = id from hid]; exact hA.1 _ (List.mem_of_getElem? hn)) hsp (by simpa using hv)⟩
      · cases hl
    · cases hl
  · cases hl
    obtain ⟨⟨hlt, hv⟩, ho⟩ := Obl.exts ho
    exact ⟨ho, rfl, fun w hA => (hA.2.cell hlt).trans hv⟩
  · rename_i i v0 hs hhs
    split at hl
    · rename_i id c T fz hn
      split at hl
      · rename_i hsp
        cases hl
        obtain ⟨q1, q2, q3, q4⟩ := ho
        have hid : a.block = id := q1 _ List.mem_cons_self
        have hv : c[a.off]? = some v := q3 _ List.mem_cons_self
        rw [nth_eq] at hn
        exact ⟨⟨fun p hp => q1 p (List.mem_cons_of_mem _ hp), q2, fun p hp => q3 p (List.mem_cons_of_mem _ hp), q4⟩, rfl, fun w hA => cell_of_obj (T := T) (fz := fz) (by rw [hid]; exact hA.1 _ (List.mem_of_getElem? hn)) hsp hv⟩
      · cases hl
    · cases hl
  · cases hl
theorem Env.obj_sound {w0 : World} {e e1 : Env} {r : Nat} {o : Obj} (hl : e.obj? r = some (o, e1)) (ho : Obl w0 e1) : Obl w0 e ∧ e1.known = e.known ∧ ∀ w, Hold w0 e.known w → w.heap[r]? = some o := by
  unfold Env.obj? at hl
  split at hl
  · rename_i i hs hhs
    split at hl
    · rename_i kb hn
      cases hl
      obtain ⟨hid, ho⟩ := Obl.eqs ho
      rw [nth_eq] at hn
      exact ⟨ho, rfl, fun w hA => by rw [show r = kb.id from hid]; exact hA.1 _ (List.mem_of_getElem? hn)⟩
    · cases hl
  · cases hl
/-- A run that only reads holds in whatever world holds what is known. -/
theorem sy_read {P : Program} {α : Type} {w0 : World} (s : Sem α) : ∀ (e : Env) (x : α) (e' : Env), sy P true s e = some (x, e') → Obl w0 e' →
    Obl w0 e ∧ e'.known = e.known ∧ ∀ w, Hold w0 e.known w → s.run P w = .ok x w := by
  induction s with
  | pure a =>
    intro e x e' h ho
    cases h
    exact ⟨ho, rfl, fun w hA => rfl⟩
  | load m a k ih =>
    intro e x e' h ho
    have h : (match e.load a with | some p => sy P true (k p.1) p.2 | none => none) = some (x, e') := h
    cases hl : e.load a with
    | none => rw [hl] at h; cases h
    | some p =>
      rw [hl] at h
      obtain ⟨v, e1⟩ := p
      obtain ⟨ho1, hk, hr⟩ := ih v e1 x e' h ho
      obtain ⟨ho2, hk2, hc⟩ := Env.load_sound hl ho1
      refine ⟨ho2, hk.trans hk2, fun w hA => ?_⟩
      show Sem.run P (Sem.load m a k) w = _
      rw [Sem.run, hc w hA]
      exact hr w (hk2 ▸ hA)
  | store m a v k ih => intro e x e' h; cases h
  | new o k ih => intro e x e' h; cases h
  | shape r k ih =>
    intro e x e' h ho
    have h : (match e.obj? r with | some p => sy P true (k (match p.1 with | .cells c t _ => some (t, c.size) | _ => none)) p.2 | none => none) = some (x, e') := h
    cases hl : e.obj? r with
    | none => rw [hl] at h; cases h
    | some p =>
      rw [hl] at h
      obtain ⟨o, e1⟩ := p
      obtain ⟨ho1, hk, hr⟩ := ih _ e1 x e' h ho
      obtain ⟨ho2, hk2, hc⟩ := Env.obj_sound hl ho1
      refine ⟨ho2, hk.trans hk2, fun w hA => ?_⟩
      show Sem.run P (k (w.shape? r)) w = _
      rw [← hr w (hk2 ▸ hA)]
      congr 2
      unfold World.shape?
      rw [hc w hA]
      cases o <;> rfl
  | freeze a n k ih => intro e x e' h; cases h
  | frozen a k ih =>
    intro e x e' h ho
    have h : (match e.obj? a.block with | some (.cells _ _ (lo, hi), e') => sy P true (k (decide (lo ≤ a.off) && decide (a.off < hi))) e' | _ => none) = some (x, e') := h
    split at h
    · rename_i c T lo hi e1 hl
      obtain ⟨ho1, hk, hr⟩ := ih _ e1 x e' h ho
      obtain ⟨ho2, hk2, hc⟩ := Env.obj_sound hl ho1
      refine ⟨ho2, hk.trans hk2, fun w hA => ?_⟩
      show Sem.run P (k (w.frozen? a)) w = _
      rw [← hr w (hk2 ▸ hA)]
      unfold World.frozen?
      rw [hc w hA]
    · cases h
  | getObj r k ih =>
    intro e x e' h ho
    have h : (match e.obj? r with | some (.cells _ _ _, _) => none | some (o, e') => sy P true (k o) e' | none => none) = some (x, e') := h
    split at h
    · cases h
    · rename_i o e1 hnc hl
      obtain ⟨ho1, hk, hr⟩ := ih _ e1 x e' h ho
      obtain ⟨ho2, hk2, hc⟩ := Env.obj_sound hl ho1
      refine ⟨ho2, hk.trans hk2, fun w hA => ?_⟩
      show Sem.run P (Sem.getObj r k) w = _
      rw [Sem.run, hc w hA]
      split
      · rename_i heq; cases heq; exact (hnc _ _ _ rfl).elim
      · rename_i heq; cases heq; exact hr w (hk2 ▸ hA)
      · rename_i heq; cases heq
    · cases h
  | setObj r o k ih => intro e x e' h; cases h
  | choose q k ih =>
    intro e x e' h ho
    have h : (match q.forced with | true => sy P true (k 0) e | false => none) = some (x, e') := h
    cases hq : q.forced with
    | false => rw [hq] at h; cases h
    | true =>
      rw [hq] at h
      obtain ⟨ho1, hk, hr⟩ := ih 0 e x e' h ho
      refine ⟨ho1, hk, fun w hA => ?_⟩
      show Sem.run P (Sem.choose q k) w = _
      rw [Sem.run, if_pos hq]
      exact hr w hA
  | sys c k ih => intro e x e' h; cases h
  | program k ih => intro e x e' h ho; exact ih P e x e' h ho
  | mark m k ih => intro e x e' h ho; exact ih e x e' h ho
  | halt h0 => intro e x e' h; cases h

/-! ### frames -/
def Rep (N : Nat) (fr : Fr) (a : Act) : Prop := a.tmps.size = N ∧ ∀ t v, fr.get t = some v → a.tmps[t]? = some v
noncomputable def putS (N : Nat) (fr : Fr) (dst : Option Tmp) (v : Value) : Option Fr := Option.rec (some fr) (fun t => cond (Nat.blt t N) (some ((t, v) :: fr)) none) dst
theorem Rep.put {N : Nat} {fr fr' : Fr} {a : Act} {dst : Option Tmp} {v : Value} (h : Rep N fr a) (hp : putS N fr dst v = some fr') : Rep N fr' (a.put dst v) := by
  cases dst with
  | none => cases hp; exact h
  | some t =>
    have hp : cond (Nat.blt t N) (some ((t, v) :: fr)) none = some fr' := hp
    cases hb : Nat.blt t N with
    | false => rw [hb] at hp; cases hp
    | true =>
      rw [hb] at hp
      cases hp
      have hlt : t < a.tmps.size := by rw [h.1]; exact Nat.le_of_ble_eq_true hb
      refine ⟨by simp [Act.put, h.1], fun s u hs => ?_⟩
      rw [Fr.get_cons] at hs
      by_cases e : t = s
      · subst e
        rw [if_pos rfl] at hs
        cases hs
        simp [Act.put, hlt]
      · rw [if_neg e] at hs
        have := h.2 s u hs
        simp only [Act.put, Array.getElem?_setIfInBounds]
        rw [if_neg e]
        exact this
theorem Rep.eval {N : Nat} {fr : Fr} {a : Act} (h : Rep N fr a) {x : Operand} (hk : knows fr x = true) : a.eval x = rho fr x := by
  cases x with
  | tmp t =>
    have hk : (fr.get t).isSome = true := hk
    cases hg : fr.get t with
    | none => rw [hg] at hk; cases hk
    | some v =>
      show a.tmps.getD t undef = (fr.get t).getD undef
      rw [hg, Array.getD_eq_getD_getElem?, h.2 t v hg]
  | const v => rfl
  | global g => rfl
  | func f => rfl
def plainOp (o : Oper) : Bool := match o.op with | .select _ _ => false | .defer _ => false | _ => true
theorem Rep.exec {N : Nat} {fr : Fr} {a : Act} (h : Rep N fr a) {o : Oper} (hp : plainOp o = true) (hk : o.op.operands.toList.all (knows fr) = true) : execOp a.eval o = execOp (rho fr) o := by
  refine execOp_congr o (fun cs b e => ?_) fun x hx => h.eval ?_
  · unfold plainOp at hp
    rw [e] at hp
    cases hp
  · exact List.all_eq_true.1 hk x (by simpa using hx)
theorem plain_defer {o : Oper} (hp : plainOp o = true) : ∀ c, o.op ≠ .defer c := fun c e => by unfold plainOp at hp; rw [e] at hp; cases hp

/-- Whether an operation is wanted; what its guard's slot holds then. -/
noncomputable def wantS (all : Array Oper) (o : Oper) (fr : Fr) (e : Env) : Option (Bool × Fr × Env) :=
  match o.guard with
  | none => some (true, fr, e)
  | some (j, want) => match (all[j]?).bind (·.dst) with
    | none => none
    | some tm => match fr.get tm with
      | some (.bool b) => match e.hs with
        | .g t :: hs => some (t == want, (tm, .bool t) :: fr, { e with hs := hs, obs := (Value.bool b = .bool t) :: e.obs })
        | _ => some (b == want, fr, e)
      | some (.tuple _) => some (false, fr, e)
      | _ => none
theorem Rep.same {N : Nat} {fr : Fr} {a : Act} (h : Rep N fr a) {t : Nat} {v v' : Value} (hg : fr.get t = some v) (e : v = v') : Rep N ((t, v') :: fr) a :=
  ⟨h.1, fun s u hs => by
    rw [Fr.get_cons] at hs
    by_cases hts : t = s
    · subst hts
      rw [if_pos rfl] at hs
      cases hs
      rw [← e]
      exact h.2 t v hg
    · rw [if_neg hts] at hs
      exact h.2 s u hs⟩
theorem wantS_sound {w0 : World} {all : Array Oper} {o : Oper} {fr fr1 : Fr} {e e' : Env} {t : Bool} {N : Nat} (h : wantS all o fr e = some (t, fr1, e')) (ho : Obl w0 e') :
    Obl w0 e ∧ e'.known = e.known ∧ e'.sz = e.sz ∧ ∀ a, Rep N fr a → Rep N fr1 a ∧ Region.wanted o (yielded all a.tmps) = t := by
  unfold wantS at h
  split at h
  · rename_i hg
    cases h
    exact ⟨ho, rfl, rfl, fun a hr => ⟨hr, by simp [Region.wanted, hg]⟩⟩
  · rename_i j want hg
    split at h
    · cases h
    · rename_i tm htm
      split at h
      · rename_i b hget
        have hy : ∀ a, Rep N fr a → yielded all a.tmps j = some b := fun a hr => by
          unfold yielded
          rw [htm, Option.bind_some, hr.2 tm _ hget]
        have hw : ∀ a, Rep N fr a → Region.wanted o (yielded all a.tmps) = (b == want) := fun a hr => by
          simp only [Region.wanted, hg, hy a hr]
          cases b <;> cases want <;> rfl
        split at h
        · rename_i t' hs hhs
          cases h
          obtain ⟨hbt, ho'⟩ := Obl.obss ho
          have hbt' : b = t' := by injection hbt
          subst hbt'
          exact ⟨ho', rfl, rfl, fun a hr => ⟨hr.same hget rfl, hw a hr⟩⟩
        · cases h
          exact ⟨ho, rfl, rfl, fun a hr => ⟨hr, hw a hr⟩⟩
      · rename_i vs hget
        cases h
        refine ⟨ho, rfl, rfl, fun a hr => ⟨hr, ?_⟩⟩
        have hy : yielded all a.tmps j = none := by
          unfold yielded
          rw [htm, Option.bind_some, hr.2 tm _ hget]
        simp only [Region.wanted, hg, hy]
        rfl
      · cases h

/-- The element that an index names. -/
noncomputable def idxS (P : Program) (t : TypeId) (x i : Value) : Option (Value × Prop) :=
  match x, i, P.underlying t with
  | .slice (some ⟨b, off, none⟩) n _, .int _ k, some (.slice el) => match P.info? el with
    | some inf => some (.pointer (some ⟨b, off + k.toNat * inf.size, none⟩), 0 ≤ k ∧ k < n)
    | none => none
  | .pointer (some ⟨b, off, none⟩), .int _ k, some (.array n el) => match P.info? el with
    | some inf => some (.pointer (some ⟨b, off + k.toNat * inf.size, none⟩), 0 ≤ k ∧ k < n)
    | none => none
  | _, _, _ => none
theorem add_place (b off m : Nat) : Addr.add ⟨b, off, none⟩ m = ⟨b, off + m, none⟩ := by
  unfold Addr.add
  split
  · rename_i h; rw [h]; rfl
  · rfl
theorem idxS_sound {P : Program} {t : TypeId} {x i v : Value} {p : Prop} (h : idxS P t x i = some (v, p)) (hp : p) (w : World) : (Instr.indexAt t x i).run P w = .ok v w := by
  unfold idxS at h
  split at h
  · rename_i b off n cap kd k el hu
    split at h
    · rename_i inf hinf
      cases h
      have hlt : k < (n : Int) := hp.2
      simp [Instr.indexAt, asIntOf, underlying, program, hu, hp.1, hlt, sizeOf, typeInfo, hinf, add_place, Sem.run, bind, Sem.bind, pure]
    · cases h
  · rename_i b off kd k n el hu
    split at h
    · rename_i inf hinf
      cases h
      have hlt : k < (n : Int) := hp.2
      simp [Instr.indexAt, Instr.sureAddr, asIntOf, underlying, program, hu, hp.1, hlt, sizeOf, typeInfo, hinf, add_place, Sem.run, bind, Sem.bind, pure]
    · cases h
  · cases h
noncomputable def divS (op : BinOp) (x y : Value) : Option (Value × Prop) :=
  match op, x, y with
  | .quo, .int k a, .int k' b => cond (decide (k = k')) (some (.int k (k.wrap (a.tdiv b)), b ≠ 0)) none
  | .rem, .int k a, .int k' b => cond (decide (k = k')) (some (.int k (a.tmod b), b ≠ 0)) none
  | _, _, _ => none
/-- Where a part of a slice begins. -/
def subA (a : Option Addr) (l m size : Nat) : Option Addr := if m = l then a else a.map (·.add (l * size))
def bndI (d : Nat) : Option Value → Option Int
  | none => some d
  | some (.int _ k) => some k
  | some _ => none
noncomputable def sliceS (P : Program) (t : TypeId) (x : Value) (lo hi mx : Option Value) : Option (Value × Prop) :=
  match x, P.underlying t with
  | .slice a n c, some (.slice el) => match P.info? el, bndI 0 lo, bndI n hi, bndI c mx with
    | some inf, some l, some h, some m => cond (mx.isNone || hi.isSome) (some (.slice (subA a l.toNat m.toNat inf.size) (h.toNat - l.toNat) (m.toNat - l.toNat), 0 ≤ l ∧ l ≤ h ∧ h ≤ m ∧ m ≤ c)) none
    | _, _, _, _ => none
  | _, _ => none
theorem bound_run {P : Program} {w : World} {k : IntKind} {i : Int} {y : Nat} {code : BoundsCode} (h0 : 0 ≤ i) (h1 : i ≤ y) : (Instr.sliceBound (.int k i) y code).run P w = .ok i.toNat w := by
  simp [Instr.sliceBound, asIntOf, h0, h1]
theorem sliceS_sound {P : Program} {t : TypeId} {x v : Value} {lo hi mx : Option Value} {p : Prop} (h : sliceS P t x lo hi mx = some (v, p)) (hp : p) (w : World) : (Instr.sliceAt t x lo hi mx).run P w = .ok v w := by
  unfold sliceS at h
  split at h
  · rename_i a n c el hu
    split at h
    · rename_i inf l hh m hinf hl hhi hm
      cases hc : (mx.isNone || hi.isSome) with
      | false => rw [hc] at h; cases h
      | true =>
        rw [hc] at h
        cases h
        obtain ⟨p1, p2, p3, p4⟩ := hp
        have q1 : 0 ≤ hh := by omega
        have q2 : 0 ≤ m := by omega
        have bm : ∀ code, (match mx with | some v => Instr.sliceBound v c code | none => pure c).run P w = .ok m.toNat w := fun code => by
          cases mx with
          | none => simp only [bndI, Option.some.injEq] at hm; subst hm; simp
          | some v =>
            cases v <;> simp only [bndI] at hm <;> first | (cases hm; done) | skip
            cases hm
            exact bound_run q2 p4
        have e : (Instr.sliceAt t (.slice a n c) lo hi mx) = Instr.slice t (.slice a n c) lo hi mx ∨ True := .inr trivial
        clear e
        have hsb : (Instr.sliceBounds true n c lo hi mx).run P w = .ok (l.toNat, hh.toNat, m.toNat) w := by
          have hmn : ((m.toNat : Nat) : Int) = m := Int.toNat_of_nonneg q2
          have hhn : ((hh.toNat : Nat) : Int) = hh := Int.toNat_of_nonneg q1
          have h2 : hh ≤ ((m.toNat : Nat) : Int) := by omega
          have h3 : l ≤ ((hh.toNat : Nat) : Int) := by omega
          cases mx with
          | none =>
            simp only [bndI, Option.some.injEq] at hm
            subst hm
            cases hi with
            | none =>
              simp only [bndI, Option.some.injEq] at hhi
              subst hhi
              cases lo with
              | none => simp only [bndI, Option.some.injEq] at hl; subst hl; simp [Instr.sliceBounds]
              | some v => cases v <;> simp only [bndI] at hl <;> first | (cases hl; done) | skip; cases hl; simp [Instr.sliceBounds]; rw [show ((n : Nat) : Int).toNat = n from rfl] at h3; rw [bound_run p1 h3]; rfl
            | some v =>
              cases v <;> simp only [bndI] at hhi <;> first | (cases hhi; done) | skip
              cases hhi
              cases lo with
              | none => simp only [bndI, Option.some.injEq] at hl; subst hl; simp [Instr.sliceBounds]; rw [bound_run q1 p3]; rfl
              | some v => cases v <;> simp only [bndI] at hl <;> first | (cases hl; done) | skip; cases hl; simp [Instr.sliceBounds]; rw [bound_run q1 p3]; simp; rw [bound_run p1 h3]; rfl
          | some v =>
            cases v <;> simp only [bndI] at hm <;> first | (cases hm; done) | skip
            cases hm
            cases hi with
            | none => cases hc
            | some v =>
              cases v <;> simp only [bndI] at hhi <;> first | (cases hhi; done) | skip
              cases hhi
              cases lo with
              | none => simp only [bndI, Option.some.injEq] at hl; subst hl; simp [Instr.sliceBounds]; rw [bound_run q2 p4]; simp; rw [bound_run q1 h2]; rfl
              | some v => cases v <;> simp only [bndI] at hl <;> first | (cases hl; done) | skip; cases hl; simp [Instr.sliceBounds]; rw [bound_run q2 p4]; simp; rw [bound_run q1 h2]; simp; rw [bound_run p1 h3]; rfl
        clear bm
        simp [Instr.sliceAt, Instr.slice, underlying, program, hu, Sem.run, bind, Sem.bind, pure, sizeOf, typeInfo, subA]
        rw [show ∀ f, Sem.run P (Sem.bind (Instr.sliceBounds true n c lo hi mx) f) w = (f (l.toNat, hh.toNat, m.toNat)).run P w from fun f => by rw [Sem.run_bind', hsb]; rfl]
        simp [Sem.run, Sem.bind, hinf]
    · cases h
  · cases h
/-- An operation whose value a fact decides. -/
noncomputable def specT (P : Program) (fr : Fr) (o : Oper) (e : Env) : Option (Value × Env) :=
  match e.hs, o.op with
  | .i :: hs, .indexAddr t x i => match idxS P t (rho fr x) (rho fr i) with
    | some (v, p) => some (v, { e with hs := hs, obs := p :: e.obs })
    | none => none
  | .i :: hs, .slice t x lo hi mx => match sliceS P t (rho fr x) (lo.map (rho fr)) (hi.map (rho fr)) (mx.map (rho fr)) with
    | some (v, p) => some (v, { e with hs := hs, obs := p :: e.obs })
    | none => none
  | .z :: hs, .binOp op _ x y _ => match divS op (rho fr x) (rho fr y) with
    | some (v, p) => some (v, { e with hs := hs, obs := p :: e.obs })
    | none => none
  | _, _ => none
theorem specT_sound {P : Program} {fr : Fr} {o : Oper} {e e' : Env} {v : Value} {w0 : World} (h : specT P fr o e = some (v, e')) (ho : Obl w0 e') :
    Obl w0 e ∧ e'.known = e.known ∧ e'.sz = e.sz ∧ ∀ w, (execOp (rho fr) o).run P w = .ok (.value v) w := by
  unfold specT at h
  split at h
  · rename_i hs t x i hhs hop
    split at h
    · rename_i v' p hi
      cases h
      obtain ⟨hp, ho⟩ := Obl.obss ho
      refine ⟨ho, rfl, rfl, fun w => ?_⟩
      have := idxS_sound hi hp w
      simp only [execOp, hop]
      show Sem.run P (Sem.bind (Instr.indexAt t (rho fr x) (rho fr i)) fun v => Sem.pure (Next.value v)) w = _
      rw [Sem.run_bind', this]
      rfl
    · cases h
  · rename_i hs t x lo hi mx hhs hop
    split at h
    · rename_i v' p hi'
      cases h
      obtain ⟨hp, ho⟩ := Obl.obss ho
      refine ⟨ho, rfl, rfl, fun w => ?_⟩
      have := sliceS_sound hi' hp w
      simp only [execOp, hop]
      show Sem.run P (Sem.bind (Instr.sliceAt t (rho fr x) (lo.map (rho fr)) (hi.map (rho fr)) (mx.map (rho fr))) fun v => Sem.pure (Next.value v)) w = _
      rw [Sem.run_bind', this]
      rfl
    · cases h
  · rename_i hs op xt x y yt hhs hop
    split at h
    · rename_i v' p hi
      cases h
      obtain ⟨hp, ho⟩ := Obl.obss ho
      refine ⟨ho, rfl, rfl, fun w => ?_⟩
      unfold divS at hi
      split at hi
      · rename_i k a k' b hx hy
        cases hk : decide (k = k') with
        | false => rw [hk] at hi; cases hi
        | true =>
          rw [hk] at hi
          cases hi
          have hkk := of_decide_eq_true hk
          subst hkk
          simp [execOp, hop, hx, hy, eqGuard, binOp, Op.intDiv, hp, bind, Sem.bind, pure]
      · rename_i k a k' b hx hy
        cases hk : decide (k = k') with
        | false => rw [hk] at hi; cases hi
        | true =>
          rw [hk] at hi
          cases hi
          have hkk := of_decide_eq_true hk
          subst hkk
          simp [execOp, hop, hx, hy, eqGuard, binOp, Op.intDiv, hp, bind, Sem.bind, pure]
      · cases hi
    · cases h
  · cases h
def isSpec0 (o : Oper) (e : Env) : Bool := match e.hs, o.op with | .i :: _, .indexAddr _ _ _ => true | .i :: _, .slice _ _ _ _ _ => true | .z :: _, .binOp .quo _ _ _ _ => true | .z :: _, .binOp .rem _ _ _ _ => true | _, _ => false
def takesV (o : Oper) : Bool := match o.op with
  | .binOp .add _ _ _ _ => true | .binOp .sub _ _ _ _ => true | .binOp .mul _ _ _ _ => true | .binOp .quo _ _ _ _ => true | .binOp .rem _ _ _ _ => true
  | .unOp .neg _ _ => true | .convert _ _ _ => true
  | .call c => match c.callee with | .builtin .min => true | .builtin .max => true | _ => false
  | _ => false
def isSpec (o : Oper) (e : Env) : Bool := match e.hs with | .v _ :: _ => takesV o | _ => isSpec0 o e
/-- An operation whose value a fact decides, or is told to be another one's. -/
noncomputable def specS (P : Program) (fr : Fr) (o : Oper) (e : Env) : Option (Value × Env) :=
  match e.hs with
  | .v x :: hs => cond (isSpec0 o { e with hs := hs }) (match specT P fr o { e with hs := hs } with
      | some (v, e1) => some (x, { e1 with obs := (v = x) :: e1.obs })
      | none => none) (match sy P true (execOp (rho fr) o) ⟨[], 0, [], [], [], [], []⟩ with
      | some (.value v, ⟨_, _, [], [], [], [], []⟩) => some (x, { e with hs := hs, obs := (v = x) :: e.obs })
      | _ => none)
  | _ => specT P fr o e
theorem specS_sound {P : Program} {fr : Fr} {o : Oper} {e e' : Env} {v : Value} {w0 : World} (h : specS P fr o e = some (v, e')) (ho : Obl w0 e') :
    Obl w0 e ∧ e'.known = e.known ∧ e'.sz = e.sz ∧ ∀ w, (execOp (rho fr) o).run P w = .ok (.value v) w := by
  unfold specS at h
  split at h
  · rename_i x hs hhs
    cases hc : isSpec0 o { e with hs := hs } with
    | true =>
      rw [hc] at h
      simp only [cond_true] at h
      split at h
      · rename_i v' e1 hs1
        cases h
        obtain ⟨hp, ho⟩ := Obl.obss (l := e1.hs) ho
        obtain ⟨h1, h2, h3, h4⟩ := specT_sound hs1 ho
        exact ⟨h1, h2, h3, fun w => by rw [← hp]; exact h4 w⟩
      · cases h
    | false =>
      rw [hc] at h
      simp only [cond_false] at h
      split at h
      · rename_i v' kn sz hsy
        cases h
        obtain ⟨hp, ho⟩ := Obl.obss ho
        refine ⟨ho, rfl, rfl, fun w => ?_⟩
        obtain ⟨-, -, hr⟩ := sy_read (w0 := w) _ _ _ _ hsy ⟨by simp, by simp, by simp, by simp⟩
        rw [← hp]
        exact hr w ⟨by simp, Below.refl _ _⟩
      · cases h
  · exact specT_sound h ho

def fen (ro : Option Nat) : Fence := { fn := fun _ => True, depth := none, alive := false, round := ro }
/-- One operation. -/
noncomputable def stepOp (P : Program) (N : Nat) (all : Array Oper) (o : Oper) (fr : Fr) (e : Env) : Option (Fr × Env) :=
  match wantS all o fr e with
  | none => none
  | some (false, fr, e1) => match putS N fr o.dst undef with | some fr' => some (fr', e1) | none => none
  | some (true, fr, e1) => cond (plainOp o && o.op.operands.toList.all (knows fr)) (cond (isSpec o e1) (match specS P fr o e1 with
      | some (v, e2) => match putS N fr o.dst v with | some fr' => some (fr', e2) | none => none
      | none => none) (match sy P false (execOp (rho fr) o) e1 with
      | some (.value v, e2) => match putS N fr o.dst v with | some fr' => some (fr', e2) | none => none
      | some (.skip, e2) => match putS N fr o.dst undef with | some fr' => some (fr', e2) | none => none
      | _ => none)) none
theorem wpListIn_value {F : Fence} (hF : ∀ f, F.fn f) {n : Nat} {P : Program} {ops : Array Oper} {Q : Exit → Act → World → Prop} {rest : List Oper} {o : Oper} {a : Act} {w w' : World} {nx : Next} {v : Value}
    (hw : Region.wanted o (yielded ops a.tmps) = true) (hp : ∀ c, o.op ≠ .defer c) (h : (execOp a.eval o).run P w = .ok nx w') (hv : (nx = .value v) ∨ (nx = .skip ∧ v = undef)) (hk : wpListIn F n P ops Q rest (a.put o.dst v) w') : wpListIn F n P ops Q (o :: rest) a w := by
  unfold wpListIn
  rw [if_pos hw]
  refine ⟨fun f _ => hF f, ?_⟩
  rw [Oper.semAt_plain _ _ _ hp, h]
  rcases hv with rfl | ⟨rfl, rfl⟩
  · exact hk
  · exact hk
theorem stepOp_sound {P : Program} {N : Nat} {all : Array Oper} {o : Oper} {fr fr' : Fr} {e e' : Env} {w0 : World} (h : stepOp P N all o fr e = some (fr', e')) (ho : Obl w0 e') :
    Obl w0 e ∧ ∀ w rows a, At w0 w e.known rows e.sz → Rep N fr a → ∃ a' w', At w0 w' e'.known rows e'.sz ∧ Rep N fr' a' ∧ a'.defers = a.defers ∧
      ∀ (F : Fence) (_ : ∀ f, F.fn f) n Q rest, wpListIn F n P all Q rest a' w' → wpListIn F n P all Q (o :: rest) a w := by
  unfold stepOp at h
  split at h
  · cases h
  · rename_i frw e1 hw
    split at h
    · rename_i fr1 hp
      cases h
      obtain ⟨ho1, hk, hz, hwt⟩ := wantS_sound (N := N) hw ho
      refine ⟨ho1, fun w rows a hA hR => ⟨_, w, by rw [hk, hz]; exact hA, (hwt a hR).1.put hp, by cases o.dst <;> rfl, fun F hF n Q rest hn => ?_⟩⟩
      unfold wpListIn
      rw [if_neg (by rw [(hwt a hR).2]; decide)]
      exact ⟨fun f _ => hF f, hn⟩
    · cases h
  · rename_i frw e1 hw
    cases hc : (plainOp o && o.op.operands.toList.all (knows frw)) with
    | false => rw [hc] at h; cases h
    | true =>
      rw [hc] at h
      rw [Bool.and_eq_true] at hc
      simp only [cond_true] at h
      have main : ∀ nx e2 v, sy P false (execOp (rho frw) o) e1 = some (nx, e2) → (nx = .value v ∨ (nx = .skip ∧ v = undef)) → putS N frw o.dst v = some fr' → Obl w0 e2 → Obl w0 e ∧ ∀ w rows a, At w0 w e.known rows e.sz → Rep N fr a → ∃ a' w', At w0 w' e2.known rows e2.sz ∧ Rep N fr' a' ∧ a'.defers = a.defers ∧
          ∀ (F : Fence) (_ : ∀ f, F.fn f) n Q rest, wpListIn F n P all Q rest a' w' → wpListIn F n P all Q (o :: rest) a w := by
        intro nx e2 v hs hv hp ho
        obtain ⟨ho1, hr⟩ := sy_sound _ _ _ _ hs ho
        obtain ⟨ho2, hk, hz, hwt⟩ := wantS_sound (N := N) hw ho1
        refine ⟨ho2, fun w rows a hA hR => ?_⟩
        obtain ⟨w', hrun, hA', -⟩ := hr w rows (by rw [hk, hz]; exact hA)
        refine ⟨_, w', hA', (hwt a hR).1.put hp, by cases o.dst <;> rfl, fun F hF n Q rest hn => wpListIn_value hF (hwt a hR).2 (plain_defer hc.1) (by rw [(hwt a hR).1.exec hc.1 hc.2]; exact hrun) hv hn⟩
      cases hsp : isSpec o e1 with
      | true =>
        rw [hsp] at h
        simp only [cond_true] at h
        split at h
        · rename_i v e2 hs
          split at h
          · rename_i fr1 hp
            cases h
            obtain ⟨ho1, hk1, hz1, hr⟩ := specS_sound hs ho
            obtain ⟨ho2, hk, hz, hwt⟩ := wantS_sound (N := N) hw ho1
            refine ⟨ho2, fun w rows a hA hR => ⟨_, w, by rw [hk1, hz1, hk, hz]; exact hA, (hwt a hR).1.put hp, by cases o.dst <;> rfl, fun F hF n Q rest hn => wpListIn_value hF (hwt a hR).2 (plain_defer hc.1) (by rw [(hwt a hR).1.exec hc.1 hc.2]; exact hr w) (.inl rfl) hn⟩⟩
          · cases h
        · cases h
      | false =>
      rw [hsp] at h
      simp only [cond_false] at h
      split at h
      · rename_i v e2 hs
        split at h
        · rename_i fr1 hp
          cases h
          exact main _ _ v hs (.inl rfl) hp ho
        · cases h
      · rename_i e2 hs
        split at h
        · rename_i fr1 hp
          cases h
          exact main _ _ undef hs (.inr ⟨rfl, rfl⟩) hp ho
        · cases h
      · cases h

/-! ### taking operations of a region that draws -/
def needB (nd : List Nat) (i : Nat) : Bool := nd.contains i
def takeB (all : Array Oper) (listed : Array Bool) (nd : List Nat) (i : Nat) : Bool :=
  Region.noSelect all && Region.free .any all listed i && (Region.ready .any all listed).contains i && closedB .any all listed &&
    (List.range all.size).all fun j => listed.getD j true || needB nd j || decide (j = i) || waitsB .any all all.size j i
noncomputable def takeS (P : Program) (N : Nat) (all : Array Oper) (kn0 : List KB) (o : Oper) (fr : Fr) (e : Env) : Option (Fr × Env) :=
  match wantS all o fr { e with known := kn0 } with
  | none => none
  | some (false, fr, e1) => match putS N fr o.dst undef with | some fr' => some (fr', { e1 with known := e.known }) | none => none
  | some (true, fr, e1) => cond (plainOp o && o.op.operands.toList.all (knows fr)) (cond (isSpec o e1) (match specS P fr o e1 with
      | some (v, e2) => match putS N fr o.dst v with | some fr' => some (fr', { e2 with known := e.known, sz := e.sz }) | none => none
      | none => none) (match sy P true (execOp (rho fr) o) e1 with
      | some (.value v, e2) => match putS N fr o.dst v with | some fr' => some (fr', { e2 with known := e.known, sz := e.sz }) | none => none
      | _ => none)) none
theorem Obl.known {w0 : World} {e : Env} {kn : List KB} {z : Nat} (h : Obl w0 { e with known := kn, sz := z }) : Obl w0 e := h
theorem takeS_sound {P : Program} {N : Nat} {all : Array Oper} {kn0 : List KB} {o : Oper} {fr fr' : Fr} {e e' : Env} {w0 : World} (h : takeS P N all kn0 o fr e = some (fr', e')) (ho : Obl w0 e') :
    Obl w0 e ∧ e'.known = e.known ∧ e'.sz = e.sz ∧ ∀ a, Rep N fr a → ∃ v, Rep N fr' (a.put o.dst v) ∧ YieldsIf P all (Hold w0 kn0) o v a := by
  unfold takeS at h
  split at h
  · cases h
  · rename_i frw e1 hw
    split at h
    · rename_i fr1 hp
      cases h
      obtain ⟨ho1, hk, hz, hwt⟩ := wantS_sound (N := N) hw (Obl.known (kn := e.known) (z := e1.sz) ho)
      exact ⟨Obl.known (kn := kn0) (z := e.sz) ho1, rfl, hz, fun a hR => ⟨undef, (hwt a hR).1.put hp, .inr ⟨(hwt a hR).2, rfl⟩⟩⟩
    · cases h
  · rename_i frw e1 hw
    cases hc : (plainOp o && o.op.operands.toList.all (knows frw)) with
    | false => rw [hc] at h; cases h
    | true =>
      rw [hc] at h
      rw [Bool.and_eq_true] at hc
      simp only [cond_true] at h
      cases hsp : isSpec o e1 with
      | true =>
        rw [hsp] at h
        simp only [cond_true] at h
        split at h
        · rename_i v e2 hs
          split at h
          · rename_i fr1 hp
            cases h
            obtain ⟨ho1, hk1, hz1, hr⟩ := specS_sound hs (Obl.known (kn := e.known) (z := e.sz) ho)
            obtain ⟨ho2, hk, hz, hwt⟩ := wantS_sound (N := N) hw ho1
            refine ⟨Obl.known (kn := kn0) (z := e.sz) ho2, rfl, rfl, fun a hR => ⟨v, (hwt a hR).1.put hp, .inl ⟨(hwt a hR).2, fun w hH => ?_⟩⟩⟩
            rw [(hwt a hR).1.exec hc.1 hc.2]
            exact hr w
          · cases h
        · cases h
      | false =>
      rw [hsp] at h
      simp only [cond_false] at h
      split at h
      · rename_i v e2 hs
        split at h
        · rename_i fr1 hp
          cases h
          obtain ⟨ho1, hk1, hr⟩ := sy_read _ _ _ _ hs (Obl.known (kn := e.known) (z := e.sz) ho)
          obtain ⟨ho2, hk, hz, hwt⟩ := wantS_sound (N := N) hw ho1
          refine ⟨Obl.known (kn := kn0) (z := e.sz) ho2, rfl, rfl, fun a hR => ⟨v, (hwt a hR).1.put hp, .inl ⟨(hwt a hR).2, fun w hH => ?_⟩⟩⟩
          rw [(hwt a hR).1.exec hc.1 hc.2]
          exact hr w (hk ▸ hH)
        · cases h
      · cases h

/-- What follows normally, and what follows else. -/
theorem wpIn_then {F : Fence} {n : Nat} {P : Program} {o : Oper} {a : Act} {w : World} {K : Act → World → Prop} {Q : Exit → Act → World → Prop} {ops : Array Oper}
    (h : o.wpIn F n P a w (wpListIn F n P ops (Exit.then K Q) []) (Exit.then K Q)) : o.wpIn F n P a w K Q := by
  unfold Oper.wpIn at h ⊢
  refine ⟨h.1, ?_⟩
  have h := h.2
  generalize (o.semAt F.round a.eval).run P w = r at h ⊢
  cases r with
  | ok x w' =>
    cases x <;> simp only [Oper.uponIn] at h ⊢ <;> first
      | exact h
      | exact ⟨h.1, h.2.mono fun e w'' he => by cases e <;> exact he⟩
      | exact ⟨h.1, h.2.mono fun _ _ he => he⟩
  | halt x w' => cases x <;> simp only [Oper.uponIn] at h ⊢ <;> exact h

/-! ### control -/
inductive KI where
  | seq (c : Code)
  | blk (id : Nat)
structure Ctx where
  P : Program
  ro : Option Nat
  N : Nat
  ds : List Deferred
  Q : Exit → Act → World → Prop
  w0 : World
  lo : Nat
def kQ (c : Ctx) : List KI → Exit → Act → World → Prop
  | [] => c.Q
  | .seq y :: s => Exit.then (y.wpIn (fen c.ro) 1 c.P (kQ c s)) (kQ c s)
  | .blk id :: s => Exit.inBlock id (kQ c s)
inductive Ctl where
  | code (c : Code)
  | ops (all : Array Oper) (l : List Oper)
  | tail (all : Array Oper) (l : List Oper)
  | draw (all : Array Oper) (listed : Array Bool) (fuel : Nat) (kn0 : List KB) (m : List Bool) (nd : List Nat)
  | pick (all : Array Oper) (listed : Array Bool) (fuel : Nat) (kn0 : List KB) (m : List Bool) (nd : List Nat) (i : Nat)
  | out (e : Exit)
structure Sta where
  ctl : Ctl
  stk : List KI
  fr : Fr
  env : Env
def endQ (c : Ctx) (s : List KI) : Exit → Act → World → Prop := Exit.then (kQ c s .normal) (fun _ _ _ => False)
def wpS (c : Ctx) (S : Sta) (a : Act) (w : World) : Prop :=
  match S.ctl with
  | .code x => x.wpIn (fen c.ro) 1 c.P (kQ c S.stk) a w
  | .ops all l => wpListIn (fen c.ro) 1 c.P all (kQ c S.stk) l a w
  | .tail all l => wpListIn Fence.wide 1 c.P all (endQ c S.stk) l a w
  | .draw all listed fuel kn0 _ nd => Hold c.w0 kn0 w → wpAnyHI 1 c.P .any all (endQ c S.stk) (Hold c.w0 kn0) (needB nd) fuel listed a w
  | .pick all listed fuel kn0 _ nd i => Hold c.w0 kn0 w → ∀ o, all[i]? = some o → ∀ K' : Act → World → Prop, (∀ a' w', ((needB nd i = true → Hold c.w0 kn0 w') ∧ wpAnyHI 1 c.P .any all (endQ c S.stk) (Hold c.w0 kn0) (needB nd) fuel (listed.setIfInBounds i true) a' w') → K' a' w') →
      if Region.wanted o (yielded all a.tmps) = true then Oper.wpIn Fence.wide 1 c.P o a w K' (endQ c S.stk) else (∀ f, o.about c.P w a.eval = some f → Fence.wide.fn f) ∧ K' (a.put o.dst undef) w
  | .out e => kQ c S.stk e a w
/-- From here on all goes well, whatever the frame holds beyond what is known. -/
structure Run (c : Ctx) (S : Sta) (w : World) : Prop where
  go : ∀ a, Rep c.N S.fr a → a.defers = c.ds → wpS c S a w

noncomputable def step1 (P : Program) (N : Nat) (S : Sta) : Option Sta :=
  match S with
  | ⟨.code x, s, fr, e⟩ => match x with
    | .skip => some ⟨.out .normal, s, fr, e⟩
    | .label _ => some ⟨.out .normal, s, fr, e⟩
    | .exit id => some ⟨.out (.exit id), s, fr, e⟩
    | .ret => some ⟨.out .ret, s, fr, e⟩
    | .seq x y => some ⟨.code x, .seq y :: s, fr, e⟩
    | .block id b => some ⟨.code b, .blk id :: s, fr, e⟩
    | .cond o x y => match e.hs with
      | .b t :: hs => cond (knows fr o) (some ⟨.code (cond t x y), s, fr, { e with hs := hs, obs := (rho fr o = .bool t) :: e.obs }⟩) none
      | .t _ :: _ => none
      | _ => match knows fr o, rho fr o with
        | true, .bool t => some ⟨.code (cond t x y), s, fr, e⟩
        | _, _ => none
    | .region _ ops false => some ⟨.ops ops ops.toList, s, fr, e⟩
    | _ => none
  | ⟨.ops _ [], s, fr, e⟩ => some ⟨.out .normal, s, fr, e⟩
  | ⟨.ops all (o :: l), s, fr, e⟩ => match stepOp P N all o fr e with | some (fr', e') => some ⟨.ops all l, s, fr', e'⟩ | none => none
  | ⟨.tail _ [], s, fr, e⟩ => some ⟨.out .normal, s, fr, e⟩
  | ⟨.tail all (o :: l), s, fr, e⟩ => match stepOp P N all o fr e with | some (fr', e') => some ⟨.tail all l, s, fr', e'⟩ | none => none
  | ⟨.draw all listed fuel kn0 m nd, s, fr, e⟩ => match e.hs with
    | .t i :: hs => match fuel, all[i]? with
      | f + 1, some o => cond (takeB all listed nd i) (match takeS P N all kn0 o fr { e with hs := hs } with
          | some (fr', e') => some ⟨.draw all (listed.setIfInBounds i true) f kn0 m nd, s, fr', e'⟩
          | none => none) none
      | _, _ => none
    | .h i :: hs => match fuel, all[i]? with
      | f + 1, some o => cond (decide (Region.ready .any all listed = [i])) (match stepOp P N all o fr { e with hs := hs } with
          | some (fr', e') => some ⟨.draw all (listed.setIfInBounds i true) f kn0 m nd, s, fr', { e' with kqs := (pick m e'.known, kn0) :: e'.kqs }⟩
          | none => none) none
      | _, _ => none
    | .b true :: hs => cond (Region.ready .any all listed).isEmpty (some ⟨.out .normal, s, fr, { e with hs := hs }⟩) none
    | .b false :: hs => cond (Region.seqB .any all (all.toList.drop (all.size - fuel)).length (all.size - fuel) listed && Nat.beq fuel (all.toList.drop (all.size - fuel)).length && (List.range all.size).all fun j => listed.getD j true || !needB nd j)
        (some ⟨.tail all (all.toList.drop (all.size - fuel)), s, fr, { e with hs := hs }⟩) none
    | _ => none
  | ⟨.pick all listed f kn0 m nd i, s, fr, e⟩ => match all[i]? with
    | some o => match stepOp P N all o fr e with
      | some (fr', e') => some ⟨.draw all (listed.setIfInBounds i true) f kn0 m nd, s, fr', { e' with kqs := (Go.Proofs.Ytfidkgpimlpdbaa.pick m e'.known, kn0) :: e'.kqs }⟩
      | none => none
    | none => none
  | ⟨.out x, s, fr, e⟩ => match s with
    | [] => none
    | .seq y :: s => match x with
      | .normal => some ⟨.code y, s, fr, e⟩
      | x => some ⟨.out x, s, fr, e⟩
    | .blk id :: s => match x with
      | .exit i => cond (Nat.beq i id) (some ⟨.out .normal, s, fr, e⟩) (some ⟨.out (.exit i), s, fr, e⟩)
      | x => some ⟨.out x, s, fr, e⟩
theorem Obl.hs {w0 : World} {e : Env} {l : List Hint} (h : Obl w0 { e with hs := l }) : Obl w0 e := h
theorem fen_fn (ro : Option Nat) : ∀ f, (fen ro).fn f := fun _ => trivial
theorem wide_fn : ∀ f, Fence.wide.fn f := fun _ => trivial
set_option maxHeartbeats 1000000 in
theorem step1_sound {c : Ctx} {S S' : Sta} (h : step1 c.P c.N S = some S') (ho : Obl c.w0 S'.env) :
    Obl c.w0 S.env ∧ ∀ w rows a, At c.w0 w S.env.known rows S.env.sz → Rep c.N S.fr a → a.defers = c.ds → ∃ a' w', At c.w0 w' S'.env.known rows S'.env.sz ∧ Rep c.N S'.fr a' ∧ a'.defers = c.ds ∧ (wpS c S' a' w' → wpS c S a w) := by
  obtain ⟨ctl, s, fr, e⟩ := S
  cases ctl with
  | code x =>
    cases x with
    | skip => cases h; exact ⟨ho, fun w rows a hA hR hd => ⟨a, w, hA, hR, hd, fun hn => wpIn_skip hn⟩⟩
    | label l => cases h; exact ⟨ho, fun w rows a hA hR hd => ⟨a, w, hA, hR, hd, fun hn => wpIn_label hn⟩⟩
    | exit id => cases h; exact ⟨ho, fun w rows a hA hR hd => ⟨a, w, hA, hR, hd, fun hn => wpIn_exit hn⟩⟩
    | ret => cases h; exact ⟨ho, fun w rows a hA hR hd => ⟨a, w, hA, hR, hd, fun hn => wpIn_ret hn⟩⟩
    | seq x y => cases h; exact ⟨ho, fun w rows a hA hR hd => ⟨a, w, hA, hR, hd, fun hn => wpIn_seq hn⟩⟩
    | block id b => cases h; exact ⟨ho, fun w rows a hA hR hd => ⟨a, w, hA, hR, hd, fun hn => wpIn_block hn⟩⟩
    | cond o x y =>
      unfold step1 at h
      simp only at h
      split at h
      · rename_i t hs hhs
        cases hk : knows fr o with
        | false => rw [hk] at h; cases h
        | true =>
          rw [hk] at h
          cases h
          obtain ⟨hv, ho⟩ := Obl.obss ho
          refine ⟨ho, fun w rows a hA hR hd => ⟨a, w, hA, hR, hd, fun hn => ?_⟩⟩
          refine wpIn_cond (t := t) ((hR.eval hk).trans hv) ?_
          cases t <;> exact hn
      · cases h
      · split at h
        · rename_i t hk hv
          cases h
          refine ⟨ho, fun w rows a hA hR hd => ⟨a, w, hA, hR, hd, fun hn => ?_⟩⟩
          refine wpIn_cond (t := t) ((hR.eval hk).trans hv) ?_
          cases t <;> exact hn
        · cases h
    | region id ops draw =>
      cases draw with
      | true => cases h
      | false => cases h; exact ⟨ho, fun w rows a hA hR hd => ⟨a, w, hA, hR, hd, fun hn => wpIn_region_list hn⟩⟩
    | loop b => cases h
    | rangeFunc f ps as' b => cases h
    | scope b => cases h
    | goto l => cases h
    | refuse w => cases h
  | ops all l =>
    cases l with
    | nil => cases h; exact ⟨ho, fun w rows a hA hR hd => ⟨a, w, hA, hR, hd, fun hn => hn⟩⟩
    | cons o l =>
      unfold step1 at h
      simp only at h
      split at h
      · rename_i fr' e' hs
        cases h
        obtain ⟨ho1, hr⟩ := stepOp_sound hs ho
        refine ⟨ho1, fun w rows a hA hR hd => ?_⟩
        obtain ⟨a', w', h1, h2, h3, h4⟩ := hr w rows a hA hR
        exact ⟨a', w', h1, h2, h3.trans hd, fun hn => h4 _ (fen_fn _) _ _ _ hn⟩
      · cases h
  | tail all l =>
    cases l with
    | nil => cases h; exact ⟨ho, fun w rows a hA hR hd => ⟨a, w, hA, hR, hd, fun hn => hn⟩⟩
    | cons o l =>
      unfold step1 at h
      simp only at h
      split at h
      · rename_i fr' e' hs
        cases h
        obtain ⟨ho1, hr⟩ := stepOp_sound hs ho
        refine ⟨ho1, fun w rows a hA hR hd => ?_⟩
        obtain ⟨a', w', h1, h2, h3, h4⟩ := hr w rows a hA hR
        exact ⟨a', w', h1, h2, h3.trans hd, fun hn => h4 _ wide_fn _ _ _ hn⟩
      · cases h
  | draw all listed fuel kn0 m nd =>
    unfold step1 at h
    simp only at h
    split at h
    · rename_i i hs hhs
      split at h
      · rename_i f o hoi
        cases hb : takeB all listed nd i with
        | false => rw [hb] at h; cases h
        | true =>
          rw [hb] at h
          simp only [cond_true] at h
          split at h
          · rename_i fr' e' hts
            cases h
            obtain ⟨ho1, hk, hz, hr⟩ := takeS_sound hts ho
            refine ⟨ho1, fun w rows a hA hR hd => ?_⟩
            obtain ⟨v, hp, hy⟩ := hr a hR
            refine ⟨a.put o.dst v, w, by rw [hk, hz]; exact hA, hp, by rw [← hd]; cases o.dst <;> rfl, fun hn hH => ?_⟩
            unfold takeB at hb
            simp only [Bool.and_eq_true] at hb
            obtain ⟨⟨⟨⟨b1, b2⟩, b3⟩, b4⟩, b5⟩ := hb
            refine wpAnyHI_takeE o.dst hoi rfl b1 b2 b3 b4 ?_ (fun _ _ _ h => h) hH hy (hn hH)
            refine List.all_eq_true.2 fun j hj => ?_
            have := List.all_eq_true.1 b5 j hj
            simp only [Bool.or_eq_true] at this ⊢
            rcases this with ((h | h) | h) | h
            · exact .inl h
            · exact .inr (.inl (.inl h))
            · exact .inr (.inl (.inr h))
            · exact .inr (.inr h)
          · cases h
      · cases h
    · rename_i i hs hhs
      split at h
      · rename_i f o hoi
        cases hb : decide (Region.ready .any all listed = [i]) with
        | false => rw [hb] at h; cases h
        | true =>
          rw [hb] at h
          simp only [cond_true] at h
          split at h
          · rename_i fr' e' hts
            cases h
            obtain ⟨hkq, ho⟩ := Obl.kqss ho
            obtain ⟨ho1, hr⟩ := stepOp_sound hts ho
            refine ⟨ho1, fun w rows a hA hR hd => ?_⟩
            obtain ⟨a', w', g1, g2, g3, g4⟩ := hr w rows a hA hR
            refine ⟨a', w', g1, g2, g3.trans hd, fun hn hH => wpAnyHI_one hoi hb fun K' hK' => ?_⟩
            have hH' : Hold c.w0 kn0 w' := by
              have := (At.hold g1).sub (pick_sub m e'.known)
              rwa [show pick m e'.known = kn0 from hkq] at this
            have := g4 Fence.wide wide_fn 1 (Exit.then K' (endQ c s)) [] (hK' a' w' ⟨fun _ => hH', hn hH'⟩)
            unfold wpListIn at this
            split at this
            · rename_i hw
              rw [if_pos hw]
              exact wpIn_then this
            · rename_i hw
              rw [if_neg hw]
              exact this
          · cases h
      · cases h
    · rename_i hs hhs
      cases hb : (Region.ready .any all listed).isEmpty with
      | false => rw [hb] at h; cases h
      | true =>
        rw [hb] at h
        cases h
        exact ⟨ho, fun w rows a hA hR hd => ⟨a, w, hA, hR, hd, fun hn _ => wpAnyHI_end hb hn⟩⟩
    · rename_i hs hhs
      cases hb : (Region.seqB .any all (all.toList.drop (all.size - fuel)).length (all.size - fuel) listed && Nat.beq fuel (all.toList.drop (all.size - fuel)).length && (List.range all.size).all fun j => listed.getD j true || !needB nd j) with
      | false => rw [hb] at h; cases h
      | true =>
        rw [hb] at h
        cases h
        simp only [Bool.and_eq_true] at hb
        exact ⟨ho, fun w rows a hA hR hd => ⟨a, w, hA, hR, hd, fun hn _ => wpAnyHI_tail rfl (Nat.eq_of_beq_eq_true hb.1.2) hb.1.1 hb.2 hn⟩⟩
    · cases h
  | pick all listed f kn0 m nd i =>
    unfold step1 at h
    simp only at h
    split at h
    · rename_i o hoi
      split at h
      · rename_i fr' e' hts
        cases h
        obtain ⟨hkq, ho⟩ := Obl.kqss ho
        obtain ⟨ho1, hr⟩ := stepOp_sound hts ho
        refine ⟨ho1, fun w rows a hA hR hd => ?_⟩
        obtain ⟨a', w', g1, g2, g3, g4⟩ := hr w rows a hA hR
        refine ⟨a', w', g1, g2, g3.trans hd, fun hn hH o' ho' K' hK' => ?_⟩
        rw [hoi] at ho'
        cases ho'
        have hH' : Hold c.w0 kn0 w' := by
          have := (At.hold g1).sub (pick_sub m e'.known)
          rwa [show Go.Proofs.Ytfidkgpimlpdbaa.pick m e'.known = kn0 from hkq] at this
        have := g4 Fence.wide wide_fn 1 (Exit.then K' (endQ c s)) [] (hK' a' w' ⟨fun _ => hH', hn hH'⟩)
        unfold wpListIn at this
        split at this
        · rename_i hw
          rw [if_pos hw]
          exact wpIn_then this
        · rename_i hw
          rw [if_neg hw]
          exact this
      · cases h
    · cases h
  | out x =>
    cases s with
    | nil => cases h
    | cons k s =>
      cases k with
      | seq y => cases x <;> (cases h; exact ⟨ho, fun w rows a hA hR hd => ⟨a, w, hA, hR, hd, fun hn => hn⟩⟩)
      | blk id =>
        cases x with
        | exit i =>
          unfold step1 at h
          simp only at h
          cases hb : Nat.beq i id with
          | true =>
            rw [hb] at h
            cases h
            refine ⟨ho, fun w rows a hA hR hd => ⟨a, w, hA, hR, hd, fun hn => ?_⟩⟩
            show Exit.inBlock id _ (.exit i) a w
            simp only [Exit.inBlock, if_pos (Nat.eq_of_beq_eq_true hb)]
            exact hn
          | false =>
            rw [hb] at h
            cases h
            refine ⟨ho, fun w rows a hA hR hd => ⟨a, w, hA, hR, hd, fun hn => ?_⟩⟩
            show Exit.inBlock id _ (.exit i) a w
            simp only [Exit.inBlock, if_neg (Nat.ne_of_beq_eq_false hb)]
            exact hn
        | _ => cases h; exact ⟨ho, fun w rows a hA hR hd => ⟨a, w, hA, hR, hd, fun hn => hn⟩⟩
noncomputable def exec (P : Program) (N : Nat) (n : Nat) : Sta → Sta := Nat.rec (fun S => S) (fun _ ih S => match step1 P N S with | some S' => ih S' | none => S) n
theorem exec_sound {c : Ctx} : ∀ (n : Nat) {S : Sta}, Obl c.w0 (exec c.P c.N n S).env →
    Obl c.w0 S.env ∧ ∀ w rows a, At c.w0 w S.env.known rows S.env.sz → Rep c.N S.fr a → a.defers = c.ds → ∃ a' w', At c.w0 w' (exec c.P c.N n S).env.known rows (exec c.P c.N n S).env.sz ∧ Rep c.N (exec c.P c.N n S).fr a' ∧ a'.defers = c.ds ∧ (wpS c (exec c.P c.N n S) a' w' → wpS c S a w)
  | 0, S, ho => ⟨ho, fun w rows a hA hR hd => ⟨a, w, hA, hR, hd, fun h => h⟩⟩
  | n + 1, S, ho => by
    have e : exec c.P c.N (n + 1) S = match step1 c.P c.N S with | some S' => exec c.P c.N n S' | none => S := rfl
    rw [e] at ho ⊢
    cases hs : step1 c.P c.N S with
    | none =>
      rw [hs] at ho
      exact ⟨ho, fun w rows a hA hR hd => ⟨a, w, hA, hR, hd, fun h => h⟩⟩
    | some S' =>
      rw [hs] at ho
      obtain ⟨ho1, hr1⟩ := exec_sound n ho
      obtain ⟨ho2, hr2⟩ := step1_sound hs ho1
      refine ⟨ho2, fun w rows a hA hR hd => ?_⟩
      obtain ⟨a1, w1, h1, h2, h3, h4⟩ := hr2 w rows a hA hR hd
      obtain ⟨a2, w2, g1, g2, g3, g4⟩ := hr1 w1 rows a1 h1 h2 h3
      exact ⟨a2, w2, g1, g2, g3, fun h => h4 (g4 h)⟩
/-- What a run must be told: the cells of arguments that it reads. -/
def ExtL (w0 : World) : List (Addr × Value) → Prop
  | [] => True
  | p :: l => (p.1.block < w0.heap.size ∧ w0.cell? p.1 = some p.2) ∧ ExtL w0 l
theorem ExtL.mem {w0 : World} : ∀ {l : List (Addr × Value)}, ExtL w0 l → ∀ p ∈ l, p.1.block < w0.heap.size ∧ w0.cell? p.1 = some p.2
  | _ :: _, h, p, hp => by
    rcases List.mem_cons.1 hp with rfl | hp
    · exact h.1
    · exact ExtL.mem h.2 p hp
/-- What it takes for granted. -/
def AllP : List Prop → Prop
  | [] => True
  | p :: l => p ∧ AllP l
theorem AllP.mem : ∀ {l : List Prop}, AllP l → ∀ p ∈ l, p
  | _ :: _, h, p, hp => by
    rcases List.mem_cons.1 hp with rfl | hp
    · exact h.1
    · exact AllP.mem h.2 p hp
theorem eqs_of_map {α : Type} : ∀ {l : List (α × α)}, l.map Prod.fst = l.map Prod.snd → ∀ p ∈ l, p.1 = p.2
  | _ :: _, h, p, hp => by
    simp only [List.map_cons, List.cons.injEq] at h
    rcases List.mem_cons.1 hp with rfl | hp
    · exact h.1
    · exact eqs_of_map h.2 p hp
def Sta.hint (S : Sta) (hs : List Hint) : Sta := ⟨S.ctl, S.stk, S.fr, ⟨S.env.known, S.env.sz, hs, [], [], [], []⟩⟩
/-- The run goes on by evaluation as far as it knows. -/
theorem run {c : Ctx} {S : Sta} {w : World} {rows : List KB} (hA : At c.w0 w S.env.known rows S.env.sz) (n : Nat) (hs : List Hint) {ext : List (Addr × Value)} {obs : List Prop} (he : ExtL c.w0 ext) (hc : AllP obs)
    (hk : ((exec c.P c.N n (S.hint hs)).env.eqs.map Prod.fst, (exec c.P c.N n (S.hint hs)).env.kqs.map Prod.fst, (exec c.P c.N n (S.hint hs)).env.ext.reverse, (exec c.P c.N n (S.hint hs)).env.obs.reverse) = ((exec c.P c.N n (S.hint hs)).env.eqs.map Prod.snd, (exec c.P c.N n (S.hint hs)).env.kqs.map Prod.snd, ext, obs))
    (h : ∀ w', At c.w0 w' (exec c.P c.N n (S.hint hs)).env.known rows (exec c.P c.N n (S.hint hs)).env.sz → Run c (exec c.P c.N n (S.hint hs)) w') : Run c S w := by
  simp only [Prod.mk.injEq] at hk
  obtain ⟨h1, h4, h2, h3⟩ := hk
  obtain ⟨-, hr⟩ := exec_sound (c := c) n (S := S.hint hs) ⟨eqs_of_map h1, fun p hp => he.mem p (by rw [← h2]; exact List.mem_reverse.2 hp), fun p hp => hc.mem p (by rw [← h3]; exact List.mem_reverse.2 hp), eqs_of_map h4⟩
  refine ⟨fun a hR hd => ?_⟩
  obtain ⟨a', w', g1, g2, g3, g4⟩ := hr w rows a hA hR hd
  exact g4 ((h w' g1).go a' g2 g3)
/-! ### the memory never shrinks -/
theorem Env.load_sz {e e1 : Env} {a : Addr} {v : Value} (h : e.load a = some (v, e1)) : e1.sz = e.sz := by
  unfold Env.load at h
  repeat' split at h
  all_goals first | (cases h; rfl) | cases h
theorem Env.obj_sz {e e1 : Env} {r : Nat} {o : Obj} (h : e.obj? r = some (o, e1)) : e1.sz = e.sz := by
  unfold Env.obj? at h
  repeat' split at h
  all_goals first | (cases h; rfl) | cases h
theorem Env.store_sz {e e1 : Env} {a : Addr} {v : Value} (h : e.store a v = some e1) : e1.sz = e.sz := by
  unfold Env.store at h
  repeat' split at h
  all_goals first | (cases h; rfl) | cases h
theorem Env.setObj_sz {e e1 : Env} {r : Nat} {o : Obj} (h : e.setObj r o = some e1) : e1.sz = e.sz := by
  unfold Env.setObj at h
  repeat' split at h
  all_goals first | (cases h; rfl) | cases h
theorem sy_sz {P : Program} {ro : Bool} {α : Type} (s : Sem α) : ∀ (e : Env) (x : α) (e' : Env), sy P ro s e = some (x, e') → e.sz ≤ e'.sz := by
  induction s with
  | pure a => intro e x e' h; cases h; exact Nat.le_refl _
  | load m a k ih =>
    intro e x e' h
    have h : (match e.load a with | some p => sy P ro (k p.1) p.2 | none => none) = some (x, e') := h
    split at h
    · rename_i p hl; have := ih _ _ _ _ h; rw [Env.load_sz (v := p.1) (e1 := p.2) hl] at this; exact this
    · cases h
  | store m a v k ih =>
    intro e x e' h
    have h : cond ro none (match e.store a v with | some e' => sy P ro k e' | none => none) = some (x, e') := h
    cases ro with
    | true => cases h
    | false =>
      simp only [cond_false] at h
      split at h
      · rename_i p hl; have := ih _ _ _ h; rw [Env.store_sz hl] at this; exact this
      · cases h
  | new o k ih =>
    intro e x e' h
    cases ro with
    | true => cases h
    | false =>
      have h : sy P false (k e.sz) { e with known := e.known ++ [⟨e.sz, o⟩], sz := e.sz + 1 } = some (x, e') := h
      have := ih _ _ _ _ h
      exact Nat.le_trans (Nat.le_succ _) this
  | shape r k ih =>
    intro e x e' h
    have h : (match e.obj? r with | some p => sy P ro (k (match p.1 with | .cells c t _ => some (t, c.size) | _ => none)) p.2 | none => none) = some (x, e') := h
    cases hl : e.obj? r with
    | none => rw [hl] at h; cases h
    | some p => rw [hl] at h; have := ih _ _ _ _ h; rw [Env.obj_sz (o := p.1) (e1 := p.2) hl] at this; exact this
  | freeze a n k ih => intro e x e' h; cases h
  | frozen a k ih =>
    intro e x e' h
    have h : (match e.obj? a.block with | some (.cells _ _ (lo, hi), e') => sy P ro (k (decide (lo ≤ a.off) && decide (a.off < hi))) e' | _ => none) = some (x, e') := h
    split at h
    · rename_i c T lo hi e1 hl; have := ih _ _ _ _ h; rw [Env.obj_sz hl] at this; exact this
    · cases h
  | getObj r k ih =>
    intro e x e' h
    have h : (match e.obj? r with | some (.cells _ _ _, _) => none | some (o, e') => sy P ro (k o) e' | none => none) = some (x, e') := h
    split at h
    · cases h
    · rename_i o e1 hnc hl; have := ih _ _ _ _ h; rw [Env.obj_sz hl] at this; exact this
    · cases h
  | setObj r o k ih =>
    intro e x e' h
    have h : cond ro none (match e.setObj r o with | some e' => sy P ro k e' | none => none) = some (x, e') := h
    cases ro with
    | true => cases h
    | false =>
      simp only [cond_false] at h
      split at h
      · rename_i p hl; have := ih _ _ _ h; rw [Env.setObj_sz hl] at this; exact this
      · cases h
  | choose q k ih =>
    intro e x e' h
    have h : (match q.forced with | true => sy P ro (k 0) e | false => none) = some (x, e') := h
    split at h
    · exact ih _ _ _ _ h
    · cases h
  | sys c k ih => intro e x e' h; cases h
  | program k ih => intro e x e' h; exact ih P e x e' h
  | mark m k ih => intro e x e' h; exact ih e x e' h
  | halt h0 => intro e x e' h; cases h
theorem wantS_sz {all : Array Oper} {o : Oper} {fr fr1 : Fr} {e e' : Env} {t : Bool} (h : wantS all o fr e = some (t, fr1, e')) : e'.sz = e.sz := by
  unfold wantS at h
  repeat' split at h
  all_goals first | (cases h; rfl) | cases h
theorem specT_sz {P : Program} {fr : Fr} {o : Oper} {e e' : Env} {v : Value} (h : specT P fr o e = some (v, e')) : e'.sz = e.sz := by
  unfold specT at h
  repeat' split at h
  all_goals first | (cases h; rfl) | cases h
theorem specS_sz {P : Program} {fr : Fr} {o : Oper} {e e' : Env} {v : Value} (h : specS P fr o e = some (v, e')) : e'.sz = e.sz := by
  unfold specS at h
  split at h
  · rename_i x hs hhs
    cases hc : isSpec0 o { e with hs := hs } with
    | true =>
      rw [hc] at h
      simp only [cond_true] at h
      split at h
      · rename_i v' e1 hs1
        cases h
        have := specT_sz hs1
        exact this
      · cases h
    | false =>
      rw [hc] at h
      simp only [cond_false] at h
      split at h
      · cases h
        rfl
      · cases h
  · exact specT_sz h
theorem stepOp_sz {P : Program} {N : Nat} {all : Array Oper} {o : Oper} {fr fr' : Fr} {e e' : Env} (h : stepOp P N all o fr e = some (fr', e')) : e.sz ≤ e'.sz := by
  unfold stepOp at h
  split at h
  · cases h
  · rename_i e1 hw
    have hz := wantS_sz hw
    split at h
    · cases h; omega
    · cases h
  · rename_i frw e1 hw
    have hz := wantS_sz hw
    cases hc : (plainOp o && o.op.operands.toList.all (knows frw)) with
    | false => rw [hc] at h; cases h
    | true =>
      rw [hc] at h
      simp only [cond_true] at h
      cases hsp : isSpec o e1 with
      | true =>
        rw [hsp] at h
        simp only [cond_true] at h
        split at h
        · rename_i v e2 hs
          have := specS_sz hs
          split at h
          · cases h; omega
          · cases h
        · cases h
      | false =>
        rw [hsp] at h
        simp only [cond_false] at h
        split at h
        · rename_i v e2 hs
          have := sy_sz _ _ _ _ hs
          split at h
          · cases h; omega
          · cases h
        · rename_i e2 hs
          have := sy_sz _ _ _ _ hs
          split at h
          · cases h; omega
          · cases h
        · cases h
theorem takeS_sz {P : Program} {N : Nat} {all : Array Oper} {kn0 : List KB} {o : Oper} {fr fr' : Fr} {e e' : Env} (h : takeS P N all kn0 o fr e = some (fr', e')) : e'.sz = e.sz := by
  unfold takeS at h
  split at h
  · cases h
  · rename_i e1 hw
    have hz := wantS_sz hw
    split at h
    · cases h; exact hz
    · cases h
  · rename_i frw e1 hw
    cases hc : (plainOp o && o.op.operands.toList.all (knows frw)) with
    | false => rw [hc] at h; cases h
    | true =>
      rw [hc] at h
      simp only [cond_true] at h
      cases hsp : isSpec o e1 with
      | true =>
        rw [hsp] at h
        simp only [cond_true] at h
        split at h
        · split at h
          · cases h; rfl
          · cases h
        · cases h
      | false =>
        rw [hsp] at h
        simp only [cond_false] at h
        split at h
        · split at h
          · cases h; rfl
          · cases h
        · cases h
theorem step1_sz {P : Program} {N : Nat} {S S' : Sta} (h : step1 P N S = some S') : S.env.sz ≤ S'.env.sz := by
  obtain ⟨ctl, s, fr, e⟩ := S
  cases ctl with
  | code x =>
    cases x with
    | cond o x y =>
      unfold step1 at h
      simp only at h
      split at h
      · cases hk : knows fr o with
        | false => rw [hk] at h; cases h
        | true => rw [hk] at h; cases h; exact Nat.le_refl _
      · cases h
      · split at h
        · cases h; exact Nat.le_refl _
        · cases h
    | region id ops draw =>
      cases draw with
      | true => cases h
      | false => cases h; exact Nat.le_refl _
    | _ => cases h <;> exact Nat.le_refl _
  | ops all l =>
    cases l with
    | nil => cases h; exact Nat.le_refl _
    | cons o l =>
      unfold step1 at h
      simp only at h
      split at h
      · rename_i fr' e' hs
        cases h
        exact stepOp_sz hs
      · cases h
  | tail all l =>
    cases l with
    | nil => cases h; exact Nat.le_refl _
    | cons o l =>
      unfold step1 at h
      simp only at h
      split at h
      · rename_i fr' e' hs
        cases h
        exact stepOp_sz hs
      · cases h
  | draw all listed fuel kn0 m nd =>
    unfold step1 at h
    simp only at h
    split at h
    · rename_i i hs hhs
      split at h
      · rename_i f o hoi
        cases hb : takeB all listed nd i with
        | false => rw [hb] at h; cases h
        | true =>
          rw [hb] at h
          simp only [cond_true] at h
          split at h
          · rename_i fr' e' hts
            cases h
            exact Nat.le_of_eq (takeS_sz hts).symm
          · cases h
      · cases h
    · rename_i i hs hhs
      split at h
      · rename_i f o hoi
        cases hb : decide (Region.ready .any all listed = [i]) with
        | false => rw [hb] at h; cases h
        | true =>
          rw [hb] at h
          simp only [cond_true] at h
          split at h
          · rename_i fr' e' hts
            cases h
            have := stepOp_sz hts
            exact this
          · cases h
      · cases h
    · cases hb : (Region.ready .any all listed).isEmpty with
      | false => rw [hb] at h; cases h
      | true => rw [hb] at h; cases h; exact Nat.le_refl _
    · rename_i hs hhs
      cases hb : (Region.seqB .any all (all.toList.drop (all.size - fuel)).length (all.size - fuel) listed && Nat.beq fuel (all.toList.drop (all.size - fuel)).length && (List.range all.size).all fun j => listed.getD j true || !needB nd j) with
      | false => rw [hb] at h; cases h
      | true => rw [hb] at h; cases h; exact Nat.le_refl _
    · cases h
  | pick all listed f kn0 m nd i =>
    unfold step1 at h
    simp only at h
    split at h
    · split at h
      · rename_i fr' e' hts
        cases h
        have := stepOp_sz hts
        exact this
      · cases h
    · cases h
  | out x =>
    cases s with
    | nil => cases h
    | cons k s =>
      cases k with
      | seq y => cases x <;> (cases h; exact Nat.le_refl _)
      | blk id =>
        cases x with
        | exit i =>
          unfold step1 at h
          simp only at h
          cases hb : Nat.beq i id with
          | true => rw [hb] at h; cases h; exact Nat.le_refl _
          | false => rw [hb] at h; cases h; exact Nat.le_refl _
        | _ => cases h; exact Nat.le_refl _
theorem exec_sz {P : Program} {N : Nat} : ∀ (n : Nat) (S : Sta), S.env.sz ≤ (exec P N n S).env.sz
  | 0, S => Nat.le_refl _
  | n + 1, S => by
    have e : exec P N (n + 1) S = match step1 P N S with | some S' => exec P N n S' | none => S := rfl
    rw [e]
    cases hs : step1 P N S with
    | none => exact Nat.le_refl _
    | some S' => exact Nat.le_trans (step1_sz hs) (exec_sz n S')
end Go.Proofs.Ytfidkgpimlpdbaa
