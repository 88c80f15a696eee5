/- Parts of a proof: LH LI. -/
import Derived.Test.YtlgibckhkdggdaaH2
import Derived.StillTailTactics
import Derived.OrdersIn
import Derived.RegionIn
import Derived.OrdersHeld
import Derived.Maps.OwnIn
import Derived.Scope

/- lag: regions that draw, inside a fence (as W, AA, AE, AH). -/
namespace Go.Proofs.Ytlgibckhkdggdaa
open Go.RowKit Go.Shelf

def noDefer (ops : Array Oper) : Bool := ops.all fun o => match o.op with | .defer _ => false | _ => true
theorem noDefer_spec {ops : Array Oper} (h : noDefer ops = true) {i : Nat} {o : Oper} (hi : ops[i]? = some o) : ∀ c, o.op ≠ .defer c := by
  intro c hc
  obtain ⟨hlt, rfl⟩ := Array.getElem?_eq_some_iff.1 hi
  have := (Array.all_eq_true.1 h) i hlt
  rw [hc] at this
  cases this

section
variable {P : Program} {ops : Array Oper} {md : Region.Mode} {w : World} {lo m : Nat}
theorem wpIn_of_still {o : Oper} (hnd : ∀ c, o.op ≠ .defer c) {a : Act} {K : Act → Prop} {K' : Act → World → Prop} {Q' : Exit → Act → World → Prop} (h : ∀ a, K a → K' a w) (hh : o.still P a w K) : o.wpIn (Fence.wide.inRound lo) m P a w K' Q' := by
  unfold Oper.still at hh
  unfold Oper.wpIn
  refine ⟨fun _ _ => trivial, ?_⟩
  rw [Oper.semAt_plain _ _ _ hnd]
  generalize (execOp a.eval o).run P w = r at *
  cases r with
  | ok n w' =>
    cases n <;> simp only [Oper.stillUpon] at hh <;> simp only [Oper.uponIn]
    case enter f args =>
      obtain ⟨rfl, v, hc, hn⟩ := hh
      refine ⟨fun h => (by cases h), (CallsIn.inRound lo (callsIn_wide.2 hc)).mono fun e w'' ⟨he, hw⟩ => ?_⟩
      subst he; subst hw; exact h _ hn
    all_goals (obtain ⟨rfl, h2⟩ := hh; exact h _ h2)
  | halt x w' => simp only [Oper.stillUpon] at hh

theorem wpOpIn_of_stOp (hnd : noDefer ops = true) {i : Nat} {a : Act} {K : Act → Prop} {K' : Act → World → Prop} {Q' : Exit → Act → World → Prop} (h : ∀ a, K a → K' a w) (hh : stOp P ops w i K a) : wpOpIn (Fence.wide.inRound lo) m P ops Q' i K' a w := by
  unfold stOp at hh
  unfold wpOpIn
  split
  · rename_i ho; simp only [ho] at hh; exact h _ hh
  · rename_i o ho
    simp only [ho] at hh
    split
    · rename_i hw; simp only [hw, if_true] at hh; exact wpIn_of_still (noDefer_spec hnd ho) h hh
    · rename_i hw; simp only [hw] at hh; exact ⟨fun _ _ => trivial, h _ hh⟩

theorem wpAnyIn_of_head (hnd : noDefer ops = true) {n g : Nat} {L : Array Bool → Act → Prop} {Q' : Exit → Act → World → Prop} (hL : ∀ listed a, L listed a → wpAnyIn (Fence.wide.inRound lo) m P md ops Q' g listed a w) :
    ∀ (f : Nat) (listed : Array Bool) (a : Act), wpAnyL P md ops w n L f listed a → wpAnyIn (Fence.wide.inRound lo) m P md ops Q' (f + g) listed a w
  | 0, listed, a, h => by rw [Nat.zero_add]; exact hL _ _ h
  | f + 1, listed, a, h => by
    rw [show f + 1 + g = (f + g) + 1 by omega]
    exact ⟨fun h0 => absurd h0 h.1, fun i hi => wpOpIn_of_stOp hnd (fun a' h' => wpAnyIn_of_head hnd hL f _ a' h') (h.2 i hi).2⟩

theorem wpAnyIn_of_seq {F : Fence} {Q' : Exit → Act → World → Prop} : ∀ (l : List Oper) (k : Nat) (listed : Array Bool) (a : Act) (w : World), (∀ j, l[j]? = ops[k + j]?) →
    Region.seqB md ops l.length k listed = true → wpListIn F m P ops Q' l a w → wpAnyIn F m P md ops Q' l.length listed a w
  | [], _, _, _, _, _, hB, h => ⟨by simpa [Region.seqB] using hB, h⟩
  | o :: l, k, listed, a, w, hl, hB, h => by
    have h0 : ops[k]? = some o := by simpa using (hl 0).symm
    simp only [List.length_cons, Region.seqB, Bool.and_eq_true, decide_eq_true_eq] at hB
    refine ⟨fun h1 => (by rw [hB.1] at h1; cases h1), fun i hi => ?_⟩
    rw [hB.1] at hi
    have hik : i = k := by simpa using hi
    subst hik
    have hw : wpOpIn F m P ops Q' i (wpListIn F m P ops Q' l) a w := by unfold wpOpIn; simp only [h0]; exact h
    exact wpOpIn_mono (fun a' w' h' => wpAnyIn_of_seq l (i + 1) _ a' w' (fun j => by have := hl (j + 1); simpa [Nat.add_assoc, Nat.add_comm 1 j] using this) hB.2 h') hw

theorem wpIn_region_still_tail {id : Nat} {Q : Exit → Act → World → Prop} {a : Act} {w : World} {l : List Oper} (n : Nat) (hm : P.follows .mixedOrders = true) (hnd : noDefer l.toArray = true) (hB : Region.lexTailB .any l.toArray n = true)
    (h : wpStill P l.toArray { w with drawn := w.drawn + 1 } (fun a' => wpListIn (Fence.wide.inRound lo) m P l.toArray Q (l.drop n) a' { w with drawn := w.drawn + 1 }) (l.take n) a) : (Code.region id l.toArray true).wpIn (Fence.wide.inRound lo) m P Q a w := by
  simp only [Region.lexTailB, Bool.and_eq_true, decide_eq_true_eq] at hB
  obtain ⟨⟨⟨⟨hsel, hn⟩, hs⟩, hc⟩, hlex⟩ := hB
  have hn' : n < l.length := by simpa using hn
  have htl : (l.take n).length = n := by simp; omega
  have hdl : (l.drop n).length = l.toArray.size - n := by simp
  have inv0 : HeadInv .any l.toArray n (Array.replicate l.toArray.size false) :=
    ⟨by simp, fun j oj _ hl => (by rw [getD_replicate_false] at hl; cases hl), fun t _ ht => getD_in (by simpa using ht) (getD_replicate_false _ _)⟩
  have H := wpAnyL_lex (md := .any) (g := l.toArray.size - n) hsel hs hc hn (l.take n) 0 _ a (fun j hj => by
    have hj' : j < n := by rw [htl] at hj; exact hj
    simp [hj']) (by simpa using htl) inv0 (by rw [htl]; exact hlex) h
  refine wpIn_region_any hm ?_
  have := wpAnyIn_of_head (lo := lo) (m := m) hnd (Q' := Q) (g := l.toArray.size - n) (fun listed a' hL => by
    have := wpAnyIn_of_seq (F := Fence.wide.inRound lo) (m := m) (md := .any) (Q' := Q) (l.drop n) n listed a' { w with drawn := w.drawn + 1 } (fun j => by simp [List.getElem?_drop]) (by rw [hdl]; exact hL.1) hL.2
    rwa [hdl] at this) _ _ _ H
  rw [htl, show n + (l.toArray.size - n) = l.toArray.size by omega] at this
  exact this
theorem wpOpIn_round (hnd : noDefer ops = true) {i : Nat} {Q : Exit → Act → World → Prop} {K K' : Act → World → Prop} (hK : ∀ a w, K a w → K' a w) {a : Act} {w : World} (h : wpOpIn Fence.wide m P ops Q i K a w) : wpOpIn (Fence.wide.inRound lo) m P ops Q i K' a w := by
  have h := wpOpIn_mono hK h
  unfold wpOpIn at h ⊢
  split
  · rename_i ho; simp only [ho] at h; exact h
  · rename_i o ho
    simp only [ho] at h
    split
    · rename_i hw
      simp only [hw, if_true] at h
      obtain ⟨h1, h2⟩ := h
      refine ⟨h1, ?_⟩
      rw [Oper.semAt_plain _ _ _ (noDefer_spec hnd ho)] at h2 ⊢
      exact h2
    · rename_i hw; simp only [hw] at h; exact h
theorem wpAnyIn_round (hnd : noDefer ops = true) {Q : Exit → Act → World → Prop} : ∀ (fuel : Nat) (listed : Array Bool) (a : Act) (w : World), wpAnyIn Fence.wide m P md ops Q fuel listed a w → wpAnyIn (Fence.wide.inRound lo) m P md ops Q fuel listed a w
  | 0, _, _, _, h => h
  | fuel + 1, _, _, _, h => ⟨h.1, fun i hi => wpOpIn_round hnd (fun a' w' => wpAnyIn_round hnd fuel _ a' w') (h.2 i hi)⟩
theorem region_round {id : Nat} {a : Act} {w : World} {Q : Exit → Act → World → Prop} (hm : P.follows .mixedOrders = true) (hnd : noDefer ops = true)
    (h : wpAnyIn Fence.wide m P .any ops Q ops.size (Array.replicate ops.size false) a { w with drawn := w.drawn + 1 }) : (Code.region id ops true).wpIn (Fence.wide.inRound lo) m P Q a w :=
  wpIn_region_any hm (wpAnyIn_round hnd _ _ _ _ h)
end
section
variable {P : Program} {ops : Array Oper} {md : Region.Mode} {m : Nat} {Q : Exit → Act → World → Prop} {S : World → Prop} {needs : Nat → Bool}

def afterAll (md : Region.Mode) (listed : Array Bool) (o : Oper) : Bool := o.after.all fun e => !Region.binds md e || listed.getD e.on false
theorem afterAll_spec {listed : Array Bool} {o : Oper} (h : afterAll md listed o = true) : ∀ e ∈ o.after, Region.binds md e = true → listed.getD e.on false = true := by
  intro e he hb
  unfold afterAll at h
  rw [Array.all_eq_true_iff_forall_mem] at h
  have := h e he
  simpa [hb] using this
def Closed (md : Region.Mode) (ops : Array Oper) (listed : Array Bool) : Prop := ∀ j o, ops[j]? = some o → listed.getD j false = true → ∀ e ∈ o.after, Region.binds md e = true → listed.getD e.on false = true
def closedB (md : Region.Mode) (ops : Array Oper) (listed : Array Bool) : Bool := (List.range ops.size).all fun j => !listed.getD j false || match ops[j]? with | none => true | some o => afterAll md listed o
theorem closedB_spec {listed : Array Bool} (h : closedB md ops listed = true) : Closed md ops listed := by
  intro j o ho hl
  unfold closedB at h
  rw [List.all_eq_true] at h
  have hj := h j (List.mem_range.2 (Array.getElem?_eq_some_iff.1 ho).1)
  rw [ho, hl] at hj
  exact afterAll_spec (by simpa using hj)
theorem Closed.step {listed : Array Bool} (h : Closed md ops listed) {j : Nat} (hj : j ∈ Region.ready md ops listed) : Closed md ops (listed.setIfInBounds j true) := by
  obtain ⟨-, o, ho, hall⟩ := mem_ready.1 hj
  intro k ok hok hl e he hb
  by_cases hjk : j = k
  · subst hjk
    rw [ho] at hok
    cases hok
    exact getD_set_true (hall e he hb)
  · rw [getD_set_ne false hjk] at hl
    exact getD_set_true (h k ok hok hl e he hb)

def waitsB (md : Region.Mode) (ops : Array Oper) : Nat → Nat → Nat → Bool
  | 0, _, _ => false
  | f + 1, j, i => match ops[j]? with | none => false | some o => o.after.any fun e => Region.binds md e && (decide (e.on = i) || waitsB md ops f e.on i)
theorem waitsB_spec {listed : Array Bool} (hc : Closed md ops listed) {i : Nat} : ∀ (f j : Nat) (_ : ∀ o, ops[j]? = some o → ∀ e ∈ o.after, Region.binds md e = true → listed.getD e.on false = true), waitsB md ops f j i = true → listed.getD i false = true
  | 0, _, _, h => by cases h
  | f + 1, j, hj, h => by
    unfold waitsB at h
    split at h
    · cases h
    · rename_i o ho
      obtain ⟨k, hk, h⟩ := Array.any_eq_true.1 h
      have he : o.after[k] ∈ o.after := Array.getElem_mem hk
      generalize o.after[k] = e at h he
      rw [Bool.and_eq_true, Bool.or_eq_true] at h
      have hl := hj o ho e he h.1
      rcases h.2 with h2 | h2
      · rw [← of_decide_eq_true h2]; exact hl
      · exact waitsB_spec hc f e.on (fun o' ho' => hc e.on o' ho' hl) h2

theorem yieldsIf_wpOpIn {i : Nat} {o : Oper} {v : Value} {a : Act} (hi : ops[i]? = some o) (hy : YieldsIf P ops S o v a) {K : Act → World → Prop} {w : World} (hS : S w) (h : K (a.put o.dst v) w) : wpOpIn Fence.wide m P ops Q i K a w := by
  unfold Go.wpOpIn
  simp only [hi]
  rcases hy with ⟨hw, hv⟩ | ⟨hw, rfl⟩
  · simp only [hw, if_true]
    unfold Oper.wpIn
    refine ⟨fun _ _ => trivial, ?_⟩
    rw [show Fence.wide.round = none from rfl, Oper.semAt_none, hv w hS]
    exact h
  · simp only [hw]
    exact ⟨fun _ _ => trivial, h⟩

theorem wpOpIn_putIf {j : Nat} {oi oj : Oper} {v : Value} (hj : ops[j]? = some oj) (hap : oi.apart ops oj = true)
    (hsi : ∀ cs b, oi.op ≠ .select cs b) (hsj : ∀ cs b, oj.op ≠ .select cs b)
    (hQ : ∀ c a w, Q (.panic c) (a.put oi.dst v) w → Q (.panic c) a w) {K : Act → World → Prop} {a : Act} {w : World}
    (hy : YieldsIf P ops S oi v a) (h : wpOpIn Fence.wide m P ops Q j K (a.put oi.dst v) w) :
    wpOpIn Fence.wide m P ops Q j (fun a' w' => YieldsIf P ops S oi v a' ∧ K (a'.put oi.dst v) w') a w := by
  obtain ⟨h1, h2, h3⟩ := Oper.apart_spec hap
  have keep : ∀ (a : Act), YieldsIf P ops S oi v a → ∀ u, YieldsIf P ops S oi v (a.put oj.dst u) := fun a hy u =>
    hy.of_same (execOp_put oi hsi a oj.dst u h3) (wanted_put oi a oj.dst u h3)
  have keepD : ∀ d, YieldsIf P ops S oi v { a with defers := d :: a.defers } := fun d => hy.of_same rfl rfl
  have hro : Fence.wide.round = none := rfl
  unfold wpOpIn at *
  simp only [hj] at *
  rw [wanted_put oj a oi.dst v h1] at h
  split
  · rename_i hw
    simp only [hw, if_true] at h
    unfold Oper.wpIn at *
    refine ⟨fun _ _ => trivial, ?_⟩
    have h := h.2
    rw [hro, Oper.semAt_none, execOp_put oj hsj a oi.dst v h1] at h
    rw [hro, Oper.semAt_none]
    generalize (execOp a.eval oj).run P w = r at *
    cases r with
    | ok x w' =>
      cases x <;> simp only [Oper.uponIn] at h ⊢
      case value u => exact ⟨keep a hy u, by rw [← Act.put_comm a v u h2]; exact h⟩
      case skip => exact ⟨keep a hy _, by rw [← Act.put_comm a v undef h2]; exact h⟩
      case defer d =>
        refine ⟨keep _ (keepD d) _, ?_⟩
        rw [← Act.put_comm _ v undef h2, ← Act.put_defers]
        exact h
      case enter f args =>
        refine ⟨h.1, CallsIn.mono h.2 fun e w'' he => ?_⟩
        cases e with
        | returned u => exact ⟨keep a hy u, by rw [← Act.put_comm a v u h2]; exact he⟩
        | panicked c => exact hQ _ _ _ he
        | outgrown => exact he
      case row row args => exact ⟨h.1, RowsIn.mono h.2 fun u w'' he => ⟨keep a hy u, by rw [← Act.put_comm a v u h2]; exact he⟩⟩
      case round l f tmps assign body =>
        refine ⟨h.1, RoundIn.mono h.2 fun e w'' he => ?_⟩
        cases e with
        | returned u => exact ⟨keep a hy u, by rw [← Act.put_comm a v u h2]; exact he⟩
        | panicked c => exact hQ _ _ _ he
        | outgrown => exact he
    | halt x w' =>
      cases x <;> simp only [Oper.uponIn] at h ⊢
      case panic u => exact hQ _ _ _ h
  · rename_i hw
    simp only [hw] at h
    exact ⟨fun _ _ => trivial, keep a hy _, by rw [← Act.put_comm a v undef h2]; exact h.2⟩

/-- Whatever order is picked from here on, and S holds behind each operation that 'needs' names. -/
def wpAnyHI (m : Nat) (P : Program) (md : Region.Mode) (ops : Array Oper) (Q : Exit → Act → World → Prop) (S : World → Prop) (needs : Nat → Bool) : Nat → Array Bool → Act → World → Prop
  | 0, listed, a, w => Region.ready md ops listed = [] ∧ Q .normal a w
  | fuel + 1, listed, a, w =>
    (Region.ready md ops listed = [] → Q .normal a w) ∧
    ∀ i ∈ Region.ready md ops listed, wpOpIn Fence.wide m P ops Q i (fun a' w' => (needs i = true → S w') ∧ wpAnyHI m P md ops Q S needs fuel (listed.setIfInBounds i true) a' w') a w

theorem wpAnyIn_of_held : ∀ (fuel : Nat) (listed : Array Bool) (a : Act) (w : World), wpAnyHI m P md ops Q S needs fuel listed a w → wpAnyIn Fence.wide m P md ops Q fuel listed a w
  | 0, _, _, _, h => h
  | fuel + 1, _, _, _, h => ⟨h.1, fun i hi => wpOpIn_mono (fun a' w' h' => wpAnyIn_of_held fuel _ a' w' h'.2) (h.2 i hi)⟩

theorem wpAnyHI_first {i : Nat} {oi : Oper} {v : Value} (hi : ops[i]? = some oi) (hsel : ∀ (j : Nat) (o : Oper) cs b, ops[j]? = some o → o.op ≠ .select cs b)
    (hQ : ∀ c a w, Q (.panic c) (a.put oi.dst v) w → Q (.panic c) a w) (hneeds : ∀ j, j < ops.size → needs j = true ∨ j = i ∨ waitsB md ops ops.size j i = true) :
    ∀ (fuel : Nat) (listed : Array Bool) (a : Act) (w : World), Closed md ops listed →
      (∀ j oj, ops[j]? = some oj → j ≠ i → listed.getD j true = false → (∀ e ∈ oj.after, Region.binds md e = true → e.on ≠ i) → oi.apart ops oj = true) →
      i ∈ Region.ready md ops listed → YieldsIf P ops S oi v a → S w →
      wpAnyHI m P md ops Q S needs fuel (listed.setIfInBounds i true) (a.put oi.dst v) w → wpAnyHI m P md ops Q S needs (fuel + 1) listed a w := by
  intro fuel
  induction fuel with
  | zero =>
    intro listed a w hc _ hr hy hS H
    refine ⟨fun h => (by rw [h] at hr; cases hr), fun j hj => ?_⟩
    by_cases hji : j = i
    · subst hji; exact yieldsIf_wpOpIn hi hy hS ⟨fun _ => hS, H⟩
    · have := ready_mono hj hji
      rw [H.1] at this
      cases this
  | succ fuel ih =>
    intro listed a w hc hfree hr hy hS H
    refine ⟨fun h => (by rw [h] at hr; cases hr), fun j hj => ?_⟩
    by_cases hji : j = i
    · subst hji; exact yieldsIf_wpOpIn hi hy hS ⟨fun _ => hS, H⟩
    · have h1 := H.2 j (ready_mono hj hji)
      obtain ⟨hjun, oj, hoj, hall⟩ := mem_ready.1 hj
      have hi0 : listed.getD i false = false := by
        have h0 := (mem_ready.1 hr).1
        rcases Nat.lt_or_ge i listed.size with h' | h'
        · simp [h'] at h0 ⊢; exact h0
        · simp [Array.getElem?_eq_none h']
      have hnot : ∀ e ∈ oj.after, Region.binds md e = true → e.on ≠ i := fun e he hb heq => by
        have h1 := hall e he hb
        rw [heq, hi0] at h1
        cases h1
      have hnj : needs j = true := by
        rcases hneeds j (Array.getElem?_eq_some_iff.1 hoj).1 with h | h | h
        · exact h
        · exact absurd h hji
        · have := waitsB_spec hc _ j (fun o ho => by rw [hoj] at ho; cases ho; exact hall) h
          rw [hi0] at this
          cases this
      have h2 := wpOpIn_putIf hoj (hfree j oj hoj hji hjun hnot) (fun cs b => hsel i oi cs b hi) (fun cs b => hsel j oj cs b hoj) hQ hy h1
      have hfree' : ∀ k ok, ops[k]? = some ok → k ≠ i → (listed.setIfInBounds j true).getD k true = false →
          (∀ e ∈ ok.after, Region.binds md e = true → e.on ≠ i) → oi.apart ops ok = true := fun k ok hk hki hun hno => by
        refine hfree k ok hk hki ?_ hno
        by_cases hjk : j = k
        · subst hjk; exact hjun
        · rw [getD_set_ne true hjk] at hun; exact hun
      refine wpOpIn_mono (fun a' w' h3 => ⟨fun _ => h3.2.1 hnj, ih (listed.setIfInBounds j true) a' w' (hc.step hj) hfree' (ready_mono hr (Ne.symm hji)) h3.1 (h3.2.1 hnj) ?_⟩) h2
      rw [Array.setIfInBounds_comm _ _ hji]
      exact h3.2.2

theorem wpAnyHI_take {i : Nat} {oi : Oper} {v : Value} {fuel : Nat} {listed : Array Bool} {a : Act} {w : World} (hi : ops[i]? = some oi)
    (hs : Region.noSelect ops = true) (hf : Region.free md ops listed i = true) (hr : (Region.ready md ops listed).contains i = true) (hcl : closedB md ops listed = true)
    (hn : ((List.range ops.size).all fun j => needs j || decide (j = i) || waitsB md ops ops.size j i) = true)
    (hQ : ∀ c a w, Q (.panic c) (a.put oi.dst v) w → Q (.panic c) a w) (hS : S w) (hy : YieldsIf P ops S oi v a)
    (h : wpAnyHI m P md ops Q S needs fuel (listed.setIfInBounds i true) (a.put oi.dst v) w) : wpAnyHI m P md ops Q S needs (fuel + 1) listed a w :=
  wpAnyHI_first hi (Region.noSelect_spec hs) hQ (fun j hj => by
    have := (List.all_eq_true.1 hn) j (List.mem_range.2 hj)
    rw [Bool.or_eq_true, Bool.or_eq_true] at this
    rcases this with (h | h) | h
    · exact .inl h
    · exact .inr (.inl (of_decide_eq_true h))
    · exact .inr (.inr h)) fuel listed a w (closedB_spec hcl) (Region.free_spec hi hf) (by simpa using hr) hy hS h

/-- One operation alone may come up. -/
theorem wpAnyHI_one {i : Nat} {o : Oper} {fuel : Nat} {listed : Array Bool} {a : Act} {w : World} (ho : ops[i]? = some o) (hr : decide (Region.ready md ops listed = [i]) = true)
    (h : ∀ K' : Act → World → Prop, (∀ a' w', ((needs i = true → S w') ∧ wpAnyHI m P md ops Q S needs fuel (listed.setIfInBounds i true) a' w') → K' a' w') →
      if Region.wanted o (yielded ops a.tmps) = true then Oper.wpIn Fence.wide m P o a w K' Q else (∀ f, o.about P w a.eval = some f → Fence.wide.fn f) ∧ K' (a.put o.dst undef) w) : wpAnyHI m P md ops Q S needs (fuel + 1) listed a w := by
  have hr := of_decide_eq_true hr
  refine ⟨fun h0 => (by rw [hr] at h0; cases h0), fun j hj => ?_⟩
  rw [hr] at hj
  have hji : j = i := by simpa using hj
  subst hji
  exact wpOpIn_step ho h

/-- Where nothing is wanted any more. -/
theorem wpAnyHI_of_any : ∀ (fuel : Nat) (listed : Array Bool) (a : Act) (w : World), (∀ j, j < ops.size → listed.getD j true = false → needs j = false) → wpAnyIn Fence.wide m P md ops Q fuel listed a w → wpAnyHI m P md ops Q S needs fuel listed a w
  | 0, _, _, _, _, h => h
  | fuel + 1, listed, _, _, hn, h => by
    refine ⟨h.1, fun i hi => wpOpIn_mono (fun a' w' h' => ⟨fun hni => ?_, wpAnyHI_of_any fuel _ a' w' (fun j hj hl => hn j hj ?_) h'⟩) (h.2 i hi)⟩
    · obtain ⟨h0, o, ho, -⟩ := mem_ready.1 hi
      rw [hn i (Array.getElem?_eq_some_iff.1 ho).1 h0] at hni
      cases hni
    · by_cases hij : i = j
      · subst hij; exact (mem_ready.1 hi).1
      · rw [getD_set_ne true hij] at hl; exact hl

/-- The tail, a chain, as a list. -/
theorem wpAnyHI_tail {fuel k : Nat} {l : List Oper} {listed : Array Bool} {a : Act} {w : World} (hl : l = ops.toList.drop k) (hf : fuel = l.length) (hB : Region.seqB md ops l.length k listed = true)
    (hn : ((List.range ops.size).all fun j => listed.getD j true || !needs j) = true) (h : wpListIn Fence.wide m P ops Q l a w) : wpAnyHI m P md ops Q S needs fuel listed a w := by
  subst hf
  refine wpAnyHI_of_any _ _ _ _ (fun j hj h0 => ?_) (wpAnyIn_of_seq l k listed a w (fun j => ?_) hB h)
  · have := (List.all_eq_true.1 hn) j (List.mem_range.2 hj)
    rw [h0] at this
    simpa using this
  · rw [hl, List.getElem?_drop]
    simp
theorem region_held {id : Nat} {a : Act} {w : World} (S : World → Prop) (needs : Nat → Bool) (hm : P.follows .mixedOrders = true)
    (h : ∀ K : Act → World → Prop, (∀ a w, Q .normal a w → K a w) → wpAnyHI m P .any ops (Exit.then K (fun _ _ _ => False)) S needs ops.size (Array.replicate ops.size false) a w.drew) : (Code.region id ops true).wpIn Fence.wide m P Q a w :=
  wpIn_mono (wpIn_region_any hm (wpAnyIn_of_held _ _ _ _ (h (Q .normal) fun _ _ h => h))) (fun e a' w' hq => by
    cases e with
    | normal => exact hq
    | exit id => exact hq.elim
    | goto l => exact hq.elim
    | ret => exact hq.elim
    | panic ch => exact hq.elim
    | outgrown => exact hq.elim)
end
theorem region_held_round {P : Program} {ops : Array Oper} {m lo : Nat} {Q : Exit → Act → World → Prop} {id : Nat} {a : Act} {w : World} (S : World → Prop) (needs : Nat → Bool) (hm : P.follows .mixedOrders = true) (hnd : noDefer ops = true)
    (h : ∀ K : Act → World → Prop, (∀ a w, Q .normal a w → K a w) → wpAnyHI m P .any ops (Exit.then K (fun _ _ _ => False)) S needs ops.size (Array.replicate ops.size false) a w.drew) : (Code.region id ops true).wpIn (Fence.wide.inRound lo) m P Q a w :=
  wpIn_mono (region_round hm hnd (wpAnyIn_of_held _ _ _ _ (h (Q .normal) fun _ _ h => h))) (fun e a' w' hq => by
    cases e with
    | normal => exact hq
    | exit id => exact hq.elim
    | goto l => exact hq.elim
    | ret => exact hq.elim
    | panic ch => exact hq.elim
    | outgrown => exact hq.elim)
/-- A label to which nobody goes. -/
theorem wpIn_scope_wide {P : Program} {n : Nat} {c : Code} {Q : Exit → Act → World → Prop} {a : Act} {w : World} (h : c.wpIn Fence.wide n P (Exit.noGoto Q) a w) : (Code.scope c).wpIn Fence.wide n P Q a w :=
  wpIn_wide.2 (wp_scope_straight (wpIn_wide.1 h))
/-- A region of reads: the world stays. -/
theorem wpAnyHI_end {P : Program} {ops : Array Oper} {md : Region.Mode} {m : Nat} {Q : Exit → Act → World → Prop} {S : World → Prop} {needs : Nat → Bool} {listed : Array Bool} {a : Act} {w : World} {fuel : Nat} (hr : (Region.ready md ops listed).isEmpty = true) (h : Q .normal a w) : wpAnyHI m P md ops Q S needs fuel listed a w := by
  have hr : Region.ready md ops listed = [] := by simpa using hr
  cases fuel with
  | zero => exact ⟨hr, h⟩
  | succ f => exact ⟨fun _ => h, by rw [hr]; simp⟩

theorem wpAnyHI_takeD {P : Program} {ops : Array Oper} {md : Region.Mode} {m : Nat} {Q : Exit → Act → World → Prop} {S : World → Prop} {needs : Nat → Bool} {i : Nat} {oi : Oper} {v : Value} {fuel : Nat} {listed : Array Bool} {a : Act} {w : World} (d : Option Tmp) (hi : ops[i]? = some oi) (hd : oi.dst = d)
    (hs : Region.noSelect ops = true) (hf : Region.free md ops listed i = true) (hr : (Region.ready md ops listed).contains i = true) (hcl : closedB md ops listed = true)
    (hn : ((List.range ops.size).all fun j => needs j || decide (j = i) || waitsB md ops ops.size j i) = true)
    (hQ : ∀ c a w, Q (.panic c) (a.put oi.dst v) w → Q (.panic c) a w) (hS : S w) (hy : YieldsIf P ops S oi v a)
    (h : wpAnyHI m P md ops Q S needs fuel (listed.setIfInBounds i true) (a.put d v) w) : wpAnyHI m P md ops Q S needs (fuel + 1) listed a w := by
  subst hd
  exact wpAnyHI_take hi hs hf hr hcl hn hQ hS hy h
/-- An operation that yields in whatever world may be taken first. -/
theorem wpAnyHI_firstW {P : Program} {ops : Array Oper} {md : Region.Mode} {m : Nat} {Q : Exit → Act → World → Prop} {S : World → Prop} {needs : Nat → Bool} {i : Nat} {oi : Oper} {v : Value} (hi : ops[i]? = some oi) (hsel : ∀ (j : Nat) (o : Oper) cs b, ops[j]? = some o → o.op ≠ .select cs b)
    (hQ : ∀ c a w, Q (.panic c) (a.put oi.dst v) w → Q (.panic c) a w) (hni : needs i = false) :
    ∀ (fuel : Nat) (listed : Array Bool) (a : Act) (w : World),
      (∀ j oj, ops[j]? = some oj → j ≠ i → listed.getD j true = false → (∀ e ∈ oj.after, Region.binds md e = true → e.on ≠ i) → oi.apart ops oj = true) →
      i ∈ Region.ready md ops listed → YieldsIf P ops (fun _ => True) oi v a →
      wpAnyHI m P md ops Q S needs fuel (listed.setIfInBounds i true) (a.put oi.dst v) w → wpAnyHI m P md ops Q S needs (fuel + 1) listed a w := by
  intro fuel
  induction fuel with
  | zero =>
    intro listed a w _ hr hy H
    refine ⟨fun h => (by rw [h] at hr; cases hr), fun j hj => ?_⟩
    by_cases hji : j = i
    · subst hji; exact yieldsIf_wpOpIn hi hy trivial ⟨fun h => (by rw [hni] at h; cases h), H⟩
    · have := ready_mono hj hji
      rw [H.1] at this
      cases this
  | succ fuel ih =>
    intro listed a w hfree hr hy H
    refine ⟨fun h => (by rw [h] at hr; cases hr), fun j hj => ?_⟩
    by_cases hji : j = i
    · subst hji; exact yieldsIf_wpOpIn hi hy trivial ⟨fun h => (by rw [hni] at h; cases h), H⟩
    · have h1 := H.2 j (ready_mono hj hji)
      obtain ⟨hjun, oj, hoj, hall⟩ := mem_ready.1 hj
      have hi0 : listed.getD i false = false := by
        have h0 := (mem_ready.1 hr).1
        rcases Nat.lt_or_ge i listed.size with h' | h'
        · simp [h'] at h0 ⊢; exact h0
        · simp [Array.getElem?_eq_none h']
      have hnot : ∀ e ∈ oj.after, Region.binds md e = true → e.on ≠ i := fun e he hb heq => by
        have h1 := hall e he hb
        rw [heq, hi0] at h1
        cases h1
      have h2 := wpOpIn_putIf hoj (hfree j oj hoj hji hjun hnot) (fun cs b => hsel i oi cs b hi) (fun cs b => hsel j oj cs b hoj) hQ hy h1
      have hfree' : ∀ k ok, ops[k]? = some ok → k ≠ i → (listed.setIfInBounds j true).getD k true = false →
          (∀ e ∈ ok.after, Region.binds md e = true → e.on ≠ i) → oi.apart ops ok = true := fun k ok hk hki hun hno => by
        refine hfree k ok hk hki ?_ hno
        by_cases hjk : j = k
        · subst hjk; exact hjun
        · rw [getD_set_ne true hjk] at hun; exact hun
      refine wpOpIn_mono (fun a' w' h3 => ⟨h3.2.1, ih (listed.setIfInBounds j true) a' w' hfree' (ready_mono hr (Ne.symm hji)) h3.1 ?_⟩) h2
      rw [Array.setIfInBounds_comm _ _ hji]
      exact h3.2.2
theorem wpAnyHI_takeW {P : Program} {ops : Array Oper} {md : Region.Mode} {m : Nat} {Q : Exit → Act → World → Prop} {S : World → Prop} {needs : Nat → Bool} {i : Nat} {oi : Oper} {v : Value} {fuel : Nat} {listed : Array Bool} {a : Act} {w : World} (d : Option Tmp) (hi : ops[i]? = some oi) (hd : oi.dst = d)
    (hs : Region.noSelect ops = true) (hf : Region.free md ops listed i = true) (hr : (Region.ready md ops listed).contains i = true) (hni : needs i = false)
    (hQ : ∀ c a w, Q (.panic c) (a.put oi.dst v) w → Q (.panic c) a w) (hy : YieldsIf P ops (fun _ => True) oi v a)
    (h : wpAnyHI m P md ops Q S needs fuel (listed.setIfInBounds i true) (a.put d v) w) : wpAnyHI m P md ops Q S needs (fuel + 1) listed a w := by
  subst hd
  exact wpAnyHI_firstW hi (Region.noSelect_spec hs) hQ hni fuel listed a w (Region.free_spec hi hf) (by simpa using hr) hy h
theorem wpAnyHI_first2 {P : Program} {ops : Array Oper} {md : Region.Mode} {m : Nat} {Q : Exit → Act → World → Prop} {S : World → Prop} {needs : Nat → Bool} {i : Nat} {oi : Oper} {v : Value} (hi : ops[i]? = some oi) (hsel : ∀ (j : Nat) (o : Oper) cs b, ops[j]? = some o → o.op ≠ .select cs b)
    (hQ : ∀ c a w, Q (.panic c) (a.put oi.dst v) w → Q (.panic c) a w) :
    ∀ (fuel : Nat) (listed : Array Bool) (a : Act) (w : World), Closed md ops listed → (∀ j, j < ops.size → listed.getD j true = false → needs j = true ∨ j = i ∨ waitsB md ops ops.size j i = true) →
      (∀ j oj, ops[j]? = some oj → j ≠ i → listed.getD j true = false → (∀ e ∈ oj.after, Region.binds md e = true → e.on ≠ i) → oi.apart ops oj = true) →
      i ∈ Region.ready md ops listed → YieldsIf P ops S oi v a → S w →
      wpAnyHI m P md ops Q S needs fuel (listed.setIfInBounds i true) (a.put oi.dst v) w → wpAnyHI m P md ops Q S needs (fuel + 1) listed a w := by
  intro fuel
  induction fuel with
  | zero =>
    intro listed a w hc _ _ hr hy hS H
    refine ⟨fun h => (by rw [h] at hr; cases hr), fun j hj => ?_⟩
    by_cases hji : j = i
    · subst hji; exact yieldsIf_wpOpIn hi hy hS ⟨fun _ => hS, H⟩
    · have := ready_mono hj hji
      rw [H.1] at this
      cases this
  | succ fuel ih =>
    intro listed a w hc hneeds hfree hr hy hS H
    refine ⟨fun h => (by rw [h] at hr; cases hr), fun j hj => ?_⟩
    by_cases hji : j = i
    · subst hji; exact yieldsIf_wpOpIn hi hy hS ⟨fun _ => hS, H⟩
    · have h1 := H.2 j (ready_mono hj hji)
      obtain ⟨hjun, oj, hoj, hall⟩ := mem_ready.1 hj
      have hi0 : listed.getD i false = false := by
        have h0 := (mem_ready.1 hr).1
        rcases Nat.lt_or_ge i listed.size with h' | h'
        · simp [h'] at h0 ⊢; exact h0
        · simp [Array.getElem?_eq_none h']
      have hnot : ∀ e ∈ oj.after, Region.binds md e = true → e.on ≠ i := fun e he hb heq => by
        have h1 := hall e he hb
        rw [heq, hi0] at h1
        cases h1
      have hnj : needs j = true := by
        rcases hneeds j (Array.getElem?_eq_some_iff.1 hoj).1 hjun with h | h | h
        · exact h
        · exact absurd h hji
        · have := waitsB_spec hc _ j (fun o ho => by rw [hoj] at ho; cases ho; exact hall) h
          rw [hi0] at this
          cases this
      have h2 := wpOpIn_putIf hoj (hfree j oj hoj hji hjun hnot) (fun cs b => hsel i oi cs b hi) (fun cs b => hsel j oj cs b hoj) hQ hy h1
      have hfree' : ∀ k ok, ops[k]? = some ok → k ≠ i → (listed.setIfInBounds j true).getD k true = false →
          (∀ e ∈ ok.after, Region.binds md e = true → e.on ≠ i) → oi.apart ops ok = true := fun k ok hk hki hun hno => by
        refine hfree k ok hk hki ?_ hno
        by_cases hjk : j = k
        · subst hjk; exact hjun
        · rw [getD_set_ne true hjk] at hun; exact hun
      have hneeds' : ∀ k, k < ops.size → (listed.setIfInBounds j true).getD k true = false → needs k = true ∨ k = i ∨ waitsB md ops ops.size k i = true := fun k hk hun => hneeds k hk (by
        by_cases hjk : j = k
        · subst hjk; exact hjun
        · rw [getD_set_ne true hjk] at hun; exact hun)
      refine wpOpIn_mono (fun a' w' h3 => ⟨fun _ => h3.2.1 hnj, ih (listed.setIfInBounds j true) a' w' (hc.step hj) hneeds' hfree' (ready_mono hr (Ne.symm hji)) h3.1 (h3.2.1 hnj) ?_⟩) h2
      rw [Array.setIfInBounds_comm _ _ hji]
      exact h3.2.2

theorem wpAnyHI_takeE {P : Program} {ops : Array Oper} {md : Region.Mode} {m : Nat} {Q : Exit → Act → World → Prop} {S : World → Prop} {needs : Nat → Bool} {i : Nat} {oi : Oper} {v : Value} {fuel : Nat} {listed : Array Bool} {a : Act} {w : World} (d : Option Tmp) (hi : ops[i]? = some oi) (hd : oi.dst = d)
    (hs : Region.noSelect ops = true) (hf : Region.free md ops listed i = true) (hr : (Region.ready md ops listed).contains i = true) (hcl : closedB md ops listed = true)
    (hn : ((List.range ops.size).all fun j => listed.getD j true || (needs j || decide (j = i) || waitsB md ops ops.size j i)) = true)
    (hQ : ∀ c a w, Q (.panic c) (a.put oi.dst v) w → Q (.panic c) a w) (hS : S w) (hy : YieldsIf P ops S oi v a)
    (h : wpAnyHI m P md ops Q S needs fuel (listed.setIfInBounds i true) (a.put d v) w) : wpAnyHI m P md ops Q S needs (fuel + 1) listed a w := by
  subst hd
  refine wpAnyHI_first2 hi (Region.noSelect_spec hs) hQ fuel listed a w (closedB_spec hcl) (fun j hj hl => ?_) (Region.free_spec hi hf) (by simpa using hr) hy hS h
  have := (List.all_eq_true.1 hn) j (List.mem_range.2 hj)
  rw [hl, Bool.false_or, Bool.or_eq_true, Bool.or_eq_true] at this
  rcases this with (h | h) | h
  · exact .inl h
  · exact .inr (.inl (of_decide_eq_true h))
  · exact .inr (.inr h)
theorem act_eq {K : Act → World → Prop} {a a' : Act} {w : World} (h : a = a') (hk : K a' w) : K a w := h ▸ hk
section
variable {P : Program} {ops : Array Oper} {md : Region.Mode} {m : Nat} {Q : Exit → Act → World → Prop} {S : World → Prop} {needs : Nat → Bool}
/-- Two operations may come up. -/
theorem wpAnyHI_two {i j : Nat} {oi oj : Oper} {fuel : Nat} {listed : Array Bool} {a : Act} {w : World} (hi : ops[i]? = some oi) (hj : ops[j]? = some oj) (hr : decide (Region.ready md ops listed = [i, j]) = true)
    (h1 : ∀ K' : Act → World → Prop, (∀ a' w', ((needs i = true → S w') ∧ wpAnyHI m P md ops Q S needs fuel (listed.setIfInBounds i true) a' w') → K' a' w') →
      if Region.wanted oi (yielded ops a.tmps) = true then Oper.wpIn Fence.wide m P oi a w K' Q else (∀ f, oi.about P w a.eval = some f → Fence.wide.fn f) ∧ K' (a.put oi.dst undef) w)
    (h2 : ∀ K' : Act → World → Prop, (∀ a' w', ((needs j = true → S w') ∧ wpAnyHI m P md ops Q S needs fuel (listed.setIfInBounds j true) a' w') → K' a' w') →
      if Region.wanted oj (yielded ops a.tmps) = true then Oper.wpIn Fence.wide m P oj a w K' Q else (∀ f, oj.about P w a.eval = some f → Fence.wide.fn f) ∧ K' (a.put oj.dst undef) w) : wpAnyHI m P md ops Q S needs (fuel + 1) listed a w := by
  have hr := of_decide_eq_true hr
  refine ⟨fun h0 => (by rw [h0] at hr; cases hr), fun k hk => ?_⟩
  rw [hr] at hk
  simp only [List.mem_cons, List.not_mem_nil, or_false] at hk
  rcases hk with rfl | rfl
  · exact wpOpIn_step hi h1
  · exact wpOpIn_step hj h2
theorem region_held_wp {id : Nat} {a : Act} {w : World} (m : Nat) (S : World → Prop) (needs : Nat → Bool) (hm : P.follows .mixedOrders = true)
    (h : ∀ K : Act → World → Prop, (∀ a w, Q .normal a w → K a w) → wpAnyHI m P .any ops (Exit.then K (fun _ _ _ => False)) S needs ops.size (Array.replicate ops.size false) a w.drew) : (Code.region id ops true).wp P Q a w :=
  wpIn_wide.1 (region_held S needs hm h)
end
end Go.Proofs.Ytlgibckhkdggdaa

/- lag: least sums. -/
namespace Go.Proofs.Ytlgibckhkdggdaa
open Go.RowKit Go.Shelf

attribute [local go_sem] Oper.semAt_some

/-! ### the best one -/
theorem bestO_mem {α V : Type} (f : α → V) (better : V → V → Bool) : ∀ (l : List α) (o : Option V) (v : V), l.foldl (bestStep f better) o = some v → o = some v ∨ ∃ x ∈ l, v = f x
  | [], _, _, h => .inl h
  | x :: l, o, v, h => by
    rw [List.foldl_cons] at h
    rcases bestO_mem f better l _ v h with h1 | ⟨y, hy, rfl⟩
    · cases o with
      | none =>
        simp only [bestStep, Option.some.injEq] at h1
        exact .inr ⟨x, List.mem_cons_self .., h1.symm⟩
      | some b =>
        simp only [bestStep] at h1
        split at h1
        · simp only [Option.some.injEq] at h1
          exact .inr ⟨x, List.mem_cons_self .., h1.symm⟩
        · exact .inl h1
    · exact .inr ⟨y, List.mem_cons_of_mem _ hy, rfl⟩
theorem bestO_some {α V : Type} (f : α → V) (better : V → V → Bool) : ∀ (l : List α) (o : Option V), (l ≠ [] ∨ o ≠ none) → ∃ v, l.foldl (bestStep f better) o = some v
  | [], o, h => by
    rcases h with h | h
    · exact absurd rfl h
    · cases o with
      | none => exact absurd rfl h
      | some v => exact ⟨v, rfl⟩
  | x :: l, o, _ => by
    rw [List.foldl_cons]
    refine bestO_some f better l _ (.inr ?_)
    cases o with
    | none => simp [bestStep]
    | some b => simp only [bestStep]; split <;> simp

/-! ### a row of numbers in a block of its own -/
abbrev RowZ (W : World) (g : Nat) (row : List Int) : Prop := W.heap[g]? = some (.cells (row.map (Value.int .i64)).toArray 2 (0, 0))
theorem RowZ.cell {W : World} {g j : Nat} {row : List Int} (h : RowZ W g row) (hj : j < row.length) : W.cell? ⟨g, j, none⟩ = some (.int .i64 (row[j]?.getD 0)) := by
  simp [World.cell?, h, hj]
theorem RowZ.frozen {W : World} {g j : Nat} {row : List Int} (h : RowZ W g row) : W.frozen? ⟨g, j, none⟩ = false := by simp [World.frozen?, h]
theorem RowZ.lt {W : World} {g : Nat} {row : List Int} (h : RowZ W g row) : g < W.heap.size := (Array.getElem?_eq_some_iff.1 h).1
theorem RowZ.below {W W' : World} {g D : Nat} {row : List Int} (h : RowZ W g row) (hb : Below D W W') (hD : g < D) : RowZ W' g row := (hb.block g hD).trans h
theorem RowZ.alloc {W : World} {g : Nat} {row : List Int} (h : RowZ W g row) (o : Obj) : RowZ (W.alloc o) g row := (Below.heap_alloc _ _ _ h.lt).trans h
theorem RowZ.other {W : World} {g b : Nat} {row : List Int} (h : RowZ W g row) (hne : g ≠ b) (o : Nat) (u : Value) : RowZ (W.setCell ⟨b, o, none⟩ u) g row := (Below.heap_setCell W ⟨b, o, none⟩ u g hne).trans h
theorem RowZ.set {W : World} {g : Nat} {row : List Int} (h : RowZ W g row) (j : Nat) (x : Int) : RowZ (W.setCell ⟨g, j, none⟩ (.int .i64 x)) g (row.set j x) := by
  show (W.setCell ⟨g, j, none⟩ (.int .i64 x)).heap[g]? = _
  simp [World.setCell, Array.getElem?_modify, h, List.map_set]
theorem RowZ.ints {W : World} {g n : Nat} {row : List Int} (h : RowZ W g row) (hn : row.length = n) (hm : n ≤ 1000000) : IntsAt W W.heap.size (some ⟨g, 0, none⟩) n row :=
  ⟨hn, by omega, fun _ => ⟨g, 0, rfl, h.lt, fun j hj => by rw [Nat.zero_add]; exact h.cell (by omega)⟩⟩
theorem infoI64 : (Try.prog.info? 2).map (fun i => (i.zero, i.size, i.bytes)) = some (some (.int .i64 0), 1, 8) := by kernel_rfl
theorem made_row {W : World} {N : Nat} (hN : N ≤ 1000000) : (Instr.makeSlice 77 (.int .i64 (N : Int)) (.int .i64 (N : Int))).run Try.prog W = .ok (.slice (some ⟨W.heap.size, 0, none⟩) N N) (W.alloc (.cells ((List.replicate N (0 : Int)).map (Value.int .i64)).toArray 2)) := by
  obtain ⟨i0, hi, hz0, hz1, hz2⟩ := info_parts infoI64
  have h := run_makeSlice (P := Try.prog) (w := W) 77 2 i0 (.int .i64 0) Try.underlying77 hi hz0 .i64 .i64 N N (by omega) (by omega) (by rw [hz1]; simp; omega) (by rw [hz2]; omega) (by omega)
  have e : madeCells (Value.int .i64 0).cells ((N : Int).toNat * i0.size) = ((List.replicate N (0 : Int)).map (Value.int .i64)).toArray := by
    rw [hz1]
    unfold madeCells
    apply Array.ext
    · simp
    · intro i h1 h2
      simp [Value.cells, Nat.mod_one]
  rw [e] at h
  exact h

/-! ### least sums -/
def sumAt (xs tab : List Int) (t p : Nat) : Int := xs[p - 1]?.getD 0 + tab[t - p]?.getD 0
def nextSum (xs tab : List Int) (t : Nat) : Int := (bestO (fun p : Part 1 (min xs.length t) => sumAt xs tab t p.1) ltI (partsS 1 (min xs.length t))).getD 0
/-- The least sums for 0, 1, .., k turns. -/
def sumsT (xs : List Int) : Nat → List Int
  | 0 => [0]
  | k + 1 => sumsT xs k ++ [nextSum xs (sumsT xs k) (k + 1)]
theorem sumsT_len (xs : List Int) : ∀ k, (sumsT xs k).length = k + 1
  | 0 => rfl
  | k + 1 => by rw [sumsT, List.length_append, sumsT_len xs k]; rfl
def Nums (xs : List Int) : Prop := 1 ≤ xs.length ∧ xs.length ≤ 1000 ∧ ∀ j, j < xs.length → 0 ≤ xs[j]?.getD 0 ∧ xs[j]?.getD 0 ≤ 10000
theorem sumAt_bound {xs : List Int} (hx : Nums xs) {tab : List Int} {t : Nat} (h : ∀ j, j < t → 0 ≤ tab[j]?.getD 0 ∧ tab[j]?.getD 0 ≤ 10000 * j) {p : Nat} (h1 : 1 ≤ p) (h2 : p ≤ min xs.length t) :
    0 ≤ sumAt xs tab t p ∧ sumAt xs tab t p ≤ 10000 * t := by
  have a := hx.2.2 (p - 1) (by omega)
  have b := h (t - p) (by omega)
  unfold sumAt
  omega
theorem nextSum_mem {xs : List Int} (hx : Nums xs) (tab : List Int) {t : Nat} (ht : 1 ≤ t) : ∃ p, 1 ≤ p ∧ p ≤ min xs.length t ∧ nextSum xs tab t = sumAt xs tab t p := by
  have hne : partsS 1 (min xs.length t) ≠ [] := by
    intro e
    have h0 := partsS_len 1 (min xs.length t)
    rw [e, List.length_nil] at h0
    have := hx.1
    omega
  obtain ⟨v, hv⟩ := bestO_some (fun p : Part 1 (min xs.length t) => sumAt xs tab t p.1) ltI _ none (.inl hne)
  rcases bestO_mem _ _ _ _ _ hv with h | ⟨p, -, hp⟩
  · cases h
  · have hm := parts_mem.1 p.2
    exact ⟨p.1, hm.1, hm.2, by unfold nextSum bestO; rw [hv]; exact hp⟩
theorem sumsT_bound {xs : List Int} (hx : Nums xs) : ∀ (k j : Nat), j ≤ k → 0 ≤ (sumsT xs k)[j]?.getD 0 ∧ (sumsT xs k)[j]?.getD 0 ≤ 10000 * j
  | 0, j, hj => by
    have : j = 0 := by omega
    subst this
    simp [sumsT]
  | k + 1, j, hj => by
    rw [sumsT]
    by_cases h : j ≤ k
    · rw [List.getElem?_append_left (by rw [sumsT_len]; omega)]
      exact sumsT_bound hx k j h
    · have : j = k + 1 := by omega
      subst this
      rw [List.getElem?_append_right (by rw [sumsT_len]; omega), sumsT_len]
      simp only [Nat.sub_self, List.getElem?_cons_zero, Option.getD_some]
      obtain ⟨p, h1, h2, e⟩ := nextSum_mem hx (sumsT xs k) (t := k + 1) (by omega)
      rw [e]
      exact sumAt_bound hx (fun j hj => sumsT_bound hx k j (by omega)) h1 h2
/-- The row in memory: what is known so far, and zeros. -/
def sumsRow (xs : List Int) (k last : Nat) : List Int := sumsT xs k ++ List.replicate (last - k) 0
theorem sumsRow_len {xs : List Int} {k last : Nat} (h : k ≤ last) : (sumsRow xs k last).length = last + 1 := by
  unfold sumsRow
  rw [List.length_append, sumsT_len, List.length_replicate]
  omega
theorem sumsRow_get {xs : List Int} {k last j : Nat} (h : j ≤ k) : (sumsRow xs k last)[j]?.getD 0 = (sumsT xs k)[j]?.getD 0 := by
  unfold sumsRow
  rw [List.getElem?_append_left (by rw [sumsT_len]; omega)]
theorem sumsRow_set {xs : List Int} {k last : Nat} (h : k < last) : (sumsRow xs k last).set (k + 1) (nextSum xs (sumsT xs k) (k + 1)) = sumsRow xs (k + 1) last := by
  unfold sumsRow
  rw [List.set_append_right _ _ (by rw [sumsT_len]; omega), sumsT_len, Nat.sub_self, sumsT, List.append_assoc]
  obtain ⟨m, hm⟩ : ∃ m, last - k = m + 1 := ⟨last - k - 1, by omega⟩
  rw [hm, show last - (k + 1) = m by omega, List.replicate_succ]
  rfl
theorem sumsRow_zero (xs : List Int) (last : Nat) : sumsRow xs 0 last = List.replicate (last + 1) 0 := by
  simp [sumsRow, sumsT, List.replicate_succ]
theorem sumsRow_last (xs : List Int) (last : Nat) : sumsRow xs last last = sumsT xs last := by simp [sumsRow]

set_option maxHeartbeats 1000000 in
theorem sum1_any (w : World) (b1 b2 B B' : Nat) (A A' : Option Addr) (n c n' c' : Nat) (xs row : List Int) (p k r : Nat) (h1 : Boxed w b1 22 (.slice A n c)) (h2 : Boxed w b2 77 (.slice A' n' c'))
    (hx : IntsAt w B A n xs) (hr : IntsAt w B' A' n' row) (hB : B ≤ w.heap.size) (hB' : B' ≤ w.heap.size) (hn : n ≤ 1000000) (hp : p = k + 1) (hk : k < n) (hrr : r < n') (_hn' : n' ≤ 1000000)
    (hv : 0 ≤ xs[k]?.getD 0 + row[r]?.getD 0 ∧ xs[k]?.getD 0 + row[r]?.getD 0 ≤ 1000000000000) :
    Calls Try.prog 112 #[cutV ((p : Int), (r : Int)), .pointer (some ⟨b1, 0, none⟩), .pointer (some ⟨b2, 0, none⟩)] w fun e W' => e = .returned (encI (xs[p - 1]?.getD 0 + row[r]?.getD 0)) ∧ Below w.heap.size w W' := by
  obtain ⟨b3, o3, rfl, l3, e3⟩ := hx.cell hk
  obtain ⟨b4, o4, rfl, l4, e4⟩ := hr.cell hrr
  have l3' : b3 < w.heap.size := by omega
  have l4' : b4 < w.heap.size := by omega
  have c1 := h1.cell
  have c2 := h2.cell
  have l1 := h1.lt
  have l2 := h2.lt
  have hpp : p - 1 = k := by omega
  rw [hpp]
  have e5 : IntKind.i64.wrap ((p : Int) - 1) = (k : Int) := by rw [IntKind.wrap_i64]; omega
  have e6 : IntKind.i64.wrap (xs[k]?.getD 0 + row[r]?.getD 0) = xs[k]?.getD 0 + row[r]?.getD 0 := by rw [IntKind.wrap_i64]; omega
  obtain ⟨x, hxe⟩ : ∃ x, x = xs[k]?.getD 0 := ⟨_, rfl⟩
  obtain ⟨y, hye⟩ : ∃ y, y = row[r]?.getD 0 := ⟨_, rfl⟩
  rw [← hxe] at e3 e6 ⊢
  rw [← hye] at e4 e6 ⊢
  clear hxe hye hv hp hpp h1 h2 hx hr
  unfold cutV encI
  go_enter Try.func112, Try.ntmps112
  go_wp2
  go_quiet (fail)
  go_wp2
  go_ret
  exact ⟨by simp, ((Below.refl _ w).alloc (Nat.le_refl _) _).trans (below_drewN _ _)⟩

set_option maxRecDepth 100000 in
set_option maxHeartbeats 8000000 in
theorem leastSums_any (w : World) (B : Nat) (A : Option Addr) (n c last : Nat) (xs : List Int) (hx : IntsAt w B A n xs) (hB : B ≤ w.heap.size) (hv : Nums xs) (hl : last ≤ 1000) :
    Calls Try.prog 92 #[.slice A n c, .int .i64 (last : Int)] w fun e w' => ∃ g, w.heap.size ≤ g ∧ e = .returned (.slice (some ⟨g, 0, none⟩) (last + 1) (last + 1)) ∧ RowZ w' g (sumsT xs last) ∧ Below w.heap.size w w' := by
  have hn := hx.len
  have hn1 := hv.1
  have hn2 := hv.2.1
  have hmks : ∀ W : World, (Instr.makeSlice 77 (.int .i64 ((last : Int) + 1)) (.int .i64 ((last : Int) + 1))).run Try.prog W = .ok (.slice (some ⟨W.heap.size, 0, none⟩) (last + 1) (last + 1)) (W.alloc (.cells ((List.replicate (last + 1) (0 : Int)).map (Value.int .i64)).toArray 2)) := fun W => by
    have := made_row (W := W) (N := last + 1) (by omega)
    rwa [show ((last + 1 : Nat) : Int) = (last : Int) + 1 by simp] at this
  obtain ⟨mc, hmc⟩ : ∃ mc, mc = ((List.replicate (last + 1) (0 : Int)).map (Value.int .i64)).toArray := ⟨_, rfl⟩
  rw [← hmc] at hmks
  obtain ⟨V, hV⟩ : ∃ V, V = ((w.alloc (.cells #[.slice A n c] 22)).alloc (.cells mc 2)).alloc (.cells #[.slice (some ⟨w.heap.size + 1, 0, none⟩) (last + 1) (last + 1)] 77) := ⟨_, rfl⟩
  have hb0 : Below w.heap.size w V := by rw [hV]; exact (((Below.refl _ w).alloc (Nat.le_refl _) _).alloc (by simp) _).alloc (by simp; omega) _
  have x2 : Boxed V w.heap.size 22 (.slice A n c) := by rw [hV]; exact ((Boxed.new w 22 (.slice A n c)).alloc _).alloc _
  have x5 : Boxed V (w.heap.size + 1 + 1) 77 (.slice (some ⟨w.heap.size + 1, 0, none⟩) (last + 1) (last + 1)) := by
    rw [hV]
    have := Boxed.new ((w.alloc (.cells #[.slice A n c] 22)).alloc (.cells mc 2)) 77 (.slice (some ⟨w.heap.size + 1, 0, none⟩) (last + 1) (last + 1))
    simpa using this
  have xr : RowZ V (w.heap.size + 1) (sumsRow xs 0 last) := by
    rw [hV, sumsRow_zero]
    have := (World.alloc_heap_new (w.alloc (.cells #[.slice A n c] 22)) (.cells mc 2))
    rw [World.size_alloc] at this
    rw [RowZ, Below.heap_alloc _ _ _ (by simp), this, hmc]
  have hwl : IntKind.i64.wrap ((last : Int) + 1) = (last : Int) + 1 := by rw [IntKind.wrap_i64]; omega
  have Hm := Lib.hid hmc
  clear hmc
  go_enter Try.func92, Try.ntmps92
  go_wp2_with (fail)
  rw [← hV]
  clear hV hmks hwl
  have hn3 : n ≤ 1000 := by omega
  have Hv := Lib.hid hv
  have Hn := Lib.hid hn
  clear hv hn
  go_loopw [6] (fun i wr => ∃ t : Nat, (1 ≤ t ∧ t ≤ last + 1) ∧ i = .int .i64 (t : Int) ∧ Boxed wr w.heap.size 22 (.slice A n c) ∧ Boxed wr (w.heap.size + 1 + 1) 77 (.slice (some ⟨w.heap.size + 1, 0, none⟩) (last + 1) (last + 1)) ∧ RowZ wr (w.heap.size + 1) (sumsRow xs (t - 1) last) ∧ Below w.heap.size w wr) (fun i _ => last + 1 - (intOf i).toNat)
  case atStart => exact ⟨1, ⟨by omega, by omega⟩, rfl, x2, x5, xr, hb0⟩
  case round =>
    clear x2 x5 xr hb0
    obtain ⟨t, ⟨ht1, ht2⟩, rfl, y2, y5, yr, hb⟩ := hrel
    have c2 := y2.cell
    have c5 := y5.cell
    have l2 := y2.lt
    have l5 := y5.lt
    have lr := yr.lt
    by_cases hlt : t ≤ last
    case neg =>
      have hnl : ¬ (t : Int) ≤ (last : Int) := by omega
      have htl : t - 1 = last := by omega
      rw [htl, sumsRow_last] at yr
      clear htl
      go_wp2_with (fail)
      refine bodyPost_ret (results_tmp rfl _ _ _) rfl ?_
      exact ⟨w.heap.size + 1, by omega, rfl, yr, hb⟩
    case pos =>
      have hle : (t : Int) ≤ (last : Int) := by omega
      have hwt : IntKind.i64.wrap ((t : Int) + 1) = (t : Int) + 1 := by rw [IntKind.wrap_i64]; omega
      have d2 : ∀ W, Below wr.heap.size wr.drew W → W.cell? ⟨w.heap.size, 0, none⟩ = some (.slice A n c) := fun W h => (h.cell (p := ⟨w.heap.size, 0, none⟩) l2).trans c2
      have d5 : ∀ W, Below wr.heap.size wr.drew W → W.cell? ⟨w.heap.size + 1 + 1, 0, none⟩ = some (.slice (some ⟨w.heap.size + 1, 0, none⟩) (last + 1) (last + 1)) := fun W h => (h.cell (p := ⟨w.heap.size + 1 + 1, 0, none⟩) l5).trans c5
      go_wp2_with (fail)
      refine region_held_wp 1 (fun W' => Below wr.heap.size wr.drew W') (fun j => decide (j ≤ 7)) (by kernel_rfl) ?_
      intro KR hKR
      have hS : Below wr.heap.size wr.drew wr.drew := Below.refl _ _
      refine wpAnyHI_takeE (i := 1) (v := .int .i64 (t : Int)) (some 16) rfl rfl (by kernel_rfl) (by kernel_rfl) (by kernel_rfl) (by kernel_rfl) (by kernel_rfl) (fun _ _ _ h => h) hS (.inl ⟨by kernel_rfl, fun W' hS' => ?_⟩) ?_
      · go_simp
      refine wpAnyHI_takeE (i := 2) (v := .int .i64 (t : Int)) (some 17) rfl rfl (by kernel_rfl) (by kernel_rfl) (by kernel_rfl) (by kernel_rfl) (by kernel_rfl) (fun _ _ _ h => h) hS (.inl ⟨by kernel_rfl, fun W' hS' => ?_⟩) ?_
      · go_simp
      refine wpAnyHI_takeE (i := 6) (v := .func (.func 112) #[] #[.pointer (some ⟨w.heap.size, 0, none⟩), .pointer (some ⟨w.heap.size + 1 + 1, 0, none⟩)]) (some 21) rfl rfl (by kernel_rfl) (by kernel_rfl) (by kernel_rfl) (by kernel_rfl) (by kernel_rfl) (fun _ _ _ h => h) hS (.inl ⟨by kernel_rfl, fun W' hS' => ?_⟩) ?_
      · go_simp
      refine wpAnyHI_takeE (i := 0) (v := .slice (some ⟨w.heap.size + 1, 0, none⟩) (last + 1) (last + 1)) (some 15) rfl rfl (by kernel_rfl) (by kernel_rfl) (by kernel_rfl) (by kernel_rfl) (by kernel_rfl) (fun _ _ _ h => h) hS (.inl ⟨by kernel_rfl, fun W' hS' => ?_⟩) ?_
      · have q := d5 W' hS'; go_simp
      refine wpAnyHI_takeE (i := 3) (v := .slice A n c) (some 18) rfl rfl (by kernel_rfl) (by kernel_rfl) (by kernel_rfl) (by kernel_rfl) (by kernel_rfl) (fun _ _ _ h => h) hS (.inl ⟨by kernel_rfl, fun W' hS' => ?_⟩) ?_
      · have q := d2 W' hS'; go_simp
      refine wpAnyHI_takeE (i := 4) (v := .int .i64 (n : Int)) (some 19) rfl rfl (by kernel_rfl) (by kernel_rfl) (by kernel_rfl) (by kernel_rfl) (by kernel_rfl) (fun _ _ _ h => h) hS (.inl ⟨by kernel_rfl, fun W' hS' => ?_⟩) ?_
      · go_simp
      refine wpAnyHI_one (i := 5) rfl (by kernel_rfl) ?_
      intro K1 hK1
      go_simp
      refine ⟨trivial, (callsIn_wide.2 (cuts_box (t : Int) 1 (n : Int) _)).mono ?_⟩
      rintro e W1 ⟨bl, bh, bt, rfl, hbl, hbh, hbt, hb1⟩
      have hS1 : Below wr.heap.size wr.drew W1 := hb1
      refine hK1 _ _ ⟨fun _ => hS1, ?_⟩
      clear hK1 K1
      have hB1 : Below w.heap.size w W1 := (hb.trans (below_drew wr)).trans (hb1.mono hb.size)
      have hz1 := hb1.size
      have z2 := bxBelow (bxDrew y2) hb1 y2.lt
      have z5 := bxBelow (bxDrew y5) hb1 y5.lt
      have zr : RowZ W1 (w.heap.size + 1) (sumsRow xs (t - 1) last) := RowZ.below (show RowZ wr.drew (w.heap.size + 1) _ from yr) hb1 yr.lt
      have hM : min xs.length t = min n t := by rw [Hn.out]
      have hmn : min n t ≤ n ∧ min n t ≤ t := ⟨Nat.min_le_left .., Nat.min_le_right ..⟩
      obtain ⟨M, hMe⟩ : ∃ M, M = min n t := ⟨_, rfl⟩
      have hit := cuts1_any W1 bl bh bt W1.heap.size 1 n t (by simpa using hbl) hbh hbt (Nat.le_refl _) (by omega) (by omega) (by omega) M hMe
      have hval : ValFn W1 112 #[] #[.pointer (some ⟨w.heap.size, 0, none⟩), .pointer (some ⟨w.heap.size + 1 + 1, 0, none⟩)] (fun x : Part 1 M => cutV ((x.1 : Int), (t : Int) - (x.1 : Int))) encI (fun x => sumAt xs (sumsT xs (t - 1)) t x.1) := by
        refine ⟨enters_of Try.func112 (by kernel_rfl) rfl, fun W x hW => ?_⟩
        have hm := parts_mem.1 x.2
        obtain ⟨q, hq⟩ : ∃ q, x.1 = q + 1 := ⟨x.1 - 1, by omega⟩
        have hrt : (t : Int) - (x.1 : Int) = ((t - x.1 : Nat) : Int) := by omega
        have hW1 := hB1.size
        have hget : (sumsRow xs (t - 1) last)[t - x.1]?.getD 0 = (sumsT xs (t - 1))[t - x.1]?.getD 0 := sumsRow_get (by omega)
        have hbd := sumAt_bound Hv.out (tab := sumsT xs (t - 1)) (t := t) (fun j hj => sumsT_bound Hv.out (t - 1) j (by omega)) (p := x.1) hm.1 (by rw [hM]; omega)
        have hq1 : x.1 - 1 = q := by omega
        have key := sum1_any W w.heap.size (w.heap.size + 1 + 1) B W.heap.size A (some ⟨w.heap.size + 1, 0, none⟩) n c (last + 1) (last + 1) xs (sumsRow xs (t - 1) last) x.1 q (t - x.1) (bxBelow z2 hW z2.lt) (bxBelow z5 hW z5.lt)
          ((hx.below hB1 hB).below hW (by omega)) ((zr.below hW zr.lt).ints (sumsRow_len (by omega)) (by omega)) (by have := hW.size; omega) (Nat.le_refl _) (by omega) hq (by omega) (by omega) (by omega)
          (by rw [hget, ← hq1]; unfold sumAt at hbd; omega)
        rw [hget, ← hrt] at key
        exact key
      refine wpAnyHI_one (i := 7) rfl (by kernel_rfl) ?_
      intro K1 hK1
      go_simp
      refine ⟨trivial, (callsIn_wide.2 (bestCut_any W1 113 _ (fun x : Part 1 M => ((x.1 : Int), (t : Int) - (x.1 : Int))) _ _ _ _ _ _ _ _ _ ltI (enters_of Try.func113 (by kernel_rfl) rfl) hit (by
        rintro k ((rfl | rfl) | rfl)
        · exact hbl.lt
        · exact hbh.lt
        · exact hbt.lt) hval less_fn)).mono ?_⟩
      rintro e W2 ⟨rfl, hb2⟩
      have hS2 : Below wr.heap.size wr.drew W2 := hb1.trans (hb2.mono hz1)
      refine hK1 _ _ ⟨fun _ => hS2, ?_⟩
      clear hK1 K1 hit hval
      have hB2 : Below w.heap.size w W2 := hB1.trans (hb2.mono hB1.size)
      have v2 := bxBelow z2 hb2 z2.lt
      have v5 := bxBelow z5 hb2 z5.lt
      have vr := zr.below hb2 zr.lt
      have hnx : bestV (bestO (fun x : Part 1 M => sumAt xs (sumsT xs (t - 1)) t x.1) ltI (partsS 1 M)) = .int .i64 (nextSum xs (sumsT xs (t - 1)) t) := by
        rw [hMe, ← hM]; rfl
      rw [hnx]
      clear hnx z2 z5 zr hb1 hb2 hS hS1 hS2 hbl hbh hbt d2 d5 c2 c5 y2 y5 yr
      obtain ⟨nx, hnx⟩ : ∃ nx, nx = nextSum xs (sumsT xs (t - 1)) t := ⟨_, rfl⟩
      rw [← hnx]
      have hset := sumsRow_set (xs := xs) (k := t - 1) (last := last) (by omega)
      rw [show t - 1 + 1 = t by omega, ← hnx] at hset
      have Hset := Lib.hid hset
      clear hset hnx
      have k1 := vr.cell (j := t) (by rw [sumsRow_len (by omega)]; omega)
      have k2 := vr.frozen (j := t)
      refine wpAnyHI_takeW (i := 8) (v := .pointer (some ⟨w.heap.size + 1, t, none⟩)) (some 23) rfl rfl (by kernel_rfl) (by kernel_rfl) (by kernel_rfl) (by kernel_rfl) (fun _ _ _ h => h) (.inl ⟨by kernel_rfl, fun W' hS' => ?_⟩) ?_
      · go_simp; intro hx; exfalso; omega
      refine wpAnyHI_one (i := 9) rfl (by kernel_rfl) ?_
      intro K1 hK1
      go_simp
      refine hK1 _ _ ⟨fun h => absurd h (by simp), ?_⟩
      clear hK1 K1
      refine wpAnyHI_end (by kernel_rfl) ?_
      show KR _ _
      go_simp
      have u2 := bxOther v2 (b := w.heap.size + 1) (by omega) t (.int .i64 nx)
      have u5 := bxOther v5 (b := w.heap.size + 1) (by omega) t (.int .i64 nx)
      have ur := vr.set t nx
      have hBu : Below w.heap.size w (W2.setCell ⟨w.heap.size + 1, t, none⟩ (.int .i64 nx)) := hB2.setCell (p := ⟨w.heap.size + 1, t, none⟩) (by show w.heap.size ≤ w.heap.size + 1; omega) _
      rw [Hset.out] at ur
      refine hKR _ _ ?_
      clear k1 k2 v2 v5 vr hB2
      obtain ⟨W3, hW3⟩ : ∃ W3, W3 = W2.setCell ⟨w.heap.size + 1, t, none⟩ (.int .i64 nx) := ⟨_, rfl⟩
      rw [← hW3] at u2 u5 ur hBu ⊢
      clear hW3
      go_wp2_with (fail)
      go_roundw
      case rel => exact ⟨t + 1, ⟨by omega, by omega⟩, by go_num, u2, u5, by rw [show t + 1 - 1 = t by omega]; exact ur, hBu⟩
      case measure => simp [intOf]; omega
end Go.Proofs.Ytlgibckhkdggdaa
