/- Parts of a proof: AA AB. -/
import Derived.Test.YthjgecblkagelaaGreatM7
import Derived.OrdersHeld
import Derived.Maps.OwnIn

/- Regions that draw, inside a fence: a read may be taken first where its cells are kept by all that may come up before it. -/
namespace Go.Proofs.YthjgecblkagelaaGreat
open Go.RowKit Go.Shelf

section
variable {P : Program} {ops : Array Oper} {md : Region.Mode} {m : Nat} {Q : Exit → Act → World → Prop} {S : World → Prop} {needs : Nat → Bool}

def afterAll (md : Region.Mode) (listed : Array Bool) (o : Oper) : Bool := o.after.all fun e => !Region.binds md e || listed.getD e.on false
theorem afterAll_spec {listed : Array Bool} {o : Oper} (h : afterAll md listed o = true) : ∀ e ∈ o.after, Region.binds md e = true → listed.getD e.on false = true := by
  intro e he hb
  unfold afterAll at h
  rw [Array.all_eq_true_iff_forall_mem] at h
  have := h e he
  simpa [hb] using this
def Closed (md : Region.Mode) (ops : Array Oper) (listed : Array Bool) : Prop := ∀ j o, ops[j]? = some o → listed.getD j false = true → ∀ e ∈ o.after, Region.binds md e = true → listed.getD e.on false = true
def closedB (md : Region.Mode) (ops : Array Oper) (listed : Array Bool) : Bool := (List.range ops.size).all fun j => !listed.getD j false || match ops[j]? with | none => true | some o => afterAll md listed o
theorem closedB_spec {listed : Array Bool} (h : closedB md ops listed = true) : Closed md ops listed := by
  intro j o ho hl
  unfold closedB at h
  rw [List.all_eq_true] at h
  have hj := h j (List.mem_range.2 (Array.getElem?_eq_some_iff.1 ho).1)
  rw [ho, hl] at hj
  exact afterAll_spec (by simpa using hj)
theorem Closed.step {listed : Array Bool} (h : Closed md ops listed) {j : Nat} (hj : j ∈ Region.ready md ops listed) : Closed md ops (listed.setIfInBounds j true) := by
  obtain ⟨-, o, ho, hall⟩ := mem_ready.1 hj
  intro k ok hok hl e he hb
  by_cases hjk : j = k
  · subst hjk
    rw [ho] at hok
    cases hok
    exact getD_set_true (hall e he hb)
  · rw [getD_set_ne false hjk] at hl
    exact getD_set_true (h k ok hok hl e he hb)

def waitsB (md : Region.Mode) (ops : Array Oper) : Nat → Nat → Nat → Bool
  | 0, _, _ => false
  | f + 1, j, i => match ops[j]? with | none => false | some o => o.after.any fun e => Region.binds md e && (decide (e.on = i) || waitsB md ops f e.on i)
theorem waitsB_spec {listed : Array Bool} (hc : Closed md ops listed) {i : Nat} : ∀ (f j : Nat) (_ : ∀ o, ops[j]? = some o → ∀ e ∈ o.after, Region.binds md e = true → listed.getD e.on false = true), waitsB md ops f j i = true → listed.getD i false = true
  | 0, _, _, h => by cases h
  | f + 1, j, hj, h => by
    unfold waitsB at h
    split at h
    · cases h
    · rename_i o ho
      obtain ⟨k, hk, h⟩ := Array.any_eq_true.1 h
      have he : o.after[k] ∈ o.after := Array.getElem_mem hk
      generalize o.after[k] = e at h he
      rw [Bool.and_eq_true, Bool.or_eq_true] at h
      have hl := hj o ho e he h.1
      rcases h.2 with h2 | h2
      · rw [← of_decide_eq_true h2]; exact hl
      · exact waitsB_spec hc f e.on (fun o' ho' => hc e.on o' ho' hl) h2

theorem yieldsIf_wpOpIn {i : Nat} {o : Oper} {v : Value} {a : Act} (hi : ops[i]? = some o) (hy : YieldsIf P ops S o v a) {K : Act → World → Prop} {w : World} (hS : S w) (h : K (a.put o.dst v) w) : wpOpIn Fence.wide m P ops Q i K a w := by
  unfold Go.wpOpIn
  simp only [hi]
  rcases hy with ⟨hw, hv⟩ | ⟨hw, rfl⟩
  · simp only [hw, if_true]
    unfold Oper.wpIn
    refine ⟨fun _ _ => trivial, ?_⟩
    rw [show Fence.wide.round = none from rfl, Oper.semAt_none, hv w hS]
    exact h
  · simp only [hw]
    exact ⟨fun _ _ => trivial, h⟩

theorem wpOpIn_putIf {j : Nat} {oi oj : Oper} {v : Value} (hj : ops[j]? = some oj) (hap : oi.apart ops oj = true)
    (hsi : ∀ cs b, oi.op ≠ .select cs b) (hsj : ∀ cs b, oj.op ≠ .select cs b)
    (hQ : ∀ c a w, Q (.panic c) (a.put oi.dst v) w → Q (.panic c) a w) {K : Act → World → Prop} {a : Act} {w : World}
    (hy : YieldsIf P ops S oi v a) (h : wpOpIn Fence.wide m P ops Q j K (a.put oi.dst v) w) :
    wpOpIn Fence.wide m P ops Q j (fun a' w' => YieldsIf P ops S oi v a' ∧ K (a'.put oi.dst v) w') a w := by
  obtain ⟨h1, h2, h3⟩ := Oper.apart_spec hap
  have keep : ∀ (a : Act), YieldsIf P ops S oi v a → ∀ u, YieldsIf P ops S oi v (a.put oj.dst u) := fun a hy u =>
    hy.of_same (execOp_put oi hsi a oj.dst u h3) (wanted_put oi a oj.dst u h3)
  have keepD : ∀ d, YieldsIf P ops S oi v { a with defers := d :: a.defers } := fun d => hy.of_same rfl rfl
  have hro : Fence.wide.round = none := rfl
  unfold wpOpIn at *
  simp only [hj] at *
  rw [wanted_put oj a oi.dst v h1] at h
  split
  · rename_i hw
    simp only [hw, if_true] at h
    unfold Oper.wpIn at *
    refine ⟨fun _ _ => trivial, ?_⟩
    have h := h.2
    rw [hro, Oper.semAt_none, execOp_put oj hsj a oi.dst v h1] at h
    rw [hro, Oper.semAt_none]
    generalize (execOp a.eval oj).run P w = r at *
    cases r with
    | ok x w' =>
      cases x <;> simp only [Oper.uponIn] at h ⊢
      case value u => exact ⟨keep a hy u, by rw [← Act.put_comm a v u h2]; exact h⟩
      case skip => exact ⟨keep a hy _, by rw [← Act.put_comm a v undef h2]; exact h⟩
      case defer d =>
        refine ⟨keep _ (keepD d) _, ?_⟩
        rw [← Act.put_comm _ v undef h2, ← Act.put_defers]
        exact h
      case enter f args =>
        refine ⟨h.1, CallsIn.mono h.2 fun e w'' he => ?_⟩
        cases e with
        | returned u => exact ⟨keep a hy u, by rw [← Act.put_comm a v u h2]; exact he⟩
        | panicked c => exact hQ _ _ _ he
        | outgrown => exact he
      case row row args => exact ⟨h.1, RowsIn.mono h.2 fun u w'' he => ⟨keep a hy u, by rw [← Act.put_comm a v u h2]; exact he⟩⟩
      case round l f tmps assign body =>
        refine ⟨h.1, RoundIn.mono h.2 fun e w'' he => ?_⟩
        cases e with
        | returned u => exact ⟨keep a hy u, by rw [← Act.put_comm a v u h2]; exact he⟩
        | panicked c => exact hQ _ _ _ he
        | outgrown => exact he
    | halt x w' =>
      cases x <;> simp only [Oper.uponIn] at h ⊢
      case panic u => exact hQ _ _ _ h
  · rename_i hw
    simp only [hw] at h
    exact ⟨fun _ _ => trivial, keep a hy _, by rw [← Act.put_comm a v undef h2]; exact h.2⟩

/-- Whatever order is picked from here on, and S holds behind each operation that 'needs' names. -/
def wpAnyHI (m : Nat) (P : Program) (md : Region.Mode) (ops : Array Oper) (Q : Exit → Act → World → Prop) (S : World → Prop) (needs : Nat → Bool) : Nat → Array Bool → Act → World → Prop
  | 0, listed, a, w => Region.ready md ops listed = [] ∧ Q .normal a w
  | fuel + 1, listed, a, w =>
    (Region.ready md ops listed = [] → Q .normal a w) ∧
    ∀ i ∈ Region.ready md ops listed, wpOpIn Fence.wide m P ops Q i (fun a' w' => (needs i = true → S w') ∧ wpAnyHI m P md ops Q S needs fuel (listed.setIfInBounds i true) a' w') a w

theorem wpAnyIn_of_held : ∀ (fuel : Nat) (listed : Array Bool) (a : Act) (w : World), wpAnyHI m P md ops Q S needs fuel listed a w → wpAnyIn Fence.wide m P md ops Q fuel listed a w
  | 0, _, _, _, h => h
  | fuel + 1, _, _, _, h => ⟨h.1, fun i hi => wpOpIn_mono (fun a' w' h' => wpAnyIn_of_held fuel _ a' w' h'.2) (h.2 i hi)⟩

theorem wpAnyHI_first {i : Nat} {oi : Oper} {v : Value} (hi : ops[i]? = some oi) (hsel : ∀ (j : Nat) (o : Oper) cs b, ops[j]? = some o → o.op ≠ .select cs b)
    (hQ : ∀ c a w, Q (.panic c) (a.put oi.dst v) w → Q (.panic c) a w) (hneeds : ∀ j, j < ops.size → needs j = true ∨ j = i ∨ waitsB md ops ops.size j i = true) :
    ∀ (fuel : Nat) (listed : Array Bool) (a : Act) (w : World), Closed md ops listed →
      (∀ j oj, ops[j]? = some oj → j ≠ i → listed.getD j true = false → (∀ e ∈ oj.after, Region.binds md e = true → e.on ≠ i) → oi.apart ops oj = true) →
      i ∈ Region.ready md ops listed → YieldsIf P ops S oi v a → S w →
      wpAnyHI m P md ops Q S needs fuel (listed.setIfInBounds i true) (a.put oi.dst v) w → wpAnyHI m P md ops Q S needs (fuel + 1) listed a w := by
  intro fuel
  induction fuel with
  | zero =>
    intro listed a w hc _ hr hy hS H
    refine ⟨fun h => (by rw [h] at hr; cases hr), fun j hj => ?_⟩
    by_cases hji : j = i
    · subst hji; exact yieldsIf_wpOpIn hi hy hS ⟨fun _ => hS, H⟩
    · have := ready_mono hj hji
      rw [H.1] at this
      cases this
  | succ fuel ih =>
    intro listed a w hc hfree hr hy hS H
    refine ⟨fun h => (by rw [h] at hr; cases hr), fun j hj => ?_⟩
    by_cases hji : j = i
    · subst hji; exact yieldsIf_wpOpIn hi hy hS ⟨fun _ => hS, H⟩
    · have h1 := H.2 j (ready_mono hj hji)
      obtain ⟨hjun, oj, hoj, hall⟩ := mem_ready.1 hj
      have hi0 : listed.getD i false = false := by
        have h0 := (mem_ready.1 hr).1
        rcases Nat.lt_or_ge i listed.size with h' | h'
        · simp [h'] at h0 ⊢; exact h0
        · simp [Array.getElem?_eq_none h']
      have hnot : ∀ e ∈ oj.after, Region.binds md e = true → e.on ≠ i := fun e he hb heq => by
        have h1 := hall e he hb
        rw [heq, hi0] at h1
        cases h1
      have hnj : needs j = true := by
        rcases hneeds j (Array.getElem?_eq_some_iff.1 hoj).1 with h | h | h
        · exact h
        · exact absurd h hji
        · have := waitsB_spec hc _ j (fun o ho => by rw [hoj] at ho; cases ho; exact hall) h
          rw [hi0] at this
          cases this
      have h2 := wpOpIn_putIf hoj (hfree j oj hoj hji hjun hnot) (fun cs b => hsel i oi cs b hi) (fun cs b => hsel j oj cs b hoj) hQ hy h1
      have hfree' : ∀ k ok, ops[k]? = some ok → k ≠ i → (listed.setIfInBounds j true).getD k true = false →
          (∀ e ∈ ok.after, Region.binds md e = true → e.on ≠ i) → oi.apart ops ok = true := fun k ok hk hki hun hno => by
        refine hfree k ok hk hki ?_ hno
        by_cases hjk : j = k
        · subst hjk; exact hjun
        · rw [getD_set_ne true hjk] at hun; exact hun
      refine wpOpIn_mono (fun a' w' h3 => ⟨fun _ => h3.2.1 hnj, ih (listed.setIfInBounds j true) a' w' (hc.step hj) hfree' (ready_mono hr (Ne.symm hji)) h3.1 (h3.2.1 hnj) ?_⟩) h2
      rw [Array.setIfInBounds_comm _ _ hji]
      exact h3.2.2

theorem wpAnyHI_take {i : Nat} {oi : Oper} {v : Value} {fuel : Nat} {listed : Array Bool} {a : Act} {w : World} (hi : ops[i]? = some oi)
    (hs : Region.noSelect ops = true) (hf : Region.free md ops listed i = true) (hr : (Region.ready md ops listed).contains i = true) (hcl : closedB md ops listed = true)
    (hn : ((List.range ops.size).all fun j => needs j || decide (j = i) || waitsB md ops ops.size j i) = true)
    (hQ : ∀ c a w, Q (.panic c) (a.put oi.dst v) w → Q (.panic c) a w) (hS : S w) (hy : YieldsIf P ops S oi v a)
    (h : wpAnyHI m P md ops Q S needs fuel (listed.setIfInBounds i true) (a.put oi.dst v) w) : wpAnyHI m P md ops Q S needs (fuel + 1) listed a w :=
  wpAnyHI_first hi (Region.noSelect_spec hs) hQ (fun j hj => by
    have := (List.all_eq_true.1 hn) j (List.mem_range.2 hj)
    rw [Bool.or_eq_true, Bool.or_eq_true] at this
    rcases this with (h | h) | h
    · exact .inl h
    · exact .inr (.inl (of_decide_eq_true h))
    · exact .inr (.inr h)) fuel listed a w (closedB_spec hcl) (Region.free_spec hi hf) (by simpa using hr) hy hS h

/-- One operation alone may come up. -/
theorem wpAnyHI_one {i : Nat} {o : Oper} {fuel : Nat} {listed : Array Bool} {a : Act} {w : World} (ho : ops[i]? = some o) (hr : decide (Region.ready md ops listed = [i]) = true)
    (h : ∀ K' : Act → World → Prop, (∀ a' w', ((needs i = true → S w') ∧ wpAnyHI m P md ops Q S needs fuel (listed.setIfInBounds i true) a' w') → K' a' w') →
      if Region.wanted o (yielded ops a.tmps) = true then Oper.wpIn Fence.wide m P o a w K' Q else (∀ f, o.about P w a.eval = some f → Fence.wide.fn f) ∧ K' (a.put o.dst undef) w) : wpAnyHI m P md ops Q S needs (fuel + 1) listed a w := by
  have hr := of_decide_eq_true hr
  refine ⟨fun h0 => (by rw [hr] at h0; cases h0), fun j hj => ?_⟩
  rw [hr] at hj
  have hji : j = i := by simpa using hj
  subst hji
  exact wpOpIn_step ho h

/-- Where nothing is wanted any more. -/
theorem wpAnyHI_of_any : ∀ (fuel : Nat) (listed : Array Bool) (a : Act) (w : World), (∀ j, j < ops.size → listed.getD j true = false → needs j = false) → wpAnyIn Fence.wide m P md ops Q fuel listed a w → wpAnyHI m P md ops Q S needs fuel listed a w
  | 0, _, _, _, _, h => h
  | fuel + 1, listed, _, _, hn, h => by
    refine ⟨h.1, fun i hi => wpOpIn_mono (fun a' w' h' => ⟨fun hni => ?_, wpAnyHI_of_any fuel _ a' w' (fun j hj hl => hn j hj ?_) h'⟩) (h.2 i hi)⟩
    · obtain ⟨h0, o, ho, -⟩ := mem_ready.1 hi
      rw [hn i (Array.getElem?_eq_some_iff.1 ho).1 h0] at hni
      cases hni
    · by_cases hij : i = j
      · subst hij; exact (mem_ready.1 hi).1
      · rw [getD_set_ne true hij] at hl; exact hl

/-- The tail, a chain, as a list. -/
theorem wpAnyHI_tail {fuel k : Nat} {l : List Oper} {listed : Array Bool} {a : Act} {w : World} (hl : l = ops.toList.drop k) (hf : fuel = l.length) (hB : Region.seqB md ops l.length k listed = true)
    (hn : ((List.range ops.size).all fun j => listed.getD j true || !needs j) = true) (h : wpListIn Fence.wide m P ops Q l a w) : wpAnyHI m P md ops Q S needs fuel listed a w := by
  subst hf
  refine wpAnyHI_of_any _ _ _ _ (fun j hj h0 => ?_) (wpAnyIn_of_seq l k listed a w (fun j => ?_) hB h)
  · have := (List.all_eq_true.1 hn) j (List.mem_range.2 hj)
    rw [h0] at this
    simpa using this
  · rw [hl, List.getElem?_drop]
    simp
theorem region_held {id : Nat} {a : Act} {w : World} (S : World → Prop) (needs : Nat → Bool) (hm : P.follows .mixedOrders = true)
    (h : ∀ K : Act → World → Prop, (∀ a w, Q .normal a w → K a w) → wpAnyHI m P .any ops (Exit.then K (fun _ _ _ => False)) S needs ops.size (Array.replicate ops.size false) a w.drew) : (Code.region id ops true).wpIn Fence.wide m P Q a w :=
  wpIn_mono (wpIn_region_any hm (wpAnyIn_of_held _ _ _ _ (h (Q .normal) fun _ _ h => h))) (fun e a' w' hq => by
    cases e with
    | normal => exact hq
    | exit id => exact hq.elim
    | goto l => exact hq.elim
    | ret => exact hq.elim
    | panic ch => exact hq.elim
    | outgrown => exact hq.elim)
end

section
variable {P : Program}
theorem ownsRow_slice {w : World} {base : Nat} {e : TypeId} {size : Nat} {v : Value} {n : Nat} {xs : List Value} (h : w.ownsRow base e size v n xs) : ∃ A c, v = .slice A n c ∧ n ≤ c := by
  rcases h.2 with ⟨rfl, rfl⟩ | ⟨g, cap, cur, rfl, -, -, hle, -⟩
  · exact ⟨none, 0, rfl, Nat.le_refl _⟩
  · exact ⟨_, cap, rfl, hle⟩
theorem run_append_none (w : World) (t ty e : TypeId) (i : TypeInfo) (ht : P.underlying t = some (.slice e)) (hi : P.info? e = some i) (A : Option Addr) (n c : Nat) (hle : n ≤ c) :
    (Builtin.append_ #[t, t] ty #[.slice A n c, .slice none 0 0]).run P w = .ok (.slice A n c) w := by
  have hl : ∀ w, (Builtin.lenOf (.slice none 0 0)).run P w = .ok 0 w := fun w => by simp [Builtin.lenOf]
  have hf : ∀ w, (Builtin.firstCells i.size 0 (.slice none 0 0)).run P w = .ok #[] w := fun w => by simp [Builtin.firstCells]
  cases A <;> simp [Builtin.append_, run_underlying ht, sizeOf, typeInfo, hi, hle, storeCells, hl, hf]
/-- Two rows, one behind the other: the second may be nil. -/
theorem wpListIn_append_two {F : Fence} {nF : Nat} {w : World} {ops : Array Oper} {rest : List Oper} {o : Oper} {a : Act} {Q : Exit → Act → World → Prop} (hgd : o.guard = none) (s x : Operand) (t : TypeId)
    (ho : o.op = .call { callee := .builtin .append, args := #[s, x], argTypes := #[t, t] })
    (base : Nat) (e : TypeId) (i : TypeInfo) (z : Value) (size bytes : Nat) (ht : P.underlying t = some (.slice e)) (hi : P.info? e = some i) (hz : i.zero = some z)
    (hsize : i.size = size) (hby : i.bytes = bytes) (hzs : z.cells.size = size) (hsz : 0 < size)
    (v : Value) (n : Nat) (xs : List Value) (hs : a.eval s = v) (hown : w.ownsRow base e size v n xs)
    (base2 : Nat) (v2 : Value) (m : Nat) (ys : List Value) (hx : a.eval x = v2) (hown2 : w.ownsRow base2 e size v2 m ys) (h1 : ∀ u ∈ ys, u.oneCell' = true)
    (h63 : n + m ≤ maxLen) (hbytes : (n + m) * bytes ≤ 140737488355328) (hbase : base ≤ w.heap.size)
    (h : ∀ v' w', w'.ownsRow base e size v' (n + m) (xs ++ ys) → w.grownBy w' v.ownBlock → (v'.ownBlock = v.ownBlock ∨ v'.ownBlock = some w.heap.size) → wpListIn F nF P ops Q rest (a.put o.dst v') w') :
    wpListIn F nF P ops Q (o :: rest) a w := by
  rcases hown2.2 with ⟨rfl, rfl⟩ | ⟨g, cap, cur, rfl, -⟩
  · obtain rfl : ys = [] := List.eq_nil_of_length_eq_zero (by rw [hown2.1]; simp)
    obtain ⟨A, c, rfl, hle⟩ := ownsRow_slice hown
    refine wpListIn_plain hgd fun K hK => ?_
    unfold Oper.wpIn
    refine ⟨by simp [Oper.about, ho, resolve, Target.leads, Sem.run_pure], ?_⟩
    rw [Oper.semAt_plain F _ _ (by rw [ho]; intro c hc'; cases hc')]
    simp [execOp, ho, resolve, invoke, builtin, hs, hx, run_append_none w t o.type e i ht hi A n c hle, Result.andThen]
    exact hK _ _ (h _ _ (by simpa using hown) (World.grownBy.refl _ _) (.inl rfl))
  · exact wpListIn_append_own_at w hgd s x t ho base e i z size bytes ht hi hz hsize hby hzs hsz v n xs hs hown ⟨g, 0, none⟩ m cap ys hx hown2.1 (hown2.cells rfl) h1 h63 hbytes hbase (fun v' w' h2 h3 _ h5 => h v' w' h2 h3 h5)
theorem flat_get : ∀ (ps : List Pl) (k : Nat) (p : Pl), ps[k]? = some p → ∀ i u, (plc p).toList[i]? = some u → (flat ps)[k * 6 + i]? = some u
  | [], k, p, h, _, _, _ => by simp at h
  | q :: ps, 0, p, h, i, u, hu => by
    simp only [List.getElem?_cons_zero, Option.some.injEq] at h
    subst h
    have hi : i < (plc q).toList.length := (List.getElem?_eq_some_iff.1 hu).1
    simp only [flat, List.flatMap_cons]
    rw [List.getElem?_append_left (by simpa using hi)]
    simpa using hu
  | q :: ps, k + 1, p, h, i, u, hu => by
    have ih := flat_get ps k p (by simpa using h) i u hu
    simp only [flat, List.flatMap_cons] at ih ⊢
    rw [List.getElem?_append_right (by simp; omega)]
    rw [show (k + 1) * 6 + i - (plc q).toList.length = k * 6 + i by simp; omega]
    exact ih
/-- The cells of a place in a row of places. -/
theorem row_place {w : World} {base : Nat} {e : TypeId} {g cap n : Nat} {ps : List Pl} (h : w.ownsRow base e 6 (.slice (some ⟨g, 0, none⟩) n cap) n (flat ps)) {k : Nat} {p : Pl} (hk : ps[k]? = some p) :
    w.cell? ⟨g, k * 6, none⟩ = some (.int .i64 p.n) ∧ w.cell? ⟨g, k * 6 + 1, none⟩ = some (.int .i64 p.a) ∧ w.cell? ⟨g, k * 6 + 2, none⟩ = some (.int .i64 p.b) ∧ w.cell? ⟨g, k * 6 + 3, none⟩ = some (.int .i64 p.c) ∧
      w.cell? ⟨g, k * 6 + 4, none⟩ = some (.int .i64 p.d) ∧ w.cell? ⟨g, k * 6 + 5, none⟩ = some (.int .i64 p.e) := by
  have H : ∀ i u, (plc p).toList[i]? = some u → w.cell? ⟨g, k * 6 + i, none⟩ = some u := by
    intro i u hu
    have := h.cells (g := g) rfl (k * 6 + i) u (flat_get ps k p hk i u hu)
    have ha : (⟨g, 0, none⟩ : Addr).add (k * 6 + i) = ⟨g, k * 6 + i, none⟩ := by simp [Addr.add]; omega
    rwa [ha] at this
  exact ⟨H 0 _ rfl, H 1 _ rfl, H 2 _ rfl, H 3 _ rfl, H 4 _ rfl, H 5 _ rfl⟩
end
end Go.Proofs.YthjgecblkagelaaGreat

/- The table as a function of the threads: what tableOf computes, step by step. -/
namespace Go.Proofs.YthjgecblkagelaaGreat
open Go.RowKit Go.Shelf

theorem VBd.nil (K : Int) : VBd K [] := fun e he => by cases he
theorem condStep_vbd {K : Int} (hK : 0 ≤ K) {p : Pl} {s : CSt} {x : Pl} (h1 : VBd K s.1) (h2 : VBd K s.2.1) : VBd (K + 1) (condStep p s x).1 ∧ VBd (K + 1) (condStep p s x).2.1 := by
  have b1 := VBd.mget hK x h1
  have b2 := VBd.mget hK p h2
  unfold condStep
  split
  · exact ⟨VBd.mdel x (VBd.mset (by omega) x (h1.mono (by omega))), VBd.mset (by omega) x (h2.mono (by omega))⟩
  · exact ⟨VBd.mset (by omega) x (h1.mono (by omega)), h2.mono (by omega)⟩
theorem condL_vbd : ∀ (l : List Pl) {K : Int} (_ : 0 ≤ K) {p : Pl} {s : CSt} (_ : VBd K s.1) (_ : VBd K s.2.1), VBd (K + l.length) (condL p s l).1 ∧ VBd (K + l.length) (condL p s l).2.1
  | [], K, _, p, s, h1, h2 => ⟨h1.mono (by simp), h2.mono (by simp)⟩
  | x :: l, K, hK, p, s, h1, h2 => by
    obtain ⟨c1, c2⟩ := condStep_vbd hK (p := p) (x := x) h1 h2
    obtain ⟨d1, d2⟩ := condL_vbd l (K := K + 1) (by omega) (p := p) c1 c2
    have e : condL p s (x :: l) = condL p (condStep p s x) l := rfl
    rw [e]
    exact ⟨d1.mono (by simp; omega), d2.mono (by simp; omega)⟩
theorem condStep_out {p : Pl} {s : CSt} {x y : Pl} (h : y ∈ (condStep p s x).2.2) : y ∈ s.2.2 ∨ y = x := by
  unfold condStep at h
  split at h
  · simpa using h
  · exact .inl h
theorem condL_out : ∀ (l : List Pl) {p : Pl} {s : CSt} {y : Pl}, y ∈ (condL p s l).2.2 → y ∈ s.2.2 ∨ y ∈ l
  | [], _, _, _, h => .inl h
  | x :: l, p, s, y, h => by
    rcases condL_out l (p := p) (s := condStep p s x) h with h | h
    · rcases condStep_out h with h | h
      · exact .inl h
      · exact .inr (by simp [h])
    · exact .inr (by simp [h])

theorem Pl.set_n (p : Pl) (i : Nat) (x : Int) : (p.set i x).n = p.n := by
  match i with
  | 0 => rfl
  | 1 => rfl
  | 2 => rfl
  | 3 => rfl
  | 4 => rfl
  | i + 5 => rfl
theorem unpullL_ok {v : Nat} {p : Pl} : ∀ (k : Nat) (q : Pl), k ≤ 5 → unpullL v (List.range k) p = some q → q.n = p.n ∧ ∀ i, i < 5 → (i < k ∧ i ≠ v → p.get i ≠ 0 ∧ q.get i = p.get i - 1) ∧ (¬ (i < k ∧ i ≠ v) → q.get i = p.get i)
  | 0, q, _, h => by
    have h' : p = q := by simpa [unpullL] using h
    subst h'
    exact ⟨rfl, fun i hi => ⟨fun h => by omega, fun _ => rfl⟩⟩
  | k + 1, q, hk, h => by
    rw [unpullL_succ] at h
    cases hq : unpullL v (List.range k) p with
    | none => rw [hq] at h; cases h
    | some r =>
      rw [hq] at h
      obtain ⟨r1, r2⟩ := unpullL_ok k r (by omega) hq
      by_cases hkv : k = v
      · subst hkv
        by_cases h0 : r.get k = 0
        · rw [us_same h0] at h
          cases h
          exact ⟨r1, fun i hi => ⟨fun h => (r2 i hi).1 (by omega), fun h => (r2 i hi).2 (by omega)⟩⟩
        · rw [us_stop h0] at h; cases h
      · by_cases h0 : r.get k = 0
        · rw [us_stop2 hkv h0] at h; cases h
        · rw [us_step hkv h0] at h
          cases h
          have hrk := (r2 k (by omega)).2 (by omega)
          refine ⟨by rw [Pl.set_n]; exact r1, fun i hi => ?_⟩
          rw [Pl.get_set _ _ _ _ (by omega)]
          by_cases hik : i = k
          · subst hik
            rw [if_pos rfl]
            refine ⟨fun _ => ?_, fun h => by omega⟩
            rw [← hrk]
            exact ⟨h0, rfl⟩
          · rw [if_neg hik]
            exact ⟨fun h => (r2 i hi).1 (by omega), fun h => (r2 i hi).2 (by omega)⟩
def PlGood (ts : List Int) (p : Pl) : Prop := PlOk ts p ∧ p.n = ts.length
theorem beforeF_good {ts : List Int} {p x : Pl} (hp : PlGood ts p) (h5 : ts.length ≤ 5) (h : x ∈ beforeF ts p) : PlGood ts x := by
  obtain ⟨hp, hn⟩ := hp
  unfold beforeF at h
  obtain ⟨v, hv, h⟩ := List.mem_flatMap.1 h
  have hv := List.mem_range.1 hv
  unfold beforeL at h
  cases hq : unpullF p v with
  | none => rw [hq] at h; cases h
  | some q =>
    rw [hq] at h
    obtain ⟨k, hk, rfl⟩ := List.mem_map.1 h
    have hk := List.mem_range.1 hk
    unfold unpullF at hq
    rw [hn] at hq
    obtain ⟨q1, q2⟩ := unpullL_ok _ q (by simpa using h5) hq
    refine ⟨fun i hi => ?_, by rw [Pl.set_n, q1, hn]⟩
    have hpi := hp i hi
    rw [Pl.get_set _ _ _ _ (by omega)]
    by_cases hiv : i = v
    · subst hiv
      rw [if_pos rfl]
      omega
    · rw [if_neg hiv]
      obtain ⟨h1, h2⟩ := (q2 i (by omega)).1 ⟨by simpa using hi, hiv⟩
      omega
theorem beforeF_len {ts : List Int} {p : Pl} (h5 : ts.length ≤ 5) (h12 : ∀ i, i < ts.length → ts[i]?.getD 0 ≤ 12) : (beforeF ts p).length ≤ 60 := by
  have : ∀ k, k ≤ ts.length → ((List.range k).flatMap (beforeL ts p)).length ≤ 12 * k := by
    intro k
    induction k with
    | zero => simp
    | succ k ih =>
      intro hk
      have h1 := ih (by omega)
      have h2 := beforeL_len (p := p) (h12 k (by omega))
      rw [List.range_succ, List.flatMap_append, List.length_append]
      rw [List.flatMap_cons, List.flatMap_nil, List.append_nil]
      omega
  have := this ts.length (Nat.le_refl _)
  unfold beforeF
  omega

def tabStep (ts : List Int) (s : CSt) (p : Pl) : CSt := match pullF ts allF p with | some _ => (mset p (ts.length : Int) s.1, s.2.1, s.2.2) | none => (s.1, mset p 0 s.2.1, s.2.2 ++ [p])
def tabL (ts : List Int) (l : List Pl) : CSt := l.foldl (tabStep ts) ([], [], [])
theorem tabL_snoc (ts : List Int) (l : List Pl) (x : Pl) : tabL ts (l ++ [x]) = tabStep ts (tabL ts l) x := by simp [tabL]
theorem tabStep_some {ts : List Int} {s : CSt} {p q : Pl} (h : pullF ts allF p = some q) : tabStep ts s p = (mset p (ts.length : Int) s.1, s.2.1, s.2.2) := by unfold tabStep; rw [h]
theorem tabStep_none {ts : List Int} {s : CSt} {p : Pl} (h : pullF ts allF p = none) : tabStep ts s p = (s.1, mset p 0 s.2.1, s.2.2 ++ [p]) := by unfold tabStep; rw [h]
def tab0 (ts : List Int) : CSt := tabL ts ((statesL ts).map plOf)
def tabMore (ts : List Int) (s : CSt) (p : Pl) : CSt := ((condL p (s.1, s.2.1, []) (beforeF ts p)).1, (condL p (s.1, s.2.1, []) (beforeF ts p)).2.1, s.2.2 ++ (condL p (s.1, s.2.1, []) (beforeF ts p)).2.2)
/-- The table when so many doomed states have been taken off. -/
def tabN (ts : List Int) : Nat → CSt
  | 0 => tab0 ts
  | k + 1 => match (tabN ts k).2.2[k]? with | none => tabN ts k | some p => tabMore ts (tabN ts k) p
theorem tabN_none {ts : List Int} {k : Nat} (h : (tabN ts k).2.2.length ≤ k) : tabN ts (k + 1) = tabN ts k := by
  rw [tabN, List.getElem?_eq_none h]
theorem tabN_some {ts : List Int} {k : Nat} {p : Pl} (h : (tabN ts k).2.2[k]? = some p) : tabN ts (k + 1) = tabMore ts (tabN ts k) p := by
  rw [tabN, h]
theorem tabN_end {ts : List Int} {N : Nat} (h : (tabN ts N).2.2.length ≤ N) : ∀ k, N ≤ k → tabN ts k = tabN ts N := by
  intro k hk
  induction k with
  | zero =>
    obtain rfl : N = 0 := by omega
    rfl
  | succ k ih =>
    by_cases hkN : N = k + 1
    · rw [hkN]
    · have e := ih (by omega)
      rw [tabN_none (by rw [e]; omega), e]
/-- What holds all along. -/
structure TabOk (ts : List Int) (k : Nat) (s : CSt) : Prop where
  safe : VBd (5 + 60 * k) s.1
  lasts : VBd (5 + 60 * k) s.2.1
  good : ∀ p ∈ s.2.2, PlGood ts p
  len : s.2.2.length ≤ 1000 + 60 * k
theorem condL_len' (p : Pl) : ∀ (l : List Pl) (s : CSt), (condL p s l).2.2.length ≤ s.2.2.length + l.length
  | [], _ => by simp [condL]
  | x :: l, s => by
    have ih := condL_len' p l (condStep p s x)
    have e : condL p s (x :: l) = condL p (condStep p s x) l := rfl
    have h1 : (condStep p s x).2.2.length ≤ s.2.2.length + 1 := by unfold condStep; split <;> simp
    rw [e]
    simp
    omega
theorem tab0_ok {ts : List Int} (h5 : ts.length ≤ 5) (hs : (statesL ts).length ≤ 1000) (h0 : ∀ i, i < ts.length → 0 ≤ ts[i]?.getD 0) : TabOk ts 0 (tab0 ts) := by
  have H : ∀ (l : List Pl), (∀ x ∈ l, PlGood ts x) → ∀ s : CSt, VBd 5 s.1 → VBd 5 s.2.1 → (∀ p ∈ s.2.2, PlGood ts p) →
      VBd 5 (l.foldl (tabStep ts) s).1 ∧ VBd 5 (l.foldl (tabStep ts) s).2.1 ∧ (∀ p ∈ (l.foldl (tabStep ts) s).2.2, PlGood ts p) ∧ (l.foldl (tabStep ts) s).2.2.length ≤ s.2.2.length + l.length := by
    intro l
    induction l with
    | nil => exact fun _ s h1 h2 h3 => ⟨h1, h2, h3, by simp⟩
    | cons x l ih =>
      intro hl s h1 h2 h3
      have hx := hl x (by simp)
      have hs' : VBd 5 (tabStep ts s x).1 ∧ VBd 5 (tabStep ts s x).2.1 ∧ (∀ p ∈ (tabStep ts s x).2.2, PlGood ts p) ∧ (tabStep ts s x).2.2.length ≤ s.2.2.length + 1 := by
        unfold tabStep
        split
        · exact ⟨VBd.mset (by omega) x h1, h2, h3, by simp⟩
        · refine ⟨h1, VBd.mset (by omega) x h2, fun p hp => ?_, by simp⟩
          simp at hp
          rcases hp with hp | rfl
          · exact h3 p hp
          · exact hx
      obtain ⟨a1, a2, a3, a4⟩ := hs'
      obtain ⟨b1, b2, b3, b4⟩ := ih (fun y hy => hl y (by simp [hy])) _ a1 a2 a3
      exact ⟨b1, b2, b3, by simp only [List.foldl_cons, List.length_cons]; omega⟩
  obtain ⟨h1, h2, h3, h4⟩ := H ((statesL ts).map plOf) (fun x hx => by
    obtain ⟨d, hd, rfl⟩ := List.mem_map.1 hx
    exact ⟨plOf_ok hd h5 h0, by simp [plOf, (states_mem hd).1]⟩) ([], [], []) (VBd.nil _) (VBd.nil _) (fun p hp => by cases hp)
  refine ⟨by simpa [tab0, tabL] using h1, by simpa [tab0, tabL] using h2, h3, ?_⟩
  simp at h4
  simp only [tab0, tabL]
  omega
theorem tabMore_ok {ts : List Int} (h5 : ts.length ≤ 5) (h12 : ∀ i, i < ts.length → ts[i]?.getD 0 ≤ 12) {k : Nat} {s : CSt} (h : TabOk ts k s) {p : Pl} (hp : PlGood ts p) : TabOk ts (k + 1) (tabMore ts s p) := by
  have hl := beforeF_len (p := p) h5 h12
  obtain ⟨c1, c2⟩ := condL_vbd (beforeF ts p) (K := 5 + 60 * k) (by omega) (p := p) (s := (s.1, s.2.1, [])) h.safe h.lasts
  have h3 := condL_len' p (beforeF ts p) (s.1, s.2.1, [])
  refine ⟨c1.mono (by push_cast; omega), c2.mono (by push_cast; omega), fun q hq => ?_, ?_⟩
  · simp only [tabMore, List.mem_append] at hq
    rcases hq with hq | hq
    · exact h.good q hq
    · rcases condL_out _ hq with h' | h'
      · cases h'
      · exact beforeF_good hp h5 h'
  · have := h.len
    simp only [tabMore, List.length_append]
    simp at h3
    omega
theorem tabN_ok {ts : List Int} (h5 : ts.length ≤ 5) (hs : (statesL ts).length ≤ 1000) (h12 : ∀ i, i < ts.length → 1 ≤ ts[i]?.getD 0 ∧ ts[i]?.getD 0 ≤ 12) : ∀ k, TabOk ts k (tabN ts k)
  | 0 => tab0_ok h5 hs (fun i hi => by have := h12 i hi; omega)
  | k + 1 => by
    have ih := tabN_ok h5 hs h12 k
    by_cases hk : k < (tabN ts k).2.2.length
    · have e := List.getElem?_eq_getElem hk
      rw [tabN_some e]
      exact tabMore_ok h5 (fun i hi => (h12 i hi).2) ih (ih.good _ (List.getElem_mem hk))
    · rw [tabN_none (by omega)]
      exact ⟨ih.safe.mono (by push_cast; omega), ih.lasts.mono (by push_cast; omega), ih.good, by have := ih.len; omega⟩
end Go.Proofs.YthjgecblkagelaaGreat
