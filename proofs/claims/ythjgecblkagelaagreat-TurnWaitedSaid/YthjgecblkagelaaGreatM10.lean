/- Parts of a proof: AE AF AG AH. -/
import Derived.Test.YthjgecblkagelaaGreatM9
import Derived.Scope

/- Visits keep places good; marks of ranges within loops; regions that draw, in a round. -/
namespace Go.Proofs.YthjgecblkagelaaGreat
open Go.RowKit Go.Shelf

theorem pullStep_good {ts : List Int} {f : Nat → Bool} {i : Nat} {p q : Pl} (hp : PlGood ts p) (hi : i < ts.length) (h5 : ts.length ≤ 5) (h : pullStep ts f i (some p) = some q) : PlGood ts q := by
  unfold pullStep at h
  dsimp only at h
  split at h
  · split at h
    · cases h
    · rename_i h1 h2
      cases h
      refine ⟨fun j hj => ?_, by rw [Pl.set_n]; exact hp.2⟩
      have hpj := hp.1 j hj
      rw [Pl.get_set _ _ _ _ (by omega)]
      by_cases hji : j = i
      · subst hji; rw [if_pos rfl]; omega
      · rw [if_neg hji]; exact hpj
  · cases h; exact hp
theorem pullL_good {ts : List Int} {f : Nat → Bool} {n : Nat} (hn : n = ts.length) (h5 : ts.length ≤ 5) : ∀ (l : List (Fin n)) (p q : Pl), PlGood ts p → l.foldl (fun o i => pullStep ts f i.1 o) (some p) = some q → PlGood ts q
  | [], p, q, hp, h => by simp at h; exact h ▸ hp
  | i :: l, p, q, hp, h => by
    simp only [List.foldl_cons] at h
    cases hs : pullStep ts f i.1 (some p) with
    | none => rw [hs, pull_none] at h; cases h
    | some r =>
      rw [hs] at h
      exact pullL_good hn h5 l r q (pullStep_good hp (by have := i.2; omega) h5 hs) h
theorem pullF_good {ts : List Int} {f : Nat → Bool} {p q : Pl} (hp : PlGood ts p) (h5 : ts.length ≤ 5) (h : pullF ts f p = some q) : PlGood ts q := pullL_good rfl h5 _ p q hp h
theorem visitsF_good {ts : List Int} {p : Pl} {x : Nat × Pl} (hv : Valid ts) (hp : PlGood ts p) (h : x ∈ visitsF ts p) : PlGood ts x.2 := by
  unfold visitsF at h
  cases hq : pullF ts allF p with
  | none => rw [hq] at h; cases h
  | some q =>
    rw [hq] at h
    obtain ⟨k, hk, rfl⟩ := List.mem_map.1 h
    have hk := List.mem_range.1 hk
    obtain ⟨g1, g2⟩ := pullF_good hp hv.h5 hq
    refine ⟨fun j hj => ?_, by rw [Pl.set_n]; exact g2⟩
    have := g1 j hj
    have := hv.h12 j hj
    have := hv.h5
    rw [Pl.get_set _ _ _ _ (by omega)]
    by_cases hjk : j = k
    · subst hjk; rw [if_pos rfl]; omega
    · rw [if_neg hjk]; exact g1 j hj
theorem visitsF_len {ts : List Int} {p : Pl} : (visitsF ts p).length ≤ ts.length := by
  unfold visitsF
  split <;> simp

/-- The marks of ranges that have ended. -/
def marks (Ds : List Nat) : List Deferred := Ds.map fun D => { target := .collected D, args := #[] }
theorem marks_cons (D : Nat) (Ds : List Nat) : marks (D :: Ds) = { target := .collected D, args := #[] } :: marks Ds := rfl
def putAll (Ds : List Nat) (W : World) : World := Ds.foldl (fun W D => W.putObj D (.deferred none)) W
def MarksAt (n : Nat) (Ds : List Nat) (W : World) : Prop := Ds.Nodup ∧ ∀ D ∈ Ds, n ≤ D ∧ W.heap[D]? = some (.deferred (some []))
theorem MarksAt.nil (n : Nat) (W : World) : MarksAt n [] W := ⟨List.nodup_nil, fun _ h => by cases h⟩
theorem MarksAt.tail {n D : Nat} {Ds : List Nat} {W : World} (h : MarksAt n (D :: Ds) W) : MarksAt n Ds W := ⟨(List.nodup_cons.1 h.1).2, fun x hx => h.2 x (by simp [hx])⟩
theorem MarksAt.cons {n D : Nat} {Ds : List Nat} {W : World} (h : MarksAt n Ds W) (hn : n ≤ D) (hD : W.heap[D]? = some (.deferred (some []))) (hne : D ∉ Ds) : MarksAt n (D :: Ds) W := by
  refine ⟨List.nodup_cons.2 ⟨hne, h.1⟩, fun x hx => ?_⟩
  rcases List.mem_cons.1 hx with rfl | hx
  · exact ⟨hn, hD⟩
  · exact h.2 x hx
theorem MarksAt.same {n : Nat} {Ds : List Nat} {W W' : World} (h : MarksAt n Ds W) (hs : ∀ D ∈ Ds, W.heap[D]? = some (.deferred (some [])) → W'.heap[D]? = some (.deferred (some []))) : MarksAt n Ds W' :=
  ⟨h.1, fun D hD => ⟨(h.2 D hD).1, hs D hD (h.2 D hD).2⟩⟩
theorem MarksAt.lt {n D : Nat} {Ds : List Nat} {W : World} (h : MarksAt n Ds W) (hD : D ∈ Ds) : D < W.heap.size := (Array.getElem?_eq_some_iff.1 (h.2 D hD).2).1
theorem MarksAt.put {n D : Nat} {Ds : List Nat} {W : World} (h : MarksAt n (D :: Ds) W) (o : Obj) : MarksAt n Ds (W.putObj D o) :=
  h.tail.same fun x hx hh => (World.putObj_heap_other (by rintro rfl; exact (List.nodup_cons.1 h.1).1 hx)).trans hh
theorem leaves_marks {n : Nat} {F : Fence} {m : Nat} {P : Program} {fn : Func} {tmps : Array Value} {R : Ending → World → Prop} : ∀ (Ds : List Nat) (W : World), MarksAt n Ds W → LeavesInM F m P fn tmps R [] .returning (putAll Ds W) → LeavesInM F m P fn tmps R (marks Ds) .returning W
  | [], _, _, h => h
  | D :: Ds, W, hm, h => ⟨by simp, .inl ⟨D, _, rfl, run_takeDeferred (hm.2 D (by simp)).2, leaves_marks Ds _ (hm.put _) h⟩⟩
theorem putAll_heap {n : Nat} : ∀ (Ds : List Nat) (W : World) (k : Nat), k ∉ Ds → (putAll Ds W).heap[k]? = W.heap[k]?
  | [], _, _, _ => rfl
  | D :: Ds, W, k, h => by
    have h' : k ≠ D ∧ k ∉ Ds := by simpa using h
    exact (putAll_heap (n := n) Ds _ k h'.2).trans (World.putObj_heap_other h'.1)
theorem putAll_below {n : Nat} {w0 : World} : ∀ (Ds : List Nat) (W : World), Below n w0 W → n ≤ W.heap.size → (∀ D ∈ Ds, n ≤ D) → Below n w0 (putAll Ds W)
  | [], _, h, _, _ => h
  | D :: Ds, W, h, hz, hD => putAll_below Ds _ (put_below h (hD D (by simp)) hz _) (by simpa using hz) (fun x hx => hD x (by simp [hx]))
theorem putAll_row {n : Nat} : ∀ (Ds : List Nat) (W : World) (_ : MarksAt n Ds W) {base : Nat} {e : TypeId} {size : Nat} {v : Value} {k : Nat} {xs : List Value} (_ : W.ownsRow base e size v k xs), (putAll Ds W).ownsRow base e size v k xs
  | [], _, _, _, _, _, _, _, _, h => h
  | D :: Ds, W, hm, _, _, _, _, _, _, h => putAll_row Ds _ (hm.put _) (ownsRow_putObj h _ (hm.2 D (by simp)).2 rfl)

theorem region_held_round {P : Program} {ops : Array Oper} {m lo : Nat} {Q : Exit → Act → World → Prop} {id : Nat} {a : Act} {w : World} (S : World → Prop) (needs : Nat → Bool) (hm : P.follows .mixedOrders = true) (hnd : noDefer ops = true)
    (h : ∀ K : Act → World → Prop, (∀ a w, Q .normal a w → K a w) → wpAnyHI m P .any ops (Exit.then K (fun _ _ _ => False)) S needs ops.size (Array.replicate ops.size false) a w.drew) : (Code.region id ops true).wpIn (Fence.wide.inRound lo) m P Q a w :=
  wpIn_mono (region_round hm hnd (wpAnyIn_of_held _ _ _ _ (h (Q .normal) fun _ _ h => h))) (fun e a' w' hq => by
    cases e with
    | normal => exact hq
    | exit id => exact hq.elim
    | goto l => exact hq.elim
    | ret => exact hq.elim
    | panic ch => exact hq.elim
    | outgrown => exact hq.elim)
/-- A label to which nobody goes. -/
theorem wpIn_scope_wide {P : Program} {n : Nat} {c : Code} {Q : Exit → Act → World → Prop} {a : Act} {w : World} (h : c.wpIn Fence.wide n P (Exit.noGoto Q) a w) : (Code.scope c).wpIn Fence.wide n P Q a w :=
  wpIn_wide.2 (wp_scope_straight (wpIn_wide.1 h))
/-- A region of reads: the world stays. -/
theorem wpAnyHI_end {P : Program} {ops : Array Oper} {md : Region.Mode} {m : Nat} {Q : Exit → Act → World → Prop} {S : World → Prop} {needs : Nat → Bool} {listed : Array Bool} {a : Act} {w : World} {fuel : Nat} (hr : (Region.ready md ops listed).isEmpty = true) (h : Q .normal a w) : wpAnyHI m P md ops Q S needs fuel listed a w := by
  have hr : Region.ready md ops listed = [] := by simpa using hr
  cases fuel with
  | zero => exact ⟨hr, h⟩
  | succ f => exact ⟨fun _ => h, by rw [hr]; simp⟩

theorem wpAnyHI_takeD {P : Program} {ops : Array Oper} {md : Region.Mode} {m : Nat} {Q : Exit → Act → World → Prop} {S : World → Prop} {needs : Nat → Bool} {i : Nat} {oi : Oper} {v : Value} {fuel : Nat} {listed : Array Bool} {a : Act} {w : World} (d : Option Tmp) (hi : ops[i]? = some oi) (hd : oi.dst = d)
    (hs : Region.noSelect ops = true) (hf : Region.free md ops listed i = true) (hr : (Region.ready md ops listed).contains i = true) (hcl : closedB md ops listed = true)
    (hn : ((List.range ops.size).all fun j => needs j || decide (j = i) || waitsB md ops ops.size j i) = true)
    (hQ : ∀ c a w, Q (.panic c) (a.put oi.dst v) w → Q (.panic c) a w) (hS : S w) (hy : YieldsIf P ops S oi v a)
    (h : wpAnyHI m P md ops Q S needs fuel (listed.setIfInBounds i true) (a.put d v) w) : wpAnyHI m P md ops Q S needs (fuel + 1) listed a w := by
  subst hd
  exact wpAnyHI_take hi hs hf hr hcl hn hQ hS hy h
/-- An operation that yields in whatever world may be taken first. -/
theorem wpAnyHI_firstW {P : Program} {ops : Array Oper} {md : Region.Mode} {m : Nat} {Q : Exit → Act → World → Prop} {S : World → Prop} {needs : Nat → Bool} {i : Nat} {oi : Oper} {v : Value} (hi : ops[i]? = some oi) (hsel : ∀ (j : Nat) (o : Oper) cs b, ops[j]? = some o → o.op ≠ .select cs b)
    (hQ : ∀ c a w, Q (.panic c) (a.put oi.dst v) w → Q (.panic c) a w) (hni : needs i = false) :
    ∀ (fuel : Nat) (listed : Array Bool) (a : Act) (w : World),
      (∀ j oj, ops[j]? = some oj → j ≠ i → listed.getD j true = false → (∀ e ∈ oj.after, Region.binds md e = true → e.on ≠ i) → oi.apart ops oj = true) →
      i ∈ Region.ready md ops listed → YieldsIf P ops (fun _ => True) oi v a →
      wpAnyHI m P md ops Q S needs fuel (listed.setIfInBounds i true) (a.put oi.dst v) w → wpAnyHI m P md ops Q S needs (fuel + 1) listed a w := by
  intro fuel
  induction fuel with
  | zero =>
    intro listed a w _ hr hy H
    refine ⟨fun h => (by rw [h] at hr; cases hr), fun j hj => ?_⟩
    by_cases hji : j = i
    · subst hji; exact yieldsIf_wpOpIn hi hy trivial ⟨fun h => (by rw [hni] at h; cases h), H⟩
    · have := ready_mono hj hji
      rw [H.1] at this
      cases this
  | succ fuel ih =>
    intro listed a w hfree hr hy H
    refine ⟨fun h => (by rw [h] at hr; cases hr), fun j hj => ?_⟩
    by_cases hji : j = i
    · subst hji; exact yieldsIf_wpOpIn hi hy trivial ⟨fun h => (by rw [hni] at h; cases h), H⟩
    · have h1 := H.2 j (ready_mono hj hji)
      obtain ⟨hjun, oj, hoj, hall⟩ := mem_ready.1 hj
      have hi0 : listed.getD i false = false := by
        have h0 := (mem_ready.1 hr).1
        rcases Nat.lt_or_ge i listed.size with h' | h'
        · simp [h'] at h0 ⊢; exact h0
        · simp [Array.getElem?_eq_none h']
      have hnot : ∀ e ∈ oj.after, Region.binds md e = true → e.on ≠ i := fun e he hb heq => by
        have h1 := hall e he hb
        rw [heq, hi0] at h1
        cases h1
      have h2 := wpOpIn_putIf hoj (hfree j oj hoj hji hjun hnot) (fun cs b => hsel i oi cs b hi) (fun cs b => hsel j oj cs b hoj) hQ hy h1
      have hfree' : ∀ k ok, ops[k]? = some ok → k ≠ i → (listed.setIfInBounds j true).getD k true = false →
          (∀ e ∈ ok.after, Region.binds md e = true → e.on ≠ i) → oi.apart ops ok = true := fun k ok hk hki hun hno => by
        refine hfree k ok hk hki ?_ hno
        by_cases hjk : j = k
        · subst hjk; exact hjun
        · rw [getD_set_ne true hjk] at hun; exact hun
      refine wpOpIn_mono (fun a' w' h3 => ⟨h3.2.1, ih (listed.setIfInBounds j true) a' w' hfree' (ready_mono hr (Ne.symm hji)) h3.1 ?_⟩) h2
      rw [Array.setIfInBounds_comm _ _ hji]
      exact h3.2.2
theorem wpAnyHI_takeW {P : Program} {ops : Array Oper} {md : Region.Mode} {m : Nat} {Q : Exit → Act → World → Prop} {S : World → Prop} {needs : Nat → Bool} {i : Nat} {oi : Oper} {v : Value} {fuel : Nat} {listed : Array Bool} {a : Act} {w : World} (d : Option Tmp) (hi : ops[i]? = some oi) (hd : oi.dst = d)
    (hs : Region.noSelect ops = true) (hf : Region.free md ops listed i = true) (hr : (Region.ready md ops listed).contains i = true) (hni : needs i = false)
    (hQ : ∀ c a w, Q (.panic c) (a.put oi.dst v) w → Q (.panic c) a w) (hy : YieldsIf P ops (fun _ => True) oi v a)
    (h : wpAnyHI m P md ops Q S needs fuel (listed.setIfInBounds i true) (a.put d v) w) : wpAnyHI m P md ops Q S needs (fuel + 1) listed a w := by
  subst hd
  exact wpAnyHI_firstW hi (Region.noSelect_spec hs) hQ hni fuel listed a w (Region.free_spec hi hf) (by simpa using hr) hy h
theorem wpAnyHI_first2 {P : Program} {ops : Array Oper} {md : Region.Mode} {m : Nat} {Q : Exit → Act → World → Prop} {S : World → Prop} {needs : Nat → Bool} {i : Nat} {oi : Oper} {v : Value} (hi : ops[i]? = some oi) (hsel : ∀ (j : Nat) (o : Oper) cs b, ops[j]? = some o → o.op ≠ .select cs b)
    (hQ : ∀ c a w, Q (.panic c) (a.put oi.dst v) w → Q (.panic c) a w) :
    ∀ (fuel : Nat) (listed : Array Bool) (a : Act) (w : World), Closed md ops listed → (∀ j, j < ops.size → listed.getD j true = false → needs j = true ∨ j = i ∨ waitsB md ops ops.size j i = true) →
      (∀ j oj, ops[j]? = some oj → j ≠ i → listed.getD j true = false → (∀ e ∈ oj.after, Region.binds md e = true → e.on ≠ i) → oi.apart ops oj = true) →
      i ∈ Region.ready md ops listed → YieldsIf P ops S oi v a → S w →
      wpAnyHI m P md ops Q S needs fuel (listed.setIfInBounds i true) (a.put oi.dst v) w → wpAnyHI m P md ops Q S needs (fuel + 1) listed a w := by
  intro fuel
  induction fuel with
  | zero =>
    intro listed a w hc _ _ hr hy hS H
    refine ⟨fun h => (by rw [h] at hr; cases hr), fun j hj => ?_⟩
    by_cases hji : j = i
    · subst hji; exact yieldsIf_wpOpIn hi hy hS ⟨fun _ => hS, H⟩
    · have := ready_mono hj hji
      rw [H.1] at this
      cases this
  | succ fuel ih =>
    intro listed a w hc hneeds hfree hr hy hS H
    refine ⟨fun h => (by rw [h] at hr; cases hr), fun j hj => ?_⟩
    by_cases hji : j = i
    · subst hji; exact yieldsIf_wpOpIn hi hy hS ⟨fun _ => hS, H⟩
    · have h1 := H.2 j (ready_mono hj hji)
      obtain ⟨hjun, oj, hoj, hall⟩ := mem_ready.1 hj
      have hi0 : listed.getD i false = false := by
        have h0 := (mem_ready.1 hr).1
        rcases Nat.lt_or_ge i listed.size with h' | h'
        · simp [h'] at h0 ⊢; exact h0
        · simp [Array.getElem?_eq_none h']
      have hnot : ∀ e ∈ oj.after, Region.binds md e = true → e.on ≠ i := fun e he hb heq => by
        have h1 := hall e he hb
        rw [heq, hi0] at h1
        cases h1
      have hnj : needs j = true := by
        rcases hneeds j (Array.getElem?_eq_some_iff.1 hoj).1 hjun with h | h | h
        · exact h
        · exact absurd h hji
        · have := waitsB_spec hc _ j (fun o ho => by rw [hoj] at ho; cases ho; exact hall) h
          rw [hi0] at this
          cases this
      have h2 := wpOpIn_putIf hoj (hfree j oj hoj hji hjun hnot) (fun cs b => hsel i oi cs b hi) (fun cs b => hsel j oj cs b hoj) hQ hy h1
      have hfree' : ∀ k ok, ops[k]? = some ok → k ≠ i → (listed.setIfInBounds j true).getD k true = false →
          (∀ e ∈ ok.after, Region.binds md e = true → e.on ≠ i) → oi.apart ops ok = true := fun k ok hk hki hun hno => by
        refine hfree k ok hk hki ?_ hno
        by_cases hjk : j = k
        · subst hjk; exact hjun
        · rw [getD_set_ne true hjk] at hun; exact hun
      have hneeds' : ∀ k, k < ops.size → (listed.setIfInBounds j true).getD k true = false → needs k = true ∨ k = i ∨ waitsB md ops ops.size k i = true := fun k hk hun => hneeds k hk (by
        by_cases hjk : j = k
        · subst hjk; exact hjun
        · rw [getD_set_ne true hjk] at hun; exact hun)
      refine wpOpIn_mono (fun a' w' h3 => ⟨fun _ => h3.2.1 hnj, ih (listed.setIfInBounds j true) a' w' (hc.step hj) hneeds' hfree' (ready_mono hr (Ne.symm hji)) h3.1 (h3.2.1 hnj) ?_⟩) h2
      rw [Array.setIfInBounds_comm _ _ hji]
      exact h3.2.2

theorem wpAnyHI_takeE {P : Program} {ops : Array Oper} {md : Region.Mode} {m : Nat} {Q : Exit → Act → World → Prop} {S : World → Prop} {needs : Nat → Bool} {i : Nat} {oi : Oper} {v : Value} {fuel : Nat} {listed : Array Bool} {a : Act} {w : World} (d : Option Tmp) (hi : ops[i]? = some oi) (hd : oi.dst = d)
    (hs : Region.noSelect ops = true) (hf : Region.free md ops listed i = true) (hr : (Region.ready md ops listed).contains i = true) (hcl : closedB md ops listed = true)
    (hn : ((List.range ops.size).all fun j => listed.getD j true || (needs j || decide (j = i) || waitsB md ops ops.size j i)) = true)
    (hQ : ∀ c a w, Q (.panic c) (a.put oi.dst v) w → Q (.panic c) a w) (hS : S w) (hy : YieldsIf P ops S oi v a)
    (h : wpAnyHI m P md ops Q S needs fuel (listed.setIfInBounds i true) (a.put d v) w) : wpAnyHI m P md ops Q S needs (fuel + 1) listed a w := by
  subst hd
  refine wpAnyHI_first2 hi (Region.noSelect_spec hs) hQ fuel listed a w (closedB_spec hcl) (fun j hj hl => ?_) (Region.free_spec hi hf) (by simpa using hr) hy hS h
  have := (List.all_eq_true.1 hn) j (List.mem_range.2 hj)
  rw [hl, Bool.false_or, Bool.or_eq_true, Bool.or_eq_true] at this
  rcases this with (h | h) | h
  · exact .inl h
  · exact .inr (.inl (of_decide_eq_true h))
  · exact .inr (.inr h)
theorem act_eq {K : Act → World → Prop} {a a' : Act} {w : World} (h : a = a') (hk : K a' w) : K a w := h ▸ hk
/-- The longest row, as 'longest' finds it. -/
def longF (ts : List Int) (m : List (Pl × Int)) : Nat → Pl → List Int
  | 0, _ => []
  | k + 1, p => match (visitsF ts p).find? fun x => decide (mget 0 m x.2 = (k : Int)) with
    | some x => (x.1 : Int) :: longF ts m k x.2
    | none => longF ts m k p
theorem longF_some {ts : List Int} {m : List (Pl × Int)} {k : Nat} {p : Pl} {pre rest : List (Nat × Pl)} {x : Nat × Pl} (h : pre ++ x :: rest = visitsF ts p) (h1 : ∀ y ∈ pre, mget 0 m y.2 ≠ (k : Int)) (h2 : mget 0 m x.2 = (k : Int)) :
    longF ts m (k + 1) p = (x.1 : Int) :: longF ts m k x.2 := by
  have e : (visitsF ts p).find? (fun x => decide (mget 0 m x.2 = (k : Int))) = some x := by
    rw [← h, List.find?_append]
    have : pre.find? (fun x => decide (mget 0 m x.2 = (k : Int))) = none := by
      rw [List.find?_eq_none]
      intro y hy
      simpa using h1 y hy
    rw [this]
    simp [h2]
  rw [longF, e]
theorem longF_none {ts : List Int} {m : List (Pl × Int)} {k : Nat} {p : Pl} (h1 : ∀ y ∈ visitsF ts p, mget 0 m y.2 ≠ (k : Int)) : longF ts m (k + 1) p = longF ts m k p := by
  have e : (visitsF ts p).find? (fun x => decide (mget 0 m x.2 = (k : Int))) = none := by
    rw [List.find?_eq_none]
    intro y hy
    simpa using h1 y hy
  rw [longF, e]
theorem longF_len (ts : List Int) (m : List (Pl × Int)) : ∀ (k : Nat) (p : Pl), (longF ts m k p).length ≤ k
  | 0, _ => by simp [longF]
  | k + 1, p => by
    rw [longF]
    split
    · rename_i x _
      have := longF_len ts m k x.2
      simp; omega
    · have := longF_len ts m k p
      omega
end Go.Proofs.YthjgecblkagelaaGreat

/- longest, Lasts. -/
namespace Go.Proofs.YthjgecblkagelaaGreat
open Go.RowKit Go.Shelf

attribute [local go_sem] Oper.semAt_some

/-- What the memory holds while a longest row is looked for. -/
structure LgB (w : World) (B b6 Bh Bp : Nat) (Ds : List Nat) (A : Option Addr) (n c ms ml : Nat) (left : Int) (q : Pl) (row : List Int) (X : Nat → Prop) (W : World) : Prop where
  hX : ∀ k, X k → B ≤ k
  hz : B ≤ W.heap.size
  tb : TbAt W w.heap.size A n c ms ml
  pl : PlAt W (w.heap.size + 1) q
  lf : Boxed W b6 3 (.int .i64 left)
  rw : ∃ v, Boxed W (w.heap.size + 2) 22 v ∧ W.ownsRow w.heap.size 3 1 v row.length (row.map (.int .i64)) ∧ ∀ g, v.ownBlock = some g → ¬ X g ∧ g ≠ Bh ∧ g ≠ Bp ∧ g ≠ b6 ∧ ¬ (w.heap.size ≤ g ∧ g < w.heap.size + 3)
  mks : MarksAt w.heap.size Ds W
  bl : Below w.heap.size w W
theorem LgB.st {w : World} {B b6 Bh Bp : Nat} {Ds : List Nat} {A : Option Addr} {n c ms ml : Nat} {left : Int} {q : Pl} {row : List Int} {X X' : Nat → Prop} {W W' : World} (h : LgB w B b6 Bh Bp Ds A n c ms ml left q row X W) (hst : St B X W W') (hgr : Grows X X' W)
    (hb6 : b6 < B) (hH : w.heap.size + 3 ≤ B) (hDs : ∀ D ∈ Ds, D < B) : LgB w B b6 Bh Bp Ds A n c ms ml left q row X' W' := by
  obtain ⟨v, v1, v2, v3⟩ := h.rw
  have hX := h.hX
  have hz := h.hz
  exact ⟨fun k hk => (hgr.2 k hk).elim (hX k) (fun h => by omega), Nat.le_trans hz hst.base.size, hst.tb h.tb (fun h => by have := hX _ h; omega), hst.pl h.pl (fun h => by have := hX _ h; omega), hst.bx h.lf (fun h => by have := hX _ h; omega),
    ⟨v, hst.bx v1 (fun h => by have := hX _ h; omega), hst.row v2 (fun g hg => (v3 g hg).1), fun g hg => ⟨hgr.not (v3 g hg).1 (v2.lt g hg).2, (v3 g hg).2⟩⟩,
    h.mks.same (fun D hD hh => hst.same _ _ hh (fun h => by have := hX _ h; have := hDs D hD; omega) (.inr (hDs D hD))),
    h.bl.trans (hst.below (fun k hk => by have := hX k hk; omega) (by omega) h.bl.size)⟩

theorem LgB.next {w : World} {B b6 Bh Bp D : Nat} {Ds : List Nat} {A : Option Addr} {n c ms ml : Nat} {left left' : Int} {q : Pl} {row : List Int} {X : Nat → Prop} {W : World} (h : LgB w B b6 Bh Bp Ds A n c ms ml left q row X W)
    (hH : w.heap.size + 3 ≤ B) (hD : B ≤ D) (hK : W.heap[D]? = some (.deferred (some []))) (hDs : ∀ D ∈ Ds, D < B) :
    LgB w (w.heap.size + 3) W.heap.size w.heap.size w.heap.size (D :: Ds) A n c ms ml left' q row noBlock (W.alloc (.cells #[.int .i64 left'] 3)) := by
  obtain ⟨v, v1, v2, v3⟩ := h.rw
  have hz := h.hz
  exact ⟨fun _ h => h.elim, by simp; omega, h.tb.alloc _, h.pl.alloc _, Boxed.new W 3 (.int .i64 left'), ⟨v, v1.alloc _, v2.alloc _, fun g hg => by
      have h1 := (v3 g hg).2.2.2.2
      have h2 := (v2.lt g hg).2
      exact ⟨fun h => h.elim, by omega, by omega, by omega, h1⟩⟩,
    MarksAt.cons (h.mks.same fun x hx hh => (Below.heap_alloc _ _ _ (h.mks.lt hx)).trans hh) (by omega) ((Below.heap_alloc _ _ _ (Array.getElem?_eq_some_iff.1 hK).1).trans hK) (fun hd => by have := hDs D hd; omega), h.bl.alloc h.bl.size _⟩
theorem pl_not_row {W : World} {b : Nat} {p : Pl} (h : PlAt W b p) {base size k : Nat} {e : TypeId} {v : Value} {xs : List Value} (hr : W.ownsRow base e size v k xs) (hte : 64 ≠ e) : ∀ g, v.ownBlock = some g → g ≠ b := by
  rintro g hg rfl
  rcases hr.2 with ⟨rfl, -⟩ | ⟨g', cap, cur, rfl, hb, hh, rest⟩
  · cases hg
  · cases hg
    unfold PlAt at h
    rw [hh] at h
    cases h
    exact hte rfl
theorem row_heap {W W' : World} {base : Nat} {e : TypeId} {size : Nat} {v : Value} {k : Nat} {xs : List Value} (hr : W.ownsRow base e size v k xs) (h : ∀ g, v.ownBlock = some g → W'.heap[g]? = W.heap[g]?) : W'.ownsRow base e size v k xs := by
  refine ⟨hr.1, ?_⟩
  rcases hr.2 with hn | ⟨g, cap, cur, rfl, hb, hg, rest⟩
  · exact .inl hn
  · exact .inr ⟨g, cap, cur, rfl, hb, (h g rfl).trans hg, rest⟩
theorem Keep.st6 {n₀ b : Nat} {C X : Nat → Prop} {W : World} (hn : n₀ ≤ b) (hX : ¬ X b) (hC : ¬ C b) (x0 x1 x2 x3 x4 x5 : Value) : Keep n₀ C X W (st6 W b x0 x1 x2 x3 x4 x5) :=
  (((((Keep.setCell hn hX hC _ _).trans (Keep.setCell hn hX hC _ _)).trans (Keep.setCell hn hX hC _ _)).trans (Keep.setCell hn hX hC _ _)).trans (Keep.setCell hn hX hC _ _)).trans (Keep.setCell hn hX hC _ _)

set_option maxRecDepth 100000 in
set_option maxHeartbeats 4000000 in
theorem longest_any (w : World) (B : Nat) (A : Option Addr) (n c ms ml : Nat) (ts : List Int) (hx : IntsAt w B A n ts) (hB : B ≤ w.heap.size) (hv : Valid ts)
    (m : List (Pl × Int)) (hm : MapAt Int encI w ml m) (p : Pl) (hp : PlGood ts p) (hL : mget 0 m p ≤ 1000000) :
    Calls Tryz.prog 64 #[.agg (tbc A n c ms ml), plv p] w fun e w' => ∃ v, e = .returned v ∧ w'.ownsRow w.heap.size 3 1 v (longF ts m (mget 0 m p).toNat p).length ((longF ts m (mget 0 m p).toNat p).map (.int .i64)) ∧ Below w.heap.size w w' := by
  obtain ⟨i0, hi, hz0, hz1, hz2⟩ := info_parts infoInt
  have hn := hx.len
  have x0 := ((TbAt.new w A n c ms ml).alloc (.cells (plc p) 64)).alloc (.cells #[.slice none 0 0] 22)
  have x1 := (PlAt.new (w.alloc (.cells (tbc A n c ms ml) 60)) p).alloc (.cells #[.slice none 0 0] 22)
  have x2 := Boxed.new ((w.alloc (.cells (tbc A n c ms ml) 60)).alloc (.cells (plc p) 64)) 22 (.slice none 0 0)
  simp only [World.size_alloc, Nat.add_assoc, Nat.reduceAdd] at x1 x2
  have hb0 : Below w.heap.size w (((w.alloc (.cells (tbc A n c ms ml) 60)).alloc (.cells (plc p) 64)).alloc (.cells #[.slice none 0 0] 22)) :=
    (((Below.refl _ w).alloc (Nat.le_refl _) _).alloc (by simp) _).alloc (by simp; omega) _
  have hlk := lookup_i (hm.below hb0 hm.lt) p
  have hmz := hm.lt
  obtain ⟨L0, hL0⟩ : ∃ L0, L0 = mget 0 m p := ⟨_, rfl⟩
  rw [← hL0] at hL hlk ⊢
  have H0 := Lib.hid (And.intro hL0 (And.intro hL (And.intro hn hp)))
  clear hL0 hL hn hp
  refine (callsIn_wide (n := 3)).1 ?_
  refine callsIn_of_wp_marks Tryz.func64 rfl trivial ?_ rfl
  simp only [Tryz.ntmps64, List.size_toArray, List.length_cons, List.length_nil, Nat.reduceAdd, Nat.reduceSub, Array.replicate_succ, Array.replicate_zero, List.push_toArray, List.append_toArray, List.nil_append, List.cons_append]
  obtain ⟨t0, t1, t2⟩ := x0.cells
  obtain ⟨c0, c1, c2, c3, c4, c5⟩ := x1.cells
  gi_wp2_with (fail)
  refine wpIn_scope_wide ?_
  gi_wp2_with (fail)
  refine wpIn_label ?_
  gi_wp2_with (fail)
  have hmW := (hm.below hb0 hm.lt)
  refine wpIn_loop_ghost_k (fun k a wr => ∃ (b6 : Nat) (Ds : List Nat) (q : Pl) (row : List Int) (left : Int) (u7 u8 u9 u10 u11 u12 u13 u14 u15 u16 u17 u18 u19 u20 u21 u22 u23 u24 u25 u26 u27 u28 u29 u30 u31 u32 u33 u34 u35 u36 : Value), a = { tmps := #[.agg (tbc A n c ms ml), plv p, .pointer (some ⟨w.heap.size, 0, none⟩), .pointer (some ⟨w.heap.size + 1, 0, none⟩), .slice none 0 0, .pointer (some ⟨w.heap.size + 1 + 1, 0, none⟩), .pointer (some ⟨b6, 0, none⟩), u7, u8, u9, u10, u11, u12, u13, u14, u15, u16, u17, u18, u19, u20, u21, u22, u23, u24, u25, u26, u27, u28, u29, u30, u31, u32, u33, u34, u35, u36], defers := marks Ds } ∧
    (k = left.toNat ∧ left ≤ 1000000 ∧ PlGood ts q ∧ row ++ longF ts m k q = longF ts m L0.toNat p ∧ w.heap.size + 3 ≤ b6 ∧ (row.length : Int) + left ≤ 1000000 + 1000000) ∧ LgB w (w.heap.size + 3) b6 w.heap.size w.heap.size Ds A n c ms ml left q row noBlock wr) L0.toNat ?_ ?_
  · refine ⟨_, [], p, [], L0, _, _, _, _, _, _, _, _, _, _, _, _, _, _, _, _, _, _, _, _, _, _, _, _, _, _, _, _, _, _, rfl, ⟨rfl, H0.out.2.1, H0.out.2.2.2, rfl, by omega, by have := H0.out.2.1; simp; omega⟩, ?_⟩
    have hbx := Boxed.new (((w.alloc (.cells (tbc A n c ms ml) 60)).alloc (.cells (plc p) 64)).alloc (.cells #[.slice none 0 0] 22)) 3 (.int .i64 L0)
    simp only [World.size_alloc] at hbx
    exact ⟨fun _ h => h.elim, by simp, x0.alloc _, x1.alloc _, hbx, ⟨_, (Below.heap_alloc _ _ _ x2.lt).trans x2, World.ownsRow_nil _ _ _ _, fun g hg => by cases hg⟩, MarksAt.nil _ _, hb0.alloc hb0.size _⟩
  · rintro k a wr ⟨b6, Ds, q, row, left, u7, u8, u9, u10, u11, u12, u13, u14, u15, u16, u17, u18, u19, u20, u21, u22, u23, u24, u25, u26, u27, u28, u29, u30, u31, u32, u33, u34, u35, u36, rfl, ⟨hk, hlL, hq, hrow, hb6, hrl⟩, hG⟩ J K hIJ hK
    have hmr : MapAt Int encI wr ml m := hm.below hG.bl hm.lt
    have y0 := hG.tb
    have y1 := hG.pl
    have y6 := hG.lf
    obtain ⟨v, y2, hown, hvg⟩ := hG.rw
    have hzr := hG.hz
    have hmks := hG.mks
    have hBr := hG.bl
    have hz6 := y6.lt
    clear hmW hlk t0 t1 t2 c0 c1 c2 c3 c4 c5 x0 x1 x2 hb0
    obtain ⟨t0, t1, t2⟩ := y0.cells
    obtain ⟨c0, c1, c2, c3, c4, c5⟩ := y1.cells
    have c6 := y6.cell
    have c7 := y2.cell
    have Hr := Lib.hid (And.intro hk (And.intro hlL (And.intro hq (And.intro hrow (And.intro hvg hrl)))))
    clear hk hlL hrow hq hvg hrl
    by_cases hl0 : 0 < left
    · have Hl := Lib.hid hl0
      gi_wp2_with (fail)
      refine ⟨trivial, ?_⟩
      refine (callsIn_wide.2 (visits_box _ _ _ _ _)).mono ?_
      rintro e w2 ⟨Bh, Bp, rfl, hBh, hBp, hgh, hgp, hb2⟩
      have hbb := hb2.size
      have hB2 : Below w.heap.size w w2 := hBr.trans (hb2.mono hBr.size)
      have hG2 : LgB w w2.heap.size b6 Bh Bp Ds A n c ms ml left q row noBlock w2 := ⟨fun _ h => h.elim, Nat.le_refl _, y0.below hb2 y0.lt, y1.below hb2 y1.lt, bxBelow y6 hb2 y6.lt,
        ⟨v, bxBelow y2 hb2 y2.lt, row_below hown hb2, fun g hg => ⟨fun h => h.elim, by have := (hown.lt g hg).2; omega, by have := (hown.lt g hg).2; omega, (Hr.out.2.2.2.2.1 g hg).2.2.2⟩⟩, hmks.same (fun D hD hh => (hb2.block D (hmks.lt hD)).trans hh), hB2⟩
      have hDs : ∀ D ∈ Ds, D < w2.heap.size := fun D hD => by have := hmks.lt hD; omega
      have hzb6 : b6 < w2.heap.size := by omega
      have hz3 : w.heap.size + 3 ≤ w2.heap.size := by omega
      have hlb := Hr.out.2.1
      have hwr : IntKind.i64.wrap (left - 1) = left - 1 := by rw [IntKind.wrap_i64]; have := Hl.out; omega
      have Hwr := Lib.hid hwr
      have HD := Lib.hid (And.intro hDs (And.intro hb2 hmks))
      clear y0 y1 y6 y2 hown hmks hG t0 t1 t2 c0 c1 c2 c3 c4 c5 c6 c7 hmr hb2 hDs hwr hl0 hlb
      gi_wp2_with (fail)
      refine range_pl (P := Tryz.prog) (gf := 89) rfl (enters_of Tryz.func89 (by kernel_rfl) rfl) (encs := encV) Prod.snd (n₀ := w.heap.size) (w0 := w2)
        (visits1_any w2 Bh Bp w.heap.size A n c ts q hBh hBp hB2.size ((hx.below hB2 hB).more hB) (by have := hv.h5; have := H0.out.2.2.1; omega) (fun i hi => hv.h12 i (by have := H0.out.2.2.1; omega)) Hr.out.2.2.1.1) (Below.refl _ _) (by rintro k (rfl | rfl); exact hBh.lt; exact hBp.lt) hB2.size (fun _ => rfl)
        (fun pre X W => LgB w w2.heap.size b6 Bh Bp Ds A n c ms ml left q row X W ∧ ∀ y ∈ pre, mget 0 m y.2 ≠ left - 1)
        (fun c' pre X W => c' = .exit 1 ∧ ∃ pre' x, pre = pre' ++ [x] ∧ (∀ y ∈ pre', mget 0 m y.2 ≠ left - 1) ∧ mget 0 m x.2 = left - 1 ∧ LgB w w2.heap.size b6 Bh Bp Ds A n c ms ml left x.2 (row ++ [(x.1 : Int)]) X W)
        ?hI ?hIx ?h0 ?a1 ?assign ?body ?done ?stop
      case assign =>
        intro l x W b K hb hK
        gi_wp2
        rw [← hb]
        exact hK
      case hI =>
        rintro pre X X' W W' ⟨hL, hpre⟩ hst hgr
        exact ⟨hL.st hst hgr hzb6 hz3 HD.out.1, hpre⟩
      case hIx =>
        rintro c' pre X X' W W' ⟨hc, pre', x, e1, e2, e3, hL⟩ hst hgr
        exact ⟨hc, pre', x, e1, e2, e3, hL.st hst hgr hzb6 hz3 HD.out.1⟩
      case h0 => exact ⟨hG2, fun _ h => by cases h⟩
      case body =>
        rintro l pre x X b W ⟨hL, hpre⟩ zb hbz hWz hXz hlen
        have hLd : LgB w w2.heap.size b6 Bh Bp Ds A n c ms ml left q row X W.drew := ⟨hL.hX, hL.hz, hL.tb, hL.pl, hL.lf, hL.rw, hL.mks, hL.bl.trans ⟨rfl, rfl, rfl, Nat.le_refl _, fun _ _ => rfl⟩⟩
        have hX9 := hL.hX
        have hXz : ∀ k, X k → w2.heap.size ≤ k ∧ k < W.drew.heap.size := hXz
        have hkd : KeepsFrom w2.heap.size W W.drew := KeepsFrom.of_below ⟨rfl, rfl, rfl, Nat.le_refl _, fun _ _ => rfl⟩
        have hkk : Keep w.heap.size (fun k => k = Bh ∨ k = Bp) X W W.drew := Keep.of_below ⟨rfl, rfl, rfl, Nat.le_refl _, fun _ _ => rfl⟩ hL.bl.size
        have zbd : PlAt W.drew b x.2 := zb
        have hmd : MapAt Int encI W.drew ml m := hm.below hLd.bl hm.lt
        have hlk := lookup_i hmd x.2
        obtain ⟨t0, t1, t2⟩ := hLd.tb.cells
        obtain ⟨c0, c1, c2, c3, c4, c5⟩ := zbd.cells
        have c6 := hLd.lf.cell
        have hwr := Hwr.out
        gi_wp2_with (fail)
        refine region_held_round (fun W' => W' = W.drew) (fun _ => true) (by kernel_rfl) (by kernel_rfl) ?_
        intro KR hKR
        refine wpAnyHI_takeD (i := 0) (v := .pointer (some ⟨w.heap.size, 2, none⟩)) (some 23) rfl rfl (by kernel_rfl) (by kernel_rfl) (by kernel_rfl) (by kernel_rfl) (by kernel_rfl) (fun _ _ _ h => h) rfl (.inl ⟨by rfl, fun W' hS' => ?_⟩) ?_
        · subst hS'
          go_simp
        refine wpAnyHI_takeD (i := 1) (v := .map (some ml)) (some 24) rfl rfl (by kernel_rfl) (by kernel_rfl) (by kernel_rfl) (by kernel_rfl) (by kernel_rfl) (fun _ _ _ h => h) rfl (.inl ⟨by rfl, fun W' hS' => ?_⟩) ?_
        · subst hS'
          go_simp
        refine wpAnyHI_takeD (i := 2) (v := plv x.2) (some 25) rfl rfl (by kernel_rfl) (by kernel_rfl) (by kernel_rfl) (by kernel_rfl) (by kernel_rfl) (fun _ _ _ h => h) rfl (.inl ⟨by rfl, fun W' hS' => ?_⟩) ?_
        · subst hS'
          go_simp
        refine wpAnyHI_takeD (i := 3) (v := .int .i64 (mget 0 m x.2)) (some 26) rfl rfl (by kernel_rfl) (by kernel_rfl) (by kernel_rfl) (by kernel_rfl) (by kernel_rfl) (fun _ _ _ h => h) rfl (.inl ⟨by rfl, fun W' hS' => ?_⟩) ?_
        · subst hS'
          go_simp
        refine wpAnyHI_takeD (i := 4) (v := .int .i64 left) (some 27) rfl rfl (by kernel_rfl) (by kernel_rfl) (by kernel_rfl) (by kernel_rfl) (by kernel_rfl) (fun _ _ _ h => h) rfl (.inl ⟨by rfl, fun W' hS' => ?_⟩) ?_
        · subst hS'
          go_simp
        refine wpAnyHI_takeD (i := 5) (v := .int .i64 (left - 1)) (some 28) rfl rfl (by kernel_rfl) (by kernel_rfl) (by kernel_rfl) (by kernel_rfl) (by kernel_rfl) (fun _ _ _ h => h) rfl (.inl ⟨by rfl, fun W' hS' => ?_⟩) ?_
        · subst hS'
          go_simp
        refine wpAnyHI_takeD (i := 6) (v := .bool (mget 0 m x.2 == left - 1)) (some 29) rfl rfl (by kernel_rfl) (by kernel_rfl) (by kernel_rfl) (by kernel_rfl) (by kernel_rfl) (fun _ _ _ h => h) rfl (.inl ⟨by rfl, fun W' hS' => ?_⟩) ?_
        · subst hS'
          go_simp
        refine wpAnyHI_end (by kernel_rfl) ?_
        show KR _ _
        refine act_eq (K := KR) (a' := { tmps := #[.agg (tbc A n c ms ml), plv p, .pointer (some ⟨w.heap.size, 0, none⟩), .pointer (some ⟨w.heap.size + 1, 0, none⟩), .slice none 0 0, .pointer (some ⟨w.heap.size + 1 + 1, 0, none⟩), .pointer (some ⟨b6, 0, none⟩), .int .i64 (x.1 : Int), .pointer (some ⟨b, 0, none⟩), u9, u10, u11, u12, .int .i64 left, .bool true, u15, u16, .pointer (some ⟨w.heap.size, 0, none⟩), .agg #[.slice A n c], plv q, .func (.func 89) #[] #[.pointer (some ⟨Bh, 0, none⟩), .pointer (some ⟨Bp, 0, none⟩)], .int .i64 (x.1 : Int), plv x.2, .pointer (some ⟨w.heap.size, 2, none⟩), .map (some ml), plv x.2, .int .i64 (mget 0 m x.2), .int .i64 left, .int .i64 (left - 1), .bool (mget 0 m x.2 == left - 1), u30, u31, u32, u33, u34, u35, u36], defers := [] }) rfl ?_
        refine hKR _ _ ?_
        clear hlk
        obtain ⟨v, y2, hown, hvg⟩ := hLd.rw
        have y1 := hLd.pl
        obtain ⟨f0, f1, f2, f3, f4, f5⟩ := y1.frozens
        have hrd : row.length ≤ 2000000 := by have := Hr.out.2.2.2.2.2; have := Hl.out; omega
        have Hx := Lib.hid (And.intro hLd (And.intro hkd (And.intro hkk (And.intro hvg (And.intro hown (And.intro hpre (And.intro hX9 hXz)))))))
        clear hLd hkd hkk hvg hpre hX9 hXz hmd
        generalize W.drew = V at *
        obtain ⟨r0, r1, r2, r3, r4, r5⟩ := y1.cells
        have c7 := y2.cell
        by_cases hd : mget 0 m x.2 = left - 1
        · have hdb : (mget 0 m x.2 == left - 1) = true := by simp [hd]
          rw [hdb]
          have Hd := Lib.hid hd
          clear hd hdb
          have hgb := pl_not_row zbd hown (by decide)
          have hgD : ∀ D ∈ Ds, ∀ g, v.ownBlock = some g → g ≠ D := fun D hD => row_cells hown (Hx.out.1.mks.2 D hD).2
          have hVz := Hx.out.1.hz
          have hbV := zbd.lt
          obtain ⟨C9, hC9⟩ : ∃ C9 : Nat → Prop, C9 = fun k => (k = Bh ∨ k = Bp) ∨ (k = b6 ∨ k = b ∨ (w.heap.size ≤ k ∧ k < w.heap.size + 2) ∨ k ∈ Ds) := ⟨_, rfl⟩
          have h2D : w.heap.size + 2 ∉ Ds := fun h => by
            have := (Hx.out.1.mks.2 _ h).2
            have y2' : V.heap[w.heap.size + 2]? = _ := y2
            rw [y2'] at this
            cases this
          have hstep : ∀ (v' : Value) (w1 : World), (V.alloc (.cells #[.int .i64 (x.1 : Int)] 3)).grownBy w1 v.ownBlock → (v'.ownBlock = v.ownBlock ∨ v'.ownBlock = some (V.alloc (.cells #[.int .i64 (x.1 : Int)] 3)).heap.size) →
              Keep w.heap.size C9 X V (w1.setCell ⟨w.heap.size + 2, 0, none⟩ v') ∧ ∀ g, v'.ownBlock = some g → ¬ X g ∧ ¬ C9 g := by
            intro v' w1 hgrow hat
            refine row_appended (b := w.heap.size + 2) hown (by omega) (by omega) hgrow hat (fun h => by have := Hx.out.2.2.2.2.2.2.1 _ h; omega) ?_ ?_ ?_ ?_
            · rw [hC9]
              rintro (h | h | h | h | h)
              · omega
              · omega
              · omega
              · omega
              · exact h2D h
            · intro g hg
              have h1 := Hx.out.2.2.2.1 g hg
              refine ⟨h1.1, ?_⟩
              rw [hC9]
              rintro (h | h | h | h | h)
              · omega
              · omega
              · exact hgb g hg h
              · omega
              · exact hgD g h g hg rfl
            · intro k h
              have := (Hx.out.2.2.2.2.2.2.2 k h).2
              omega
            · intro k h
              rw [hC9] at h
              rcases h with (h | h) | h | h | h | h
              · have := hBh.lt; omega
              · have := hBp.lt; omega
              · omega
              · omega
              · omega
              · have := HD.out.1 k h; omega
          have hCb : X b ∨ C9 b := .inr (by rw [hC9]; exact .inr (.inr (.inl rfl)))
          have hC1 : X (w.heap.size + 1) ∨ C9 (w.heap.size + 1) := .inr (by rw [hC9]; exact .inr (.inr (.inr (.inl (by omega)))))
          have Hg := Lib.hid (And.intro hC9 (And.intro hCb hC1))
          clear hgb hgD h2D hC9 hCb hC1
          gi_wp2_with (gi_at_builtin; refine wpListIn_append_own_at (F := Fence.wide.inRound l) (nF := 1) _ rfl _ _ 22 rfl w.heap.size 3 i0 (.int .i64 0) 1 8 Tryz.underlying22 hi hz0 hz1 hz2 rfl (by decide) v _ _ rfl (hown.alloc _) ⟨V.heap.size, 0, none⟩ 1 1 [.int .i64 x.1] rfl rfl (cell_one_new _ _ _) (by simp [Value.oneCell']) (by simp only [maxLen]; omega) (by omega) (by simp; omega) ?_; intro v' w1 hown' hgrow _ hat; obtain ⟨hkp, hv9⟩ := hstep v' w1 hgrow hat; obtain ⟨g', cap', rfl⟩ := ownsRow_succ hown'; obtain ⟨hv1, hv2, hr2, hk2, hb2⟩ := y2.appended (by decide) hown (by omega) (by omega) hown' hgrow; have hc1 := hv1.cell; have hf1 := hv1.frozen; have zb9 : PlAt _ b x.2 := hkp.same _ _ zbd Hg.out.2.1; have y19 : PlAt _ (w.heap.size + 1) q := hkp.same _ _ y1 Hg.out.2.2; obtain ⟨e0, e1, e2, e3, e4, e5⟩ := zb9.cells; obtain ⟨s0, s1, s2, s3, s4, s5⟩ := y19.cells; obtain ⟨g0, g1, g2, g3, g4, g5⟩ := y19.frozens)
          have hne := hv2.not_row (by decide) hr2
          have hvn : ∀ g, (Value.slice (some ⟨g', 0, none⟩) (row.length + 1) cap').ownBlock = some g → ¬ X g ∧ g ≠ Bh ∧ g ≠ Bp ∧ g ≠ b6 ∧ ¬ (w.heap.size ≤ g ∧ g < w.heap.size + 3) := by
            intro g hg
            obtain ⟨h1, h2⟩ := hv9 g hg
            have h3 : g ≠ w.heap.size + 2 := by rintro rfl; exact hne hg.symm
            rw [Hg.out.1] at h2
            refine ⟨h1, fun h => h2 (.inl (.inl h)), fun h => h2 (.inl (.inr h)), fun h => h2 (.inr (.inl h)), fun h => h2 (.inr (.inr (.inr (.inl ⟨h.1, ?_⟩))))⟩
            omega
          have hC1' : ¬ X (w.heap.size + 1) := fun h => by have := Hx.out.2.2.2.2.2.2.1 _ h; omega
          refine ⟨Hx.out.2.1.trans ((hk2.from _).trans (st6_others.from _)), (Hx.out.2.2.1.trans (hkp.weaken ?_)).trans (Keep.st6 (by omega) hC1' (by omega) _ _ _ _ _ _), rfl, pre, x, rfl, Hx.out.2.2.2.2.2.1, Hd.out, ?_⟩
          · intro k hk
            rw [Hg.out.1]
            exact .inl hk
          · have hsz := hkp.below.size
            have hz6 := (st6_others (W := w1.setCell ⟨w.heap.size + 2, 0, none⟩ (.slice (some ⟨g', 0, none⟩) (row.length + 1) cap')) (b := w.heap.size + 1) (x0 := .int .i64 x.2.n) (x1 := .int .i64 x.2.a) (x2 := .int .i64 x.2.b) (x3 := .int .i64 x.2.c) (x4 := .int .i64 x.2.d) (x5 := .int .i64 x.2.e)).size
            have hC9 := Hg.out.1
            have hC9H : X w.heap.size ∨ C9 w.heap.size := .inr (by rw [hC9]; exact .inr (.inr (.inr (.inl (by omega)))))
            have hC96 : X b6 ∨ C9 b6 := .inr (by rw [hC9]; exact .inr (.inl rfl))
            refine ⟨Hx.out.2.2.2.2.2.2.1, ?_, ?_, y19.store x.2, ?_, ⟨_, st6_bx hv2 (by omega), ?_, hvn⟩, ?_, st6_below (Hx.out.1.bl.trans hkp.below) (by omega)⟩
            · exact Nat.le_trans (Nat.le_trans hVz hsz) hz6
            · exact (st6_heap _ (w.heap.size + 1) _ _ _ _ _ _ w.heap.size (by omega)).trans (hkp.same _ _ Hx.out.1.tb hC9H)
            · exact st6_bx (hkp.same _ _ Hx.out.1.lf hC96) (by omega)
            · have hr2' := row_heap hr2 (fun g hg => st6_heap (w1.setCell ⟨w.heap.size + 2, 0, none⟩ (.slice (some ⟨g', 0, none⟩) (row.length + 1) cap')) (w.heap.size + 1) (.int .i64 x.2.n) (.int .i64 x.2.a) (.int .i64 x.2.b) (.int .i64 x.2.c) (.int .i64 x.2.d) (.int .i64 x.2.e) g (by have := (hvn g hg).2.2.2.2; omega))
              simp only [List.length_append, List.length_cons, List.length_nil, List.map_append, List.map_cons, List.map_nil]
              exact hr2'
            · refine Hx.out.1.mks.same fun D hD hh => ?_
              have hD1 : D ≠ w.heap.size + 1 := by
                rintro rfl
                have y1' : V.heap[w.heap.size + 1]? = _ := y1
                rw [y1'] at hh
                cases hh
              exact (st6_heap _ (w.heap.size + 1) _ _ _ _ _ _ D hD1).trans (hkp.same _ _ hh (.inr (by rw [hC9]; exact .inr (.inr (.inr (.inr hD))))))
        · have hdb : (mget 0 m x.2 == left - 1) = false := by simp [hd]
          rw [hdb]
          have Hd := Lib.hid hd
          clear hd hdb
          gi_wp2_with (fail)
          refine ⟨Hx.out.2.1, Hx.out.2.2.1, Hx.out.1, fun y hy => ?_⟩
          rcases List.mem_append.1 hy with hy | hy
          · exact Hx.out.2.2.2.2.2.1 y hy
          · have e : y = x := by simpa using hy
            rw [e]; exact Hd.out
      case done =>
        rintro D xs X W hD hS ⟨hL, hpre⟩ hKD
        have c6 := hL.lf.cell
        have hwr := Hwr.out
        rw [← marks_cons]
        gi_wp2_with (fail)
        have hl0 := Hl.out
        have hk := Hr.out.1
        refine Handed.intro (left - 1).toNat (by omega) (hIJ _ _ _ ⟨_, D :: Ds, q, row, left - 1, _, _, _, _, _, _, _, _, _, _, _, _, _, _, _, _, _, _, _, _, _, _, _, _, _, _, _, _, _, _, rfl, ⟨rfl, by have := Hr.out.2.1; omega, Hr.out.2.2.1, ?_, by have := hL.hz; omega, by have := Hr.out.2.2.2.2.2; omega⟩, hL.next hz3 hD hKD HD.out.1⟩)
        rw [← Hr.out.2.2.2.1, show k = (left - 1).toNat + 1 by omega, longF_none]
        intro y hy
        have e : (((left - 1).toNat : Nat) : Int) = left - 1 := by omega
        rw [e]
        exact hpre y (hS ▸ hy)
      case stop =>
        rintro D c' pre X W hD ⟨rest, hrest⟩ ⟨rfl, pre', x, rfl, e2, e3, hL⟩ hKD
        have c6 := hL.lf.cell
        have hwr := Hwr.out
        rw [← marks_cons]
        have He := Lib.hid (And.intro e2 e3)
        clear e2 e3
        gi_wp2_with (fail)
        have hl0 := Hl.out
        have hk := Hr.out.1
        have e : (((left - 1).toNat : Nat) : Int) = left - 1 := by omega
        have hxm : x ∈ visitsF ts q := by rw [← hrest]; simp
        refine Handed.intro (left - 1).toNat (by omega) (hIJ _ _ _ ⟨_, D :: Ds, x.2, row ++ [(x.1 : Int)], left - 1, _, _, _, _, _, _, _, _, _, _, _, _, _, _, _, _, _, _, _, _, _, _, _, _, _, _, _, _, _, _, rfl, ⟨rfl, by have := Hr.out.2.1; omega, visitsF_good hv Hr.out.2.2.1 hxm, ?_, by have := hL.hz; omega, by have := Hr.out.2.2.2.2.2; simp; omega⟩, hL.next hz3 hD hKD HD.out.1⟩)
        rw [← Hr.out.2.2.2.1, show k = (left - 1).toNat + 1 by omega, longF_some (pre := pre') (rest := rest) (x := x) (by rw [← hrest]; simp) (fun y hy => by rw [e]; exact He.out.1 y hy) (by rw [e]; exact He.out.2)]
        simp
    · have Hl := Lib.hid hl0
      clear hl0
      gi_wp2_with (fail)
      refine leaves_marks (n := w.heap.size) Ds _ hmks ?_
      have hr0 : row = longF ts m L0.toNat p := by
        have h1 := Hr.out.2.2.2.1
        have h2 : k = 0 := by have := Hr.out.1; have := Hl.out; omega
        rw [h2] at h1
        simpa [longF] using h1
      exact ⟨_, results_tmp rfl _ _ _, v, rfl, by rw [← hr0]; exact putAll_row Ds _ hmks hown, putAll_below Ds _ hBr hBr.size (fun D hD => (hmks.2 D hD).1)⟩
end Go.Proofs.YthjgecblkagelaaGreat

/- Lasts. -/
namespace Go.Proofs.YthjgecblkagelaaGreat
open Go.RowKit Go.Shelf

attribute [local go_sem] Oper.semAt_some

noncomputable def lastsR (ts ss : List Int) : List Int × Int := if statedF ts ss ≠ 0 then ([], statedF ts ss) else if 0 < mget 0 (tabE ts).1 (plOf ss) then ([], 5) else (longF ts (tabE ts).2.1 (mget 0 (tabE ts).2.1 (plOf ss)).toNat (plOf ss), 0)
theorem lasts_results (W : World) (tmps : Array Value) (x y : Value) (t2 : tmps.getD 4 undef = x) (t3 : tmps.getD 5 undef = y) : (results Tryz.f32 tmps).run Tryz.prog W = .ok (.tuple #[x, y]) W := by
  simp only [Array.getD_eq_getD_getElem?] at t2 t3
  simp [results, Tryz.results32, go_sem, t2, t3]
set_option maxRecDepth 100000 in
set_option maxHeartbeats 2000000 in
theorem Lasts_any (w : World) (B1 B2 : Nat) (A1 A2 : Option Addr) (n c m d : Nat) (ts ss : List Int) (h1 : IntsAt w B1 A1 n ts) (hB1 : B1 ≤ w.heap.size) (h2 : IntsAt w B2 A2 m ss) (hB2 : B2 ≤ w.heap.size) (he : statedF ts ss = 0 → Ends ts) :
    Calls Tryz.prog 32 #[.agg #[.slice A1 n c], .slice A2 m d] w (ListRes w (lastsR ts ss)) := by
  have hb0 : Below w.heap.size w (w.alloc (.cells #[.slice A1 n c] 24)) := (Below.refl _ w).alloc (Nat.le_refl _) _
  go_enter Tryz.func32, Tryz.ntmps32
  go_wp2_with (fail)
  refine (tableAt_any _ B1 B2 A1 A2 n c m d ts ss (h1.below hb0 hB1) (by have := hb0.size; omega) (h2.below hb0 hB2) (by have := hb0.size; omega) he).mono ?_
  rintro e w2 ⟨hb, ⟨hr, ms, ml, rfl, hT⟩ | ⟨hr, rfl⟩⟩
  · have hB := hb0.trans (hb.mono hb0.size)
    obtain ⟨hv, hl, hg⟩ := stated_valid hr
    obtain ⟨p, hp⟩ : ∃ p, p = plOf ss := ⟨_, rfl⟩
    rw [← hp] at hg ⊢
    have hr1 : lastsR ts ss = if 0 < mget 0 (tabE ts).1 p then ([], 5) else (longF ts (tabE ts).2.1 (mget 0 (tabE ts).2.1 p).toNat p, 0) := by unfold lastsR; rw [if_neg (by simp [hr]), hp]
    have Hr := Lib.hid hr1
    clear hr hr1 hp hb hb0
    have x0 := (TbAt.new w2 A1 n c ms ml).alloc (.cells (plc p) 64)
    have x1 := PlAt.new (w2.alloc (.cells (tbc A1 n c ms ml) 60)) p
    simp only [World.size_alloc] at x1
    have hb0 : Below w2.heap.size w2 ((w2.alloc (.cells (tbc A1 n c ms ml) 60)).alloc (.cells (plc p) 64)) := ((Below.refl _ w2).alloc (Nat.le_refl _) _).alloc (by simp) _
    obtain ⟨t0, t1, t2⟩ := x0.cells
    obtain ⟨c0, c1, c2, c3, c4, c5⟩ := x1.cells
    have hT1 := hT.later hb0
    go_wp2_with (fail)
    refine (isSafe_any _ A1 n c ms ml (tabE ts).1 hT1.safe p).mono ?_
    rintro e w3 ⟨rfl, hb3⟩
    have hB3 : Below w.heap.size w w3 := hB.trans ((hb0.trans (hb3.mono hb0.size)).mono hB.size)
    have hT3 := hT1.later hb3
    have y0 := x0.below hb3 x0.lt
    have y1 := x1.below hb3 x1.lt
    clear t0 t1 t2 c0 c1 c2 c3 c4 c5 hb0
    obtain ⟨t0, t1, t2⟩ := y0.cells
    obtain ⟨c0, c1, c2, c3, c4, c5⟩ := y1.cells
    by_cases h0 : 0 < mget 0 (tabE ts).1 p
    · have hd : decide (0 < mget 0 (tabE ts).1 p) = true := by simp [h0]
      have hr2 := Hr.out
      rw [if_pos h0] at hr2
      have Hr2 := Lib.hid hr2
      rw [hd]
      clear h0 hd hr2
      go_wp2_with (fail)
      refine bodyPost_ret (v := .tuple #[.slice none 0 0, .int .i64 5]) (lasts_results _ _ _ _ (by simp) (by simp)) rfl ?_
      exact ListRes.none Hr2.out hB3
    · have hd : decide (0 < mget 0 (tabE ts).1 p) = false := by simp [h0]
      have hr2 := Hr.out
      rw [if_neg h0] at hr2
      have Hr2 := Lib.hid hr2
      rw [hd]
      clear h0 hd hr2
      go_wp2_with (fail)
      have hok := tabN_ok hv.h5 hv.states hv.h12 1000
      rw [← tabE_eq] at hok
      have hbd := VBd.mget (by omega) p hok.lasts
      refine (longest_any w3 B1 A1 n c ms ml ts (h1.below hB3 hB1) (by have := hB3.size; omega) hv (tabE ts).2.1 hT3.lasts p hg (by omega)).mono ?_
      rintro e w4 ⟨v, rfl, hrow, hb4⟩
      have hB4 := hB3.trans (hb4.mono hB3.size)
      go_wp2_with (fail)
      refine bodyPost_ret (v := .tuple #[v, .int .i64 0]) (lasts_results _ _ _ _ (by simp) (by simp)) rfl ?_
      unfold ListRes
      rw [Hr2.out]
      exact ⟨v, rfl, row_mono hrow hB3.size, hB4⟩
  · have hB := hb0.trans (hb.mono hb0.size)
    have hr1 : lastsR ts ss = ([], statedF ts ss) := by unfold lastsR; rw [if_pos hr]
    obtain ⟨r, hrr⟩ : ∃ r, r = statedF ts ss := ⟨_, rfl⟩
    rw [← hrr] at hr hr1 ⊢
    have Hr := Lib.hid (And.intro hrr hr1)
    clear hrr hr1
    have hr' : (r != 0) = true := by simp [hr]
    go_wp2_with (fail)
    refine bodyPost_ret (v := .tuple #[.slice none 0 0, .int .i64 r]) (lasts_results _ _ _ _ (by simp) (by simp)) rfl ?_
    exact ListRes.none Hr.out.2 ((hB.alloc hB.size _).alloc (by have := hB.size; simp; omega) _)
end Go.Proofs.YthjgecblkagelaaGreat

/- strictlyIncreasing; regions that draw, with two operations that may come up. -/
namespace Go.Proofs.YthjgecblkagelaaGreat
open Go.RowKit Go.Shelf

attribute [local go_sem] Oper.semAt_some

def incrF (xs : List Int) : Bool := (List.range xs.length).all fun i => decide (i = 0) || decide (xs[i - 1]?.getD 0 < xs[i]?.getD 0)
theorem incrF_true {xs : List Int} (h : ∀ i, 1 ≤ i → i < xs.length → xs[i - 1]?.getD 0 < xs[i]?.getD 0) : incrF xs = true := by
  unfold incrF
  rw [List.all_eq_true]
  intro i hi
  have hi := List.mem_range.1 hi
  by_cases h0 : i = 0
  · simp [h0]
  · simp [h i (by omega) hi]
theorem incrF_false {xs : List Int} {i : Nat} (h1 : 1 ≤ i) (hi : i < xs.length) (h : ¬ xs[i - 1]?.getD 0 < xs[i]?.getD 0) : incrF xs = false := by
  unfold incrF
  rw [List.all_eq_false]
  refine ⟨i, List.mem_range.2 hi, ?_⟩
  have : i ≠ 0 := by omega
  simp [this] 
  omega
set_option maxHeartbeats 1000000 in
set_option maxRecDepth 100000 in
theorem increasing_any (w : World) (B : Nat) (A : Option Addr) (n c : Nat) (xs : List Int) (hx : IntsAt w B A n xs) (hB : B ≤ w.heap.size) :
    Calls Tryz.prog 54 #[.slice A n c] w fun e w' => e = .returned (.bool (incrF xs)) ∧ Below w.heap.size w w' := by
  have hm := hx.small
  go_enter Tryz.func54, Tryz.ntmps54
  go_wp2
  go_loopw [3] (fun i wr => ∃ k : Nat, 1 ≤ k ∧ (k ≤ n ∨ k = 1) ∧ i = .int .i64 k ∧ Below w.heap.size w wr ∧ ∀ j, 1 ≤ j → j < k → xs[j - 1]?.getD 0 < xs[j]?.getD 0) (fun i _ => n - (intOf i).toNat)
  case atStart => exact ⟨1, by omega, .inr rfl, rfl, Below.refl _ _, fun j h1 hj => by omega⟩
  case round =>
    obtain ⟨k, hk1, hkn, rfl, hb, hall⟩ := hrel
    have Hall := Lib.hid hall
    clear hall
    by_cases hlt : k < n
    · obtain ⟨j, rfl⟩ : ∃ j, k = j + 1 := ⟨k - 1, by omega⟩
      obtain ⟨b1, o1, hA1, hbB, hc1⟩ := (hx.below hb hB).cell hlt
      obtain ⟨b2, o2, hA2, -, hc2⟩ := (hx.below hb hB).cell (k := j) (by omega)
      rw [hA1] at hA2
      cases hA2
      subst hA1
      have hw1 : IntKind.i64.wrap (((j + 1 : Nat) : Int) - 1) = (j : Int) := by rw [IntKind.wrap_i64]; omega
      have hw2 : ((j + 1 : Nat) : Int) - 1 = (j : Int) := by omega
      cases hq : decide (xs[j]?.getD 0 < xs[j + 1]?.getD 0)
      · have Hq := Lib.hid (of_decide_eq_false hq)
        have hge : xs[j + 1]?.getD 0 ≤ xs[j]?.getD 0 := by have := Hq.out; omega
        clear hq
        go_wp2
        go_quiet (fail)
        go_wp2
        go_ret
        exact ⟨ret_bool (incrF_false (xs := xs) (i := j + 1) (by omega) (by rw [hx.len]; exact hlt) (by have := Hq.out; show ¬ xs[j]?.getD 0 < xs[j + 1]?.getD 0; omega)).symm, hb.trans ⟨rfl, rfl, rfl, Nat.le_refl _, fun _ _ => rfl⟩⟩
      · have Hq := Lib.hid (of_decide_eq_true hq)
        have hge : ¬ xs[j + 1]?.getD 0 ≤ xs[j]?.getD 0 := by have := Hq.out; omega
        clear hq
        go_wp2
        go_quiet (fail)
        go_wp2
        go_roundw
        case rel =>
          exact ⟨j + 2, by omega, by omega, by go_num, hb.trans ⟨rfl, rfl, rfl, Nat.le_refl _, fun _ _ => rfl⟩, fun i h1 hi => by
            by_cases he : i = j + 1
            · rw [he]; exact Hq.out
            · exact Hall.out i h1 (by omega)⟩
        case measure => simp [intOf]; omega
    · go_wp2
      go_ret
      exact ⟨ret_bool (incrF_true fun j h1 hj => Hall.out j h1 (by rw [hx.len] at hj; omega)).symm, hb⟩

section
variable {P : Program} {ops : Array Oper} {md : Region.Mode} {m : Nat} {Q : Exit → Act → World → Prop} {S : World → Prop} {needs : Nat → Bool}
/-- Two operations may come up. -/
theorem wpAnyHI_two {i j : Nat} {oi oj : Oper} {fuel : Nat} {listed : Array Bool} {a : Act} {w : World} (hi : ops[i]? = some oi) (hj : ops[j]? = some oj) (hr : decide (Region.ready md ops listed = [i, j]) = true)
    (h1 : ∀ K' : Act → World → Prop, (∀ a' w', ((needs i = true → S w') ∧ wpAnyHI m P md ops Q S needs fuel (listed.setIfInBounds i true) a' w') → K' a' w') →
      if Region.wanted oi (yielded ops a.tmps) = true then Oper.wpIn Fence.wide m P oi a w K' Q else (∀ f, oi.about P w a.eval = some f → Fence.wide.fn f) ∧ K' (a.put oi.dst undef) w)
    (h2 : ∀ K' : Act → World → Prop, (∀ a' w', ((needs j = true → S w') ∧ wpAnyHI m P md ops Q S needs fuel (listed.setIfInBounds j true) a' w') → K' a' w') →
      if Region.wanted oj (yielded ops a.tmps) = true then Oper.wpIn Fence.wide m P oj a w K' Q else (∀ f, oj.about P w a.eval = some f → Fence.wide.fn f) ∧ K' (a.put oj.dst undef) w) : wpAnyHI m P md ops Q S needs (fuel + 1) listed a w := by
  have hr := of_decide_eq_true hr
  refine ⟨fun h0 => (by rw [h0] at hr; cases hr), fun k hk => ?_⟩
  rw [hr] at hk
  simp only [List.mem_cons, List.not_mem_nil, or_false] at hk
  rcases hk with rfl | rfl
  · exact wpOpIn_step hi h1
  · exact wpOpIn_step hj h2
theorem region_held_wp {id : Nat} {a : Act} {w : World} (m : Nat) (S : World → Prop) (needs : Nat → Bool) (hm : P.follows .mixedOrders = true)
    (h : ∀ K : Act → World → Prop, (∀ a w, Q .normal a w → K a w) → wpAnyHI m P .any ops (Exit.then K (fun _ _ _ => False)) S needs ops.size (Array.replicate ops.size false) a w.drew) : (Code.region id ops true).wp P Q a w :=
  wpIn_wide.1 (region_held S needs hm h)
end
end Go.Proofs.YthjgecblkagelaaGreat
