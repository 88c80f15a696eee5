/- Parts of a proof: LW LX LY. -/
import Derived.Test.YtlgibckhkdggdaaH6
import Derived.DeepKeys3

/- lag: maps whose keys are spans (as N, O). -/
namespace Go.Proofs.Ytlgibckhkdggdaa
open Go.RowKit Go.Shelf

abbrev Sp := Int × Int
@[reducible] def spC (p : Sp) : Array Value := #[.int .i64 p.1, .int .i64 p.2]
@[reducible] def spV (p : Sp) : Value := .agg (spC p)
theorem checkKey_pl (em : Bool) (p : Sp) (w : World) : (Instr.checkKey em 10000 119 (spV p)).run Try.prog w = .ok () w := by kernel_rfl
theorem part_pl0 (p : Sp) (w : World) : (part 3 (spC p) 0).run Try.prog w = .ok (.int .i64 p.1) w := by kernel_rfl
theorem part_pl1 (p : Sp) (w : World) : (part 3 (spC p) 1).run Try.prog w = .ok (.int .i64 p.2) w := by kernel_rfl
theorem eqInt (d : Nat) (x y : Int) (w : World) : (Op.equalIn (d + 1) 3 (.int .i64 x) (.int .i64 y)).run Try.prog w = .ok (decide (x = y)) w := by
  rw [run_equalIn_int w d 3 .i64 .i64 x y Try.underlying3]
  rfl
theorem equal_pl (p q : Sp) (w : World) : (Op.equal 119 (spV p) (spV q)).run Try.prog w = .ok (decide (p = q)) w := by
  have hiff : decide (p = q) = (decide (p.1 = q.1) && decide (p.2 = q.2)) := by
    obtain ⟨n, a⟩ := p
    obtain ⟨n', a'⟩ := q
    simp
  rw [hiff]
  unfold Op.equal Op.maxDepth spV
  rw [show (10000 : Nat) = 9999 + 1 from rfl, run_equalIn_struct w 9999 119 _ _ (by kernel_rfl) (by kernel_rfl)]
  have hfs : (Try.prog.fieldsOf 119).toList = [((Try.prog.fieldsOf 119)[0]?).getD default, ((Try.prog.fieldsOf 119)[1]?).getD default] := by kernel_rfl
  have n1 : (((Try.prog.fieldsOf 119)[0]?).getD default).name = "shafts" := by kernel_rfl
  have t1 : (((Try.prog.fieldsOf 119)[0]?).getD default).type = 3 := by kernel_rfl
  have o1 : (((Try.prog.fieldsOf 119)[0]?).getD default).offset = 0 := by kernel_rfl
  have n2 : (((Try.prog.fieldsOf 119)[1]?).getD default).name = "turns" := by kernel_rfl
  have t2 : (((Try.prog.fieldsOf 119)[1]?).getD default).type = 3 := by kernel_rfl
  have o2 : (((Try.prog.fieldsOf 119)[1]?).getD default).offset = 1 := by kernel_rfl
  generalize ((Try.prog.fieldsOf 119)[0]?).getD default = f1 at *
  generalize ((Try.prog.fieldsOf 119)[1]?).getD default = f2 at *
  rw [hfs]
  have w1 : f1.name ≠ "_" := by rw [n1]; decide
  have w2 : f2.name ≠ "_" := by rw [n2]; decide
  simp only [Op.eqFields, w1, w2, t1, t2, o1, o2, ne_eq, not_false_eq_true, if_true, Sem.run_bind, part_pl0, Result.andThen_ok, eqInt]
  cases decide (p.1 = q.1)
  · simp
  simp only [Sem.run_bind, part_pl1, Result.andThen_ok, eqInt, Bool.not_true, if_false, Bool.true_and, Bool.false_eq_true]
  cases decide (p.2 = q.2) <;> simp

/-- A map in the heap: places, each with a value. -/
structure MapAt (α : Type) (enc : α → Value) (W : World) (b : Nat) (m : List (Sp × α)) : Prop where
  ex : ∃ (es : Array MapEntry) (clock : Nat), W.heap[b]? = some (.map es clock) ∧ es.toList.map (fun e => (e.key, e.val)) = m.map (fun x => (spV x.1, enc x.2)) ∧
    (∀ e ∈ es.toList, e.born < clock) ∧ (es.toList.map (·.born)).Nodup

/-- Where a place stands in a map, and its value. -/
def mfind {α : Type} (p : Sp) : List (Sp × α) → Option (Nat × α)
  | [] => none
  | x :: m => if p = x.1 then some (0, x.2) else (mfind p m).map fun r => (r.1 + 1, r.2)

theorem findAsking_pl {α : Type} (enc : α → Value) (p : Sp) (w : World) : ∀ (es : List MapEntry) (m : List (Sp × α)) (i : Nat), es.map (fun e => (e.key, e.val)) = m.map (fun x => (spV x.1, enc x.2)) →
    (Instr.findAsking 119 (spV p) es i).run Try.prog w = .ok ((mfind p m).map fun r => (r.1 + i, enc r.2)) w := by
  intro es
  induction es with
  | nil =>
    intro m i h
    cases m with
    | nil => simp [Instr.findAsking, mfind]
    | cons x m => cases h
  | cons e es ih =>
    intro m i h
    cases m with
    | nil => cases h
    | cons x m =>
      simp only [List.map_cons, List.cons.injEq, Prod.mk.injEq] at h
      obtain ⟨⟨hk, hv⟩, h⟩ := h
      simp only [Instr.findAsking, Sem.run_bind, hk, equal_pl, Result.andThen_ok]
      by_cases hp : p = x.1
      · simp [hp, mfind, hv]
      · simp only [mfind, hp, decide_false, if_false, Bool.false_eq_true]
        rw [ih m (i + 1) h]
        cases mfind p m with
        | none => rfl
        | some r => simp; omega

theorem findKey_pl {α : Type} (enc : α → Value) (p : Sp) (w : World) (es : List MapEntry) (m : List (Sp × α)) (h : es.map (fun e => (e.key, e.val)) = m.map (fun x => (spV x.1, enc x.2))) :
    (Instr.findKey 119 (spV p) es).run Try.prog w = .ok ((mfind p m).map fun r => (r.1, enc r.2)) w := by
  rw [run_findKey_eq (P := Try.prog) (w := w) (k := 119) (by kernel_rfl)]
  exact findAsking_pl enc p w es m 0 h

def mget {α : Type} (z : α) (m : List (Sp × α)) (p : Sp) : α := match mfind p m with | some r => r.2 | none => z

theorem lookup_pl {α : Type} {enc : α → Value} {W : World} {b : Nat} {m : List (Sp × α)} (h : MapAt α enc W b m) (mt et : TypeId) (z : α) (hm : Try.prog.underlying mt = some (.map 119 et)) (hz : ∀ w, (zeroValue et).run Try.prog w = .ok (enc z) w) (p : Sp) :
    (Instr.lookup mt (.map (some b)) (spV p) false).run Try.prog W = .ok (enc (mget z m p)) W := by
  obtain ⟨es, clock, hh, he, -, -⟩ := h
  have hg : (getObj b).run Try.prog W = .ok (.map es clock) W := by simp [getObj, Sem.run, hh]
  simp only [Instr.lookup, Sem.run_bind, run_underlying hm, Result.andThen_ok, hg, Sem.run_pure, checkKey_pl, findKey_pl enc p W es.toList m he]
  unfold mget
  cases mfind p m with
  | none => simp [hz]
  | some r => simp


def mset {α : Type} (p : Sp) (v : α) : List (Sp × α) → List (Sp × α)
  | [] => [(p, v)]
  | x :: m => if p = x.1 then (x.1, v) :: m else x :: mset p v m
def mdel {α : Type} (p : Sp) : List (Sp × α) → List (Sp × α)
  | [] => []
  | x :: m => if p = x.1 then m else x :: mdel p m

theorem sameBits_pl (p : Sp) : Instr.sameBits 10000 (spV p) (spV p) = true := by
  rw [show (10000 : Nat) = 9999 + 1 from rfl]
  simp [Instr.sameBits, spC]

section
variable {α : Type} {enc : α → Value} {W : World} {b : Nat} {m : List (Sp × α)}

theorem MapAt.lt (h : MapAt α enc W b m) : b < W.heap.size := by
  obtain ⟨es, clock, hh, -⟩ := h
  exact (Array.getElem?_eq_some_iff.1 hh).1
theorem MapAt.same (h : MapAt α enc W b m) {W' : World} (hs : W'.heap[b]? = W.heap[b]?) : MapAt α enc W' b m := by
  obtain ⟨es, clock, hh, h⟩ := h
  exact ⟨es, clock, hs.trans hh, h⟩
theorem MapAt.below (h : MapAt α enc W b m) {W' : World} {D : Nat} (hb : Below D W W') (hD : b < D) : MapAt α enc W' b m := h.same (hb.block b hD)
theorem MapAt.alloc (h : MapAt α enc W b m) (o : Obj) : MapAt α enc (W.alloc o) b m := h.same (Below.heap_alloc W o b h.lt)
theorem MapAt.setCell (h : MapAt α enc W b m) (g o : Nat) (u : Value) : MapAt α enc (W.setCell ⟨g, o, none⟩ u) b m := by
  obtain ⟨es, clock, hh, h⟩ := h
  refine ⟨es, clock, ?_, h⟩
  by_cases hg : b = g
  · subst hg
    simp [World.setCell, Array.getElem?_modify, hh]
  · exact (Below.heap_setCell W ⟨g, o, none⟩ u b hg).trans hh
theorem MapAt.putOther (h : MapAt α enc W b m) {g : Nat} (hg : b ≠ g) (o : Obj) : MapAt α enc (W.putObj g o) b m := h.same (World.putObj_heap_other hg)
theorem MapAt.new (W : World) : MapAt α enc (W.alloc (.map #[] 0)) W.heap.size [] := ⟨#[], 0, World.alloc_heap_new W _, rfl, by simp, by simp⟩

theorem mfind_at {p : Sp} : ∀ {m : List (Sp × α)} {i : Nat} {v : α}, mfind p m = some (i, v) → i < m.length ∧ m[i]? = some (p, v)
  | [], _, _, h => by cases h
  | x :: m, i, v, h => by
    unfold mfind at h
    by_cases hp : p = x.1
    · rw [if_pos hp] at h
      cases h
      exact ⟨by simp, by simp [hp]⟩
    · rw [if_neg hp] at h
      cases hm : mfind p m with
      | none => rw [hm] at h; cases h
      | some r =>
        rw [hm] at h
        cases h
        have := mfind_at (m := m) (i := r.1) (v := r.2) hm
        exact ⟨by simpa using this.1, by simpa using this.2⟩
theorem mset_at {p : Sp} {v' : α} : ∀ {m : List (Sp × α)} {i : Nat} {v : α}, mfind p m = some (i, v) → mset p v' m = m.set i (p, v')
  | [], _, _, h => by cases h
  | x :: m, i, v, h => by
    unfold mfind at h
    unfold mset
    by_cases hp : p = x.1
    · rw [if_pos hp] at h ⊢
      cases h
      simp [hp]
    · rw [if_neg hp] at h ⊢
      cases hm : mfind p m with
      | none => rw [hm] at h; cases h
      | some r =>
        rw [hm] at h
        cases h
        simp [mset_at (m := m) (i := r.1) (v := r.2) hm]
theorem mset_none {p : Sp} {v' : α} : ∀ {m : List (Sp × α)}, mfind p m = none → mset p v' m = m ++ [(p, v')]
  | [], _ => rfl
  | x :: m, h => by
    unfold mfind at h
    unfold mset
    by_cases hp : p = x.1
    · rw [if_pos hp] at h; cases h
    · rw [if_neg hp] at h ⊢
      cases hm : mfind p m with
      | none => simp [mset_none hm]
      | some r => rw [hm] at h; cases h
theorem mdel_at {p : Sp} : ∀ {m : List (Sp × α)} {i : Nat} {v : α}, mfind p m = some (i, v) → mdel p m = m.eraseIdx i
  | [], _, _, h => by cases h
  | x :: m, i, v, h => by
    unfold mfind at h
    unfold mdel
    by_cases hp : p = x.1
    · rw [if_pos hp] at h ⊢
      cases h
      simp
    · rw [if_neg hp] at h ⊢
      cases hm : mfind p m with
      | none => rw [hm] at h; cases h
      | some r =>
        rw [hm] at h
        cases h
        simp [mdel_at (m := m) (i := r.1) (v := r.2) hm]
theorem mdel_none {p : Sp} : ∀ {m : List (Sp × α)}, mfind p m = none → mdel p m = m
  | [], _ => rfl
  | x :: m, h => by
    unfold mfind at h
    unfold mdel
    by_cases hp : p = x.1
    · rw [if_pos hp] at h; cases h
    · rw [if_neg hp] at h ⊢
      cases hm : mfind p m with
      | none => simp [mdel_none hm]
      | some r => rw [hm] at h; cases h

theorem erase_list {β : Type} (es : Array β) (i : Nat) : (es.eraseIdxIfInBounds i).toList = es.toList.eraseIdx i := by
  unfold Array.eraseIdxIfInBounds
  split
  · simp
  · rename_i h
    rw [List.eraseIdx_of_length_le (by simpa using h)]
theorem map_eraseIdx' {β γ : Type} (f : β → γ) (l : List β) (i : Nat) : (l.eraseIdx i).map f = (l.map f).eraseIdx i := by
  induction l generalizing i with
  | nil => rfl
  | cons x l ih => cases i with
    | zero => rfl
    | succ i => simp [ih]

theorem run_putObj (b : Nat) (es : Array MapEntry) (c : Nat) (o : Obj) (hh : W.heap[b]? = some (.map es c)) : (setObj b o).run Try.prog W = .ok () (W.putObj b o) := by
  simp [setObj, Sem.run, hh, World.putObj]
theorem run_getMap (b : Nat) (es : Array MapEntry) (c : Nat) (hh : W.heap[b]? = some (.map es c)) : (getObj b).run Try.prog W = .ok (.map es c) W := by simp [getObj, Sem.run, hh]

theorem keys_set (es : Array MapEntry) (i : Nat) (p : Sp) (v : α) (f : MapEntry → MapEntry) (hi : i < es.size) (hf : ((f es[i]).key, (f es[i]).val) = (spV p, enc v)) (he : es.toList.map (fun e => (e.key, e.val)) = m.map (fun x => (spV x.1, enc x.2))) :
    (es.modify i f).toList.map (fun e => (e.key, e.val)) = (m.set i (p, v)).map (fun x => (spV x.1, enc x.2)) := by
  rw [List.map_set, ← he]
  apply List.ext_getElem
  · simp
  · intro j h1 h2
    simp at h1
    simp only [List.getElem_map, Array.getElem_toList, Array.getElem_modify, List.getElem_set]
    by_cases hij : i = j
    · subst hij; simp [hf]
    · simp [hij]
theorem borns_set (es : Array MapEntry) (i : Nat) (f : MapEntry → MapEntry) (hf : ∀ e, (f e).born = e.born) : (es.modify i f).toList.map (·.born) = es.toList.map (·.born) := by
  apply List.ext_getElem
  · simp
  · intro j h1 h2
    simp only [List.getElem_map, Array.getElem_toList, Array.getElem_modify]
    by_cases hij : i = j
    · simp [hij, hf]
    · simp [hij]
theorem born_lt {es : Array MapEntry} {es' : Array MapEntry} {clock : Nat} (h : es'.toList.map (·.born) = es.toList.map (·.born)) (hc : ∀ e ∈ es.toList, e.born < clock) : ∀ e ∈ es'.toList, e.born < clock := by
  intro e he
  have : e.born ∈ es'.toList.map (·.born) := List.mem_map_of_mem he
  rw [h] at this
  obtain ⟨e2, h2, h3⟩ := List.mem_map.1 this
  rw [← h3]
  exact hc e2 h2

theorem update_pl (h : MapAt α enc W b m) (mt et : TypeId) (hm : Try.prog.underlying mt = some (.map 119 et)) (p : Sp) (v : α) :
    ∃ o : Obj, o.isCells = false ∧ (Instr.mapUpdate mt (.map (some b)) (spV p) (enc v)).run Try.prog W = .ok () (W.putObj b o) ∧ MapAt α enc (W.putObj b o) b (mset p v m) := by
  have hlt := h.lt
  obtain ⟨es, clock, hh, he, hc, hn⟩ := h
  have hg := run_getMap b es clock hh
  have hsz : es.size = m.length := by have := congrArg List.length he; simpa using this
  cases hf : mfind p m with
  | none =>
    refine ⟨.map (es.push { key := spV p, val := enc v, born := clock }) (clock + 1), rfl, ?_, ⟨_, _, World.putObj_heap_same hlt, ?_, ?_, ?_⟩⟩
    · simp only [Instr.mapUpdate, Sem.run_bind, run_underlying hm, Result.andThen_ok, hg, checkKey_pl, findKey_pl enc p W es.toList m he, hf, Option.map_none]
      exact run_putObj b es clock _ hh
    · rw [mset_none hf]; simp [he]
    · intro e hm'
      simp at hm'
      rcases hm' with hm' | rfl
      · have := hc e (by simpa using hm'); omega
      · simp
    · simp only [Array.toList_push, List.map_append, List.map_cons, List.map_nil]
      rw [List.nodup_append]
      refine ⟨hn, by simp, ?_⟩
      intro x hx y hy
      simp at hy
      subst hy
      obtain ⟨e, he', rfl⟩ := List.mem_map.1 hx
      have := hc e he'
      omega
  | some r =>
    obtain ⟨i, v0⟩ := r
    obtain ⟨hi, hmi⟩ := mfind_at hf
    have hie : i < es.size := by omega
    have hkey : es[i].key = spV p := by
      have h1 := congrArg (fun l => l[i]?) he
      simp only [List.getElem?_map, hmi] at h1
      rw [Array.getElem?_toList, Array.getElem?_eq_getElem hie] at h1
      simp at h1
      exact h1.1
    refine ⟨.map (es.modify i fun e => { e with key := spV p, val := enc v }) clock, rfl, ?_, ⟨_, _, World.putObj_heap_same hlt, ?_, ?_, ?_⟩⟩
    · simp only [Instr.mapUpdate, Sem.run_bind, run_underlying hm, Result.andThen_ok, hg, checkKey_pl, findKey_pl enc p W es.toList m he, hf, Option.map_some]
      rw [Array.getElem?_eq_getElem hie]
      simp only [Option.map_some, Option.getD_some, hkey, Instr.keyThatStays, sameBits_pl, if_true, Sem.run_pure, Result.andThen_ok]
      exact run_putObj b es clock _ hh
    · rw [mset_at hf]
      exact keys_set es i p v _ hie rfl he
    · exact born_lt (borns_set es i _ (fun _ => rfl)) hc
    · have hbs := borns_set es i (fun e => { e with key := spV p, val := enc v }) (fun _ => rfl)
      rw [hbs]; exact hn

theorem delete_pl (h : MapAt α enc W b m) (mt et ty : TypeId) (hm : Try.prog.underlying mt = some (.map 119 et)) (kt : TypeId) (p : Sp) :
    ∃ o : Obj, o.isCells = false ∧ (Builtin.delete_ #[mt, kt] ty #[.map (some b), spV p]).run Try.prog W = .ok (.tuple #[]) (W.putObj b o) ∧ MapAt α enc (W.putObj b o) b (mdel p m) := by
  have hlt := h.lt
  obtain ⟨es, clock, hh, he, hc, hn⟩ := h
  have hg := run_getMap b es clock hh
  have hsz : es.size = m.length := by have := congrArg List.length he; simpa using this
  cases hf : mfind p m with
  | none =>
    refine ⟨.map es clock, rfl, ?_, ⟨_, _, World.putObj_heap_same hlt, ?_, hc, hn⟩⟩
    · simp [Builtin.delete_, Sem.run_bind, run_underlying hm, Result.andThen, hg, checkKey_pl, findKey_pl enc p W es.toList m he, hf, run_putObj b es clock _ hh]
    · rw [mdel_none hf]; exact he
  | some r =>
    obtain ⟨i, v0⟩ := r
    obtain ⟨hi, hmi⟩ := mfind_at hf
    refine ⟨.map (es.eraseIdxIfInBounds i) clock, rfl, ?_, ⟨_, _, World.putObj_heap_same hlt, ?_, ?_, ?_⟩⟩
    · simp [Builtin.delete_, Sem.run_bind, run_underlying hm, Result.andThen, hg, checkKey_pl, findKey_pl enc p W es.toList m he, hf, run_putObj b es clock _ hh]
    · rw [mdel_at hf, erase_list, map_eraseIdx', he, map_eraseIdx']
    · intro e hm'
      rw [erase_list] at hm'
      exact hc e (List.mem_of_mem_eraseIdx hm')
    · rw [erase_list, map_eraseIdx']
      exact (List.eraseIdx_sublist _ _).nodup hn

theorem len_pl (h : MapAt α enc W b m) (mt et ty : TypeId) (hm : Try.prog.underlying mt = some (.map 119 et)) : (Builtin.len_ #[mt] ty #[.map (some b)]).run Try.prog W = .ok (.int .i64 (m.length : Int)) W := by
  obtain ⟨es, clock, hh, he, hc, hn⟩ := h
  have hg := run_getMap b es clock hh
  have hsz : es.size = m.length := by have := congrArg List.length he; simpa using this
  simp [Builtin.len_, Sem.run_bind, run_underlying hm, Result.andThen, hg, goInt, hsz]

theorem clear_pl (h : MapAt α enc W b m) (mt et ty : TypeId) (hm : Try.prog.underlying mt = some (.map 119 et)) :
    ∃ o : Obj, o.isCells = false ∧ (Builtin.clear_ #[mt] ty #[.map (some b)]).run Try.prog W = .ok (.tuple #[]) (W.putObj b o) ∧ MapAt α enc (W.putObj b o) b [] := by
  have hlt := h.lt
  obtain ⟨es, clock, hh, he, hc, hn⟩ := h
  have hg := run_getMap b es clock hh
  refine ⟨.map #[] clock, rfl, ?_, ⟨_, _, World.putObj_heap_same hlt, by simp, by simp, by simp⟩⟩
  simp [Builtin.clear_, Sem.run_bind, run_underlying hm, Result.andThen, hg, run_putObj b es clock _ hh]

end
end Go.Proofs.Ytlgibckhkdggdaa

/- lag: the least of a chain. -/
namespace Go.Proofs.Ytlgibckhkdggdaa
open Go.RowKit Go.Shelf

attribute [local go_sem] Oper.semAt_some

theorem mfind_mset {p q : Sp} {v : Int} : ∀ {m : List (Sp × Int)}, mget 0 (mset p v m) q = if q = p then v else mget 0 m q
  | [] => by
    unfold mset mget mfind
    by_cases h : q = p
    · simp [h]
    · simp [h, mfind]
  | x :: m => by
    unfold mset
    by_cases hp : p = x.1
    · rw [if_pos hp]
      unfold mget mfind
      by_cases h : q = p
      · simp [h, hp]
      · simp [h, ← hp]
    · rw [if_neg hp]
      have ih := mfind_mset (p := p) (q := q) (v := v) (m := m)
      unfold mget at ih ⊢
      unfold mfind
      by_cases h : q = x.1
      · simp [h]
        exact fun e => absurd e.symm hp
      · simp only [h, if_false]
        cases h1 : mfind q (mset p v m) <;> cases h2 : mfind q m <;> rw [h1, h2] at ih <;> simpa using ih
theorem mget_mdel {p q : Sp} (hq : q ≠ p) : ∀ {m : List (Sp × Int)}, mget 0 (mdel p m) q = mget 0 m q
  | [] => rfl
  | x :: m => by
    unfold mdel
    by_cases hp : p = x.1
    · rw [if_pos hp]
      unfold mget
      conv => rhs; unfold mfind
      rw [if_neg (by rw [← hp]; exact hq)]
      cases mfind q m <;> rfl
    · rw [if_neg hp]
      have ih := mget_mdel hq (m := m)
      unfold mget at ih ⊢
      unfold mfind
      by_cases h : q = x.1
      · simp [h]
      · simp only [h, if_false]
        cases h1 : mfind q (mdel p m) <;> cases h2 : mfind q m <;> rw [h1, h2] at ih <;> simpa using ih

/-- The least of the first s + 1 shafts of a chain for t turns. -/
def lvl (css : List (List Int)) : Nat → Nat → Int
  | 0, t => leastF (css[0]?.getD []) t
  | s + 1, t => (bestO (fun p : Part 0 t => leastF (css[s + 1]?.getD []) p.1 + lvl css s (t - p.1)) ltI (partsS 0 t)).getD 0
theorem lvl_mem (css : List (List Int)) (s t : Nat) : ∃ p, p ≤ t ∧ lvl css (s + 1) t = leastF (css[s + 1]?.getD []) p + lvl css s (t - p) := by
  have hne : partsS 0 t ≠ [] := by
    intro e
    have h0 := partsS_len 0 t
    rw [e, List.length_nil] at h0
    omega
  obtain ⟨v, hv⟩ := bestO_some (fun p : Part 0 t => leastF (css[s + 1]?.getD []) p.1 + lvl css s (t - p.1)) ltI _ none (.inl hne)
  rcases bestO_mem _ _ _ _ _ hv with h | ⟨p, -, hp⟩
  · cases h
  · exact ⟨p.1, (parts_mem.1 p.2).2, by rw [lvl]; unfold bestO; rw [hv]; exact hp⟩
theorem lvl_bound {css : List (List Int)} (hv : ∀ j, j < css.length → Nums (css[j]?.getD [])) : ∀ (s t : Nat), s < css.length → 0 ≤ lvl css s t ∧ lvl css s t ≤ 10000 * t + 10000 * (s + 1)
  | 0, t, h => by
    have := leastF_bound (hv 0 h) t
    rw [lvl]
    omega
  | s + 1, t, h => by
    obtain ⟨p, hp, e⟩ := lvl_mem css s t
    have a := leastF_bound (hv (s + 1) h) p
    have b := lvl_bound hv s (t - p) (by omega)
    rw [e]
    omega

set_option maxRecDepth 100000 in
set_option maxHeartbeats 4000000 in
theorem least1_any (w : World) (b1 b2 b3 mb B : Nat) (A : Option Addr) (n c : Nat) (xs : List Int) (m : List (Sp × Int)) (bef : Int) (p r : Nat) (h1 : Boxed w b1 87 (.slice A n c)) (h2 : Boxed w b2 117 (.map (some mb))) (h3 : Boxed w b3 3 (.int .i64 bef))
    (hx : IntsAt w B A n xs) (hB : B ≤ w.heap.size) (hv : Nums xs) (hp : p ≤ 1000) (hm : MapAt Int encI w mb m) (hb : 0 ≤ mget 0 m (bef, (r : Int)) ∧ mget 0 m (bef, (r : Int)) ≤ 1000000000) :
    Calls Try.prog 96 #[cutV ((p : Int), (r : Int)), .pointer (some ⟨b1, 0, none⟩), .pointer (some ⟨b2, 0, none⟩), .pointer (some ⟨b3, 0, none⟩)] w fun e W' => e = .returned (encI (leastF xs p + mget 0 m (bef, (r : Int)))) ∧ Below w.heap.size w W' := by
  have c1 := h1.cell
  have c2 := h2.cell
  have c3 := h3.cell
  have l1 := h1.lt
  have l2 := h2.lt
  have l3 := h3.lt
  have hlb := leastF_bound hv p
  obtain ⟨x, hxe⟩ : ∃ x, x = mget 0 m (bef, (r : Int)) := ⟨_, rfl⟩
  obtain ⟨y, hye⟩ : ∃ y, y = leastF xs p := ⟨_, rfl⟩
  have hlk : ∀ k, (Instr.lookup 117 (.map (some mb)) (spV (bef, (r : Int))) false).run Try.prog ((w.alloc (.cells #[.int .i64 (p : Int), .int .i64 (r : Int)] 122)).drewN k) = .ok (.int .i64 x) ((w.alloc (.cells #[.int .i64 (p : Int), .int .i64 (r : Int)] 122)).drewN k) := fun k => by
    rw [hxe]
    exact lookup_pl (enc := encI) ((hm.alloc _).same (W' := (w.alloc (.cells #[.int .i64 (p : Int), .int .i64 (r : Int)] 122)).drewN k) rfl) 117 2 0 Try.underlying117 (fun w => by kernel_rfl) (bef, (r : Int))
  have hcl : ∀ k, Calls Try.prog 93 #[.slice A n c, .int .i64 (p : Int)] ((w.alloc (.cells #[.int .i64 (p : Int), .int .i64 (r : Int)] 122)).drewN k) fun e w' => e = .returned (.int .i64 y) ∧ ∃ q, w' = ((w.alloc (.cells #[.int .i64 (p : Int), .int .i64 (r : Int)] 122)).drewN k).drewN q := fun k => by
    rw [hye]
    exact shaftLeast_any _ B A n c p xs ((hx.alloc hB _).drewN _) hv hp
  rw [← hxe] at hb ⊢
  rw [← hye] at hlb ⊢
  have e6 : IntKind.i64.wrap (y + x) = y + x := by rw [IntKind.wrap_i64]; omega
  have Hcl := Lib.hid hcl
  clear hxe hye hb hlb h1 h2 h3 hcl hx hv hp hm
  unfold cutV encI
  go_enter Try.func96, Try.ntmps96
  go_wp2
  go_quiet ((go_at_call 93; exact Calls.quiet_of (Hcl.out _)))
  go_wp2
  go_ret
  exact ⟨by simp, ((Below.refl _ w).alloc (Nat.le_refl _) _).trans (below_drewN _ _)⟩
end Go.Proofs.Ytlgibckhkdggdaa

/- lag: the worst of a board. -/
namespace Go.Proofs.Ytlgibckhkdggdaa
open Go.RowKit Go.Shelf

attribute [local go_sem] Oper.semAt_some

@[reducible] def brdC (A : Option Addr) (n c : Nat) (q : Nat → Int) (A1 A2 : Option Addr) (n1 n2 c1 c2 : Nat) : Array Value := #[.slice A n c, .int .i64 (q 0), .int .i64 (q 1), .int .i64 (q 2), .int .i64 (q 3), .int .i64 (q 4), .int .i64 (q 5), .int .i64 (q 6), .slice A1 n1 c1, .slice A2 n2 c2]
@[reducible] def brdV (A : Option Addr) (n c : Nat) (q : Nat → Int) (A1 A2 : Option Addr) (n1 n2 c1 c2 : Nat) : Value := .agg (brdC A n c q A1 A2 n1 n2 c1 c2)
abbrev BrdAt (W : World) (b : Nat) (A : Option Addr) (n c : Nat) (q : Nat → Int) (A1 A2 : Option Addr) (n1 n2 c1 c2 : Nat) : Prop := W.heap[b]? = some (.cells (brdC A n c q A1 A2 n1 n2 c1 c2) 108 (0, 0))
section
variable {W W' : World} {b : Nat} {A : Option Addr} {n c : Nat} {q : Nat → Int} {A1 A2 : Option Addr} {n1 n2 c1 c2 : Nat}
theorem BrdAt.lt (h : BrdAt W b A n c q A1 A2 n1 n2 c1 c2) : b < W.heap.size := (Array.getElem?_eq_some_iff.1 h).1
theorem BrdAt.cells (h : BrdAt W b A n c q A1 A2 n1 n2 c1 c2) : W.cell? ⟨b, 0, none⟩ = some (.slice A n c) ∧ W.cell? ⟨b, 1, none⟩ = some (.int .i64 (q 0)) ∧ W.cell? ⟨b, 2, none⟩ = some (.int .i64 (q 1)) ∧ W.cell? ⟨b, 3, none⟩ = some (.int .i64 (q 2)) ∧ W.cell? ⟨b, 4, none⟩ = some (.int .i64 (q 3)) ∧ W.cell? ⟨b, 5, none⟩ = some (.int .i64 (q 4)) ∧ W.cell? ⟨b, 6, none⟩ = some (.int .i64 (q 5)) ∧ W.cell? ⟨b, 7, none⟩ = some (.int .i64 (q 6)) ∧ W.cell? ⟨b, 8, none⟩ = some (.slice A1 n1 c1) ∧ W.cell? ⟨b, 9, none⟩ = some (.slice A2 n2 c2) := by
  simp [World.cell?, h]
theorem BrdAt.new (W : World) : BrdAt (W.alloc (.cells (brdC A n c q A1 A2 n1 n2 c1 c2) 108)) W.heap.size A n c q A1 A2 n1 n2 c1 c2 := World.alloc_heap_new W _
theorem BrdAt.below {D : Nat} (h : BrdAt W b A n c q A1 A2 n1 n2 c1 c2) (hb : Below D W W') (hD : b < D) : BrdAt W' b A n c q A1 A2 n1 n2 c1 c2 := (hb.block b hD).trans h
end

set_option maxHeartbeats 1000000 in
theorem behind1_any (w : World) (b b2 B1 B2 : Nat) (A : Option Addr) (n c : Nat) (q : Nat → Int) (A1 A2 : Option Addr) (n1 n2 c1 c2 k t : Nat) (ts os : List Int) (hb : BrdAt w b A n c q A1 A2 n1 n2 c1 c2) (h2 : w.cell? ⟨b2, 0, none⟩ = some (.int .i64 (t : Int)))
    (i1 : IntsAt w B1 A1 n1 ts) (i2 : IntsAt w B2 A2 n2 os) (hk1 : k + t < n1) (hk2 : k < n2) (hn1 : n1 ≤ 1000) (hd : -1000000000 ≤ ts[k + t]?.getD 0 - os[k]?.getD 0 ∧ ts[k + t]?.getD 0 - os[k]?.getD 0 ≤ 1000000000) :
    Calls Try.prog 110 #[.int .i64 (k : Int), .pointer (some ⟨b, 0, none⟩), .pointer (some ⟨b2, 0, none⟩)] w fun e w' => e = .returned (encI (ts[k + t]?.getD 0 - os[k]?.getD 0)) ∧ Below w.heap.size w w' := by
  have hm2 := i2.small
  obtain ⟨d1, o1, rfl, -, e1⟩ := i1.cell hk1
  obtain ⟨d2, o2, rfl, -, e2⟩ := i2.cell hk2
  obtain ⟨x, hx⟩ : ∃ x, x = ts[k + t]?.getD 0 := ⟨_, rfl⟩
  obtain ⟨y, hy⟩ : ∃ y, y = os[k]?.getD 0 := ⟨_, rfl⟩
  rw [← hx] at e1 hd ⊢
  rw [← hy] at e2 hd ⊢
  have e6 : IntKind.i64.wrap (x - y) = x - y := by rw [IntKind.wrap_i64]; omega
  have hkt : IntKind.i64.wrap ((k : Int) + (t : Int)) = ((k + t : Nat) : Int) := by rw [IntKind.wrap_i64]; omega
  obtain ⟨s, hs⟩ : ∃ s, s = k + t := ⟨_, rfl⟩
  rw [← hs] at e1 hkt hk1
  obtain ⟨-, -, -, -, -, -, -, -, p8, p9⟩ := hb.cells
  clear hx hy i1 i2 hd hs hb
  unfold encI
  go_enter Try.func110, Try.ntmps110
  go_wp2
  go_quiet (fail)
  go_wp2
  go_ret
  exact ⟨by simp, below_drewN _ _⟩

theorem eqI64 (d : Nat) (x y : Int) (w : World) : (Op.equalIn (d + 1) 2 (.int .i64 x) (.int .i64 y)).run Try.prog w = .ok (decide (x = y)) w := by
  rw [run_equalIn_int w d 2 .i64 .i64 x y Try.underlying2]
  rfl
def zeroF (q : Nat → Int) : Bool := decide (q 0 = 0) && (decide (q 1 = 0) && (decide (q 2 = 0) && (decide (q 3 = 0) && (decide (q 4 = 0) && (decide (q 5 = 0) && (decide (q 6 = 0)))))))

theorem equal_few (q : Nat → Int) (w : World) : (Op.equalIn 10000 79 (.agg #[.int .i64 (q 0), .int .i64 (q 1), .int .i64 (q 2), .int .i64 (q 3), .int .i64 (q 4), .int .i64 (q 5), .int .i64 (q 6)]) (.agg #[.int .i64 0, .int .i64 0, .int .i64 0, .int .i64 0, .int .i64 0, .int .i64 0, .int .i64 0])).run Try.prog w = .ok (zeroF q) w := by
  unfold zeroF
  rw [show (10000 : Nat) = 9998 + 2 from rfl, Op.equalIn]
  simp [Sem.run_bind, Try.runUnderlying79, Try.sizeOf2, Result.andThen, List.range', part, Try.isAgg2, eqI64]
  by_cases h0 : q 0 = 0
  rotate_left
  · simp [h0]
  simp [h0, Sem.run_bind, Result.andThen, Try.isAgg2, eqI64]
  by_cases h1 : q 1 = 0
  rotate_left
  · simp [h1]
  simp [h1, Sem.run_bind, Result.andThen, Try.isAgg2, eqI64]
  by_cases h2 : q 2 = 0
  rotate_left
  · simp [h2]
  simp [h2, Sem.run_bind, Result.andThen, Try.isAgg2, eqI64]
  by_cases h3 : q 3 = 0
  rotate_left
  · simp [h3]
  simp [h3, Sem.run_bind, Result.andThen, Try.isAgg2, eqI64]
  by_cases h4 : q 4 = 0
  rotate_left
  · simp [h4]
  simp [h4, Sem.run_bind, Result.andThen, Try.isAgg2, eqI64]
  by_cases h5 : q 5 = 0
  rotate_left
  · simp [h5]
  simp [h5, Sem.run_bind, Result.andThen, Try.isAgg2, eqI64]
  by_cases h6 : q 6 = 0
  rotate_left
  · simp [h6]
  simp [h6]

/-- The worst of a board. -/
def worstF (q : Nat → Int) (f : Nat → Int) : Int := if zeroF q = true then 0 else (bestO (fun p : Part 0 99 => f p.1) gtI (partsS 0 99)).getD 0
set_option maxRecDepth 100000 in
set_option maxHeartbeats 4000000 in
theorem worst_any (w : World) (A : Option Addr) (n c : Nat) (q : Nat → Int) (A1 A2 : Option Addr) (n1 n2 c1 c2 : Nat) (vf : Nat) (pre post : Array Value) (f : Nat → Int) (hval : ∀ W, Below w.heap.size w W → ValFn W vf pre post (fun x : Part 0 99 => encI (x.1 : Int)) encI (fun p => f p.1)) :
    Calls Try.prog 86 #[brdV A n c q A1 A2 n1 n2 c1 c2, .func (.func vf) pre post] w fun e w' => e = .returned (encI (worstF q f)) ∧ Below w.heap.size w w' := by
  obtain ⟨V, hV⟩ : ∃ V, V = w.alloc (.cells (brdC A n c q A1 A2 n1 n2 c1 c2) 108) := ⟨_, rfl⟩
  have hb0 : Below w.heap.size w V := by rw [hV]; exact (Below.refl _ w).alloc (Nat.le_refl _) _
  have heq := fun w => equal_few q w
  obtain ⟨z, hz⟩ : ∃ z, z = zeroF q := ⟨_, rfl⟩
  simp only [← hz] at heq
  have hw : worstF q f = if z = true then 0 else (bestO (fun p : Part 0 99 => f p.1) gtI (partsS 0 99)).getD 0 := by unfold worstF; rw [hz]
  have Hw := Lib.hid hw
  have Hval := Lib.hid hval
  clear hz hw hval
  unfold encI
  cases z with
  | true =>
    go_enter Try.func86, Try.ntmps86
    go_wp2_with (fail)
    refine bodyPost_ret (results_tmp rfl _ _ _) rfl ?_
    exact ⟨ret_int (by rw [Hw.out]; rfl), (Below.refl _ w).alloc (Nat.le_refl _) _⟩
  | false =>
    go_enter Try.func86, Try.ntmps86
    go_wp2_with (fail)
    rw [← hV]
    clear hV
    refine (between_box 0 99 V).mono ?_
    rintro e W1 ⟨bl, bh, rfl, hbl, hbh, hb1⟩
    have hB1 := hb0.trans (hb1.mono hb0.size)
    have hit := between1_any W1 bl bh W1.heap.size 0 99 hbl hbh (Nat.le_refl _) (by omega) (by omega)
    go_wp2_with (fail)
    refine (bestInt_any W1 106 _ (fun p : Part 0 99 => (p.1 : Int)) _ _ _ _ _ _ _ _ _ gtI (enters_of Try.func106 (by kernel_rfl) rfl) hit (by
      rintro k (rfl | rfl)
      · exact hbl.lt
      · exact hbh.lt) (Hval.out _ hB1) greater_fn).mono ?_
    rintro e W2 ⟨rfl, hb2⟩
    have hB2 := hB1.trans (hb2.mono hB1.size)
    have he : bestV (bestO (fun p : Part 0 99 => f p.1) gtI (partsS 0 99)) = .int .i64 (worstF q f) := by rw [Hw.out]; rfl
    rw [he]
    clear hit hbl hbh hb1 hb2 he
    go_wp2_with (fail)
    refine bodyPost_ret (results_tmp rfl _ _ _) rfl ?_
    exact ⟨rfl, hB2⟩
end Go.Proofs.Ytlgibckhkdggdaa
