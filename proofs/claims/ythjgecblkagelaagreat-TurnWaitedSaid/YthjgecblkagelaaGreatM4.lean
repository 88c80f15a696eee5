/- Parts of a proof: N O. -/
import Derived.Test.YthjgecblkagelaaGreatM3
import Derived.DeepKeys3

/- Maps whose keys are places. -/
namespace Go.Proofs.YthjgecblkagelaaGreat
open Go.RowKit Go.Shelf

theorem checkKey_pl (em : Bool) (p : Pl) (w : World) : (Instr.checkKey em 10000 64 (plv p)).run Tryz.prog w = .ok () w := by kernel_rfl

theorem part_pl0 (p : Pl) (w : World) : (part 3 (plc p) 0).run Tryz.prog w = .ok (.int .i64 p.n) w := by kernel_rfl
theorem part_pl1 (p : Pl) (w : World) : (part 62 (plc p) 1).run Tryz.prog w = .ok (.agg #[.int .i64 p.a, .int .i64 p.b, .int .i64 p.c, .int .i64 p.d, .int .i64 p.e]) w := by kernel_rfl

theorem eqInt (d : Nat) (x y : Int) (w : World) : (Op.equalIn (d + 1) 3 (.int .i64 x) (.int .i64 y)).run Tryz.prog w = .ok (decide (x = y)) w := by
  rw [run_equalIn_int w d 3 .i64 .i64 x y Tryz.underlying3]
  rfl

theorem equal_held (d : Nat) (a b c d' e a2 b2 c2 d2 e2 : Int) (w : World) : (Op.equalIn (d + 2) 62 (.agg #[.int .i64 a, .int .i64 b, .int .i64 c, .int .i64 d', .int .i64 e]) (.agg #[.int .i64 a2, .int .i64 b2, .int .i64 c2, .int .i64 d2, .int .i64 e2])).run Tryz.prog w =
    .ok (decide (a = a2) && (decide (b = b2) && (decide (c = c2) && (decide (d' = d2) && decide (e = e2))))) w := by
  rw [Op.equalIn]
  simp [Sem.run_bind, Tryz.runUnderlying62, Tryz.sizeOf3, Result.andThen, List.range', part, Tryz.isAgg3, eqInt]
  by_cases ha2 : a = a2
  rotate_left
  · simp [ha2]
  subst ha2
  simp [Sem.run_bind, Result.andThen, Tryz.isAgg3, eqInt]
  by_cases hb2 : b = b2
  rotate_left
  · simp [hb2]
  subst hb2
  simp [Sem.run_bind, Result.andThen, Tryz.isAgg3, eqInt]
  by_cases hc2 : c = c2
  rotate_left
  · simp [hc2]
  subst hc2
  simp [Sem.run_bind, Result.andThen, Tryz.isAgg3, eqInt]
  by_cases hd2 : d' = d2
  rotate_left
  · simp [hd2]
  subst hd2
  simp [Sem.run_bind, Result.andThen, Tryz.isAgg3, eqInt]
  by_cases he2 : e = e2
  rotate_left
  · simp [he2]
  subst he2
  simp

theorem equal_pl (p q : Pl) (w : World) : (Op.equal 64 (plv p) (plv q)).run Tryz.prog w = .ok (decide (p = q)) w := by
  have hiff : decide (p = q) = (decide (p.n = q.n) && (decide (p.a = q.a) && (decide (p.b = q.b) && (decide (p.c = q.c) && (decide (p.d = q.d) && decide (p.e = q.e)))))) := by
    obtain ⟨n, a, b, c, d, e⟩ := p
    obtain ⟨n', a', b', c', d', e'⟩ := q
    simp
  rw [hiff]
  unfold Op.equal Op.maxDepth plv
  rw [show (10000 : Nat) = 9999 + 1 from rfl, run_equalIn_struct w 9999 64 _ _ (by kernel_rfl) (by kernel_rfl)]
  have hfs : (Tryz.prog.fieldsOf 64).toList = [((Tryz.prog.fieldsOf 64)[0]?).getD default, ((Tryz.prog.fieldsOf 64)[1]?).getD default] := by kernel_rfl
  have n1 : (((Tryz.prog.fieldsOf 64)[0]?).getD default).name = "windows" := by kernel_rfl
  have t1 : (((Tryz.prog.fieldsOf 64)[0]?).getD default).type = 3 := by kernel_rfl
  have o1 : (((Tryz.prog.fieldsOf 64)[0]?).getD default).offset = 0 := by kernel_rfl
  have n2 : (((Tryz.prog.fieldsOf 64)[1]?).getD default).name = "held" := by kernel_rfl
  have t2 : (((Tryz.prog.fieldsOf 64)[1]?).getD default).type = 62 := by kernel_rfl
  have o2 : (((Tryz.prog.fieldsOf 64)[1]?).getD default).offset = 1 := by kernel_rfl
  generalize ((Tryz.prog.fieldsOf 64)[0]?).getD default = f1 at *
  generalize ((Tryz.prog.fieldsOf 64)[1]?).getD default = f2 at *
  rw [hfs]
  have w1 : f1.name ≠ "_" := by rw [n1]; decide
  have w2 : f2.name ≠ "_" := by rw [n2]; decide
  simp only [Op.eqFields, w1, w2, t1, t2, o1, o2, ne_eq, not_false_eq_true, if_true, Sem.run_bind, part_pl0, Result.andThen_ok, eqInt]
  cases decide (p.n = q.n)
  · simp
  simp only [Sem.run_bind, part_pl1, Result.andThen_ok, equal_held, Bool.not_true, if_false, Bool.true_and, Bool.false_eq_true]
  generalize (decide (p.a = q.a) && _) = r
  cases r <;> simp

/-- A map in the heap: places, each with a value. -/
structure MapAt (α : Type) (enc : α → Value) (W : World) (b : Nat) (m : List (Pl × α)) : Prop where
  ex : ∃ (es : Array MapEntry) (clock : Nat), W.heap[b]? = some (.map es clock) ∧ es.toList.map (fun e => (e.key, e.val)) = m.map (fun x => (plv x.1, enc x.2)) ∧
    (∀ e ∈ es.toList, e.born < clock) ∧ (es.toList.map (·.born)).Nodup

/-- Where a place stands in a map, and its value. -/
def mfind {α : Type} (p : Pl) : List (Pl × α) → Option (Nat × α)
  | [] => none
  | x :: m => if p = x.1 then some (0, x.2) else (mfind p m).map fun r => (r.1 + 1, r.2)

theorem findAsking_pl {α : Type} (enc : α → Value) (p : Pl) (w : World) : ∀ (es : List MapEntry) (m : List (Pl × α)) (i : Nat), es.map (fun e => (e.key, e.val)) = m.map (fun x => (plv x.1, enc x.2)) →
    (Instr.findAsking 64 (plv p) es i).run Tryz.prog w = .ok ((mfind p m).map fun r => (r.1 + i, enc r.2)) w := by
  intro es
  induction es with
  | nil =>
    intro m i h
    cases m with
    | nil => simp [Instr.findAsking, mfind]
    | cons x m => cases h
  | cons e es ih =>
    intro m i h
    cases m with
    | nil => cases h
    | cons x m =>
      simp only [List.map_cons, List.cons.injEq, Prod.mk.injEq] at h
      obtain ⟨⟨hk, hv⟩, h⟩ := h
      simp only [Instr.findAsking, Sem.run_bind, hk, equal_pl, Result.andThen_ok]
      by_cases hp : p = x.1
      · simp [hp, mfind, hv]
      · simp only [mfind, hp, decide_false, if_false, Bool.false_eq_true]
        rw [ih m (i + 1) h]
        cases mfind p m with
        | none => rfl
        | some r => simp; omega

theorem findKey_pl {α : Type} (enc : α → Value) (p : Pl) (w : World) (es : List MapEntry) (m : List (Pl × α)) (h : es.map (fun e => (e.key, e.val)) = m.map (fun x => (plv x.1, enc x.2))) :
    (Instr.findKey 64 (plv p) es).run Tryz.prog w = .ok ((mfind p m).map fun r => (r.1, enc r.2)) w := by
  rw [run_findKey_eq (P := Tryz.prog) (w := w) (k := 64) (by kernel_rfl)]
  exact findAsking_pl enc p w es m 0 h

def mget {α : Type} (z : α) (m : List (Pl × α)) (p : Pl) : α := match mfind p m with | some r => r.2 | none => z

theorem lookup_pl {α : Type} {enc : α → Value} {W : World} {b : Nat} {m : List (Pl × α)} (h : MapAt α enc W b m) (mt et : TypeId) (z : α) (hm : Tryz.prog.underlying mt = some (.map 64 et)) (hz : ∀ w, (zeroValue et).run Tryz.prog w = .ok (enc z) w) (p : Pl) :
    (Instr.lookup mt (.map (some b)) (plv p) false).run Tryz.prog W = .ok (enc (mget z m p)) W := by
  obtain ⟨es, clock, hh, he, -, -⟩ := h
  have hg : (getObj b).run Tryz.prog W = .ok (.map es clock) W := by simp [getObj, Sem.run, hh]
  simp only [Instr.lookup, Sem.run_bind, run_underlying hm, Result.andThen_ok, hg, Sem.run_pure, checkKey_pl, findKey_pl enc p W es.toList m he]
  unfold mget
  cases mfind p m with
  | none => simp [hz]
  | some r => simp

end Go.Proofs.YthjgecblkagelaaGreat

/- Maps whose keys are places: what is stored, deleted, counted, cleared. -/
namespace Go.Proofs.YthjgecblkagelaaGreat
open Go.RowKit Go.Shelf

def mset {α : Type} (p : Pl) (v : α) : List (Pl × α) → List (Pl × α)
  | [] => [(p, v)]
  | x :: m => if p = x.1 then (x.1, v) :: m else x :: mset p v m
def mdel {α : Type} (p : Pl) : List (Pl × α) → List (Pl × α)
  | [] => []
  | x :: m => if p = x.1 then m else x :: mdel p m

theorem sameBits_pl (p : Pl) : Instr.sameBits 10000 (plv p) (plv p) = true := by
  rw [show (10000 : Nat) = 9999 + 1 from rfl]
  simp [Instr.sameBits, plc]

section
variable {α : Type} {enc : α → Value} {W : World} {b : Nat} {m : List (Pl × α)}

theorem MapAt.lt (h : MapAt α enc W b m) : b < W.heap.size := by
  obtain ⟨es, clock, hh, -⟩ := h
  exact (Array.getElem?_eq_some_iff.1 hh).1
theorem MapAt.same (h : MapAt α enc W b m) {W' : World} (hs : W'.heap[b]? = W.heap[b]?) : MapAt α enc W' b m := by
  obtain ⟨es, clock, hh, h⟩ := h
  exact ⟨es, clock, hs.trans hh, h⟩
theorem MapAt.below (h : MapAt α enc W b m) {W' : World} {D : Nat} (hb : Below D W W') (hD : b < D) : MapAt α enc W' b m := h.same (hb.block b hD)
theorem MapAt.alloc (h : MapAt α enc W b m) (o : Obj) : MapAt α enc (W.alloc o) b m := h.same (Below.heap_alloc W o b h.lt)
theorem MapAt.setCell (h : MapAt α enc W b m) (g o : Nat) (u : Value) : MapAt α enc (W.setCell ⟨g, o, none⟩ u) b m := by
  obtain ⟨es, clock, hh, h⟩ := h
  refine ⟨es, clock, ?_, h⟩
  by_cases hg : b = g
  · subst hg
    simp [World.setCell, Array.getElem?_modify, hh]
  · exact (Below.heap_setCell W ⟨g, o, none⟩ u b hg).trans hh
theorem MapAt.putOther (h : MapAt α enc W b m) {g : Nat} (hg : b ≠ g) (o : Obj) : MapAt α enc (W.putObj g o) b m := h.same (World.putObj_heap_other hg)
theorem MapAt.new (W : World) : MapAt α enc (W.alloc (.map #[] 0)) W.heap.size [] := ⟨#[], 0, World.alloc_heap_new W _, rfl, by simp, by simp⟩

theorem mfind_at {p : Pl} : ∀ {m : List (Pl × α)} {i : Nat} {v : α}, mfind p m = some (i, v) → i < m.length ∧ m[i]? = some (p, v)
  | [], _, _, h => by cases h
  | x :: m, i, v, h => by
    unfold mfind at h
    by_cases hp : p = x.1
    · rw [if_pos hp] at h
      cases h
      exact ⟨by simp, by simp [hp]⟩
    · rw [if_neg hp] at h
      cases hm : mfind p m with
      | none => rw [hm] at h; cases h
      | some r =>
        rw [hm] at h
        cases h
        have := mfind_at (m := m) (i := r.1) (v := r.2) hm
        exact ⟨by simpa using this.1, by simpa using this.2⟩
theorem mset_at {p : Pl} {v' : α} : ∀ {m : List (Pl × α)} {i : Nat} {v : α}, mfind p m = some (i, v) → mset p v' m = m.set i (p, v')
  | [], _, _, h => by cases h
  | x :: m, i, v, h => by
    unfold mfind at h
    unfold mset
    by_cases hp : p = x.1
    · rw [if_pos hp] at h ⊢
      cases h
      simp [hp]
    · rw [if_neg hp] at h ⊢
      cases hm : mfind p m with
      | none => rw [hm] at h; cases h
      | some r =>
        rw [hm] at h
        cases h
        simp [mset_at (m := m) (i := r.1) (v := r.2) hm]
theorem mset_none {p : Pl} {v' : α} : ∀ {m : List (Pl × α)}, mfind p m = none → mset p v' m = m ++ [(p, v')]
  | [], _ => rfl
  | x :: m, h => by
    unfold mfind at h
    unfold mset
    by_cases hp : p = x.1
    · rw [if_pos hp] at h; cases h
    · rw [if_neg hp] at h ⊢
      cases hm : mfind p m with
      | none => simp [mset_none hm]
      | some r => rw [hm] at h; cases h
theorem mdel_at {p : Pl} : ∀ {m : List (Pl × α)} {i : Nat} {v : α}, mfind p m = some (i, v) → mdel p m = m.eraseIdx i
  | [], _, _, h => by cases h
  | x :: m, i, v, h => by
    unfold mfind at h
    unfold mdel
    by_cases hp : p = x.1
    · rw [if_pos hp] at h ⊢
      cases h
      simp
    · rw [if_neg hp] at h ⊢
      cases hm : mfind p m with
      | none => rw [hm] at h; cases h
      | some r =>
        rw [hm] at h
        cases h
        simp [mdel_at (m := m) (i := r.1) (v := r.2) hm]
theorem mdel_none {p : Pl} : ∀ {m : List (Pl × α)}, mfind p m = none → mdel p m = m
  | [], _ => rfl
  | x :: m, h => by
    unfold mfind at h
    unfold mdel
    by_cases hp : p = x.1
    · rw [if_pos hp] at h; cases h
    · rw [if_neg hp] at h ⊢
      cases hm : mfind p m with
      | none => simp [mdel_none hm]
      | some r => rw [hm] at h; cases h

theorem erase_list {β : Type} (es : Array β) (i : Nat) : (es.eraseIdxIfInBounds i).toList = es.toList.eraseIdx i := by
  unfold Array.eraseIdxIfInBounds
  split
  · simp
  · rename_i h
    rw [List.eraseIdx_of_length_le (by simpa using h)]
theorem map_eraseIdx' {β γ : Type} (f : β → γ) (l : List β) (i : Nat) : (l.eraseIdx i).map f = (l.map f).eraseIdx i := by
  induction l generalizing i with
  | nil => rfl
  | cons x l ih => cases i with
    | zero => rfl
    | succ i => simp [ih]

theorem run_putObj (b : Nat) (es : Array MapEntry) (c : Nat) (o : Obj) (hh : W.heap[b]? = some (.map es c)) : (setObj b o).run Tryz.prog W = .ok () (W.putObj b o) := by
  simp [setObj, Sem.run, hh, World.putObj]
theorem run_getMap (b : Nat) (es : Array MapEntry) (c : Nat) (hh : W.heap[b]? = some (.map es c)) : (getObj b).run Tryz.prog W = .ok (.map es c) W := by simp [getObj, Sem.run, hh]

theorem keys_set (es : Array MapEntry) (i : Nat) (p : Pl) (v : α) (f : MapEntry → MapEntry) (hi : i < es.size) (hf : ((f es[i]).key, (f es[i]).val) = (plv p, enc v)) (he : es.toList.map (fun e => (e.key, e.val)) = m.map (fun x => (plv x.1, enc x.2))) :
    (es.modify i f).toList.map (fun e => (e.key, e.val)) = (m.set i (p, v)).map (fun x => (plv x.1, enc x.2)) := by
  rw [List.map_set, ← he]
  apply List.ext_getElem
  · simp
  · intro j h1 h2
    simp at h1
    simp only [List.getElem_map, Array.getElem_toList, Array.getElem_modify, List.getElem_set]
    by_cases hij : i = j
    · subst hij; simp [hf]
    · simp [hij]
theorem borns_set (es : Array MapEntry) (i : Nat) (f : MapEntry → MapEntry) (hf : ∀ e, (f e).born = e.born) : (es.modify i f).toList.map (·.born) = es.toList.map (·.born) := by
  apply List.ext_getElem
  · simp
  · intro j h1 h2
    simp only [List.getElem_map, Array.getElem_toList, Array.getElem_modify]
    by_cases hij : i = j
    · simp [hij, hf]
    · simp [hij]
theorem born_lt {es : Array MapEntry} {es' : Array MapEntry} {clock : Nat} (h : es'.toList.map (·.born) = es.toList.map (·.born)) (hc : ∀ e ∈ es.toList, e.born < clock) : ∀ e ∈ es'.toList, e.born < clock := by
  intro e he
  have : e.born ∈ es'.toList.map (·.born) := List.mem_map_of_mem he
  rw [h] at this
  obtain ⟨e2, h2, h3⟩ := List.mem_map.1 this
  rw [← h3]
  exact hc e2 h2

theorem update_pl (h : MapAt α enc W b m) (mt et : TypeId) (hm : Tryz.prog.underlying mt = some (.map 64 et)) (p : Pl) (v : α) :
    ∃ o : Obj, o.isCells = false ∧ (Instr.mapUpdate mt (.map (some b)) (plv p) (enc v)).run Tryz.prog W = .ok () (W.putObj b o) ∧ MapAt α enc (W.putObj b o) b (mset p v m) := by
  have hlt := h.lt
  obtain ⟨es, clock, hh, he, hc, hn⟩ := h
  have hg := run_getMap b es clock hh
  have hsz : es.size = m.length := by have := congrArg List.length he; simpa using this
  cases hf : mfind p m with
  | none =>
    refine ⟨.map (es.push { key := plv p, val := enc v, born := clock }) (clock + 1), rfl, ?_, ⟨_, _, World.putObj_heap_same hlt, ?_, ?_, ?_⟩⟩
    · simp only [Instr.mapUpdate, Sem.run_bind, run_underlying hm, Result.andThen_ok, hg, checkKey_pl, findKey_pl enc p W es.toList m he, hf, Option.map_none]
      exact run_putObj b es clock _ hh
    · rw [mset_none hf]; simp [he]
    · intro e hm'
      simp at hm'
      rcases hm' with hm' | rfl
      · have := hc e (by simpa using hm'); omega
      · simp
    · simp only [Array.toList_push, List.map_append, List.map_cons, List.map_nil]
      rw [List.nodup_append]
      refine ⟨hn, by simp, ?_⟩
      intro x hx y hy
      simp at hy
      subst hy
      obtain ⟨e, he', rfl⟩ := List.mem_map.1 hx
      have := hc e he'
      omega
  | some r =>
    obtain ⟨i, v0⟩ := r
    obtain ⟨hi, hmi⟩ := mfind_at hf
    have hie : i < es.size := by omega
    have hkey : es[i].key = plv p := by
      have h1 := congrArg (fun l => l[i]?) he
      simp only [List.getElem?_map, hmi] at h1
      rw [Array.getElem?_toList, Array.getElem?_eq_getElem hie] at h1
      simp at h1
      exact h1.1
    refine ⟨.map (es.modify i fun e => { e with key := plv p, val := enc v }) clock, rfl, ?_, ⟨_, _, World.putObj_heap_same hlt, ?_, ?_, ?_⟩⟩
    · simp only [Instr.mapUpdate, Sem.run_bind, run_underlying hm, Result.andThen_ok, hg, checkKey_pl, findKey_pl enc p W es.toList m he, hf, Option.map_some]
      rw [Array.getElem?_eq_getElem hie]
      simp only [Option.map_some, Option.getD_some, hkey, Instr.keyThatStays, sameBits_pl, if_true, Sem.run_pure, Result.andThen_ok]
      exact run_putObj b es clock _ hh
    · rw [mset_at hf]
      exact keys_set es i p v _ hie rfl he
    · exact born_lt (borns_set es i _ (fun _ => rfl)) hc
    · have hbs := borns_set es i (fun e => { e with key := plv p, val := enc v }) (fun _ => rfl)
      rw [hbs]; exact hn

theorem delete_pl (h : MapAt α enc W b m) (mt et ty : TypeId) (hm : Tryz.prog.underlying mt = some (.map 64 et)) (kt : TypeId) (p : Pl) :
    ∃ o : Obj, o.isCells = false ∧ (Builtin.delete_ #[mt, kt] ty #[.map (some b), plv p]).run Tryz.prog W = .ok (.tuple #[]) (W.putObj b o) ∧ MapAt α enc (W.putObj b o) b (mdel p m) := by
  have hlt := h.lt
  obtain ⟨es, clock, hh, he, hc, hn⟩ := h
  have hg := run_getMap b es clock hh
  have hsz : es.size = m.length := by have := congrArg List.length he; simpa using this
  cases hf : mfind p m with
  | none =>
    refine ⟨.map es clock, rfl, ?_, ⟨_, _, World.putObj_heap_same hlt, ?_, hc, hn⟩⟩
    · simp [Builtin.delete_, Sem.run_bind, run_underlying hm, Result.andThen, hg, checkKey_pl, findKey_pl enc p W es.toList m he, hf, run_putObj b es clock _ hh]
    · rw [mdel_none hf]; exact he
  | some r =>
    obtain ⟨i, v0⟩ := r
    obtain ⟨hi, hmi⟩ := mfind_at hf
    refine ⟨.map (es.eraseIdxIfInBounds i) clock, rfl, ?_, ⟨_, _, World.putObj_heap_same hlt, ?_, ?_, ?_⟩⟩
    · simp [Builtin.delete_, Sem.run_bind, run_underlying hm, Result.andThen, hg, checkKey_pl, findKey_pl enc p W es.toList m he, hf, run_putObj b es clock _ hh]
    · rw [mdel_at hf, erase_list, map_eraseIdx', he, map_eraseIdx']
    · intro e hm'
      rw [erase_list] at hm'
      exact hc e (List.mem_of_mem_eraseIdx hm')
    · rw [erase_list, map_eraseIdx']
      exact (List.eraseIdx_sublist _ _).nodup hn

theorem len_pl (h : MapAt α enc W b m) (mt et ty : TypeId) (hm : Tryz.prog.underlying mt = some (.map 64 et)) : (Builtin.len_ #[mt] ty #[.map (some b)]).run Tryz.prog W = .ok (.int .i64 (m.length : Int)) W := by
  obtain ⟨es, clock, hh, he, hc, hn⟩ := h
  have hg := run_getMap b es clock hh
  have hsz : es.size = m.length := by have := congrArg List.length he; simpa using this
  simp [Builtin.len_, Sem.run_bind, run_underlying hm, Result.andThen, hg, goInt, hsz]

theorem clear_pl (h : MapAt α enc W b m) (mt et ty : TypeId) (hm : Tryz.prog.underlying mt = some (.map 64 et)) :
    ∃ o : Obj, o.isCells = false ∧ (Builtin.clear_ #[mt] ty #[.map (some b)]).run Tryz.prog W = .ok (.tuple #[]) (W.putObj b o) ∧ MapAt α enc (W.putObj b o) b [] := by
  have hlt := h.lt
  obtain ⟨es, clock, hh, he, hc, hn⟩ := h
  have hg := run_getMap b es clock hh
  refine ⟨.map #[] clock, rfl, ?_, ⟨_, _, World.putObj_heap_same hlt, by simp, by simp, by simp⟩⟩
  simp [Builtin.clear_, Sem.run_bind, run_underlying hm, Result.andThen, hg, run_putObj b es clock _ hh]

/-- 'm[k]--' where k is in the map: the entry is held, then stored. -/
theorem entry_pl (h : MapAt α enc W b m) (mt et : TypeId) (hm : Tryz.prog.underlying mt = some (.map 64 et)) (p : Pl) (i : Nat) (v0 : α) (hf : mfind p m = some (i, v0)) :
    ∃ (o1 : Obj) (st : Nat), o1.isCells = false ∧ (Instr.mapEntry mt (.map (some b)) (plv p)).run Tryz.prog W = .ok (.tuple #[enc v0, .int .i64 (st : Int)]) (W.putObj b o1) ∧ MapAt α enc (W.putObj b o1) b m ∧
      ∀ v, ∃ o2 : Obj, o2.isCells = false ∧ (Instr.entryStore mt (.map (some b)) (.int .i64 (st : Int)) (enc v)).run Tryz.prog (W.putObj b o1) = .ok () ((W.putObj b o1).putObj b o2) ∧ MapAt α enc ((W.putObj b o1).putObj b o2) b (mset p v m) := by
  have hlt := h.lt
  obtain ⟨es, clock, hh, he, hc, hn⟩ := h
  have hg := run_getMap b es clock hh
  have hsz : es.size = m.length := by have := congrArg List.length he; simpa using this
  obtain ⟨hi, hmi⟩ := mfind_at hf
  have hie : i < es.size := by omega
  have hkv : es[i].key = plv p ∧ es[i].val = enc v0 := by
    have h1 := congrArg (fun l => l[i]?) he
    simp only [List.getElem?_map, hmi] at h1
    rw [Array.getElem?_toList, Array.getElem?_eq_getElem hie] at h1
    simpa using h1
  have hes : (es.modify i fun e => { e with key := plv p }) = es := by
    apply Array.ext
    · simp
    · intro j h1 h2
      rw [Array.getElem_modify]
      split
      · rename_i hij
        subst hij
        have hx : ∀ x : MapEntry, x.key = plv p → ({ x with key := plv p } : MapEntry) = x := by
          rintro ⟨k, v, bn⟩ hk
          simp only at hk
          subst hk
          rfl
        exact hx _ hkv.1
      · rfl
  have hW : (W.putObj b (.map es clock)).heap[b]? = some (.map es clock) := World.putObj_heap_same hlt
  refine ⟨.map es clock, es[i].born, rfl, ?_, ⟨es, clock, hW, he, hc, hn⟩, fun v => ?_⟩
  · simp only [Instr.mapEntry, Sem.run_bind, run_underlying hm, Result.andThen_ok, hg, checkKey_pl, findKey_pl enc p W es.toList m he, hf, Option.map_some]
    rw [Array.getElem?_eq_getElem hie]
    simp only [Option.map_some, Option.getD_some, hkv.1, Instr.keyThatStays, sameBits_pl, if_true, Sem.run_pure, Result.andThen_ok, hes, run_putObj b es clock _ hh, goInt]
  · have hfi : es.findIdx? (fun e => (e.born : Int) == (es[i].born : Int)) = some i := by
      rw [Array.findIdx?_eq_some_iff_getElem]
      refine ⟨hie, by simp, fun j hj => ?_⟩
      have hne : es[j].born ≠ es[i].born := by
        intro e
        have := List.pairwise_iff_getElem.1 hn j i (by simp; omega) (by simpa using hie) hj
        simp at this
        exact this e
      simp; omega
    refine ⟨.map (es.modify i fun e => { e with val := enc v }) clock, rfl, ?_, ⟨_, _, World.putObj_heap_same (by simpa using hlt), ?_, ?_, ?_⟩⟩
    · simp only [Instr.entryStore, Sem.run_bind, run_getMap b es clock hW, Result.andThen_ok, asInt, asIntOf, Sem.run_pure, hfi]
      exact run_putObj b es clock _ hW
    · rw [mset_at hf]
      exact keys_set es i p v _ hie (by rw [hkv.1]) he
    · exact born_lt (borns_set es i _ (fun _ => rfl)) hc
    · have hbs := borns_set es i (fun e => { e with val := enc v }) (fun _ => rfl)
      rw [hbs]; exact hn
end
end Go.Proofs.YthjgecblkagelaaGreat
