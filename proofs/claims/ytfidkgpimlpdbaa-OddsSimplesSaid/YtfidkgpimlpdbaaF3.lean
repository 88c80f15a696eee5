/- Parts of a proof: SM SN SO SR SY. -/
import Derived.Test.YtfidkgpimlpdbaaF2
import Derived.DeepKeys3
import Derived.Maps.RangeRun
import Derived.RangeFuncLeaves

/- Maps by keys of any comparable type, for symbolic runs. -/
namespace Go.Proofs.Ytfidkgpimlpdbaa
open Go.RowKit Go.Shelf

/-- What a type of keys must give. -/
structure KeyT (P : Program) (kt : TypeId) {κ : Type} [DecidableEq κ] (ek : κ → Value) : Prop where
  check : ∀ em p w, (Instr.checkKey em 10000 kt (ek p)).run P w = .ok () w
  equal : ∀ p q w, (Op.equal kt (ek p) (ek q)).run P w = .ok (decide (p = q)) w
  bits : ∀ p, Instr.sameBits 10000 (ek p) (ek p) = true
  wide : (match P.underlying kt with | some (.array _ _) | some (.struct _) => true | _ => false) = true

/-- A map in the heap: places, each with a value. -/
structure MapAt {κ : Type} (ek : κ → Value) (α : Type) (enc : α → Value) (W : World) (b : Nat) (m : List (κ × α)) : Prop where
  ex : ∃ (es : Array MapEntry) (clock : Nat), W.heap[b]? = some (.map es clock) ∧ es.toList.map (fun e => (e.key, e.val)) = m.map (fun x => (ek x.1, enc x.2)) ∧
    (∀ e ∈ es.toList, e.born < clock) ∧ (es.toList.map (·.born)).Nodup

/-- Where a place stands in a map, and its value. -/
def mfind {κ : Type} [DecidableEq κ] {α : Type} (p : κ) : List (κ × α) → Option (Nat × α)
  | [] => none
  | x :: m => if p = x.1 then some (0, x.2) else (mfind p m).map fun r => (r.1 + 1, r.2)

theorem findAsking_pl {P : Program} {κ : Type} [DecidableEq κ] {kt : TypeId} {ek : κ → Value} (K : KeyT P kt ek) {α : Type} (enc : α → Value) (p : κ) (w : World) : ∀ (es : List MapEntry) (m : List (κ × α)) (i : Nat), es.map (fun e => (e.key, e.val)) = m.map (fun x => (ek x.1, enc x.2)) →
    (Instr.findAsking kt (ek p) es i).run P w = .ok ((mfind p m).map fun r => (r.1 + i, enc r.2)) w := by
  intro es
  induction es with
  | nil =>
    intro m i h
    cases m with
    | nil => simp [Instr.findAsking, mfind]
    | cons x m => cases h
  | cons e es ih =>
    intro m i h
    cases m with
    | nil => cases h
    | cons x m =>
      simp only [List.map_cons, List.cons.injEq, Prod.mk.injEq] at h
      obtain ⟨⟨hk, hv⟩, h⟩ := h
      simp only [Instr.findAsking, Sem.run_bind, hk, K.equal, Result.andThen_ok]
      by_cases hp : p = x.1
      · simp [hp, mfind, hv]
      · simp only [mfind, hp, decide_false, if_false, Bool.false_eq_true]
        rw [ih m (i + 1) h]
        cases mfind p m with
        | none => rfl
        | some r => simp; omega

theorem findKey_pl {P : Program} {κ : Type} [DecidableEq κ] {kt : TypeId} {ek : κ → Value} (K : KeyT P kt ek) {α : Type} (enc : α → Value) (p : κ) (w : World) (es : List MapEntry) (m : List (κ × α)) (h : es.map (fun e => (e.key, e.val)) = m.map (fun x => (ek x.1, enc x.2))) :
    (Instr.findKey kt (ek p) es).run P w = .ok ((mfind p m).map fun r => (r.1, enc r.2)) w := by
  rw [run_findKey_eq (P := P) (w := w) (k := kt) K.wide]
  exact findAsking_pl K enc p w es m 0 h

def mget {κ : Type} [DecidableEq κ] {α : Type} (z : α) (m : List (κ × α)) (p : κ) : α := match mfind p m with | some r => r.2 | none => z

theorem lookup_pl {P : Program} {κ : Type} [DecidableEq κ] {kt : TypeId} {ek : κ → Value} (K : KeyT P kt ek) {α : Type} {enc : α → Value} {W : World} {b : Nat} {m : List (κ × α)} (h : MapAt ek α enc W b m) (mt et : TypeId) (z : α) (hm : P.underlying mt = some (.map kt et)) (hz : ∀ w, (zeroValue et).run P w = .ok (enc z) w) (p : κ) :
    (Instr.lookup mt (.map (some b)) (ek p) false).run P W = .ok (enc (mget z m p)) W := by
  obtain ⟨es, clock, hh, he, -, -⟩ := h
  have hg : (getObj b).run P W = .ok (.map es clock) W := by simp [getObj, Sem.run, hh]
  simp only [Instr.lookup, Sem.run_bind, run_underlying hm, Result.andThen_ok, hg, Sem.run_pure, K.check, findKey_pl K enc p W es.toList m he]
  unfold mget
  cases mfind p m with
  | none => simp [hz]
  | some r => simp


theorem lookupOk_pl {P : Program} {κ : Type} [DecidableEq κ] {kt : TypeId} {ek : κ → Value} (K : KeyT P kt ek) {α : Type} {enc : α → Value} {W : World} {b : Nat} {m : List (κ × α)} (h : MapAt ek α enc W b m) (mt et : TypeId) (z : α) (hm : P.underlying mt = some (.map kt et)) (hz : ∀ w, (zeroValue et).run P w = .ok (enc z) w) (p : κ) :
    (Instr.lookup mt (.map (some b)) (ek p) true).run P W = .ok (.tuple #[enc (mget z m p), .bool (mfind p m).isSome]) W := by
  obtain ⟨es, clock, hh, he, -, -⟩ := h
  have hg : (getObj b).run P W = .ok (.map es clock) W := by simp [getObj, Sem.run, hh]
  simp only [Instr.lookup, Sem.run_bind, run_underlying hm, Result.andThen_ok, hg, Sem.run_pure, K.check, findKey_pl K enc p W es.toList m he]
  unfold mget
  cases mfind p m with
  | none => simp [hz]
  | some r => simp

def mset {κ : Type} [DecidableEq κ] {α : Type} (p : κ) (v : α) : List (κ × α) → List (κ × α)
  | [] => [(p, v)]
  | x :: m => if p = x.1 then (x.1, v) :: m else x :: mset p v m
def mdel {κ : Type} [DecidableEq κ] {α : Type} (p : κ) : List (κ × α) → List (κ × α)
  | [] => []
  | x :: m => if p = x.1 then m else x :: mdel p m


section
variable {P : Program} {κ : Type} {kt : TypeId} {ek : κ → Value} {α : Type} {enc : α → Value} {W : World} {b : Nat} {m : List (κ × α)}

theorem MapAt.lt (h : MapAt ek α enc W b m) : b < W.heap.size := by
  obtain ⟨es, clock, hh, -⟩ := h
  exact (Array.getElem?_eq_some_iff.1 hh).1
theorem MapAt.same (h : MapAt ek α enc W b m) {W' : World} (hs : W'.heap[b]? = W.heap[b]?) : MapAt ek α enc W' b m := by
  obtain ⟨es, clock, hh, h⟩ := h
  exact ⟨es, clock, hs.trans hh, h⟩
theorem MapAt.below (h : MapAt ek α enc W b m) {W' : World} {D : Nat} (hb : Below D W W') (hD : b < D) : MapAt ek α enc W' b m := h.same (hb.block b hD)
theorem MapAt.alloc (h : MapAt ek α enc W b m) (o : Obj) : MapAt ek α enc (W.alloc o) b m := h.same (Below.heap_alloc W o b h.lt)
theorem MapAt.setCell (h : MapAt ek α enc W b m) (g o : Nat) (u : Value) : MapAt ek α enc (W.setCell ⟨g, o, none⟩ u) b m := by
  obtain ⟨es, clock, hh, h⟩ := h
  refine ⟨es, clock, ?_, h⟩
  by_cases hg : b = g
  · subst hg
    simp [World.setCell, Array.getElem?_modify, hh]
  · exact (Below.heap_setCell W ⟨g, o, none⟩ u b hg).trans hh
theorem MapAt.putOther (h : MapAt ek α enc W b m) {g : Nat} (hg : b ≠ g) (o : Obj) : MapAt ek α enc (W.putObj g o) b m := h.same (World.putObj_heap_other hg)
theorem MapAt.new (W : World) : MapAt ek α enc (W.alloc (.map #[] 0)) W.heap.size [] := ⟨#[], 0, World.alloc_heap_new W _, rfl, by simp, by simp⟩

theorem mfind_at [DecidableEq κ] {p : κ} : ∀ {m : List (κ × α)} {i : Nat} {v : α}, mfind p m = some (i, v) → i < m.length ∧ m[i]? = some (p, v)
  | [], _, _, h => by cases h
  | x :: m, i, v, h => by
    unfold mfind at h
    by_cases hp : p = x.1
    · rw [if_pos hp] at h
      cases h
      exact ⟨by simp, by simp [hp]⟩
    · rw [if_neg hp] at h
      cases hm : mfind p m with
      | none => rw [hm] at h; cases h
      | some r =>
        rw [hm] at h
        cases h
        have := mfind_at (m := m) (i := r.1) (v := r.2) hm
        exact ⟨by simpa using this.1, by simpa using this.2⟩
theorem mset_at [DecidableEq κ] {p : κ} {v' : α} : ∀ {m : List (κ × α)} {i : Nat} {v : α}, mfind p m = some (i, v) → mset p v' m = m.set i (p, v')
  | [], _, _, h => by cases h
  | x :: m, i, v, h => by
    unfold mfind at h
    unfold mset
    by_cases hp : p = x.1
    · rw [if_pos hp] at h ⊢
      cases h
      simp [hp]
    · rw [if_neg hp] at h ⊢
      cases hm : mfind p m with
      | none => rw [hm] at h; cases h
      | some r =>
        rw [hm] at h
        cases h
        simp [mset_at (m := m) (i := r.1) (v := r.2) hm]
theorem mset_none [DecidableEq κ] {p : κ} {v' : α} : ∀ {m : List (κ × α)}, mfind p m = none → mset p v' m = m ++ [(p, v')]
  | [], _ => rfl
  | x :: m, h => by
    unfold mfind at h
    unfold mset
    by_cases hp : p = x.1
    · rw [if_pos hp] at h; cases h
    · rw [if_neg hp] at h ⊢
      cases hm : mfind p m with
      | none => simp [mset_none hm]
      | some r => rw [hm] at h; cases h
theorem mdel_at [DecidableEq κ] {p : κ} : ∀ {m : List (κ × α)} {i : Nat} {v : α}, mfind p m = some (i, v) → mdel p m = m.eraseIdx i
  | [], _, _, h => by cases h
  | x :: m, i, v, h => by
    unfold mfind at h
    unfold mdel
    by_cases hp : p = x.1
    · rw [if_pos hp] at h ⊢
      cases h
      simp
    · rw [if_neg hp] at h ⊢
      cases hm : mfind p m with
      | none => rw [hm] at h; cases h
      | some r =>
        rw [hm] at h
        cases h
        simp [mdel_at (m := m) (i := r.1) (v := r.2) hm]
theorem mdel_none [DecidableEq κ] {p : κ} : ∀ {m : List (κ × α)}, mfind p m = none → mdel p m = m
  | [], _ => rfl
  | x :: m, h => by
    unfold mfind at h
    unfold mdel
    by_cases hp : p = x.1
    · rw [if_pos hp] at h; cases h
    · rw [if_neg hp] at h ⊢
      cases hm : mfind p m with
      | none => simp [mdel_none hm]
      | some r => rw [hm] at h; cases h

theorem erase_list {β : Type} (es : Array β) (i : Nat) : (es.eraseIdxIfInBounds i).toList = es.toList.eraseIdx i := by
  unfold Array.eraseIdxIfInBounds
  split
  · simp
  · rename_i h
    rw [List.eraseIdx_of_length_le (by simpa using h)]
theorem map_eraseIdx' {β γ : Type} (f : β → γ) (l : List β) (i : Nat) : (l.eraseIdx i).map f = (l.map f).eraseIdx i := by
  induction l generalizing i with
  | nil => rfl
  | cons x l ih => cases i with
    | zero => rfl
    | succ i => simp [ih]

theorem run_putObj (b : Nat) (es : Array MapEntry) (c : Nat) (o : Obj) (hh : W.heap[b]? = some (.map es c)) : (setObj b o).run P W = .ok () (W.putObj b o) := by
  simp [setObj, Sem.run, hh, World.putObj]
theorem run_getMap (b : Nat) (es : Array MapEntry) (c : Nat) (hh : W.heap[b]? = some (.map es c)) : (getObj b).run P W = .ok (.map es c) W := by simp [getObj, Sem.run, hh]

theorem keys_set (es : Array MapEntry) (i : Nat) (p : κ) (v : α) (f : MapEntry → MapEntry) (hi : i < es.size) (hf : ((f es[i]).key, (f es[i]).val) = (ek p, enc v)) (he : es.toList.map (fun e => (e.key, e.val)) = m.map (fun x => (ek x.1, enc x.2))) :
    (es.modify i f).toList.map (fun e => (e.key, e.val)) = (m.set i (p, v)).map (fun x => (ek x.1, enc x.2)) := by
  rw [List.map_set, ← he]
  apply List.ext_getElem
  · simp
  · intro j h1 h2
    simp at h1
    simp only [List.getElem_map, Array.getElem_toList, Array.getElem_modify, List.getElem_set]
    by_cases hij : i = j
    · subst hij; simp [hf]
    · simp [hij]
theorem borns_set (es : Array MapEntry) (i : Nat) (f : MapEntry → MapEntry) (hf : ∀ e, (f e).born = e.born) : (es.modify i f).toList.map (·.born) = es.toList.map (·.born) := by
  apply List.ext_getElem
  · simp
  · intro j h1 h2
    simp only [List.getElem_map, Array.getElem_toList, Array.getElem_modify]
    by_cases hij : i = j
    · simp [hij, hf]
    · simp [hij]
theorem born_lt {es : Array MapEntry} {es' : Array MapEntry} {clock : Nat} (h : es'.toList.map (·.born) = es.toList.map (·.born)) (hc : ∀ e ∈ es.toList, e.born < clock) : ∀ e ∈ es'.toList, e.born < clock := by
  intro e he
  have : e.born ∈ es'.toList.map (·.born) := List.mem_map_of_mem he
  rw [h] at this
  obtain ⟨e2, h2, h3⟩ := List.mem_map.1 this
  rw [← h3]
  exact hc e2 h2

theorem update_pl [DecidableEq κ] (K : KeyT P kt ek) (h : MapAt ek α enc W b m) (mt et : TypeId) (hm : P.underlying mt = some (.map kt et)) (p : κ) (v : α) :
    ∃ o : Obj, o.isCells = false ∧ (Instr.mapUpdate mt (.map (some b)) (ek p) (enc v)).run P W = .ok () (W.putObj b o) ∧ MapAt ek α enc (W.putObj b o) b (mset p v m) := by
  have hlt := h.lt
  obtain ⟨es, clock, hh, he, hc, hn⟩ := h
  have hg := run_getMap (P := P) b es clock hh
  have hsz : es.size = m.length := by have := congrArg List.length he; simpa using this
  cases hf : mfind p m with
  | none =>
    refine ⟨.map (es.push { key := ek p, val := enc v, born := clock }) (clock + 1), rfl, ?_, ⟨_, _, World.putObj_heap_same hlt, ?_, ?_, ?_⟩⟩
    · simp only [Instr.mapUpdate, Sem.run_bind, run_underlying hm, Result.andThen_ok, hg, K.check, findKey_pl K enc p W es.toList m he, hf, Option.map_none]
      exact run_putObj (P := P) b es clock _ hh
    · rw [mset_none hf]; simp [he]
    · intro e hm'
      simp at hm'
      rcases hm' with hm' | rfl
      · have := hc e (by simpa using hm'); omega
      · simp
    · simp only [Array.toList_push, List.map_append, List.map_cons, List.map_nil]
      rw [List.nodup_append]
      refine ⟨hn, by simp, ?_⟩
      intro x hx y hy
      simp at hy
      subst hy
      obtain ⟨e, he', rfl⟩ := List.mem_map.1 hx
      have := hc e he'
      omega
  | some r =>
    obtain ⟨i, v0⟩ := r
    obtain ⟨hi, hmi⟩ := mfind_at hf
    have hie : i < es.size := by omega
    have hkey : es[i].key = ek p := by
      have h1 := congrArg (fun l => l[i]?) he
      simp only [List.getElem?_map, hmi] at h1
      rw [Array.getElem?_toList, Array.getElem?_eq_getElem hie] at h1
      simp at h1
      exact h1.1
    refine ⟨.map (es.modify i fun e => { e with key := ek p, val := enc v }) clock, rfl, ?_, ⟨_, _, World.putObj_heap_same hlt, ?_, ?_, ?_⟩⟩
    · simp only [Instr.mapUpdate, Sem.run_bind, run_underlying hm, Result.andThen_ok, hg, K.check, findKey_pl K enc p W es.toList m he, hf, Option.map_some]
      rw [Array.getElem?_eq_getElem hie]
      simp only [Option.map_some, Option.getD_some, hkey, Instr.keyThatStays, K.bits, if_true, Sem.run_pure, Result.andThen_ok]
      exact run_putObj (P := P) b es clock _ hh
    · rw [mset_at hf]
      exact keys_set es i p v _ hie rfl he
    · exact born_lt (borns_set es i _ (fun _ => rfl)) hc
    · have hbs := borns_set es i (fun e => { e with key := ek p, val := enc v }) (fun _ => rfl)
      rw [hbs]; exact hn

theorem delete_pl [DecidableEq κ] (K : KeyT P kt ek) (h : MapAt ek α enc W b m) (mt et ty : TypeId) (hm : P.underlying mt = some (.map kt et)) (kt : TypeId) (p : κ) :
    ∃ o : Obj, o.isCells = false ∧ (Builtin.delete_ #[mt, kt] ty #[.map (some b), ek p]).run P W = .ok (.tuple #[]) (W.putObj b o) ∧ MapAt ek α enc (W.putObj b o) b (mdel p m) := by
  have hlt := h.lt
  obtain ⟨es, clock, hh, he, hc, hn⟩ := h
  have hg := run_getMap (P := P) b es clock hh
  have hsz : es.size = m.length := by have := congrArg List.length he; simpa using this
  cases hf : mfind p m with
  | none =>
    refine ⟨.map es clock, rfl, ?_, ⟨_, _, World.putObj_heap_same hlt, ?_, hc, hn⟩⟩
    · simp [Builtin.delete_, Sem.run_bind, run_underlying hm, Result.andThen, hg, K.check, findKey_pl K enc p W es.toList m he, hf, run_putObj (P := P) b es clock _ hh]
    · rw [mdel_none hf]; exact he
  | some r =>
    obtain ⟨i, v0⟩ := r
    obtain ⟨hi, hmi⟩ := mfind_at hf
    refine ⟨.map (es.eraseIdxIfInBounds i) clock, rfl, ?_, ⟨_, _, World.putObj_heap_same hlt, ?_, ?_, ?_⟩⟩
    · simp [Builtin.delete_, Sem.run_bind, run_underlying hm, Result.andThen, hg, K.check, findKey_pl K enc p W es.toList m he, hf, run_putObj (P := P) b es clock _ hh]
    · rw [mdel_at hf, erase_list, map_eraseIdx', he, map_eraseIdx']
    · intro e hm'
      rw [erase_list] at hm'
      exact hc e (List.mem_of_mem_eraseIdx hm')
    · rw [erase_list, map_eraseIdx']
      exact (List.eraseIdx_sublist _ _).nodup hn

theorem len_pl [DecidableEq κ] (_K : KeyT P kt ek) (h : MapAt ek α enc W b m) (mt et ty : TypeId) (hm : P.underlying mt = some (.map kt et)) : (Builtin.len_ #[mt] ty #[.map (some b)]).run P W = .ok (.int .i64 (m.length : Int)) W := by
  obtain ⟨es, clock, hh, he, hc, hn⟩ := h
  have hg := run_getMap (P := P) b es clock hh
  have hsz : es.size = m.length := by have := congrArg List.length he; simpa using this
  simp [Builtin.len_, Sem.run_bind, run_underlying hm, Result.andThen, hg, goInt, hsz]

theorem clear_pl [DecidableEq κ] (_K : KeyT P kt ek) (h : MapAt ek α enc W b m) (mt et ty : TypeId) (hm : P.underlying mt = some (.map kt et)) :
    ∃ o : Obj, o.isCells = false ∧ (Builtin.clear_ #[mt] ty #[.map (some b)]).run P W = .ok (.tuple #[]) (W.putObj b o) ∧ MapAt ek α enc (W.putObj b o) b [] := by
  have hlt := h.lt
  obtain ⟨es, clock, hh, he, hc, hn⟩ := h
  have hg := run_getMap (P := P) b es clock hh
  refine ⟨.map #[] clock, rfl, ?_, ⟨_, _, World.putObj_heap_same hlt, by simp, by simp, by simp⟩⟩
  simp [Builtin.clear_, Sem.run_bind, run_underlying hm, Result.andThen, hg, run_putObj (P := P) b es clock _ hh]

end

/-- What an object that is a map holds. -/
def MapO {κ : Type} (ek : κ → Value) {α : Type} (enc : α → Value) (o : Obj) (m : List (κ × α)) : Prop :=
  ∃ es clock, o = .map es clock ∧ es.toList.map (fun e => (e.key, e.val)) = m.map (fun x => (ek x.1, enc x.2)) ∧ (∀ e ∈ es.toList, e.born < clock) ∧ (es.toList.map (·.born)).Nodup
section
variable {P : Program} {κ : Type} {kt : TypeId} {ek : κ → Value} {α : Type} {enc : α → Value} {W : World} {b : Nat} {m : List (κ × α)} {o : Obj}
theorem MapO.new : MapO ek enc (.map #[] 0) ([] : List (κ × α)) := ⟨#[], 0, rfl, rfl, by simp, by simp⟩
theorem MapO.at (h : MapO ek enc o m) (hh : W.heap[b]? = some o) : MapAt ek α enc W b m := by
  obtain ⟨es, clock, rfl, h⟩ := h
  exact ⟨es, clock, hh, h⟩
theorem MapAt.obj (h : MapAt ek α enc W b m) (hh : W.heap[b]? = some o) : MapO ek enc o m := by
  obtain ⟨es, clock, h1, h⟩ := h
  rw [hh] at h1
  cases h1
  exact ⟨es, clock, rfl, h⟩
theorem At.put {w0 w : World} {kn rows : List KB} {sz j : Nat} (hA : At w0 w kn rows sz) (hj : nth kn j = some ⟨b, o⟩) (o' : Obj) : At w0 (w.putObj b o') (kn.set j ⟨b, o'⟩) rows sz := by
  rw [nth_eq] at hj
  have hlt := hA.lt (List.mem_of_getElem? hj)
  exact hA.turn (kb := ⟨b, o⟩) hj o' (by simp) (World.putObj_heap_same hlt) (fun k hk => World.putObj_heap_other hk) rfl rfl rfl
noncomputable def lookSem (mt : TypeId) (x p : Value) (ok : Bool) : Sem Next := (Instr.lookup mt x p ok).bind fun v => .pure (.value v)
/-- A look into a map. -/
theorem mapLook [DecidableEq κ] {c : Ctx} {S : Sta} {w : World} {rows : List KB} {mt et : TypeId} {p : κ} (hA : AtS c S w rows) (K : KeyT c.P kt ek) (j : Nat) (hm : MapO ek enc o m) (z : α) (hz : ∀ w, (zeroValue et).run c.P w = .ok (enc z) w)
    (h : (nth S.env.known j, semOf c.P c.N S [], c.P.underlying mt) = (some ⟨b, o⟩, some (lookSem mt (.map (some b)) (ek p) false, []), some (.map kt et)))
    (k : AtS c (valS c.N S (enc (mget z m p)) w.heap.size) w rows → Run c (valS c.N S (enc (mget z m p)) w.heap.size) w) : Run c S w := by
  simp only [Prod.mk.injEq] at h
  obtain ⟨h1, h2, h3⟩ := h
  rw [nth_eq] at h1
  have := lookup_pl K (hm.at (hA.at_.ok _ (List.mem_of_getElem? h1))) mt et z h3 hz p
  exact opv hA [] on h2 (by unfold lookSem; rw [Sem.run_bind', this]; rfl) k
theorem mapLookOk [DecidableEq κ] {c : Ctx} {S : Sta} {w : World} {rows : List KB} {mt et : TypeId} {p : κ} (hA : AtS c S w rows) (K : KeyT c.P kt ek) (j : Nat) (hm : MapO ek enc o m) (z : α) (hz : ∀ w, (zeroValue et).run c.P w = .ok (enc z) w)
    (h : (nth S.env.known j, semOf c.P c.N S [], c.P.underlying mt) = (some ⟨b, o⟩, some (lookSem mt (.map (some b)) (ek p) true, []), some (.map kt et)))
    (k : AtS c (valS c.N S (.tuple #[enc (mget z m p), .bool (mfind p m).isSome]) w.heap.size) w rows → Run c (valS c.N S (.tuple #[enc (mget z m p), .bool (mfind p m).isSome]) w.heap.size) w) : Run c S w := by
  simp only [Prod.mk.injEq] at h
  obtain ⟨h1, h2, h3⟩ := h
  rw [nth_eq] at h1
  have := lookupOk_pl K (hm.at (hA.at_.ok _ (List.mem_of_getElem? h1))) mt et z h3 hz p
  exact opv hA [] on h2 (by unfold lookSem; rw [Sem.run_bind', this]; rfl) k
noncomputable def updSem (mt : TypeId) (x p v : Value) : Sem Next := (Instr.mapUpdate mt x p v).bind fun _ => .pure .skip
/-- m[p] = v. -/
theorem mapSet [DecidableEq κ] {c : Ctx} {S : Sta} {w : World} {rows : List KB} {mt et : TypeId} {p : κ} {v : α} (hA : AtS c S w rows) (K : KeyT c.P kt ek) (j : Nat) (hm : MapO ek enc o m)
    (h : (noDraw S, nth S.env.known j, semOf c.P c.N S [], c.P.underlying mt) = (true, some ⟨b, o⟩, some (updSem mt (.map (some b)) (ek p) (enc v), []), some (.map kt et)))
    (k : ∀ o' w', MapO ek enc o' (mset p v m) → AtS c (knS (valS c.N S undef w'.heap.size) (S.env.known.set j ⟨b, o'⟩)) w' rows → Run c (knS (valS c.N S undef w'.heap.size) (S.env.known.set j ⟨b, o'⟩)) w') : Run c S w := by
  simp only [Prod.mk.injEq] at h
  obtain ⟨h0, h1, h2, h3⟩ := h
  have h1' := h1
  rw [nth_eq] at h1
  have hh := hA.at_.ok _ (List.mem_of_getElem? h1)
  obtain ⟨o', -, hrun, hmap⟩ := update_pl K (hm.at hh) mt et h3 p v
  have hlt : b < w.heap.size := (Array.getElem?_eq_some_iff.1 hh).1
  refine opw [] on (s := updSem mt (.map (some b)) (ek p) (enc v)) (by rw [h0, h2]) (nx := .skip) (v := undef) ?_ (.inr ⟨rfl, rfl⟩) (At.resize (At.put hA.at_ h1' o')) (by simpa using hA.lo) (k o' _ (hmap.obj (World.putObj_heap_same hlt)))
  unfold updSem
  rw [Sem.run_bind', hrun]
  rfl
noncomputable def delSem (mt kt' ty : TypeId) (x p : Value) : Sem Next := (Builtin.delete_ #[mt, kt'] ty #[x, p]).bind fun v => .pure (.value v)
/-- delete(m, p). -/
theorem mapDel [DecidableEq κ] {c : Ctx} {S : Sta} {w : World} {rows : List KB} {mt et kt' ty : TypeId} {p : κ} (hA : AtS c S w rows) (K : KeyT c.P kt ek) (j : Nat) (hm : MapO ek enc o m)
    (h : (noDraw S, nth S.env.known j, semOf c.P c.N S [], c.P.underlying mt) = (true, some ⟨b, o⟩, some (delSem mt kt' ty (.map (some b)) (ek p), []), some (.map kt et)))
    (k : ∀ o' w', MapO ek enc o' (mdel p m) → AtS c (knS (valS c.N S (.tuple #[]) w'.heap.size) (S.env.known.set j ⟨b, o'⟩)) w' rows → Run c (knS (valS c.N S (.tuple #[]) w'.heap.size) (S.env.known.set j ⟨b, o'⟩)) w') : Run c S w := by
  simp only [Prod.mk.injEq] at h
  obtain ⟨h0, h1, h2, h3⟩ := h
  have h1' := h1
  rw [nth_eq] at h1
  have hh := hA.at_.ok _ (List.mem_of_getElem? h1)
  obtain ⟨o', -, hrun, hmap⟩ := delete_pl K (hm.at hh) mt et ty h3 kt' p
  have hlt : b < w.heap.size := (Array.getElem?_eq_some_iff.1 hh).1
  refine opw [] on (s := delSem mt kt' ty (.map (some b)) (ek p)) (by rw [h0, h2]) (nx := .value (.tuple #[])) (v := .tuple #[]) ?_ (.inl rfl) (At.resize (At.put hA.at_ h1' o')) (by simpa using hA.lo) (k o' _ (hmap.obj (World.putObj_heap_same hlt)))
  unfold delSem
  rw [Sem.run_bind', hrun]
  rfl
noncomputable def lenSem (mt ty : TypeId) (x : Value) : Sem Next := (Builtin.len_ #[mt] ty #[x]).bind fun v => .pure (.value v)
theorem mapLen [DecidableEq κ] {c : Ctx} {S : Sta} {w : World} {rows : List KB} {mt et ty : TypeId} (hA : AtS c S w rows) (K : KeyT c.P kt ek) (j : Nat) (hm : MapO ek enc o m)
    (h : (nth S.env.known j, semOf c.P c.N S [], c.P.underlying mt) = (some ⟨b, o⟩, some (lenSem mt ty (.map (some b)), []), some (.map kt et)))
    (k : AtS c (valS c.N S (.int .i64 (m.length : Int)) w.heap.size) w rows → Run c (valS c.N S (.int .i64 (m.length : Int)) w.heap.size) w) : Run c S w := by
  simp only [Prod.mk.injEq] at h
  obtain ⟨h1, h2, h3⟩ := h
  rw [nth_eq] at h1
  have := len_pl K (hm.at (hA.at_.ok _ (List.mem_of_getElem? h1))) mt et ty h3
  exact opv hA [] on h2 (by unfold lenSem; rw [Sem.run_bind', this]; rfl) k
end
end Go.Proofs.Ytfidkgpimlpdbaa

/- Maps in symbolic runs: an entry that is held, then stored. -/
namespace Go.Proofs.Ytfidkgpimlpdbaa
open Go.RowKit Go.Shelf

section
variable {P : Program} {κ : Type} [DecidableEq κ] {kt : TypeId} {ek : κ → Value} {α : Type} {enc : α → Value} {W : World} {b : Nat} {m : List (κ × α)} {o : Obj}
theorem entry_pl (K : KeyT P kt ek) (h : MapAt ek α enc W b m) (mt et : TypeId) (hm : P.underlying mt = some (.map kt et)) (p : κ) (i : Nat) (v0 : α) (hf : mfind p m = some (i, v0)) :
    ∃ (o1 : Obj) (st : Nat), (Instr.mapEntry mt (.map (some b)) (ek p)).run P W = .ok (.tuple #[enc v0, .int .i64 (st : Int)]) (W.putObj b o1) ∧ MapO ek enc o1 m ∧
      ∀ W' v, W'.heap[b]? = some o1 → ∃ o2 : Obj, (Instr.entryStore mt (.map (some b)) (.int .i64 (st : Int)) (enc v)).run P W' = .ok () (W'.putObj b o2) ∧ MapO ek enc o2 (mset p v m) := by
  have hlt := h.lt
  obtain ⟨es, clock, hh, he, hc, hn⟩ := h
  have hg := run_getMap (P := P) b es clock hh
  have hsz : es.size = m.length := by have := congrArg List.length he; simpa using this
  obtain ⟨hi, hmi⟩ := mfind_at hf
  have hie : i < es.size := by omega
  have hkv : es[i].key = ek p ∧ es[i].val = enc v0 := by
    have h1 := congrArg (fun l => l[i]?) he
    simp only [List.getElem?_map, hmi] at h1
    rw [Array.getElem?_toList, Array.getElem?_eq_getElem hie] at h1
    simpa using h1
  have hes : (es.modify i fun e => { e with key := ek p }) = es := by
    apply Array.ext
    · simp
    · intro j h1 h2
      rw [Array.getElem_modify]
      split
      · rename_i hij
        subst hij
        have hx : ∀ x : MapEntry, x.key = ek p → ({ x with key := ek p } : MapEntry) = x := by
          rintro ⟨k, v, bn⟩ hk
          simp only at hk
          subst hk
          rfl
        exact hx _ hkv.1
      · rfl
  refine ⟨.map es clock, es[i].born, ?_, ⟨es, clock, rfl, he, hc, hn⟩, fun W' v hW => ?_⟩
  · simp only [Instr.mapEntry, Sem.run_bind, run_underlying hm, Result.andThen_ok, hg, K.check, findKey_pl K enc p W es.toList m he, hf, Option.map_some]
    rw [Array.getElem?_eq_getElem hie]
    simp only [Option.map_some, Option.getD_some, hkv.1, Instr.keyThatStays, K.bits, if_true, Sem.run_pure, Result.andThen_ok, hes, run_putObj (P := P) b es clock _ hh, goInt]
  · have hfi : es.findIdx? (fun e => (e.born : Int) == (es[i].born : Int)) = some i := by
      rw [Array.findIdx?_eq_some_iff_getElem]
      refine ⟨hie, by simp, fun j hj => ?_⟩
      have hne : es[j].born ≠ es[i].born := by
        intro e
        have := List.pairwise_iff_getElem.1 hn j i (by simp; omega) (by simpa using hie) hj
        simp at this
        exact this e
      simp; omega
    have hlt' : b < W'.heap.size := (Array.getElem?_eq_some_iff.1 hW).1
    refine ⟨.map (es.modify i fun e => { e with val := enc v }) clock, ?_, ⟨_, _, rfl, ?_, ?_, ?_⟩⟩
    · simp only [Instr.entryStore, Sem.run_bind, run_getMap (P := P) b es clock hW, Result.andThen_ok, asInt, asIntOf, Sem.run_pure, hfi]
      exact run_putObj (P := P) b es clock _ hW
    · rw [mset_at hf]
      exact keys_set es i p v _ hie (by rw [hkv.1]) he
    · exact born_lt (borns_set es i _ (fun _ => rfl)) hc
    · have hbs := borns_set es i (fun e => { e with val := enc v }) (fun _ => rfl)
      rw [hbs]; exact hn
noncomputable def entSem (mt : TypeId) (x p : Value) : Sem Next := (Instr.mapEntry mt x p).bind fun v => .pure (.value v)
noncomputable def estSem (mt : TypeId) (x s v : Value) : Sem Next := (Instr.entryStore mt x s v).bind fun _ => .pure .skip
/-- The entry of a key that the map has. -/
theorem mapEnt {c : Ctx} {S : Sta} {w : World} {rows : List KB} {mt et : TypeId} {p : κ} {i : Nat} {v0 : α} (hA : AtS c S w rows) (K : KeyT c.P kt ek) (j : Nat) (hm : MapO ek enc o m) (hf : mfind p m = some (i, v0))
    (h : (nth S.env.known j, semOf c.P c.N S [], c.P.underlying mt) = (some ⟨b, o⟩, some (entSem mt (.map (some b)) (ek p), []), some (.map kt et))) (hd : ∀ o1, holdL S (S.env.known.set j ⟨b, o1⟩) = holdR S)
    (k : ∀ o1 st w', MapO ek enc o1 m → (∀ W' v, W'.heap[b]? = some o1 → ∃ o2 : Obj, (Instr.entryStore mt (.map (some b)) (.int .i64 ((st : Nat) : Int)) (enc v)).run c.P W' = .ok () (W'.putObj b o2) ∧ MapO ek enc o2 (mset p v m)) →
      AtS c (knS (valS c.N S (.tuple #[enc v0, .int .i64 (st : Int)]) w'.heap.size) (S.env.known.set j ⟨b, o1⟩)) w' rows → Run c (knS (valS c.N S (.tuple #[enc v0, .int .i64 (st : Int)]) w'.heap.size) (S.env.known.set j ⟨b, o1⟩)) w') : Run c S w := by
  simp only [Prod.mk.injEq] at h
  obtain ⟨h1, h2, h3⟩ := h
  have h1' := h1
  rw [nth_eq] at h1
  have hh := hA.at_.ok _ (List.mem_of_getElem? h1)
  obtain ⟨o1, st, hrun, hmo, hst⟩ := entry_pl K (hm.at hh) mt et h3 p i v0 hf
  have hlt : b < w.heap.size := (Array.getElem?_eq_some_iff.1 hh).1
  refine opwD [] on (s := entSem mt (.map (some b)) (ek p)) (by rw [hd o1, h2]) (nx := .value (.tuple #[enc v0, .int .i64 (st : Int)])) ?_ (.inl rfl) (At.resize (At.put hA.at_ h1' o1)) (by simpa using hA.lo) (k o1 st _ hmo hst)
  unfold entSem
  rw [Sem.run_bind', hrun]
  rfl
/-- The entry that is held is stored. -/
theorem entStore {c : Ctx} {S : Sta} {w : World} {rows : List KB} {mt : TypeId} {p : κ} {st : Nat} {v : α} (hA : AtS c S w rows) (j : Nat)
    (hst : ∀ W' v, W'.heap[b]? = some o → ∃ o2 : Obj, (Instr.entryStore mt (.map (some b)) (.int .i64 ((st : Nat) : Int)) (enc v)).run c.P W' = .ok () (W'.putObj b o2) ∧ MapO ek enc o2 (mset p v m))
    (h : (nth S.env.known j, semOf c.P c.N S []) = (some ⟨b, o⟩, some (estSem mt (.map (some b)) (.int .i64 (st : Int)) (enc v), []))) (hd : ∀ o1, holdL S (S.env.known.set j ⟨b, o1⟩) = holdR S)
    (k : ∀ o' w', MapO ek enc o' (mset p v m) → AtS c (knS (valS c.N S undef w'.heap.size) (S.env.known.set j ⟨b, o'⟩)) w' rows → Run c (knS (valS c.N S undef w'.heap.size) (S.env.known.set j ⟨b, o'⟩)) w') : Run c S w := by
  simp only [Prod.mk.injEq] at h
  obtain ⟨h1, h2⟩ := h
  have h1' := h1
  rw [nth_eq] at h1
  have hh := hA.at_.ok _ (List.mem_of_getElem? h1)
  obtain ⟨o', hrun, hmap⟩ := hst w v hh
  refine opwD [] on (s := estSem mt (.map (some b)) (.int .i64 (st : Int)) (enc v)) (by rw [hd o', h2]) (nx := .skip) (v := undef) ?_ (.inr ⟨rfl, rfl⟩) (At.resize (At.put hA.at_ h1' o')) (by simpa using hA.lo) (k o' _ hmap)
  unfold estSem
  rw [Sem.run_bind', hrun]
  rfl
/-- A look into a map of the arguments. -/
theorem mapLookOkW {c : Ctx} {S : Sta} {w : World} {rows : List KB} {mt et : TypeId} {p : κ} (hA : AtS c S w rows) (K : KeyT c.P kt ek) (hm : MapAt ek α enc w b m) (z : α) (hz : ∀ w, (zeroValue et).run c.P w = .ok (enc z) w)
    (h : (semOf c.P c.N S [], c.P.underlying mt) = (some (lookSem mt (.map (some b)) (ek p) true, []), some (.map kt et)))
    (k : AtS c (valS c.N S (.tuple #[enc (mget z m p), .bool (mfind p m).isSome]) w.heap.size) w rows → Run c (valS c.N S (.tuple #[enc (mget z m p), .bool (mfind p m).isSome]) w.heap.size) w) : Run c S w := by
  simp only [Prod.mk.injEq] at h
  obtain ⟨h2, h3⟩ := h
  have := lookupOk_pl K hm mt et z h3 hz p
  exact opv hA [] on h2 (by unfold lookSem; rw [Sem.run_bind', this]; rfl) k
theorem mapLookW {c : Ctx} {S : Sta} {w : World} {rows : List KB} {mt et : TypeId} {p : κ} (hA : AtS c S w rows) (K : KeyT c.P kt ek) (hm : MapAt ek α enc w b m) (z : α) (hz : ∀ w, (zeroValue et).run c.P w = .ok (enc z) w)
    (h : (semOf c.P c.N S [], c.P.underlying mt) = (some (lookSem mt (.map (some b)) (ek p) false, []), some (.map kt et)))
    (k : AtS c (valS c.N S (enc (mget z m p)) w.heap.size) w rows → Run c (valS c.N S (enc (mget z m p)) w.heap.size) w) : Run c S w := by
  simp only [Prod.mk.injEq] at h
  obtain ⟨h2, h3⟩ := h
  have := lookup_pl K hm mt et z h3 hz p
  exact opv hA [] on h2 (by unfold lookSem; rw [Sem.run_bind', this]; rfl) k
theorem mapLenW {c : Ctx} {S : Sta} {w : World} {rows : List KB} {mt et ty : TypeId} (hA : AtS c S w rows) (K : KeyT c.P kt ek) (hm : MapAt ek α enc w b m)
    (h : (semOf c.P c.N S [], c.P.underlying mt) = (some (lenSem mt ty (.map (some b)), []), some (.map kt et)))
    (k : AtS c (valS c.N S (.int .i64 (m.length : Int)) w.heap.size) w rows → Run c (valS c.N S (.int .i64 (m.length : Int)) w.heap.size) w) : Run c S w := by
  simp only [Prod.mk.injEq] at h
  obtain ⟨h2, h3⟩ := h
  have := len_pl K hm mt et ty h3
  exact opv hA [] on h2 (by unfold lenSem; rw [Sem.run_bind', this]; rfl) k
end
end Go.Proofs.Ytfidkgpimlpdbaa

/- Symbolic runs: a range over a map. -/
namespace Go.Proofs.Ytfidkgpimlpdbaa
open Go.RowKit Go.Shelf

noncomputable def rngSem (mt : TypeId) (x : Value) : Sem Next := (Instr.range mt x).bind fun v => .pure (.value v)
noncomputable def nxtSem (x : Value) (ty : TypeId) : Sem Next := (Instr.next x false ty).bind fun v => .pure (.value v)
noncomputable def entySem (x : Value) : Sem Next := (Instr.entry x).bind fun v => .pure (.value v)
theorem val_run {P : Program} {w w' : World} {s : Sem Value} {v : Value} (h : s.run P w = .ok v w') : (s.bind fun v => Sem.pure (Next.value v)).run P w = .ok (.value v) w' := by
  rw [Sem.run_bind', h]
  rfl
section
variable {kt et : TypeId} {b : Nat} {es : Array MapEntry} {clock : Nat}
theorem rngMap {c : Ctx} {S : Sta} {w : World} {rows : List KB} {mt : TypeId} (hA : AtS c S w rows) (hh : w.heap[b]? = some (.map es clock))
    (h : (noDraw S, semOf c.P c.N S [], c.P.underlying mt) = (true, some (rngSem mt (.map (some b)), []), some (.map kt et)))
    (k : ∀ w', w'.heap.size = S.env.sz + 1 → AtS c (knS (valS c.N S (.pointer (some ⟨S.env.sz, 0, none⟩)) w'.heap.size) (S.env.known ++ [⟨S.env.sz, .mapIter (some b) clock #[] clock⟩])) w' rows → Run c (knS (valS c.N S (.pointer (some ⟨S.env.sz, 0, none⟩)) w'.heap.size) (S.env.known ++ [⟨S.env.sz, .mapIter (some b) clock #[] clock⟩])) w') : Run c S w := by
  simp only [Prod.mk.injEq] at h
  obtain ⟨h0, h2, h3⟩ := h
  have hz := hA.at_.size
  have hA' := hA.at_.new (.mapIter (some b) clock #[] clock)
  have hs' : (w.alloc (.mapIter (some b) clock #[] clock)).heap.size = S.env.sz + 1 := by simp [hz]
  refine opw [] on (s := rngSem mt (.map (some b))) (by rw [h0, h2]) (nx := .value (.pointer (some ⟨S.env.sz, 0, none⟩))) ?_ (.inl rfl) (w' := w.alloc (.mapIter (some b) clock #[] clock)) hA'.resize (by have := hA.lo; simp; omega) (k _ hs')
  unfold rngSem
  refine val_run ?_
  rw [← hz]
  simp [Instr.range, Sem.run_bind, run_underlying h3, getObj, Sem.run, hh, newObj, Result.andThen]
theorem nxtMap {c : Ctx} {S : Sta} {w : World} {rows : List KB} {ty : TypeId} {r : Nat} {seen : Array Nat} (hA : AtS c S w rows) (j : Nat) (hh : w.heap[b]? = some (.map es clock)) (hc : ∀ e ∈ es.toList, e.born < clock)
    (h : (noDraw S, nth S.env.known j, semOf c.P c.N S []) = (true, some ⟨r, .mapIter (some b) clock seen clock⟩, some (nxtSem (.pointer (some ⟨r, 0, none⟩)) ty, [])))
    (k1 : (∀ i, (hi : i < es.size) → es[i].born ∈ seen.toList) → AtS c (knS (valS c.N S (.tuple #[.bool false]) w.heap.size) S.env.known) w rows → Run c (knS (valS c.N S (.tuple #[.bool false]) w.heap.size) S.env.known) w)
    (k2 : ∀ i w', (hi : i < es.size) → es[i].born ∉ seen.toList → w'.heap.size = w.heap.size → w'.heap[b]? = some (.map es clock) → AtS c (knS (valS c.N S (.tuple #[.bool true, es[i].key, es[i].val]) w'.heap.size) (S.env.known.set j ⟨r, .mapIter (some b) clock (seen.push es[i].born) clock⟩)) w' rows → Run c (knS (valS c.N S (.tuple #[.bool true, es[i].key, es[i].val]) w'.heap.size) (S.env.known.set j ⟨r, .mapIter (some b) clock (seen.push es[i].born) clock⟩)) w') : Run c S w := by
  simp only [Prod.mk.injEq] at h
  obtain ⟨h0, h1, h2⟩ := h
  have h1' := h1
  rw [nth_eq] at h1
  have hm := List.mem_of_getElem? h1
  have hr := hA.at_.ok _ hm
  have hrb : r ≠ b := by
    rintro rfl
    rw [hh] at hr
    cases hr
  rcases run_next_at (P := c.P) w ty r b clock clock seen es clock hr hh hc (Nat.le_refl _) with ⟨hl, hrun⟩ | ⟨e, he, w1, hw1, hrun⟩
  · refine opw [] on (s := nxtSem (.pointer (some ⟨r, 0, none⟩)) ty) (by rw [h0, h2]) (nx := .value (.tuple #[.bool false])) (val_run hrun) (.inl rfl) hA.at_.resize hA.lo (k1 fun i hi => ?_)
    by_cases hin : es[i].born ∈ seen.toList
    · exact hin
    · have : es[i] ∈ leftOf es seen := by
        unfold leftOf
        rw [Array.mem_filter]
        exact ⟨Array.getElem_mem hi, by simpa using hin⟩
      have hz := Array.size_pos_of_mem this
      omega
  · unfold leftOf at he
    have he' : e ∈ es ∧ e.born ∉ seen.toList := by
      have := Array.mem_filter.1 (Array.mem_toList_iff.1 he)
      exact ⟨this.1, by simpa using this.2⟩
    obtain ⟨i, hi, rfl⟩ := Array.mem_iff_getElem.1 he'.1
    have hA1 : At c.w0 w1 S.env.known rows S.env.sz := by
      rcases hw1 with rfl | rfl
      · exact hA.at_
      · exact hA.at_.drew
    have hz1 : w1.heap = w.heap := by rcases hw1 with rfl | rfl <;> rfl
    have hA' := At.put hA1 h1' (.mapIter (some b) clock (seen.push es[i].born) clock)
    have hsz : (w1.putObj r (.mapIter (some b) clock (seen.push es[i].born) clock)).heap.size = w.heap.size := by simp [hz1]
    refine opw [] on (s := nxtSem (.pointer (some ⟨r, 0, none⟩)) ty) (by rw [h0, h2]) (nx := .value (.tuple #[.bool true, es[i].key, es[i].val])) (w' := w1.putObj r (.mapIter (some b) clock (seen.push es[i].born) clock)) (val_run hrun) (.inl rfl) hA'.resize (by rw [hsz]; exact hA.lo) (k2 i _ hi he'.2 hsz ?_)
    rw [World.putObj_heap_other (Ne.symm hrb), hz1]
    exact hh
theorem entMap {c : Ctx} {S : Sta} {w : World} {rows : List KB} {r : Nat} {seen : Array Nat} {i : Nat} (hA : AtS c S w rows) (j : Nat) (hi : i < es.size) (hh : w.heap[b]? = some (.map es clock)) (hn : (es.toList.map (·.born)).Nodup)
    (h : (nth S.env.known j, semOf c.P c.N S []) = (some ⟨r, .mapIter (some b) clock (seen.push es[i].born) clock⟩, some (entySem (.pointer (some ⟨r, 0, none⟩)), [])))
    (k : AtS c (valS c.N S (.tuple #[es[i].key, es[i].val]) w.heap.size) w rows → Run c (valS c.N S (.tuple #[es[i].key, es[i].val]) w.heap.size) w) : Run c S w := by
  simp only [Prod.mk.injEq] at h
  obtain ⟨h1, h2⟩ := h
  rw [nth_eq] at h1
  have hr := hA.at_.ok _ (List.mem_of_getElem? h1)
  exact opv hA [] on h2 (val_run (run_entry_at (P := c.P) w r b clock seen es clock es[i] hr hh (by simp) hn)) k
end
end Go.Proofs.Ytfidkgpimlpdbaa

/- Symbolic runs: a range over a function. -/
namespace Go.Proofs.Ytfidkgpimlpdbaa
open Go.RowKit Go.Shelf

theorem wpIn_level {F : Fence} (hF : F.depth = none) {n m : Nat} {P : Program} {c : Code} {Q : Exit → Act → World → Prop} {a : Act} {w : World} (h : c.wpIn F n P Q a w) : c.wpIn F m P Q a w :=
  fun b k cs h1 h2 _ => h b k cs h1 h2 fun d hd => by rw [hF] at hd; cases hd
noncomputable def rfOf (S : Sta) : Option (Operand × Array Tmp × Code × Code) := match S.ctl with | .code (.rangeFunc f ps as' b) => some (f, ps, as', b) | _ => none
noncomputable def rfV (S : Sta) : Option (Value × Nat) := match rfOf S with | some (f, ps, _, _) => cond (knows S.fr f) (some (rho S.fr f, ps.size)) none | none => none
noncomputable def rfA (S : Sta) : Code := match rfOf S with | some (_, _, c, _) => c | none => .skip
noncomputable def rfB (S : Sta) : Code := match rfOf S with | some (_, _, _, c) => c | none => .skip
noncomputable def rfPs (S : Sta) : List Tmp := match rfOf S with | some (_, ps, _, _) => ps.toList | none => []
/-- The frame in which a round begins. -/
noncomputable def rfFr (N : Nat) (S : Sta) (vs : List Value) : Fr := (((rfPs S).zip vs).filter fun p => Nat.blt p.1 N).reverse ++ S.fr
theorem rep_zip {N : Nat} {a : Act} : ∀ (l : List (Nat × Value)) (fr : Fr), Rep N fr a → Rep N ((l.filter fun p => Nat.blt p.1 N).reverse ++ fr) { tmps := l.foldl (fun t (p, v) => t.setIfInBounds p v) a.tmps, defers := [] }
  | [], fr, h => h
  | p :: l, fr, h => by
    have h1 : Rep N (if Nat.blt p.1 N then (p.1, p.2) :: fr else fr) (a.put (some p.1) p.2) := by
      split
      · rename_i hb
        refine h.put (dst := some p.1) ?_
        show cond (Nat.blt p.1 N) _ _ = _
        rw [hb]
        rfl
      · rename_i hb
        refine ⟨by simp [Act.put, h.1], fun s u hs => ?_⟩
        have hs' := h.2 s u hs
        have hlt := (Array.getElem?_eq_some_iff.1 hs').1
        simp only [Act.put, Array.getElem?_setIfInBounds]
        rw [if_neg]
        · exact hs'
        · rintro rfl
          exact hb (Nat.ble_eq_true_of_le (by rw [← h.1]; exact hlt))
    have ih := rep_zip (a := a.put (some p.1) p.2) l _ h1
    refine ⟨ih.1, fun s u hs => ih.2 s u ?_⟩
    rw [List.filter_cons] at hs
    split at hs
    · rename_i hb
      rw [if_pos hb]
      rw [List.reverse_cons, List.append_assoc] at hs
      exact hs
    · rename_i hb
      rw [if_neg hb]
      exact hs
def markOf (D : Nat) : Deferred := { target := .collected D, args := #[] }
def Ctx.round (c : Ctx) (l : Nat) (J : Act → World → Prop) (z : Nat) : Ctx := ⟨c.P, some l, c.N, [], Exit.then J (fun _ _ _ => False), c.w0, z⟩
def Ctx.marked (c : Ctx) (D : Nat) : Ctx := ⟨c.P, c.ro, c.N, markOf D :: c.ds, c.Q, c.w0, c.lo⟩
theorem kQ_marked {c : Ctx} {D : Nat} : ∀ s, kQ (c.marked D) s = kQ c s
  | [] => rfl
  | .seq y :: s => by show Exit.then (y.wpIn (fen c.ro) 1 c.P (kQ (c.marked D) s)) (kQ (c.marked D) s) = _; rw [kQ_marked s]; rfl
  | .blk id :: s => by show Exit.inBlock id (kQ (c.marked D) s) = _; rw [kQ_marked s]; rfl
/-- A round has come to its end. -/
theorem rend {c : Ctx} {l z : Nat} {J : Act → World → Prop} {S : Sta} {w : World} {fr1 : Fr} {kn' rows : List KB} (hJ : ∀ a' W', Rep c.N fr1 a' → a'.defers = [] → At c.w0 W' kn' rows W'.heap.size → z ≤ W'.heap.size → J a' W') (m : List Bool) (hA : AtS (c.round l J z) S w rows)
    (ho : (normB S, (fr1.map fun p => S.fr.get p.1), pick m S.env.known) = (true, (fr1.map fun p => some p.2), kn')) : Run (c.round l J z) S w := by
  refine ⟨fun a hR hd => ?_⟩
  simp only [Prod.mk.injEq] at ho
  obtain ⟨ho, hf, hk⟩ := ho
  obtain ⟨ctl, st, f, e⟩ := S
  unfold normB at ho
  split at ho
  · rename_i h1 h2
    simp only at h1 h2
    subst h1; subst h2
    exact hJ a w (hR.sub hf) hd (At.pick hA.at_ m hk).resize hA.lo
  · cases ho
/-- The blocks that a round must not touch. -/
noncomputable def prots (w0 w W : World) (C X : Nat → Prop) (l : List KB) : List KB := by
  classical
  exact (List.range W.heap.size).filterMap fun k => if w0.heap.size ≤ k ∧ k ∉ l.map KB.id ∧ (X k ∨ C k ∨ (w.heap.size ≤ k ∧ ∃ o, W.heap[k]? = some o ∧ o.isCells = false)) then (W.heap[k]?).map fun o => ⟨k, o⟩ else none
theorem prots_mem {w0 w W : World} {C X : Nat → Prop} {l : List KB} {kb : KB} : kb ∈ prots w0 w W C X l ↔ W.heap[kb.id]? = some kb.obj ∧ w0.heap.size ≤ kb.id ∧ kb.id ∉ l.map KB.id ∧ (X kb.id ∨ C kb.id ∨ (w.heap.size ≤ kb.id ∧ ∃ o, W.heap[kb.id]? = some o ∧ o.isCells = false)) := by
  classical
  unfold prots
  rw [List.mem_filterMap]
  constructor
  · rintro ⟨k, hk, h⟩
    split at h
    · rename_i hc
      cases hh : W.heap[k]? with
      | none => rw [hh] at h; cases h
      | some o =>
        rw [hh] at h
        cases h
        exact ⟨hh, hc.1, hc.2.1, hc.2.2⟩
    · cases h
  · rintro ⟨h1, h2⟩
    refine ⟨kb.id, List.mem_range.2 (Array.getElem?_eq_some_iff.1 h1).1, ?_⟩
    rw [if_pos h2, h1]
    rfl
theorem prots_ids {w0 w W : World} {C X : Nat → Prop} {l : List KB} : ((prots w0 w W C X l).map KB.id).Nodup := by
  classical
  have : ∀ (r : List Nat), r.Nodup → (((r.filterMap fun k => if w0.heap.size ≤ k ∧ k ∉ l.map KB.id ∧ (X k ∨ C k ∨ (w.heap.size ≤ k ∧ ∃ o, W.heap[k]? = some o ∧ o.isCells = false)) then (W.heap[k]?).map fun o => (⟨k, o⟩ : KB) else none).map KB.id).Nodup ∧ ∀ i ∈ (r.filterMap fun k => if w0.heap.size ≤ k ∧ k ∉ l.map KB.id ∧ (X k ∨ C k ∨ (w.heap.size ≤ k ∧ ∃ o, W.heap[k]? = some o ∧ o.isCells = false)) then (W.heap[k]?).map fun o => (⟨k, o⟩ : KB) else none).map KB.id, i ∈ r) := by
    intro r
    induction r with
    | nil => intro _; exact ⟨by simp, by simp⟩
    | cons k r ih =>
      intro hn
      obtain ⟨h1, h2⟩ := ih (List.nodup_cons.1 hn).2
      rw [List.filterMap_cons]
      split
      · exact ⟨h1, fun i hi => List.mem_cons_of_mem _ (h2 i hi)⟩
      · rename_i kb hkb
        have hid : kb.id = k := by
          split at hkb
          · cases hh : W.heap[k]? with
            | none => rw [hh] at hkb; cases hkb
            | some o => rw [hh] at hkb; cases hkb; rfl
          · cases hkb
        refine ⟨?_, fun i hi => ?_⟩
        · rw [List.map_cons, List.nodup_cons]
          exact ⟨fun hm => (List.nodup_cons.1 hn).1 (hid ▸ h2 _ hm), h1⟩
        · rw [List.map_cons] at hi
          rcases List.mem_cons.1 hi with rfl | hi
          · rw [hid]; exact List.mem_cons_self
          · exact List.mem_cons_of_mem _ (h2 i hi)
  exact (this _ List.nodup_range).1
theorem At.withProts {w0 w W : World} {C X : Nat → Prop} {kn rows : List KB} {sz : Nat} (h : At w0 W kn rows sz) : At w0 W kn (rows ++ prots w0 w W C X (rows ++ kn)) sz := by
  refine ⟨h.ok, fun kb hk => ?_, h.low, fun kb hk => ?_, ?_, h.size, h.below⟩
  · rcases List.mem_append.1 hk with hk | hk
    · exact h.rok kb hk
    · exact (prots_mem.1 hk).1
  · rcases List.mem_append.1 hk with hk | hk
    · exact h.rlow kb hk
    · exact (prots_mem.1 hk).2.1
  · have hnd := h.nd
    rw [List.map_append] at hnd
    rw [List.map_append, List.map_append]
    have hp : ∀ i ∈ (prots w0 w W C X (rows ++ kn)).map KB.id, i ∉ (rows ++ kn).map KB.id := by
      intro i hi
      obtain ⟨kb, hkb, rfl⟩ := List.mem_map.1 hi
      exact (prots_mem.1 hkb).2.2.1
    rw [List.nodup_append] at hnd ⊢
    refine ⟨?_, hnd.2.1, ?_⟩
    · rw [List.nodup_append]
      refine ⟨hnd.1, prots_ids, fun a ha b hb e => hp b hb (by rw [List.map_append]; exact List.mem_append_left _ (e ▸ ha))⟩
    · intro a ha b hb e
      rcases List.mem_append.1 ha with ha | ha
      · exact hnd.2.2 a ha b hb e
      · exact hp a ha (by rw [List.map_append]; exact List.mem_append_right _ (e ▸ hb))
/-- Without the blocks that it must not touch. -/
theorem At.dropR {w0 w : World} {kn rows rest : List KB} {sz : Nat} (h : At w0 w kn (rows ++ rest) sz) : At w0 w kn rows sz :=
  ⟨h.ok, fun kb hk => h.rok kb (List.mem_append_left _ hk), h.low, fun kb hk => h.rlow kb (List.mem_append_left _ hk), List.Nodup.sublist (((List.sublist_append_left rows rest).append (List.Sublist.refl kn)).map _) h.nd, h.size, h.below⟩

theorem keepsFrom_prots {w0 w W W' : World} {kn rows : List KB} {sz : Nat} {X C : Nat → Prop} (h : At w0 W kn rows sz) (hcells : ∀ kb ∈ rows, kb.obj.isCells = true) (hold : ∀ kb ∈ kn, kb.id < w.heap.size) (hw : w0.heap.size ≤ w.heap.size) (hz : W.heap.size ≤ W'.heap.size)
    (hpro : ∀ k o, W.heap[k]? = some o → w0.heap.size ≤ k → k ∉ (rows ++ kn).map KB.id → (X k ∨ C k ∨ (w.heap.size ≤ k ∧ o.isCells = false)) → W'.heap[k]? = some o) : KeepsFrom w.heap.size W W' :=
  ⟨hz, fun k o hk ho hc => hpro k o ho (by omega) (fun hm => by
    obtain ⟨kb, hkb, rfl⟩ := List.mem_map.1 hm
    rcases List.mem_append.1 hkb with hkb | hkb
    · have := h.rok kb hkb
      rw [ho] at this
      cases this
      rw [hcells kb hkb] at hc
      cases hc
    · have := hold kb hkb
      omega) (.inr (.inr ⟨hk, hc⟩))⟩
theorem keep_prots {w0 w W W' : World} {kn rows l : List KB} {sz n₀ : Nat} {X C : Nat → Prop} (h : At w0 W kn rows sz) (hb : Below w0.heap.size w0 W') (hn₀ : n₀ ≤ w0.heap.size) (hz : W.heap.size ≤ W'.heap.size) (hni : ∀ k, (X k ∨ C k) → k ∉ l.map KB.id)
    (hpro : ∀ k o, W.heap[k]? = some o → w0.heap.size ≤ k → k ∉ l.map KB.id → (X k ∨ C k ∨ (w.heap.size ≤ k ∧ o.isCells = false)) → W'.heap[k]? = some o) : Keep n₀ C X W W' :=
  ⟨⟨hb.os.trans h.below.os.symm, hb.tape.trans h.below.tape.symm, hb.output.trans h.below.output.symm, hz, fun k hk => (hb.block k (by omega)).trans (h.below.block k (by omega)).symm⟩, fun k o ho hc => by
    by_cases hk : k < w0.heap.size
    · rw [hb.block k hk, ← h.below.block k hk]; exact ho
    · exact hpro k o ho (by omega) (hni k hc) (hc.imp id .inl)⟩

section
variable {α γ : Type}
/-- What holds before each round. -/
structure RInv (c : Ctx) (w : World) (C : Nat → Prop) (rel : List α → γ → Prop) (kn rw : γ → List KB) (pre : List α) (X : Nat → Prop) (W : World) (g : γ) : Prop where
  rel : rel pre g
  at_ : At c.w0 W (kn g) (rw g) W.heap.size
  noX : ∀ kb ∈ rw g ++ kn g, ¬ X kb.id ∧ ¬ C kb.id
  cells : ∀ kb ∈ rw g, kb.obj.isCells = true
  old : ∀ kb ∈ kn g, kb.id < w.heap.size
  xs : ∀ k, X k → w.heap.size ≤ k
  size : w.heap.size ≤ W.heap.size
theorem at_st {w0 w W W' : World} {X : Nat → Prop} {kn rows : List KB} {sz : Nat} (h : At w0 W kn rows sz) (hw : w0.heap.size ≤ w.heap.size) (hs : St w.heap.size X W W') (hx : ∀ kb ∈ rows ++ kn, ¬ X kb.id) (hX : ∀ k, X k → w.heap.size ≤ k)
    (hc : ∀ kb ∈ rows, kb.obj.isCells = true) (ho : ∀ kb ∈ kn, kb.obj.isCells = true ∨ kb.id < w.heap.size) : At w0 W' kn rows W'.heap.size := by
  refine ⟨fun kb hk => hs.same _ _ (h.ok kb hk) (hx kb (List.mem_append_right _ hk)) (ho kb hk), fun kb hk => hs.same _ _ (h.rok kb hk) (hx kb (List.mem_append_left _ hk)) (.inl (hc kb hk)), h.low, h.rlow, h.nd, rfl, ?_⟩
  refine ⟨hs.base.os.trans h.below.os, hs.base.tape.trans h.below.tape, hs.base.output.trans h.below.output, Nat.le_trans h.below.size hs.base.size, fun k hk => ?_⟩
  have hlt : k < W.heap.size := Nat.lt_of_lt_of_le hk h.below.size
  rw [← h.below.block k hk]
  exact (hs.same k _ (Array.getElem?_eq_getElem hlt) (fun hX' => by have := hX k hX'; omega) (.inr (by omega))).trans (Array.getElem?_eq_getElem hlt).symm
theorem RInv.stable {c : Ctx} {w : World} {C : Nat → Prop} {rel : List α → γ → Prop} {kn rw : γ → List KB} (hw : c.w0.heap.size ≤ w.heap.size) : Stable w.heap.size fun pre X W => ∃ g, RInv c w C rel kn rw pre X W g := by
  rintro pre X X' W W' ⟨g, h⟩ hs hg
  have hz := hs.base.size
  refine ⟨g, h.rel, at_st h.at_ hw hs (fun kb hk => (h.noX kb hk).1) h.xs h.cells (fun kb hk => .inr (h.old kb hk)), fun kb hk => ⟨fun hx => ?_, (h.noX kb hk).2⟩, h.cells, h.old, fun k hx => ?_, Nat.le_trans h.size hz⟩
  · rcases hg.2 _ hx with hx | hx
    · exact (h.noX kb hk).1 hx
    · rcases List.mem_append.1 hk with hk | hk
      · have := h.at_.rlt hk; omega
      · have := h.at_.lt hk; omega
  · rcases hg.2 _ hx with hx | hx
    · exact h.xs k hx
    · have := h.size; omega
/-- A range over a function whose rounds all come to their end. -/
theorem rangeS {c : Ctx} {S : Sta} {w : World} {gf : Nat} {lb : Array Value} {encs : α → Array Value} {n₀ : Nat} {C : Nat → Prop} {Sx Sp : List α → Prop} {M : Nat}
    (kn rw : γ → List KB) (rel : List α → γ → Prop) (fr1 : α → Nat → Fr) (nb : α → Nat → List KB) (m : List Bool) (g0 : γ) (np : Nat)
    (hA : AtS c S w (rw g0)) (hro : c.ro = none) (h : (rfV S, pick m S.env.known) = (some (.func (.func gf) #[] lb, np), kn g0)) (eg : ∀ args w, (callFunc gf args).run c.P w = .ok (.enter gf args) w)
    (hseq : IterAt c.P gf lb encs n₀ C Sx Sp M w) (hps : ∀ x, (encs x).size = np) (hn₀ : n₀ ≤ c.w0.heap.size) (hC : ∀ k, C k → k < w.heap.size) (hCk : ∀ kb ∈ rw g0 ++ kn g0, ¬ C kb.id) (hcells : ∀ g, ∀ kb ∈ rw g, kb.obj.isCells = true) (hold : ∀ g, ∀ kb ∈ kn g, kb.id < w.heap.size)
    (hnb : ∀ x z, ∀ kb ∈ nb x z, kb.obj.isCells = true ∧ z ≤ kb.id) (hrel0 : rel [] g0)
    (hassign : ∀ (l : Nat) (x : α) (g : γ) (rows : List KB) (W : World) (J : Act → World → Prop), (∀ a' W', Rep c.N (fr1 x W.heap.size) a' → a'.defers = [] → At c.w0 W' (kn g ++ nb x W.heap.size) rows W'.heap.size → W.heap.size ≤ W'.heap.size → J a' W') →
      AtS (c.round l J W.heap.size) ⟨.code (rfA S), [], rfFr c.N S (encs x).toList, ⟨kn g, W.heap.size, [], [], [], [], []⟩⟩ W rows → Run (c.round l J W.heap.size) ⟨.code (rfA S), [], rfFr c.N S (encs x).toList, ⟨kn g, W.heap.size, [], [], [], [], []⟩⟩ W)
    (hbody : ∀ (l : Nat) (pre : List α) (x : α) (g : γ) (z : Nat) (prot : List KB) (W : World) (J : Act → World → Prop), rel pre g → pre.length < M → w.heap.size ≤ W.heap.size → (∀ g' a' W', rel (pre ++ [x]) g' → Rep c.N [] a' → a'.defers = [] → At c.w0 W' (kn g') (rw g' ++ prot) W'.heap.size → W.heap.size ≤ W'.heap.size → J a' W') →
      AtS (c.round l J W.heap.size) ⟨.code (rfB S), [], fr1 x z, ⟨kn g ++ nb x z, W.heap.size, [], [], [], [], []⟩⟩ W (rw g ++ prot) → Run (c.round l J W.heap.size) ⟨.code (rfB S), [], fr1 x z, ⟨kn g ++ nb x z, W.heap.size, [], [], [], [], []⟩⟩ W)
    (hdone : ∀ (D : Nat) (xs : List α) (g : γ) (W : World), Sx xs → rel xs g → w.heap.size ≤ D → AtS (c.marked D) ⟨.out .normal, S.stk, S.fr, ⟨kn g ++ [⟨D, .deferred (some [])⟩], W.heap.size, [], [], [], [], []⟩⟩ W (rw g) → Run (c.marked D) ⟨.out .normal, S.stk, S.fr, ⟨kn g ++ [⟨D, .deferred (some [])⟩], W.heap.size, [], [], [], [], []⟩⟩ W) : Run c S w := by
  refine ⟨fun a hR hd => ?_⟩
  simp only [Prod.mk.injEq] at h
  obtain ⟨h, hpk⟩ := h
  obtain ⟨ctl, stk, fr, e⟩ := S
  cases ctl with
  | ops _ _ => cases h
  | tail _ _ => cases h
  | draw _ _ _ _ _ _ => cases h
  | pick _ _ _ _ _ _ _ => cases h
  | out _ => cases h
  | code x =>
    cases x with
    | rangeFunc f ps as' bd =>
      have h : cond (knows fr f) (some (rho fr f, ps.size)) none = some (.func (.func gf) #[] lb, np) := h
      cases hkf : knows fr f with
      | false => rw [hkf] at h; cases h
      | true =>
        rw [hkf] at h
        simp only [cond_true, Option.some.injEq, Prod.mk.injEq] at h
        obtain ⟨h1, h2⟩ := h
        have hw0 : c.w0.heap.size ≤ w.heap.size := hA.below.size
        have hA0 := (At.pick hA.at_ m hpk).resize
        show (Code.rangeFunc f ps as' bd).wpIn (fen c.ro) 1 c.P (kQ c stk) a w
        rw [hro]
        refine wpIn_level rfl (n := 3) (range_iter (α := α) ((hR.eval hkf).trans h1) eg hseq (Below.refl _ _) hC (Nat.le_trans hn₀ hw0) (fun x => (hps x).trans h2.symm)
          (fun pre X W => ∃ g, RInv c w C rel kn rw pre X W g) (fun _ _ _ _ => False) (RInv.stable hw0) (fun _ _ _ _ _ _ h _ _ => h) ⟨g0, hrel0, hA0, fun kb hk => ⟨fun hx => hx.elim, hCk kb hk⟩, hcells g0, hold g0, fun _ hx => hx.elim, Nat.le_refl _⟩
          (fun pre X x a' W => ∃ g z, RInv c w C rel kn rw pre X W g ∧ Rep c.N (fr1 x z) a' ∧ a'.defers = [] ∧ At c.w0 W (kn g ++ nb x z) (rw g) W.heap.size ∧ ∀ kb ∈ nb x z, ¬ X kb.id ∧ ¬ C kb.id) ?_ ?_ ?_ ?_ ?_)
        · rintro pre X x a' W W' ⟨g, z, q1, q2, q3, q4, q5⟩ hs
          have hz := hs.base.size
          have hgr : Grows X X W := Grows.refl _ _
          have q4' := at_st (X := noBlock) q4 hw0 hs (fun _ _ h => h) (fun _ h => h.elim) q1.cells (fun kb hk => by
            rcases List.mem_append.1 hk with hk | hk
            · exact .inr (q1.old kb hk)
            · exact .inl (hnb x z kb hk).1)
          exact ⟨g, z, ⟨q1.rel, q4'.sub (List.sublist_append_left _ _), q1.noX, q1.cells, q1.old, q1.xs, Nat.le_trans q1.size hz⟩, q2, q3, q4', q5⟩
        · rintro l pre x X W K ⟨g, hI⟩ hsz hX hK
          have hpr := hI.at_.withProts (w := w) (C := C) (X := X)
          have hrun := hassign l x g _ W K ?_ ⟨hpr, Nat.le_refl _⟩
          · have := hrun.go { tmps := (ps.zip (encs x)).foldl (fun t (p, v) => t.setIfInBounds p v) a.tmps, defers := [] } ?_ rfl
            · exact this
            · have hz := rep_zip (a := a) (N := c.N) (ps.toList.zip (encs x).toList) fr hR
              have e1 : (ps.zip (encs x)).foldl (fun t (p : Nat × Value) => t.setIfInBounds p.1 p.2) a.tmps = (ps.toList.zip (encs x).toList).foldl (fun t (p : Nat × Value) => t.setIfInBounds p.1 p.2) a.tmps := by
                rw [← Array.foldl_toList, Array.toList_zip]
              show Rep c.N _ ⟨(ps.zip (encs x)).foldl (fun t (p : Nat × Value) => t.setIfInBounds p.1 p.2) a.tmps, []⟩
              rw [e1]
              exact hz
          · intro a' W' r1 r2 r3 r4
            have hpro : ∀ k o, W.heap[k]? = some o → c.w0.heap.size ≤ k → k ∉ (rw g ++ kn g).map KB.id → (X k ∨ C k ∨ (w.heap.size ≤ k ∧ o.isCells = false)) → W'.heap[k]? = some o := fun k o ho h0 hni hc =>
              r3.rok ⟨k, o⟩ (List.mem_append_right _ (prots_mem.2 ⟨ho, h0, hni, hc.imp id (fun h => h.imp id fun h => ⟨h.1, o, ho, h.2⟩)⟩))
            have hni : ∀ k, (X k ∨ C k) → k ∉ (rw g ++ kn g).map KB.id := fun k hk hm => by
              obtain ⟨kb, hkb, rfl⟩ := List.mem_map.1 hm
              exact hk.elim (hI.noX kb hkb).1 (hI.noX kb hkb).2
            have hkf : KeepsFrom w.heap.size W W' := keepsFrom_prots hI.at_ hI.cells hI.old hw0 r4 hpro
            have hkeep : Keep n₀ C X W W' := keep_prots hI.at_ r3.below hn₀ r4 hni hpro
            have hA' := r3.dropR
            have hI' : RInv c w C rel kn rw pre X W' g := ⟨hI.rel, hA'.sub (List.sublist_append_left _ _), hI.noX, hI.cells, hI.old, hI.xs, Nat.le_trans hI.size r4⟩
            refine hK a' W' hkeep hkf ⟨g, hI'⟩ ⟨g, W.heap.size, hI', r1, r2, hA', fun kb hkb => ⟨fun hx => ?_, fun hc => ?_⟩⟩
            · have := (hX _ hx).2; have := (hnb x _ kb hkb).2; omega
            · have := hC _ hc; have := (hnb x _ kb hkb).2; omega
        · rintro l pre x X a' W _ ⟨g, z, hI, q2, q3, q4, q5⟩ hsz hX hlen
          have hpr := q4.withProts (w := w) (C := C) (X := X)
          have hcl : ∀ kb ∈ rw g ++ (kn g ++ nb x z), ¬ X kb.id ∧ ¬ C kb.id := fun kb hk => by
            rcases List.mem_append.1 hk with hk | hk
            · exact hI.noX kb (List.mem_append_left _ hk)
            · rcases List.mem_append.1 hk with hk | hk
              · exact hI.noX kb (List.mem_append_right _ hk)
              · exact q5 kb hk
          have hrun := hbody l pre x g z _ W (fun a' W' => itPost w.heap.size n₀ C X (fun pre X W => ∃ g, RInv c w C rel kn rw pre X W g) (fun _ _ _ _ => False) (pre ++ [x]) W .normal a' W') hI.rel hlen hsz ?_ ⟨hpr, Nat.le_refl _⟩
          · refine wpIn_mono (hrun.go a' q2 q3) fun e b v h => ?_
            cases e with
            | normal => exact h
            | _ => exact h.elim
          · intro g' b W' r0 _ _ r3 r4
            have hpm : ∀ k o, W.heap[k]? = some o → c.w0.heap.size ≤ k → k ∉ (rw g ++ (kn g ++ nb x z)).map KB.id → (X k ∨ C k ∨ (w.heap.size ≤ k ∧ o.isCells = false)) → (⟨k, o⟩ : KB) ∈ prots c.w0 w W C X (rw g ++ (kn g ++ nb x z)) := fun k o ho h0 hni hc =>
              prots_mem.2 ⟨ho, h0, hni, hc.imp id (fun h => h.imp id fun h => ⟨h.1, o, ho, h.2⟩)⟩
            have hpro : ∀ k o, W.heap[k]? = some o → c.w0.heap.size ≤ k → k ∉ (rw g ++ (kn g ++ nb x z)).map KB.id → (X k ∨ C k ∨ (w.heap.size ≤ k ∧ o.isCells = false)) → W'.heap[k]? = some o := fun k o ho h0 hni hc =>
              r3.rok ⟨k, o⟩ (List.mem_append_right _ (hpm k o ho h0 hni hc))
            have hni : ∀ k, (X k ∨ C k) → k ∉ (rw g ++ (kn g ++ nb x z)).map KB.id := fun k hk hm => by
              obtain ⟨kb, hkb, rfl⟩ := List.mem_map.1 hm
              exact hk.elim (hcl kb hkb).1 (hcl kb hkb).2
            have hno : ∀ kb ∈ rw g' ++ kn g', ∀ k, k = kb.id → (X k ∨ C k) → False := fun kb hk k ek hc => by
              have h0 : c.w0.heap.size ≤ k := by
                rw [ek]
                rcases List.mem_append.1 hk with hk | hk
                · exact r3.rlow kb (List.mem_append_left _ hk)
                · exact r3.low kb hk
              have hlt : k < W.heap.size := hc.elim (fun h => (hX k h).2) fun h => Nat.lt_of_lt_of_le (hC k h) hsz
              have hm := hpm k _ (Array.getElem?_eq_getElem hlt) h0 (hni k hc) (hc.imp id .inl)
              have hnd := r3.nd
              rw [List.append_assoc, List.map_append, List.nodup_append, List.map_append, List.nodup_append] at hnd
              rcases List.mem_append.1 hk with hk | hk
              · exact hnd.2.2 _ (List.mem_map_of_mem hk) _ (List.mem_append_left _ (List.mem_map_of_mem hm)) ek.symm
              · exact hnd.2.1.2.2 _ (List.mem_map_of_mem hm) _ (List.mem_map_of_mem hk) ek
            have hkf : KeepsFrom w.heap.size W W' := ⟨r4, fun k o hk ho hc => hpro k o ho (by omega) (fun hm => by
              obtain ⟨kb, hkb, rfl⟩ := List.mem_map.1 hm
              rcases List.mem_append.1 hkb with hkb | hkb
              · have := q4.rok kb hkb
                rw [ho] at this
                cases this
                rw [hI.cells kb hkb] at hc
                cases hc
              · have := q4.ok kb hkb
                rcases List.mem_append.1 hkb with hkb | hkb
                · have := hI.old kb hkb; omega
                · rw [ho] at this
                  cases this
                  rw [(hnb x z kb hkb).1] at hc
                  cases hc) (.inr (.inr ⟨hk, hc⟩))⟩
            have hkeep : Keep n₀ C X W W' := keep_prots q4 r3.below hn₀ r4 hni hpro
            exact ⟨hkf, hkeep, g', r0, r3.dropR, fun kb hk => ⟨fun hx => hno kb hk _ rfl (.inl hx), fun hx => hno kb hk _ rfl (.inr hx)⟩, hcells g', hold g', hI.xs, Nat.le_trans hI.size r4⟩
        · rintro D xs X W hD hS ⟨g, hI⟩ hDo
          have hAD : At c.w0 W (kn g ++ [⟨D, .deferred (some [])⟩]) (rw g) W.heap.size := by
            refine ⟨fun kb hk => ?_, hI.at_.rok, fun kb hk => ?_, hI.at_.rlow, ?_, rfl, hI.at_.below⟩
            · rcases List.mem_append.1 hk with hk | hk
              · exact hI.at_.ok kb hk
              · rw [List.mem_singleton.1 hk]; exact hDo
            · rcases List.mem_append.1 hk with hk | hk
              · exact hI.at_.low kb hk
              · rw [List.mem_singleton.1 hk]; exact Nat.le_trans hw0 hD
            · rw [← List.append_assoc, List.map_append, List.nodup_append]
              refine ⟨hI.at_.nd, by simp, ?_⟩
              intro i hi j hj e
              simp only [List.map_cons, List.map_nil, List.mem_singleton] at hj
              obtain ⟨kb, hkb, rfl⟩ := List.mem_map.1 hi
              rcases List.mem_append.1 hkb with hkb | hkb
              · have h1 := hI.at_.rok kb hkb
                rw [e, hj, hDo] at h1
                have h2 := hI.cells kb hkb
                rw [← Option.some.inj h1] at h2
                cases h2
              · have := hI.old kb hkb
                omega
          have := (hdone D xs g W hS hI.rel hD ⟨hAD, Nat.le_trans hA.lo hI.size⟩).go { a with defers := markOf D :: a.defers } ⟨hR.1, hR.2⟩ (by show markOf D :: a.defers = markOf D :: c.ds; rw [hd])
          have this : kQ (c.marked D) stk .normal { a with defers := markOf D :: a.defers } W := this
          rw [kQ_marked] at this
          exact this
        · rintro D cc pre X W _ _ h
          exact h.elim
    | _ => cases h
end
end Go.Proofs.Ytfidkgpimlpdbaa

/- Symbolic runs: functions that range over functions, calls of yield. -/
namespace Go.Proofs.Ytfidkgpimlpdbaa
open Go.RowKit Go.Shelf

/-! ### entry where blocks are known -/
noncomputable def staK (body : Code) (args : Array Value) (kn : List KB) (z : Nat) : Sta := ⟨.code body, [], argFr args.toList 0, ⟨kn, z, [], [], [], [], []⟩⟩
theorem bodyOf_eq {fn : Func} (h : fn.body.isSome = true) : fn.body = some (bodyOf fn) := by
  unfold bodyOf
  cases hbd : fn.body with
  | none => rw [hbd] at h; cases h
  | some c => rfl
theorem enterK {P : Program} {f : FuncId} {fn : Func} {args : Array Value} {w w0 : World} {kn rows : List KB} {R : Ending → World → Prop} (N : Nat) (hf : P.funcs[f]? = some fn) (hb : (fn.body.isSome, args.size + (fn.ntmps - args.size)) = (true, N)) (hA : At w0 w kn rows w.heap.size)
    (h : AtS (fctx P N fn R w0) (staK (bodyOf fn) args kn w.heap.size) w rows → Run (fctx P N fn R w0) (staK (bodyOf fn) args kn w.heap.size) w) : Calls P f args w R := by
  simp only [Prod.mk.injEq] at hb
  refine calls_of_wp hf (bodyOf_eq hb.1) (wp_fen ?_)
  exact (h ⟨hA, Nat.zero_le _⟩).go _ (rep0 hb.2) rfl

/-! ### marks -/
def mctx (P : Program) (N : Nat) (fn : Func) (R : Ending → World → Prop) (w0 : World) (ds : List Deferred) : Ctx := ⟨P, none, N, ds, bodyPostM Fence.wide 1 P fn R, w0, 0⟩
theorem enterM {P : Program} {f : FuncId} {fn : Func} {args : Array Value} {w : World} {R : Ending → World → Prop} (N : Nat) (hf : P.funcs[f]? = some fn) (hb : (fn.body.isSome, args.size + (fn.ntmps - args.size)) = (true, N))
    (h : AtS (mctx P N fn R w []) (sta0 (bodyOf fn) args w.heap.size) w [] → Run (mctx P N fn R w []) (sta0 (bodyOf fn) args w.heap.size) w) : Calls P f args w R := by
  simp only [Prod.mk.injEq] at hb
  refine (callsIn_wide (n := 1)).1 (callsIn_of_wp_marks hf (bodyOf_eq hb.1) trivial ?_ rfl)
  exact (h ⟨At.start w, Nat.zero_le _⟩).go _ (rep0 hb.2) rfl
/-- Without the block at a place. -/
noncomputable def dropAt : List KB → Nat → List KB := List.rec (fun _ => []) (fun x l ih j => Nat.rec l (fun i _ => x :: ih i) j)
theorem dropAt_eq : ∀ (l : List KB) (j : Nat), dropAt l j = l.eraseIdx j
  | [], _ => by rw [List.eraseIdx_nil]; rfl
  | _ :: _, 0 => rfl
  | x :: l, j + 1 => by rw [List.eraseIdx_cons_succ, ← dropAt_eq l j]; rfl
noncomputable def unm : List Nat → List KB → Option (List Deferred × List KB)
  | [], kn => some ([], kn)
  | j :: js, kn => match nth kn j with
    | some ⟨D, .deferred (some [])⟩ => match unm js (dropAt kn j) with
      | some (ds, kn') => some (markOf D :: ds, kn')
      | none => none
    | _ => none
theorem At.unmark {w0 w : World} {kn rows : List KB} {sz j D : Nat} {o o' : Obj} (h : At w0 w kn rows sz) (hj : kn[j]? = some ⟨D, o⟩) : At w0 (w.putObj D o') (kn.eraseIdx j) rows sz := by
  have hm : (⟨D, o⟩ : KB) ∈ kn := List.mem_of_getElem? hj
  have ht : At w0 (w.putObj D o') (kn.set j ⟨D, o'⟩) rows sz := h.turn (kb := ⟨D, o⟩) hj o' (by simp) (World.putObj_heap_same (h.lt hm)) (fun k hk => World.putObj_heap_other hk) rfl rfl rfl
  refine ht.sub ?_
  have : (kn.set j ⟨D, o'⟩).eraseIdx j = kn.eraseIdx j := List.eraseIdx_set_eq
  rw [← this]
  exact List.eraseIdx_sublist _ _
theorem leaves_unm {P : Program} {fn : Func} {tmps : Array Value} {R : Ending → World → Prop} {w0 : World} {rows : List KB} {sz : Nat} : ∀ (js : List Nat) (kn kn' : List KB) (ds : List Deferred) (w : World), unm js kn = some (ds, kn') → At w0 w kn rows sz →
    (∀ w', At w0 w' kn' rows sz → ∃ v, (results fn tmps).run P w' = .ok v w' ∧ R (.returned v) w') → LeavesInM Fence.wide 1 P fn tmps R ds .returning w
  | [], kn, kn', ds, w, hu, hA, h => by
    cases hu
    exact h w hA
  | j :: js, kn, kn', ds, w, hu, hA, h => by
    unfold unm at hu
    split at hu
    · rename_i D hn
      split at hu
      · rename_i ds' kn'' hu'
        cases hu
        rw [nth_eq] at hn
        rw [dropAt_eq] at hu'
        refine ⟨by simp, .inl ⟨D, _, rfl, run_takeDeferred (hA.ok _ (List.mem_of_getElem? hn)), leaves_unm js _ kn' ds' _ hu' (hA.unmark hn) h⟩⟩
      · cases hu
    · cases hu
noncomputable def retK (P : Program) (fn : Func) (S : Sta) (kn : List KB) (hs : List Hint) : Option (Value × Env) := sy P true (resS fn S.fr) ⟨kn, S.env.sz, hs, [], [], [], []⟩
theorem retM {P : Program} {N : Nat} {w0 : World} {S : Sta} {w : World} {rows kn' : List KB} {fn : Func} {R : Ending → World → Prop} {v : Value} {ds : List Deferred} (js : List Nat) (hA : AtS (mctx P N fn R w0 ds) S w rows) (hs : List Hint)
    (h : (endB S, resK fn S.fr, unm js S.env.known, retV (retK P fn S kn' hs), (retE (retK P fn S kn' hs)).map Prod.fst) = (true, true, some (ds, kn'), some v, (retE (retK P fn S kn' hs)).map Prod.snd)) (hv : ∀ w', At w0 w' kn' rows S.env.sz → R (.returned v) w') : Run (mctx P N fn R w0 ds) S w := by
  refine ⟨fun a hR hda => ?_⟩
  simp only [Prod.mk.injEq] at h
  obtain ⟨he, hk, hu, h, heq⟩ := h
  unfold retV at h
  split at h
  · rename_i v' kn sz hs' eqs hsy
    cases h
    rw [hsy] at heq
    obtain ⟨-, -, hr⟩ := sy_read (w0 := w0) _ _ _ _ hsy ⟨eqs_of_map heq, by simp, by simp, by simp⟩
    have main : LeavesInM Fence.wide 1 P fn a.tmps R a.defers .returning w := by
      rw [hda]
      refine leaves_unm js _ kn' _ w hu hA.at_ fun w' hA' => ⟨_, ?_, hv w' hA'⟩
      have hrun := hr w' hA'.hold
      rw [← res_eq hR hk] at hrun
      exact hrun
    obtain ⟨ctl, s, fr, e⟩ := S
    unfold endB at he
    split at he
    · rename_i h3 h4
      simp only at h3 h4
      subst h3; subst h4
      exact main
    · rename_i h3 h4
      simp only at h3 h4
      subst h3; subst h4
      exact main
    · cases he
  · cases h

/-! ### yield -/
/-- All blocks from n₀ on that are not known. -/
noncomputable def others (w0 w : World) (kn : List KB) : List KB := prots w0 w w noBlock (fun _ => True) kn
theorem At.others {w0 w : World} {kn rows : List KB} {sz : Nat} (h : At w0 w kn rows sz) : At w0 w kn (Go.Proofs.Ytfidkgpimlpdbaa.others w0 w kn) sz := by
  have := (h.sub (List.Sublist.refl _))
  have h0 : At w0 w kn [] sz := ⟨h.ok, by simp, h.low, by simp, by have := h.nd; rw [List.map_append, List.nodup_append] at this; exact this.2.1, h.size, h.below⟩
  exact h0.withProts (w := w) (C := noBlock) (X := fun _ => True)
theorem mem_others {w0 w : World} {kn : List KB} {k : Nat} {o : Obj} (h : w.heap[k]? = some o) (hk : w0.heap.size ≤ k) (hn : k ∉ kn.map KB.id) : (⟨k, o⟩ : KB) ∈ others w0 w kn := prots_mem.2 ⟨h, hk, hn, .inl trivial⟩
/-- What an iterator's user holds, said of a world from which on only the iterator's own blocks have turned. -/
structure YI {α : Type} (w0 : World) (J : List α → (Nat → Prop) → World → Prop) (pre : List α) (X : Nat → Prop) (rows : List KB) (w : World) : Prop where
  ex : ∃ Wy, J pre X Wy ∧ Below w0.heap.size w0 Wy ∧ Wy.heap.size ≤ w.heap.size ∧ ∀ k o, Wy.heap[k]? = some o → w0.heap.size ≤ k → ¬ X k → (⟨k, o⟩ : KB) ∈ rows
theorem YI.up {α : Type} {w0 w w' : World} {J : List α → (Nat → Prop) → World → Prop} {pre : List α} {X : Nat → Prop} {rows : List KB} (h : YI w0 J pre X rows w) (hz : w.heap.size ≤ w'.heap.size) : YI w0 J pre X rows w' := by
  obtain ⟨Wy, h1, h2, h3, h4⟩ := h.ex
  exact ⟨Wy, h1, h2, Nat.le_trans h3 hz, h4⟩
theorem YI.now {α : Type} {w0 w : World} {J : List α → (Nat → Prop) → World → Prop} {pre : List α} {X X' : Nat → Prop} {kn rows : List KB} {sz B : Nat} (h : YI w0 J pre X rows w) (hJ : Stable B J) (hA : At w0 w kn rows sz) (hX : ∀ k, X k → X' k) (hX' : ∀ k, X' k → X k ∨ ∃ kb ∈ kn, kb.id = k) : J pre X' w := by
  obtain ⟨Wy, h1, h2, h3, h4⟩ := h.ex
  refine hJ _ _ _ _ _ h1 ⟨⟨hA.below.os.trans h2.os.symm, hA.below.tape.trans h2.tape.symm, hA.below.output.trans h2.output.symm, h3, fun k hk => absurd hk (Nat.not_lt_zero _)⟩, fun k o ho hx hc => ?_⟩ ⟨hX, fun k hk => ?_⟩
  · by_cases hk : k < w0.heap.size
    · rw [hA.below.block k hk, ← h2.block k hk]; exact ho
    · exact hA.rok _ (h4 k o ho (by omega) hx)
  · rcases hX' k hk with h | ⟨kb, hkb, rfl⟩
    · exact .inl h
    · by_cases hx : X kb.id
      · exact .inl hx
      · refine .inr ?_
        by_cases hlt : kb.id < Wy.heap.size
        · have hm := h4 kb.id _ (Array.getElem?_eq_getElem hlt) (hA.low kb hkb) hx
          have hnd := hA.nd
          rw [List.map_append, List.nodup_append] at hnd
          exact (hnd.2.2 kb.id (List.mem_map.2 ⟨_, hm, rfl⟩) kb.id (List.mem_map.2 ⟨_, hkb, rfl⟩) rfl).elim
        · omega
theorem roundIn_any {P : Program} {l : Nat} {f : FuncId} {tmps : Array Value} {assign body : Code} {w : World} {R : Ending → World → Prop} {n m : Nat} {F : Fence} (hF : F = Fence.wide) (h : RoundIn Fence.wide n P l f tmps assign body w R) : RoundIn F m P l f tmps assign body w R := by
  subst hF
  exact ⟨h.1, fun c cs _ => h.2 c cs fun d hd => by cases hd⟩
/-- A call of yield. -/
theorem yieldS {c : Ctx} {S : Sta} {w : World} {rows kn' : List KB} {l n₀ B : Nat} {args : Array Value} {X C : Nat → Prop} {T F : World → Prop} (hA : AtS c S w rows) (hs : List Hint) {obs : List Prop} (hcd : AllP obs) (m : List Bool) (hro : c.ro = none)
    (h : (noDraw S, semOf c.P c.N S hs, pick m S.env.known) = (true, some (Instr.yield l args, obs), kn')) (hn : n₀ = c.w0.heap.size)
    (hy : YieldAt Fence.wide 1 c.P l args w fun e W' => ((e = .returned (.bool true) ∧ T W') ∨ (e = .returned (.bool false) ∧ F W')) ∧ Keep n₀ C X w W' ∧ KeepsFrom B w W')
    (hk : ∀ kb ∈ kn', X kb.id ∨ C kb.id)
    (k1 : ∀ w', T w' → Keep n₀ C X w w' → AtS c (knS (valS c.N S (.bool true) w'.heap.size) kn') w' (others c.w0 w' kn') → Run c (knS (valS c.N S (.bool true) w'.heap.size) kn') w')
    (k2 : ∀ w', F w' → Keep n₀ C X w w' → AtS c (knS (valS c.N S (.bool false) w'.heap.size) kn') w' (others c.w0 w' kn') → Run c (knS (valS c.N S (.bool false) w'.heap.size) kn') w') : Run c S w := by
  simp only [Prod.mk.injEq] at h
  obtain ⟨hnd, h, hpk⟩ := h
  refine ⟨fun a hR hd => ?_⟩
  have hAt : ∀ w', Keep n₀ C X w w' → ∀ v, AtS c (knS (valS c.N S v w'.heap.size) kn') w' (others c.w0 w' kn') := fun w' hkp v => by
    have hp := hA.at_.pick m hpk
    have hA' : At c.w0 w' kn' [] w'.heap.size := ⟨fun kb hkb => hkp.same _ _ (hp.ok kb hkb) (hk kb hkb), by simp, hp.low, by simp, by have := hp.nd; rw [List.map_append, List.nodup_append] at this; exact this.2.1, rfl, hp.below.trans (hn ▸ hkp.below)⟩
    refine ⟨?_, Nat.le_trans hA.lo hkp.below.size⟩
    show At c.w0 w' kn' _ (valS c.N S v w'.heap.size).env.sz
    rw [(valS_env h v w'.heap.size).2]
    exact hA'.others
  unfold semOf at h
  split at h
  · rename_i o all hhead
    split at h
    · rename_i frw kn sz hs' obs' hw
      cases hcc : (plainOp o && o.op.operands.toList.all (knows frw) && (putS c.N S.fr o.dst undef).isSome) with
      | false => rw [hcc] at h; cases h
      | true =>
        rw [hcc] at h
        simp only [cond_true, Option.some.injEq, Prod.mk.injEq] at h
        obtain ⟨hsem, rfl⟩ := h
        simp only [Bool.and_eq_true] at hcc
        obtain ⟨⟨c1, c2⟩, c3⟩ := hcc
        obtain ⟨-, -, -, hwt⟩ := wantS_sound (w0 := c.w0) (N := c.N) hw ⟨by simp, by simp, hcd.mem, by simp⟩
        have hwt' := (hwt a hR).2
        have hexec := (hwt a hR).1.exec c1 c2
        rw [hsem] at hexec
        have hrep : ∀ v, Rep c.N (putD c.N S.fr o.dst v) (a.put o.dst v) ∧ (a.put o.dst v).defers = c.ds := fun v => ⟨hR.put (putS_any c3 v), by rw [← hd]; cases o.dst <;> rfl⟩
        obtain ⟨fn, tmps, assign, body, hyr, hrd⟩ := hy
        have key : ∀ (F' : Fence) (_ : ∀ f, F'.fn f) (_ : F' = Fence.wide) (Q : Exit → Act → World → Prop) (rest : List Oper), (∀ v w', (v = .bool true ∧ T w' ∨ v = .bool false ∧ F w') → Keep n₀ C X w w' → wpListIn F' 1 c.P all Q rest (a.put o.dst v) w') → wpListIn F' 1 c.P all Q (o :: rest) a w := fun F' hF hFw Q rest hnx => by
          unfold wpListIn
          rw [if_pos hwt']
          refine ⟨fun f _ => hF f, ?_⟩
          rw [Oper.semAt_plain _ _ _ (plain_defer c1), hexec, hyr]
          refine ⟨fun _ => Nat.le_refl _, (roundIn_any hFw hrd).mono fun e w' he => ?_⟩
          obtain ⟨he, hkp, -⟩ := he
          rcases he with ⟨rfl, ht⟩ | ⟨rfl, ht⟩
          · exact hnx _ _ (.inl ⟨rfl, ht⟩) hkp
          · exact hnx _ _ (.inr ⟨rfl, ht⟩) hkp
        obtain ⟨ctl, st, fr, e⟩ := S
        unfold headOf at hhead
        split at hhead
        · rename_i all' o' l hctl
          simp only at hctl
          subst hctl
          cases hhead
          refine key (fen c.ro) (fen_fn _) (by rw [hro]; rfl) _ _ fun v w' hv hkp => ?_
          rcases hv with ⟨rfl, ht⟩ | ⟨rfl, ht⟩
          · exact (k1 w' ht hkp (hAt w' hkp _)).go _ (hrep _).1 (hrep _).2
          · exact (k2 w' ht hkp (hAt w' hkp _)).go _ (hrep _).1 (hrep _).2
        · rename_i all' o' l hctl
          simp only at hctl
          subst hctl
          cases hhead
          refine key _ wide_fn rfl _ _ fun v w' hv hkp => ?_
          rcases hv with ⟨rfl, ht⟩ | ⟨rfl, ht⟩
          · exact (k1 w' ht hkp (hAt w' hkp _)).go _ (hrep _).1 (hrep _).2
          · exact (k2 w' ht hkp (hAt w' hkp _)).go _ (hrep _).1 (hrep _).2
        · rename_i all' listed f kn0 m nd hctl
          simp only at hctl
          subst hctl
          cases hnd
        · rename_i all' listed f kn0 m nd i hctl
          simp only at hctl
          subst hctl
          cases hnd
        · cases hhead
    · cases h
  · cases h
/-- A world cut off at n blocks. -/
def cutW (w : World) (n : Nat) : World := { w with heap := w.heap.extract 0 n }
theorem cut_size {w : World} {n : Nat} (h : n ≤ w.heap.size) : (cutW w n).heap.size = n := by simp [cutW, h]
theorem cut_block {w : World} {n k : Nat} (hk : k < n) : (cutW w n).heap[k]? = w.heap[k]? := by
  simp only [cutW, Array.getElem?_extract]
  split
  · simp
  · rename_i h
    have : w.heap[k]? = none := Array.getElem?_eq_none (by omega)
    rw [this]
theorem cut_below {w W : World} {n : Nat} (hn : n ≤ w.heap.size) (h : Below n w W) : Below (cutW w n).heap.size (cutW w n) W := by
  refine ⟨h.os, h.tape, h.output, ?_, fun k hk => ?_⟩
  · rw [cut_size hn]; exact Nat.le_trans hn h.size
  · rw [cut_size hn] at hk
    rw [cut_block hk]
    exact h.block k hk
theorem cut_cell {w : World} {n : Nat} {p : Addr} (hb : p.block < n) : (cutW w n).cell? p = w.cell? p := by
  unfold World.cell?
  rw [cut_block hb]
/-! ### another world to read from -/
def Ctx.reb (c : Ctx) (w0 : World) : Ctx := ⟨c.P, c.ro, c.N, c.ds, c.Q, w0, c.lo⟩
theorem kQ_reb {c : Ctx} {w0 : World} : ∀ s, kQ (c.reb w0) s = kQ c s
  | [] => rfl
  | .seq y :: s => by show Exit.then (y.wpIn (fen c.ro) 1 c.P (kQ (c.reb w0) s)) (kQ (c.reb w0) s) = _; rw [kQ_reb s]; rfl
  | .blk id :: s => by show Exit.inBlock id (kQ (c.reb w0) s) = _; rw [kQ_reb s]; rfl
theorem wpS_reb {c : Ctx} {w0 : World} {S : Sta} {e : Env} {a : Act} {w : World} (hnd : noDraw S = true) : wpS (c.reb w0) ⟨S.ctl, S.stk, S.fr, e⟩ a w ↔ wpS c S a w := by
  obtain ⟨ctl, st, fr, e'⟩ := S
  cases ctl with
  | draw _ _ _ _ _ _ => cases hnd
  | pick _ _ _ _ _ _ _ => cases hnd
  | code x => show (x.wpIn (fen c.ro) 1 c.P (kQ (c.reb w0) st) a w) ↔ _; rw [kQ_reb]; exact Iff.rfl
  | ops all l => show (wpListIn (fen c.ro) 1 c.P all (kQ (c.reb w0) st) l a w) ↔ _; rw [kQ_reb]; exact Iff.rfl
  | tail all l => show (wpListIn Fence.wide 1 c.P all (endQ (c.reb w0) st) l a w) ↔ _; unfold endQ; rw [kQ_reb]; exact Iff.rfl
  | out x => show kQ (c.reb w0) st x a w ↔ _; rw [kQ_reb]; exact Iff.rfl
/-- Said with what another world holds. -/
theorem rebase {c : Ctx} {S : Sta} {w : World} {rows : List KB} (hA : AtS c S w rows) (w0 : World) {kn' rows' : List KB} (hnd : noDraw S = true) (hA' : At w0 w kn' rows' w.heap.size)
    (k : AtS (c.reb w0) ⟨S.ctl, S.stk, S.fr, ⟨kn', w.heap.size, [], [], [], [], []⟩⟩ w rows' → Run (c.reb w0) ⟨S.ctl, S.stk, S.fr, ⟨kn', w.heap.size, [], [], [], [], []⟩⟩ w) : Run c S w :=
  ⟨fun a hR hd => (wpS_reb hnd).1 ((k ⟨hA', hA.lo⟩).go a hR hd)⟩
theorem back {c : Ctx} {S : Sta} {w w0 : World} {rows : List KB} (hA : AtS (c.reb w0) S w rows) {kn' rows' : List KB} (hnd : noDraw S = true) (hA' : At c.w0 w kn' rows' w.heap.size)
    (k : AtS c ⟨S.ctl, S.stk, S.fr, ⟨kn', w.heap.size, [], [], [], [], []⟩⟩ w rows' → Run c ⟨S.ctl, S.stk, S.fr, ⟨kn', w.heap.size, [], [], [], [], []⟩⟩ w) : Run (c.reb w0) S w :=
  ⟨fun a hR hd => by
    have h := (k ⟨hA', hA.lo⟩).go a hR hd
    have h2 := (wpS_reb (c := c) (w0 := w0) (S := ⟨S.ctl, S.stk, S.fr, ⟨kn', w.heap.size, [], [], [], [], []⟩⟩) (e := S.env) hnd).2 h
    exact h2⟩
theorem At.plain {w0 w : World} (h : Below w0.heap.size w0 w) : At w0 w [] [] w.heap.size := ⟨by simp, by simp, by simp, by simp, by simp, rfl, h⟩
/-! ### what is not known is remembered -/
theorem AtS.all {c : Ctx} {S : Sta} {w : World} {rows : List KB} (h : AtS c S w rows) : AtS c S w (others c.w0 w S.env.known) := ⟨h.at_.others, h.lo⟩
theorem AtS.allK {c : Ctx} {S : Sta} {w : World} {rows : List KB} (h : AtS c S w rows) (kn : List KB) (e : S.env.known = kn) : AtS c S w (others c.w0 w kn) := e ▸ h.all
theorem AtS.atK {c : Ctx} {S : Sta} {w : World} {rows : List KB} (h : AtS c S w rows) (kn : List KB) (e : S.env.known = kn) : At c.w0 w kn rows S.env.sz := e ▸ h.at_
theorem others_block {w0 w w' : World} {kn kn' r : List KB} {sz sz' k : Nat} {o : Obj} (hA : At w0 w kn r sz) (hA' : At w0 w' kn' (others w0 w kn) sz') (ho : w.heap[k]? = some o) (hk : k ∉ kn.map KB.id) : w'.heap[k]? = some o := by
  by_cases h : k < w0.heap.size
  · rw [hA'.below.block k h, ← hA.below.block k h]; exact ho
  · exact hA'.rok _ (mem_others ho (by omega) hk)
theorem others_cell {w0 w w' : World} {kn kn' r : List KB} {sz sz' : Nat} {p : Addr} {v : Value} (hA : At w0 w kn r sz) (hA' : At w0 w' kn' (others w0 w kn) sz') (hv : w.cell? p = some v) (hk : p.block ∉ kn.map KB.id) : w'.cell? p = some v := by
  cases ho : w.heap[p.block]? with
  | none => unfold World.cell? at hv; rw [ho] at hv; cases hv
  | some o =>
    have := others_block hA hA' ho hk
    unfold World.cell? at hv ⊢
    rw [this]
    rw [ho] at hv
    exact hv
theorem AtS.bare {c : Ctx} {S : Sta} {w : World} {rows : List KB} (h : AtS c S w rows) : AtS c S w [] :=
  ⟨⟨h.at_.ok, by simp, h.at_.low, by simp, by have := h.at_.nd; rw [List.map_append, List.nodup_append] at this; exact this.2.1, h.at_.size, h.at_.below⟩, h.lo⟩
/-- Nothing has turned since all was remembered. -/
theorem below_all {w0 w w' : World} {kn r r' : List KB} {sz sz' : Nat} (hA : At w0 w kn r sz) (hA' : At w0 w' kn r' sz') (hr : r' = others w0 w kn) (hz : w.heap.size ≤ w'.heap.size) : Below w.heap.size w w' := by
  subst hr
  refine ⟨hA'.below.os.trans hA.below.os.symm, hA'.below.tape.trans hA.below.tape.symm, hA'.below.output.trans hA.below.output.symm, hz, fun k hk => ?_⟩
  have ho := Array.getElem?_eq_getElem hk
  by_cases hm : k ∈ kn.map KB.id
  · obtain ⟨kb, hkb, rfl⟩ := List.mem_map.1 hm
    rw [hA'.ok kb hkb, hA.ok kb hkb]
  · rw [others_block hA hA' ho hm, ho]
theorem IterAt.later {α : Type} {P : Program} {g : Nat} {lb : Array Value} {encs : α → Array Value} {n₀ : Nat} {C : Nat → Prop} {S Sp : List α → Prop} {N : Nat} {w0 w1 : World} (h : IterAt P g lb encs n₀ C S Sp N w0) (hb : Below w0.heap.size w0 w1) : IterAt P g lb encs n₀ C S Sp N w1 :=
  fun l J Jx W hW => h l J Jx W (hb.trans (hW.mono hb.size))
end Go.Proofs.Ytfidkgpimlpdbaa
