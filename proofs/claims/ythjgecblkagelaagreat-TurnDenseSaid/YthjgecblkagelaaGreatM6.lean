/- Parts of a proof: R S T U. -/
import Derived.Test.YthjgecblkagelaaGreatM5
import Derived.Sort.LoopGhostIn

/- unpulled; all states of a hall, in the order of following. -/
namespace Go.Proofs.YthjgecblkagelaaGreat
open Go.RowKit Go.Shelf

attribute [local go_sem] Oper.semAt_some

def unpullStep (v i : Nat) : Option Pl → Option Pl
  | none => none
  | some q => if (q.get i == 0) = ((i : Int) == (v : Int)) then (if i = v then some q else some (q.set i (q.get i - 1))) else none
def unpullL (v : Nat) (l : List Nat) (p : Pl) : Option Pl := l.foldl (fun o i => unpullStep v i o) (some p)
def unpullF (p : Pl) (v : Nat) : Option Pl := unpullL v (List.range p.n.toNat) p
theorem unpull_none (v : Nat) (l : List Nat) : l.foldl (fun o i => unpullStep v i o) none = none := by
  induction l with
  | nil => rfl
  | cons x xs ih => exact ih
theorem unpullL_succ (v k : Nat) (p : Pl) : unpullL v (List.range (k + 1)) p = unpullStep v k (unpullL v (List.range k) p) := by simp [unpullL, List.range_succ]
theorem unpullL_none (v k n : Nat) (p : Pl) (h : unpullL v (List.range k) p = none) (hk : k ≤ n) : unpullL v (List.range n) p = none := by
  induction n with
  | zero => obtain rfl : k = 0 := by omega
            exact h
  | succ n ih =>
    by_cases hkn : k = n + 1
    · subst hkn; exact h
    · rw [unpullL_succ, ih (by omega)]; rfl

theorem us_same {k : Nat} {q : Pl} (h : q.get k = 0) : unpullStep k k (some q) = some q := by simp [unpullStep, h]
theorem us_stop {k : Nat} {q : Pl} (h : q.get k ≠ 0) : unpullStep k k (some q) = none := by simp [unpullStep, h]
theorem us_stop2 {k v : Nat} {q : Pl} (hk : k ≠ v) (h : q.get k = 0) : unpullStep v k (some q) = none := by
  have : ((k : Int) == (v : Int)) = false := by simp; omega
  simp [unpullStep, h, this]
theorem us_step {k v : Nat} {q : Pl} (hk : k ≠ v) (h : q.get k ≠ 0) : unpullStep v k (some q) = some (q.set k (q.get k - 1)) := by
  have : ((k : Int) == (v : Int)) = false := by simp; omega
  have h' : (q.get k == 0) = false := by simp [h]
  simp [unpullStep, h', this, hk]

theorem unpulled_results (W : World) (tmps : Array Value) (b : Nat) (q : Pl) (ok : Bool) (h3 : PlAt W b q) (t3 : tmps.getD 4 undef = .pointer (some ⟨b, 0, none⟩)) (t4 : tmps.getD 5 undef = .bool ok) :
    (results Tryz.f111 tmps).run Tryz.prog W = .ok (.tuple #[plv q, .bool ok]) W := by
  obtain ⟨c0, c1, c2, c3, c4, c5⟩ := h3.cells
  simp only [Array.getD_eq_getD_getElem?] at t3 t4
  simp [results, Tryz.results111, go_sem, t3, t4, c0, c1, c2, c3, c4, c5]

set_option maxRecDepth 100000 in
set_option maxHeartbeats 2000000 in
theorem unpulled_any (w : World) (p : Pl) (n v : Nat) (hn : p.n = n) (h5 : n ≤ 5) (hp : ∀ i, i < n → 0 ≤ p.get i ∧ p.get i ≤ 12) :
    Calls Tryz.prog 111 #[plv p, .int .i64 (v : Int)] w fun e w' => e = .returned (pullRes (unpullF p v)) ∧ Below w.heap.size w w' := by
  have hb0 : Below w.heap.size w ((w.alloc (.cells (plc p) 64)).alloc (.cells (plc ⟨0, 0, 0, 0, 0, 0⟩) 64)) :=
    ((Below.refl _ w).alloc (Nat.le_refl _) _).alloc (by simp) _
  have x1 := (PlAt.new w p).alloc (.cells (plc ⟨0, 0, 0, 0, 0, 0⟩) 64)
  have x2 := PlAt.new (w.alloc (.cells (plc p) 64)) ⟨0, 0, 0, 0, 0, 0⟩
  simp only [World.size_alloc] at x2
  have Hn := Lib.hid hn
  clear hn
  go_enter Tryz.func111, Tryz.ntmps111
  obtain ⟨c0, c1, c2, c3, c4, c5⟩ := x1.cells
  go_wp2
  go_loopw [9] (fun i wr => ∃ (k : Nat) (q : Pl), k ≤ n ∧ i = .int .i64 k ∧ PlAt wr w.heap.size q ∧ PlAt wr (w.heap.size + 1) ⟨0, 0, 0, 0, 0, 0⟩ ∧ Below w.heap.size w wr ∧ unpullL v (List.range k) p = some q ∧ (∀ i, k ≤ i → i < n → q.get i = p.get i))
    (fun i _ => n - (intOf i).toNat)
  case atStart => exact ⟨0, p, by omega, rfl, x1, x2, hb0, rfl, fun _ _ _ => rfl⟩
  case round =>
    obtain ⟨k, q, hk, rfl, y1, y2, hb, hrow, hrest⟩ := hrel
    have Hrow := Lib.hid hrow
    clear hrow x1 x2 hb0 c0 c1 c2 c3 c4 c5
    by_cases hlt : k < n
    · have hlt' : (k : Int) < p.n := by rw [Hn.out]; omega
      have hk5 : k < 5 := by omega
      have hk5' : (k : Int) < 5 := by omega
      have g1 := y1.get hk5
      have g1f := y1.frozen (1 + k)
      have hqk := hp k hlt
      rw [← hrest k (Nat.le_refl _) hlt] at hqk
      have hss := unpullL_succ v k p
      rw [Hrow.out] at hss
      have Hrest := Lib.hid hrest
      clear hrest
      by_cases hkv : k = v
      · subst hkv
        have Hss := Lib.hid hss
        clear hss
        by_cases h0 : q.get k = 0
        · go_wp2
          go_roundw
          case rel => exact ⟨k + 1, q, by omega, by go_num, y1, y2, hb, by rw [Hss.out, us_same h0], fun i h1 h2 => Hrest.out i (by omega) h2⟩
          case measure => simp [intOf]; omega
        · obtain ⟨r0, r1, r2, r3, r4, r5⟩ := y2.cells
          obtain ⟨f0, f1, f2, f3, f4, f5⟩ := y2.frozens
          have h0b : (q.get k == 0) = false := by simp [h0]
          go_wp2
          refine bodyPost_ret (v := pullRes none) (unpulled_results _ _ (w.heap.size + 1) _ _ (y2.store ⟨0, 0, 0, 0, 0, 0⟩) (by simp) (by simp)) rfl ⟨?_, st6_below hb (by omega)⟩
          unfold unpullF
          rw [unpullL_none k (k + 1) _ p (by rw [Hss.out, us_stop h0]) (by have := Hn.out; omega)]
      · have hkv' : ((k : Int) == (v : Int)) = false := by simp; omega
        have Hss := Lib.hid hss
        have Hkv := Lib.hid hkv
        clear hss hkv
        by_cases h0 : q.get k = 0
        · obtain ⟨r0, r1, r2, r3, r4, r5⟩ := y2.cells
          obtain ⟨f0, f1, f2, f3, f4, f5⟩ := y2.frozens
          go_wp2
          refine bodyPost_ret (v := pullRes none) (unpulled_results _ _ (w.heap.size + 1) _ _ (y2.store ⟨0, 0, 0, 0, 0, 0⟩) (by simp) (by simp)) rfl ⟨?_, st6_below hb (by omega)⟩
          unfold unpullF
          rw [unpullL_none v (k + 1) _ p (by rw [Hss.out, us_stop2 Hkv.out h0]) (by have := Hn.out; omega)]
        · have h0b : (q.get k == 0) = false := by simp [h0]
          go_wp2
          go_roundw
          case rel =>
            refine ⟨k + 1, q.set k (q.get k - 1), by omega, by go_num, y1.set hk5 _, y2.other (by omega) _ _, hb.setCell (p := ⟨w.heap.size, 1 + k, none⟩) (by simp) _, by rw [Hss.out, us_step Hkv.out h0], fun i h1 h2 => ?_⟩
            rw [Pl.get_set _ _ _ _ hk5, if_neg (by omega)]
            exact Hrest.out i (by omega) h2
          case measure => simp [intOf]; omega
    · obtain rfl : k = n := by omega
      have hlt' : ¬ (k : Int) < p.n := by rw [Hn.out]; omega
      obtain ⟨r0, r1, r2, r3, r4, r5⟩ := y2.cells
      obtain ⟨f0, f1, f2, f3, f4, f5⟩ := y2.frozens
      obtain ⟨c0, c1, c2, c3, c4, c5⟩ := y1.cells
      go_wp2
      refine bodyPost_ret (v := pullRes (some q)) (unpulled_results _ _ (w.heap.size + 1) _ _ (y2.store q) (by simp) (by simp)) rfl ⟨?_, st6_below hb (by omega)⟩
      unfold unpullF
      rw [Hn.out, Int.toNat_natCast, Hrow.out]

/-- The digits, counted on by one; whether that went over. -/
def inc : List Int → List Int → List Int × Bool
  | [], _ => ([], true)
  | t :: ts, d :: ds => if (inc ts ds).2 then (if d < t then ((d + 1) :: (inc ts ds).1, false) else (0 :: (inc ts ds).1, true)) else (d :: (inc ts ds).1, false)
  | _ :: _, [] => ([], true)
def statesL : List Int → List (List Int)
  | [] => [[]]
  | t :: ts => (List.range (t.toNat + 1)).flatMap fun (d : Nat) => (statesL ts).map ((d : Int) :: ·)
/-- From the first one, f leads along the list; it goes over at the last one alone, to z. -/
def Along (f : List Int → List Int × Bool) : List Int → List (List Int) → List Int → Prop
  | _, [], _ => False
  | x, [y], z => x = y ∧ f y = (z, true)
  | x, y :: y' :: l, z => x = y ∧ (f y).2 = false ∧ Along f (f y).1 (y' :: l) z
def zeros (ts : List Int) : List Int := ts.map fun _ => 0
theorem Along.cons {f : List Int → List Int × Bool} {x : List Int} {l : List (List Int)} {z : List Int} (h : Along f x l z) : ∃ r, l = x :: r := by
  match l, h with
  | [_], ⟨rfl, _⟩ => exact ⟨_, rfl⟩
  | _ :: _ :: _, ⟨rfl, _⟩ => exact ⟨_, rfl⟩
theorem along_more {f f' : List Int → List Int × Bool} {g : List Int → List Int} {x z : List Int} {l : List (List Int)} (h : Along f x l z)
    (hf : ∀ y, (f y).2 = false → f' (g y) = (g (f y).1, false)) {z' : List Int} {m : List (List Int)} {e : List Int} (hz : ∀ y, f y = (z, true) → f' (g y) = (z', false)) (hm : Along f' z' m e) : Along f' (g x) (l.map g ++ m) e := by
  induction l generalizing x with
  | nil => exact h.elim
  | cons y l ih =>
    cases l with
    | nil =>
      obtain ⟨hxy, h⟩ := h
      subst hxy
      obtain ⟨r, rfl⟩ := hm.cons
      have hz := hz _ h
      simp only [List.map_cons, List.map_nil, List.cons_append, List.nil_append]
      exact ⟨rfl, by rw [hz], by rw [hz]; exact hm⟩
    | cons y' l =>
      obtain ⟨hxy, h1, h2⟩ := h
      subst hxy
      have := ih h2
      simp only [List.map_cons, List.cons_append] at this ⊢
      exact ⟨rfl, by rw [hf _ h1], by rw [hf _ h1]; exact this⟩
theorem along_last {f f' : List Int → List Int × Bool} {g : List Int → List Int} {x z : List Int} {l : List (List Int)} (h : Along f x l z)
    (hf : ∀ y, (f y).2 = false → f' (g y) = (g (f y).1, false)) {z' : List Int} (hz : ∀ y, f y = (z, true) → f' (g y) = (z', true)) : Along f' (g x) (l.map g) z' := by
  induction l generalizing x with
  | nil => exact h.elim
  | cons y l ih =>
    cases l with
    | nil =>
      obtain ⟨hxy, h⟩ := h
      subst hxy
      exact ⟨rfl, hz _ h⟩
    | cons y' l =>
      obtain ⟨hxy, h1, h2⟩ := h
      subst hxy
      have := ih h2
      simp only [List.map_cons] at this ⊢
      exact ⟨rfl, by rw [hf _ h1], by rw [hf _ h1]; exact this⟩
theorem along_states : ∀ (ts : List Int), (∀ t ∈ ts, 0 ≤ t) → Along (inc ts) (zeros ts) (statesL ts) (zeros ts)
  | [], _ => ⟨rfl, rfl⟩
  | t :: ts, h => by
    have ih := along_states ts (fun x hx => h x (by simp [hx]))
    have ht := h t (by simp)
    have step : ∀ (d : Nat) (y : List Int), (inc ts y).2 = false → inc (t :: ts) ((d : Int) :: y) = ((d : Int) :: (inc ts y).1, false) := fun d y hy => by simp [inc, hy]
    -- from digit d on, k digits more
    have key : ∀ k d : Nat, d + k = t.toNat → Along (inc (t :: ts)) ((d : Int) :: zeros ts) ((List.range' d (k + 1)).flatMap fun (d : Nat) => (statesL ts).map ((d : Int) :: ·)) (0 :: zeros ts) := by
      intro k
      induction k with
      | zero =>
        intro d hd
        have hd' : ¬ (d : Int) < t := by omega
        simp only [Nat.zero_add, List.range'_one, List.flatMap_cons, List.flatMap_nil, List.append_nil]
        exact along_last ih (step d) fun y hy => by simp [inc, hy, hd']
      | succ k ihk =>
        intro d hd
        have hd' : (d : Int) < t := by omega
        rw [List.range'_succ, List.flatMap_cons]
        exact along_more (z' := ((d : Int) + 1) :: zeros ts) ih (step d) (fun y hy => by simp only [inc, hy, if_pos hd', if_true]) (by have := ihk (d + 1) (by omega); rw [Int.natCast_succ] at this; exact this)
    have := key t.toNat 0 (by omega)
    rw [← List.range_eq_range'] at this
    exact this
end Go.Proofs.YthjgecblkagelaaGreat

/- places: the iterator over all states. -/
namespace Go.Proofs.YthjgecblkagelaaGreat
open Go.RowKit Go.Shelf

attribute [local go_sem] Oper.semAt_some

theorem states_mem : ∀ {ts ds : List Int}, ds ∈ statesL ts → ds.length = ts.length ∧ ∀ i, i < ts.length → 0 ≤ ds[i]?.getD 0 ∧ (0 ≤ ts[i]?.getD 0 → ds[i]?.getD 0 ≤ ts[i]?.getD 0)
  | [], ds, h => by simp [statesL] at h; subst h; simp
  | t :: ts, ds, h => by
    simp only [statesL, List.mem_flatMap, List.mem_map, List.mem_range] at h
    obtain ⟨d, hd, es, hes, rfl⟩ := h
    have ih := states_mem hes
    refine ⟨by simp [ih.1], fun i hi => ?_⟩
    cases i with
    | zero => simp; omega
    | succ i => simpa using ih.2 i (by simpa using hi)
theorem inc_ne : ∀ {ts ds : List Int}, ds.length = ts.length → (∀ i, i < ts.length → 0 ≤ ds[i]?.getD 0) → (inc ts ds).2 = false → ∃ i, i < ts.length ∧ (inc ts ds).1[i]?.getD 0 ≠ 0
  | [], ds, _, _, h => by simp [inc] at h
  | t :: ts, [], h, _, _ => by simp at h
  | t :: ts, d :: ds, hl, h0, h => by
    have hd : 0 ≤ d := by have := h0 0 (by simp); simpa using this
    simp only [inc] at h ⊢
    by_cases hc : (inc ts ds).2 = true
    · rw [if_pos hc] at h ⊢
      by_cases hdt : d < t
      · rw [if_pos hdt]; exact ⟨0, by simp, by simp; omega⟩
      · rw [if_neg hdt] at h; simp at h
    · rw [if_neg hc]
      obtain ⟨i, hi, hne⟩ := inc_ne (ts := ts) (ds := ds) (by simpa using hl) (fun i hi => by have := h0 (i + 1) (by simpa using hi); simpa using this) (by simpa using hc)
      exact ⟨i + 1, by simpa using hi, by simpa using hne⟩
theorem inc_len : ∀ {ts ds : List Int}, ds.length = ts.length → (inc ts ds).1.length = ts.length
  | [], _, _ => rfl
  | t :: ts, [], h => by simp at h
  | t :: ts, d :: ds, h => by
    have ih := inc_len (ts := ts) (ds := ds) (by simpa using h)
    simp only [inc]
    by_cases hc : (inc ts ds).2 = true
    · rw [if_pos hc]; by_cases hdt : d < t
      · rw [if_pos hdt]; simp [ih]
      · rw [if_neg hdt]; simp [ih]
    · rw [if_neg hc]; simp [ih]
theorem plOf_get (ds : List Int) (h : ds.length ≤ 5) (i : Nat) : (plOf ds).get i = ds[i]?.getD 0 := by
  match i with
  | 0 => rfl
  | 1 => rfl
  | 2 => rfl
  | 3 => rfl
  | 4 => rfl
  | i + 5 => simp only [Pl.get]; rw [List.getElem?_eq_none (by omega)]; rfl
theorem plOf_zero (ds : List Int) (h : ds.length ≤ 5) : ((plOf ds).a = 0 ∧ (plOf ds).b = 0 ∧ (plOf ds).c = 0 ∧ (plOf ds).d = 0 ∧ (plOf ds).e = 0) ↔ ∀ i : Nat, ds[i]?.getD 0 = 0 := by
  constructor
  · rintro ⟨h0, h1, h2, h3, h4⟩ i
    rw [← plOf_get ds h]
    match i with
    | 0 => exact h0
    | 1 => exact h1
    | 2 => exact h2
    | 3 => exact h3
    | 4 => exact h4
    | i + 5 => rfl
  · intro h; exact ⟨h 0, h 1, h 2, h 3, h 4⟩
theorem followL_nat (ts : List Int) {n : Nat} (l : List (Fin n)) (p : Pl) : followL ts l p = (l.map (·.1)).foldl (fun s i => followStep ts i s) (p, false) := by rw [List.foldl_map]; rfl
theorem follow_inc1 (t0 d0 : Int) : followF [t0] (plOf [d0]) = plOf (inc [t0] [d0]).1 := by
  unfold followF
  show (followL _ (List.finRange 1).reverse _).1 = _
  rw [followL_nat, show (List.finRange 1).reverse.map (·.1) = [0] by decide]
  by_cases h0 : d0 < t0 <;> simp [followStep, plOf, Pl.get, Pl.set, inc, h0]
theorem follow_inc2 (t0 t1 d0 d1 : Int) : followF [t0, t1] (plOf [d0, d1]) = plOf (inc [t0, t1] [d0, d1]).1 := by
  unfold followF
  show (followL _ (List.finRange 2).reverse _).1 = _
  rw [followL_nat, show (List.finRange 2).reverse.map (·.1) = [1, 0] by decide]
  by_cases h0 : d0 < t0 <;> by_cases h1 : d1 < t1 <;> simp [followStep, plOf, Pl.get, Pl.set, inc, h0, h1]
theorem follow_inc3 (t0 t1 t2 d0 d1 d2 : Int) : followF [t0, t1, t2] (plOf [d0, d1, d2]) = plOf (inc [t0, t1, t2] [d0, d1, d2]).1 := by
  unfold followF
  show (followL _ (List.finRange 3).reverse _).1 = _
  rw [followL_nat, show (List.finRange 3).reverse.map (·.1) = [2, 1, 0] by decide]
  by_cases h0 : d0 < t0 <;> by_cases h1 : d1 < t1 <;> by_cases h2 : d2 < t2 <;> simp [followStep, plOf, Pl.get, Pl.set, inc, h0, h1, h2]
theorem follow_inc4 (t0 t1 t2 t3 d0 d1 d2 d3 : Int) : followF [t0, t1, t2, t3] (plOf [d0, d1, d2, d3]) = plOf (inc [t0, t1, t2, t3] [d0, d1, d2, d3]).1 := by
  unfold followF
  show (followL _ (List.finRange 4).reverse _).1 = _
  rw [followL_nat, show (List.finRange 4).reverse.map (·.1) = [3, 2, 1, 0] by decide]
  by_cases h0 : d0 < t0 <;> by_cases h1 : d1 < t1 <;> by_cases h2 : d2 < t2 <;> by_cases h3 : d3 < t3 <;> simp [followStep, plOf, Pl.get, Pl.set, inc, h0, h1, h2, h3]
theorem follow_inc5 (t0 t1 t2 t3 t4 d0 d1 d2 d3 d4 : Int) : followF [t0, t1, t2, t3, t4] (plOf [d0, d1, d2, d3, d4]) = plOf (inc [t0, t1, t2, t3, t4] [d0, d1, d2, d3, d4]).1 := by
  unfold followF
  show (followL _ (List.finRange 5).reverse _).1 = _
  rw [followL_nat, show (List.finRange 5).reverse.map (·.1) = [4, 3, 2, 1, 0] by decide]
  by_cases h0 : d0 < t0 <;> by_cases h1 : d1 < t1 <;> by_cases h2 : d2 < t2 <;> by_cases h3 : d3 < t3 <;> by_cases h4 : d4 < t4 <;> simp [followStep, plOf, Pl.get, Pl.set, inc, h0, h1, h2, h3, h4]
theorem follow_inc {ts ds : List Int} (hl : ds.length = ts.length) (h1 : 1 ≤ ts.length) (h5 : ts.length ≤ 5) : followF ts (plOf ds) = plOf (inc ts ds).1 := by
  match ts, ds, hl, h1, h5 with
  | [_], [_], _, _, _ => exact follow_inc1 _ _
  | [_, _], [_, _], _, _, _ => exact follow_inc2 _ _ _ _
  | [_, _, _], [_, _, _], _, _, _ => exact follow_inc3 _ _ _ _ _ _
  | [_, _, _, _], [_, _, _, _], _, _, _ => exact follow_inc4 _ _ _ _ _ _ _ _
  | [_, _, _, _, _], [_, _, _, _, _], _, _, _ => exact follow_inc5 _ _ _ _ _ _ _ _ _ _

section
variable {B : Nat} {X : Nat → Prop} {W W' W'' : World}
theorem St.trans (h : St B X W W') (k : St B X W' W'') : St B X W W'' := ⟨h.base.trans k.base, fun i o hi hX hc => k.same i o (h.same i o hi hX hc) hX hc⟩
theorem St.cell (h : St B X W W') {b : Nat} (hX : X b) (o : Nat) (u : Value) : St B X W (W'.setCell ⟨b, o, none⟩ u) :=
  h.trans ⟨(Below.refl _ _).setCell (p := ⟨b, o, none⟩) (Nat.zero_le _) _, fun k _ hk hk' _ => (Below.heap_setCell W' ⟨b, o, none⟩ u k (by rintro rfl; exact hk' hX)).trans hk⟩
theorem St.st6 (h : St B X W W') {b : Nat} (hX : X b) (x0 x1 x2 x3 x4 x5 : Value) : St B X W (st6 W' b x0 x1 x2 x3 x4 x5) :=
  (((((h.cell hX 0 x0).cell hX 1 x1).cell hX 2 x2).cell hX 3 x3).cell hX 4 x4).cell hX 5 x5
end

theorem plOf_zeros (ts : List Int) : plOf (zeros ts) = ⟨ts.length, 0, 0, 0, 0, 0⟩ := by
  have : ∀ i : Nat, (zeros ts)[i]?.getD 0 = 0 := fun i => by
    unfold zeros
    rw [List.getElem?_map]
    cases ts[i]? <;> rfl
  simp only [plOf, this]
  simp [zeros]
theorem plOf_ok {ts d : List Int} (h : d ∈ statesL ts) (h5 : ts.length ≤ 5) (h0 : ∀ i, i < ts.length → 0 ≤ ts[i]?.getD 0) : PlOk ts (plOf d) := fun i hi => by
  have := (states_mem h).2 i hi
  rw [plOf_get d (by rw [(states_mem h).1]; exact h5)]
  exact ⟨this.1, this.2 (h0 i hi)⟩
theorem Along.more {f : List Int → List Int × Bool} {x y : List Int} {l : List (List Int)} {z : List Int} (h : Along f x (x :: y :: l) z) : (f x).2 = false ∧ y = (f x).1 ∧ Along f y (y :: l) z := by
  obtain ⟨_, h1, h2⟩ := h
  obtain ⟨r, hr⟩ := h2.cons
  injection hr with e1 e2
  exact ⟨h1, e1, by rw [← e1] at h2; exact h2⟩
/-- The comparison of what a place holds with nothing at all. -/
def held0 (p : Pl) : Bool := decide (p.a = 0) && (decide (p.b = 0) && (decide (p.c = 0) && (decide (p.d = 0) && decide (p.e = 0))))

theorem equal_held0 (q : Pl) (w : World) : (Op.equalIn 10000 62 (.agg #[.int .i64 q.a, .int .i64 q.b, .int .i64 q.c, .int .i64 q.d, .int .i64 q.e]) (.agg #[.int .i64 0, .int .i64 0, .int .i64 0, .int .i64 0, .int .i64 0])).run Tryz.prog w = .ok (held0 q) w := by
  refine (equal_held 9998 _ _ _ _ _ _ _ _ _ _ w).trans ?_
  simp [held0]

set_option maxRecDepth 100000 in
set_option maxHeartbeats 4000000 in
theorem places1_any (w0 : World) (Bh n₀ : Nat) (A : Option Addr) (n c : Nat) (ts : List Int) (hBh : Boxed w0 Bh 57 (.slice A n c)) (hn₀ : n₀ ≤ w0.heap.size) (hx : IntsAt w0 n₀ A n ts)
    (h1 : 1 ≤ n) (h5 : n ≤ 5) (h12 : ∀ i, i < n → 1 ≤ ts[i]?.getD 0 ∧ ts[i]?.getD 0 ≤ 12) :
    IterAt Tryz.prog 98 #[.pointer (some ⟨Bh, 0, none⟩)] (fun d : {d // d ∈ statesL ts} => #[plv (plOf d.1)]) n₀ (fun k => k = Bh) (fun xs => xs.map (·.1) = statesL ts) (fun pre => ∃ rest, pre.map (·.1) ++ rest = statesL ts) (statesL ts).length w0 := by
  intro l J Jx W hW hJs hJxs hY h0
  have hzW := hW.size
  have hal : Along (inc ts) (zeros ts) (statesL ts) (zeros ts) := along_states ts (fun t ht => by
    obtain ⟨i, hi, rfl⟩ := List.getElem_of_mem ht
    have := h12 i (by rw [← hx.len]; exact hi)
    rw [List.getElem?_eq_getElem hi] at this
    simp at this; omega)
  have y0 := bxBelow hBh hW hBh.lt
  have hxW := hx.below hW hn₀
  have c0 := y0.cell
  refine (callsIn_wide (n := 2)).1 ?_
  refine callsIn_of_wp Tryz.func98 rfl trivial ?_ rfl
  simp only [Tryz.ntmps98, List.size_toArray, List.length_cons, List.length_nil, Nat.reduceAdd, Nat.reduceSub, Array.replicate_succ, Array.replicate_zero, List.push_toArray, List.append_toArray, List.nil_append, List.cons_append]
  gi_wp2_with (fail)
  refine ⟨trivial, ?_⟩
  refine (callsIn_wide.2 (empty_any _ _ _ _)).mono ?_
  rintro e w1 ⟨rfl, hb1⟩
  have hz1 := hb1.size
  gi_wp2_with (fail)
  obtain ⟨rest0, hst⟩ := hal.cons
  have z := PlAt.new w1 (⟨n, 0, 0, 0, 0, 0⟩ : Pl)
  have hba : Below W.heap.size W (w1.alloc (.cells (plc ⟨n, 0, 0, 0, 0, 0⟩) 64)) := hb1.alloc hb1.size _
  gi_loopg [6] rest0.length (fun m _ wr => ∃ (pre : List {d // d ∈ statesL ts}) (d : List Int) (rest : List (List Int)), m = rest.length ∧ statesL ts = pre.map (·.1) ++ d :: rest ∧ Along (inc ts) d (d :: rest) (zeros ts) ∧ PlAt wr w1.heap.size (plOf d) ∧
    J pre (fun k => k = w1.heap.size) wr ∧ W.heap.size ≤ wr.heap.size ∧ Boxed wr Bh 57 (.slice A n c) ∧ IntsAt wr n₀ A n ts)
  case atStart =>
    refine ⟨[], zeros ts, rest0, rfl, hst, by rw [← hst]; exact hal, by rw [plOf_zeros, hx.len]; exact z, hJs _ _ _ _ _ h0 (St.of_below hba) ⟨fun _ h => h.elim, fun k h => .inr (by show _ ≤ k; rw [h]; exact hz1)⟩, hba.size, bxBelow y0 hba y0.lt, hxW.below hba (by omega)⟩
  case round =>
    obtain ⟨pre, d, rest, rfl, hsp, hal', z1, hJ, hsz, hb, hxr⟩ := hrel
    have hmem : d ∈ statesL ts := by rw [hsp]; simp
    have hok : PlOk ts (plOf d) := plOf_ok hmem (by rw [hx.len]; exact h5) (fun i hi => by have := h12 i (by rw [← hx.len]; exact hi); omega)
    have hlen : pre.length < (statesL ts).length := by have := congrArg List.length hsp; simp at this; omega
    obtain ⟨fn, tmps, assign, body, hy, hR⟩ := hY pre ⟨d, hmem⟩ _ wr hJ hsz (fun k h => by have h' : k = w1.heap.size := h; rw [h']; exact z1.lt) (by simpa using hlen)
    obtain ⟨c1, c2, c3, c4, c5, c6⟩ := z1.cells
    have Hsp := Lib.hid hsp
    have Hal := Lib.hid hal'
    clear hsp hal' z hba c0
    gi_wp2
    refine hR.mono ?_
    rintro e W3 ⟨hJ3, hkeep, -⟩
    have z3 : PlAt W3 w1.heap.size (plOf d) := hkeep.same _ _ z1 (.inl rfl)
    have hb3 : Boxed W3 Bh 57 (.slice A n c) := hkeep.same _ _ hb (.inr rfl)
    have hx3 := hxr.below hkeep.below (Nat.le_refl _)
    have hsz3 := hkeep.below.size
    rcases hJ3 with ⟨rfl, hJ3⟩ | ⟨rfl, hJx3⟩
    · obtain ⟨c1, c2, c3, c4, c5, c6⟩ := z3.cells
      have c0 := hb3.cell
      clear hR hy z1
      gi_wp2_with (fail)
      refine ⟨trivial, ?_⟩
      refine (callsIn_wide.2 (following_any W3 n₀ _ _ _ ts hx3 (by omega) h5 h12 (plOf d) hok)).mono ?_
      rintro e w4 ⟨rfl, hok4, hb4⟩
      have hfi := follow_inc (ts := ts) (ds := d) (states_mem hmem).1 (by rw [hx.len]; exact h1) (by rw [hx.len]; exact h5)
      rw [hfi] at hok4 ⊢
      obtain ⟨q, hq⟩ : ∃ q, q = plOf (inc ts d).1 := ⟨_, rfl⟩
      rw [← hq] at hok4 ⊢
      have Hq := Lib.hid hq
      clear hq hfi
      have z4 := z3.below hb4 z3.lt
      have hb4' := bxBelow hb3 hb4 hb3.lt
      have hx4 := hx3.below hb4 (by omega)
      have hz4 := hb4.size
      have hst4 : St W.heap.size (fun k => k = w1.heap.size) W3 (st6 w4 w1.heap.size (.int .i64 q.n) (.int .i64 q.a) (.int .i64 q.b) (.int .i64 q.c) (.int .i64 q.d) (.int .i64 q.e)) :=
        St.st6 (X := fun k => k = w1.heap.size) (St.of_below hb4) rfl _ _ _ _ _ _
      have z5 := z4.store q
      obtain ⟨s0, s1, s2, s3, s4, s5⟩ := z5.cells
      obtain ⟨r0, r1, r2, r3, r4, r5⟩ := z4.cells
      obtain ⟨f0, f1, f2, f3, f4, f5⟩ := z4.frozens
      have hJ5 := hJs _ _ _ _ _ hJ3 hst4 (Grows.refl _ _)
      have heq := equal_held0 q
      have hadv : ∀ rest', Along (inc ts) d (d :: rest') (zeros ts) → (rest' = [] ∧ held0 q = true) ∨ (∃ y r, rest' = y :: r ∧ held0 q = false ∧ q = plOf y ∧ Along (inc ts) y (y :: r) (zeros ts)) := by
        intro rest' ha
        have hl := (states_mem hmem).1
        have hdl : (inc ts d).1.length ≤ 5 := by rw [inc_len hl, hx.len]; exact h5
        have hzz := plOf_zero (inc ts d).1 hdl
        rw [← Hq.out] at hzz
        cases rest' with
        | nil =>
          refine .inl ⟨rfl, ?_⟩
          obtain ⟨-, ha⟩ := ha
          have : ∀ i : Nat, (inc ts d).1[i]?.getD 0 = 0 := by
            intro i
            rw [ha]
            unfold zeros
            rw [List.getElem?_map]
            cases ts[i]? <;> rfl
          obtain ⟨e1, e2, e3, e4, e5⟩ := hzz.2 this
          simp [held0, e1, e2, e3, e4, e5]
        | cons y r =>
          obtain ⟨a1, a2, a3⟩ := ha.more
          refine .inr ⟨y, r, rfl, ?_, by rw [Hq.out, a2], a3⟩
          obtain ⟨i, hi, hne⟩ := inc_ne hl (fun i hi => ((states_mem hmem).2 i hi).1) a1
          cases hh : held0 q
          · rfl
          · exfalso
            apply hne
            apply hzz.1
            simpa [held0] using hh
      rcases hadv rest Hal.out with ⟨hr, hz0⟩ | ⟨y, r, hr, hz0, hqy, ha⟩
      · subst hr
        gi_wp2_with (fail)
        refine bodyPost_ret (results_none rfl _ _ _) rfl ?_
        exact ⟨⟨_, rfl⟩, _, .inl ⟨pre ++ [⟨d, hmem⟩], by simp only [List.map_append, List.map_cons, List.map_nil]; exact Hsp.out.symm, hJ5⟩⟩
      · subst hr
        have Hr := Lib.hid (And.intro hqy ha)
        clear hqy ha hadv
        gi_wp2_with (fail)
        gi_roundg r.length
        case measure => simp
        case rel =>
          refine ⟨pre ++ [⟨d, hmem⟩], y, r, rfl, by rw [List.map_append]; simpa using Hsp.out, Hr.out.2, by rw [← Hr.out.1]; exact z5, hJ5, Nat.le_trans (Nat.le_trans hsz hsz3) hst4.base.size, st6_bx hb4' (fun e => ?_), ?_⟩
          · have := y0.lt
            omega
          · exact hx4.below (st6_below (Below.refl n₀ w4) (by omega)) (Nat.le_refl _)
    · gi_wp2
      go_end0
      exact ⟨⟨_, rfl⟩, _, .inr ⟨pre ++ [⟨d, hmem⟩], ⟨rest, by rw [List.map_append]; simpa using Hsp.out.symm⟩, hJx3⟩⟩
end Go.Proofs.YthjgecblkagelaaGreat

/- visits and before: iterators that range over the screws. -/
namespace Go.Proofs.YthjgecblkagelaaGreat
open Go.RowKit Go.Shelf

attribute [local go_sem] Oper.semAt_some

/-- A range over slices.All(ts), at any level. -/
theorem range_allL {lv : Nat} (hlv : 2 ≤ lv) {g : Operand} {ps : Array Tmp} {assign body : Code} {Q : Exit → Act → World → Prop} {a : Act} {w : World} {Bs n₀ : Nat} {A : Option Addr} {len cap : Nat} {ts : List Int}
    (hg : a.eval g = .func (.func 108) #[] #[.pointer (some ⟨Bs, 0, none⟩)]) (hBs : Bs < w.heap.size) (hn₀ : n₀ ≤ w.heap.size) (hc : w.cell? ⟨Bs, 0, none⟩ = some (.slice A len cap)) (hx : IntsAt w n₀ A len ts) (hps : ps.size = 2)
    (I : List (Fin len) → World → Prop) (Ix : Code → List (Fin len) → World → Prop) (hI : OwnFrom w.heap.size I) (hIx : ∀ c, OwnFrom w.heap.size (Ix c)) (h0 : I [] w) (a₁ : Fin len → Act)
    (hassign : ∀ (l : Nat) (x : Fin len) (W : World) (K : Act → World → Prop), K (a₁ x) W →
      assign.wpIn (Fence.wide.inRound l) (lv - 1 - 1) Tryz.prog (Exit.then K (fun _ _ _ => False)) { tmps := (ps.zip #[.int .i64 (x.1 : Int), .int .i64 (ts[x.1]?.getD 0)]).foldl (fun t (p, v) => t.setIfInBounds p v) a.tmps, defers := [] } W)
    (hbody : ∀ (l : Nat) (pre : List (Fin len)) (x : Fin len) (W : World), I pre W → pre.length < len → body.wpIn (Fence.wide.inRound l) (lv - 1 - 1) Tryz.prog (ownPostG w.heap.size (Below n₀) I Ix (pre ++ [x]) W) (a₁ x) W)
    (hdone : ∀ (D : Nat) (W : World), w.heap.size ≤ D → I (List.finRange len) W → W.heap[D]? = some (.deferred (some [])) → Q .normal { a with defers := { target := .collected D, args := #[] } :: a.defers } W)
    (hstop : ∀ (D : Nat) (c : Code) (pre : List (Fin len)) (W : World), w.heap.size ≤ D → (∃ rest, List.finRange len = pre ++ rest) → Ix c pre W → W.heap[D]? = some (.deferred (some [])) → c.wpIn Fence.wide lv Tryz.prog Q { a with defers := { target := .collected D, args := #[] } :: a.defers } W) :
    (Code.rangeFunc g ps assign body).wpIn Fence.wide lv Tryz.prog Q a w :=
  wpIn_rangeFunc_ownG rfl (by omega) hg trivial (enters_of Tryz.func108 (by kernel_rfl) rfl)
    (all_stops Fence.wide (lv - 1) trivial rfl (by omega) Bs n₀ A len cap ts w hBs hn₀ hc hx) belowK_t (belowK_b hn₀) (Below.refl _ _) (fun _ => by simp [encIx, hps])
    I Ix hI hIx h0 a₁ hassign hbody (fun D xs W hD hS h hK => by subst hS; exact hdone D W hD h hK) (fun D c pre W hD hS h hK => by
      obtain ⟨k, hk, rfl⟩ := hS
      exact hstop D c _ W hD ⟨(List.finRange len).drop k, (List.take_append_drop k _).symm⟩ h hK)


theorem finRange_vals {β : Type} (n : Nat) (f : Nat → β) : (List.range n).map f = (List.finRange n).map fun i => f i.1 := by
  apply List.ext_getElem
  · simp
  · intro i h1 h2; simp

section
variable {B : Nat} {X : Nat → Prop} {W W' : World}
theorem St.grown {row : Option Nat} (hg : W.grownBy W' row) (hr : ∀ r, row = some r → B ≤ r ∧ ∃ o : Obj, W.heap[r]? = some o ∧ o.isCells = false) : St B X W W' :=
  ⟨(Below.refl 0 W).grown hg (Nat.zero_le _) (fun _ _ => Nat.zero_le _), fun k o hk _ hc => (hg.block k (Array.getElem?_eq_some_iff.1 hk).1 (fun e => by
    obtain ⟨h1, o', ho', hc'⟩ := hr k e.symm
    rw [hk] at ho'
    cases ho'
    rcases hc with h | h
    · rw [hc'] at h; cases h
    · omega)).trans hk⟩
theorem Stable.own {α β : Type} {J : List α → (Nat → Prop) → World → Prop} (h : Stable B J) {B' : Nat} (hB : B ≤ B') (f : β → List α) : OwnFrom B' (fun (s : β) W => J (f s) X W) :=
  fun _ _ _ _ hs hg hr => h _ _ _ _ _ hs (St.grown hg fun r e => ⟨Nat.le_trans hB (hr r e).1, (hr r e).2⟩) (Grows.refl _ _)
end

set_option maxHeartbeats 1000000 in
theorem places_box (A : Option Addr) (len cap : Nat) (w : World) :
    Calls Tryz.prog 76 #[.agg #[.slice A len cap]] w fun e w' =>
      ∃ Bh, e = .returned (.func (.func 98) #[] #[.pointer (some ⟨Bh, 0, none⟩)]) ∧ Boxed w' Bh 57 (.slice A len cap) ∧ w.heap.size ≤ Bh ∧ Below w.heap.size w w' := by
  go_enter Tryz.func76, Tryz.ntmps76
  go_wp2
  go_ret
  refine ⟨w.heap.size, ?_, Boxed.new w 57 (.slice A len cap), Nat.le_refl _, (Below.refl _ _).alloc (Nat.le_refl _) _⟩
  simp

set_option maxHeartbeats 1000000 in
theorem visits_box (A : Option Addr) (len cap : Nat) (p : Pl) (w : World) :
    Calls Tryz.prog 66 #[.agg #[.slice A len cap], plv p] w fun e w' =>
      ∃ Bh Bp, e = .returned (.func (.func 89) #[] #[.pointer (some ⟨Bh, 0, none⟩), .pointer (some ⟨Bp, 0, none⟩)]) ∧ Boxed w' Bh 57 (.slice A len cap) ∧ PlAt w' Bp p ∧ w.heap.size ≤ Bh ∧ w.heap.size ≤ Bp ∧ Below w.heap.size w w' := by
  go_enter Tryz.func66, Tryz.ntmps66
  go_wp2
  go_ret
  refine ⟨w.heap.size, w.heap.size + 1, ?_, (Boxed.new w 57 (.slice A len cap)).alloc _, by have := PlAt.new (w.alloc (.cells #[.slice A len cap] 57)) p; rwa [World.size_alloc] at this, Nat.le_refl _, by omega, ((Below.refl _ _).alloc (Nat.le_refl _) _).alloc (by simp) _⟩
  simp

set_option maxHeartbeats 1000000 in
theorem before_box (A : Option Addr) (len cap : Nat) (p : Pl) (w : World) :
    Calls Tryz.prog 100 #[.agg #[.slice A len cap], plv p] w fun e w' =>
      ∃ Bh Bp, e = .returned (.func (.func 110) #[] #[.pointer (some ⟨Bh, 0, none⟩), .pointer (some ⟨Bp, 0, none⟩)]) ∧ Boxed w' Bh 57 (.slice A len cap) ∧ PlAt w' Bp p ∧ w.heap.size ≤ Bh ∧ w.heap.size ≤ Bp ∧ Below w.heap.size w w' := by
  go_enter Tryz.func100, Tryz.ntmps100
  go_wp2
  go_ret
  refine ⟨w.heap.size, w.heap.size + 1, ?_, (Boxed.new w 57 (.slice A len cap)).alloc _, by have := PlAt.new (w.alloc (.cells #[.slice A len cap] 57)) p; rwa [World.size_alloc] at this, Nat.le_refl _, by omega, ((Below.refl _ _).alloc (Nat.le_refl _) _).alloc (by simp) _⟩
  simp

def visitsF (ts : List Int) (p : Pl) : List (Nat × Pl) := match pullF ts allF p with | none => [] | some q => (List.range ts.length).map fun w => (w, q.set w 0)
@[reducible] def encV (x : Nat × Pl) : Array Value := #[.int .i64 (x.1 : Int), plv x.2]

set_option maxRecDepth 100000 in
set_option maxHeartbeats 4000000 in
theorem visits1_any (w0 : World) (Bh Bp n₀ : Nat) (A : Option Addr) (n c : Nat) (ts : List Int) (p : Pl) (hBh : Boxed w0 Bh 57 (.slice A n c)) (hBp : PlAt w0 Bp p) (hn₀ : n₀ ≤ w0.heap.size) (hx : IntsAt w0 n₀ A n ts)
    (h5 : n ≤ 5) (h12 : ∀ i, i < n → 1 ≤ ts[i]?.getD 0 ∧ ts[i]?.getD 0 ≤ 12) (hp : PlOk ts p) :
    IterAt Tryz.prog 89 #[.pointer (some ⟨Bh, 0, none⟩), .pointer (some ⟨Bp, 0, none⟩)] encV n₀ (fun k => k = Bh ∨ k = Bp) (fun xs => xs = visitsF ts p) (fun pre => ∃ rest, pre ++ rest = visitsF ts p) n w0 := by
  intro l J Jx W hW hJs hJxs hY h0
  have hzW := hW.size
  have y0 := bxBelow hBh hW hBh.lt
  have y1 := hBp.below hW hBp.lt
  have hxW := hx.below hW hn₀
  have hb0 : Below W.heap.size W (W.alloc (.cells #[.func (.yield l) #[] #[]] 124)) := (Below.refl _ W).alloc (Nat.le_refl _) _
  have x3 := Boxed.new W 124 (.func (.yield l) #[] #[])
  have x0 := bxBelow y0 hb0 y0.lt
  have x1 := y1.below hb0 y1.lt
  have c0 := x0.cell
  obtain ⟨c1, c2, c3, c4, c5, c6⟩ := x1.cells
  refine (callsIn_wide (n := 4)).1 ?_
  refine callsIn_of_wp_marks Tryz.func89 rfl trivial ?_ rfl
  simp only [Tryz.ntmps89, List.size_toArray, List.length_cons, List.length_nil, Nat.reduceAdd, Nat.reduceSub, Array.replicate_succ, Array.replicate_zero, List.push_toArray, List.append_toArray, List.nil_append, List.cons_append]
  gi_wp2_with (fail)
  refine ⟨trivial, ?_⟩
  refine (callsIn_wide.2 (pull_any _ n₀ _ _ _ ts (hxW.below hb0 (by omega)) (by simp; omega) h5 h12 p hp 77 #[] allF (pullFn_all _ _))).mono ?_
  rintro e w1 ⟨rfl, hb1⟩
  have hB1 : Below W.heap.size W w1 := hb0.trans (hb1.mono hb0.size)
  have z0 := bxBelow x0 hb1 x0.lt
  have z1 := x1.below hb1 x1.lt
  have z3 := bxBelow x3 hb1 x3.lt
  have hz := z3.lt
  clear hb0 hb1 x0 x1 x3 c0 c1 c2 c3 c4 c5 c6
  have c0 := z0.cell
  cases hpf : pullF ts allF p with
  | none =>
    have Hpf := Lib.hid hpf
    clear hpf
    dsimp only [pullRes]
    gi_wp2_with (fail)
    have hv : visitsF ts p = [] := by unfold visitsF; rw [Hpf.out]
    refine ⟨_, results_none rfl _ _ _, ⟨_, rfl⟩, noBlock, .inl ⟨_, rfl, ?_⟩⟩
    rw [hv]
    exact hJs _ _ _ _ _ h0 (St.of_below (hB1.alloc hB1.size _)) (Grows.refl _ _)
  | some q =>
    have hv : visitsF ts p = (List.range ts.length).map fun w => (w, q.set w 0) := by unfold visitsF; rw [hpf]
    have Hpf := Lib.hid (And.intro hpf hv)
    clear hpf hv
    dsimp only [pullRes]
    have v0 := bxBelow z0 ((Below.refl w1.heap.size w1).alloc (Nat.le_refl _) (.cells (plc q) 64)) z0.lt
    have v3 := bxBelow z3 ((Below.refl w1.heap.size w1).alloc (Nat.le_refl _) (.cells (plc q) 64)) z3.lt
    have v4 := PlAt.new w1 q
    have hB1' : Below W.heap.size W (w1.alloc (.cells (plc q) 64)) := hB1.alloc hB1.size _
    have c0 := v0.cell
    gi_wp2_with (fail)
    refine ⟨trivial, ?_⟩
    refine (callsIn_wide.2 (screws_box _ _ _ _)).mono ?_
    rintro e w2 ⟨Bs, rfl, hBs, hb2⟩
    have hB2 : Below W.heap.size W w2 := hB1'.trans (hb2.mono hB1'.size)
    have u3 := bxBelow v3 hb2 v3.lt
    have u4 := v4.below hb2 v4.lt
    have hu4 := u4.lt
    have hW1 := hB1.size
    clear hb2 z0 z1 z3 v0 v3 v4 c0
    obtain ⟨X, hX⟩ : ∃ X : Nat → Prop, X = fun k => k = W.heap.size ∨ k = w1.heap.size := ⟨_, rfl⟩
    have hX0 : X W.heap.size := by rw [hX]; exact .inl rfl
    have hX1 : X w1.heap.size := by rw [hX]; exact .inr rfl
    have hXW : ∀ k, X k → W.heap.size ≤ k := fun k h => by rw [hX] at h; rcases h with h | h <;> omega
    have hXU : ∀ k, X k → k = W.heap.size ∨ k = w1.heap.size := fun k h => by rw [hX] at h; exact h
    clear hX
    gi_wp2_with (fail)
    refine range_allL (lv := 4) (by omega) (n₀ := n₀) (ts := ts) (Bs := Bs) (A := A) (cap := c) rfl hBs.lt (by have := hB2.size; omega) hBs.cell (hxW.below hB2 (by omega)) rfl
      (fun pre V => J (pre.map fun i => (i.1, q.set i.1 0)) X V ∧ (PlAt V w1.heap.size q ∧ Boxed V W.heap.size 124 (.func (.yield l) #[] #[])) ∧ W.heap.size ≤ V.heap.size)
      (fun c' pre V => (c' = .ret ∧ Jx (pre.map fun i => (i.1, q.set i.1 0)) X V))
      ?hI ?hIx ?h0 ?a1 ?assign ?body ?done ?stop
    case assign =>
      intro l x W K hK
      gi_wp2
      exact hK
    case hI =>
      refine OwnFrom.and (hJs.own (by have := hB2.size; omega) (fun pre : List (Fin n) => pre.map fun i => (i.1, q.set i.1 0))) (Own.from (fun s A B row hs hg hr => ?_) _)
      exact ⟨⟨hs.1.1.own hg hr, bxOwn hs.1.2 hg hr⟩, Nat.le_trans hs.2 hg.size⟩
    case hIx => exact fun c' => OwnFrom.and (ownFrom_pure _ (fun _ => c' = .ret)) (hJxs.own (by have := hB2.size; omega) (fun pre : List (Fin n) => pre.map fun i => (i.1, q.set i.1 0)))
    case h0 => exact ⟨hJs _ _ _ _ _ h0 (St.of_below hB2) ⟨fun _ h => h.elim, fun k h => .inr (hXW k h)⟩, ⟨u4, u3⟩, hB2.size⟩
    case body =>
      rintro l' pre x V ⟨hJ, ⟨s4, s3⟩, hVW⟩ hlen
      have d3 := s3.cell
      obtain ⟨c1, c2, c3, c4, c5, c6⟩ := s4.cells
      have hx5 : x.1 < 5 := Nat.lt_of_lt_of_le x.2 h5
      gi_wp2_with (fail)
      refine ⟨trivial, (CallsIn.inRound l' (callsIn_wide.2 (visited_any V q x.1 hx5))).mono ?_⟩
      rintro e V2 ⟨rfl, hb⟩
      have hbb : Below V.heap.size V (V2.alloc (.cells (plc (q.set x.1 0)) 64)) := hb.alloc hb.size _
      have t4 := s4.below hbb s4.lt
      have t3 := bxBelow s3 hbb s3.lt
      have e3 := t3.cell
      obtain ⟨g0, g1, g2, g3, g4, g5⟩ := (PlAt.new V2 (q.set x.1 0)).cells
      have hJ3 := hJs _ _ _ _ _ hJ (St.of_below hbb) (Grows.refl _ _)
      have hbs := hbb.size
      obtain ⟨fn, tmps, assign, body, hy, hR⟩ := hY _ (x.1, q.set x.1 0) X _ hJ3 (by omega) (fun k h => by rcases hXU k h with rfl | rfl; exact t3.lt; exact t4.lt) (by simpa using hlen)
      dsimp only [encV] at hy
      clear d3 c1 c2 c3 c4 c5 c6
      gi_wp2
      refine hR.mono ?_
      rintro e V4 ⟨hJ4, hkeep, hkf⟩
      have hKF : KeepsFrom w2.heap.size V V4 := (KeepsFrom.of_below hbb).trans (KeepsFrom.up hkf hB2.size)
      have hB4 : Below n₀ V V4 := (hbb.mono (by omega)).trans hkeep.below
      rcases hJ4 with ⟨rfl, hJ4⟩ | ⟨rfl, hJx4⟩
      · gi_wp2
        exact ⟨hKF, hB4, by simpa using hJ4, ⟨hkeep.same _ _ t4 (.inl hX1), hkeep.same _ _ t3 (.inl hX0)⟩, by have := hkeep.below.size; omega⟩
      · gi_wp2
        exact ⟨hKF, rfl, by simpa using hJx4⟩
    case done =>
      rintro D V hD ⟨hJ, -, -⟩ hK
      refine ⟨by simp, .inl ⟨_, _, rfl, run_takeDeferred hK, ?_⟩⟩
      refine ⟨_, results_none rfl _ _ _, ⟨_, rfl⟩, X, .inl ⟨_, rfl, ?_⟩⟩
      refine hJs.put _ ?_ (by have := hB2.size; omega) hK rfl
      rw [Hpf.out.2]
      have hl := hx.len
      subst hl
      have : (List.range ts.length).map (fun w => (w, q.set w 0)) = (List.finRange ts.length).map (fun i => (i.1, q.set i.1 0)) := finRange_vals _ _
      rw [this]
      exact hJ
    case stop =>
      rintro D c' pre V hD ⟨rest, hrest⟩ ⟨rfl, hJ⟩ hK
      gi_wp2
      refine ⟨by simp, .inl ⟨_, _, rfl, run_takeDeferred hK, ?_⟩⟩
      refine ⟨_, results_none rfl _ _ _, ⟨_, rfl⟩, X, .inr ⟨_, ⟨rest.map fun i => (i.1, q.set i.1 0), ?_⟩, hJxs.put _ hJ (by have := hB2.size; omega) hK rfl⟩⟩
      rw [Hpf.out.2]
      have hl := hx.len
      subst hl
      have : (List.range ts.length).map (fun w => (w, q.set w 0)) = (List.finRange ts.length).map (fun i => (i.1, q.set i.1 0)) := finRange_vals _ _
      rw [this, hrest, List.map_append]

def beforeL (ts : List Int) (p : Pl) (i : Nat) : List Pl := match unpullF p i with | none => [] | some q => (List.range (ts[i]?.getD 0).toNat).map fun h => q.set i (h : Nat)
def beforeF (ts : List Int) (p : Pl) : List Pl := (List.range ts.length).flatMap (beforeL ts p)
end Go.Proofs.YthjgecblkagelaaGreat

/- before: the iterator over what leads to a place. -/
namespace Go.Proofs.YthjgecblkagelaaGreat
open Go.RowKit Go.Shelf

attribute [local go_sem] Oper.semAt_some

theorem beforeL_len {ts : List Int} {p : Pl} {i : Nat} (h12 : ts[i]?.getD 0 ≤ 12) : (beforeL ts p i).length ≤ 12 := by
  unfold beforeL
  split
  · simp
  · simp; omega
theorem flat_len {ts : List Int} {p : Pl} {n : Nat} (h12 : ∀ i, i < n → ts[i]?.getD 0 ≤ 12) : ∀ (pre : List (Fin n)), (pre.flatMap fun i => beforeL ts p i.1).length ≤ 12 * pre.length
  | [] => by simp
  | x :: pre => by
    have ih := flat_len (p := p) h12 pre
    have := beforeL_len (p := p) (h12 x.1 x.2)
    simp only [List.flatMap_cons, List.length_append, List.length_cons]
    omega
theorem Pl.set_set (p : Pl) (i : Nat) (x y : Int) : (p.set i x).set i y = p.set i y := by
  match i with
  | 0 => rfl
  | 1 => rfl
  | 2 => rfl
  | 3 => rfl
  | 4 => rfl
  | i + 5 => rfl

set_option maxRecDepth 100000 in
set_option maxHeartbeats 4000000 in
theorem before1_any (w0 : World) (Bh Bp n₀ : Nat) (A : Option Addr) (n c : Nat) (ts : List Int) (p : Pl) (hBh : Boxed w0 Bh 57 (.slice A n c)) (hBp : PlAt w0 Bp p) (hn₀ : n₀ ≤ w0.heap.size) (hx : IntsAt w0 n₀ A n ts)
    (h5 : n ≤ 5) (h12 : ∀ i, i < n → 1 ≤ ts[i]?.getD 0 ∧ ts[i]?.getD 0 ≤ 12) (hp : PlOk ts p) (hpn : p.n = n) :
    IterAt Tryz.prog 110 #[.pointer (some ⟨Bh, 0, none⟩), .pointer (some ⟨Bp, 0, none⟩)] (fun x => #[plv x]) n₀ (fun k => k = Bh ∨ k = Bp) (fun xs => xs = beforeF ts p) (fun pre => ∃ rest, pre ++ rest = beforeF ts p) (12 * n) w0 := by
  intro l J Jx W hW hJs hJxs hY h0
  have hzW := hW.size
  have y0 := bxBelow hBh hW hBh.lt
  have y1 := hBp.below hW hBp.lt
  have hxW := hx.below hW hn₀
  have hb0 : Below W.heap.size W (W.alloc (.cells #[.func (.yield l) #[] #[]] 67)) := (Below.refl _ W).alloc (Nat.le_refl _) _
  have x3 := Boxed.new W 67 (.func (.yield l) #[] #[])
  have x0 := bxBelow y0 hb0 y0.lt
  have x1 := y1.below hb0 y1.lt
  have c0 := x0.cell
  have hflat : beforeF ts p = (List.finRange n).flatMap fun i => beforeL ts p i.1 := by
    have hl := hx.len
    subst hl
    unfold beforeF
    rw [List.flatMap_def, List.flatMap_def, finRange_vals]
  have Hpn := Lib.hid (And.intro hpn hflat)
  clear hpn hflat
  refine (callsIn_wide (n := 4)).1 ?_
  refine callsIn_of_wp_marks Tryz.func110 rfl trivial ?_ rfl
  simp only [Tryz.ntmps110, List.size_toArray, List.length_cons, List.length_nil, Nat.reduceAdd, Nat.reduceSub, Array.replicate_succ, Array.replicate_zero, List.push_toArray, List.append_toArray, List.nil_append, List.cons_append]
  gi_wp2_with (fail)
  refine ⟨trivial, ?_⟩
  refine (callsIn_wide.2 (screws_box _ _ _ _)).mono ?_
  rintro e w2 ⟨Bs, rfl, hBs, hb2⟩
  have hB2 : Below W.heap.size W w2 := hb0.trans (hb2.mono hb0.size)
  have u3 := bxBelow x3 hb2 x3.lt
  have u1 := x1.below hb2 x1.lt
  clear hb2 hb0 x0 x1 x3 c0
  have hw2 := hB2.size
  gi_wp2_with (fail)
  refine range_allL (lv := 4) (by omega) (n₀ := n₀) (ts := ts) (Bs := Bs) (A := A) (cap := c) rfl hBs.lt (by omega) hBs.cell (hxW.below hB2 (by omega)) rfl
    (fun pre V => ((∃ X : Nat → Prop, X W.heap.size ∧ (∀ k, X k → W.heap.size ≤ k ∧ k < V.heap.size) ∧ J (pre.flatMap fun i => beforeL ts p i.1) X V)) ∧ (PlAt V Bp p ∧ Boxed V W.heap.size 67 (.func (.yield l) #[] #[])) ∧ W.heap.size ≤ V.heap.size)
    (fun c' pre V => (c' = .ret ∧ ∃ X xs, (∃ ys, xs ++ ys = pre.flatMap fun i => beforeL ts p i.1) ∧ Jx xs X V))
    ?hI ?hIx ?h0 ?a1 ?assign ?body ?done ?stop
  case assign =>
    intro l x W K hK
    gi_wp2
    exact hK
  case hI =>
    refine OwnFrom.and (fun s A B row hs hg hr => ?_) (Own.from (fun s A B row hs hg hr => ⟨⟨hs.1.1.own hg hr, bxOwn hs.1.2 hg hr⟩, Nat.le_trans hs.2 hg.size⟩) _)
    obtain ⟨X, h1, h2, h3⟩ := hs
    exact ⟨X, h1, fun k h => ⟨(h2 k h).1, Nat.lt_of_lt_of_le (h2 k h).2 hg.size⟩, hJs.own hw2 (fun pre : List (Fin n) => pre.flatMap fun i => beforeL ts p i.1) _ _ _ _ h3 hg hr⟩
  case hIx =>
    intro c' s A B row hs hg hr
    obtain ⟨h1, X, xs, h2, h3⟩ := hs
    exact ⟨h1, X, xs, h2, hJxs.own hw2 (fun _ : Unit => xs) () _ _ _ h3 hg hr⟩
  case h0 => exact ⟨⟨(fun k => k = W.heap.size), rfl, fun k h => by rw [h]; exact ⟨Nat.le_refl _, u3.lt⟩, hJs _ _ _ _ _ h0 (St.of_below hB2) ⟨fun _ h => h.elim, fun k h => .inr (by show _ ≤ k; rw [h]; exact Nat.le_refl _)⟩⟩, ⟨u1, u3⟩, hB2.size⟩
  case body =>
    rintro l' pre x V ⟨⟨X, hX0, hXW, hJ⟩, ⟨s1, s3⟩, hVW⟩ hlen
    have hx5 : x.1 < 5 := Nat.lt_of_lt_of_le x.2 h5
    obtain ⟨c1, c2, c3, c4, c5, c6⟩ := s1.cells
    have hp12 : ∀ i, i < n → 0 ≤ p.get i ∧ p.get i ≤ 12 := fun i hi => by
      have h1 := hp i (by rw [hx.len]; exact hi)
      have h2 := h12 i hi
      omega
    gi_wp2_with (fail)
    refine ⟨trivial, (CallsIn.inRound l' (callsIn_wide.2 (unpulled_any V p n x.1 Hpn.out.1 h5 hp12))).mono ?_⟩
    rintro e V2 ⟨rfl, hb⟩
    have hbl : beforeL ts p x.1 = match unpullF p x.1 with | none => [] | some q => (List.range (ts[x.1]?.getD 0).toNat).map fun h => q.set x.1 (h : Nat) := rfl
    have hbz := hb.size
    cases hu : unpullF p x.1 with
    | none =>
      rw [hu] at hbl
      have Hbl := Lib.hid hbl
      clear hbl hu
      dsimp only [pullRes]
      have hbb : Below V.heap.size V (V2.alloc (.cells (plc ⟨0, 0, 0, 0, 0, 0⟩) 64)) := hb.alloc hb.size _
      gi_wp2
      refine ⟨KeepsFrom.of_below hbb, hbb.mono (by omega), ⟨X, hX0, fun k h => ⟨(hXW k h).1, Nat.lt_of_lt_of_le (hXW k h).2 hbb.size⟩, ?_⟩, ⟨s1.below hbb s1.lt, bxBelow s3 hbb s3.lt⟩, Nat.le_trans hVW hbb.size⟩
      have := hJs _ _ _ _ _ hJ (St.of_below hbb) (Grows.refl _ _)
      simpa [Hbl.out] using this
    | some q =>
      rw [hu] at hbl
      have Hbl := Lib.hid hbl
      clear hbl hu
      dsimp only [pullRes]
      have hbb : Below V.heap.size V (V2.alloc (.cells (plc q) 64)) := hb.alloc hb.size _
      have hT := h12 x.1 x.2
      obtain ⟨X', hX'⟩ : ∃ X' : Nat → Prop, X' = fun k => X k ∨ k = V2.heap.size := ⟨_, rfl⟩
      have hXb : X' V2.heap.size := by rw [hX']; exact .inr rfl
      have hXi : ∀ k, X k → X' k := fun k h => by rw [hX']; exact .inl h
      have hXo : ∀ k, X' k → X k ∨ k = V2.heap.size := fun k h => by rw [hX'] at h; exact h
      clear hX'
      have hJ2 : J (pre.flatMap fun i => beforeL ts p i.1) X' (V2.alloc (.cells (plc q) 64)) := hJs _ _ _ _ _ hJ (St.of_below hbb) ⟨hXi, fun k h => (hXo k h).imp id (fun h => by rw [h]; exact hb.size)⟩
      have t1 := s1.below hbb s1.lt
      have t3 := bxBelow s3 hbb s3.lt
      have t6 := PlAt.new V2 q
      have hne : V2.heap.size ≠ W.heap.size := by have := s3.lt; omega
      have hne1 : V2.heap.size ≠ Bp := by have := s1.lt; omega
      clear c1 c2 c3 c4 c5 c6
      gi_wp2_with (fail)
      gi_loopw [22] (fun i wr => ∃ (k : Nat) (q' : Pl), (k : Int) ≤ ts[x.1]?.getD 0 ∧ i = .int .i64 k ∧ J ((pre.flatMap fun i => beforeL ts p i.1) ++ (List.range k).map fun h => q.set x.1 (h : Nat)) X' wr ∧ PlAt wr V2.heap.size q' ∧
          (∀ y, q'.set x.1 y = q.set x.1 y) ∧ Boxed wr W.heap.size 67 (.func (.yield l) #[] #[]) ∧ PlAt wr Bp p ∧ KeepsFrom w2.heap.size V wr ∧ Below n₀ V wr)
        (fun i _ => ((ts[x.1]?.getD 0) - intOf i).toNat)
      case atStart => exact ⟨0, q, by omega, rfl, by simpa using hJ2, t6, fun _ => rfl, t3, t1, KeepsFrom.of_below hbb, hbb.mono (by omega)⟩
      case round =>
        obtain ⟨k, q', hk, rfl, hJk, z6, hqs, z3, z1, hKF, hBV⟩ := hrel
        have hwz := hBV.size
        by_cases hlt : (k : Int) < ts[x.1]?.getD 0
        · have hlt5 : (x.1 : Int) < 5 := by omega
          have g1 := z6.get hx5
          have g1f := z6.frozen (1 + x.1)
          have z6' : PlAt (wr.setCell ⟨V2.heap.size, 1 + x.1, none⟩ (.int .i64 (k : Int))) V2.heap.size (q.set x.1 (k : Int)) := by rw [← hqs]; exact z6.set hx5 _
          have z3' := bxOther z3 hne.symm (1 + x.1) (.int .i64 (k : Int))
          have z1' := z1.other hne1.symm (1 + x.1) (.int .i64 (k : Int))
          have e3 := z3'.cell
          obtain ⟨g2, g3, g4, g5, g6, g7⟩ := z6'.cells
          have hst : St W.heap.size X' wr (wr.setCell ⟨V2.heap.size, 1 + x.1, none⟩ (.int .i64 (k : Int))) := (St.refl wr).cell hXb _ _
          have hJ3 := hJs _ _ _ _ _ hJk hst (Grows.refl _ _)
          have hsz3 := hst.base.size
          obtain ⟨fn, tmps, assign, body, hy, hR⟩ := hY _ (q.set x.1 (k : Int)) X' _ hJ3 (by omega) (fun k h => (hXo k h).elim (fun h => by have := (hXW k h).2; omega) (fun h => by rw [h]; exact z6'.lt)) (by
            have := flat_len (ts := ts) (p := p) (fun i hi => (h12 i hi).2) pre
            simp only [List.length_append, List.length_map, List.length_range]
            omega)
          have hKF3 : KeepsFrom w2.heap.size V (wr.setCell ⟨V2.heap.size, 1 + x.1, none⟩ (.int .i64 (k : Int))) := hKF.trans ((KeepsOthers.setCell _ _ _).from _)
          have hBV3 : Below n₀ V (wr.setCell ⟨V2.heap.size, 1 + x.1, none⟩ (.int .i64 (k : Int))) := hBV.setCell (p := ⟨V2.heap.size, 1 + x.1, none⟩) (show n₀ ≤ V2.heap.size by omega) _
          have Hqs := Lib.hid hqs
          clear hqs
          gi_wp2
          refine hR.mono ?_
          rintro e V4 ⟨hJ4, hkeep, hkf⟩
          have hKF4 := hKF3.trans (KeepsFrom.up hkf hw2)
          have hBV4 := hBV3.trans hkeep.below
          rcases hJ4 with ⟨rfl, hJ4⟩ | ⟨rfl, hJx4⟩
          · gi_wp2
            go_roundw
            case rel => exact ⟨k + 1, _, by omega, by go_num, by rw [List.range_succ, List.map_append, ← List.append_assoc]; exact hJ4, hkeep.same _ _ z6' (.inl hXb), fun y => Pl.set_set _ _ _ _, hkeep.same _ _ z3' (.inl (hXi _ hX0)), hkeep.same _ _ z1' (.inr (.inr rfl)), hKF4, hBV4⟩
            case measure => simp [intOf]; omega
          · gi_wp2
            refine ⟨hKF4, rfl, X', _, ⟨((List.range (ts[x.1]?.getD 0).toNat).drop (k + 1)).map fun h => q.set x.1 (h : Nat), ?_⟩, hJx4⟩
            have htk : (List.range (ts[x.1]?.getD 0).toNat).take (k + 1) = List.range k ++ [k] := by rw [← List.range_succ, List.take_range, Nat.min_eq_left (by omega)]
            have hall := List.take_append_drop (k + 1) (List.range (ts[x.1]?.getD 0).toNat)
            rw [htk] at hall
            rw [List.flatMap_append, List.flatMap_cons, List.flatMap_nil, List.append_nil, Hbl.out]
            conv => rhs; rw [← hall]
            simp [List.map_append]
        · have hkT : k = (ts[x.1]?.getD 0).toNat := by omega
          gi_wp2
          refine ⟨hKF, hBV, ⟨X', hXi _ hX0, fun k h => (hXo k h).elim (fun h => ⟨(hXW k h).1, by have := (hXW k h).2; omega⟩) (fun h => ⟨by omega, by rw [h]; exact z6.lt⟩), ?_⟩, ⟨z1, z3⟩, by omega⟩
          rw [List.flatMap_append, List.flatMap_cons, List.flatMap_nil, List.append_nil, Hbl.out, ← hkT]
          exact hJk
  case done =>
    rintro D V hD ⟨⟨X, -, -, hJ⟩, -, -⟩ hK
    refine ⟨by simp, .inl ⟨_, _, rfl, run_takeDeferred hK, ?_⟩⟩
    refine ⟨_, results_none rfl _ _ _, ⟨_, rfl⟩, X, .inl ⟨_, rfl, ?_⟩⟩
    refine hJs.put _ ?_ (by omega) hK rfl
    rw [Hpn.out.2]
    exact hJ
  case stop =>
    rintro D c' pre V hD ⟨rest, hrest⟩ ⟨rfl, X, xs, ⟨ys, hys⟩, hJ⟩ hK
    gi_wp2
    refine ⟨by simp, .inl ⟨_, _, rfl, run_takeDeferred hK, ?_⟩⟩
    refine ⟨_, results_none rfl _ _ _, ⟨_, rfl⟩, X, .inr ⟨_, ⟨ys ++ rest.flatMap fun i => beforeL ts p i.1, ?_⟩, hJxs.put _ hJ (by omega) hK rfl⟩⟩
    rw [Hpn.out.2, hrest, List.flatMap_append, ← hys, List.append_assoc]
end Go.Proofs.YthjgecblkagelaaGreat
