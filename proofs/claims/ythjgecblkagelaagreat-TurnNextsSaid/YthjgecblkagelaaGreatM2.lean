/- Parts of a proof: G H P. -/
import Derived.Test.YthjgecblkagelaaGreatM1
import Derived.RangeFuncNested
import Derived.RangeFuncBound
import Derived.RangeFuncCalls
import Derived.RangeFuncLeaves
import Derived.RangeFuncBox
import Derived.Shelf.Abstract
import Derived.Shelf.RegionOpen
import Derived.OwnWalkIn
import Derived.TacticsInMore
import Derived.LoopNIn
import Derived.LoopIn

/- slices.All over ints: its closure's contract, over the indices; the screws of a hall. -/
namespace Go.Proofs.YthjgecblkagelaaGreat
open Go.RowKit Go.Shelf

attribute [local go_sem] Oper.semAt_some

/-- The first k of the n indices. -/
def idx (n k : Nat) : List (Fin n) := (List.finRange n).take k
theorem idx_zero (n : Nat) : idx n 0 = [] := rfl
theorem idx_succ {n k : Nat} (h : k < n) : idx n (k + 1) = idx n k ++ [⟨k, h⟩] := by
  unfold idx
  rw [List.take_succ_eq_append_getElem (by simpa using h)]
  simp
theorem idx_length {n k : Nat} (h : k ≤ n) : (idx n k).length = k := by unfold idx; simp [h]
theorem idx_all (n : Nat) : idx n n = List.finRange n := by unfold idx; rw [List.take_of_length_le (by simp)]

def encIx (n : Nat) (ts : List Int) (i : Fin n) : Array Value := #[.int .i64 (i.1 : Int), .int .i64 (ts[i.1]?.getD 0)]

set_option maxRecDepth 100000 in
set_option maxHeartbeats 2000000 in
theorem all1_in (F : Fence) (n : Nat) (h8 : F.fn 108) (hro : F.round = none) (hn : 1 ≤ n) (l Bs n₀ : Nat) (A : Option Addr) (len cap : Nat) (ts : List Int) (J Jx : List (Fin len) → World → Prop)
    (hY : ∀ pre x W, J pre W → pre.length < len → YieldAt F (n - 1) Tryz.prog l (encIx len ts x) W fun e W' =>
      (e = .returned (.bool true) ∧ J (pre ++ [x]) W' ∧ Below n₀ W W') ∨ (e = .returned (.bool false) ∧ Jx (pre ++ [x]) W'))
    (W : World) (hBs : W.cell? ⟨Bs, 0, none⟩ = some (.slice A len cap)) (hx : IntsAt W n₀ A len ts) (h0 : J [] W) :
    CallsIn F n Tryz.prog 108 #[.func (.yield l) #[] #[], .pointer (some ⟨Bs, 0, none⟩)] W fun e W' => (∃ v, e = .returned v) ∧
      ((∃ ys, ys = List.finRange len ∧ J ys W') ∨ (∃ pre, (∃ k, k ≤ len ∧ pre = idx len k) ∧ Jx pre W')) := by
  have hm := hx.small
  refine callsIn_of_wp Tryz.func108 rfl h8 ?_ hro
  simp only [Tryz.ntmps108, List.size_toArray, List.length_cons, List.length_nil, Nat.reduceAdd, Nat.reduceSub, Array.replicate_succ, Array.replicate_zero, List.push_toArray, List.append_toArray, List.nil_append, List.cons_append]
  gi_wp2
  gi_loopw [7] (fun i wr => ∃ k : Nat, k ≤ len ∧ i = .int .i64 k ∧ J (idx len k) wr ∧ Below n₀ W wr)
    (fun i _ => len - (intOf i).toNat)
  case atStart => exact ⟨0, Nat.zero_le _, rfl, h0, Below.refl _ _⟩
  case round =>
    obtain ⟨k, hk, rfl, hJs, hnx⟩ := hrel
    by_cases hlt : k < len
    · obtain ⟨b, off, rfl, hb, hcx'⟩ := (hx.below hnx (Nat.le_refl _)).cell hlt
      obtain ⟨fn, tmps, assign, body, hy, hR⟩ := hY _ ⟨k, hlt⟩ wr hJs (by rw [idx_length hk]; exact hlt)
      dsimp only [encIx] at hy
      gi_wp2
      refine hR.mono ?_
      rintro e W3 (⟨rfl, hJ3, hk3⟩ | ⟨rfl, hJx3⟩)
      · gi_wp2
        go_roundw
        case rel => exact ⟨k + 1, by omega, by simp, by rw [idx_succ hlt]; exact hJ3, hnx.trans hk3⟩
        case measure => simp [intOf]; omega
      · gi_wp2
        refine bodyPost_ret (results_none rfl _ _ _) rfl ?_
        exact ⟨⟨_, rfl⟩, .inr ⟨_, ⟨k + 1, by omega, (idx_succ hlt).symm⟩, hJx3⟩⟩
    · obtain rfl : k = len := by omega
      gi_wp2
      go_end0
      exact ⟨⟨_, rfl⟩, .inl ⟨_, rfl, by rw [← idx_all]; exact hJs⟩⟩

theorem all_stops (F : Fence) (n : Nat) (h8 : F.fn 108) (hro : F.round = none) (hn : 1 ≤ n) (Bs n₀ : Nat) (A : Option Addr) (len cap : Nat) (ts : List Int) (w : World) (hBs : Bs < w.heap.size) (hn₀ : n₀ ≤ w.heap.size)
    (hc : w.cell? ⟨Bs, 0, none⟩ = some (.slice A len cap)) (hx : IntsAt w n₀ A len ts) :
    SeqStopsK F n Tryz.prog 108 #[.pointer (some ⟨Bs, 0, none⟩)] (encIx len ts) (Below n₀) (fun ys => ys = List.finRange len) (fun pre => ∃ k, k ≤ len ∧ pre = idx len k) len w := fun l J Jx W hW _ _ hY h0 =>
  all1_in F n h8 hro hn l Bs n₀ A len cap ts J Jx hY W ((hW.cell (p := ⟨Bs, 0, none⟩) hBs).trans hc) (hx.below hW hn₀) h0

set_option maxHeartbeats 1000000 in
theorem screws_any (A : Option Addr) (len cap : Nat) (w : World) :
    Calls Tryz.prog 74 #[.agg #[.slice A len cap]] w fun e w' =>
      e = .returned (.func (.func 108) #[] #[.pointer (some ⟨w.heap.size + 1, 0, none⟩)]) ∧ w' = (w.alloc (.cells #[.slice A len cap] 57)).alloc (.cells #[.slice A len cap] 22) := by
  go_enter Tryz.func74, Tryz.ntmps74
  go_wp2
  go_ret
  exact ⟨by simp, rfl⟩
end Go.Proofs.YthjgecblkagelaaGreat

/- checkState: a range over the screws of a hall. -/
namespace Go.Proofs.YthjgecblkagelaaGreat
open Go.RowKit Go.Shelf

attribute [local go_sem] Oper.semAt_some

theorem KeepsFrom.of_below {B : Nat} {W W' : World} (h : Below W.heap.size W W') : KeepsFrom B W W' :=
  ⟨h.size, fun k _ _ hk _ => (h.block k (Array.getElem?_eq_some_iff.1 hk).1).trans hk⟩

theorem bxBelow {W W' : World} {B D : Nat} {t : TypeId} {v : Value} (h : Boxed W B t v) (hb : Below D W W') (hD : B < D) : Boxed W' B t v := (hb.block B hD).trans h
theorem bxDrew {W : World} {B : Nat} {t : TypeId} {v : Value} (h : Boxed W B t v) : Boxed W.drew B t v := h
theorem bxOwn {W W' : World} {row : Option Nat} {B : Nat} {t : TypeId} {v : Value} (h : Boxed W B t v) (hg : W.grownBy W' row) (hr : ∀ r, row = some r → ∃ o : Obj, W.heap[r]? = some o ∧ o.isCells = false) : Boxed W' B t v :=
  h.kept hg (fun e => by
    obtain ⟨o, ho, hc⟩ := hr B e.symm
    have h' : W.heap[B]? = some (.cells #[v] t (0, 0)) := h
    rw [ho] at h'
    cases h'
    cases hc)
theorem bxPut {W : World} {D B : Nat} {t : TypeId} {v : Value} (h : Boxed W B t v) (hD : W.heap[D]? = some (.deferred (some []))) : Boxed (W.putObj D (.deferred none)) B t v :=
  bxOwn h (grownBy_putObj' _ D (.deferred none)) (fun r e => by cases e; exact ⟨_, hD, rfl⟩)

/-- A range over slices.All(ts), in a function that is called plainly. -/
theorem range_all {g : Operand} {ps : Array Tmp} {assign body : Code} {Q : Exit → Act → World → Prop} {a : Act} {w : World} {Bs n₀ : Nat} {A : Option Addr} {len cap : Nat} {ts : List Int}
    (hg : a.eval g = .func (.func 108) #[] #[.pointer (some ⟨Bs, 0, none⟩)]) (hBs : Bs < w.heap.size) (hn₀ : n₀ ≤ w.heap.size) (hc : w.cell? ⟨Bs, 0, none⟩ = some (.slice A len cap)) (hx : IntsAt w n₀ A len ts) (hps : ps.size = 2)
    (I : List (Fin len) → World → Prop) (Ix : Code → List (Fin len) → World → Prop) (hI : OwnFrom w.heap.size I) (hIx : ∀ c, OwnFrom w.heap.size (Ix c)) (h0 : I [] w) (a₁ : Fin len → Act)
    (hassign : ∀ (l : Nat) (x : Fin len) (W : World) (K : Act → World → Prop), K (a₁ x) W →
      assign.wpIn (Fence.wide.inRound l) 1 Tryz.prog (Exit.then K (fun _ _ _ => False)) { tmps := (ps.zip #[.int .i64 (x.1 : Int), .int .i64 (ts[x.1]?.getD 0)]).foldl (fun t (p, v) => t.setIfInBounds p v) a.tmps, defers := [] } W)
    (hbody : ∀ (l : Nat) (pre : List (Fin len)) (x : Fin len) (W : World), I pre W → body.wpIn (Fence.wide.inRound l) 1 Tryz.prog (ownPostG w.heap.size (Below n₀) I Ix (pre ++ [x]) W) (a₁ x) W)
    (hdone : ∀ (D : Nat) (W : World), w.heap.size ≤ D → I (List.finRange len) W → W.heap[D]? = some (.deferred (some [])) → Q .normal { a with defers := { target := .collected D, args := #[] } :: a.defers } W)
    (hstop : ∀ (D : Nat) (c : Code) (pre : List (Fin len)) (W : World), w.heap.size ≤ D → (∃ rest, List.finRange len = pre ++ rest) → Ix c pre W → W.heap[D]? = some (.deferred (some [])) → c.wpIn Fence.wide 3 Tryz.prog Q { a with defers := { target := .collected D, args := #[] } :: a.defers } W) :
    (Code.rangeFunc g ps assign body).wpIn Fence.wide 3 Tryz.prog Q a w :=
  wpIn_rangeFunc_ownG rfl (by omega) hg trivial (enters_of Tryz.func108 (by kernel_rfl) rfl)
    (all_stops Fence.wide 2 trivial rfl (by omega) Bs n₀ A len cap ts w hBs hn₀ hc hx) belowK_t (belowK_b hn₀) (Below.refl _ _) (fun _ => by simp [encIx, hps])
    I Ix hI hIx h0 a₁ hassign (fun l pre x W h _ => hbody l pre x W h) (fun D xs W hD hS h hK => by subst hS; exact hdone D W hD h hK) (fun D c pre W hD hS h hK => by
      obtain ⟨k, hk, rfl⟩ := hS
      exact hstop D c _ W hD ⟨(List.finRange len).drop k, (List.take_append_drop k _).symm⟩ h hK)

def stateOk (ts ss : List Int) : Bool := (List.range ts.length).all fun i => decide (0 ≤ ss[i]?.getD 0) && decide (ss[i]?.getD 0 ≤ ts[i]?.getD 0)
def statedF (ts ss : List Int) : Int := if checkHallF ts ≠ 0 then checkHallF ts else if ss.length ≠ ts.length then 15 else if stateOk ts ss then 0 else 3
theorem stateOk_true {ts ss : List Int} (h : ∀ i, i < ts.length → 0 ≤ ss[i]?.getD 0 ∧ ss[i]?.getD 0 ≤ ts[i]?.getD 0) : stateOk ts ss = true := by
  unfold stateOk
  rw [List.all_eq_true]
  intro i hi
  have := h i (List.mem_range.1 hi)
  simp; omega
theorem stateOk_false {ts ss : List Int} {i : Nat} (hi : i < ts.length) (h : ¬ (0 ≤ ss[i]?.getD 0 ∧ ss[i]?.getD 0 ≤ ts[i]?.getD 0)) : stateOk ts ss = false := by
  unfold stateOk
  rw [List.all_eq_false]
  exact ⟨i, List.mem_range.2 hi, by simp; omega⟩

theorem below_put {w0 W : World} {D : Nat} (hb : Below w0.heap.size w0 W) (h : W.heap[D]? = some (.deferred (some []))) (hD : w0.heap.size ≤ D) : Below w0.heap.size w0 (W.putObj D (.deferred none)) :=
  hb.trans (belowK_b (w := w0) (Nat.le_refl _) W D _ _ hD h rfl rfl)

set_option maxRecDepth 100000 in
set_option maxHeartbeats 2000000 in
theorem checkState_any (w : World) (B1 B2 : Nat) (A1 A2 : Option Addr) (n c m d : Nat) (ts ss : List Int) (h1 : IntsAt w B1 A1 n ts) (hB1 : B1 ≤ w.heap.size) (h2 : IntsAt w B2 A2 m ss) (hB2 : B2 ≤ w.heap.size) :
    Calls Tryz.prog 52 #[.agg #[.slice A1 n c], .slice A2 m d] w fun e w' => e = .returned (.int .i64 (statedF ts ss)) ∧ Below w.heap.size w w' := by
  have hb0 : Below w.heap.size w (((w.alloc (.cells #[.slice A1 n c] 24)).alloc (.cells #[.slice A2 m d] 22)).alloc (.cells #[.int .i64 0] 28)) :=
    (((Below.refl _ w).alloc (Nat.le_refl _) _).alloc (by simp) _).alloc (by simp; omega) _
  have x0 := ((Boxed.new w 24 (.slice A1 n c)).alloc (.cells #[.slice A2 m d] 22)).alloc (.cells #[.int .i64 0] 28)
  have x1 := (Boxed.new (w.alloc (.cells #[.slice A1 n c] 24)) 22 (.slice A2 m d)).alloc (.cells #[.int .i64 0] 28)
  have x2 := Boxed.new ((w.alloc (.cells #[.slice A1 n c] 24)).alloc (.cells #[.slice A2 m d] 22)) 28 (.int .i64 0)
  simp only [World.size_alloc] at x1 x2
  refine (callsIn_wide (n := 3)).1 ?_
  refine callsIn_of_wp_marks Tryz.func52 rfl trivial ?_ rfl
  simp only [Tryz.ntmps52, List.size_toArray, List.length_cons, List.length_nil, Nat.reduceAdd, Nat.reduceSub, Array.replicate_succ, Array.replicate_zero, List.push_toArray, List.append_toArray, List.nil_append, List.cons_append]
  gi_wp2_with (fail)
  refine ⟨trivial, ?_⟩
  refine (callsIn_wide.2 (checkHall_any _ B1 _ _ _ ts (h1.below hb0 hB1) (by simp; omega))).mono ?_
  rintro e w1 ⟨rfl, hb1⟩
  have hz : w.heap.size + 3 ≤ w1.heap.size := by have := hb1.size; simp at this; omega
  have hB : Below w.heap.size w w1 := hb0.trans (hb1.mono (by simp; omega))
  have y0 := bxBelow x0 hb1 x0.lt
  have y1 := bxBelow x1 hb1 x1.lt
  have y2 := bxBelow x2 hb1 x2.lt
  have c0 := y0.cell
  have c1 := y1.cell
  have c2 := y2.cell
  have f2 := y2.frozen
  clear hb1 x0 x1 x2 hb0
  by_cases hch : checkHallF ts = 0
  · have hb' : (checkHallF ts != 0) = false := by simp [hch]
    have Hch := Lib.hid hch
    clear hch
    by_cases hl : m = n
    · subst hl
      gi_wp2_with (fail)
      refine ⟨trivial, ?_⟩
      refine (callsIn_wide.2 (screws_any _ _ _ _)).mono ?_
      rintro e w2 ⟨rfl, rfl⟩
      have hB2' : Below w.heap.size w ((w1.alloc (.cells #[.slice A1 m c] 57)).alloc (.cells #[.slice A1 m c] 22)) := (hB.alloc hB.size _).alloc (by simp; omega) _
      gi_wp2_with (fail)
      refine range_all (n₀ := w.heap.size) (ts := ts) (Bs := w1.heap.size + 1) (A := A1) (cap := c) rfl (by simp) (by simp; omega) (by simp) ((h1.below hB2' hB1).more hB1) rfl
        (fun pre W => ((∀ i ∈ pre, 0 ≤ ss[i.1]?.getD 0 ∧ ss[i.1]?.getD 0 ≤ ts[i.1]?.getD 0) ∧ Boxed W (w.heap.size + 1) 22 (.slice A2 m d) ∧ Boxed W (w.heap.size + 2) 28 (.int .i64 0)) ∧ Below w.heap.size w W)
        (fun c' _ W => (c' = .ret ∧ (∃ i : Fin m, ¬ (0 ≤ ss[i.1]?.getD 0 ∧ ss[i.1]?.getD 0 ≤ ts[i.1]?.getD 0)) ∧ Boxed W (w.heap.size + 2) 28 (.int .i64 3)) ∧ Below w.heap.size w W)
        ?hI ?hIx ?h0 ?a1 ?assign ?body ?done ?stop
      case assign =>
        intro l x W K hK
        gi_wp2
        exact hK
      case hI => exact OwnFrom.and (Own.from (fun s A B row hs hg hr => ⟨hs.1, bxOwn hs.2.1 hg hr, bxOwn hs.2.2 hg hr⟩) _) (ownFrom_below (Nat.le_refl _) (by simp; omega))
      case hIx => exact fun c => OwnFrom.and (Own.from (fun s A B row hs hg hr => ⟨hs.1, hs.2.1, bxOwn hs.2.2 hg hr⟩) _) (ownFrom_below (Nat.le_refl _) (by simp; omega))
      case h0 => exact ⟨⟨by simp, (y1.alloc _).alloc _, (y2.alloc _).alloc _⟩, hB2'⟩
      case body =>
        rintro l pre x W ⟨⟨hp, z1, z2⟩, hBW⟩
        obtain ⟨b, o, hA, hbB, hcx⟩ := (h2.below hBW hB2).cell x.2
        subst hA
        have d1 := z1.cell
        have hzW := z2.lt
        by_cases hok : 0 ≤ ss[x.1]?.getD 0 ∧ ss[x.1]?.getD 0 ≤ ts[x.1]?.getD 0
        · have hw : withinF 0 (ts[x.1]?.getD 0) [ss[x.1]?.getD 0] = true := by rw [within_one]; simp; exact hok
          gi_wp2_with (fail)
          refine ⟨trivial, ?_⟩
          refine (CallsIn.inRound l (callsIn_wide.2 (within_any 0 _ _ (W.heap.size + 1) _ _ _ [ss[x.1]?.getD 0] (one_int _ _ _ _ (by omega) (by simp)) (by simp)))).mono ?_
          rintro e W2 ⟨rfl, hb2⟩
          gi_wp2
          have hbb : Below W.heap.size W W2 := ((Below.refl _ W).alloc (Nat.le_refl _) _).trans (hb2.mono (by simp))
          exact ⟨KeepsFrom.of_below hbb, hbb.mono hBW.size, ⟨fun i hi => by
            rcases List.mem_append.1 hi with h | h
            · exact hp i h
            · simp at h; subst h; exact hok, bxBelow z1 hbb z1.lt, bxBelow z2 hbb z2.lt⟩, hBW.trans (hbb.mono hBW.size)⟩
        · have hw : withinF 0 (ts[x.1]?.getD 0) [ss[x.1]?.getD 0] = false := by rw [within_one]; simp; omega
          gi_wp2_with (fail)
          refine ⟨trivial, ?_⟩
          refine (CallsIn.inRound l (callsIn_wide.2 (within_any 0 _ _ (W.heap.size + 1) _ _ _ [ss[x.1]?.getD 0] (one_int _ _ _ _ (by omega) (by simp)) (by simp)))).mono ?_
          rintro e W2 ⟨rfl, hb2⟩
          have hbb : Below W.heap.size W W2 := ((Below.refl _ W).alloc (Nat.le_refl _) _).trans (hb2.mono (by simp))
          have z2' := bxBelow z2 hbb z2.lt
          have e2 := z2'.cell
          have g2 := z2'.frozen
          gi_wp2
          exact ⟨(KeepsFrom.of_below hbb).trans ((KeepsOthers.setCell _ _ _).from _), ⟨rfl, ⟨x, hok⟩, z2'.set _⟩, (hBW.trans (hbb.mono hBW.size)).setCell (p := ⟨w.heap.size + 2, 0, none⟩) (by simp) _⟩
      case done =>
        rintro D W hD ⟨⟨hp, z1, z2⟩, hBW⟩ hK
        have e2 := z2.cell
        have g2 := z2.frozen
        gi_wp2
        have hK' := (KeepsOthers.setCell W ⟨w.heap.size + 2, 0, none⟩ (.int .i64 0)).same D _ hK rfl
        refine ⟨by simp, .inl ⟨_, _, rfl, run_takeDeferred hK', ?_⟩⟩
        have hc5 := (bxPut (z2.set (.int .i64 0)) hK').cell
        refine ⟨.int .i64 0, ?_, ?_, below_put (hBW.setCell (p := ⟨w.heap.size + 2, 0, none⟩) (by simp) _) hK' (by simp at hD; omega)⟩
        · simp [results, Tryz.results52, go_sem, hc5]
        · refine ret_int ?_
          unfold statedF
          rw [if_neg (by rw [Hch.out]; simp), if_neg (by rw [h1.len, h2.len]; simp), if_pos (stateOk_true fun i hi => hp ⟨i, by rw [← h1.len]; exact hi⟩ (by simp))]
      case stop =>
        rintro D c' pre W hD - ⟨⟨rfl, ⟨i, hi⟩, z2⟩, hBW⟩ hK
        gi_wp2
        refine ⟨by simp, .inl ⟨_, _, rfl, run_takeDeferred hK, ?_⟩⟩
        have hc5 := (bxPut z2 hK).cell
        refine ⟨.int .i64 3, ?_, ?_, below_put hBW hK (by simp at hD; omega)⟩
        · simp [results, Tryz.results52, go_sem, hc5]
        · refine ret_int ?_
          unfold statedF
          rw [if_neg (by rw [Hch.out]; simp), if_neg (by rw [h1.len, h2.len]; simp), if_neg (by rw [stateOk_false (by rw [h1.len]; exact i.2) hi]; simp)]
    · have hnm : ((m : Int) != (n : Int)) = true := by rw [bne_iff_ne]; omega
      gi_wp2_with (fail)
      have hc5 := (y2.set (.int .i64 15)).cell
      refine ⟨.int .i64 15, ?_, ?_, hB.setCell (p := ⟨w.heap.size + 2, 0, none⟩) (by simp) _⟩
      · simp [results, Tryz.results52, go_sem, hc5]
      · refine ret_int ?_
        unfold statedF
        rw [if_neg (by rw [Hch.out]; simp), if_pos (by rw [h1.len, h2.len]; exact hl)]
  · have hb' : (checkHallF ts != 0) = true := by simp [hch]
    have Hch := Lib.hid hch
    clear hch
    gi_wp2_with (fail)
    have hc5 := (y2.set (.int .i64 (checkHallF ts))).cell
    refine ⟨.int .i64 (checkHallF ts), ?_, ?_, hB.setCell (p := ⟨w.heap.size + 2, 0, none⟩) (by simp) _⟩
    · simp [results, Tryz.results52, go_sem, hc5]
    · refine ret_int ?_
      unfold statedF
      rw [if_pos Hch.out]
end Go.Proofs.YthjgecblkagelaaGreat

/- Iterators that keep variables of their own: who may turn what. Each block that the iterator has made since its call is its own (X); the round leaves those, and what is protected (C), as they are; the iterator turns its own blocks alone. -/
namespace Go.Proofs.YthjgecblkagelaaGreat
open Go.RowKit Go.Shelf

/-- From W to W' only blocks of X have been turned, or such as hold no cells and lie at or beyond B. -/
structure St (B : Nat) (X : Nat → Prop) (W W' : World) : Prop where
  base : Below 0 W W'
  same : ∀ k o, W.heap[k]? = some o → ¬ X k → (o.isCells = true ∨ k < B) → W'.heap[k]? = some o
def Grows (X X' : Nat → Prop) (W : World) : Prop := (∀ k, X k → X' k) ∧ ∀ k, X' k → X k ∨ W.heap.size ≤ k
def Stable {α : Type} (B : Nat) (J : List α → (Nat → Prop) → World → Prop) : Prop := ∀ pre X X' W W', J pre X W → St B X W W' → Grows X X' W → J pre X' W'
/-- A round leaves the iterator's blocks, and the protected ones, as they are. -/
structure Keep (n₀ : Nat) (C X : Nat → Prop) (W W' : World) : Prop where
  below : Below n₀ W W'
  same : ∀ k o, W.heap[k]? = some o → (X k ∨ C k) → W'.heap[k]? = some o
def noBlock : Nat → Prop := fun _ => False

section
variable {α : Type} {B n₀ : Nat} {C X X' : Nat → Prop} {W W' W'' : World}
theorem Grows.refl (X : Nat → Prop) (W : World) : Grows X X W := ⟨fun _ h => h, fun _ h => .inl h⟩
theorem Keep.refl (W : World) : Keep n₀ C X W W := ⟨Below.refl _ _, fun _ _ h _ => h⟩
theorem Keep.trans (h : Keep n₀ C X W W') (k : Keep n₀ C X W' W'') : Keep n₀ C X W W'' := ⟨h.below.trans k.below, fun i o hi hc => k.same i o (h.same i o hi hc) hc⟩
theorem Keep.of_below (h : Below W.heap.size W W') (hn : n₀ ≤ W.heap.size) : Keep n₀ C X W W' := ⟨h.mono hn, fun k _ hk _ => (h.block k (Array.getElem?_eq_some_iff.1 hk).1).trans hk⟩
theorem Keep.setCell {b : Nat} (hn : n₀ ≤ b) (hX : ¬ X b) (hC : ¬ C b) (o : Nat) (u : Value) : Keep n₀ C X W (W.setCell ⟨b, o, none⟩ u) :=
  ⟨(Below.refl _ _).setCell (p := ⟨b, o, none⟩) hn _, fun k v hk hc => (Below.heap_setCell W ⟨b, o, none⟩ u k (by rintro rfl; rcases hc with h | h; exact hX h; exact hC h)).trans hk⟩
theorem Keep.putObj {b : Nat} {o : Obj} (hn : n₀ ≤ b) (hX : ¬ X b) (hC : ¬ C b) (hb : b < W.heap.size) : Keep n₀ C X W (W.putObj b o) :=
  ⟨(Below.refl _ _).grown (grownBy_putObj' W b o) (by omega) (fun k e => by cases e; exact hn), fun k v hk hc => (World.putObj_heap_other (by rintro rfl; rcases hc with h | h; exact hX h; exact hC h)).trans hk⟩
theorem St.of_below (h : Below W.heap.size W W') : St B X W W' := ⟨h.mono (Nat.zero_le _), fun k _ hk _ _ => (h.block k (Array.getElem?_eq_some_iff.1 hk).1).trans hk⟩
theorem St.refl (W : World) : St B X W W := St.of_below (Below.refl _ _)
theorem St.alloc (W : World) (o : Obj) : St B X W (W.alloc o) := St.of_below ((Below.refl _ _).alloc (Nat.le_refl _) _)
theorem St.putObj {l : Nat} {o o' : Obj} (hl : W.heap[l]? = some o) (ho : o.isCells = false) (hB : B ≤ l) : St B X W (W.putObj l o') :=
  ⟨(Below.refl 0 W).grown (grownBy_putObj' W l o') (Nat.zero_le _) (fun _ _ => Nat.zero_le _), fun k v hk _ hc => by
    by_cases hkl : k = l
    · subst hkl
      rw [hl] at hk
      cases hk
      rcases hc with h | h
      · rw [ho] at h; cases h
      · omega
    · exact (World.putObj_heap_other hkl).trans hk⟩
theorem St.mono {B' : Nat} (h : St B X W W') (hB : B' ≤ B) : St B' X W W' := ⟨h.base, fun k o hk hX hc => h.same k o hk hX (hc.imp id (fun h => by omega))⟩
theorem Stable.put {J : List α → (Nat → Prop) → World → Prop} (h : Stable B J) {pre : List α} {l : Nat} {o : Obj} (o' : Obj) (hs : J pre X W) (hB : B ≤ l) (hl : W.heap[l]? = some o) (ho : o.isCells = false) : J pre X (W.putObj l o') :=
  h _ _ _ _ _ hs (St.putObj hl ho hB) (Grows.refl _ _)
end

def IterAt {α : Type} (P : Program) (g : Nat) (lb : Array Value) (encs : α → Array Value) (n₀ : Nat) (C : Nat → Prop) (S Sp : List α → Prop) (N : Nat) (w0 : World) : Prop :=
  ∀ (l : Nat) (J Jx : List α → (Nat → Prop) → World → Prop) (W : World), Below w0.heap.size w0 W → Stable W.heap.size J → Stable W.heap.size Jx →
    (∀ pre x X W1, J pre X W1 → W.heap.size ≤ W1.heap.size → (∀ k, X k → k < W1.heap.size) → pre.length < N → YieldAt Fence.wide 1 P l (encs x) W1 fun e W' =>
      ((e = .returned (.bool true) ∧ J (pre ++ [x]) X W') ∨ (e = .returned (.bool false) ∧ Jx (pre ++ [x]) X W')) ∧ Keep n₀ C X W1 W' ∧ KeepsFrom W.heap.size W1 W') →
    J [] noBlock W →
    Calls P g (#[.func (.yield l) #[] #[]] ++ lb) W fun e W' => (∃ v, e = .returned v) ∧ ∃ X, (∃ xs, S xs ∧ J xs X W') ∨ (∃ pre, Sp pre ∧ Jx pre X W')

def itPost {α : Type} (B n₀ : Nat) (C X : Nat → Prop) (I : List α → (Nat → Prop) → World → Prop) (Ix : Code → List α → (Nat → Prop) → World → Prop) (xs : List α) (W : World) : Exit → Act → World → Prop
  | .normal, _, W' => KeepsFrom B W W' ∧ Keep n₀ C X W W' ∧ I xs X W'
  | .ret, _, W' => KeepsFrom B W W' ∧ Keep n₀ C X W W' ∧ Ix .ret xs X W'
  | .exit id, _, W' => KeepsFrom B W W' ∧ Keep n₀ C X W W' ∧ Ix (.exit id) xs X W'
  | .goto t, _, W' => KeepsFrom B W W' ∧ Keep n₀ C X W W' ∧ Ix (.goto t) xs X W'
  | .panic _, _, _ => False
  | .outgrown, _, _ => False

theorem KeepsFrom.up {B B' : Nat} {W W' : World} (h : KeepsFrom B W W') (hB : B ≤ B') : KeepsFrom B' W W' := ⟨h.size, fun k o hk => h.same k o (by omega)⟩
theorem KeepsFrom.put {B : Nat} {W : World} {l : Nat} {o : Obj} (hl : l < B) : KeepsFrom B W (W.putObj l o) := ⟨by simp, fun k v hk h _ => (World.putObj_heap_other (by omega)).trans h⟩

set_option maxHeartbeats 1000000 in
theorem range_iter {α : Type} {P : Program} {g : Operand} {ps : Array Tmp} {assign body : Code} {Q : Exit → Act → World → Prop} {a : Act} {w : World} {gf : Nat} {lb : Array Value}
    (hg : a.eval g = .func (.func gf) #[] lb) (eg : ∀ args w, (callFunc gf args).run P w = .ok (.enter gf args) w)
    {encs : α → Array Value} {n₀ : Nat} {C : Nat → Prop} {S Sp : List α → Prop} {N : Nat} {w0 : World} (hseq : IterAt P gf lb encs n₀ C S Sp N w0)
    (hb0 : Below w0.heap.size w0 w) (hC : ∀ k, C k → k < w.heap.size) (hn₀ : n₀ ≤ w.heap.size) (hps : ∀ x, (encs x).size = ps.size)
    (I : List α → (Nat → Prop) → World → Prop) (Ix : Code → List α → (Nat → Prop) → World → Prop) (hI : Stable w.heap.size I) (hIx : ∀ c, Stable w.heap.size (Ix c)) (h0 : I [] noBlock w)
    (Ax : α → Act → World → Prop) (hAx : ∀ x a' W W', Ax x a' W → St w.heap.size noBlock W W' → Ax x a' W')
    (hassign : ∀ (l : Nat) (pre : List α) (x : α) (X : Nat → Prop) (W : World) (K : Act → World → Prop), I pre X W → w.heap.size ≤ W.heap.size → (∀ k, X k → w.heap.size ≤ k ∧ k < W.heap.size) → (∀ a' W', Keep n₀ C X W W' → KeepsFrom w.heap.size W W' → I pre X W' → Ax x a' W' → K a' W') →
      assign.wpIn (Fence.wide.inRound l) 1 P (Exit.then K (fun _ _ _ => False)) { tmps := (ps.zip (encs x)).foldl (fun t (p, v) => t.setIfInBounds p v) a.tmps, defers := [] } W)
    (hbody : ∀ (l : Nat) (pre : List α) (x : α) (X : Nat → Prop) (a' : Act) (W : World), I pre X W → Ax x a' W → w.heap.size ≤ W.heap.size → (∀ k, X k → w.heap.size ≤ k ∧ k < W.heap.size) → pre.length < N → body.wpIn (Fence.wide.inRound l) 1 P (itPost w.heap.size n₀ C X I Ix (pre ++ [x]) W) a' W)
    (hdone : ∀ (D : Nat) (xs : List α) (X : Nat → Prop) (W : World), w.heap.size ≤ D → S xs → I xs X W → W.heap[D]? = some (.deferred (some [])) → Q .normal { a with defers := { target := .collected D, args := #[] } :: a.defers } W)
    (hstop : ∀ (D : Nat) (c : Code) (pre : List α) (X : Nat → Prop) (W : World), w.heap.size ≤ D → Sp pre → Ix c pre X W → W.heap[D]? = some (.deferred (some [])) → c.wpIn Fence.wide 3 P Q { a with defers := { target := .collected D, args := #[] } :: a.defers } W) :
    (Code.rangeFunc g ps assign body).wpIn Fence.wide 3 P Q a w := by
  refine wpIn_rangeFunc ?_
  intro fn _
  obtain ⟨rec, hrec⟩ : ∃ rec : LoopState → Option Code → Loop, rec = fun st pe => { state := st, pending := pe, fn, tmps := a.tmps, params := ps, assign, body, defers := w.heap.size } := ⟨_, rfl⟩
  obtain ⟨W1, hW1⟩ : ∃ W1, (w.alloc (.deferred (some []))).alloc (.loop (rec .ready none)) = W1 := ⟨_, rfl⟩
  have hs1 : W1.heap.size = w.heap.size + 2 := by rw [← hW1]; simp
  have hL1 : W1.heap[w.heap.size + 1]? = some (.loop (rec .ready none)) := by
    rw [← hW1]; have := World.alloc_heap_new (w.alloc (.deferred (some []))) (.loop (rec .ready none)); rwa [World.size_alloc] at this
  have hK1 : W1.heap[w.heap.size]? = some (.deferred (some [])) := by
    rw [← hW1]; exact (Below.heap_alloc _ _ _ (by simp)).trans (World.alloc_heap_new w _)
  have hI1 : I [] noBlock W1 := by
    rw [← hW1]
    exact hI _ _ _ _ _ (hI _ _ _ _ _ h0 (St.alloc _ _) (Grows.refl _ _)) (St.alloc _ _) (Grows.refl _ _)
  have hb1 : Below w0.heap.size w0 W1 := by
    rw [← hW1]; exact hb0.trans ((((Below.refl _ w).alloc (Nat.le_refl _) _).alloc (by simp) _).mono hb0.size)
  refine ⟨w.heap.size + 1, [{ target := .collected w.heap.size, args := #[] }], W1, { target := .fn (.func gf) lb, args := #[.func (.yield (w.heap.size + 1)) #[] #[]] }, W1, gf,
    #[.func (.yield (w.heap.size + 1)) #[] #[]] ++ lb, W1, ?_, ?_, ?_, ?_, fun _ => by omega, ?_⟩
  · rw [← hW1, hrec]; exact run_enterLoop_outer _ _ _ _ _
  · simp only [resolve, hg]
    simp [go_sem]
  · intro f' _; trivial
  · simp [invoke, go_sem, eg]
  · refine callsIn_wide.2 ((hseq (w.heap.size + 1)
      (fun pre X W => W1.heap.size ≤ W.heap.size ∧ I pre X W ∧ (∀ k, X k → W1.heap.size ≤ k) ∧ W.heap[w.heap.size + 1]? = some (.loop (rec .ready none)) ∧ W.heap[w.heap.size]? = some (.deferred (some [])))
      (fun pre X W => ∃ c, W1.heap.size ≤ W.heap.size ∧ Ix c pre X W ∧ W.heap[w.heap.size + 1]? = some (.loop (rec .done (some c))) ∧ W.heap[w.heap.size]? = some (.deferred (some [])) ∧ (∀ k, X k → W1.heap.size ≤ k))
      W1 hb1 ?_ ?_ ?_ ⟨Nat.le_refl _, hI1, fun _ h => h.elim, hL1, hK1⟩).mono ?_)
    · rintro pre X X' A B ⟨hz, hi, hx, hl, hk⟩ hst hgr
      have hz' := hst.base.size
      refine ⟨by omega, hI _ _ _ _ _ hi (hst.mono (by omega)) hgr, ?_, hst.same _ _ hl (fun h => by have := hx _ h; omega) (.inr (by omega)), hst.same _ _ hk (fun h => by have := hx _ h; omega) (.inr (by omega))⟩
      intro k h
      rcases hgr.2 k h with h | h
      · exact hx k h
      · omega
    · rintro pre X X' A B ⟨c, hz, hi, hl, hk, hx⟩ hst hgr
      have hz' := hst.base.size
      refine ⟨c, by omega, hIx c _ _ _ _ _ hi (hst.mono (by omega)) hgr, hst.same _ _ hl (fun h => by have := hx _ h; omega) (.inr (by omega)), hst.same _ _ hk (fun h => by have := hx _ h; omega) (.inr (by omega)), ?_⟩
      intro k h
      rcases hgr.2 k h with h | h
      · exact hx k h
      · omega
    · rintro pre x X W ⟨hz, hi, hx, hl, hk⟩ hsz hup hlen
      have hy := run_yield (P := P) (args := encs x) hl (by rw [hrec]; exact hps x)
      rw [hrec] at hy
      have hxw : ∀ k, X k → w.heap.size ≤ k ∧ k < W.heap.size := fun k h => ⟨by have := hx k h; omega, hup k h⟩
      have hXl : ¬ X (w.heap.size + 1) := fun h => by have := hx _ h; omega
      have hCl : ¬ C (w.heap.size + 1) := fun h => by have := hC _ h; omega
      refine ⟨fn, _, assign, body, hy, roundIn_of_wpIn trivial (hassign _ pre x X W _ hi (by omega) hxw ?_)⟩
      clear hy
      intro a' Wa hka hfa hia hax
      have hla := hfa.same _ _ (by omega) hl rfl
      have hda := hfa.same _ _ (Nat.le_refl _) hk rfl
      have hlta : w.heap.size + 1 < Wa.heap.size := (Array.getElem?_eq_some_iff.1 hla).1
      refine ⟨_, run_beginRound hla (by rw [hrec]), ?_⟩
      obtain ⟨Wb, hWb⟩ : ∃ Wb, Wb = Wa.putObj (w.heap.size + 1) (.loop { rec .ready none with state := .busy }) := ⟨_, rfl⟩
      rw [← hWb]
      have hlb : Wb.heap[w.heap.size + 1]? = some (.loop { rec .ready none with state := .busy }) := by rw [hWb]; exact World.putObj_heap_same hlta
      have hdb : Wb.heap[w.heap.size]? = some (.deferred (some [])) := by rw [hWb]; exact (World.putObj_heap_other (by omega)).trans hda
      have hkb : Keep n₀ C X W Wb := by rw [hWb]; exact hka.trans (Keep.putObj (by omega) hXl hCl hlta)
      have hfb : KeepsFrom W1.heap.size W Wb := by rw [hWb]; exact (KeepsFrom.up hfa (by omega)).trans (KeepsFrom.put (by omega))
      have hszb : w.heap.size ≤ Wb.heap.size := by rw [hWb]; simp; omega
      have hib : I pre X Wb := by rw [hWb]; exact hI.put _ hia (by omega) hla rfl
      have haxb : Ax x a' Wb := by rw [hWb]; exact hAx _ _ _ _ hax (St.putObj hla rfl (by omega))
      refine wpIn_mono (hbody _ pre x X a' Wb hib haxb hszb (fun k h => ⟨(hxw k h).1, Nat.lt_of_lt_of_le (hxw k h).2 hkb.below.size⟩) hlen) ?_
      have fin : ∀ (jump : Option Code) (W3 : World), KeepsFrom w.heap.size Wb W3 → Keep n₀ C X Wb W3 →
          (Instr.endRound (w.heap.size + 1) jump).run P W3 = .ok (.bool jump.isNone) (W3.putObj (w.heap.size + 1) (.loop (rec (if jump.isNone then .ready else .done) jump))) ∧
          W3.heap[w.heap.size + 1]? = some (.loop { rec .ready none with state := .busy }) ∧
          (W3.putObj (w.heap.size + 1) (.loop (rec (if jump.isNone then .ready else .done) jump))).heap[w.heap.size + 1]? = some (.loop (rec (if jump.isNone then .ready else .done) jump)) ∧
          (W3.putObj (w.heap.size + 1) (.loop (rec (if jump.isNone then .ready else .done) jump))).heap[w.heap.size]? = some (.deferred (some [])) ∧
          Keep n₀ C X W (W3.putObj (w.heap.size + 1) (.loop (rec (if jump.isNone then .ready else .done) jump))) ∧
          KeepsFrom W1.heap.size W (W3.putObj (w.heap.size + 1) (.loop (rec (if jump.isNone then .ready else .done) jump))) := fun jump W3 hk3 hkk3 => by
        have hl3 := hk3.same _ _ (by omega) hlb rfl
        have hlt3 : w.heap.size + 1 < W3.heap.size := (Array.getElem?_eq_some_iff.1 hl3).1
        have he := run_endRound (P := P) jump hl3
        refine ⟨?_, hl3, World.putObj_heap_same hlt3, (World.putObj_heap_other (by omega)).trans (hk3.same _ _ (Nat.le_refl _) hdb rfl), (hkb.trans hkk3).trans (Keep.putObj (by omega) hXl hCl hlt3), (hfb.trans (KeepsFrom.up hk3 (by omega))).trans (KeepsFrom.put (by omega))⟩
        rw [hrec] at he ⊢
        exact he
      rintro e a3 W3 hp
      cases e with
      | normal =>
        obtain ⟨hk3, hkp3, hi3⟩ := hp
        have hz3 := hkp3.below.size
        have hz2 := hkb.below.size
        obtain ⟨hr, hl3, hl4, hk4, h5, h6⟩ := fin none W3 hk3 hkp3
        exact ⟨_, _, hr, .inl ⟨rfl, by simp; omega, hI.put _ hi3 (by omega) hl3 rfl, hx, hl4, hk4⟩, h5, h6⟩
      | ret =>
        obtain ⟨hk3, hkp3, hi3⟩ := hp
        have hz3 := hkp3.below.size
        have hz2 := hkb.below.size
        obtain ⟨hr, hl3, hl4, hk4, h5, h6⟩ := fin (some .ret) W3 hk3 hkp3
        exact ⟨_, _, hr, .inr ⟨rfl, .ret, by simp; omega, (hIx _).put _ hi3 (by omega) hl3 rfl, hl4, hk4, hx⟩, h5, h6⟩
      | exit id =>
        obtain ⟨hk3, hkp3, hi3⟩ := hp
        have hz3 := hkp3.below.size
        have hz2 := hkb.below.size
        obtain ⟨hr, hl3, hl4, hk4, h5, h6⟩ := fin (some (.exit id)) W3 hk3 hkp3
        exact ⟨_, _, hr, .inr ⟨rfl, .exit id, by simp; omega, (hIx _).put _ hi3 (by omega) hl3 rfl, hl4, hk4, hx⟩, h5, h6⟩
      | goto t =>
        obtain ⟨hk3, hkp3, hi3⟩ := hp
        have hz3 := hkp3.below.size
        have hz2 := hkb.below.size
        obtain ⟨hr, hl3, hl4, hk4, h5, h6⟩ := fin (some (.goto t)) W3 hk3 hkp3
        exact ⟨_, _, hr, .inr ⟨rfl, .goto t, by simp; omega, (hIx _).put _ hi3 (by omega) hl3 rfl, hl4, hk4, hx⟩, h5, h6⟩
      | panic ch => exact hp.elim
      | outgrown => exact hp.elim
    · rintro e W2 ⟨⟨v, rfl⟩, X, (⟨xs, hS, -, hi, hx, hl, hk⟩ | ⟨pre, hSp, c, -, hi, hl, hk, hx⟩)⟩
      · exact ⟨none, _, by have := run_endLoop (P := P) hl (by rw [hrec]; simp); rw [hrec] at this; exact this, hdone _ xs X _ (Nat.le_refl _) hS (hI.put _ hi (by omega) hl rfl) ((World.putObj_heap_other (by omega)).trans hk)⟩
      · exact ⟨some c, _, by have := run_endLoop (P := P) hl (by rw [hrec]; simp); rw [hrec] at this; exact this, hstop _ c pre X _ (Nat.le_refl _) hSp ((hIx c).put _ hi (by omega) hl rfl) ((World.putObj_heap_other (by omega)).trans hk)⟩
end Go.Proofs.YthjgecblkagelaaGreat
