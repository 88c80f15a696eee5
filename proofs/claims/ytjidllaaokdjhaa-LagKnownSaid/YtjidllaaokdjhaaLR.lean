/- lag: where a row breaks a curve. -/
import Derived.Test.YtjidllaaokdjhaaLQ
import Derived.Lib.SliceRun
namespace Go.Proofs.Ytjidllaaokdjhaa
open Go.RowKit Go.Shelf

attribute [local go_sem] Oper.semAt_some

theorem cleared {g D : Nat} {w0 : World} (hD : D ≤ g) : ∀ (m o : Nat) (W : World) (row : List Int), RowZ W g row → (∀ j, j < o → row[j]?.getD 0 = 0) → o + m = row.length → Below D w0 W →
    RowZ (W.setCells g o (List.replicate m (.int .i64 0))) g (List.replicate row.length 0) ∧ Below D w0 (W.setCells g o (List.replicate m (.int .i64 0))) ∧ ∀ k, k ≠ g → (W.setCells g o (List.replicate m (.int .i64 0))).heap[k]? = W.heap[k]?
  | 0, o, W, row, h, h0, hl, hb => by
    refine ⟨?_, hb, fun _ _ => rfl⟩
    have e : row = List.replicate row.length 0 := List.ext_getElem (by simp) fun i h1 h2 => by
      have := h0 i (by omega)
      rw [List.getElem?_eq_getElem h1] at this
      simpa using this
    show RowZ W g _
    rw [← e]
    exact h
  | m + 1, o, W, row, h, h0, hl, hb => by
    have h1 := h.set o 0
    have hb1 : Below D w0 (W.setCell ⟨g, o, none⟩ (.int .i64 0)) := hb.setCell (p := ⟨g, o, none⟩) hD _
    obtain ⟨a, b, c⟩ := cleared hD m (o + 1) _ (row.set o 0) h1 (fun j hj => by
      rw [List.getElem?_set]
      split
      · split <;> rfl
      · exact h0 j (by omega)) (by rw [List.length_set]; omega) hb1
    rw [List.length_set] at a
    exact ⟨a, b, fun k hk => (c k hk).trans (Below.heap_setCell W ⟨g, o, none⟩ _ k hk)⟩
theorem run_clear_row (W : World) (ty : TypeId) (g N : Nat) (row : List Int) (h : RowZ W g row) (hN : row.length = N) (h0 : 0 < N) :
    (Builtin.clear_ #[77] ty #[.slice (some ⟨g, 0, none⟩) N N]).run Try.prog W = .ok (.tuple #[]) (W.setCells g 0 (List.replicate N (.int .i64 0))) := by
  obtain ⟨i0, hi, hz0, hz1, hz2⟩ := info_parts infoI64
  exact Lib.run_clear_slice (P := Try.prog) W 77 2 ty (.int .i64 0) Try.underlying77 (fun w => by simp [zeroValue, typeInfo, hi, hz0]) rfl rfl g 0 N N h0
    (fun j hj => by rw [Nat.zero_add, h.cell (by omega)]; rfl) (fun j _ => h.frozen)
/-- The first number of turns at which the sums are more than the most. -/
def overAt (most fill : List Int) (n : Nat) : Option Nat := (List.range (n + 1)).find? fun l => decide (most[l]?.getD 0 < fill[l]?.getD 0)
def brkAt (xs most : List Int) (k : Nat) : Option Nat := overAt most (fillR (xs.length + 1) (xs.drop k) (xs.length - k)) xs.length
def brkN (xs most : List Int) : Nat → Nat → Option (Nat × Nat)
  | _, 0 => none
  | k, m + 1 => match brkAt xs most k with
    | some l => some (k, l)
    | none => brkN xs most (k + 1) m
/-- The first turns at which a row breaks. -/
def brkF (xs most : List Int) : Option (Nat × Nat) := brkN xs most 0 xs.length
def brkV : Option (Nat × Nat) → Value
  | none => .tuple #[.int .i64 0, .int .i64 0, .bool false]
  | some (k, l) => .tuple #[.int .i64 (k : Int), .int .i64 (l : Int), .bool true]
theorem Row60.drop {xs : List Int} (h : Row60 xs) (k : Nat) : Row60 (xs.drop k) := by
  refine ⟨by rw [List.length_drop]; have := h.1; omega, fun j hj => ?_⟩
  rw [List.getElem?_drop]
  rw [List.length_drop] at hj
  exact h.2 (k + j) (by omega)
theorem overAt_some {most fill : List Int} {n l : Nat} (hl : l < n + 1) (h : most[l]?.getD 0 < fill[l]?.getD 0) (hall : ∀ j, j < l → ¬ most[j]?.getD 0 < fill[j]?.getD 0) : overAt most fill n = some l := by
  unfold overAt
  rw [List.find?_range_eq_some]
  exact ⟨decide_eq_true h, List.mem_range.2 hl, fun j hj => by simpa using hall j hj⟩
theorem overAt_none {most fill : List Int} {n : Nat} (hall : ∀ j, j < n + 1 → ¬ most[j]?.getD 0 < fill[j]?.getD 0) : overAt most fill n = none := by
  unfold overAt
  rw [List.find?_range_eq_none]
  intro j hj
  simpa using hall j hj
theorem breaks_results (W : World) (tmps : Array Value) (a b c : Value) (h4 : tmps.getD 4 undef = a) (h5 : tmps.getD 5 undef = b) (h6 : tmps.getD 6 undef = c) :
    (results Try.f72 tmps).run Try.prog W = .ok (.tuple #[a, b, c]) W := by
  simp only [Array.getD_eq_getD_getElem?] at h4 h5 h6
  simp [results, Try.results72, go_sem, h4, h5, h6]
set_option maxRecDepth 100000 in
set_option maxHeartbeats 16000000 in
theorem breaks_any (w : World) (A : Option Addr) (n c : Nat) (q : Nat → Int) (hv : Nums (fewL q)) (B : Nat) (A2 : Option Addr) (m c2 : Nat) (xs : List Int) (hx : IntsAt w B A2 m xs) (hB : B ≤ w.heap.size) (hr : Row60 xs) (hc : m ≤ c2) :
    Calls Try.prog 72 #[srcV A n c q, .slice A2 m c2] w fun e w' => e = .returned (brkV (brkF xs (sumsT (fewL q) m))) ∧ Below w.heap.size w w' := by
  have hm := hx.len
  have hm60 : m ≤ 60 := by have := hr.1; omega
  have hmks : ∀ W : World, (Instr.makeSlice 77 (.int .i64 ((m : Int) + 1)) (.int .i64 ((m : Int) + 1))).run Try.prog W = .ok (.slice (some ⟨W.heap.size, 0, none⟩) (m + 1) (m + 1)) (W.alloc (.cells ((List.replicate (m + 1) (0 : Int)).map (Value.int .i64)).toArray 2)) := fun W => by
    have := made_row (W := W) (N := m + 1) (by omega)
    rwa [show ((m + 1 : Nat) : Int) = (m : Int) + 1 by simp] at this
  obtain ⟨mc, hmc⟩ : ∃ mc, mc = ((List.replicate (m + 1) (0 : Int)).map (Value.int .i64)).toArray := ⟨_, rfl⟩
  rw [← hmc] at hmks
  have hwm : IntKind.i64.wrap ((m : Int) + 1) = (m : Int) + 1 := by rw [IntKind.wrap_i64]; omega
  obtain ⟨V, hV⟩ : ∃ V, V = w.alloc (.cells (srcC A n c q) 81) := ⟨_, rfl⟩
  have hb0 : Below w.heap.size w V := by rw [hV]; exact (Below.refl _ w).alloc (Nat.le_refl _) _
  have x2 : SrcAt V w.heap.size A n c q := by rw [hV]; exact SrcAt.new w A n c q
  obtain ⟨r, hre⟩ : ∃ r, r = brkF xs (sumsT (fewL q) m) := ⟨_, rfl⟩
  rw [← hre]
  have H := Lib.hid (And.intro hv (And.intro hr (And.intro hm (And.intro hre hmc))))
  clear hv hr hm hre hmc
  go_enter Try.func72, Try.ntmps72
  go_wp2_with (fail)
  rw [← hV]
  obtain ⟨p0, p1, p2, p3, p4, p5, p6, p7⟩ := x2.cells
  clear hV x2
  refine wp_scope_straight ?_
  go_wp2_with (fail)
  clear p0 p1 p2 p3 p4 p5 p6 p7
  refine (most_any V A n c m q H.out.1 (by omega)).mono ?_
  rintro e W1 ⟨gm, hgm, rfl, hmost, hb1⟩
  have hz0 := hb0.size
  have hB1 : Below w.heap.size w W1 := hb0.trans (hb1.mono hz0)
  have hml : (sumsT (fewL q) m).length = m + 1 := sumsT_len _ _
  obtain ⟨ms, hms⟩ : ∃ ms, ms = sumsT (fewL q) m := ⟨_, rfl⟩
  rw [← hms] at hmost hml
  have Hms := Lib.hid (And.intro hms hml)
  have hgz := hmost.lt
  have hb2 : Below w.heap.size w (W1.alloc (.cells mc 2)) := hB1.alloc hB1.size _
  have hmost2 := hmost.alloc (.cells mc 2)
  have hsum : RowZ (W1.alloc (.cells mc 2)) W1.heap.size (List.replicate (m + 1) 0) := by rw [RowZ, World.alloc_heap_new, H.out.2.2.2.2]
  clear hb1 hB1 hms hml hmost
  go_wp2_with (fail)
  refine wp_label ?_
  go_wp2_with (fail)
  obtain ⟨gs, hgs⟩ : ∃ gs, gs = W1.heap.size := ⟨_, rfl⟩
  rw [← hgs] at hsum hgz ⊢
  have hgs0 : w.heap.size ≤ gs := by rw [hgs]; omega
  obtain ⟨V2, hV2⟩ : ∃ V2, V2 = W1.alloc (.cells mc 2) := ⟨_, rfl⟩
  rw [← hV2] at hb2 hmost2 hsum ⊢
  clear hV2 hgs hgm hmks hwm hb0 hz0
  go_loopw [4, 5, 6, 22] (fun v4 v5 v6 i wr => ∃ (k : Nat) (row : List Int), (k ≤ m ∧ i = .int .i64 (k : Int) ∧ v4 = .int .i64 0 ∧ v5 = .int .i64 0 ∧ v6 = .bool false) ∧ RowZ wr gm ms ∧ RowZ wr gs row ∧ Hid (row.length = m + 1) ∧ Below w.heap.size w wr ∧ Hid (brkN xs ms k (m - k) = r)) (fun _ _ _ i _ => m - (intOf i).toNat)
  case atStart => exact ⟨0, _, ⟨by omega, rfl, rfl, rfl, rfl⟩, hmost2, hsum, Lib.hid (by simp), hb2, Lib.hid (by rw [H.out.2.2.2.1, Hms.out.1]; unfold brkF; rw [H.out.2.2.1]; rfl)⟩
  case round =>
    clear hmost2 hsum hb2
    obtain ⟨k, row, ⟨hk, rfl, rfl, rfl, rfl⟩, ym, ys, yl, yb, yr⟩ := hrel
    by_cases hlt : k < m
    case neg =>
      have hkm : m - k = 0 := by omega
      have hr := yr.out
      rw [hkm] at hr
      have Hr := Lib.hid hr
      clear hr hkm
      go_wp2_with (fail)
      simp only [Exit.noGoto]
      refine bodyPost_ret (v := .tuple #[.int .i64 0, .int .i64 0, .bool false]) (breaks_results _ _ _ _ _ (by simp) (by simp) (by simp)) rfl ?_
      exact ⟨by rw [← Hr.out]; rfl, yb⟩
    case pos =>
      have hcl := run_clear_row wr 0 gs (m + 1) row ys yl.out (by omega)
      obtain ⟨z1, z2, z3⟩ := cleared (D := w.heap.size) (w0 := w) hgs0 (m + 1) 0 wr row ys (fun j hj => by omega) (by rw [yl.out]; omega) yb
      rw [yl.out] at z1
      obtain ⟨W2, hW2⟩ : ∃ W2, W2 = wr.setCells gs 0 (List.replicate (m + 1) (.int .i64 0)) := ⟨_, rfl⟩
      rw [← hW2] at hcl z1 z2 z3
      have zm : RowZ W2 gm ms := (z3 gm (by omega)).trans ym
      clear hW2 z3
      obtain ⟨b, o, rfl, lb, -⟩ := hx.cell hlt
      have hxd := (hx.below z2 hB).drop (k := k) (by omega)
      go_wp2_with (fail)
      refine (fill_any W2 gs (m + 1) (m + 1) B (some ⟨b, o + k, none⟩) (m - k) (c2 - k) (xs.drop k) z1 hxd (by omega) (H.out.2.1.drop k) (by omega) (by omega)).mono ?_
      rintro e W3 ⟨rfl, y1, y2, -, y3⟩
      have hB3 : Below w.heap.size w W3 := z2.trans (y2.mono hgs0)
      have v1 : RowZ W3 gs (fillR (m + 1) (xs.drop k) (m - k)) := y1
      have vm : RowZ W3 gm ms := (y3 gm (by omega)).trans zm
      have hbk : brkAt xs ms k = overAt ms (fillR (m + 1) (xs.drop k) (m - k)) m := by unfold brkAt; rw [H.out.2.2.1]
      have hfl : (fillR (m + 1) (xs.drop k) (m - k)).length = m + 1 := fillR_len _ _ _
      obtain ⟨fl, hfle⟩ : ∃ fl, fl = fillR (m + 1) (xs.drop k) (m - k) := ⟨_, rfl⟩
      rw [← hfle] at v1 hbk hfl
      have hstep : r = match overAt ms fl m with | some l => some (k, l) | none => brkN xs ms (k + 1) (m - (k + 1)) := by
        rw [← yr.out, show m - k = (m - (k + 1)) + 1 by omega, ← hbk]
        rfl
      have Hs := Lib.hid (And.intro hstep hfl)
      clear hcl z1 z2 zm ys yl yb ym hxd y1 y2 y3 hbk hfl hfle hstep
      have hwk : IntKind.i64.wrap ((k : Int) + 1) = (k : Int) + 1 := by rw [IntKind.wrap_i64]; omega
      go_wp2_with (fail)
      go_loop [4, 5, 6, 33] (fun v4 v5 v6 i => ∃ l : Nat, (l ≤ m + 1 ∧ i = .int .i64 (l : Int) ∧ v4 = .int .i64 0 ∧ v5 = .int .i64 0 ∧ v6 = .bool false) ∧ Hid (∀ j, j < l → ¬ ms[j]?.getD 0 < fl[j]?.getD 0)) (fun _ _ _ i => m + 1 - (intOf i).toNat)
      case atStart => exact ⟨0, ⟨by omega, rfl, rfl, rfl, rfl⟩, Lib.hid (fun j hj => by omega)⟩
      case round =>
        obtain ⟨l, ⟨hl, rfl, rfl, rfl, rfl⟩, hall⟩ := hrel
        by_cases hlm : l < m + 1
        · have e1 := v1.cell (j := l) (by rw [Hs.out.2]; omega)
          have e2 := vm.cell (j := l) (by rw [Hms.out.2]; omega)
          have hl' : (l : Int) < (m : Int) + 1 := by omega
          by_cases hq : ms[l]?.getD 0 < fl[l]?.getD 0
          · have hov := overAt_some hlm hq hall.out
            have hr := Hs.out.1
            rw [hov] at hr
            have Hr := Lib.hid hr
            clear hr hov
            go_wp2_with (fail)
            refine bodyPost_ret (v := .tuple #[.int .i64 (k : Int), .int .i64 (l : Int), .bool true]) (breaks_results _ _ _ _ _ (by simp) (by simp) (by simp)) rfl ?_
            exact ⟨by rw [Hr.out]; rfl, hB3⟩
          · have Hq := Lib.hid hq
            have hwl : IntKind.i64.wrap ((l : Int) + 1) = (l : Int) + 1 := by rw [IntKind.wrap_i64]; omega
            go_wp2_with (fail)
            go_round
            case rel => exact ⟨l + 1, ⟨by omega, by go_num, rfl, rfl, rfl⟩, Lib.hid (fun j hj => by rcases Nat.lt_succ_iff_lt_or_eq.1 hj with h | rfl; exact hall.out j h; exact Hq.out)⟩
            case measure => simp [intOf]; omega
        · have hlm' : ¬ (l : Int) < (m : Int) + 1 := by omega
          have hov := overAt_none (most := ms) (fill := fl) (n := m) (fun j hj => hall.out j (by omega))
          have hr := Hs.out.1
          rw [hov] at hr
          have Hr := Lib.hid hr
          clear hr hov
          go_wp2_with (fail)
          go_roundw
          case rel => exact ⟨k + 1, fl, ⟨by omega, by go_num, rfl, rfl, rfl⟩, vm, v1, Lib.hid Hs.out.2, hB3, Lib.hid Hr.out.symm⟩
          case measure => simp [intOf]; omega
end Go.Proofs.Ytjidllaaokdjhaa
