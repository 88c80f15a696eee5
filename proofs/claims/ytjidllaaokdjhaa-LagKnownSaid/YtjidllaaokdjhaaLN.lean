/- lag: totals of rows; tallies. -/
import Derived.Test.YtjidllaaokdjhaaLM
namespace Go.Proofs.Ytjidllaaokdjhaa
open Go.RowKit Go.Shelf

attribute [local go_sem] Oper.semAt_some

set_option maxRecDepth 100000 in
set_option maxHeartbeats 4000000 in
theorem totalsOf_any (w : World) (B : Nat) (A : Option Addr) (m c : Nat) (xs : List Int) (hx : IntsAt w B A m xs) (hB : B ≤ w.heap.size) (hr : Row60 xs) :
    Calls Try.prog 76 #[.slice A m c] w fun e w' => ∃ g, w.heap.size ≤ g ∧ e = .returned (.slice (some ⟨g, 0, none⟩) (m + 1) (m + 1)) ∧ RowZ w' g (totF xs) ∧ Below w.heap.size w w' := by
  have hm := hx.len
  have hm60 : m ≤ 60 := by have := hr.1; omega
  have hmks : ∀ W : World, (Instr.makeSlice 77 (.int .i64 ((m : Int) + 1)) (.int .i64 ((m : Int) + 1))).run Try.prog W = .ok (.slice (some ⟨W.heap.size, 0, none⟩) (m + 1) (m + 1)) (W.alloc (.cells ((List.replicate (m + 1) (0 : Int)).map (Value.int .i64)).toArray 2)) := fun W => by
    have := made_row (W := W) (N := m + 1) (by omega)
    rwa [show ((m + 1 : Nat) : Int) = (m : Int) + 1 by simp] at this
  have hwm : IntKind.i64.wrap ((m : Int) + 1) = (m : Int) + 1 := by rw [IntKind.wrap_i64]; omega
  obtain ⟨mc, hmc⟩ : ∃ mc, mc = ((List.replicate (m + 1) (0 : Int)).map (Value.int .i64)).toArray := ⟨_, rfl⟩
  rw [← hmc] at hmks
  obtain ⟨V, hV⟩ : ∃ V, V = w.alloc (.cells mc 2) := ⟨_, rfl⟩
  have hb0 : Below w.heap.size w V := by rw [hV]; exact (Below.refl _ w).alloc (Nat.le_refl _) _
  have xr : RowZ V w.heap.size (List.replicate (m + 1) 0) := by
    rw [hV, RowZ, World.alloc_heap_new, hmc]
  have Hr := Lib.hid (And.intro hr hm)
  clear hmc hr hm
  go_enter Try.func76, Try.ntmps76
  go_wp2_with (fail)
  rw [← hV]
  clear hV hmks
  refine (fill_any V w.heap.size (m + 1) (m + 1) B A m c xs xr (hx.below hb0 hB) hB Hr.out.1 (Nat.le_refl _) (by omega)).mono ?_
  rintro e W1 ⟨rfl, hz1, hb1, -, -⟩
  have hB1 := hb0.trans hb1
  have htot : fillR (m + 1) xs m = totF xs := by unfold totF; rw [Hr.out.2]
  rw [htot] at hz1
  clear htot hb0 hb1 xr
  go_wp2_with (fail)
  refine bodyPost_ret (results_tmp rfl _ _ _) rfl ?_
  exact ⟨w.heap.size, Nat.le_refl _, rfl, hz1, hB1⟩

def reachF (ts os : List Int) : Bool := (List.range os.length).all fun j => decide (os[j]?.getD 0 ≤ ts[j]?.getD 0)
theorem reachF_false {ts os : List Int} {k : Nat} (hk : k < os.length) (h : ts[k]?.getD 0 < os[k]?.getD 0) : reachF ts os = false := by
  unfold reachF
  rw [List.all_eq_false]
  exact ⟨k, List.mem_range.2 hk, by simpa using h⟩
theorem reachF_true {ts os : List Int} (h : ∀ k, k < os.length → os[k]?.getD 0 ≤ ts[k]?.getD 0) : reachF ts os = true := by
  unfold reachF
  rw [List.all_eq_true]
  intro k hk
  exact decide_eq_true (h k (List.mem_range.1 hk))
set_option maxHeartbeats 1000000 in
theorem reach_any (w : World) (B1 B2 : Nat) (A1 A2 : Option Addr) (n m c1 c2 : Nat) (ts os : List Int) (h1 : IntsAt w B1 A1 n ts) (h2 : IntsAt w B2 A2 m os) (hmn : m ≤ n) :
    Calls Try.prog 84 #[.slice A1 n c1, .slice A2 m c2] w fun e w' => e = .returned (.bool (reachF ts os)) ∧ w' = w := by
  have hm := h1.small
  have hm2 := h2.small
  go_enter Try.func84, Try.ntmps84
  go_wp2
  go_loop [9] (fun i => ∃ k : Nat, k ≤ m ∧ i = .int .i64 (k : Int) ∧ ∀ j, j < k → os[j]?.getD 0 ≤ ts[j]?.getD 0) (fun i => m - (intOf i).toNat)
  case atStart => exact ⟨0, by omega, rfl, fun j hj => by omega⟩
  case round =>
    obtain ⟨k, hk, rfl, hall⟩ := hrel
    have Hall := Lib.hid hall
    clear hall
    by_cases hlt : k < m
    · obtain ⟨b2, o2, rfl, -, e2⟩ := h2.cell hlt
      obtain ⟨b1, o1, rfl, -, e1⟩ := h1.cell (k := k) (by omega)
      have hkn : k < n := by omega
      by_cases hq : ts[k]?.getD 0 < os[k]?.getD 0
      · go_wp2
        go_ret
        exact ⟨ret_bool (reachF_false (by rw [h2.len]; exact hlt) hq).symm, rfl⟩
      · have Hq := Lib.hid hq
        go_wp2
        go_round
        case rel => exact ⟨k + 1, by omega, by go_num, fun j hj => by rcases Nat.lt_succ_iff_lt_or_eq.1 hj with h | rfl; exact Hall.out j h; have := Hq.out; omega⟩
        case measure => simp [intOf]; omega
    · go_wp2
      go_ret
      exact ⟨ret_bool (reachF_true fun j hj => Hall.out j (by rw [h2.len] at hj; omega)).symm, rfl⟩

/-! ### tallies -/
@[reducible] def talV (A1 A2 : Option Addr) (n1 n2 c1 c2 : Nat) : Value := .agg #[.slice A1 n1 c1, .slice A2 n2 c2]
set_option maxHeartbeats 1000000 in
theorem waiting_any (w : World) (B1 B2 : Nat) (A1 A2 : Option Addr) (n1 n2 c1 c2 k : Nat) (ts os : List Int) (h1 : IntsAt w B1 A1 n1 ts) (h2 : IntsAt w B2 A2 n2 os) (hB1 : B1 ≤ w.heap.size) (hB2 : B2 ≤ w.heap.size) (hk1 : k < n1) (hk2 : k < n2) (_hn1 : n1 ≤ 1000) (_hn2 : n2 ≤ 1000)
    (hb : -1000000000 ≤ ts[k]?.getD 0 - os[k]?.getD 0 ∧ ts[k]?.getD 0 - os[k]?.getD 0 ≤ 1000000000) :
    Calls Try.prog 78 #[talV A1 A2 n1 n2 c1 c2, .int .i64 (k : Int)] w fun e w' => e = .returned (encI (ts[k]?.getD 0 - os[k]?.getD 0)) ∧ Below w.heap.size w w' := by
  obtain ⟨b1, o1, rfl, l1, e1⟩ := h1.cell hk1
  obtain ⟨b2, o2, rfl, l2, e2⟩ := h2.cell hk2
  have l1' : b1 < w.heap.size := by omega
  have l2' : b2 < w.heap.size := by omega
  obtain ⟨x, hxe⟩ : ∃ x, x = ts[k]?.getD 0 := ⟨_, rfl⟩
  obtain ⟨y, hye⟩ : ∃ y, y = os[k]?.getD 0 := ⟨_, rfl⟩
  rw [← hxe] at e1 hb ⊢
  rw [← hye] at e2 hb ⊢
  have e6 : IntKind.i64.wrap (x - y) = x - y := by rw [IntKind.wrap_i64]; omega
  clear hxe hye h1 h2 hb
  unfold encI
  go_enter Try.func78, Try.ntmps78
  go_wp2
  go_quiet (fail)
  go_wp2
  go_ret
  exact ⟨by simp, ((Below.refl _ w).alloc (Nat.le_refl _) _).trans (below_drewN _ _)⟩

/-- The index of the first number that is not less, -1 if there is none. -/
def idxGE (v : Int) (ys : List Int) : Int := if ys.findIdx (fun y => decide (v ≤ y)) < ys.length then (ys.findIdx (fun y => decide (v ≤ y)) : Int) else -1
theorem idxGE_at {v : Int} {ys : List Int} {k : Nat} (hk : k < ys.length) (h : v ≤ ys[k]?.getD 0) (hall : ∀ j, j < k → ¬ v ≤ ys[j]?.getD 0) : idxGE v ys = (k : Int) := by
  have e : ys.findIdx (fun y => decide (v ≤ y)) = k := by
    rw [List.findIdx_eq hk]
    refine ⟨by simpa [List.getElem?_eq_getElem hk] using h, fun j hj => ?_⟩
    have := hall j hj
    rw [List.getElem?_eq_getElem (by omega)] at this
    simpa using this
  unfold idxGE
  rw [e, if_pos hk]
theorem idxGE_none {v : Int} {ys : List Int} (hall : ∀ j, j < ys.length → ¬ v ≤ ys[j]?.getD 0) : idxGE v ys = -1 := by
  have e : ys.findIdx (fun y => decide (v ≤ y)) = ys.length := by
    rw [List.findIdx_eq_length]
    intro y hy
    obtain ⟨j, hj, rfl⟩ := List.getElem_of_mem hy
    have := hall j hj
    rw [List.getElem?_eq_getElem hj] at this
    simpa using this
  unfold idxGE
  rw [if_neg (by omega)]
set_option maxHeartbeats 1000000 in
theorem late1_any (w : World) (b1 b2 n1 c1 k : Nat) (A1 : Option Addr) (B : Nat) (ts : List Int) (x : Int) (k1 : w.cell? ⟨b1, 0, none⟩ = some (.slice A1 n1 c1)) (k2 : w.cell? ⟨b2, 0, none⟩ = some (.int .i64 (k : Int))) (h1 : IntsAt w B A1 n1 ts) (hk : k < n1) :
    Calls Try.prog 108 #[.int .i64 x, .pointer (some ⟨b1, 0, none⟩), .pointer (some ⟨b2, 0, none⟩)] w fun e w' => e = .returned (.bool (decide (ts[k]?.getD 0 ≤ x))) ∧ w' = w := by
  have hm := h1.small
  obtain ⟨b, o, rfl, -, e1⟩ := h1.cell hk
  go_enter Try.func108, Try.ntmps108
  go_wp2
  go_ret
  exact ⟨ret_bool (by simp), rfl⟩
end Go.Proofs.Ytjidllaaokdjhaa
