/- lag: what goes on behind a board. -/
import Derived.Test.YtjidllaaokdjhaaNC
namespace Go.Proofs.Ytjidllaaokdjhaa
open Go.RowKit Go.Shelf

attribute [local go_sem] Oper.semAt_some

set_option maxRecDepth 100000 in
set_option maxHeartbeats 4000000 in
theorem behind_any (w : World) (A : Option Addr) (n c : Nat) (q : Nat → Int) (B1 B2 : Nat) (A1 A2 : Option Addr) (ts os : List Int) (t : Nat) (i1 : IntsAt w B1 A1 121 ts) (i2 : IntsAt w B2 A2 121 os) (hB1 : B1 ≤ w.heap.size) (hB2 : B2 ≤ w.heap.size) (ht : t ≤ 6)
    (h1 : ∀ j, j < 121 → 0 ≤ ts[j]?.getD 0 ∧ ts[j]?.getD 0 ≤ 2000000) (h2 : ∀ j, j < 121 → 0 ≤ os[j]?.getD 0 ∧ os[j]?.getD 0 ≤ 2000000) :
    Calls Try.prog 87 #[brdV A n c q A1 A2 121 121 121 121, .int .i64 (t : Int)] w fun e w' => e = .returned (encI (worstF q (fun k => ts[k + t]?.getD 0 - os[k]?.getD 0))) ∧ Below w.heap.size w w' := by
  obtain ⟨V, hV⟩ : ∃ V, V = (w.alloc (.cells (brdC A n c q A1 A2 121 121 121 121) 108)).alloc (.cells #[.int .i64 (t : Int)] 3) := ⟨_, rfl⟩
  have hb0 : Below w.heap.size w V := by rw [hV]; exact ((Below.refl _ w).alloc (Nat.le_refl _) _).alloc (by simp) _
  have x2 : BrdAt V w.heap.size A n c q A1 A2 121 121 121 121 := by rw [hV]; exact (BrdAt.new w).alloc _
  have x3 : Boxed V (w.heap.size + 1) 3 (.int .i64 (t : Int)) := by
    rw [hV]
    have := Boxed.new (w.alloc (.cells (brdC A n c q A1 A2 121 121 121 121) 108)) 3 (.int .i64 (t : Int))
    simpa using this
  have j1 := i1.below hb0 hB1
  have j2 := i2.below hb0 hB2
  have hz := hb0.size
  obtain ⟨k0, k1, k2, k3, k4, k5, k6, k7, k8, k9⟩ := x2.cells
  have hval : ∀ W, Below V.heap.size V W → ValFn W 110 #[] #[.pointer (some ⟨w.heap.size, 0, none⟩), .pointer (some ⟨w.heap.size + 1, 0, none⟩)] (fun x : Part 0 99 => encI (x.1 : Int)) encI (fun p => ts[p.1 + t]?.getD 0 - os[p.1]?.getD 0) := fun W hW => by
    refine ⟨enters_of Try.func110 (by kernel_rfl) rfl, fun W' x hW' => ?_⟩
    have hmx := parts_mem.1 x.2
    have hs1 := hW.size
    have a := h1 (x.1 + t) (by omega)
    have b := h2 x.1 (by omega)
    exact behind1_any W' w.heap.size (w.heap.size + 1) B1 B2 A n c q A1 A2 121 121 121 121 x.1 t ts os ((x2.below hW x2.lt).below hW' (Nat.lt_of_lt_of_le x2.lt hs1)) (bxBelow (bxBelow x3 hW x3.lt) hW' (Nat.lt_of_lt_of_le x3.lt hs1)).cell ((j1.below hW (by omega)).below hW' (by omega)) ((j2.below hW (by omega)).below hW' (by omega)) (by omega) (by omega) (by omega) (by omega)
  have Hval := Lib.hid hval
  clear hval i1 i2 j1 j2 h1 h2 x2 x3
  go_enter Try.func87, Try.ntmps87
  go_wp2_with (fail)
  rw [← hV]
  clear hV
  refine (worst_any V A n c q A1 A2 121 121 121 121 110 _ _ (fun k => ts[k + t]?.getD 0 - os[k]?.getD 0) (fun W hW => Hval.out W hW)).mono ?_
  rintro e w3 ⟨rfl, hb3⟩
  have hb4 := hb0.trans (hb3.mono hz)
  obtain ⟨y, hy⟩ : ∃ y, y = worstF q (fun k => ts[k + t]?.getD 0 - os[k]?.getD 0) := ⟨_, rfl⟩
  rw [← hy]
  have Hy := Lib.hid hy
  unfold encI
  clear hy hb0 hb3 k0 k1 k2 k3 k4 k5 k6 k7 k8 k9
  go_wp2_with (fail)
  refine bodyPost_ret (results_tmp rfl _ _ _) rfl ?_
  exact ⟨by rw [← Hy.out]; rfl, hb4⟩
end Go.Proofs.Ytjidllaaokdjhaa
