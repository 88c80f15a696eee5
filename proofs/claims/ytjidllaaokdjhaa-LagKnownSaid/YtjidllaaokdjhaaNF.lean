/- lag: the law's curves. -/
import Derived.Test.YtjidllaaokdjhaaNE
namespace Go.Proofs.Ytjidllaaokdjhaa
open Go.RowKit Go.Shelf

attribute [local go_sem] Oper.semAt_some

theorem of_any (w : World) (v : Option Addr) (n c : Nat) : Calls Try.prog 61 #[.slice v n c] w fun e w' => e = .returned (.slice v n c) ∧ w' = w := by
  go_enter Try.func61, Try.ntmps61
  go_wp2
  go_ret
  exact ⟨by simp, rfl⟩
theorem laid_ints {W : World} {b n : Nat} (xs : List Int) (h : W.heap[b]? = some (.cells (xs.map (Value.int .i64)).toArray 2 (0, 0))) (hn : xs.length = n) (hm : n ≤ 1000) : IntsAt W W.heap.size (some ⟨b, 0, none⟩) n xs :=
  RowZ.ints (row := xs) h hn (by omega)
theorem Curves_results (W : World) (tmps : Array Value) (a b c : Value) (h0 : tmps.getD 0 undef = a) (h1 : tmps.getD 1 undef = b) (h2 : tmps.getD 2 undef = c) :
    (results Try.f60 tmps).run Try.prog W = .ok (.tuple #[a, b, c]) W := by
  simp only [Array.getD_eq_getD_getElem?] at h0 h1 h2
  simp [results, Try.results60, go_sem, h0, h1, h2]
set_option maxHeartbeats 1000000 in
theorem Curves_any (w : World) : Calls Try.prog 60 #[] w fun e w' => ∃ b1 b2 b3 : Nat, e = .returned (.tuple #[.slice (some ⟨b1, 0, none⟩) 3 3, .slice (some ⟨b2, 0, none⟩) 3 3, .slice (some ⟨b3, 0, none⟩) 6 6]) ∧
    IntsAt w' w'.heap.size (some ⟨b1, 0, none⟩) 3 [3, 4, 4] ∧ IntsAt w' w'.heap.size (some ⟨b2, 0, none⟩) 3 [0, 2, 4] ∧ IntsAt w' w'.heap.size (some ⟨b3, 0, none⟩) 6 [3, 1, 0, 3, 1, 0] ∧ Below w.heap.size w w' := by
  obtain ⟨W1, hW1⟩ : ∃ W, W = w.alloc (.cells #[.int .i64 3, .int .i64 4, .int .i64 4] 2) := ⟨_, rfl⟩
  obtain ⟨W2, hW2⟩ : ∃ W, W = W1.alloc (.cells #[.int .i64 0, .int .i64 2, .int .i64 4] 2) := ⟨_, rfl⟩
  obtain ⟨W3, hW3⟩ : ∃ W, W = W2.alloc (.cells #[.int .i64 3, .int .i64 1, .int .i64 0, .int .i64 3, .int .i64 1, .int .i64 0] 2) := ⟨_, rfl⟩
  have z1 : W1.heap.size = w.heap.size + 1 := by rw [hW1]; simp
  have z2 : W2.heap.size = w.heap.size + 1 + 1 := by rw [hW2, World.size_alloc, z1]
  have r1 : RowZ W1 w.heap.size [3, 4, 4] := by rw [hW1]; exact World.alloc_heap_new w _
  have r2 : RowZ W2 (w.heap.size + 1) [0, 2, 4] := by rw [hW2, ← z1]; exact World.alloc_heap_new W1 _
  have r3 : RowZ W3 (w.heap.size + 1 + 1) [3, 1, 0, 3, 1, 0] := by rw [hW3, ← z2]; exact World.alloc_heap_new W2 _
  have s1 : RowZ W3 w.heap.size [3, 4, 4] := by rw [hW3]; exact RowZ.alloc (by rw [hW2]; exact r1.alloc _) _
  have s2 : RowZ W3 (w.heap.size + 1) [0, 2, 4] := by rw [hW3]; exact r2.alloc _
  have hb : Below w.heap.size w W3 := by rw [hW3, hW2, hW1]; exact (((Below.refl _ w).alloc (Nat.le_refl _) _).alloc (by simp) _).alloc (by simp; omega) _
  have H := Lib.hid (And.intro (s1.ints (n := 3) rfl (by omega)) (And.intro (s2.ints (n := 3) rfl (by omega)) (And.intro (r3.ints (n := 6) rfl (by omega)) hb)))
  rw [hW3, hW2, hW1] at H
  clear hW1 hW2 hW3 z1 z2 r1 r2 r3 s1 s2 hb
  go_enter Try.func60, Try.ntmps60
  go_wp2_with (go_at_call 61; refine (of_any _ _ _ _).mono ?_; rintro e w' ⟨rfl, rfl⟩)
  refine bodyPost_ret (v := .tuple #[.slice (some ⟨w.heap.size, 0, none⟩) 3 3, .slice (some ⟨w.heap.size + 1, 0, none⟩) 3 3, .slice (some ⟨w.heap.size + 1 + 1, 0, none⟩) 6 6]) (Curves_results _ _ _ _ _ (by simp) (by simp) (by simp)) rfl ?_
  exact ⟨_, _, _, rfl, H.out⟩
end Go.Proofs.Ytjidllaaokdjhaa
