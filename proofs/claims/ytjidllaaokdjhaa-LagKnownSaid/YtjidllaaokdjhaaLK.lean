/- lag: ratio, the rates. -/
import Derived.Test.YtjidllaaokdjhaaLJ
namespace Go.Proofs.Ytjidllaaokdjhaa
open Go.RowKit Go.Shelf

attribute [local go_sem] Oper.semAt_some

def ratR (N D : Nat) : Int × Int := (((N / Nat.gcd D N : Nat) : Int), ((D / Nat.gcd D N : Nat) : Int))
theorem ratio_results (W : World) (tmps : Array Value) (b : Nat) (x : Int × Int) (h : RatAt W b x) (t : tmps.getD 4 undef = .pointer (some ⟨b, 0, none⟩)) :
    (results Try.f100 tmps).run Try.prog W = .ok (encR x) W := by
  obtain ⟨c0, c1⟩ := h.cells
  simp only [Array.getD_eq_getD_getElem?] at t
  unfold encR
  simp [results, Try.results100, go_sem, t, c0, c1]
set_option maxRecDepth 100000 in
set_option maxHeartbeats 4000000 in
theorem ratio_any (w : World) (N D : Nat) (hN : N ≤ 1000000) (hD1 : 1 ≤ D) (hD : D ≤ 1000000) :
    Calls Try.prog 100 #[.int .i64 (N : Int), .int .i64 (D : Int)] w fun e w' => e = .returned (encR (ratR N D)) ∧ Below w.heap.size w w' := by
  obtain ⟨V, hV⟩ : ∃ V, V = w.alloc (.cells #[.int .i64 0, .int .i64 0] 32) := ⟨_, rfl⟩
  have hb0 : Below w.heap.size w V := by rw [hV]; exact (Below.refl _ w).alloc (Nat.le_refl _) _
  have x4 : RatAt V w.heap.size (0, 0) := by rw [hV]; exact RatAt.new w (0, 0)
  go_enter Try.func100, Try.ntmps100
  go_wp2_with (fail)
  rw [← hV]
  clear hV
  go_loopw [5, 6] (fun v5 v6 wr => ∃ a b q : Nat, (1 ≤ a ∧ a ≤ 1000000 ∧ b ≤ 1000000) ∧ v5 = .int .i64 (a : Int) ∧ v6 = .int .i64 (b : Int) ∧ wr = V.drewN q ∧ Hid (Nat.gcd a b = Nat.gcd D N)) (fun _ v6 _ => (intOf v6).toNat)
  case atStart => exact ⟨D, N, 0, ⟨hD1, hD, hN⟩, rfl, rfl, rfl, Lib.hid rfl⟩
  case round =>
    obtain ⟨a, b, q, ⟨ha1, ha2, hb2⟩, rfl, rfl, rfl, hg⟩ := hrel
    have hbq : Below w.heap.size w (V.drewN q) := hb0.trans (below_drewN _ _)
    have y4 : RatAt (V.drewN q) w.heap.size (0, 0) := x4
    clear hb0 x4
    by_cases hb : b = 0
    · have hga : Nat.gcd D N = a := by rw [← hg.out, hb, Nat.gcd_zero_right]
      have hb' : ((b : Int) != 0) = false := by rw [hb]; rfl
      have q1 : (N : Int).tdiv (a : Int) = ((N / a : Nat) : Int) := (Int.ofNat_tdiv N a).symm
      have q2 : (D : Int).tdiv (a : Int) = ((D / a : Nat) : Int) := (Int.ofNat_tdiv D a).symm
      have n1 := Nat.div_le_self N a
      have n2 := Nat.div_le_self D a
      obtain ⟨N', hN'⟩ : ∃ N', N' = N / a := ⟨_, rfl⟩
      obtain ⟨D', hD'⟩ : ∃ D', D' = D / a := ⟨_, rfl⟩
      rw [← hN'] at q1 n1
      rw [← hD'] at q2 n2
      have hr : ratR N D = ((N' : Int), (D' : Int)) := by unfold ratR; rw [hga, ← hN', ← hD']
      have Hr := Lib.hid hr
      clear hr hga hb hN' hD' hg
      have w1 : IntKind.i64.wrap (N' : Int) = (N' : Int) := by rw [IntKind.wrap_i64]; omega
      have w2 : IntKind.i64.wrap (D' : Int) = (D' : Int) := by rw [IntKind.wrap_i64]; omega
      have ha0 : ¬ a = 0 := by omega
      obtain ⟨W, hW⟩ : ∃ W, W = V.drewN q := ⟨_, rfl⟩
      rw [← hW] at y4 hbq ⊢
      clear hW
      obtain ⟨k0, k1⟩ := y4.cells
      have f0 := y4.frozen 0
      have f1 := y4.frozen 1
      go_wp2
      refine region_held_wp 1 (fun _ => True) (fun _ => false) (by kernel_rfl) ?_
      intro KR hKR
      refine wpAnyHI_takeW (i := 0) (v := .int .i64 (N : Int)) (some 15) rfl rfl (by kernel_rfl) (by kernel_rfl) (by kernel_rfl) (by kernel_rfl) (fun _ _ _ h => h) (.inl ⟨by kernel_rfl, fun W' hS' => ?_⟩) ?_
      · go_simp
      refine wpAnyHI_takeW (i := 1) (v := .int .i64 (a : Int)) (some 16) rfl rfl (by kernel_rfl) (by kernel_rfl) (by kernel_rfl) (by kernel_rfl) (fun _ _ _ h => h) (.inl ⟨by kernel_rfl, fun W' hS' => ?_⟩) ?_
      · go_simp
      refine wpAnyHI_takeW (i := 2) (v := .int .i64 (N' : Int)) (some 17) rfl rfl (by kernel_rfl) (by kernel_rfl) (by kernel_rfl) (by kernel_rfl) (fun _ _ _ h => h) (.inl ⟨by kernel_rfl, fun W' hS' => ?_⟩) ?_
      · go_simp
      refine wpAnyHI_takeW (i := 3) (v := .int .i64 (D : Int)) (some 18) rfl rfl (by kernel_rfl) (by kernel_rfl) (by kernel_rfl) (by kernel_rfl) (fun _ _ _ h => h) (.inl ⟨by kernel_rfl, fun W' hS' => ?_⟩) ?_
      · go_simp
      refine wpAnyHI_takeW (i := 4) (v := .int .i64 (a : Int)) (some 19) rfl rfl (by kernel_rfl) (by kernel_rfl) (by kernel_rfl) (by kernel_rfl) (fun _ _ _ h => h) (.inl ⟨by kernel_rfl, fun W' hS' => ?_⟩) ?_
      · go_simp
      refine wpAnyHI_takeW (i := 5) (v := .int .i64 (D' : Int)) (some 20) rfl rfl (by kernel_rfl) (by kernel_rfl) (by kernel_rfl) (by kernel_rfl) (fun _ _ _ h => h) (.inl ⟨by kernel_rfl, fun W' hS' => ?_⟩) ?_
      · go_simp
      refine wpAnyHI_takeW (i := 6) (v := .agg #[.int .i64 (N' : Int), .int .i64 (D' : Int)]) (some 21) rfl rfl (by kernel_rfl) (by kernel_rfl) (by kernel_rfl) (by kernel_rfl) (fun _ _ _ h => h) (.inl ⟨by kernel_rfl, fun W' hS' => ?_⟩) ?_
      · go_simp
      have k0' : W.drew.cell? ⟨w.heap.size, 0, none⟩ = _ := k0
      have k1' : W.drew.cell? ⟨w.heap.size, 1, none⟩ = _ := k1
      have f0' : W.drew.frozen? ⟨w.heap.size, 0, none⟩ = false := f0
      have f1' : W.drew.frozen? ⟨w.heap.size, 1, none⟩ = false := f1
      have y4' : RatAt W.drew w.heap.size (0, 0) := y4
      have hbd : Below w.heap.size w W.drew := hbq.trans (below_drew W)
      refine wpAnyHI_one (i := 7) rfl (by kernel_rfl) ?_
      intro K1 hK1
      go_simp
      refine hK1 _ _ ⟨fun h => absurd h (by simp), ?_⟩
      clear hK1 K1
      refine wpAnyHI_end (by kernel_rfl) ?_
      show KR _ _
      go_simp
      refine hKR _ _ ?_
      clear k0 k1 f0 f1 k0' k1' f0' f1' y4 hbq
      have fin := y4'.set ((N' : Int), (D' : Int))
      have hBf := (hbd.setCell (p := ⟨w.heap.size, 0, none⟩) (Nat.le_refl _) (.int .i64 (N' : Int))).setCell (p := ⟨w.heap.size, 1, none⟩) (Nat.le_refl _) (.int .i64 (D' : Int))
      go_wp2_with (fail)
      exact bodyPost_ret (v := encR ((N' : Int), (D' : Int))) (ratio_results _ _ w.heap.size _ fin (by simp)) rfl ⟨by rw [Hr.out], hBf⟩
    · have hb' : ((b : Int) != 0) = true := by rw [bne_iff_ne]; omega
      have hm : (a : Int).tmod (b : Int) = ((a % b : Nat) : Int) := (Int.ofNat_tmod a b).symm
      have hlt := Nat.mod_lt a (show 0 < b by omega)
      have hgg : Nat.gcd b (a % b) = Nat.gcd D N := by rw [← hg.out, Nat.gcd_comm, ← Nat.gcd_rec, Nat.gcd_comm]
      obtain ⟨r, hr⟩ : ∃ r, r = a % b := ⟨_, rfl⟩
      rw [← hr] at hm hlt hgg
      have Hg := Lib.hid hgg
      clear hr hgg hg
      have hb0 : ¬ (b : Int) = 0 := by omega
      go_wp2
      go_quiet (fail)
      go_wp2
      go_roundw
      case rel => exact ⟨b, r, _, ⟨by omega, by omega, by omega⟩, rfl, rfl, World.drewN_drewN _ _ _, Hg⟩
      case measure => simp [intOf]; omega
end Go.Proofs.Ytjidllaaokdjhaa
