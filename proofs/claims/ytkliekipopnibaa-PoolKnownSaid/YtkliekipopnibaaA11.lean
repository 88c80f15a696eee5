/- PoolKnown answers true, as a closed statement: the chapter's examples of package pool hold, and those of Works with them. No condition. -/
import Derived.Test.YtkliekipopnibaaF10
import Derived.Test.YtkliekipopnibaaRows
import Derived.WalkKit
import Derived.ProofKit
import Derived.OpenShut

/- quinellalaw03: PoolKnown. -/
namespace Go.Proofs.Ytkliekipopnibaa
open Go.RowKit Go.Shelf

def exT (r : Int) : Bk := ⟨0, 3, [⟨0, -1, 5⟩, ⟨1, -1, 3⟩, ⟨2, -1, 2⟩], [r], false, 0, 100, 10⟩
theorem kn1 : dvE (exB 0) [[1], [0], [2]] = 0 ∧ dvA (exB 0) [[1], [0], [2]] = [((1, -1), 300)] := ⟨by kernel_rfl, by kernel_rfl⟩
theorem kn2 : scE (exB 0) 2 = 0 ∧ scB' (exB 0) 2 = exT 2 := ⟨by kernel_rfl, by kernel_rfl⟩
theorem kn3 : dvE (exT 2) [[1], [0]] = 0 ∧ dvA (exT 2) [[1], [0]] = [((1, -1), 240)] := ⟨by kernel_rfl, by kernel_rfl⟩
theorem kn4 : payE (exT 2) [[1], [0]] 2 = 0 ∧ payA (exT 2) [[1], [0]] 2 = 200 := ⟨by kernel_rfl, by kernel_rfl⟩
theorem kn5 : payE (exB 0) [[0, 1], [2]] 2 = 0 ∧ payA (exB 0) [[0, 1], [2]] 2 = 0 := ⟨by kernel_rfl, by kernel_rfl⟩
theorem kn6 : dvE exC [[0, 1], [2]] = 0 ∧ dvA exC [[0, 1], [2]] = [((0, 1), 130), ((1, 0), 90)] := ⟨by kernel_rfl, by kernel_rfl⟩
theorem kn7 : atF exC [[2], [0], [1]] = 0 ∧ AccountF exC [[2], [0], [1]] = ⟨550, 0, 0, 0, 0, 550⟩ := by
  unfold AccountF
  rw [payF_w wkX']
  exact ⟨by kernel_rfl, by kernel_rfl⟩
theorem kn8 : atF exC [[0, 1], [2]] = 0 ∧ winA exC [[0, 1], [2]] = [(0, 1), (1, 0)] := ⟨by kernel_rfl, by kernel_rfl⟩
theorem kn9 : scE (exB 0) 0 = 0 ∧ scB' (exB 0) 0 = exT 0 := ⟨by kernel_rfl, by kernel_rfl⟩
theorem kn10 : favR (exT 0) = 1 ∧ bookF (exT 0) = 0 := ⟨by kernel_rfl, by kernel_rfl⟩
theorem kn11 : scE (exB 0) 1 = 0 ∧ scB' (exB 0) 1 = exT 1 := ⟨by kernel_rfl, by kernel_rfl⟩
theorem kn12 : scE (exT 1) 0 = 10 ∧ scB' (exT 1) 0 = zeroB := ⟨by kernel_rfl, by kernel_rfl⟩
set_option maxHeartbeats 8000000 in
set_option maxRecDepth 20000 in
theorem PoolKnown_any (w : World) : Calls Try.prog 13 #[] w fun e w' => e = .returned (.bool true) ∧ Below w.heap.size w w' := by
  refine enter 211 Try.func13 (by kernel_rfl) fun hA => ?_
  refine runS hA 7 [] xn on (by kernel_rfl) fun w1 hA => ?_
  have hAp := hA.atK [] (by kernel_rfl)
  refine call hA [] on (Book_any w1 0) (by kernel_rfl) (by rintro e v ⟨g1, rfl, hbg1, hgg1, hlg1⟩; exact hbg1) ?_
  rintro e w2 ⟨g1, rfl, hbg1, hgg1, hlg1⟩
  refine ⟨_, rfl, fun hA => ?_⟩
  have hAq := At.know hAp hbg1 hgg1 hlg1
  refine reknow ⟨[(kB g1)], w2.heap.size, [], [], [], [], []⟩ hAq (Nat.zero_le _) fun hA => ?_
  have hAp := hA.atK [(kB g1)] (by kernel_rfl)
  refine call hA [] on (pairs_any w2) (by kernel_rfl) (by rintro e v ⟨g3, rfl, hbg3, hgg3, hlg3⟩; exact hbg3) ?_
  rintro e w3 ⟨g3, rfl, hbg3, hgg3, hlg3⟩
  refine ⟨_, rfl, fun hA => ?_⟩
  have hAq := At.know hAp hbg3 hgg3 hlg3
  refine reknow ⟨[(kB g1), (kC g3)], w3.heap.size, [], [], [], [], []⟩ hAq (Nat.zero_le _) fun hA => ?_
  refine runS hA 7 (List.replicate 8 (.k 2) ++ List.replicate 8 (.k 3)) xn on (by kernel_rfl) fun w4 hA => ?_
  refine draw hA [true, true, true, true] [0, 1, 2, 3, 4, 5, 6, 7, 8, 9, 10, 11] (by kernel_rfl) (by kernel_rfl) fun hA => ?_
  refine runS hA 1 ([.t 0] ++ List.replicate 8 (.k 2)) xn on (by kernel_rfl) fun w5 hA => ?_
  have hA0RL := hA
  refine latK hA0RL [1, 2, 3, 4, 5, 6, 7, 8, 9, 10, 11] (γ := Nat × Nat × Nat × Nat × Nat × Nat × Array Value) (fun ⟨bRL1, bRL2, bRL3, bRL4, gl, cl, ul⟩ => [(0, .bool false), (1, .pointer (some ⟨w3.heap.size, 0, none⟩)), (2, .pointer (some ⟨w3.heap.size + 1, 0, none⟩)), (3, .slice (some ⟨gl, 0, none⟩) 1 cl), (4, .int .i64 0)]) (fun ⟨bRL1, bRL2, bRL3, bRL4, gl, cl, ul⟩ => [(kB g1), (kC g3), (xK (exB 0) w3.heap.size g1 3), (xK exC (w3.heap.size + 1) g3 2)]) (fun ⟨bRL1, bRL2, bRL3, bRL4, gl, cl, ul⟩ => [⟨gl, .cells ul 66 (0, 0)⟩]) (fun ⟨bRL1, bRL2, bRL3, bRL4, gl, cl, ul⟩ _ => RowV 66 3 (.slice (some ⟨gl, 0, none⟩) 1 cl) 1 (encD [((1, -1), 300)]) [⟨gl, .cells ul 66 (0, 0)⟩]) (fun hRL1_2_3_4_5_6 => ?_) ?_
  ·
    refine latS hA0RL [1, 2, 3, 4, 5] (γ := Nat × Nat × Nat × Nat) (fun ⟨bRL1, bRL2, bRL3, bRL4⟩ => [(0, .bool false), (1, .pointer (some ⟨w3.heap.size, 0, none⟩)), (2, .pointer (some ⟨w3.heap.size + 1, 0, none⟩)), (30, (vK (exB 0) g1 3)), (31, .slice (some ⟨bRL1, 0, none⟩) 1 1), (32, .slice (some ⟨bRL2, 0, none⟩) 1 1), (33, .slice (some ⟨bRL3, 0, none⟩) 1 1), (34, .slice (some ⟨bRL4, 0, none⟩) 3 3), (35, .slice (some ⟨bRL4, 0, none⟩) 3 3)]) (fun ⟨bRL1, bRL2, bRL3, bRL4⟩ => [(kB g1), (kC g3), (xK (exB 0) w3.heap.size g1 3), (xK exC (w3.heap.size + 1) g3 2), ⟨bRL1, .cells #[.int .i64 1] 3 (0, 0)⟩, ⟨bRL2, .cells #[.int .i64 0] 3 (0, 0)⟩, ⟨bRL3, .cells #[.int .i64 2] 3 (0, 0)⟩, ⟨bRL4, .cells #[.slice (some ⟨bRL1, 0, none⟩) 1 1, .slice (some ⟨bRL2, 0, none⟩) 1 1, .slice (some ⟨bRL3, 0, none⟩) 1 1] 23 (0, 0)⟩]) (fun ⟨bRL1, bRL2, bRL3, bRL4⟩ => []) (fun ⟨bRL1, bRL2, bRL3, bRL4⟩ _ => True) ?_ (fun hRL1_2_3_4_5 => ?_)
    · rintro ⟨bRL1, bRL2, bRL3, bRL4⟩ wl6 _ hA
      have hAp := hA.atK [(kB g1), (kC g3), (xK (exB 0) w3.heap.size g1 3), (xK exC (w3.heap.size + 1) g3 2), ⟨bRL1, .cells #[.int .i64 1] 3 (0, 0)⟩, ⟨bRL2, .cells #[.int .i64 0] 3 (0, 0)⟩, ⟨bRL3, .cells #[.int .i64 2] 3 (0, 0)⟩, ⟨bRL4, .cells #[.slice (some ⟨bRL1, 0, none⟩) 1 1, .slice (some ⟨bRL2, 0, none⟩) 1 1, .slice (some ⟨bRL3, 0, none⟩) 1 1] 23 (0, 0)⟩] (by kernel_rfl)
      have hP := Dividends_any wl6 wl6.heap.size (exB 0) (some ⟨g1, 0, none⟩) 3 3 none 0 0 (some ⟨bRL4, 0, none⟩) 3 3 [[1], [0], [2]] (exB_at 0 (hA.at_.ok (kB g1) (List.mem_of_getElem? (i := 0) (by kernel_rfl)))) (fin3 (hA.at_.ok ⟨bRL4, .cells #[.slice (some ⟨bRL1, 0, none⟩) 1 1, .slice (some ⟨bRL2, 0, none⟩) 1 1, .slice (some ⟨bRL3, 0, none⟩) 1 1] 23 (0, 0)⟩ (List.mem_of_getElem? (i := 7) (by kernel_rfl))) (xs0 := [1]) (hA.at_.ok ⟨bRL1, .cells #[.int .i64 1] 3 (0, 0)⟩ (List.mem_of_getElem? (i := 4) (by kernel_rfl))) (by decide) (xs1 := [0]) (hA.at_.ok ⟨bRL2, .cells #[.int .i64 0] 3 (0, 0)⟩ (List.mem_of_getElem? (i := 5) (by kernel_rfl))) (by decide) (xs2 := [2]) (hA.at_.ok ⟨bRL3, .cells #[.int .i64 2] 3 (0, 0)⟩ (List.mem_of_getElem? (i := 6) (by kernel_rfl))) (by decide)) (Nat.le_refl _)
      rw [kn1.1, kn1.2] at hP
      refine call hA [] on (hP) (by kernel_rfl) (by rintro e v ⟨v, rfl, hbd, hown, hnil⟩; exact hbd) ?_
      rintro e w107 ⟨v, rfl, hbd, hown, hnil⟩
      refine ⟨_, rfl, fun hA => ?_⟩
      obtain ⟨ob9, hr9, hA2⟩ := At.own hAp hbd hown
      obtain ⟨gl, cl, ul, hv9, rfl, -⟩ : ∃ gz cz uz, v = .slice (some ⟨gz, 0, none⟩) 1 cz ∧ ob9 = [⟨gz, .cells uz 66 (0, 0)⟩] ∧ True := by
        rcases hr9.2 with ⟨-, h9, -⟩ | ⟨gz, cz, uz, h8, h9, -⟩
        · exact absurd h9 (by decide)
        · exact ⟨gz, cz, uz, h8, h9, trivial⟩
      cases hv9
      refine reknow ⟨[(kB g1), (kC g3), (xK (exB 0) w3.heap.size g1 3), (xK exC (w3.heap.size + 1) g3 2), ⟨bRL1, .cells #[.int .i64 1] 3 (0, 0)⟩, ⟨bRL2, .cells #[.int .i64 0] 3 (0, 0)⟩, ⟨bRL3, .cells #[.int .i64 2] 3 (0, 0)⟩, ⟨bRL4, .cells #[.slice (some ⟨bRL1, 0, none⟩) 1 1, .slice (some ⟨bRL2, 0, none⟩) 1 1, .slice (some ⟨bRL3, 0, none⟩) 1 1] 23 (0, 0)⟩], w107.heap.size, [], [], [], [], []⟩ hA2 (Nat.zero_le _) fun hA => ?_
      refine runS hA 5 [.t 7, .t 8, .t 9, .t 10, .t 11] xn on (by kernel_rfl) fun w108 hA => ?_
      exact joinE hRL1_2_3_4_5_6 ⟨bRL1, bRL2, bRL3, bRL4, gl, cl, ul⟩ hr9 [0, 1, 2, 3] hA rfl (by kernel_rfl) (by decide)
    refine latS hA0RL [1, 2, 3, 4] (γ := Nat × Nat × Nat × Nat) (fun ⟨bRL1, bRL2, bRL3, bRL4⟩ => [(0, .bool false), (1, .pointer (some ⟨w3.heap.size, 0, none⟩)), (2, .pointer (some ⟨w3.heap.size + 1, 0, none⟩)), (30, (vK (exB 0) g1 3)), (31, .slice (some ⟨bRL1, 0, none⟩) 1 1), (32, .slice (some ⟨bRL2, 0, none⟩) 1 1), (33, .slice (some ⟨bRL3, 0, none⟩) 1 1), (34, .slice (some ⟨bRL4, 0, none⟩) 3 3)]) (fun ⟨bRL1, bRL2, bRL3, bRL4⟩ => [(kB g1), (kC g3), (xK (exB 0) w3.heap.size g1 3), (xK exC (w3.heap.size + 1) g3 2), ⟨bRL1, .cells #[.int .i64 1] 3 (0, 0)⟩, ⟨bRL2, .cells #[.int .i64 0] 3 (0, 0)⟩, ⟨bRL3, .cells #[.int .i64 2] 3 (0, 0)⟩, ⟨bRL4, .cells #[.slice (some ⟨bRL1, 0, none⟩) 1 1, .slice (some ⟨bRL2, 0, none⟩) 1 1, .slice (some ⟨bRL3, 0, none⟩) 1 1] 23 (0, 0)⟩]) (fun ⟨bRL1, bRL2, bRL3, bRL4⟩ => []) (fun ⟨bRL1, bRL2, bRL3, bRL4⟩ _ => True) ?_ (fun hRL1_2_3_4 => ?_)
    · rintro ⟨bRL1, bRL2, bRL3, bRL4⟩ wl7 _ hA
      refine callB hA [] on (in_any wl7 (some ⟨bRL4, 0, none⟩) 3 3) (by kernel_rfl) fun w108 hb108 hA => ?_
      exact joinE hRL1_2_3_4_5 ⟨bRL1, bRL2, bRL3, bRL4⟩ trivial [0, 1, 2, 3, 4, 5, 6, 7] hA rfl (by kernel_rfl) (by decide)
    refine latS hA0RL [1, 2, 3] (γ := Nat × Nat × Nat) (fun ⟨bRL1, bRL2, bRL3⟩ => [(0, .bool false), (1, .pointer (some ⟨w3.heap.size, 0, none⟩)), (2, .pointer (some ⟨w3.heap.size + 1, 0, none⟩)), (30, (vK (exB 0) g1 3)), (31, .slice (some ⟨bRL1, 0, none⟩) 1 1), (32, .slice (some ⟨bRL2, 0, none⟩) 1 1), (33, .slice (some ⟨bRL3, 0, none⟩) 1 1)]) (fun ⟨bRL1, bRL2, bRL3⟩ => [(kB g1), (kC g3), (xK (exB 0) w3.heap.size g1 3), (xK exC (w3.heap.size + 1) g3 2), ⟨bRL1, .cells #[.int .i64 1] 3 (0, 0)⟩, ⟨bRL2, .cells #[.int .i64 0] 3 (0, 0)⟩, ⟨bRL3, .cells #[.int .i64 2] 3 (0, 0)⟩]) (fun ⟨bRL1, bRL2, bRL3⟩ => []) (fun ⟨bRL1, bRL2, bRL3⟩ _ => True) ?_ (fun hRL1_2_3 => ?_)
    · rintro ⟨bRL1, bRL2, bRL3⟩ wl8 _ hA
      refine runS hA 1 [.h 4] xn on (by kernel_rfl) fun w109 hA => ?_
      exact joinE hRL1_2_3_4 ⟨bRL1, bRL2, bRL3, wl8.heap.size⟩ trivial [0, 1, 2, 3, 4, 5, 6, 7] hA rfl (by kernel_rfl) (by decide)
    refine latS hA0RL [2, 3] (γ := Nat × Nat) (fun ⟨bRL2, bRL3⟩ => [(0, .bool false), (1, .pointer (some ⟨w3.heap.size, 0, none⟩)), (2, .pointer (some ⟨w3.heap.size + 1, 0, none⟩)), (30, (vK (exB 0) g1 3)), (32, .slice (some ⟨bRL2, 0, none⟩) 1 1), (33, .slice (some ⟨bRL3, 0, none⟩) 1 1)]) (fun ⟨bRL2, bRL3⟩ => [(kB g1), (kC g3), (xK (exB 0) w3.heap.size g1 3), (xK exC (w3.heap.size + 1) g3 2), ⟨bRL2, .cells #[.int .i64 0] 3 (0, 0)⟩, ⟨bRL3, .cells #[.int .i64 2] 3 (0, 0)⟩]) (fun ⟨bRL2, bRL3⟩ => []) (fun ⟨bRL2, bRL3⟩ _ => True) ?_ (fun hRL2_3 => ?_)
    · rintro ⟨bRL2, bRL3⟩ wl9 _ hA
      refine runS hA 1 [.h 1] xn on (by kernel_rfl) fun w110 hA => ?_
      exact joinE hRL1_2_3 ⟨wl9.heap.size, bRL2, bRL3⟩ trivial [0, 1, 2, 3, 6, 4, 5] hA rfl (by kernel_rfl) (by decide)
    refine latS hA0RL [1, 3] (γ := Nat × Nat) (fun ⟨bRL1, bRL3⟩ => [(0, .bool false), (1, .pointer (some ⟨w3.heap.size, 0, none⟩)), (2, .pointer (some ⟨w3.heap.size + 1, 0, none⟩)), (30, (vK (exB 0) g1 3)), (31, .slice (some ⟨bRL1, 0, none⟩) 1 1), (33, .slice (some ⟨bRL3, 0, none⟩) 1 1)]) (fun ⟨bRL1, bRL3⟩ => [(kB g1), (kC g3), (xK (exB 0) w3.heap.size g1 3), (xK exC (w3.heap.size + 1) g3 2), ⟨bRL1, .cells #[.int .i64 1] 3 (0, 0)⟩, ⟨bRL3, .cells #[.int .i64 2] 3 (0, 0)⟩]) (fun ⟨bRL1, bRL3⟩ => []) (fun ⟨bRL1, bRL3⟩ _ => True) ?_ (fun hRL1_3 => ?_)
    · rintro ⟨bRL1, bRL3⟩ wl10 _ hA
      refine runS hA 1 [.h 2] xn on (by kernel_rfl) fun w111 hA => ?_
      exact joinE hRL1_2_3 ⟨bRL1, wl10.heap.size, bRL3⟩ trivial [0, 1, 2, 3, 4, 6, 5] hA rfl (by kernel_rfl) (by decide)
    refine latS hA0RL [1, 2] (γ := Nat × Nat) (fun ⟨bRL1, bRL2⟩ => [(0, .bool false), (1, .pointer (some ⟨w3.heap.size, 0, none⟩)), (2, .pointer (some ⟨w3.heap.size + 1, 0, none⟩)), (30, (vK (exB 0) g1 3)), (31, .slice (some ⟨bRL1, 0, none⟩) 1 1), (32, .slice (some ⟨bRL2, 0, none⟩) 1 1)]) (fun ⟨bRL1, bRL2⟩ => [(kB g1), (kC g3), (xK (exB 0) w3.heap.size g1 3), (xK exC (w3.heap.size + 1) g3 2), ⟨bRL1, .cells #[.int .i64 1] 3 (0, 0)⟩, ⟨bRL2, .cells #[.int .i64 0] 3 (0, 0)⟩]) (fun ⟨bRL1, bRL2⟩ => []) (fun ⟨bRL1, bRL2⟩ _ => True) ?_ (fun hRL1_2 => ?_)
    · rintro ⟨bRL1, bRL2⟩ wl11 _ hA
      refine runS hA 1 [.h 3] xn on (by kernel_rfl) fun w112 hA => ?_
      exact joinE hRL1_2_3 ⟨bRL1, bRL2, wl11.heap.size⟩ trivial [0, 1, 2, 3, 4, 5, 6] hA rfl (by kernel_rfl) (by decide)
    refine latS hA0RL [3] (γ := Nat) (fun bRL3 => [(0, .bool false), (1, .pointer (some ⟨w3.heap.size, 0, none⟩)), (2, .pointer (some ⟨w3.heap.size + 1, 0, none⟩)), (30, (vK (exB 0) g1 3)), (33, .slice (some ⟨bRL3, 0, none⟩) 1 1)]) (fun bRL3 => [(kB g1), (kC g3), (xK (exB 0) w3.heap.size g1 3), (xK exC (w3.heap.size + 1) g3 2), ⟨bRL3, .cells #[.int .i64 2] 3 (0, 0)⟩]) (fun bRL3 => []) (fun bRL3 _ => True) ?_ (fun hRL3 => ?_)
    · rintro bRL3 wl12 _ hA
      refine manyS hA 1 [2] (by kernel_rfl) ⟨fun hA => ?_, fun hA => ?_, trivial⟩
      ·
        refine runS hA 1 [] xn on (by kernel_rfl) fun w113 hA => ?_
        exact joinE hRL1_3 ⟨wl12.heap.size, bRL3⟩ trivial [0, 1, 2, 3, 5, 4] hA rfl (by kernel_rfl) (by decide)
      ·
        refine runS hA 1 [] xn on (by kernel_rfl) fun w113 hA => ?_
        exact joinE hRL2_3 ⟨wl12.heap.size, bRL3⟩ trivial [0, 1, 2, 3, 5, 4] hA rfl (by kernel_rfl) (by decide)
    refine latS hA0RL [2] (γ := Nat) (fun bRL2 => [(0, .bool false), (1, .pointer (some ⟨w3.heap.size, 0, none⟩)), (2, .pointer (some ⟨w3.heap.size + 1, 0, none⟩)), (30, (vK (exB 0) g1 3)), (32, .slice (some ⟨bRL2, 0, none⟩) 1 1)]) (fun bRL2 => [(kB g1), (kC g3), (xK (exB 0) w3.heap.size g1 3), (xK exC (w3.heap.size + 1) g3 2), ⟨bRL2, .cells #[.int .i64 0] 3 (0, 0)⟩]) (fun bRL2 => []) (fun bRL2 _ => True) ?_ (fun hRL2 => ?_)
    · rintro bRL2 wl13 _ hA
      refine manyS hA 1 [3] (by kernel_rfl) ⟨fun hA => ?_, fun hA => ?_, trivial⟩
      ·
        refine runS hA 1 [] xn on (by kernel_rfl) fun w114 hA => ?_
        exact joinE hRL1_2 ⟨wl13.heap.size, bRL2⟩ trivial [0, 1, 2, 3, 5, 4] hA rfl (by kernel_rfl) (by decide)
      ·
        refine runS hA 1 [] xn on (by kernel_rfl) fun w114 hA => ?_
        exact joinE hRL2_3 ⟨bRL2, wl13.heap.size⟩ trivial [0, 1, 2, 3, 4, 5] hA rfl (by kernel_rfl) (by decide)
    refine latS hA0RL [1] (γ := Nat) (fun bRL1 => [(0, .bool false), (1, .pointer (some ⟨w3.heap.size, 0, none⟩)), (2, .pointer (some ⟨w3.heap.size + 1, 0, none⟩)), (30, (vK (exB 0) g1 3)), (31, .slice (some ⟨bRL1, 0, none⟩) 1 1)]) (fun bRL1 => [(kB g1), (kC g3), (xK (exB 0) w3.heap.size g1 3), (xK exC (w3.heap.size + 1) g3 2), ⟨bRL1, .cells #[.int .i64 1] 3 (0, 0)⟩]) (fun bRL1 => []) (fun bRL1 _ => True) ?_ (fun hRL1 => ?_)
    · rintro bRL1 wl14 _ hA
      refine manyS hA 2 [3] (by kernel_rfl) ⟨fun hA => ?_, fun hA => ?_, trivial⟩
      ·
        refine runS hA 1 [] xn on (by kernel_rfl) fun w115 hA => ?_
        exact joinE hRL1_2 ⟨bRL1, wl14.heap.size⟩ trivial [0, 1, 2, 3, 4, 5] hA rfl (by kernel_rfl) (by decide)
      ·
        refine runS hA 1 [] xn on (by kernel_rfl) fun w115 hA => ?_
        exact joinE hRL1_3 ⟨bRL1, wl14.heap.size⟩ trivial [0, 1, 2, 3, 4, 5] hA rfl (by kernel_rfl) (by decide)
    replace hA := hA0RL
    refine manyS hA 1 [2, 3] (by kernel_rfl) ⟨fun hA => ?_, fun hA => ?_, fun hA => ?_, trivial⟩
    ·
      refine runS hA 1 [] xn on (by kernel_rfl) fun w15 hA => ?_
      exact joinE hRL1 (w3.heap.size + 2) trivial [0, 1, 2, 3, 4] hA rfl (by kernel_rfl) (by decide)
    ·
      refine runS hA 1 [] xn on (by kernel_rfl) fun w15 hA => ?_
      exact joinE hRL2 (w3.heap.size + 2) trivial [0, 1, 2, 3, 4] hA rfl (by kernel_rfl) (by decide)
    ·
      refine runS hA 1 [] xn on (by kernel_rfl) fun w15 hA => ?_
      exact joinE hRL3 (w3.heap.size + 2) trivial [0, 1, 2, 3, 4] hA rfl (by kernel_rfl) (by decide)
  rintro ⟨bRL1, bRL2, bRL3, bRL4, gl, cl, ul⟩ w64 hrRL0 hA
  have hrl := hrRL0
  refine runS hA 5 ([.b true] ++ List.replicate 8 (.k 2)) xn on (by kernel_rfl) fun w65 hA => ?_
  have hAp := hA.atK [(kB g1), (kC g3), (xK (exB 0) w3.heap.size g1 3), (xK exC (w3.heap.size + 1) g3 2)] (by kernel_rfl)
  have hP := Scratch_any w65 w65.heap.size (exB 0) (some ⟨g1, 0, none⟩) 3 3 none 0 0 2 (exB_at 0 (hA.at_.ok (kB g1) (List.mem_of_getElem? (i := 0) (by kernel_rfl)))) (Nat.le_refl _)
  rw [kn2.1, kn2.2] at hP
  refine call hA [] on (hP) (by kernel_rfl) (by rintro e v ⟨A8, cbs, A9, css, rfl, hbs, ho1, ho2⟩; exact hbs) ?_
  rintro e w66 ⟨A8, cbs, A9, css, rfl, hbs, ho1, ho2⟩
  refine ⟨_, rfl, fun hA => ?_⟩
  obtain ⟨ob8, ob9, hr1s, hr2s, hA2⟩ := At.own2 hAp hbs (by decide) ho1 ho2
  obtain ⟨gbs, cz1, ubs, hv9, rfl, -⟩ : ∃ gz cz uz, Value.slice A8 (exT 2).bets.length cbs = .slice (some ⟨gz, 0, none⟩) (exT 2).bets.length cz ∧ ob8 = [⟨gz, .cells uz 53 (0, 0)⟩] ∧ True := by
    rcases hr1s.2 with ⟨-, h9, -⟩ | ⟨gz, cz, uz, h8, h9, -⟩
    · exact absurd h9 (by decide)
    · exact ⟨gz, cz, uz, h8, h9, trivial⟩
  cases hv9
  obtain ⟨gss, cz2, uss, hv9, rfl, -⟩ : ∃ gz cz uz, Value.slice A9 (exT 2).scr.length css = .slice (some ⟨gz, 0, none⟩) (exT 2).scr.length cz ∧ ob9 = [⟨gz, .cells uz 3 (0, 0)⟩] ∧ True := by
    rcases hr2s.2 with ⟨-, h9, -⟩ | ⟨gz, cz, uz, h8, h9, -⟩
    · exact absurd h9 (by decide)
    · exact ⟨gz, cz, uz, h8, h9, trivial⟩
  cases hv9
  refine reknow ⟨[(kB g1), (kC g3), (xK (exB 0) w3.heap.size g1 3), (xK exC (w3.heap.size + 1) g3 2)], w66.heap.size, [], [], [], [], []⟩ hA2 (Nat.zero_le _) fun hA => ?_
  refine runS hA 9 (List.replicate 8 (.k 4)) xn on (by kernel_rfl) fun w67 hA => ?_
  refine draw hA [true, true, true, true, true] [0, 1, 2, 3, 4, 5, 6, 7, 8, 9, 10] (by kernel_rfl) (by kernel_rfl) fun hA => ?_
  refine runS hA 1 ([.t 0] ++ List.replicate 8 (.k 4)) xn on (by kernel_rfl) fun w68 hA => ?_
  have hA0RM := hA
  refine latK hA0RM [1, 2, 3, 4, 5, 6, 7, 8, 9, 10] (γ := Nat × Nat × Nat × Nat × Nat × Array Value) (fun ⟨bRM1, bRM2, bRM3, gm, cm, um⟩ => [(0, .bool false), (1, .pointer (some ⟨w3.heap.size, 0, none⟩)), (2, .pointer (some ⟨w3.heap.size + 1, 0, none⟩)), (3, .slice (some ⟨gl, 0, none⟩) 1 cl), (4, .int .i64 0), (5, .pointer (some ⟨w66.heap.size, 0, none⟩)), (6, .int .i64 0), (7, .slice (some ⟨gm, 0, none⟩) 1 cm), (8, .int .i64 0)]) (fun ⟨bRM1, bRM2, bRM3, gm, cm, um⟩ => [(kB g1), (kC g3), (xK (exB 0) w3.heap.size g1 3), (xK exC (w3.heap.size + 1) g3 2), (xS false w66.heap.size gbs cbs gss css)]) (fun ⟨bRM1, bRM2, bRM3, gm, cm, um⟩ => [⟨gm, .cells um 66 (0, 0)⟩, ⟨gbs, .cells ubs 53 (0, 0)⟩, ⟨gss, .cells uss 3 (0, 0)⟩, ⟨gl, .cells ul 66 (0, 0)⟩]) (fun ⟨bRM1, bRM2, bRM3, gm, cm, um⟩ _ => RowV 66 3 (.slice (some ⟨gm, 0, none⟩) 1 cm) 1 (encD [((1, -1), 240)]) [⟨gm, .cells um 66 (0, 0)⟩]) (fun hRM1_2_3_4_5 => ?_) ?_
  ·
    refine latS hA0RM [1, 2, 3, 4] (γ := Nat × Nat × Nat) (fun ⟨bRM1, bRM2, bRM3⟩ => [(0, .bool false), (1, .pointer (some ⟨w3.heap.size, 0, none⟩)), (2, .pointer (some ⟨w3.heap.size + 1, 0, none⟩)), (3, .slice (some ⟨gl, 0, none⟩) 1 cl), (4, .int .i64 0), (5, .pointer (some ⟨w66.heap.size, 0, none⟩)), (6, .int .i64 0), (45, (vS false gbs cbs gss css)), (46, .slice (some ⟨bRM1, 0, none⟩) 1 1), (47, .slice (some ⟨bRM2, 0, none⟩) 1 1), (48, .slice (some ⟨bRM3, 0, none⟩) 2 2), (49, .slice (some ⟨bRM3, 0, none⟩) 2 2)]) (fun ⟨bRM1, bRM2, bRM3⟩ => [(kB g1), (kC g3), (xK (exB 0) w3.heap.size g1 3), (xK exC (w3.heap.size + 1) g3 2), (xS false w66.heap.size gbs cbs gss css), ⟨bRM1, .cells #[.int .i64 1] 3 (0, 0)⟩, ⟨bRM2, .cells #[.int .i64 0] 3 (0, 0)⟩, ⟨bRM3, .cells #[.slice (some ⟨bRM1, 0, none⟩) 1 1, .slice (some ⟨bRM2, 0, none⟩) 1 1] 23 (0, 0)⟩]) (fun ⟨bRM1, bRM2, bRM3⟩ => [⟨gbs, .cells ubs 53 (0, 0)⟩, ⟨gss, .cells uss 3 (0, 0)⟩, ⟨gl, .cells ul 66 (0, 0)⟩]) (fun ⟨bRM1, bRM2, bRM3⟩ _ => True) ?_ (fun hRM1_2_3_4 => ?_)
    · rintro ⟨bRM1, bRM2, bRM3⟩ wl69 _ hA
      have hAp := hA.atK [(kB g1), (kC g3), (xK (exB 0) w3.heap.size g1 3), (xK exC (w3.heap.size + 1) g3 2), (xS false w66.heap.size gbs cbs gss css), ⟨bRM1, .cells #[.int .i64 1] 3 (0, 0)⟩, ⟨bRM2, .cells #[.int .i64 0] 3 (0, 0)⟩, ⟨bRM3, .cells #[.slice (some ⟨bRM1, 0, none⟩) 1 1, .slice (some ⟨bRM2, 0, none⟩) 1 1] 23 (0, 0)⟩] (by kernel_rfl)
      have hP := Dividends_any wl69 wl69.heap.size (exT 2) (some ⟨gbs, 0, none⟩) 3 cbs (some ⟨gss, 0, none⟩) 1 css (some ⟨bRM3, 0, none⟩) 2 2 [[1], [0]] (rows_at (b := exT 2) (n := 3) (m := 1) hr1s hr2s (hA.at_.rok ⟨gbs, .cells ubs 53 (0, 0)⟩ (by simp)) (hA.at_.rok ⟨gss, .cells uss 3 (0, 0)⟩ (by simp)) (by decide) (by decide)) (fin2 (hA.at_.ok ⟨bRM3, .cells #[.slice (some ⟨bRM1, 0, none⟩) 1 1, .slice (some ⟨bRM2, 0, none⟩) 1 1] 23 (0, 0)⟩ (List.mem_of_getElem? (i := 7) (by kernel_rfl))) (xs0 := [1]) (hA.at_.ok ⟨bRM1, .cells #[.int .i64 1] 3 (0, 0)⟩ (List.mem_of_getElem? (i := 5) (by kernel_rfl))) (by decide) (xs1 := [0]) (hA.at_.ok ⟨bRM2, .cells #[.int .i64 0] 3 (0, 0)⟩ (List.mem_of_getElem? (i := 6) (by kernel_rfl))) (by decide)) (Nat.le_refl _)
      rw [kn3.1, kn3.2] at hP
      refine call hA [] on (hP) (by kernel_rfl) (by rintro e v ⟨v, rfl, hbd, hown, hnil⟩; exact hbd) ?_
      rintro e w170 ⟨v, rfl, hbd, hown, hnil⟩
      refine ⟨_, rfl, fun hA => ?_⟩
      obtain ⟨ob9, hr9, hA2⟩ := At.own hAp hbd hown
      obtain ⟨gm, cm, um, hv9, rfl, -⟩ : ∃ gz cz uz, v = .slice (some ⟨gz, 0, none⟩) 1 cz ∧ ob9 = [⟨gz, .cells uz 66 (0, 0)⟩] ∧ True := by
        rcases hr9.2 with ⟨-, h9, -⟩ | ⟨gz, cz, uz, h8, h9, -⟩
        · exact absurd h9 (by decide)
        · exact ⟨gz, cz, uz, h8, h9, trivial⟩
      cases hv9
      refine reknow ⟨[(kB g1), (kC g3), (xK (exB 0) w3.heap.size g1 3), (xK exC (w3.heap.size + 1) g3 2), (xS false w66.heap.size gbs cbs gss css), ⟨bRM1, .cells #[.int .i64 1] 3 (0, 0)⟩, ⟨bRM2, .cells #[.int .i64 0] 3 (0, 0)⟩, ⟨bRM3, .cells #[.slice (some ⟨bRM1, 0, none⟩) 1 1, .slice (some ⟨bRM2, 0, none⟩) 1 1] 23 (0, 0)⟩], w170.heap.size, [], [], [], [], []⟩ hA2 (Nat.zero_le _) fun hA => ?_
      refine runS hA 5 [.t 6, .t 7, .t 8, .t 9, .t 10] xn on (by kernel_rfl) fun w171 hA => ?_
      exact joinE hRM1_2_3_4_5 ⟨bRM1, bRM2, bRM3, gm, cm, um⟩ hr9 [0, 1, 2, 3, 4] hA rfl (by kernel_rfl) (by decide)
    refine latS hA0RM [1, 2, 3] (γ := Nat × Nat × Nat) (fun ⟨bRM1, bRM2, bRM3⟩ => [(0, .bool false), (1, .pointer (some ⟨w3.heap.size, 0, none⟩)), (2, .pointer (some ⟨w3.heap.size + 1, 0, none⟩)), (3, .slice (some ⟨gl, 0, none⟩) 1 cl), (4, .int .i64 0), (5, .pointer (some ⟨w66.heap.size, 0, none⟩)), (6, .int .i64 0), (45, (vS false gbs cbs gss css)), (46, .slice (some ⟨bRM1, 0, none⟩) 1 1), (47, .slice (some ⟨bRM2, 0, none⟩) 1 1), (48, .slice (some ⟨bRM3, 0, none⟩) 2 2)]) (fun ⟨bRM1, bRM2, bRM3⟩ => [(kB g1), (kC g3), (xK (exB 0) w3.heap.size g1 3), (xK exC (w3.heap.size + 1) g3 2), (xS false w66.heap.size gbs cbs gss css), ⟨bRM1, .cells #[.int .i64 1] 3 (0, 0)⟩, ⟨bRM2, .cells #[.int .i64 0] 3 (0, 0)⟩, ⟨bRM3, .cells #[.slice (some ⟨bRM1, 0, none⟩) 1 1, .slice (some ⟨bRM2, 0, none⟩) 1 1] 23 (0, 0)⟩]) (fun ⟨bRM1, bRM2, bRM3⟩ => [⟨gbs, .cells ubs 53 (0, 0)⟩, ⟨gss, .cells uss 3 (0, 0)⟩, ⟨gl, .cells ul 66 (0, 0)⟩]) (fun ⟨bRM1, bRM2, bRM3⟩ _ => True) ?_ (fun hRM1_2_3 => ?_)
    · rintro ⟨bRM1, bRM2, bRM3⟩ wl70 _ hA
      refine callB hA [] on (in_any wl70 (some ⟨bRM3, 0, none⟩) 2 2) (by kernel_rfl) fun w171 hb171 hA => ?_
      exact joinE hRM1_2_3_4 ⟨bRM1, bRM2, bRM3⟩ trivial [0, 1, 2, 3, 4, 5, 6, 7] hA rfl (by kernel_rfl) (by decide)
    refine latS hA0RM [1, 2] (γ := Nat × Nat) (fun ⟨bRM1, bRM2⟩ => [(0, .bool false), (1, .pointer (some ⟨w3.heap.size, 0, none⟩)), (2, .pointer (some ⟨w3.heap.size + 1, 0, none⟩)), (3, .slice (some ⟨gl, 0, none⟩) 1 cl), (4, .int .i64 0), (5, .pointer (some ⟨w66.heap.size, 0, none⟩)), (6, .int .i64 0), (45, (vS false gbs cbs gss css)), (46, .slice (some ⟨bRM1, 0, none⟩) 1 1), (47, .slice (some ⟨bRM2, 0, none⟩) 1 1)]) (fun ⟨bRM1, bRM2⟩ => [(kB g1), (kC g3), (xK (exB 0) w3.heap.size g1 3), (xK exC (w3.heap.size + 1) g3 2), (xS false w66.heap.size gbs cbs gss css), ⟨bRM1, .cells #[.int .i64 1] 3 (0, 0)⟩, ⟨bRM2, .cells #[.int .i64 0] 3 (0, 0)⟩]) (fun ⟨bRM1, bRM2⟩ => [⟨gbs, .cells ubs 53 (0, 0)⟩, ⟨gss, .cells uss 3 (0, 0)⟩, ⟨gl, .cells ul 66 (0, 0)⟩]) (fun ⟨bRM1, bRM2⟩ _ => True) ?_ (fun hRM1_2 => ?_)
    · rintro ⟨bRM1, bRM2⟩ wl71 _ hA
      refine runS hA 1 [.h 3] xn on (by kernel_rfl) fun w172 hA => ?_
      exact joinE hRM1_2_3 ⟨bRM1, bRM2, wl71.heap.size⟩ trivial [0, 1, 2, 3, 4, 5, 6, 7] hA rfl (by kernel_rfl) (by decide)
    refine latS hA0RM [2] (γ := Nat) (fun bRM2 => [(0, .bool false), (1, .pointer (some ⟨w3.heap.size, 0, none⟩)), (2, .pointer (some ⟨w3.heap.size + 1, 0, none⟩)), (3, .slice (some ⟨gl, 0, none⟩) 1 cl), (4, .int .i64 0), (5, .pointer (some ⟨w66.heap.size, 0, none⟩)), (6, .int .i64 0), (45, (vS false gbs cbs gss css)), (47, .slice (some ⟨bRM2, 0, none⟩) 1 1)]) (fun bRM2 => [(kB g1), (kC g3), (xK (exB 0) w3.heap.size g1 3), (xK exC (w3.heap.size + 1) g3 2), (xS false w66.heap.size gbs cbs gss css), ⟨bRM2, .cells #[.int .i64 0] 3 (0, 0)⟩]) (fun bRM2 => [⟨gbs, .cells ubs 53 (0, 0)⟩, ⟨gss, .cells uss 3 (0, 0)⟩, ⟨gl, .cells ul 66 (0, 0)⟩]) (fun bRM2 _ => True) ?_ (fun hRM2 => ?_)
    · rintro bRM2 wl72 _ hA
      refine runS hA 1 [.h 1] xn on (by kernel_rfl) fun w173 hA => ?_
      exact joinE hRM1_2 ⟨wl72.heap.size, bRM2⟩ trivial [0, 1, 2, 3, 4, 6, 5] hA rfl (by kernel_rfl) (by decide)
    refine latS hA0RM [1] (γ := Nat) (fun bRM1 => [(0, .bool false), (1, .pointer (some ⟨w3.heap.size, 0, none⟩)), (2, .pointer (some ⟨w3.heap.size + 1, 0, none⟩)), (3, .slice (some ⟨gl, 0, none⟩) 1 cl), (4, .int .i64 0), (5, .pointer (some ⟨w66.heap.size, 0, none⟩)), (6, .int .i64 0), (45, (vS false gbs cbs gss css)), (46, .slice (some ⟨bRM1, 0, none⟩) 1 1)]) (fun bRM1 => [(kB g1), (kC g3), (xK (exB 0) w3.heap.size g1 3), (xK exC (w3.heap.size + 1) g3 2), (xS false w66.heap.size gbs cbs gss css), ⟨bRM1, .cells #[.int .i64 1] 3 (0, 0)⟩]) (fun bRM1 => [⟨gbs, .cells ubs 53 (0, 0)⟩, ⟨gss, .cells uss 3 (0, 0)⟩, ⟨gl, .cells ul 66 (0, 0)⟩]) (fun bRM1 _ => True) ?_ (fun hRM1 => ?_)
    · rintro bRM1 wl73 _ hA
      refine runS hA 1 [.h 2] xn on (by kernel_rfl) fun w174 hA => ?_
      exact joinE hRM1_2 ⟨bRM1, wl73.heap.size⟩ trivial [0, 1, 2, 3, 4, 5, 6] hA rfl (by kernel_rfl) (by decide)
    replace hA := hA0RM
    refine manyS hA 1 [2] (by kernel_rfl) ⟨fun hA => ?_, fun hA => ?_, trivial⟩
    ·
      refine runS hA 1 [] xn on (by kernel_rfl) fun w74 hA => ?_
      exact joinE hRM1 (w66.heap.size + 1) trivial [0, 1, 2, 3, 4, 5] hA rfl (by kernel_rfl) (by decide)
    ·
      refine runS hA 1 [] xn on (by kernel_rfl) fun w74 hA => ?_
      exact joinE hRM2 (w66.heap.size + 1) trivial [0, 1, 2, 3, 4, 5] hA rfl (by kernel_rfl) (by decide)
  rintro ⟨bRM1, bRM2, bRM3, gm, cm, um⟩ w123 hrRM0 hA
  have hrm := hrRM0
  refine runS hA 3 [.b true] xn on (by kernel_rfl) fun w124 hA => ?_
  refine draw hA [true, true, true, true, true] [0, 1, 2, 3, 4, 5, 6, 7, 8, 9, 10] (by kernel_rfl) (by kernel_rfl) fun hA => ?_
  refine runS hA 1 ([.t 0] ++ List.replicate 8 (.k 4)) xn on (by kernel_rfl) fun w125 hA => ?_
  have hA0RN := hA
  refine latK hA0RN [1, 2, 3, 4, 5, 6, 7, 8, 9, 10] (γ := Nat × Nat × Nat) (fun ⟨bRN1, bRN2, bRN3⟩ => [(0, .bool false), (1, .pointer (some ⟨w3.heap.size, 0, none⟩)), (2, .pointer (some ⟨w3.heap.size + 1, 0, none⟩)), (3, .slice (some ⟨gl, 0, none⟩) 1 cl), (4, .int .i64 0), (6, .int .i64 0), (7, .slice (some ⟨gm, 0, none⟩) 1 cm), (8, .int .i64 0), (9, .int .i64 200), (10, .int .i64 0)]) (fun ⟨bRN1, bRN2, bRN3⟩ => [(kB g1), (kC g3), (xK (exB 0) w3.heap.size g1 3), (xK exC (w3.heap.size + 1) g3 2), (xS false w66.heap.size gbs cbs gss css)]) (fun ⟨bRN1, bRN2, bRN3⟩ => [⟨gm, .cells um 66 (0, 0)⟩, ⟨gbs, .cells ubs 53 (0, 0)⟩, ⟨gss, .cells uss 3 (0, 0)⟩, ⟨gl, .cells ul 66 (0, 0)⟩]) (fun ⟨bRN1, bRN2, bRN3⟩ _ => True) (fun hRN1_2_3_4_5 => ?_) ?_
  ·
    refine latS hA0RN [1, 2, 3, 4] (γ := Nat × Nat × Nat) (fun ⟨bRN1, bRN2, bRN3⟩ => [(0, .bool false), (1, .pointer (some ⟨w3.heap.size, 0, none⟩)), (2, .pointer (some ⟨w3.heap.size + 1, 0, none⟩)), (3, .slice (some ⟨gl, 0, none⟩) 1 cl), (4, .int .i64 0), (5, .pointer (some ⟨w66.heap.size, 0, none⟩)), (6, .int .i64 0), (7, .slice (some ⟨gm, 0, none⟩) 1 cm), (8, .int .i64 0), (54, (vS false gbs cbs gss css)), (55, .slice (some ⟨bRN1, 0, none⟩) 1 1), (56, .slice (some ⟨bRN2, 0, none⟩) 1 1), (57, .slice (some ⟨bRN3, 0, none⟩) 2 2), (58, .slice (some ⟨bRN3, 0, none⟩) 2 2)]) (fun ⟨bRN1, bRN2, bRN3⟩ => [(kB g1), (kC g3), (xK (exB 0) w3.heap.size g1 3), (xK exC (w3.heap.size + 1) g3 2), (xS false w66.heap.size gbs cbs gss css), ⟨bRN1, .cells #[.int .i64 1] 3 (0, 0)⟩, ⟨bRN2, .cells #[.int .i64 0] 3 (0, 0)⟩, ⟨bRN3, .cells #[.slice (some ⟨bRN1, 0, none⟩) 1 1, .slice (some ⟨bRN2, 0, none⟩) 1 1] 23 (0, 0)⟩]) (fun ⟨bRN1, bRN2, bRN3⟩ => [⟨gm, .cells um 66 (0, 0)⟩, ⟨gbs, .cells ubs 53 (0, 0)⟩, ⟨gss, .cells uss 3 (0, 0)⟩, ⟨gl, .cells ul 66 (0, 0)⟩]) (fun ⟨bRN1, bRN2, bRN3⟩ _ => True) ?_ (fun hRN1_2_3_4 => ?_)
    · rintro ⟨bRN1, bRN2, bRN3⟩ wl126 _ hA
      have hP := Pay_any wl126 wl126.heap.size (exT 2) (some ⟨gbs, 0, none⟩) 3 cbs (some ⟨gss, 0, none⟩) 1 css (some ⟨bRN3, 0, none⟩) 2 2 [[1], [0]] (rows_at (b := exT 2) (n := 3) (m := 1) hr1s hr2s (hA.at_.rok ⟨gbs, .cells ubs 53 (0, 0)⟩ (by simp)) (hA.at_.rok ⟨gss, .cells uss 3 (0, 0)⟩ (by simp)) (by decide) (by decide)) (fin2 (hA.at_.ok ⟨bRN3, .cells #[.slice (some ⟨bRN1, 0, none⟩) 1 1, .slice (some ⟨bRN2, 0, none⟩) 1 1] 23 (0, 0)⟩ (List.mem_of_getElem? (i := 7) (by kernel_rfl))) (xs0 := [1]) (hA.at_.ok ⟨bRN1, .cells #[.int .i64 1] 3 (0, 0)⟩ (List.mem_of_getElem? (i := 5) (by kernel_rfl))) (by decide) (xs1 := [0]) (hA.at_.ok ⟨bRN2, .cells #[.int .i64 0] 3 (0, 0)⟩ (List.mem_of_getElem? (i := 6) (by kernel_rfl))) (by decide)) (Nat.le_refl _) 2
      rw [kn4.1, kn4.2] at hP
      refine callB hA [] on (hP) (by kernel_rfl) fun w227 hb227 hA => ?_
      refine runS hA 5 [.t 6, .t 7, .t 8, .t 9, .t 10] xn on (by kernel_rfl) fun w228 hA => ?_
      exact joinE hRN1_2_3_4_5 ⟨bRN1, bRN2, bRN3⟩ trivial [0, 1, 2, 3, 4] hA rfl (by kernel_rfl) (by decide)
    refine latS hA0RN [1, 2, 3] (γ := Nat × Nat × Nat) (fun ⟨bRN1, bRN2, bRN3⟩ => [(0, .bool false), (1, .pointer (some ⟨w3.heap.size, 0, none⟩)), (2, .pointer (some ⟨w3.heap.size + 1, 0, none⟩)), (3, .slice (some ⟨gl, 0, none⟩) 1 cl), (4, .int .i64 0), (5, .pointer (some ⟨w66.heap.size, 0, none⟩)), (6, .int .i64 0), (7, .slice (some ⟨gm, 0, none⟩) 1 cm), (8, .int .i64 0), (54, (vS false gbs cbs gss css)), (55, .slice (some ⟨bRN1, 0, none⟩) 1 1), (56, .slice (some ⟨bRN2, 0, none⟩) 1 1), (57, .slice (some ⟨bRN3, 0, none⟩) 2 2)]) (fun ⟨bRN1, bRN2, bRN3⟩ => [(kB g1), (kC g3), (xK (exB 0) w3.heap.size g1 3), (xK exC (w3.heap.size + 1) g3 2), (xS false w66.heap.size gbs cbs gss css), ⟨bRN1, .cells #[.int .i64 1] 3 (0, 0)⟩, ⟨bRN2, .cells #[.int .i64 0] 3 (0, 0)⟩, ⟨bRN3, .cells #[.slice (some ⟨bRN1, 0, none⟩) 1 1, .slice (some ⟨bRN2, 0, none⟩) 1 1] 23 (0, 0)⟩]) (fun ⟨bRN1, bRN2, bRN3⟩ => [⟨gm, .cells um 66 (0, 0)⟩, ⟨gbs, .cells ubs 53 (0, 0)⟩, ⟨gss, .cells uss 3 (0, 0)⟩, ⟨gl, .cells ul 66 (0, 0)⟩]) (fun ⟨bRN1, bRN2, bRN3⟩ _ => True) ?_ (fun hRN1_2_3 => ?_)
    · rintro ⟨bRN1, bRN2, bRN3⟩ wl127 _ hA
      refine callB hA [] on (in_any wl127 (some ⟨bRN3, 0, none⟩) 2 2) (by kernel_rfl) fun w228 hb228 hA => ?_
      exact joinE hRN1_2_3_4 ⟨bRN1, bRN2, bRN3⟩ trivial [0, 1, 2, 3, 4, 5, 6, 7] hA rfl (by kernel_rfl) (by decide)
    refine latS hA0RN [1, 2] (γ := Nat × Nat) (fun ⟨bRN1, bRN2⟩ => [(0, .bool false), (1, .pointer (some ⟨w3.heap.size, 0, none⟩)), (2, .pointer (some ⟨w3.heap.size + 1, 0, none⟩)), (3, .slice (some ⟨gl, 0, none⟩) 1 cl), (4, .int .i64 0), (5, .pointer (some ⟨w66.heap.size, 0, none⟩)), (6, .int .i64 0), (7, .slice (some ⟨gm, 0, none⟩) 1 cm), (8, .int .i64 0), (54, (vS false gbs cbs gss css)), (55, .slice (some ⟨bRN1, 0, none⟩) 1 1), (56, .slice (some ⟨bRN2, 0, none⟩) 1 1)]) (fun ⟨bRN1, bRN2⟩ => [(kB g1), (kC g3), (xK (exB 0) w3.heap.size g1 3), (xK exC (w3.heap.size + 1) g3 2), (xS false w66.heap.size gbs cbs gss css), ⟨bRN1, .cells #[.int .i64 1] 3 (0, 0)⟩, ⟨bRN2, .cells #[.int .i64 0] 3 (0, 0)⟩]) (fun ⟨bRN1, bRN2⟩ => [⟨gm, .cells um 66 (0, 0)⟩, ⟨gbs, .cells ubs 53 (0, 0)⟩, ⟨gss, .cells uss 3 (0, 0)⟩, ⟨gl, .cells ul 66 (0, 0)⟩]) (fun ⟨bRN1, bRN2⟩ _ => True) ?_ (fun hRN1_2 => ?_)
    · rintro ⟨bRN1, bRN2⟩ wl128 _ hA
      refine runS hA 1 [.h 3] xn on (by kernel_rfl) fun w229 hA => ?_
      exact joinE hRN1_2_3 ⟨bRN1, bRN2, wl128.heap.size⟩ trivial [0, 1, 2, 3, 4, 5, 6, 7] hA rfl (by kernel_rfl) (by decide)
    refine latS hA0RN [2] (γ := Nat) (fun bRN2 => [(0, .bool false), (1, .pointer (some ⟨w3.heap.size, 0, none⟩)), (2, .pointer (some ⟨w3.heap.size + 1, 0, none⟩)), (3, .slice (some ⟨gl, 0, none⟩) 1 cl), (4, .int .i64 0), (5, .pointer (some ⟨w66.heap.size, 0, none⟩)), (6, .int .i64 0), (7, .slice (some ⟨gm, 0, none⟩) 1 cm), (8, .int .i64 0), (54, (vS false gbs cbs gss css)), (56, .slice (some ⟨bRN2, 0, none⟩) 1 1)]) (fun bRN2 => [(kB g1), (kC g3), (xK (exB 0) w3.heap.size g1 3), (xK exC (w3.heap.size + 1) g3 2), (xS false w66.heap.size gbs cbs gss css), ⟨bRN2, .cells #[.int .i64 0] 3 (0, 0)⟩]) (fun bRN2 => [⟨gm, .cells um 66 (0, 0)⟩, ⟨gbs, .cells ubs 53 (0, 0)⟩, ⟨gss, .cells uss 3 (0, 0)⟩, ⟨gl, .cells ul 66 (0, 0)⟩]) (fun bRN2 _ => True) ?_ (fun hRN2 => ?_)
    · rintro bRN2 wl129 _ hA
      refine runS hA 1 [.h 1] xn on (by kernel_rfl) fun w230 hA => ?_
      exact joinE hRN1_2 ⟨wl129.heap.size, bRN2⟩ trivial [0, 1, 2, 3, 4, 6, 5] hA rfl (by kernel_rfl) (by decide)
    refine latS hA0RN [1] (γ := Nat) (fun bRN1 => [(0, .bool false), (1, .pointer (some ⟨w3.heap.size, 0, none⟩)), (2, .pointer (some ⟨w3.heap.size + 1, 0, none⟩)), (3, .slice (some ⟨gl, 0, none⟩) 1 cl), (4, .int .i64 0), (5, .pointer (some ⟨w66.heap.size, 0, none⟩)), (6, .int .i64 0), (7, .slice (some ⟨gm, 0, none⟩) 1 cm), (8, .int .i64 0), (54, (vS false gbs cbs gss css)), (55, .slice (some ⟨bRN1, 0, none⟩) 1 1)]) (fun bRN1 => [(kB g1), (kC g3), (xK (exB 0) w3.heap.size g1 3), (xK exC (w3.heap.size + 1) g3 2), (xS false w66.heap.size gbs cbs gss css), ⟨bRN1, .cells #[.int .i64 1] 3 (0, 0)⟩]) (fun bRN1 => [⟨gm, .cells um 66 (0, 0)⟩, ⟨gbs, .cells ubs 53 (0, 0)⟩, ⟨gss, .cells uss 3 (0, 0)⟩, ⟨gl, .cells ul 66 (0, 0)⟩]) (fun bRN1 _ => True) ?_ (fun hRN1 => ?_)
    · rintro bRN1 wl130 _ hA
      refine runS hA 1 [.h 2] xn on (by kernel_rfl) fun w231 hA => ?_
      exact joinE hRN1_2 ⟨bRN1, wl130.heap.size⟩ trivial [0, 1, 2, 3, 4, 5, 6] hA rfl (by kernel_rfl) (by decide)
    replace hA := hA0RN
    refine manyS hA 1 [2] (by kernel_rfl) ⟨fun hA => ?_, fun hA => ?_, trivial⟩
    ·
      refine runS hA 1 [] xn on (by kernel_rfl) fun w131 hA => ?_
      exact joinE hRN1 w123.heap.size trivial [0, 1, 2, 3, 4, 5] hA rfl (by kernel_rfl) (by decide)
    ·
      refine runS hA 1 [] xn on (by kernel_rfl) fun w131 hA => ?_
      exact joinE hRN2 w123.heap.size trivial [0, 1, 2, 3, 4, 5] hA rfl (by kernel_rfl) (by decide)
  rintro ⟨bRN1, bRN2, bRN3⟩ w180 _ hA
  refine runS hA 3 [.b true] xn on (by kernel_rfl) fun w181 hA => ?_
  refine draw hA [true, true, true, true, true] [0, 1, 2, 3, 4, 5, 6, 7, 8, 9, 10] (by kernel_rfl) (by kernel_rfl) fun hA => ?_
  refine runS hA 1 ([.t 0] ++ List.replicate 8 (.k 2)) xn on (by kernel_rfl) fun w182 hA => ?_
  have hA0RK := hA
  refine latK hA0RK [1, 2, 3, 4, 5, 6, 7, 8, 9, 10] (γ := Nat × Nat × Nat) (fun ⟨bRK1, bRK2, bRK3⟩ => [(0, .bool false), (1, .pointer (some ⟨w3.heap.size, 0, none⟩)), (2, .pointer (some ⟨w3.heap.size + 1, 0, none⟩)), (3, .slice (some ⟨gl, 0, none⟩) 1 cl), (4, .int .i64 0), (6, .int .i64 0), (7, .slice (some ⟨gm, 0, none⟩) 1 cm), (8, .int .i64 0), (9, .int .i64 200), (10, .int .i64 0), (11, .int .i64 0), (12, .int .i64 0)]) (fun ⟨bRK1, bRK2, bRK3⟩ => [(kB g1), (kC g3), (xK (exB 0) w3.heap.size g1 3), (xK exC (w3.heap.size + 1) g3 2), (xS false w66.heap.size gbs cbs gss css)]) (fun ⟨bRK1, bRK2, bRK3⟩ => [⟨gm, .cells um 66 (0, 0)⟩, ⟨gbs, .cells ubs 53 (0, 0)⟩, ⟨gss, .cells uss 3 (0, 0)⟩, ⟨gl, .cells ul 66 (0, 0)⟩]) (fun ⟨bRK1, bRK2, bRK3⟩ _ => True) (fun hRK1_2_3_4_5 => ?_) ?_
  ·
    refine latS hA0RK [1, 2, 3, 4] (γ := Nat × Nat × Nat) (fun ⟨bRK1, bRK2, bRK3⟩ => [(0, .bool false), (1, .pointer (some ⟨w3.heap.size, 0, none⟩)), (2, .pointer (some ⟨w3.heap.size + 1, 0, none⟩)), (3, .slice (some ⟨gl, 0, none⟩) 1 cl), (4, .int .i64 0), (6, .int .i64 0), (7, .slice (some ⟨gm, 0, none⟩) 1 cm), (8, .int .i64 0), (9, .int .i64 200), (10, .int .i64 0), (63, (vK (exB 0) g1 3)), (64, .slice (some ⟨bRK1, 0, none⟩) 2 2), (65, .slice (some ⟨bRK2, 0, none⟩) 1 1), (66, .slice (some ⟨bRK3, 0, none⟩) 2 2), (67, .slice (some ⟨bRK3, 0, none⟩) 2 2)]) (fun ⟨bRK1, bRK2, bRK3⟩ => [(kB g1), (kC g3), (xK (exB 0) w3.heap.size g1 3), (xK exC (w3.heap.size + 1) g3 2), (xS false w66.heap.size gbs cbs gss css), ⟨bRK1, .cells #[.int .i64 0, .int .i64 1] 3 (0, 0)⟩, ⟨bRK2, .cells #[.int .i64 2] 3 (0, 0)⟩, ⟨bRK3, .cells #[.slice (some ⟨bRK1, 0, none⟩) 2 2, .slice (some ⟨bRK2, 0, none⟩) 1 1] 23 (0, 0)⟩]) (fun ⟨bRK1, bRK2, bRK3⟩ => [⟨gm, .cells um 66 (0, 0)⟩, ⟨gbs, .cells ubs 53 (0, 0)⟩, ⟨gss, .cells uss 3 (0, 0)⟩, ⟨gl, .cells ul 66 (0, 0)⟩]) (fun ⟨bRK1, bRK2, bRK3⟩ _ => True) ?_ (fun hRK1_2_3_4 => ?_)
    · rintro ⟨bRK1, bRK2, bRK3⟩ wl183 _ hA
      have hP := Pay_any wl183 wl183.heap.size (exB 0) (some ⟨g1, 0, none⟩) 3 3 none 0 0 (some ⟨bRK3, 0, none⟩) 2 2 [[0, 1], [2]] (exB_at 0 (hA.at_.ok (kB g1) (List.mem_of_getElem? (i := 0) (by kernel_rfl)))) (fin2 (hA.at_.ok ⟨bRK3, .cells #[.slice (some ⟨bRK1, 0, none⟩) 2 2, .slice (some ⟨bRK2, 0, none⟩) 1 1] 23 (0, 0)⟩ (List.mem_of_getElem? (i := 7) (by kernel_rfl))) (xs0 := [0, 1]) (hA.at_.ok ⟨bRK1, .cells #[.int .i64 0, .int .i64 1] 3 (0, 0)⟩ (List.mem_of_getElem? (i := 5) (by kernel_rfl))) (by decide) (xs1 := [2]) (hA.at_.ok ⟨bRK2, .cells #[.int .i64 2] 3 (0, 0)⟩ (List.mem_of_getElem? (i := 6) (by kernel_rfl))) (by decide)) (Nat.le_refl _) 2
      rw [kn5.1, kn5.2] at hP
      refine callB hA [] on (hP) (by kernel_rfl) fun w284 hb284 hA => ?_
      refine runS hA 5 [.t 6, .t 7, .t 8, .t 9, .t 10] xn on (by kernel_rfl) fun w285 hA => ?_
      exact joinE hRK1_2_3_4_5 ⟨bRK1, bRK2, bRK3⟩ trivial [0, 1, 2, 3, 4] hA rfl (by kernel_rfl) (by decide)
    refine latS hA0RK [1, 2, 3] (γ := Nat × Nat × Nat) (fun ⟨bRK1, bRK2, bRK3⟩ => [(0, .bool false), (1, .pointer (some ⟨w3.heap.size, 0, none⟩)), (2, .pointer (some ⟨w3.heap.size + 1, 0, none⟩)), (3, .slice (some ⟨gl, 0, none⟩) 1 cl), (4, .int .i64 0), (6, .int .i64 0), (7, .slice (some ⟨gm, 0, none⟩) 1 cm), (8, .int .i64 0), (9, .int .i64 200), (10, .int .i64 0), (63, (vK (exB 0) g1 3)), (64, .slice (some ⟨bRK1, 0, none⟩) 2 2), (65, .slice (some ⟨bRK2, 0, none⟩) 1 1), (66, .slice (some ⟨bRK3, 0, none⟩) 2 2)]) (fun ⟨bRK1, bRK2, bRK3⟩ => [(kB g1), (kC g3), (xK (exB 0) w3.heap.size g1 3), (xK exC (w3.heap.size + 1) g3 2), (xS false w66.heap.size gbs cbs gss css), ⟨bRK1, .cells #[.int .i64 0, .int .i64 1] 3 (0, 0)⟩, ⟨bRK2, .cells #[.int .i64 2] 3 (0, 0)⟩, ⟨bRK3, .cells #[.slice (some ⟨bRK1, 0, none⟩) 2 2, .slice (some ⟨bRK2, 0, none⟩) 1 1] 23 (0, 0)⟩]) (fun ⟨bRK1, bRK2, bRK3⟩ => [⟨gm, .cells um 66 (0, 0)⟩, ⟨gbs, .cells ubs 53 (0, 0)⟩, ⟨gss, .cells uss 3 (0, 0)⟩, ⟨gl, .cells ul 66 (0, 0)⟩]) (fun ⟨bRK1, bRK2, bRK3⟩ _ => True) ?_ (fun hRK1_2_3 => ?_)
    · rintro ⟨bRK1, bRK2, bRK3⟩ wl184 _ hA
      refine callB hA [] on (in_any wl184 (some ⟨bRK3, 0, none⟩) 2 2) (by kernel_rfl) fun w285 hb285 hA => ?_
      exact joinE hRK1_2_3_4 ⟨bRK1, bRK2, bRK3⟩ trivial [0, 1, 2, 3, 4, 5, 6, 7] hA rfl (by kernel_rfl) (by decide)
    refine latS hA0RK [1, 2] (γ := Nat × Nat) (fun ⟨bRK1, bRK2⟩ => [(0, .bool false), (1, .pointer (some ⟨w3.heap.size, 0, none⟩)), (2, .pointer (some ⟨w3.heap.size + 1, 0, none⟩)), (3, .slice (some ⟨gl, 0, none⟩) 1 cl), (4, .int .i64 0), (6, .int .i64 0), (7, .slice (some ⟨gm, 0, none⟩) 1 cm), (8, .int .i64 0), (9, .int .i64 200), (10, .int .i64 0), (63, (vK (exB 0) g1 3)), (64, .slice (some ⟨bRK1, 0, none⟩) 2 2), (65, .slice (some ⟨bRK2, 0, none⟩) 1 1)]) (fun ⟨bRK1, bRK2⟩ => [(kB g1), (kC g3), (xK (exB 0) w3.heap.size g1 3), (xK exC (w3.heap.size + 1) g3 2), (xS false w66.heap.size gbs cbs gss css), ⟨bRK1, .cells #[.int .i64 0, .int .i64 1] 3 (0, 0)⟩, ⟨bRK2, .cells #[.int .i64 2] 3 (0, 0)⟩]) (fun ⟨bRK1, bRK2⟩ => [⟨gm, .cells um 66 (0, 0)⟩, ⟨gbs, .cells ubs 53 (0, 0)⟩, ⟨gss, .cells uss 3 (0, 0)⟩, ⟨gl, .cells ul 66 (0, 0)⟩]) (fun ⟨bRK1, bRK2⟩ _ => True) ?_ (fun hRK1_2 => ?_)
    · rintro ⟨bRK1, bRK2⟩ wl185 _ hA
      refine runS hA 1 [.h 3] xn on (by kernel_rfl) fun w286 hA => ?_
      exact joinE hRK1_2_3 ⟨bRK1, bRK2, wl185.heap.size⟩ trivial [0, 1, 2, 3, 4, 5, 6, 7] hA rfl (by kernel_rfl) (by decide)
    refine latS hA0RK [2] (γ := Nat) (fun bRK2 => [(0, .bool false), (1, .pointer (some ⟨w3.heap.size, 0, none⟩)), (2, .pointer (some ⟨w3.heap.size + 1, 0, none⟩)), (3, .slice (some ⟨gl, 0, none⟩) 1 cl), (4, .int .i64 0), (6, .int .i64 0), (7, .slice (some ⟨gm, 0, none⟩) 1 cm), (8, .int .i64 0), (9, .int .i64 200), (10, .int .i64 0), (63, (vK (exB 0) g1 3)), (65, .slice (some ⟨bRK2, 0, none⟩) 1 1)]) (fun bRK2 => [(kB g1), (kC g3), (xK (exB 0) w3.heap.size g1 3), (xK exC (w3.heap.size + 1) g3 2), (xS false w66.heap.size gbs cbs gss css), ⟨bRK2, .cells #[.int .i64 2] 3 (0, 0)⟩]) (fun bRK2 => [⟨gm, .cells um 66 (0, 0)⟩, ⟨gbs, .cells ubs 53 (0, 0)⟩, ⟨gss, .cells uss 3 (0, 0)⟩, ⟨gl, .cells ul 66 (0, 0)⟩]) (fun bRK2 _ => True) ?_ (fun hRK2 => ?_)
    · rintro bRK2 wl186 _ hA
      refine runS hA 1 [.h 1] xn on (by kernel_rfl) fun w287 hA => ?_
      exact joinE hRK1_2 ⟨wl186.heap.size, bRK2⟩ trivial [0, 1, 2, 3, 4, 6, 5] hA rfl (by kernel_rfl) (by decide)
    refine latS hA0RK [1] (γ := Nat) (fun bRK1 => [(0, .bool false), (1, .pointer (some ⟨w3.heap.size, 0, none⟩)), (2, .pointer (some ⟨w3.heap.size + 1, 0, none⟩)), (3, .slice (some ⟨gl, 0, none⟩) 1 cl), (4, .int .i64 0), (6, .int .i64 0), (7, .slice (some ⟨gm, 0, none⟩) 1 cm), (8, .int .i64 0), (9, .int .i64 200), (10, .int .i64 0), (63, (vK (exB 0) g1 3)), (64, .slice (some ⟨bRK1, 0, none⟩) 2 2)]) (fun bRK1 => [(kB g1), (kC g3), (xK (exB 0) w3.heap.size g1 3), (xK exC (w3.heap.size + 1) g3 2), (xS false w66.heap.size gbs cbs gss css), ⟨bRK1, .cells #[.int .i64 0, .int .i64 1] 3 (0, 0)⟩]) (fun bRK1 => [⟨gm, .cells um 66 (0, 0)⟩, ⟨gbs, .cells ubs 53 (0, 0)⟩, ⟨gss, .cells uss 3 (0, 0)⟩, ⟨gl, .cells ul 66 (0, 0)⟩]) (fun bRK1 _ => True) ?_ (fun hRK1 => ?_)
    · rintro bRK1 wl187 _ hA
      refine runS hA 1 [.h 2] xn on (by kernel_rfl) fun w288 hA => ?_
      exact joinE hRK1_2 ⟨bRK1, wl187.heap.size⟩ trivial [0, 1, 2, 3, 4, 5, 6] hA rfl (by kernel_rfl) (by decide)
    replace hA := hA0RK
    refine manyS hA 1 [2] (by kernel_rfl) ⟨fun hA => ?_, fun hA => ?_, trivial⟩
    ·
      refine runS hA 1 [] xn on (by kernel_rfl) fun w188 hA => ?_
      exact joinE hRK1 w180.heap.size trivial [0, 1, 2, 3, 4, 5] hA rfl (by kernel_rfl) (by decide)
    ·
      refine runS hA 1 [] xn on (by kernel_rfl) fun w188 hA => ?_
      exact joinE hRK2 w180.heap.size trivial [0, 1, 2, 3, 4, 5] hA rfl (by kernel_rfl) (by decide)
  rintro ⟨bRK1, bRK2, bRK3⟩ w237 _ hA
  refine runS hA 3 [.b true] xn on (by kernel_rfl) fun w238 hA => ?_
  refine draw hA [true, true, true, true, true] [0, 1, 2, 3, 4, 5, 6, 7, 8, 9, 10] (by kernel_rfl) (by kernel_rfl) fun hA => ?_
  refine runS hA 1 ([.t 0] ++ List.replicate 8 (.k 3)) xn on (by kernel_rfl) fun w239 hA => ?_
  have hA0RX := hA
  refine latK hA0RX [1, 2, 3, 4, 5, 6, 7, 8, 9, 10] (γ := Nat × Nat × Nat × Nat × Nat × Array Value) (fun ⟨bRX1, bRX2, bRX3, gx, cx, ux⟩ => [(0, .bool false), (1, .pointer (some ⟨w3.heap.size, 0, none⟩)), (2, .pointer (some ⟨w3.heap.size + 1, 0, none⟩)), (3, .slice (some ⟨gl, 0, none⟩) 1 cl), (4, .int .i64 0), (6, .int .i64 0), (7, .slice (some ⟨gm, 0, none⟩) 1 cm), (8, .int .i64 0), (9, .int .i64 200), (10, .int .i64 0), (11, .int .i64 0), (12, .int .i64 0), (13, .slice (some ⟨gx, 0, none⟩) 2 cx), (14, .int .i64 0)]) (fun ⟨bRX1, bRX2, bRX3, gx, cx, ux⟩ => [(kB g1), (kC g3), (xK (exB 0) w3.heap.size g1 3), (xK exC (w3.heap.size + 1) g3 2), (xS false w66.heap.size gbs cbs gss css)]) (fun ⟨bRX1, bRX2, bRX3, gx, cx, ux⟩ => [⟨gx, .cells ux 66 (0, 0)⟩, ⟨gm, .cells um 66 (0, 0)⟩, ⟨gbs, .cells ubs 53 (0, 0)⟩, ⟨gss, .cells uss 3 (0, 0)⟩, ⟨gl, .cells ul 66 (0, 0)⟩]) (fun ⟨bRX1, bRX2, bRX3, gx, cx, ux⟩ _ => RowV 66 3 (.slice (some ⟨gx, 0, none⟩) 2 cx) 2 (encD [((0, 1), 130), ((1, 0), 90)]) [⟨gx, .cells ux 66 (0, 0)⟩]) (fun hRX1_2_3_4_5 => ?_) ?_
  ·
    refine latS hA0RX [1, 2, 3, 4] (γ := Nat × Nat × Nat) (fun ⟨bRX1, bRX2, bRX3⟩ => [(0, .bool false), (1, .pointer (some ⟨w3.heap.size, 0, none⟩)), (2, .pointer (some ⟨w3.heap.size + 1, 0, none⟩)), (3, .slice (some ⟨gl, 0, none⟩) 1 cl), (4, .int .i64 0), (6, .int .i64 0), (7, .slice (some ⟨gm, 0, none⟩) 1 cm), (8, .int .i64 0), (9, .int .i64 200), (10, .int .i64 0), (11, .int .i64 0), (12, .int .i64 0), (72, (vK exC g3 2)), (73, .slice (some ⟨bRX1, 0, none⟩) 2 2), (74, .slice (some ⟨bRX2, 0, none⟩) 1 1), (75, .slice (some ⟨bRX3, 0, none⟩) 2 2), (76, .slice (some ⟨bRX3, 0, none⟩) 2 2)]) (fun ⟨bRX1, bRX2, bRX3⟩ => [(kB g1), (kC g3), (xK (exB 0) w3.heap.size g1 3), (xK exC (w3.heap.size + 1) g3 2), (xS false w66.heap.size gbs cbs gss css), ⟨bRX1, .cells #[.int .i64 0, .int .i64 1] 3 (0, 0)⟩, ⟨bRX2, .cells #[.int .i64 2] 3 (0, 0)⟩, ⟨bRX3, .cells #[.slice (some ⟨bRX1, 0, none⟩) 2 2, .slice (some ⟨bRX2, 0, none⟩) 1 1] 23 (0, 0)⟩]) (fun ⟨bRX1, bRX2, bRX3⟩ => [⟨gm, .cells um 66 (0, 0)⟩, ⟨gbs, .cells ubs 53 (0, 0)⟩, ⟨gss, .cells uss 3 (0, 0)⟩, ⟨gl, .cells ul 66 (0, 0)⟩]) (fun ⟨bRX1, bRX2, bRX3⟩ _ => True) ?_ (fun hRX1_2_3_4 => ?_)
    · rintro ⟨bRX1, bRX2, bRX3⟩ wl240 _ hA
      have hAp := hA.atK [(kB g1), (kC g3), (xK (exB 0) w3.heap.size g1 3), (xK exC (w3.heap.size + 1) g3 2), (xS false w66.heap.size gbs cbs gss css), ⟨bRX1, .cells #[.int .i64 0, .int .i64 1] 3 (0, 0)⟩, ⟨bRX2, .cells #[.int .i64 2] 3 (0, 0)⟩, ⟨bRX3, .cells #[.slice (some ⟨bRX1, 0, none⟩) 2 2, .slice (some ⟨bRX2, 0, none⟩) 1 1] 23 (0, 0)⟩] (by kernel_rfl)
      have hP := Dividends_any wl240 wl240.heap.size exC (some ⟨g3, 0, none⟩) 2 2 none 0 0 (some ⟨bRX3, 0, none⟩) 2 2 [[0, 1], [2]] (exC_at (hA.at_.ok (kC g3) (List.mem_of_getElem? (i := 1) (by kernel_rfl)))) (fin2 (hA.at_.ok ⟨bRX3, .cells #[.slice (some ⟨bRX1, 0, none⟩) 2 2, .slice (some ⟨bRX2, 0, none⟩) 1 1] 23 (0, 0)⟩ (List.mem_of_getElem? (i := 7) (by kernel_rfl))) (xs0 := [0, 1]) (hA.at_.ok ⟨bRX1, .cells #[.int .i64 0, .int .i64 1] 3 (0, 0)⟩ (List.mem_of_getElem? (i := 5) (by kernel_rfl))) (by decide) (xs1 := [2]) (hA.at_.ok ⟨bRX2, .cells #[.int .i64 2] 3 (0, 0)⟩ (List.mem_of_getElem? (i := 6) (by kernel_rfl))) (by decide)) (Nat.le_refl _)
      rw [kn6.1, kn6.2] at hP
      refine call hA [] on (hP) (by kernel_rfl) (by rintro e v ⟨v, rfl, hbd, hown, hnil⟩; exact hbd) ?_
      rintro e w341 ⟨v, rfl, hbd, hown, hnil⟩
      refine ⟨_, rfl, fun hA => ?_⟩
      obtain ⟨ob9, hr9, hA2⟩ := At.own hAp hbd hown
      obtain ⟨gx, cx, ux, hv9, rfl, -⟩ : ∃ gz cz uz, v = .slice (some ⟨gz, 0, none⟩) 2 cz ∧ ob9 = [⟨gz, .cells uz 66 (0, 0)⟩] ∧ True := by
        rcases hr9.2 with ⟨-, h9, -⟩ | ⟨gz, cz, uz, h8, h9, -⟩
        · exact absurd h9 (by decide)
        · exact ⟨gz, cz, uz, h8, h9, trivial⟩
      cases hv9
      refine reknow ⟨[(kB g1), (kC g3), (xK (exB 0) w3.heap.size g1 3), (xK exC (w3.heap.size + 1) g3 2), (xS false w66.heap.size gbs cbs gss css), ⟨bRX1, .cells #[.int .i64 0, .int .i64 1] 3 (0, 0)⟩, ⟨bRX2, .cells #[.int .i64 2] 3 (0, 0)⟩, ⟨bRX3, .cells #[.slice (some ⟨bRX1, 0, none⟩) 2 2, .slice (some ⟨bRX2, 0, none⟩) 1 1] 23 (0, 0)⟩], w341.heap.size, [], [], [], [], []⟩ hA2 (Nat.zero_le _) fun hA => ?_
      refine runS hA 5 [.t 6, .t 7, .t 8, .t 9, .t 10] xn on (by kernel_rfl) fun w342 hA => ?_
      exact joinE hRX1_2_3_4_5 ⟨bRX1, bRX2, bRX3, gx, cx, ux⟩ hr9 [0, 1, 2, 3, 4] hA rfl (by kernel_rfl) (by decide)
    refine latS hA0RX [1, 2, 3] (γ := Nat × Nat × Nat) (fun ⟨bRX1, bRX2, bRX3⟩ => [(0, .bool false), (1, .pointer (some ⟨w3.heap.size, 0, none⟩)), (2, .pointer (some ⟨w3.heap.size + 1, 0, none⟩)), (3, .slice (some ⟨gl, 0, none⟩) 1 cl), (4, .int .i64 0), (6, .int .i64 0), (7, .slice (some ⟨gm, 0, none⟩) 1 cm), (8, .int .i64 0), (9, .int .i64 200), (10, .int .i64 0), (11, .int .i64 0), (12, .int .i64 0), (72, (vK exC g3 2)), (73, .slice (some ⟨bRX1, 0, none⟩) 2 2), (74, .slice (some ⟨bRX2, 0, none⟩) 1 1), (75, .slice (some ⟨bRX3, 0, none⟩) 2 2)]) (fun ⟨bRX1, bRX2, bRX3⟩ => [(kB g1), (kC g3), (xK (exB 0) w3.heap.size g1 3), (xK exC (w3.heap.size + 1) g3 2), (xS false w66.heap.size gbs cbs gss css), ⟨bRX1, .cells #[.int .i64 0, .int .i64 1] 3 (0, 0)⟩, ⟨bRX2, .cells #[.int .i64 2] 3 (0, 0)⟩, ⟨bRX3, .cells #[.slice (some ⟨bRX1, 0, none⟩) 2 2, .slice (some ⟨bRX2, 0, none⟩) 1 1] 23 (0, 0)⟩]) (fun ⟨bRX1, bRX2, bRX3⟩ => [⟨gm, .cells um 66 (0, 0)⟩, ⟨gbs, .cells ubs 53 (0, 0)⟩, ⟨gss, .cells uss 3 (0, 0)⟩, ⟨gl, .cells ul 66 (0, 0)⟩]) (fun ⟨bRX1, bRX2, bRX3⟩ _ => True) ?_ (fun hRX1_2_3 => ?_)
    · rintro ⟨bRX1, bRX2, bRX3⟩ wl241 _ hA
      refine callB hA [] on (in_any wl241 (some ⟨bRX3, 0, none⟩) 2 2) (by kernel_rfl) fun w342 hb342 hA => ?_
      exact joinE hRX1_2_3_4 ⟨bRX1, bRX2, bRX3⟩ trivial [0, 1, 2, 3, 4, 5, 6, 7] hA rfl (by kernel_rfl) (by decide)
    refine latS hA0RX [1, 2] (γ := Nat × Nat) (fun ⟨bRX1, bRX2⟩ => [(0, .bool false), (1, .pointer (some ⟨w3.heap.size, 0, none⟩)), (2, .pointer (some ⟨w3.heap.size + 1, 0, none⟩)), (3, .slice (some ⟨gl, 0, none⟩) 1 cl), (4, .int .i64 0), (6, .int .i64 0), (7, .slice (some ⟨gm, 0, none⟩) 1 cm), (8, .int .i64 0), (9, .int .i64 200), (10, .int .i64 0), (11, .int .i64 0), (12, .int .i64 0), (72, (vK exC g3 2)), (73, .slice (some ⟨bRX1, 0, none⟩) 2 2), (74, .slice (some ⟨bRX2, 0, none⟩) 1 1)]) (fun ⟨bRX1, bRX2⟩ => [(kB g1), (kC g3), (xK (exB 0) w3.heap.size g1 3), (xK exC (w3.heap.size + 1) g3 2), (xS false w66.heap.size gbs cbs gss css), ⟨bRX1, .cells #[.int .i64 0, .int .i64 1] 3 (0, 0)⟩, ⟨bRX2, .cells #[.int .i64 2] 3 (0, 0)⟩]) (fun ⟨bRX1, bRX2⟩ => [⟨gm, .cells um 66 (0, 0)⟩, ⟨gbs, .cells ubs 53 (0, 0)⟩, ⟨gss, .cells uss 3 (0, 0)⟩, ⟨gl, .cells ul 66 (0, 0)⟩]) (fun ⟨bRX1, bRX2⟩ _ => True) ?_ (fun hRX1_2 => ?_)
    · rintro ⟨bRX1, bRX2⟩ wl242 _ hA
      refine runS hA 1 [.h 3] xn on (by kernel_rfl) fun w343 hA => ?_
      exact joinE hRX1_2_3 ⟨bRX1, bRX2, wl242.heap.size⟩ trivial [0, 1, 2, 3, 4, 5, 6, 7] hA rfl (by kernel_rfl) (by decide)
    refine latS hA0RX [2] (γ := Nat) (fun bRX2 => [(0, .bool false), (1, .pointer (some ⟨w3.heap.size, 0, none⟩)), (2, .pointer (some ⟨w3.heap.size + 1, 0, none⟩)), (3, .slice (some ⟨gl, 0, none⟩) 1 cl), (4, .int .i64 0), (6, .int .i64 0), (7, .slice (some ⟨gm, 0, none⟩) 1 cm), (8, .int .i64 0), (9, .int .i64 200), (10, .int .i64 0), (11, .int .i64 0), (12, .int .i64 0), (72, (vK exC g3 2)), (74, .slice (some ⟨bRX2, 0, none⟩) 1 1)]) (fun bRX2 => [(kB g1), (kC g3), (xK (exB 0) w3.heap.size g1 3), (xK exC (w3.heap.size + 1) g3 2), (xS false w66.heap.size gbs cbs gss css), ⟨bRX2, .cells #[.int .i64 2] 3 (0, 0)⟩]) (fun bRX2 => [⟨gm, .cells um 66 (0, 0)⟩, ⟨gbs, .cells ubs 53 (0, 0)⟩, ⟨gss, .cells uss 3 (0, 0)⟩, ⟨gl, .cells ul 66 (0, 0)⟩]) (fun bRX2 _ => True) ?_ (fun hRX2 => ?_)
    · rintro bRX2 wl243 _ hA
      refine runS hA 1 [.h 1] xn on (by kernel_rfl) fun w344 hA => ?_
      exact joinE hRX1_2 ⟨wl243.heap.size, bRX2⟩ trivial [0, 1, 2, 3, 4, 6, 5] hA rfl (by kernel_rfl) (by decide)
    refine latS hA0RX [1] (γ := Nat) (fun bRX1 => [(0, .bool false), (1, .pointer (some ⟨w3.heap.size, 0, none⟩)), (2, .pointer (some ⟨w3.heap.size + 1, 0, none⟩)), (3, .slice (some ⟨gl, 0, none⟩) 1 cl), (4, .int .i64 0), (6, .int .i64 0), (7, .slice (some ⟨gm, 0, none⟩) 1 cm), (8, .int .i64 0), (9, .int .i64 200), (10, .int .i64 0), (11, .int .i64 0), (12, .int .i64 0), (72, (vK exC g3 2)), (73, .slice (some ⟨bRX1, 0, none⟩) 2 2)]) (fun bRX1 => [(kB g1), (kC g3), (xK (exB 0) w3.heap.size g1 3), (xK exC (w3.heap.size + 1) g3 2), (xS false w66.heap.size gbs cbs gss css), ⟨bRX1, .cells #[.int .i64 0, .int .i64 1] 3 (0, 0)⟩]) (fun bRX1 => [⟨gm, .cells um 66 (0, 0)⟩, ⟨gbs, .cells ubs 53 (0, 0)⟩, ⟨gss, .cells uss 3 (0, 0)⟩, ⟨gl, .cells ul 66 (0, 0)⟩]) (fun bRX1 _ => True) ?_ (fun hRX1 => ?_)
    · rintro bRX1 wl244 _ hA
      refine runS hA 1 [.h 2] xn on (by kernel_rfl) fun w345 hA => ?_
      exact joinE hRX1_2 ⟨bRX1, wl244.heap.size⟩ trivial [0, 1, 2, 3, 4, 5, 6] hA rfl (by kernel_rfl) (by decide)
    replace hA := hA0RX
    refine manyS hA 1 [2] (by kernel_rfl) ⟨fun hA => ?_, fun hA => ?_, trivial⟩
    ·
      refine runS hA 1 [] xn on (by kernel_rfl) fun w245 hA => ?_
      exact joinE hRX1 w237.heap.size trivial [0, 1, 2, 3, 4, 5] hA rfl (by kernel_rfl) (by decide)
    ·
      refine runS hA 1 [] xn on (by kernel_rfl) fun w245 hA => ?_
      exact joinE hRX2 w237.heap.size trivial [0, 1, 2, 3, 4, 5] hA rfl (by kernel_rfl) (by decide)
  rintro ⟨bRX1, bRX2, bRX3, gx, cx, ux⟩ w294 hrRX0 hA
  have hrx := hrRX0
  refine runS hA 3 [.b true] xn on (by kernel_rfl) fun w295 hA => ?_
  refine draw hA [true, true, true, true, true] [0, 1, 2, 3, 4, 5, 6, 7, 8, 9, 10, 11, 12] (by kernel_rfl) (by kernel_rfl) fun hA => ?_
  refine runS hA 1 ([.t 0] ++ List.replicate 8 (.k 3)) xn on (by kernel_rfl) fun w296 hA => ?_
  have hA0RY := hA
  refine latK hA0RY [1, 2, 3, 4, 5, 6, 7, 8, 9, 10, 11, 12] (γ := Nat × Nat × Nat × Nat × Nat) (fun ⟨bRY1, bRY2, bRY3, bRY4, bRY10⟩ => [(0, .bool false), (1, .pointer (some ⟨w3.heap.size, 0, none⟩)), (2, .pointer (some ⟨w3.heap.size + 1, 0, none⟩)), (3, .slice (some ⟨gl, 0, none⟩) 1 cl), (4, .int .i64 0), (6, .int .i64 0), (7, .slice (some ⟨gm, 0, none⟩) 1 cm), (8, .int .i64 0), (9, .int .i64 200), (10, .int .i64 0), (11, .int .i64 0), (12, .int .i64 0), (13, .slice (some ⟨gx, 0, none⟩) 2 cx), (14, .int .i64 0), (15, .pointer (some ⟨bRY10, 0, none⟩)), (16, .int .i64 0)]) (fun ⟨bRY1, bRY2, bRY3, bRY4, bRY10⟩ => [(kB g1), (kC g3), (xK (exB 0) w3.heap.size g1 3), (xK exC (w3.heap.size + 1) g3 2), (xS false w66.heap.size gbs cbs gss css), ⟨bRY10, .cells #[.int .i64 550, .int .i64 0, .int .i64 0, .int .i64 0, .int .i64 0, .int .i64 550] 47 (0, 0)⟩]) (fun ⟨bRY1, bRY2, bRY3, bRY4, bRY10⟩ => [⟨gx, .cells ux 66 (0, 0)⟩, ⟨gm, .cells um 66 (0, 0)⟩, ⟨gbs, .cells ubs 53 (0, 0)⟩, ⟨gss, .cells uss 3 (0, 0)⟩, ⟨gl, .cells ul 66 (0, 0)⟩]) (fun ⟨bRY1, bRY2, bRY3, bRY4, bRY10⟩ _ => True) (fun hRY1_2_3_4_5_6_10_11 => ?_) ?_
  ·
    refine latS hA0RY [1, 2, 3, 4, 5, 6, 7, 8, 9, 10] (γ := Nat × Nat × Nat × Nat × Nat) (fun ⟨bRY1, bRY2, bRY3, bRY4, bRY10⟩ => [(0, .bool false), (1, .pointer (some ⟨w3.heap.size, 0, none⟩)), (2, .pointer (some ⟨w3.heap.size + 1, 0, none⟩)), (3, .slice (some ⟨gl, 0, none⟩) 1 cl), (4, .int .i64 0), (6, .int .i64 0), (7, .slice (some ⟨gm, 0, none⟩) 1 cm), (8, .int .i64 0), (9, .int .i64 200), (10, .int .i64 0), (11, .int .i64 0), (12, .int .i64 0), (13, .slice (some ⟨gx, 0, none⟩) 2 cx), (14, .int .i64 0), (15, .pointer (some ⟨bRY10, 0, none⟩)), (80, .tuple #[.agg #[.int .i64 550, .int .i64 0, .int .i64 0, .int .i64 0, .int .i64 0, .int .i64 550], .int .i64 0]), (81, (vK exC g3 2)), (82, .slice (some ⟨bRY1, 0, none⟩) 1 1), (83, .slice (some ⟨bRY2, 0, none⟩) 1 1), (84, .slice (some ⟨bRY3, 0, none⟩) 1 1), (85, .slice (some ⟨bRY4, 0, none⟩) 3 3), (86, .slice (some ⟨bRY4, 0, none⟩) 3 3), (87, .tuple #[.agg #[.int .i64 550, .int .i64 0, .int .i64 0, .int .i64 0, .int .i64 0, .int .i64 550], .int .i64 0]), (88, .agg #[.int .i64 550, .int .i64 0, .int .i64 0, .int .i64 0, .int .i64 0, .int .i64 550]), (89, .int .i64 0)]) (fun ⟨bRY1, bRY2, bRY3, bRY4, bRY10⟩ => [(kB g1), (kC g3), (xK (exB 0) w3.heap.size g1 3), (xK exC (w3.heap.size + 1) g3 2), (xS false w66.heap.size gbs cbs gss css), ⟨bRY1, .cells #[.int .i64 2] 3 (0, 0)⟩, ⟨bRY2, .cells #[.int .i64 0] 3 (0, 0)⟩, ⟨bRY3, .cells #[.int .i64 1] 3 (0, 0)⟩, ⟨bRY4, .cells #[.slice (some ⟨bRY1, 0, none⟩) 1 1, .slice (some ⟨bRY2, 0, none⟩) 1 1, .slice (some ⟨bRY3, 0, none⟩) 1 1] 23 (0, 0)⟩, ⟨bRY10, .cells #[.int .i64 0, .int .i64 0, .int .i64 0, .int .i64 0, .int .i64 0, .int .i64 0] 47 (0, 0)⟩]) (fun ⟨bRY1, bRY2, bRY3, bRY4, bRY10⟩ => [⟨gx, .cells ux 66 (0, 0)⟩, ⟨gm, .cells um 66 (0, 0)⟩, ⟨gbs, .cells ubs 53 (0, 0)⟩, ⟨gss, .cells uss 3 (0, 0)⟩, ⟨gl, .cells ul 66 (0, 0)⟩]) (fun ⟨bRY1, bRY2, bRY3, bRY4, bRY10⟩ _ => True) ?_ (fun hRY1_2_3_4_5_6_10 => ?_)
    · rintro ⟨bRY1, bRY2, bRY3, bRY4, bRY10⟩ wl297 _ hA
      refine runS hA 2 ([.h 11] ++ List.replicate 6 (.k 9) ++ [.t 12]) xn on (by kernel_rfl) fun w398 hA => ?_
      exact joinE hRY1_2_3_4_5_6_10_11 ⟨bRY1, bRY2, bRY3, bRY4, bRY10⟩ trivial [0, 1, 2, 3, 4, 9] hA rfl (by kernel_rfl) (by decide)
    refine latS hA0RY [1, 2, 3, 4, 5, 10] (γ := Nat × Nat × Nat × Nat × Nat) (fun ⟨bRY1, bRY2, bRY3, bRY4, bRY10⟩ => [(0, .bool false), (1, .pointer (some ⟨w3.heap.size, 0, none⟩)), (2, .pointer (some ⟨w3.heap.size + 1, 0, none⟩)), (3, .slice (some ⟨gl, 0, none⟩) 1 cl), (4, .int .i64 0), (6, .int .i64 0), (7, .slice (some ⟨gm, 0, none⟩) 1 cm), (8, .int .i64 0), (9, .int .i64 200), (10, .int .i64 0), (11, .int .i64 0), (12, .int .i64 0), (13, .slice (some ⟨gx, 0, none⟩) 2 cx), (14, .int .i64 0), (15, .pointer (some ⟨bRY10, 0, none⟩)), (81, (vK exC g3 2)), (82, .slice (some ⟨bRY1, 0, none⟩) 1 1), (83, .slice (some ⟨bRY2, 0, none⟩) 1 1), (84, .slice (some ⟨bRY3, 0, none⟩) 1 1), (85, .slice (some ⟨bRY4, 0, none⟩) 3 3), (86, .slice (some ⟨bRY4, 0, none⟩) 3 3)]) (fun ⟨bRY1, bRY2, bRY3, bRY4, bRY10⟩ => [(kB g1), (kC g3), (xK (exB 0) w3.heap.size g1 3), (xK exC (w3.heap.size + 1) g3 2), (xS false w66.heap.size gbs cbs gss css), ⟨bRY1, .cells #[.int .i64 2] 3 (0, 0)⟩, ⟨bRY2, .cells #[.int .i64 0] 3 (0, 0)⟩, ⟨bRY3, .cells #[.int .i64 1] 3 (0, 0)⟩, ⟨bRY4, .cells #[.slice (some ⟨bRY1, 0, none⟩) 1 1, .slice (some ⟨bRY2, 0, none⟩) 1 1, .slice (some ⟨bRY3, 0, none⟩) 1 1] 23 (0, 0)⟩, ⟨bRY10, .cells #[.int .i64 0, .int .i64 0, .int .i64 0, .int .i64 0, .int .i64 0, .int .i64 0] 47 (0, 0)⟩]) (fun ⟨bRY1, bRY2, bRY3, bRY4, bRY10⟩ => [⟨gx, .cells ux 66 (0, 0)⟩, ⟨gm, .cells um 66 (0, 0)⟩, ⟨gbs, .cells ubs 53 (0, 0)⟩, ⟨gss, .cells uss 3 (0, 0)⟩, ⟨gl, .cells ul 66 (0, 0)⟩]) (fun ⟨bRY1, bRY2, bRY3, bRY4, bRY10⟩ _ => True) ?_ (fun hRY1_2_3_4_5_10 => ?_)
    · rintro ⟨bRY1, bRY2, bRY3, bRY4, bRY10⟩ wl298 _ hA
      have hP := Account_any wl298 wl298.heap.size exC (some ⟨g3, 0, none⟩) 2 2 none 0 0 (some ⟨bRY4, 0, none⟩) 3 3 [[2], [0], [1]] (exC_at (hA.at_.ok (kC g3) (List.mem_of_getElem? (i := 1) (by kernel_rfl)))) (fin3 (hA.at_.ok ⟨bRY4, .cells #[.slice (some ⟨bRY1, 0, none⟩) 1 1, .slice (some ⟨bRY2, 0, none⟩) 1 1, .slice (some ⟨bRY3, 0, none⟩) 1 1] 23 (0, 0)⟩ (List.mem_of_getElem? (i := 8) (by kernel_rfl))) (xs0 := [2]) (hA.at_.ok ⟨bRY1, .cells #[.int .i64 2] 3 (0, 0)⟩ (List.mem_of_getElem? (i := 5) (by kernel_rfl))) (by decide) (xs1 := [0]) (hA.at_.ok ⟨bRY2, .cells #[.int .i64 0] 3 (0, 0)⟩ (List.mem_of_getElem? (i := 6) (by kernel_rfl))) (by decide) (xs2 := [1]) (hA.at_.ok ⟨bRY3, .cells #[.int .i64 1] 3 (0, 0)⟩ (List.mem_of_getElem? (i := 7) (by kernel_rfl))) (by decide)) (Nat.le_refl _)
      rw [kn7.1, kn7.2] at hP
      refine callB hA [] on (hP) (by kernel_rfl) fun w399 hb399 hA => ?_
      refine runS hA 3 [.t 7, .t 8, .t 9] xn on (by kernel_rfl) fun w400 hA => ?_
      exact joinE hRY1_2_3_4_5_6_10 ⟨bRY1, bRY2, bRY3, bRY4, bRY10⟩ trivial [0, 1, 2, 3, 4, 5, 6, 7, 8, 9] hA rfl (by kernel_rfl) (by decide)
    refine latS hA0RY [1, 2, 3, 4, 5, 6, 7, 8, 9] (γ := Nat × Nat × Nat × Nat) (fun ⟨bRY1, bRY2, bRY3, bRY4⟩ => [(0, .bool false), (1, .pointer (some ⟨w3.heap.size, 0, none⟩)), (2, .pointer (some ⟨w3.heap.size + 1, 0, none⟩)), (3, .slice (some ⟨gl, 0, none⟩) 1 cl), (4, .int .i64 0), (6, .int .i64 0), (7, .slice (some ⟨gm, 0, none⟩) 1 cm), (8, .int .i64 0), (9, .int .i64 200), (10, .int .i64 0), (11, .int .i64 0), (12, .int .i64 0), (13, .slice (some ⟨gx, 0, none⟩) 2 cx), (14, .int .i64 0), (80, .tuple #[.agg #[.int .i64 550, .int .i64 0, .int .i64 0, .int .i64 0, .int .i64 0, .int .i64 550], .int .i64 0]), (81, (vK exC g3 2)), (82, .slice (some ⟨bRY1, 0, none⟩) 1 1), (83, .slice (some ⟨bRY2, 0, none⟩) 1 1), (84, .slice (some ⟨bRY3, 0, none⟩) 1 1), (85, .slice (some ⟨bRY4, 0, none⟩) 3 3), (86, .slice (some ⟨bRY4, 0, none⟩) 3 3), (87, .tuple #[.agg #[.int .i64 550, .int .i64 0, .int .i64 0, .int .i64 0, .int .i64 0, .int .i64 550], .int .i64 0]), (88, .agg #[.int .i64 550, .int .i64 0, .int .i64 0, .int .i64 0, .int .i64 0, .int .i64 550]), (89, .int .i64 0)]) (fun ⟨bRY1, bRY2, bRY3, bRY4⟩ => [(kB g1), (kC g3), (xK (exB 0) w3.heap.size g1 3), (xK exC (w3.heap.size + 1) g3 2), (xS false w66.heap.size gbs cbs gss css), ⟨bRY1, .cells #[.int .i64 2] 3 (0, 0)⟩, ⟨bRY2, .cells #[.int .i64 0] 3 (0, 0)⟩, ⟨bRY3, .cells #[.int .i64 1] 3 (0, 0)⟩, ⟨bRY4, .cells #[.slice (some ⟨bRY1, 0, none⟩) 1 1, .slice (some ⟨bRY2, 0, none⟩) 1 1, .slice (some ⟨bRY3, 0, none⟩) 1 1] 23 (0, 0)⟩]) (fun ⟨bRY1, bRY2, bRY3, bRY4⟩ => [⟨gx, .cells ux 66 (0, 0)⟩, ⟨gm, .cells um 66 (0, 0)⟩, ⟨gbs, .cells ubs 53 (0, 0)⟩, ⟨gss, .cells uss 3 (0, 0)⟩, ⟨gl, .cells ul 66 (0, 0)⟩]) (fun ⟨bRY1, bRY2, bRY3, bRY4⟩ _ => True) ?_ (fun hRY1_2_3_4_5_6 => ?_)
    · rintro ⟨bRY1, bRY2, bRY3, bRY4⟩ wl299 _ hA
      refine runS hA 1 [.h 10] xn on (by kernel_rfl) fun w400 hA => ?_
      exact joinE hRY1_2_3_4_5_6_10 ⟨bRY1, bRY2, bRY3, bRY4, wl299.heap.size⟩ trivial [0, 1, 2, 3, 4, 5, 6, 7, 8, 9] hA rfl (by kernel_rfl) (by decide)
    refine latS hA0RY [1, 2, 3, 4, 10] (γ := Nat × Nat × Nat × Nat × Nat) (fun ⟨bRY1, bRY2, bRY3, bRY4, bRY10⟩ => [(0, .bool false), (1, .pointer (some ⟨w3.heap.size, 0, none⟩)), (2, .pointer (some ⟨w3.heap.size + 1, 0, none⟩)), (3, .slice (some ⟨gl, 0, none⟩) 1 cl), (4, .int .i64 0), (6, .int .i64 0), (7, .slice (some ⟨gm, 0, none⟩) 1 cm), (8, .int .i64 0), (9, .int .i64 200), (10, .int .i64 0), (11, .int .i64 0), (12, .int .i64 0), (13, .slice (some ⟨gx, 0, none⟩) 2 cx), (14, .int .i64 0), (15, .pointer (some ⟨bRY10, 0, none⟩)), (81, (vK exC g3 2)), (82, .slice (some ⟨bRY1, 0, none⟩) 1 1), (83, .slice (some ⟨bRY2, 0, none⟩) 1 1), (84, .slice (some ⟨bRY3, 0, none⟩) 1 1), (85, .slice (some ⟨bRY4, 0, none⟩) 3 3)]) (fun ⟨bRY1, bRY2, bRY3, bRY4, bRY10⟩ => [(kB g1), (kC g3), (xK (exB 0) w3.heap.size g1 3), (xK exC (w3.heap.size + 1) g3 2), (xS false w66.heap.size gbs cbs gss css), ⟨bRY1, .cells #[.int .i64 2] 3 (0, 0)⟩, ⟨bRY2, .cells #[.int .i64 0] 3 (0, 0)⟩, ⟨bRY3, .cells #[.int .i64 1] 3 (0, 0)⟩, ⟨bRY4, .cells #[.slice (some ⟨bRY1, 0, none⟩) 1 1, .slice (some ⟨bRY2, 0, none⟩) 1 1, .slice (some ⟨bRY3, 0, none⟩) 1 1] 23 (0, 0)⟩, ⟨bRY10, .cells #[.int .i64 0, .int .i64 0, .int .i64 0, .int .i64 0, .int .i64 0, .int .i64 0] 47 (0, 0)⟩]) (fun ⟨bRY1, bRY2, bRY3, bRY4, bRY10⟩ => [⟨gx, .cells ux 66 (0, 0)⟩, ⟨gm, .cells um 66 (0, 0)⟩, ⟨gbs, .cells ubs 53 (0, 0)⟩, ⟨gss, .cells uss 3 (0, 0)⟩, ⟨gl, .cells ul 66 (0, 0)⟩]) (fun ⟨bRY1, bRY2, bRY3, bRY4, bRY10⟩ _ => True) ?_ (fun hRY1_2_3_4_10 => ?_)
    · rintro ⟨bRY1, bRY2, bRY3, bRY4, bRY10⟩ wl300 _ hA
      refine callB hA [] on (in_any wl300 (some ⟨bRY4, 0, none⟩) 3 3) (by kernel_rfl) fun w401 hb401 hA => ?_
      exact joinE hRY1_2_3_4_5_10 ⟨bRY1, bRY2, bRY3, bRY4, bRY10⟩ trivial [0, 1, 2, 3, 4, 5, 6, 7, 8, 9] hA rfl (by kernel_rfl) (by decide)
    refine latS hA0RY [1, 2, 3, 4, 5] (γ := Nat × Nat × Nat × Nat) (fun ⟨bRY1, bRY2, bRY3, bRY4⟩ => [(0, .bool false), (1, .pointer (some ⟨w3.heap.size, 0, none⟩)), (2, .pointer (some ⟨w3.heap.size + 1, 0, none⟩)), (3, .slice (some ⟨gl, 0, none⟩) 1 cl), (4, .int .i64 0), (6, .int .i64 0), (7, .slice (some ⟨gm, 0, none⟩) 1 cm), (8, .int .i64 0), (9, .int .i64 200), (10, .int .i64 0), (11, .int .i64 0), (12, .int .i64 0), (13, .slice (some ⟨gx, 0, none⟩) 2 cx), (14, .int .i64 0), (81, (vK exC g3 2)), (82, .slice (some ⟨bRY1, 0, none⟩) 1 1), (83, .slice (some ⟨bRY2, 0, none⟩) 1 1), (84, .slice (some ⟨bRY3, 0, none⟩) 1 1), (85, .slice (some ⟨bRY4, 0, none⟩) 3 3), (86, .slice (some ⟨bRY4, 0, none⟩) 3 3)]) (fun ⟨bRY1, bRY2, bRY3, bRY4⟩ => [(kB g1), (kC g3), (xK (exB 0) w3.heap.size g1 3), (xK exC (w3.heap.size + 1) g3 2), (xS false w66.heap.size gbs cbs gss css), ⟨bRY1, .cells #[.int .i64 2] 3 (0, 0)⟩, ⟨bRY2, .cells #[.int .i64 0] 3 (0, 0)⟩, ⟨bRY3, .cells #[.int .i64 1] 3 (0, 0)⟩, ⟨bRY4, .cells #[.slice (some ⟨bRY1, 0, none⟩) 1 1, .slice (some ⟨bRY2, 0, none⟩) 1 1, .slice (some ⟨bRY3, 0, none⟩) 1 1] 23 (0, 0)⟩]) (fun ⟨bRY1, bRY2, bRY3, bRY4⟩ => [⟨gx, .cells ux 66 (0, 0)⟩, ⟨gm, .cells um 66 (0, 0)⟩, ⟨gbs, .cells ubs 53 (0, 0)⟩, ⟨gss, .cells uss 3 (0, 0)⟩, ⟨gl, .cells ul 66 (0, 0)⟩]) (fun ⟨bRY1, bRY2, bRY3, bRY4⟩ _ => True) ?_ (fun hRY1_2_3_4_5 => ?_)
    · rintro ⟨bRY1, bRY2, bRY3, bRY4⟩ wl301 _ hA
      refine manyS hA 6 [10] (by kernel_rfl) ⟨fun hA => ?_, fun hA => ?_, trivial⟩
      ·
        have hP := Account_any wl301 wl301.heap.size exC (some ⟨g3, 0, none⟩) 2 2 none 0 0 (some ⟨bRY4, 0, none⟩) 3 3 [[2], [0], [1]] (exC_at (hA.at_.ok (kC g3) (List.mem_of_getElem? (i := 1) (by kernel_rfl)))) (fin3 (hA.at_.ok ⟨bRY4, .cells #[.slice (some ⟨bRY1, 0, none⟩) 1 1, .slice (some ⟨bRY2, 0, none⟩) 1 1, .slice (some ⟨bRY3, 0, none⟩) 1 1] 23 (0, 0)⟩ (List.mem_of_getElem? (i := 8) (by kernel_rfl))) (xs0 := [2]) (hA.at_.ok ⟨bRY1, .cells #[.int .i64 2] 3 (0, 0)⟩ (List.mem_of_getElem? (i := 5) (by kernel_rfl))) (by decide) (xs1 := [0]) (hA.at_.ok ⟨bRY2, .cells #[.int .i64 0] 3 (0, 0)⟩ (List.mem_of_getElem? (i := 6) (by kernel_rfl))) (by decide) (xs2 := [1]) (hA.at_.ok ⟨bRY3, .cells #[.int .i64 1] 3 (0, 0)⟩ (List.mem_of_getElem? (i := 7) (by kernel_rfl))) (by decide)) (Nat.le_refl _)
        rw [kn7.1, kn7.2] at hP
        refine callB hA [] on (hP) (by kernel_rfl) fun w402 hb402 hA => ?_
        refine runS hA 3 [.t 7, .t 8, .t 9] xn on (by kernel_rfl) fun w403 hA => ?_
        exact joinE hRY1_2_3_4_5_6 ⟨bRY1, bRY2, bRY3, bRY4⟩ trivial [0, 1, 2, 3, 4, 5, 6, 7, 8] hA rfl (by kernel_rfl) (by decide)
      ·
        refine runS hA 1 [] xn on (by kernel_rfl) fun w402 hA => ?_
        exact joinE hRY1_2_3_4_5_10 ⟨bRY1, bRY2, bRY3, bRY4, wl301.heap.size⟩ trivial [0, 1, 2, 3, 4, 5, 6, 7, 8, 9] hA rfl (by kernel_rfl) (by decide)
    refine latS hA0RY [1, 2, 3, 10] (γ := Nat × Nat × Nat × Nat) (fun ⟨bRY1, bRY2, bRY3, bRY10⟩ => [(0, .bool false), (1, .pointer (some ⟨w3.heap.size, 0, none⟩)), (2, .pointer (some ⟨w3.heap.size + 1, 0, none⟩)), (3, .slice (some ⟨gl, 0, none⟩) 1 cl), (4, .int .i64 0), (6, .int .i64 0), (7, .slice (some ⟨gm, 0, none⟩) 1 cm), (8, .int .i64 0), (9, .int .i64 200), (10, .int .i64 0), (11, .int .i64 0), (12, .int .i64 0), (13, .slice (some ⟨gx, 0, none⟩) 2 cx), (14, .int .i64 0), (15, .pointer (some ⟨bRY10, 0, none⟩)), (81, (vK exC g3 2)), (82, .slice (some ⟨bRY1, 0, none⟩) 1 1), (83, .slice (some ⟨bRY2, 0, none⟩) 1 1), (84, .slice (some ⟨bRY3, 0, none⟩) 1 1)]) (fun ⟨bRY1, bRY2, bRY3, bRY10⟩ => [(kB g1), (kC g3), (xK (exB 0) w3.heap.size g1 3), (xK exC (w3.heap.size + 1) g3 2), (xS false w66.heap.size gbs cbs gss css), ⟨bRY1, .cells #[.int .i64 2] 3 (0, 0)⟩, ⟨bRY2, .cells #[.int .i64 0] 3 (0, 0)⟩, ⟨bRY3, .cells #[.int .i64 1] 3 (0, 0)⟩, ⟨bRY10, .cells #[.int .i64 0, .int .i64 0, .int .i64 0, .int .i64 0, .int .i64 0, .int .i64 0] 47 (0, 0)⟩]) (fun ⟨bRY1, bRY2, bRY3, bRY10⟩ => [⟨gx, .cells ux 66 (0, 0)⟩, ⟨gm, .cells um 66 (0, 0)⟩, ⟨gbs, .cells ubs 53 (0, 0)⟩, ⟨gss, .cells uss 3 (0, 0)⟩, ⟨gl, .cells ul 66 (0, 0)⟩]) (fun ⟨bRY1, bRY2, bRY3, bRY10⟩ _ => True) ?_ (fun hRY1_2_3_10 => ?_)
    · rintro ⟨bRY1, bRY2, bRY3, bRY10⟩ wl302 _ hA
      refine runS hA 1 [.h 4] xn on (by kernel_rfl) fun w403 hA => ?_
      exact joinE hRY1_2_3_4_10 ⟨bRY1, bRY2, bRY3, wl302.heap.size, bRY10⟩ trivial [0, 1, 2, 3, 4, 5, 6, 7, 9, 8] hA rfl (by kernel_rfl) (by decide)
    refine latS hA0RY [1, 2, 3, 4] (γ := Nat × Nat × Nat × Nat) (fun ⟨bRY1, bRY2, bRY3, bRY4⟩ => [(0, .bool false), (1, .pointer (some ⟨w3.heap.size, 0, none⟩)), (2, .pointer (some ⟨w3.heap.size + 1, 0, none⟩)), (3, .slice (some ⟨gl, 0, none⟩) 1 cl), (4, .int .i64 0), (6, .int .i64 0), (7, .slice (some ⟨gm, 0, none⟩) 1 cm), (8, .int .i64 0), (9, .int .i64 200), (10, .int .i64 0), (11, .int .i64 0), (12, .int .i64 0), (13, .slice (some ⟨gx, 0, none⟩) 2 cx), (14, .int .i64 0), (81, (vK exC g3 2)), (82, .slice (some ⟨bRY1, 0, none⟩) 1 1), (83, .slice (some ⟨bRY2, 0, none⟩) 1 1), (84, .slice (some ⟨bRY3, 0, none⟩) 1 1), (85, .slice (some ⟨bRY4, 0, none⟩) 3 3)]) (fun ⟨bRY1, bRY2, bRY3, bRY4⟩ => [(kB g1), (kC g3), (xK (exB 0) w3.heap.size g1 3), (xK exC (w3.heap.size + 1) g3 2), (xS false w66.heap.size gbs cbs gss css), ⟨bRY1, .cells #[.int .i64 2] 3 (0, 0)⟩, ⟨bRY2, .cells #[.int .i64 0] 3 (0, 0)⟩, ⟨bRY3, .cells #[.int .i64 1] 3 (0, 0)⟩, ⟨bRY4, .cells #[.slice (some ⟨bRY1, 0, none⟩) 1 1, .slice (some ⟨bRY2, 0, none⟩) 1 1, .slice (some ⟨bRY3, 0, none⟩) 1 1] 23 (0, 0)⟩]) (fun ⟨bRY1, bRY2, bRY3, bRY4⟩ => [⟨gx, .cells ux 66 (0, 0)⟩, ⟨gm, .cells um 66 (0, 0)⟩, ⟨gbs, .cells ubs 53 (0, 0)⟩, ⟨gss, .cells uss 3 (0, 0)⟩, ⟨gl, .cells ul 66 (0, 0)⟩]) (fun ⟨bRY1, bRY2, bRY3, bRY4⟩ _ => True) ?_ (fun hRY1_2_3_4 => ?_)
    · rintro ⟨bRY1, bRY2, bRY3, bRY4⟩ wl303 _ hA
      refine manyS hA 5 [10] (by kernel_rfl) ⟨fun hA => ?_, fun hA => ?_, trivial⟩
      ·
        refine callB hA [] on (in_any wl303 (some ⟨bRY4, 0, none⟩) 3 3) (by kernel_rfl) fun w404 hb404 hA => ?_
        exact joinE hRY1_2_3_4_5 ⟨bRY1, bRY2, bRY3, bRY4⟩ trivial [0, 1, 2, 3, 4, 5, 6, 7, 8] hA rfl (by kernel_rfl) (by decide)
      ·
        refine runS hA 1 [] xn on (by kernel_rfl) fun w404 hA => ?_
        exact joinE hRY1_2_3_4_10 ⟨bRY1, bRY2, bRY3, bRY4, wl303.heap.size⟩ trivial [0, 1, 2, 3, 4, 5, 6, 7, 8, 9] hA rfl (by kernel_rfl) (by decide)
    refine latS hA0RY [2, 3, 10] (γ := Nat × Nat × Nat) (fun ⟨bRY2, bRY3, bRY10⟩ => [(0, .bool false), (1, .pointer (some ⟨w3.heap.size, 0, none⟩)), (2, .pointer (some ⟨w3.heap.size + 1, 0, none⟩)), (3, .slice (some ⟨gl, 0, none⟩) 1 cl), (4, .int .i64 0), (6, .int .i64 0), (7, .slice (some ⟨gm, 0, none⟩) 1 cm), (8, .int .i64 0), (9, .int .i64 200), (10, .int .i64 0), (11, .int .i64 0), (12, .int .i64 0), (13, .slice (some ⟨gx, 0, none⟩) 2 cx), (14, .int .i64 0), (15, .pointer (some ⟨bRY10, 0, none⟩)), (81, (vK exC g3 2)), (83, .slice (some ⟨bRY2, 0, none⟩) 1 1), (84, .slice (some ⟨bRY3, 0, none⟩) 1 1)]) (fun ⟨bRY2, bRY3, bRY10⟩ => [(kB g1), (kC g3), (xK (exB 0) w3.heap.size g1 3), (xK exC (w3.heap.size + 1) g3 2), (xS false w66.heap.size gbs cbs gss css), ⟨bRY2, .cells #[.int .i64 0] 3 (0, 0)⟩, ⟨bRY3, .cells #[.int .i64 1] 3 (0, 0)⟩, ⟨bRY10, .cells #[.int .i64 0, .int .i64 0, .int .i64 0, .int .i64 0, .int .i64 0, .int .i64 0] 47 (0, 0)⟩]) (fun ⟨bRY2, bRY3, bRY10⟩ => [⟨gx, .cells ux 66 (0, 0)⟩, ⟨gm, .cells um 66 (0, 0)⟩, ⟨gbs, .cells ubs 53 (0, 0)⟩, ⟨gss, .cells uss 3 (0, 0)⟩, ⟨gl, .cells ul 66 (0, 0)⟩]) (fun ⟨bRY2, bRY3, bRY10⟩ _ => True) ?_ (fun hRY2_3_10 => ?_)
    · rintro ⟨bRY2, bRY3, bRY10⟩ wl304 _ hA
      refine runS hA 1 [.h 1] xn on (by kernel_rfl) fun w405 hA => ?_
      exact joinE hRY1_2_3_10 ⟨wl304.heap.size, bRY2, bRY3, bRY10⟩ trivial [0, 1, 2, 3, 4, 8, 5, 6, 7] hA rfl (by kernel_rfl) (by decide)
    refine latS hA0RY [1, 3, 10] (γ := Nat × Nat × Nat) (fun ⟨bRY1, bRY3, bRY10⟩ => [(0, .bool false), (1, .pointer (some ⟨w3.heap.size, 0, none⟩)), (2, .pointer (some ⟨w3.heap.size + 1, 0, none⟩)), (3, .slice (some ⟨gl, 0, none⟩) 1 cl), (4, .int .i64 0), (6, .int .i64 0), (7, .slice (some ⟨gm, 0, none⟩) 1 cm), (8, .int .i64 0), (9, .int .i64 200), (10, .int .i64 0), (11, .int .i64 0), (12, .int .i64 0), (13, .slice (some ⟨gx, 0, none⟩) 2 cx), (14, .int .i64 0), (15, .pointer (some ⟨bRY10, 0, none⟩)), (81, (vK exC g3 2)), (82, .slice (some ⟨bRY1, 0, none⟩) 1 1), (84, .slice (some ⟨bRY3, 0, none⟩) 1 1)]) (fun ⟨bRY1, bRY3, bRY10⟩ => [(kB g1), (kC g3), (xK (exB 0) w3.heap.size g1 3), (xK exC (w3.heap.size + 1) g3 2), (xS false w66.heap.size gbs cbs gss css), ⟨bRY1, .cells #[.int .i64 2] 3 (0, 0)⟩, ⟨bRY3, .cells #[.int .i64 1] 3 (0, 0)⟩, ⟨bRY10, .cells #[.int .i64 0, .int .i64 0, .int .i64 0, .int .i64 0, .int .i64 0, .int .i64 0] 47 (0, 0)⟩]) (fun ⟨bRY1, bRY3, bRY10⟩ => [⟨gx, .cells ux 66 (0, 0)⟩, ⟨gm, .cells um 66 (0, 0)⟩, ⟨gbs, .cells ubs 53 (0, 0)⟩, ⟨gss, .cells uss 3 (0, 0)⟩, ⟨gl, .cells ul 66 (0, 0)⟩]) (fun ⟨bRY1, bRY3, bRY10⟩ _ => True) ?_ (fun hRY1_3_10 => ?_)
    · rintro ⟨bRY1, bRY3, bRY10⟩ wl305 _ hA
      refine runS hA 1 [.h 2] xn on (by kernel_rfl) fun w406 hA => ?_
      exact joinE hRY1_2_3_10 ⟨bRY1, wl305.heap.size, bRY3, bRY10⟩ trivial [0, 1, 2, 3, 4, 5, 8, 6, 7] hA rfl (by kernel_rfl) (by decide)
    refine latS hA0RY [1, 2, 10] (γ := Nat × Nat × Nat) (fun ⟨bRY1, bRY2, bRY10⟩ => [(0, .bool false), (1, .pointer (some ⟨w3.heap.size, 0, none⟩)), (2, .pointer (some ⟨w3.heap.size + 1, 0, none⟩)), (3, .slice (some ⟨gl, 0, none⟩) 1 cl), (4, .int .i64 0), (6, .int .i64 0), (7, .slice (some ⟨gm, 0, none⟩) 1 cm), (8, .int .i64 0), (9, .int .i64 200), (10, .int .i64 0), (11, .int .i64 0), (12, .int .i64 0), (13, .slice (some ⟨gx, 0, none⟩) 2 cx), (14, .int .i64 0), (15, .pointer (some ⟨bRY10, 0, none⟩)), (81, (vK exC g3 2)), (82, .slice (some ⟨bRY1, 0, none⟩) 1 1), (83, .slice (some ⟨bRY2, 0, none⟩) 1 1)]) (fun ⟨bRY1, bRY2, bRY10⟩ => [(kB g1), (kC g3), (xK (exB 0) w3.heap.size g1 3), (xK exC (w3.heap.size + 1) g3 2), (xS false w66.heap.size gbs cbs gss css), ⟨bRY1, .cells #[.int .i64 2] 3 (0, 0)⟩, ⟨bRY2, .cells #[.int .i64 0] 3 (0, 0)⟩, ⟨bRY10, .cells #[.int .i64 0, .int .i64 0, .int .i64 0, .int .i64 0, .int .i64 0, .int .i64 0] 47 (0, 0)⟩]) (fun ⟨bRY1, bRY2, bRY10⟩ => [⟨gx, .cells ux 66 (0, 0)⟩, ⟨gm, .cells um 66 (0, 0)⟩, ⟨gbs, .cells ubs 53 (0, 0)⟩, ⟨gss, .cells uss 3 (0, 0)⟩, ⟨gl, .cells ul 66 (0, 0)⟩]) (fun ⟨bRY1, bRY2, bRY10⟩ _ => True) ?_ (fun hRY1_2_10 => ?_)
    · rintro ⟨bRY1, bRY2, bRY10⟩ wl306 _ hA
      refine runS hA 1 [.h 3] xn on (by kernel_rfl) fun w407 hA => ?_
      exact joinE hRY1_2_3_10 ⟨bRY1, bRY2, wl306.heap.size, bRY10⟩ trivial [0, 1, 2, 3, 4, 5, 6, 8, 7] hA rfl (by kernel_rfl) (by decide)
    refine latS hA0RY [1, 2, 3] (γ := Nat × Nat × Nat) (fun ⟨bRY1, bRY2, bRY3⟩ => [(0, .bool false), (1, .pointer (some ⟨w3.heap.size, 0, none⟩)), (2, .pointer (some ⟨w3.heap.size + 1, 0, none⟩)), (3, .slice (some ⟨gl, 0, none⟩) 1 cl), (4, .int .i64 0), (6, .int .i64 0), (7, .slice (some ⟨gm, 0, none⟩) 1 cm), (8, .int .i64 0), (9, .int .i64 200), (10, .int .i64 0), (11, .int .i64 0), (12, .int .i64 0), (13, .slice (some ⟨gx, 0, none⟩) 2 cx), (14, .int .i64 0), (81, (vK exC g3 2)), (82, .slice (some ⟨bRY1, 0, none⟩) 1 1), (83, .slice (some ⟨bRY2, 0, none⟩) 1 1), (84, .slice (some ⟨bRY3, 0, none⟩) 1 1)]) (fun ⟨bRY1, bRY2, bRY3⟩ => [(kB g1), (kC g3), (xK (exB 0) w3.heap.size g1 3), (xK exC (w3.heap.size + 1) g3 2), (xS false w66.heap.size gbs cbs gss css), ⟨bRY1, .cells #[.int .i64 2] 3 (0, 0)⟩, ⟨bRY2, .cells #[.int .i64 0] 3 (0, 0)⟩, ⟨bRY3, .cells #[.int .i64 1] 3 (0, 0)⟩]) (fun ⟨bRY1, bRY2, bRY3⟩ => [⟨gx, .cells ux 66 (0, 0)⟩, ⟨gm, .cells um 66 (0, 0)⟩, ⟨gbs, .cells ubs 53 (0, 0)⟩, ⟨gss, .cells uss 3 (0, 0)⟩, ⟨gl, .cells ul 66 (0, 0)⟩]) (fun ⟨bRY1, bRY2, bRY3⟩ _ => True) ?_ (fun hRY1_2_3 => ?_)
    · rintro ⟨bRY1, bRY2, bRY3⟩ wl307 _ hA
      refine manyS hA 4 [10] (by kernel_rfl) ⟨fun hA => ?_, fun hA => ?_, trivial⟩
      ·
        refine runS hA 1 [] xn on (by kernel_rfl) fun w408 hA => ?_
        exact joinE hRY1_2_3_4 ⟨bRY1, bRY2, bRY3, wl307.heap.size⟩ trivial [0, 1, 2, 3, 4, 5, 6, 7, 8] hA rfl (by kernel_rfl) (by decide)
      ·
        refine runS hA 1 [] xn on (by kernel_rfl) fun w408 hA => ?_
        exact joinE hRY1_2_3_10 ⟨bRY1, bRY2, bRY3, wl307.heap.size⟩ trivial [0, 1, 2, 3, 4, 5, 6, 7, 8] hA rfl (by kernel_rfl) (by decide)
    refine latS hA0RY [3, 10] (γ := Nat × Nat) (fun ⟨bRY3, bRY10⟩ => [(0, .bool false), (1, .pointer (some ⟨w3.heap.size, 0, none⟩)), (2, .pointer (some ⟨w3.heap.size + 1, 0, none⟩)), (3, .slice (some ⟨gl, 0, none⟩) 1 cl), (4, .int .i64 0), (6, .int .i64 0), (7, .slice (some ⟨gm, 0, none⟩) 1 cm), (8, .int .i64 0), (9, .int .i64 200), (10, .int .i64 0), (11, .int .i64 0), (12, .int .i64 0), (13, .slice (some ⟨gx, 0, none⟩) 2 cx), (14, .int .i64 0), (15, .pointer (some ⟨bRY10, 0, none⟩)), (81, (vK exC g3 2)), (84, .slice (some ⟨bRY3, 0, none⟩) 1 1)]) (fun ⟨bRY3, bRY10⟩ => [(kB g1), (kC g3), (xK (exB 0) w3.heap.size g1 3), (xK exC (w3.heap.size + 1) g3 2), (xS false w66.heap.size gbs cbs gss css), ⟨bRY3, .cells #[.int .i64 1] 3 (0, 0)⟩, ⟨bRY10, .cells #[.int .i64 0, .int .i64 0, .int .i64 0, .int .i64 0, .int .i64 0, .int .i64 0] 47 (0, 0)⟩]) (fun ⟨bRY3, bRY10⟩ => [⟨gx, .cells ux 66 (0, 0)⟩, ⟨gm, .cells um 66 (0, 0)⟩, ⟨gbs, .cells ubs 53 (0, 0)⟩, ⟨gss, .cells uss 3 (0, 0)⟩, ⟨gl, .cells ul 66 (0, 0)⟩]) (fun ⟨bRY3, bRY10⟩ _ => True) ?_ (fun hRY3_10 => ?_)
    · rintro ⟨bRY3, bRY10⟩ wl308 _ hA
      refine manyS hA 1 [2] (by kernel_rfl) ⟨fun hA => ?_, fun hA => ?_, trivial⟩
      ·
        refine runS hA 1 [] xn on (by kernel_rfl) fun w409 hA => ?_
        exact joinE hRY1_3_10 ⟨wl308.heap.size, bRY3, bRY10⟩ trivial [0, 1, 2, 3, 4, 7, 5, 6] hA rfl (by kernel_rfl) (by decide)
      ·
        refine runS hA 1 [] xn on (by kernel_rfl) fun w409 hA => ?_
        exact joinE hRY2_3_10 ⟨wl308.heap.size, bRY3, bRY10⟩ trivial [0, 1, 2, 3, 4, 7, 5, 6] hA rfl (by kernel_rfl) (by decide)
    refine latS hA0RY [2, 10] (γ := Nat × Nat) (fun ⟨bRY2, bRY10⟩ => [(0, .bool false), (1, .pointer (some ⟨w3.heap.size, 0, none⟩)), (2, .pointer (some ⟨w3.heap.size + 1, 0, none⟩)), (3, .slice (some ⟨gl, 0, none⟩) 1 cl), (4, .int .i64 0), (6, .int .i64 0), (7, .slice (some ⟨gm, 0, none⟩) 1 cm), (8, .int .i64 0), (9, .int .i64 200), (10, .int .i64 0), (11, .int .i64 0), (12, .int .i64 0), (13, .slice (some ⟨gx, 0, none⟩) 2 cx), (14, .int .i64 0), (15, .pointer (some ⟨bRY10, 0, none⟩)), (81, (vK exC g3 2)), (83, .slice (some ⟨bRY2, 0, none⟩) 1 1)]) (fun ⟨bRY2, bRY10⟩ => [(kB g1), (kC g3), (xK (exB 0) w3.heap.size g1 3), (xK exC (w3.heap.size + 1) g3 2), (xS false w66.heap.size gbs cbs gss css), ⟨bRY2, .cells #[.int .i64 0] 3 (0, 0)⟩, ⟨bRY10, .cells #[.int .i64 0, .int .i64 0, .int .i64 0, .int .i64 0, .int .i64 0, .int .i64 0] 47 (0, 0)⟩]) (fun ⟨bRY2, bRY10⟩ => [⟨gx, .cells ux 66 (0, 0)⟩, ⟨gm, .cells um 66 (0, 0)⟩, ⟨gbs, .cells ubs 53 (0, 0)⟩, ⟨gss, .cells uss 3 (0, 0)⟩, ⟨gl, .cells ul 66 (0, 0)⟩]) (fun ⟨bRY2, bRY10⟩ _ => True) ?_ (fun hRY2_10 => ?_)
    · rintro ⟨bRY2, bRY10⟩ wl309 _ hA
      refine manyS hA 1 [3] (by kernel_rfl) ⟨fun hA => ?_, fun hA => ?_, trivial⟩
      ·
        refine runS hA 1 [] xn on (by kernel_rfl) fun w410 hA => ?_
        exact joinE hRY1_2_10 ⟨wl309.heap.size, bRY2, bRY10⟩ trivial [0, 1, 2, 3, 4, 7, 5, 6] hA rfl (by kernel_rfl) (by decide)
      ·
        refine runS hA 1 [] xn on (by kernel_rfl) fun w410 hA => ?_
        exact joinE hRY2_3_10 ⟨bRY2, wl309.heap.size, bRY10⟩ trivial [0, 1, 2, 3, 4, 5, 7, 6] hA rfl (by kernel_rfl) (by decide)
    refine latS hA0RY [2, 3] (γ := Nat × Nat) (fun ⟨bRY2, bRY3⟩ => [(0, .bool false), (1, .pointer (some ⟨w3.heap.size, 0, none⟩)), (2, .pointer (some ⟨w3.heap.size + 1, 0, none⟩)), (3, .slice (some ⟨gl, 0, none⟩) 1 cl), (4, .int .i64 0), (6, .int .i64 0), (7, .slice (some ⟨gm, 0, none⟩) 1 cm), (8, .int .i64 0), (9, .int .i64 200), (10, .int .i64 0), (11, .int .i64 0), (12, .int .i64 0), (13, .slice (some ⟨gx, 0, none⟩) 2 cx), (14, .int .i64 0), (81, (vK exC g3 2)), (83, .slice (some ⟨bRY2, 0, none⟩) 1 1), (84, .slice (some ⟨bRY3, 0, none⟩) 1 1)]) (fun ⟨bRY2, bRY3⟩ => [(kB g1), (kC g3), (xK (exB 0) w3.heap.size g1 3), (xK exC (w3.heap.size + 1) g3 2), (xS false w66.heap.size gbs cbs gss css), ⟨bRY2, .cells #[.int .i64 0] 3 (0, 0)⟩, ⟨bRY3, .cells #[.int .i64 1] 3 (0, 0)⟩]) (fun ⟨bRY2, bRY3⟩ => [⟨gx, .cells ux 66 (0, 0)⟩, ⟨gm, .cells um 66 (0, 0)⟩, ⟨gbs, .cells ubs 53 (0, 0)⟩, ⟨gss, .cells uss 3 (0, 0)⟩, ⟨gl, .cells ul 66 (0, 0)⟩]) (fun ⟨bRY2, bRY3⟩ _ => True) ?_ (fun hRY2_3 => ?_)
    · rintro ⟨bRY2, bRY3⟩ wl310 _ hA
      refine manyS hA 1 [10] (by kernel_rfl) ⟨fun hA => ?_, fun hA => ?_, trivial⟩
      ·
        refine runS hA 1 [] xn on (by kernel_rfl) fun w411 hA => ?_
        exact joinE hRY1_2_3 ⟨wl310.heap.size, bRY2, bRY3⟩ trivial [0, 1, 2, 3, 4, 7, 5, 6] hA rfl (by kernel_rfl) (by decide)
      ·
        refine runS hA 1 [] xn on (by kernel_rfl) fun w411 hA => ?_
        exact joinE hRY2_3_10 ⟨bRY2, bRY3, wl310.heap.size⟩ trivial [0, 1, 2, 3, 4, 5, 6, 7] hA rfl (by kernel_rfl) (by decide)
    refine latS hA0RY [1, 10] (γ := Nat × Nat) (fun ⟨bRY1, bRY10⟩ => [(0, .bool false), (1, .pointer (some ⟨w3.heap.size, 0, none⟩)), (2, .pointer (some ⟨w3.heap.size + 1, 0, none⟩)), (3, .slice (some ⟨gl, 0, none⟩) 1 cl), (4, .int .i64 0), (6, .int .i64 0), (7, .slice (some ⟨gm, 0, none⟩) 1 cm), (8, .int .i64 0), (9, .int .i64 200), (10, .int .i64 0), (11, .int .i64 0), (12, .int .i64 0), (13, .slice (some ⟨gx, 0, none⟩) 2 cx), (14, .int .i64 0), (15, .pointer (some ⟨bRY10, 0, none⟩)), (81, (vK exC g3 2)), (82, .slice (some ⟨bRY1, 0, none⟩) 1 1)]) (fun ⟨bRY1, bRY10⟩ => [(kB g1), (kC g3), (xK (exB 0) w3.heap.size g1 3), (xK exC (w3.heap.size + 1) g3 2), (xS false w66.heap.size gbs cbs gss css), ⟨bRY1, .cells #[.int .i64 2] 3 (0, 0)⟩, ⟨bRY10, .cells #[.int .i64 0, .int .i64 0, .int .i64 0, .int .i64 0, .int .i64 0, .int .i64 0] 47 (0, 0)⟩]) (fun ⟨bRY1, bRY10⟩ => [⟨gx, .cells ux 66 (0, 0)⟩, ⟨gm, .cells um 66 (0, 0)⟩, ⟨gbs, .cells ubs 53 (0, 0)⟩, ⟨gss, .cells uss 3 (0, 0)⟩, ⟨gl, .cells ul 66 (0, 0)⟩]) (fun ⟨bRY1, bRY10⟩ _ => True) ?_ (fun hRY1_10 => ?_)
    · rintro ⟨bRY1, bRY10⟩ wl311 _ hA
      refine manyS hA 2 [3] (by kernel_rfl) ⟨fun hA => ?_, fun hA => ?_, trivial⟩
      ·
        refine runS hA 1 [] xn on (by kernel_rfl) fun w412 hA => ?_
        exact joinE hRY1_2_10 ⟨bRY1, wl311.heap.size, bRY10⟩ trivial [0, 1, 2, 3, 4, 5, 7, 6] hA rfl (by kernel_rfl) (by decide)
      ·
        refine runS hA 1 [] xn on (by kernel_rfl) fun w412 hA => ?_
        exact joinE hRY1_3_10 ⟨bRY1, wl311.heap.size, bRY10⟩ trivial [0, 1, 2, 3, 4, 5, 7, 6] hA rfl (by kernel_rfl) (by decide)
    refine latS hA0RY [1, 3] (γ := Nat × Nat) (fun ⟨bRY1, bRY3⟩ => [(0, .bool false), (1, .pointer (some ⟨w3.heap.size, 0, none⟩)), (2, .pointer (some ⟨w3.heap.size + 1, 0, none⟩)), (3, .slice (some ⟨gl, 0, none⟩) 1 cl), (4, .int .i64 0), (6, .int .i64 0), (7, .slice (some ⟨gm, 0, none⟩) 1 cm), (8, .int .i64 0), (9, .int .i64 200), (10, .int .i64 0), (11, .int .i64 0), (12, .int .i64 0), (13, .slice (some ⟨gx, 0, none⟩) 2 cx), (14, .int .i64 0), (81, (vK exC g3 2)), (82, .slice (some ⟨bRY1, 0, none⟩) 1 1), (84, .slice (some ⟨bRY3, 0, none⟩) 1 1)]) (fun ⟨bRY1, bRY3⟩ => [(kB g1), (kC g3), (xK (exB 0) w3.heap.size g1 3), (xK exC (w3.heap.size + 1) g3 2), (xS false w66.heap.size gbs cbs gss css), ⟨bRY1, .cells #[.int .i64 2] 3 (0, 0)⟩, ⟨bRY3, .cells #[.int .i64 1] 3 (0, 0)⟩]) (fun ⟨bRY1, bRY3⟩ => [⟨gx, .cells ux 66 (0, 0)⟩, ⟨gm, .cells um 66 (0, 0)⟩, ⟨gbs, .cells ubs 53 (0, 0)⟩, ⟨gss, .cells uss 3 (0, 0)⟩, ⟨gl, .cells ul 66 (0, 0)⟩]) (fun ⟨bRY1, bRY3⟩ _ => True) ?_ (fun hRY1_3 => ?_)
    · rintro ⟨bRY1, bRY3⟩ wl312 _ hA
      refine manyS hA 2 [10] (by kernel_rfl) ⟨fun hA => ?_, fun hA => ?_, trivial⟩
      ·
        refine runS hA 1 [] xn on (by kernel_rfl) fun w413 hA => ?_
        exact joinE hRY1_2_3 ⟨bRY1, wl312.heap.size, bRY3⟩ trivial [0, 1, 2, 3, 4, 5, 7, 6] hA rfl (by kernel_rfl) (by decide)
      ·
        refine runS hA 1 [] xn on (by kernel_rfl) fun w413 hA => ?_
        exact joinE hRY1_3_10 ⟨bRY1, bRY3, wl312.heap.size⟩ trivial [0, 1, 2, 3, 4, 5, 6, 7] hA rfl (by kernel_rfl) (by decide)
    refine latS hA0RY [1, 2] (γ := Nat × Nat) (fun ⟨bRY1, bRY2⟩ => [(0, .bool false), (1, .pointer (some ⟨w3.heap.size, 0, none⟩)), (2, .pointer (some ⟨w3.heap.size + 1, 0, none⟩)), (3, .slice (some ⟨gl, 0, none⟩) 1 cl), (4, .int .i64 0), (6, .int .i64 0), (7, .slice (some ⟨gm, 0, none⟩) 1 cm), (8, .int .i64 0), (9, .int .i64 200), (10, .int .i64 0), (11, .int .i64 0), (12, .int .i64 0), (13, .slice (some ⟨gx, 0, none⟩) 2 cx), (14, .int .i64 0), (81, (vK exC g3 2)), (82, .slice (some ⟨bRY1, 0, none⟩) 1 1), (83, .slice (some ⟨bRY2, 0, none⟩) 1 1)]) (fun ⟨bRY1, bRY2⟩ => [(kB g1), (kC g3), (xK (exB 0) w3.heap.size g1 3), (xK exC (w3.heap.size + 1) g3 2), (xS false w66.heap.size gbs cbs gss css), ⟨bRY1, .cells #[.int .i64 2] 3 (0, 0)⟩, ⟨bRY2, .cells #[.int .i64 0] 3 (0, 0)⟩]) (fun ⟨bRY1, bRY2⟩ => [⟨gx, .cells ux 66 (0, 0)⟩, ⟨gm, .cells um 66 (0, 0)⟩, ⟨gbs, .cells ubs 53 (0, 0)⟩, ⟨gss, .cells uss 3 (0, 0)⟩, ⟨gl, .cells ul 66 (0, 0)⟩]) (fun ⟨bRY1, bRY2⟩ _ => True) ?_ (fun hRY1_2 => ?_)
    · rintro ⟨bRY1, bRY2⟩ wl313 _ hA
      refine manyS hA 3 [10] (by kernel_rfl) ⟨fun hA => ?_, fun hA => ?_, trivial⟩
      ·
        refine runS hA 1 [] xn on (by kernel_rfl) fun w414 hA => ?_
        exact joinE hRY1_2_3 ⟨bRY1, bRY2, wl313.heap.size⟩ trivial [0, 1, 2, 3, 4, 5, 6, 7] hA rfl (by kernel_rfl) (by decide)
      ·
        refine runS hA 1 [] xn on (by kernel_rfl) fun w414 hA => ?_
        exact joinE hRY1_2_10 ⟨bRY1, bRY2, wl313.heap.size⟩ trivial [0, 1, 2, 3, 4, 5, 6, 7] hA rfl (by kernel_rfl) (by decide)
    refine latS hA0RY [10] (γ := Nat) (fun bRY10 => [(0, .bool false), (1, .pointer (some ⟨w3.heap.size, 0, none⟩)), (2, .pointer (some ⟨w3.heap.size + 1, 0, none⟩)), (3, .slice (some ⟨gl, 0, none⟩) 1 cl), (4, .int .i64 0), (6, .int .i64 0), (7, .slice (some ⟨gm, 0, none⟩) 1 cm), (8, .int .i64 0), (9, .int .i64 200), (10, .int .i64 0), (11, .int .i64 0), (12, .int .i64 0), (13, .slice (some ⟨gx, 0, none⟩) 2 cx), (14, .int .i64 0), (15, .pointer (some ⟨bRY10, 0, none⟩)), (81, (vK exC g3 2))]) (fun bRY10 => [(kB g1), (kC g3), (xK (exB 0) w3.heap.size g1 3), (xK exC (w3.heap.size + 1) g3 2), (xS false w66.heap.size gbs cbs gss css), ⟨bRY10, .cells #[.int .i64 0, .int .i64 0, .int .i64 0, .int .i64 0, .int .i64 0, .int .i64 0] 47 (0, 0)⟩]) (fun bRY10 => [⟨gx, .cells ux 66 (0, 0)⟩, ⟨gm, .cells um 66 (0, 0)⟩, ⟨gbs, .cells ubs 53 (0, 0)⟩, ⟨gss, .cells uss 3 (0, 0)⟩, ⟨gl, .cells ul 66 (0, 0)⟩]) (fun bRY10 _ => True) ?_ (fun hRY10 => ?_)
    · rintro bRY10 wl314 _ hA
      refine manyS hA 1 [2, 3] (by kernel_rfl) ⟨fun hA => ?_, fun hA => ?_, fun hA => ?_, trivial⟩
      ·
        refine runS hA 1 [] xn on (by kernel_rfl) fun w415 hA => ?_
        exact joinE hRY1_10 ⟨wl314.heap.size, bRY10⟩ trivial [0, 1, 2, 3, 4, 6, 5] hA rfl (by kernel_rfl) (by decide)
      ·
        refine runS hA 1 [] xn on (by kernel_rfl) fun w415 hA => ?_
        exact joinE hRY2_10 ⟨wl314.heap.size, bRY10⟩ trivial [0, 1, 2, 3, 4, 6, 5] hA rfl (by kernel_rfl) (by decide)
      ·
        refine runS hA 1 [] xn on (by kernel_rfl) fun w415 hA => ?_
        exact joinE hRY3_10 ⟨wl314.heap.size, bRY10⟩ trivial [0, 1, 2, 3, 4, 6, 5] hA rfl (by kernel_rfl) (by decide)
    refine latS hA0RY [3] (γ := Nat) (fun bRY3 => [(0, .bool false), (1, .pointer (some ⟨w3.heap.size, 0, none⟩)), (2, .pointer (some ⟨w3.heap.size + 1, 0, none⟩)), (3, .slice (some ⟨gl, 0, none⟩) 1 cl), (4, .int .i64 0), (6, .int .i64 0), (7, .slice (some ⟨gm, 0, none⟩) 1 cm), (8, .int .i64 0), (9, .int .i64 200), (10, .int .i64 0), (11, .int .i64 0), (12, .int .i64 0), (13, .slice (some ⟨gx, 0, none⟩) 2 cx), (14, .int .i64 0), (81, (vK exC g3 2)), (84, .slice (some ⟨bRY3, 0, none⟩) 1 1)]) (fun bRY3 => [(kB g1), (kC g3), (xK (exB 0) w3.heap.size g1 3), (xK exC (w3.heap.size + 1) g3 2), (xS false w66.heap.size gbs cbs gss css), ⟨bRY3, .cells #[.int .i64 1] 3 (0, 0)⟩]) (fun bRY3 => [⟨gx, .cells ux 66 (0, 0)⟩, ⟨gm, .cells um 66 (0, 0)⟩, ⟨gbs, .cells ubs 53 (0, 0)⟩, ⟨gss, .cells uss 3 (0, 0)⟩, ⟨gl, .cells ul 66 (0, 0)⟩]) (fun bRY3 _ => True) ?_ (fun hRY3 => ?_)
    · rintro bRY3 wl315 _ hA
      refine manyS hA 1 [2, 10] (by kernel_rfl) ⟨fun hA => ?_, fun hA => ?_, fun hA => ?_, trivial⟩
      ·
        refine runS hA 1 [] xn on (by kernel_rfl) fun w416 hA => ?_
        exact joinE hRY1_3 ⟨wl315.heap.size, bRY3⟩ trivial [0, 1, 2, 3, 4, 6, 5] hA rfl (by kernel_rfl) (by decide)
      ·
        refine runS hA 1 [] xn on (by kernel_rfl) fun w416 hA => ?_
        exact joinE hRY2_3 ⟨wl315.heap.size, bRY3⟩ trivial [0, 1, 2, 3, 4, 6, 5] hA rfl (by kernel_rfl) (by decide)
      ·
        refine runS hA 1 [] xn on (by kernel_rfl) fun w416 hA => ?_
        exact joinE hRY3_10 ⟨bRY3, wl315.heap.size⟩ trivial [0, 1, 2, 3, 4, 5, 6] hA rfl (by kernel_rfl) (by decide)
    refine latS hA0RY [2] (γ := Nat) (fun bRY2 => [(0, .bool false), (1, .pointer (some ⟨w3.heap.size, 0, none⟩)), (2, .pointer (some ⟨w3.heap.size + 1, 0, none⟩)), (3, .slice (some ⟨gl, 0, none⟩) 1 cl), (4, .int .i64 0), (6, .int .i64 0), (7, .slice (some ⟨gm, 0, none⟩) 1 cm), (8, .int .i64 0), (9, .int .i64 200), (10, .int .i64 0), (11, .int .i64 0), (12, .int .i64 0), (13, .slice (some ⟨gx, 0, none⟩) 2 cx), (14, .int .i64 0), (81, (vK exC g3 2)), (83, .slice (some ⟨bRY2, 0, none⟩) 1 1)]) (fun bRY2 => [(kB g1), (kC g3), (xK (exB 0) w3.heap.size g1 3), (xK exC (w3.heap.size + 1) g3 2), (xS false w66.heap.size gbs cbs gss css), ⟨bRY2, .cells #[.int .i64 0] 3 (0, 0)⟩]) (fun bRY2 => [⟨gx, .cells ux 66 (0, 0)⟩, ⟨gm, .cells um 66 (0, 0)⟩, ⟨gbs, .cells ubs 53 (0, 0)⟩, ⟨gss, .cells uss 3 (0, 0)⟩, ⟨gl, .cells ul 66 (0, 0)⟩]) (fun bRY2 _ => True) ?_ (fun hRY2 => ?_)
    · rintro bRY2 wl316 _ hA
      refine manyS hA 1 [3, 10] (by kernel_rfl) ⟨fun hA => ?_, fun hA => ?_, fun hA => ?_, trivial⟩
      ·
        refine runS hA 1 [] xn on (by kernel_rfl) fun w417 hA => ?_
        exact joinE hRY1_2 ⟨wl316.heap.size, bRY2⟩ trivial [0, 1, 2, 3, 4, 6, 5] hA rfl (by kernel_rfl) (by decide)
      ·
        refine runS hA 1 [] xn on (by kernel_rfl) fun w417 hA => ?_
        exact joinE hRY2_3 ⟨bRY2, wl316.heap.size⟩ trivial [0, 1, 2, 3, 4, 5, 6] hA rfl (by kernel_rfl) (by decide)
      ·
        refine runS hA 1 [] xn on (by kernel_rfl) fun w417 hA => ?_
        exact joinE hRY2_10 ⟨bRY2, wl316.heap.size⟩ trivial [0, 1, 2, 3, 4, 5, 6] hA rfl (by kernel_rfl) (by decide)
    refine latS hA0RY [1] (γ := Nat) (fun bRY1 => [(0, .bool false), (1, .pointer (some ⟨w3.heap.size, 0, none⟩)), (2, .pointer (some ⟨w3.heap.size + 1, 0, none⟩)), (3, .slice (some ⟨gl, 0, none⟩) 1 cl), (4, .int .i64 0), (6, .int .i64 0), (7, .slice (some ⟨gm, 0, none⟩) 1 cm), (8, .int .i64 0), (9, .int .i64 200), (10, .int .i64 0), (11, .int .i64 0), (12, .int .i64 0), (13, .slice (some ⟨gx, 0, none⟩) 2 cx), (14, .int .i64 0), (81, (vK exC g3 2)), (82, .slice (some ⟨bRY1, 0, none⟩) 1 1)]) (fun bRY1 => [(kB g1), (kC g3), (xK (exB 0) w3.heap.size g1 3), (xK exC (w3.heap.size + 1) g3 2), (xS false w66.heap.size gbs cbs gss css), ⟨bRY1, .cells #[.int .i64 2] 3 (0, 0)⟩]) (fun bRY1 => [⟨gx, .cells ux 66 (0, 0)⟩, ⟨gm, .cells um 66 (0, 0)⟩, ⟨gbs, .cells ubs 53 (0, 0)⟩, ⟨gss, .cells uss 3 (0, 0)⟩, ⟨gl, .cells ul 66 (0, 0)⟩]) (fun bRY1 _ => True) ?_ (fun hRY1 => ?_)
    · rintro bRY1 wl317 _ hA
      refine manyS hA 2 [3, 10] (by kernel_rfl) ⟨fun hA => ?_, fun hA => ?_, fun hA => ?_, trivial⟩
      ·
        refine runS hA 1 [] xn on (by kernel_rfl) fun w418 hA => ?_
        exact joinE hRY1_2 ⟨bRY1, wl317.heap.size⟩ trivial [0, 1, 2, 3, 4, 5, 6] hA rfl (by kernel_rfl) (by decide)
      ·
        refine runS hA 1 [] xn on (by kernel_rfl) fun w418 hA => ?_
        exact joinE hRY1_3 ⟨bRY1, wl317.heap.size⟩ trivial [0, 1, 2, 3, 4, 5, 6] hA rfl (by kernel_rfl) (by decide)
      ·
        refine runS hA 1 [] xn on (by kernel_rfl) fun w418 hA => ?_
        exact joinE hRY1_10 ⟨bRY1, wl317.heap.size⟩ trivial [0, 1, 2, 3, 4, 5, 6] hA rfl (by kernel_rfl) (by decide)
    replace hA := hA0RY
    refine manyS hA 1 [2, 3, 10] (by kernel_rfl) ⟨fun hA => ?_, fun hA => ?_, fun hA => ?_, fun hA => ?_, trivial⟩
    ·
      refine runS hA 1 [] xn on (by kernel_rfl) fun w318 hA => ?_
      exact joinE hRY1 w294.heap.size trivial [0, 1, 2, 3, 4, 5] hA rfl (by kernel_rfl) (by decide)
    ·
      refine runS hA 1 [] xn on (by kernel_rfl) fun w318 hA => ?_
      exact joinE hRY2 w294.heap.size trivial [0, 1, 2, 3, 4, 5] hA rfl (by kernel_rfl) (by decide)
    ·
      refine runS hA 1 [] xn on (by kernel_rfl) fun w318 hA => ?_
      exact joinE hRY3 w294.heap.size trivial [0, 1, 2, 3, 4, 5] hA rfl (by kernel_rfl) (by decide)
    ·
      refine runS hA 1 [] xn on (by kernel_rfl) fun w318 hA => ?_
      exact joinE hRY10 w294.heap.size trivial [0, 1, 2, 3, 4, 5] hA rfl (by kernel_rfl) (by decide)
  rintro ⟨bRY1, bRY2, bRY3, bRY4, bRY10⟩ w367 _ hA
  refine runS hA 3 [.b true] xn on (by kernel_rfl) fun w368 hA => ?_
  refine draw hA [true, true, true, true, true, true] [0, 1, 2, 3, 4, 5, 6, 7, 8, 9, 10] (by kernel_rfl) (by kernel_rfl) fun hA => ?_
  refine runS hA 1 ([.t 0] ++ List.replicate 8 (.k 3)) xn on (by kernel_rfl) fun w369 hA => ?_
  have hA0RW := hA
  refine latK hA0RW [1, 2, 3, 4, 5, 6, 7, 8, 9, 10] (γ := Nat × Nat × Nat × Nat × Nat × Array Value) (fun ⟨bRW1, bRW2, bRW3, gw, cw, uw⟩ => [(0, .bool false), (1, .pointer (some ⟨w3.heap.size, 0, none⟩)), (3, .slice (some ⟨gl, 0, none⟩) 1 cl), (4, .int .i64 0), (6, .int .i64 0), (7, .slice (some ⟨gm, 0, none⟩) 1 cm), (8, .int .i64 0), (9, .int .i64 200), (10, .int .i64 0), (11, .int .i64 0), (12, .int .i64 0), (13, .slice (some ⟨gx, 0, none⟩) 2 cx), (14, .int .i64 0), (15, .pointer (some ⟨bRY10, 0, none⟩)), (16, .int .i64 0), (17, .slice (some ⟨gw, 0, none⟩) 2 cw), (18, .int .i64 0)]) (fun ⟨bRW1, bRW2, bRW3, gw, cw, uw⟩ => [(kB g1), (kC g3), (xK (exB 0) w3.heap.size g1 3), (xK exC (w3.heap.size + 1) g3 2), (xS false w66.heap.size gbs cbs gss css), ⟨bRY10, .cells #[.int .i64 550, .int .i64 0, .int .i64 0, .int .i64 0, .int .i64 0, .int .i64 550] 47 (0, 0)⟩]) (fun ⟨bRW1, bRW2, bRW3, gw, cw, uw⟩ => [⟨gw, .cells uw 69 (0, 0)⟩, ⟨gx, .cells ux 66 (0, 0)⟩, ⟨gm, .cells um 66 (0, 0)⟩, ⟨gbs, .cells ubs 53 (0, 0)⟩, ⟨gss, .cells uss 3 (0, 0)⟩, ⟨gl, .cells ul 66 (0, 0)⟩]) (fun ⟨bRW1, bRW2, bRW3, gw, cw, uw⟩ _ => RowV 69 2 (.slice (some ⟨gw, 0, none⟩) 2 cw) 2 (encW [(0, 1), (1, 0)]) [⟨gw, .cells uw 69 (0, 0)⟩]) (fun hRW1_2_3_4_5 => ?_) ?_
  ·
    refine latS hA0RW [1, 2, 3, 4] (γ := Nat × Nat × Nat) (fun ⟨bRW1, bRW2, bRW3⟩ => [(0, .bool false), (1, .pointer (some ⟨w3.heap.size, 0, none⟩)), (2, .pointer (some ⟨w3.heap.size + 1, 0, none⟩)), (3, .slice (some ⟨gl, 0, none⟩) 1 cl), (4, .int .i64 0), (6, .int .i64 0), (7, .slice (some ⟨gm, 0, none⟩) 1 cm), (8, .int .i64 0), (9, .int .i64 200), (10, .int .i64 0), (11, .int .i64 0), (12, .int .i64 0), (13, .slice (some ⟨gx, 0, none⟩) 2 cx), (14, .int .i64 0), (15, .pointer (some ⟨bRY10, 0, none⟩)), (16, .int .i64 0), (91, (vK exC g3 2)), (92, .slice (some ⟨bRW1, 0, none⟩) 2 2), (93, .slice (some ⟨bRW2, 0, none⟩) 1 1), (94, .slice (some ⟨bRW3, 0, none⟩) 2 2), (95, .slice (some ⟨bRW3, 0, none⟩) 2 2)]) (fun ⟨bRW1, bRW2, bRW3⟩ => [(kB g1), (kC g3), (xK (exB 0) w3.heap.size g1 3), (xK exC (w3.heap.size + 1) g3 2), (xS false w66.heap.size gbs cbs gss css), ⟨bRY10, .cells #[.int .i64 550, .int .i64 0, .int .i64 0, .int .i64 0, .int .i64 0, .int .i64 550] 47 (0, 0)⟩, ⟨bRW1, .cells #[.int .i64 0, .int .i64 1] 3 (0, 0)⟩, ⟨bRW2, .cells #[.int .i64 2] 3 (0, 0)⟩, ⟨bRW3, .cells #[.slice (some ⟨bRW1, 0, none⟩) 2 2, .slice (some ⟨bRW2, 0, none⟩) 1 1] 23 (0, 0)⟩]) (fun ⟨bRW1, bRW2, bRW3⟩ => [⟨gx, .cells ux 66 (0, 0)⟩, ⟨gm, .cells um 66 (0, 0)⟩, ⟨gbs, .cells ubs 53 (0, 0)⟩, ⟨gss, .cells uss 3 (0, 0)⟩, ⟨gl, .cells ul 66 (0, 0)⟩]) (fun ⟨bRW1, bRW2, bRW3⟩ _ => True) ?_ (fun hRW1_2_3_4 => ?_)
    · rintro ⟨bRW1, bRW2, bRW3⟩ wl370 _ hA
      have hAp := hA.atK [(kB g1), (kC g3), (xK (exB 0) w3.heap.size g1 3), (xK exC (w3.heap.size + 1) g3 2), (xS false w66.heap.size gbs cbs gss css), ⟨bRY10, .cells #[.int .i64 550, .int .i64 0, .int .i64 0, .int .i64 0, .int .i64 0, .int .i64 550] 47 (0, 0)⟩, ⟨bRW1, .cells #[.int .i64 0, .int .i64 1] 3 (0, 0)⟩, ⟨bRW2, .cells #[.int .i64 2] 3 (0, 0)⟩, ⟨bRW3, .cells #[.slice (some ⟨bRW1, 0, none⟩) 2 2, .slice (some ⟨bRW2, 0, none⟩) 1 1] 23 (0, 0)⟩] (by kernel_rfl)
      have hP := Winners_any wl370 wl370.heap.size exC (some ⟨g3, 0, none⟩) 2 2 none 0 0 (some ⟨bRW3, 0, none⟩) 2 2 [[0, 1], [2]] (exC_at (hA.at_.ok (kC g3) (List.mem_of_getElem? (i := 1) (by kernel_rfl)))) (fin2 (hA.at_.ok ⟨bRW3, .cells #[.slice (some ⟨bRW1, 0, none⟩) 2 2, .slice (some ⟨bRW2, 0, none⟩) 1 1] 23 (0, 0)⟩ (List.mem_of_getElem? (i := 8) (by kernel_rfl))) (xs0 := [0, 1]) (hA.at_.ok ⟨bRW1, .cells #[.int .i64 0, .int .i64 1] 3 (0, 0)⟩ (List.mem_of_getElem? (i := 6) (by kernel_rfl))) (by decide) (xs1 := [2]) (hA.at_.ok ⟨bRW2, .cells #[.int .i64 2] 3 (0, 0)⟩ (List.mem_of_getElem? (i := 7) (by kernel_rfl))) (by decide)) (Nat.le_refl _)
      rw [kn8.1, kn8.2] at hP
      refine call hA [] on (hP) (by kernel_rfl) (by rintro e v ⟨v, rfl, hbd, hown, hnil⟩; exact hbd) ?_
      rintro e w471 ⟨v, rfl, hbd, hown, hnil⟩
      refine ⟨_, rfl, fun hA => ?_⟩
      obtain ⟨ob9, hr9, hA2⟩ := At.own hAp hbd hown
      obtain ⟨gw, cw, uw, hv9, rfl, -⟩ : ∃ gz cz uz, v = .slice (some ⟨gz, 0, none⟩) 2 cz ∧ ob9 = [⟨gz, .cells uz 69 (0, 0)⟩] ∧ True := by
        rcases hr9.2 with ⟨-, h9, -⟩ | ⟨gz, cz, uz, h8, h9, -⟩
        · exact absurd h9 (by decide)
        · exact ⟨gz, cz, uz, h8, h9, trivial⟩
      cases hv9
      refine reknow ⟨[(kB g1), (kC g3), (xK (exB 0) w3.heap.size g1 3), (xK exC (w3.heap.size + 1) g3 2), (xS false w66.heap.size gbs cbs gss css), ⟨bRY10, .cells #[.int .i64 550, .int .i64 0, .int .i64 0, .int .i64 0, .int .i64 0, .int .i64 550] 47 (0, 0)⟩, ⟨bRW1, .cells #[.int .i64 0, .int .i64 1] 3 (0, 0)⟩, ⟨bRW2, .cells #[.int .i64 2] 3 (0, 0)⟩, ⟨bRW3, .cells #[.slice (some ⟨bRW1, 0, none⟩) 2 2, .slice (some ⟨bRW2, 0, none⟩) 1 1] 23 (0, 0)⟩], w471.heap.size, [], [], [], [], []⟩ hA2 (Nat.zero_le _) fun hA => ?_
      refine runS hA 5 [.t 6, .t 7, .t 8, .t 9, .t 10] xn on (by kernel_rfl) fun w472 hA => ?_
      exact joinE hRW1_2_3_4_5 ⟨bRW1, bRW2, bRW3, gw, cw, uw⟩ hr9 [0, 1, 2, 3, 4, 5] hA rfl (by kernel_rfl) (by decide)
    refine latS hA0RW [1, 2, 3] (γ := Nat × Nat × Nat) (fun ⟨bRW1, bRW2, bRW3⟩ => [(0, .bool false), (1, .pointer (some ⟨w3.heap.size, 0, none⟩)), (2, .pointer (some ⟨w3.heap.size + 1, 0, none⟩)), (3, .slice (some ⟨gl, 0, none⟩) 1 cl), (4, .int .i64 0), (6, .int .i64 0), (7, .slice (some ⟨gm, 0, none⟩) 1 cm), (8, .int .i64 0), (9, .int .i64 200), (10, .int .i64 0), (11, .int .i64 0), (12, .int .i64 0), (13, .slice (some ⟨gx, 0, none⟩) 2 cx), (14, .int .i64 0), (15, .pointer (some ⟨bRY10, 0, none⟩)), (16, .int .i64 0), (91, (vK exC g3 2)), (92, .slice (some ⟨bRW1, 0, none⟩) 2 2), (93, .slice (some ⟨bRW2, 0, none⟩) 1 1), (94, .slice (some ⟨bRW3, 0, none⟩) 2 2)]) (fun ⟨bRW1, bRW2, bRW3⟩ => [(kB g1), (kC g3), (xK (exB 0) w3.heap.size g1 3), (xK exC (w3.heap.size + 1) g3 2), (xS false w66.heap.size gbs cbs gss css), ⟨bRY10, .cells #[.int .i64 550, .int .i64 0, .int .i64 0, .int .i64 0, .int .i64 0, .int .i64 550] 47 (0, 0)⟩, ⟨bRW1, .cells #[.int .i64 0, .int .i64 1] 3 (0, 0)⟩, ⟨bRW2, .cells #[.int .i64 2] 3 (0, 0)⟩, ⟨bRW3, .cells #[.slice (some ⟨bRW1, 0, none⟩) 2 2, .slice (some ⟨bRW2, 0, none⟩) 1 1] 23 (0, 0)⟩]) (fun ⟨bRW1, bRW2, bRW3⟩ => [⟨gx, .cells ux 66 (0, 0)⟩, ⟨gm, .cells um 66 (0, 0)⟩, ⟨gbs, .cells ubs 53 (0, 0)⟩, ⟨gss, .cells uss 3 (0, 0)⟩, ⟨gl, .cells ul 66 (0, 0)⟩]) (fun ⟨bRW1, bRW2, bRW3⟩ _ => True) ?_ (fun hRW1_2_3 => ?_)
    · rintro ⟨bRW1, bRW2, bRW3⟩ wl371 _ hA
      refine callB hA [] on (in_any wl371 (some ⟨bRW3, 0, none⟩) 2 2) (by kernel_rfl) fun w472 hb472 hA => ?_
      exact joinE hRW1_2_3_4 ⟨bRW1, bRW2, bRW3⟩ trivial [0, 1, 2, 3, 4, 5, 6, 7, 8] hA rfl (by kernel_rfl) (by decide)
    refine latS hA0RW [1, 2] (γ := Nat × Nat) (fun ⟨bRW1, bRW2⟩ => [(0, .bool false), (1, .pointer (some ⟨w3.heap.size, 0, none⟩)), (2, .pointer (some ⟨w3.heap.size + 1, 0, none⟩)), (3, .slice (some ⟨gl, 0, none⟩) 1 cl), (4, .int .i64 0), (6, .int .i64 0), (7, .slice (some ⟨gm, 0, none⟩) 1 cm), (8, .int .i64 0), (9, .int .i64 200), (10, .int .i64 0), (11, .int .i64 0), (12, .int .i64 0), (13, .slice (some ⟨gx, 0, none⟩) 2 cx), (14, .int .i64 0), (15, .pointer (some ⟨bRY10, 0, none⟩)), (16, .int .i64 0), (91, (vK exC g3 2)), (92, .slice (some ⟨bRW1, 0, none⟩) 2 2), (93, .slice (some ⟨bRW2, 0, none⟩) 1 1)]) (fun ⟨bRW1, bRW2⟩ => [(kB g1), (kC g3), (xK (exB 0) w3.heap.size g1 3), (xK exC (w3.heap.size + 1) g3 2), (xS false w66.heap.size gbs cbs gss css), ⟨bRY10, .cells #[.int .i64 550, .int .i64 0, .int .i64 0, .int .i64 0, .int .i64 0, .int .i64 550] 47 (0, 0)⟩, ⟨bRW1, .cells #[.int .i64 0, .int .i64 1] 3 (0, 0)⟩, ⟨bRW2, .cells #[.int .i64 2] 3 (0, 0)⟩]) (fun ⟨bRW1, bRW2⟩ => [⟨gx, .cells ux 66 (0, 0)⟩, ⟨gm, .cells um 66 (0, 0)⟩, ⟨gbs, .cells ubs 53 (0, 0)⟩, ⟨gss, .cells uss 3 (0, 0)⟩, ⟨gl, .cells ul 66 (0, 0)⟩]) (fun ⟨bRW1, bRW2⟩ _ => True) ?_ (fun hRW1_2 => ?_)
    · rintro ⟨bRW1, bRW2⟩ wl372 _ hA
      refine runS hA 1 [.h 3] xn on (by kernel_rfl) fun w473 hA => ?_
      exact joinE hRW1_2_3 ⟨bRW1, bRW2, wl372.heap.size⟩ trivial [0, 1, 2, 3, 4, 5, 6, 7, 8] hA rfl (by kernel_rfl) (by decide)
    refine latS hA0RW [2] (γ := Nat) (fun bRW2 => [(0, .bool false), (1, .pointer (some ⟨w3.heap.size, 0, none⟩)), (2, .pointer (some ⟨w3.heap.size + 1, 0, none⟩)), (3, .slice (some ⟨gl, 0, none⟩) 1 cl), (4, .int .i64 0), (6, .int .i64 0), (7, .slice (some ⟨gm, 0, none⟩) 1 cm), (8, .int .i64 0), (9, .int .i64 200), (10, .int .i64 0), (11, .int .i64 0), (12, .int .i64 0), (13, .slice (some ⟨gx, 0, none⟩) 2 cx), (14, .int .i64 0), (15, .pointer (some ⟨bRY10, 0, none⟩)), (16, .int .i64 0), (91, (vK exC g3 2)), (93, .slice (some ⟨bRW2, 0, none⟩) 1 1)]) (fun bRW2 => [(kB g1), (kC g3), (xK (exB 0) w3.heap.size g1 3), (xK exC (w3.heap.size + 1) g3 2), (xS false w66.heap.size gbs cbs gss css), ⟨bRY10, .cells #[.int .i64 550, .int .i64 0, .int .i64 0, .int .i64 0, .int .i64 0, .int .i64 550] 47 (0, 0)⟩, ⟨bRW2, .cells #[.int .i64 2] 3 (0, 0)⟩]) (fun bRW2 => [⟨gx, .cells ux 66 (0, 0)⟩, ⟨gm, .cells um 66 (0, 0)⟩, ⟨gbs, .cells ubs 53 (0, 0)⟩, ⟨gss, .cells uss 3 (0, 0)⟩, ⟨gl, .cells ul 66 (0, 0)⟩]) (fun bRW2 _ => True) ?_ (fun hRW2 => ?_)
    · rintro bRW2 wl373 _ hA
      refine runS hA 1 [.h 1] xn on (by kernel_rfl) fun w474 hA => ?_
      exact joinE hRW1_2 ⟨wl373.heap.size, bRW2⟩ trivial [0, 1, 2, 3, 4, 5, 7, 6] hA rfl (by kernel_rfl) (by decide)
    refine latS hA0RW [1] (γ := Nat) (fun bRW1 => [(0, .bool false), (1, .pointer (some ⟨w3.heap.size, 0, none⟩)), (2, .pointer (some ⟨w3.heap.size + 1, 0, none⟩)), (3, .slice (some ⟨gl, 0, none⟩) 1 cl), (4, .int .i64 0), (6, .int .i64 0), (7, .slice (some ⟨gm, 0, none⟩) 1 cm), (8, .int .i64 0), (9, .int .i64 200), (10, .int .i64 0), (11, .int .i64 0), (12, .int .i64 0), (13, .slice (some ⟨gx, 0, none⟩) 2 cx), (14, .int .i64 0), (15, .pointer (some ⟨bRY10, 0, none⟩)), (16, .int .i64 0), (91, (vK exC g3 2)), (92, .slice (some ⟨bRW1, 0, none⟩) 2 2)]) (fun bRW1 => [(kB g1), (kC g3), (xK (exB 0) w3.heap.size g1 3), (xK exC (w3.heap.size + 1) g3 2), (xS false w66.heap.size gbs cbs gss css), ⟨bRY10, .cells #[.int .i64 550, .int .i64 0, .int .i64 0, .int .i64 0, .int .i64 0, .int .i64 550] 47 (0, 0)⟩, ⟨bRW1, .cells #[.int .i64 0, .int .i64 1] 3 (0, 0)⟩]) (fun bRW1 => [⟨gx, .cells ux 66 (0, 0)⟩, ⟨gm, .cells um 66 (0, 0)⟩, ⟨gbs, .cells ubs 53 (0, 0)⟩, ⟨gss, .cells uss 3 (0, 0)⟩, ⟨gl, .cells ul 66 (0, 0)⟩]) (fun bRW1 _ => True) ?_ (fun hRW1 => ?_)
    · rintro bRW1 wl374 _ hA
      refine runS hA 1 [.h 2] xn on (by kernel_rfl) fun w475 hA => ?_
      exact joinE hRW1_2 ⟨bRW1, wl374.heap.size⟩ trivial [0, 1, 2, 3, 4, 5, 6, 7] hA rfl (by kernel_rfl) (by decide)
    replace hA := hA0RW
    refine manyS hA 1 [2] (by kernel_rfl) ⟨fun hA => ?_, fun hA => ?_, trivial⟩
    ·
      refine runS hA 1 [] xn on (by kernel_rfl) fun w375 hA => ?_
      exact joinE hRW1 w367.heap.size trivial [0, 1, 2, 3, 4, 5, 6] hA rfl (by kernel_rfl) (by decide)
    ·
      refine runS hA 1 [] xn on (by kernel_rfl) fun w375 hA => ?_
      exact joinE hRW2 w367.heap.size trivial [0, 1, 2, 3, 4, 5, 6] hA rfl (by kernel_rfl) (by decide)
  rintro ⟨bRW1, bRW2, bRW3, gw, cw, uw⟩ w424 hrRW0 hA
  have hrw := hrRW0
  refine runS hA 5 ([.b true] ++ List.replicate 8 (.k 2)) xn on (by kernel_rfl) fun w425 hA => ?_
  have hAp := hA.atK [(kB g1), (kC g3), (xK (exB 0) w3.heap.size g1 3), (xK exC (w3.heap.size + 1) g3 2), (xS false w66.heap.size gbs cbs gss css), ⟨bRY10, .cells #[.int .i64 550, .int .i64 0, .int .i64 0, .int .i64 0, .int .i64 0, .int .i64 550] 47 (0, 0)⟩] (by kernel_rfl)
  have hP := Scratch_any w425 w425.heap.size (exB 0) (some ⟨g1, 0, none⟩) 3 3 none 0 0 0 (exB_at 0 (hA.at_.ok (kB g1) (List.mem_of_getElem? (i := 0) (by kernel_rfl)))) (Nat.le_refl _)
  rw [kn9.1, kn9.2] at hP
  refine call hA [] on (hP) (by kernel_rfl) (by rintro e v ⟨A8, cbt, A9, cst, rfl, hbs, ho1, ho2⟩; exact hbs) ?_
  rintro e w426 ⟨A8, cbt, A9, cst, rfl, hbs, ho1, ho2⟩
  refine ⟨_, rfl, fun hA => ?_⟩
  obtain ⟨ob8, ob9, hr1t, hr2t, hA2⟩ := At.own2 hAp hbs (by decide) ho1 ho2
  obtain ⟨gbt, cz1, ubt, hv9, rfl, -⟩ : ∃ gz cz uz, Value.slice A8 (exT 0).bets.length cbt = .slice (some ⟨gz, 0, none⟩) (exT 0).bets.length cz ∧ ob8 = [⟨gz, .cells uz 53 (0, 0)⟩] ∧ True := by
    rcases hr1t.2 with ⟨-, h9, -⟩ | ⟨gz, cz, uz, h8, h9, -⟩
    · exact absurd h9 (by decide)
    · exact ⟨gz, cz, uz, h8, h9, trivial⟩
  cases hv9
  obtain ⟨gst, cz2, ust, hv9, rfl, -⟩ : ∃ gz cz uz, Value.slice A9 (exT 0).scr.length cst = .slice (some ⟨gz, 0, none⟩) (exT 0).scr.length cz ∧ ob9 = [⟨gz, .cells uz 3 (0, 0)⟩] ∧ True := by
    rcases hr2t.2 with ⟨-, h9, -⟩ | ⟨gz, cz, uz, h8, h9, -⟩
    · exact absurd h9 (by decide)
    · exact ⟨gz, cz, uz, h8, h9, trivial⟩
  cases hv9
  refine reknow ⟨[(kB g1), (kC g3), (xK (exB 0) w3.heap.size g1 3), (xK exC (w3.heap.size + 1) g3 2), (xS false w66.heap.size gbs cbs gss css), ⟨bRY10, .cells #[.int .i64 550, .int .i64 0, .int .i64 0, .int .i64 0, .int .i64 0, .int .i64 550] 47 (0, 0)⟩], w426.heap.size, [], [], [], [], []⟩ hA2 (Nat.zero_le _) fun hA => ?_
  refine runS hA 11 (List.replicate 16 (.k 6)) xn on (by kernel_rfl) fun w427 hA => ?_
  have hP := Favourite_any w427 w427.heap.size (exT 0) (some ⟨gbt, 0, none⟩) 3 cbt (some ⟨gst, 0, none⟩) 1 cst (rows_at (b := exT 0) (n := 3) (m := 1) hr1t hr2t (hA.at_.rok ⟨gbt, .cells ubt 53 (0, 0)⟩ (by simp)) (hA.at_.rok ⟨gst, .cells ust 3 (0, 0)⟩ (by simp)) (by decide) (by decide)) (Nat.le_refl _)
  rw [kn10.1, kn10.2] at hP
  refine callB hA [] on (hP) (by kernel_rfl) fun w428 hb428 hA => ?_
  refine runS hA 10 (List.replicate 8 (.k 2)) xn on (by kernel_rfl) fun w429 hA => ?_
  have hAp := hA.atK [(kB g1), (kC g3), (xK (exB 0) w3.heap.size g1 3), (xK exC (w3.heap.size + 1) g3 2), (xS false w66.heap.size gbs cbs gss css), ⟨bRY10, .cells #[.int .i64 550, .int .i64 0, .int .i64 0, .int .i64 0, .int .i64 0, .int .i64 550] 47 (0, 0)⟩, (xS false w426.heap.size gbt cbt gst cst)] (by kernel_rfl)
  have hP := Scratch_any w429 w429.heap.size (exB 0) (some ⟨g1, 0, none⟩) 3 3 none 0 0 1 (exB_at 0 (hA.at_.ok (kB g1) (List.mem_of_getElem? (i := 0) (by kernel_rfl)))) (Nat.le_refl _)
  rw [kn11.1, kn11.2] at hP
  refine call hA [] on (hP) (by kernel_rfl) (by rintro e v ⟨A8, cbv, A9, csv, rfl, hbs, ho1, ho2⟩; exact hbs) ?_
  rintro e w430 ⟨A8, cbv, A9, csv, rfl, hbs, ho1, ho2⟩
  refine ⟨_, rfl, fun hA => ?_⟩
  obtain ⟨ob8, ob9, hr1v, hr2v, hA2⟩ := At.own2 hAp hbs (by decide) ho1 ho2
  obtain ⟨gbv, cz1, ubv, hv9, rfl, -⟩ : ∃ gz cz uz, Value.slice A8 (exT 1).bets.length cbv = .slice (some ⟨gz, 0, none⟩) (exT 1).bets.length cz ∧ ob8 = [⟨gz, .cells uz 53 (0, 0)⟩] ∧ True := by
    rcases hr1v.2 with ⟨-, h9, -⟩ | ⟨gz, cz, uz, h8, h9, -⟩
    · exact absurd h9 (by decide)
    · exact ⟨gz, cz, uz, h8, h9, trivial⟩
  cases hv9
  obtain ⟨gsv, cz2, usv, hv9, rfl, -⟩ : ∃ gz cz uz, Value.slice A9 (exT 1).scr.length csv = .slice (some ⟨gz, 0, none⟩) (exT 1).scr.length cz ∧ ob9 = [⟨gz, .cells uz 3 (0, 0)⟩] ∧ True := by
    rcases hr2v.2 with ⟨-, h9, -⟩ | ⟨gz, cz, uz, h8, h9, -⟩
    · exact absurd h9 (by decide)
    · exact ⟨gz, cz, uz, h8, h9, trivial⟩
  cases hv9
  refine reknow ⟨[(kB g1), (kC g3), (xK (exB 0) w3.heap.size g1 3), (xK exC (w3.heap.size + 1) g3 2), (xS false w66.heap.size gbs cbs gss css), ⟨bRY10, .cells #[.int .i64 550, .int .i64 0, .int .i64 0, .int .i64 0, .int .i64 0, .int .i64 550] 47 (0, 0)⟩, (xS false w426.heap.size gbt cbt gst cst)], w430.heap.size, [], [], [], [], []⟩ hA2 (Nat.zero_le _) fun hA => ?_
  refine runS hA 11 (List.replicate 16 (.k 7)) xn on (by kernel_rfl) fun w431 hA => ?_
  have hP := Scratch_any w431 w431.heap.size (exT 1) (some ⟨gbv, 0, none⟩) 3 cbv (some ⟨gsv, 0, none⟩) 1 csv 0 (rows_at (b := exT 1) (n := 3) (m := 1) hr1v hr2v (hA.at_.rok ⟨gbv, .cells ubv 53 (0, 0)⟩ (by simp)) (hA.at_.rok ⟨gsv, .cells usv 3 (0, 0)⟩ (by simp)) (by decide) (by decide)) (Nat.le_refl _)
  rw [kn12.1, kn12.2] at hP
  refine call hA [] on (hP) (by kernel_rfl) (by rintro e v ⟨A8, c8, A9, c9, rfl, hbs, -, -⟩; exact hbs) ?_
  rintro e w432 ⟨A8, c8, A9, c9, rfl, hbs, -, -⟩
  refine ⟨_, rfl, fun hA => ?_⟩
  refine runS hA 58 (List.replicate 8 (.k 8)) xn on (by kernel_rfl) fun w433 hA => ?_
  refine callB hA [] on (div_any w433 1 (-1) 300) (by kernel_rfl) fun w434 hb434 hA => ?_
  refine runS hA 1 [] xn on (by kernel_rfl) fun w435 hA => ?_
  have hP := ldiv_any w435 w435.heap.size (some ⟨gl, 0, none⟩) 1 cl (some ⟨w434.heap.size, 0, none⟩) 1 1 [((1, -1), 300)] [((1, -1), 300)] (row_parts hrl (hA.at_.rok ⟨gl, .cells ul 66 (0, 0)⟩ (by simp)) (by decide)) (parts_row (hA.at_.ok ⟨w434.heap.size, .cells #[.int .i64 1, .int .i64 (-1), .int .i64 300] 66 (0, 0)⟩ (List.mem_of_getElem? (i := 9) (by kernel_rfl))) rfl rfl (by decide)) (Nat.le_refl _)
  refine callB hA [] on (hP) (by kernel_rfl) fun w436 hb436 hA => ?_
  refine runS hA 3 [] xn on (by kernel_rfl) fun w437 hA => ?_
  refine callB hA [] on (div_any w437 1 (-1) 240) (by kernel_rfl) fun w438 hb438 hA => ?_
  refine runS hA 1 [] xn on (by kernel_rfl) fun w439 hA => ?_
  have hP := ldiv_any w439 w439.heap.size (some ⟨gm, 0, none⟩) 1 cm (some ⟨w438.heap.size, 0, none⟩) 1 1 [((1, -1), 240)] [((1, -1), 240)] (row_parts hrm (hA.at_.rok ⟨gm, .cells um 66 (0, 0)⟩ (by simp)) (by decide)) (parts_row (hA.at_.ok ⟨w438.heap.size, .cells #[.int .i64 1, .int .i64 (-1), .int .i64 240] 66 (0, 0)⟩ (List.mem_of_getElem? (i := 10) (by kernel_rfl))) rfl rfl (by decide)) (Nat.le_refl _)
  refine callB hA [] on (hP) (by kernel_rfl) fun w440 hb440 hA => ?_
  refine runS hA 11 [] xn on (by kernel_rfl) fun w441 hA => ?_
  refine callB hA [] on (div_any w441 0 1 130) (by kernel_rfl) fun w442 hb442 hA => ?_
  refine callB hA [] on (div_any w442 1 0 90) (by kernel_rfl) fun w443 hb443 hA => ?_
  refine runS hA 1 [] xn on (by kernel_rfl) fun w444 hA => ?_
  have hP := ldiv_any w444 w444.heap.size (some ⟨gx, 0, none⟩) 2 cx (some ⟨w443.heap.size, 0, none⟩) 2 2 [((0, 1), 130), ((1, 0), 90)] [((0, 1), 130), ((1, 0), 90)] (row_parts hrx (hA.at_.rok ⟨gx, .cells ux 66 (0, 0)⟩ (by simp)) (by decide)) (parts_row (hA.at_.ok ⟨w443.heap.size, .cells #[.int .i64 0, .int .i64 1, .int .i64 130, .int .i64 1, .int .i64 0, .int .i64 90] 66 (0, 0)⟩ (List.mem_of_getElem? (i := 11) (by kernel_rfl))) rfl rfl (by decide)) (Nat.le_refl _)
  refine callB hA [] on (hP) (by kernel_rfl) fun w445 hb445 hA => ?_
  refine runS hA 4 (List.replicate 6 (.k 5)) xn on (by kernel_rfl) fun w446 hA => ?_
  refine opv (v := .bool true) hA [] on (s := cmpSem .eql 47 (.tmp 193) (.tmp 194) (.agg #[.int .i64 550, .int .i64 0, .int .i64 0, .int .i64 0, .int .i64 0, .int .i64 550]) (.agg #[.int .i64 550, .int .i64 0, .int .i64 0, .int .i64 0, .int .i64 0, .int .i64 550])) (by kernel_rfl) (cmp_flat (n := 6) false (by kernel_rfl) _ (by kernel_rfl) (fun i hi => by match i, hi with | 0, _ => exact ⟨_, _, _, rfl, rfl⟩ | 1, _ => exact ⟨_, _, _, rfl, rfl⟩ | 2, _ => exact ⟨_, _, _, rfl, rfl⟩ | 3, _ => exact ⟨_, _, _, rfl, rfl⟩ | 4, _ => exact ⟨_, _, _, rfl, rfl⟩ | 5, _ => exact ⟨_, _, _, rfl, rfl⟩) (True) (⟨fun _ => trivial, fun _ => rfl⟩) (by kernel_rfl)) fun hA => ?_
  refine runS hA 6 [] xn on (by kernel_rfl) fun w447 hA => ?_
  have hP := ltwo_any w447 w447.heap.size (some ⟨gw, 0, none⟩) 2 cw (some ⟨w446.heap.size, 0, none⟩) 2 2 [(0, 1), (1, 0)] [(0, 1), (1, 0)] (row_parts hrw (hA.at_.rok ⟨gw, .cells uw 69 (0, 0)⟩ (by simp)) (by decide)) (parts_row (hA.at_.ok ⟨w446.heap.size, .cells #[.int .i64 0, .int .i64 1, .int .i64 1, .int .i64 0] 69 (0, 0)⟩ (List.mem_of_getElem? (i := 12) (by kernel_rfl))) rfl rfl (by decide)) (Nat.le_refl _)
  refine callB hA [] on (hP) (by kernel_rfl) fun w448 hb448 hA => ?_
  refine runS hA 6 [] xn on (by kernel_rfl) fun w449 hA => ?_
  refine callB hA [] on (Works_any w449) (by kernel_rfl) fun w450 hb450 hA => ?_
  refine runS hA 5 [] xn on (by kernel_rfl) fun w451 hA => ?_
  exact ret (v := .bool true) hA [] (by kernel_rfl) ⟨rfl, hA.below⟩
end Go.Proofs.Ytkliekipopnibaa

/- PoolKnown answers true, as a closed statement: the chapter's examples of package pool hold, and those of Works with them. No condition. -/
namespace Go.Proofs.Ytkliekipopnibaa.poolKnown
open Go.ChangeShapes Go.WideShapes Go.ChangeAt Go.RowKit
set_option linter.unusedVariables false      -- a walk need not use every 'w<i>' (that an integer argument fits its kind)

theorem own : ownKnob Try.prog.godebug = none := by kernel_rfl

/-! ### STEP 1: THE WALK: the Go text returns true. Part the cases AHEAD of 'go_enter' where a test parts the walk; take each callee by a contract of your own. -/
theorem walk  (w : World) :
    Calls Try.prog 13 #[] w fun e w' => e = .returned (.bool true) ∧ Below w.heap.size w w' := by
  exact PoolKnown_any w

/-! ### THE ROW's STEP: WRITTEN OUT: LEAVE IT -/
set_option maxRecDepth 100000 in
theorem lifted (os : Os) (started : os.Started) (H : Type) (enc : TypeId × Value → H) :
    ReturnsInHanded {} Try.checked os 13 .any (Rows.poolKnownSpec.pre6 enc Try.prog Try.f13 Rows.poolKnownRow.domain false) (Rows.poolKnownSpec.post enc Try.prog Try.f13 false true false false) := by
  refine returnsInHanded_of_change (C := Try.checked) own started (by kernel_rfl) Try.func13
    (ChangeSpec.witness6 (enc := enc) (C := Try.checked) false ⟨#[], #[], []⟩ 8 (by kernel_rfl) (by kernel_rfl) (by kernel_rfl) (by kernel_rfl)) ?_
  intro W base args ds gs before hval0 hW hcnd _
  have hval : ∀ (j : Nat) t v, Try.f13.params[j]? = some t → args[j]? = some v → Value.okWide Try.prog W .any base t v := hval0
  have hW' := hW
  obtain ⟨p, q, hA0, hV, rfl, hfz, hnd⟩ := hW
  have hA : DataW.TrodAll enc Try.prog W 0 (fun _ => true) true Try.f13.params.toList args.toList ds p := hA0
  rw [Try.params13] at hA hval
  obtain ⟨rfl, rfl, rfl⟩ := trodAll_none hA
  obtain ⟨rfl, rfl⟩ := trodVars_none hV
  clear hA0 hval0
  simp only [List.append_nil] at hW'
  refine (walk  W).mono fun e W' ⟨he, hg⟩ => ?_
  subst he
  exact ⟨_, rfl, _, _, _, [], [], [], hW', trodAll_cons_mk (shut_bool Try.underlying4 _) trodAll_mk0, rfl, rfl, hg.frame _, fun h => by cases h⟩

theorem over : Rows.poolKnownRow.holds Try.pinned (OpenSpec.ofChange Rows.poolKnownSpec) :=
  OpenClaim.holds_of_wide 13 Try.f13 rfl rfl rfl rfl rfl rfl rfl ⟨rfl, rfl, rfl, rfl, rfl⟩ rfl rfl rfl rfl rfl (by kernel_rfl) Try.func13 (by kernel_rfl)
    (of_decide_eq_true (by kernel_rfl)) (by unfold Func.isWrapper; first | (rw [if_pos (by decide +kernel)]; kernel_rfl) | (rw [if_neg (by decide +kernel)]; exact ⟨rfl, rfl⟩))
    (fun os started H enc _ => lifted os started H enc)

/-- ████ THE STATEMENT ████ -/
theorem proved : Rows.PoolKnownSaid :=
  over
#print axioms proved
end Go.Proofs.Ytkliekipopnibaa.poolKnown
