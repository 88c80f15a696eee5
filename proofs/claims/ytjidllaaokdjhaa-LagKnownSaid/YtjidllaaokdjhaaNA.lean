/- lag: Least. -/
import Derived.Test.YtjidllaaokdjhaaLZ
namespace Go.Proofs.Ytjidllaaokdjhaa
open Go.RowKit Go.Shelf

attribute [local go_sem] Oper.semAt_some

theorem first_zero {f : List Int → Int} : ∀ {css : List (List Int)}, firstE f css = 0 → ∀ cs ∈ css, f cs = 0
  | [], _, _, h => by cases h
  | c :: l, h0, cs, h => by
    rw [firstE] at h0
    split at h0
    · rename_i hc
      exact absurd h0 hc
    · rename_i hc
      rcases List.mem_cons.1 h with rfl | h
      · exact Classical.not_not.1 hc
      · exact first_zero h0 cs h
theorem chain_nums {css : List (List Int)} (h : chainF css = 0) : 1 ≤ css.length ∧ css.length ≤ 3 ∧ ∀ j, j < css.length → Nums (css[j]?.getD []) := by
  unfold chainF at h
  split at h
  · cases h
  · rename_i h1
    refine ⟨by omega, by omega, fun j hj => ?_⟩
    rw [List.getElem?_eq_getElem hj]
    exact nums_of (first_zero h _ (List.getElem_mem _))
theorem Least_results (W : World) (tmps : Array Value) (a b : Value) (h4 : tmps.getD 4 undef = a) (h5 : tmps.getD 5 undef = b) :
    (results Try.f22 tmps).run Try.prog W = .ok (.tuple #[a, b]) W := by
  simp only [Array.getD_eq_getD_getElem?] at h4 h5
  simp [results, Try.results22, go_sem, h4, h5]
def leastR (css : List (List Int)) (t : Int) : Int × Int := if chainF css ≠ 0 then (0, chainF css) else if ¬ (0 ≤ t ∧ t ≤ 200) then (0, 3) else (lvl css (css.length - 1) t.toNat, 0)
set_option maxRecDepth 100000 in
set_option maxHeartbeats 4000000 in
theorem Least_any (w : World) (B : Nat) (A : Option Addr) (K c : Nat) (css : List (List Int)) (t : Int) (hx : RowsAt w B A K css) (hB : B ≤ w.heap.size) :
    Calls Try.prog 22 #[.slice A K c, .int .i64 t] w fun e w' => e = .returned (.tuple #[.int .i64 (leastR css t).1, .int .i64 (leastR css t).2]) ∧ Below w.heap.size w w' := by
  have hm := hx.2.1
  go_enter Try.func22, Try.ntmps22
  go_wp2_with (fail)
  refine (checkChain_any w B A K c css hx hB).mono ?_
  rintro e w1 ⟨rfl, hb1⟩
  obtain ⟨r, hr⟩ : ∃ r, r = chainF css := ⟨_, rfl⟩
  rw [← hr]
  by_cases h0 : r = 0
  case neg =>
    have hne : (r != 0) = true := by rw [bne_iff_ne]; exact h0
    have Hr := Lib.hid (And.intro hr h0)
    clear hr h0
    go_wp2_with (fail)
    refine bodyPost_ret (v := .tuple #[.int .i64 0, .int .i64 r]) (Least_results _ _ _ _ (by simp) (by simp)) rfl ?_
    refine ⟨?_, hb1⟩
    have e : leastR css t = (0, r) := by unfold leastR; rw [if_pos (by rw [← Hr.out.1]; exact Hr.out.2), Hr.out.1]
    rw [e]
  case pos =>
    subst h0
    have Hc := Lib.hid hr.symm
    clear hr
    have hz1 := hb1.size
    have ho := one_int (w1.alloc (.cells #[.int .i64 t] 2)) (w1.heap.size + 1) w1.heap.size t (by omega) (by simp)
    have hb2 : Below w.heap.size w (w1.alloc (.cells #[.int .i64 t] 2)) := hb1.alloc hz1 _
    go_wp2_with (fail)
    refine (within64_any 0 200 (w1.alloc (.cells #[.int .i64 t] 2)) (w1.heap.size + 1) (some ⟨w1.heap.size, 0, none⟩) 1 1 [t] ho (by simp)).mono ?_
    rintro e w2 ⟨rfl, hb3⟩
    have hb4 := hb2.trans (hb3.mono hb2.size)
    clear hb2 hb3 ho hb1
    rw [within_one]
    by_cases ht : 0 ≤ t ∧ t ≤ 200
    case neg =>
      have hd : (decide (0 ≤ t) && decide (t ≤ 200)) = false := by
        rw [← Bool.not_eq_true, Bool.and_eq_true, decide_eq_true_eq, decide_eq_true_eq]
        exact ht
      rw [hd]
      have Ht := Lib.hid ht
      clear ht hd
      go_wp2_with (fail)
      refine bodyPost_ret (v := .tuple #[.int .i64 0, .int .i64 3]) (Least_results _ _ _ _ (by simp) (by simp)) rfl ?_
      refine ⟨?_, hb4⟩
      have e : leastR css t = (0, 3) := by unfold leastR; rw [if_neg (by rw [Hc.out]; simp), if_pos Ht.out]
      rw [e]
    case pos =>
      have hd : (decide (0 ≤ t) && decide (t ≤ 200)) = true := by simp [ht]
      rw [hd]
      obtain ⟨k, hk⟩ : ∃ k : Nat, t = (k : Int) := ⟨t.toNat, by omega⟩
      subst hk
      have hk2 : k ≤ 200 := by omega
      have hcl := hx.1
      have hlr : leastR css (k : Int) = (lvl css (K - 1) k, 0) := by unfold leastR; rw [if_neg (by rw [Hc.out]; simp), if_neg (by omega), hcl]; rfl
      obtain ⟨n1, n2, n3⟩ := chain_nums Hc.out
      rw [hcl] at n1 n2
      have Hm := Lib.hid (And.intro n3 hlr)
      clear ht hd hcl hlr n3
      go_wp2_with (fail)
      refine (chainLeast_any w2 B A K c k css (hx.below hb4 hB) (by have := hb4.size; omega) Hm.out.1 n1 (by omega) (by omega)).mono ?_
      rintro e w4 ⟨g, hg, rfl, hrow, hb7⟩
      have hb8 := hb4.trans (hb7.mono hb4.size)
      have e1 := hrow.cell (j := k) (by rw [lvlR_len]; omega)
      have hkl : (k : Int) < (k : Int) + 1 := by omega
      have hy : (lvlR (k + 1) css (K - 1) (k + 1))[k]?.getD 0 = lvl css (K - 1) k := by simp [lvlR]
      rw [hy] at e1
      obtain ⟨y, hye⟩ : ∃ y, y = lvl css (K - 1) k := ⟨_, rfl⟩
      rw [← hye] at e1
      have Hy := Lib.hid hye
      clear hy hye hb4 hb7 hrow
      go_wp2_with (fail)
      refine bodyPost_ret (v := .tuple #[.int .i64 y, .int .i64 0]) (Least_results _ _ _ _ (by simp) (by simp)) rfl ?_
      refine ⟨?_, hb8⟩
      rw [Hm.out.2, Hy.out]
end Go.Proofs.Ytjidllaaokdjhaa
