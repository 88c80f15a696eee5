/- PoolScratched answers true whatever the book, the runners and the numbers of the finish; the arguments read behind the call as they did. No condition. -/
import Derived.Test.YtkliekipopnibaaF12
import Derived.Test.YtkliekipopnibaaRows
import Derived.WalkKit
import Derived.ProofKit
import Derived.OpenShut
import Derived.Carry
import Derived.Deep.Slices
import Derived.ChangeSame

/- quinellaref03: Running; pool: scratched runners. -/
namespace Go.Proofs.Ytkliekipopnibaa
open Go.RowKit Go.Shelf

theorem filt_len2 (p : Int → Bool) : ∀ xs : List Int, (xs.filter p).length + (xs.filter fun y => !p y).length = xs.length
  | [] => rfl
  | x :: xs => by
    have ih := filt_len2 p xs
    cases h : p x <;> simp [h] <;> omega
theorem insF_len (x : Int) (xs : List Int) : (insF x xs).length = xs.length + 1 := by
  unfold insF
  rw [List.length_append, List.length_cons]
  have h := filt_len2 (fun y => decide (y < x)) xs
  omega
theorem scr_in {b : Bk} {r : Int} (hr : r ∈ racN b) : (0 ≤ r ∧ r < b.runners) ∧ r ∉ b.scr := by
  have := (racL_mem b).1 hr
  exact ⟨by omega, this.2⟩
theorem bookF_scr {b : Bk} {r : Int} (h0 : bookF b = 0) (hr : r ∈ racN b) (h3 : 3 ≤ (racN b).length) : bookF (scrF b r) = 0 := by
  have V := valid_of h0
  obtain ⟨h1, h2⟩ := scr_in hr
  have hl := racL_scr V
  have hw := bookF_eq (scrF b r)
  have hbet : (scrF b r).bets.any (refusesF (scrF b r)) = false := by
    rw [List.any_eq_false]
    intro x hx
    have := V.bet x hx
    show ¬ refusesF b x = true
    rw [this]
    decide
  have hsc : scratchable (scrF b r) (scrF b r).scr = true := by
    have hp := insF_pw (incF_pw V.inc) h2
    refine scratchable_true ?_ (fun j hj => ?_) fun j hj => ?_
    · show ((insF r b.scr).length : Int) ≤ b.runners - 2
      rw [insF_len]
      omega
    · have hm : (insF r b.scr)[j]?.getD 0 ∈ insF r b.scr := get_mem hj
      show 0 ≤ (insF r b.scr)[j]?.getD 0 ∧ (insF r b.scr)[j]?.getD 0 < b.runners
      rcases insF_mem.1 hm with e | e
      · rw [e]; exact h1
      · obtain ⟨q, hq, e2⟩ := List.getElem_of_mem e
        have := (scratchable_false V.scr).1.2 q hq
        rw [List.getElem?_eq_getElem hq, Option.getD_some, e2] at this
        exact this
    · have hj : j + 1 < (insF r b.scr).length := hj
      have := List.pairwise_iff_getElem.1 hp j (j + 1) (by omega) hj (by omega)
      show (insF r b.scr)[j]?.getD 0 < (insF r b.scr)[j + 1]?.getD 0
      rw [List.getElem?_eq_getElem (by omega), List.getElem?_eq_getElem hj]
      exact this
  rw [hw, if_neg (show ¬ ¬ (0 ≤ (scrF b r).kind ∧ (scrF b r).kind ≤ 3) from Classical.not_not.2 V.kind), if_neg (show ¬ ¬ ((2 ≤ (scrF b r).runners ∧ (scrF b r).runners ≤ 8) ∧ (0 ≤ (scrF b r).car ∧ (scrF b r).car ≤ 1000000) ∧ (0 ≤ (scrF b r).dut ∧ (scrF b r).dut ≤ 500) ∧ (1 ≤ (scrF b r).stp ∧ (scrF b r).stp ≤ 100)) from Classical.not_not.2 ⟨V.run, V.car, V.dut, V.stp⟩), if_neg (show ¬ 100 < (scrF b r).bets.length by have := V.len; show ¬ 100 < b.bets.length; omega), if_neg (by rw [hbet]; decide), if_neg (by rw [hsc]; decide)]
theorem scE_ok {b : Bk} {r : Int} (h0 : bookF b = 0) (hr : r ∈ racN b) (h3 : 3 ≤ (racN b).length) : scE b r = 0 ∧ scB' b r = scrF b r := by
  obtain ⟨h1, h2⟩ := scr_in hr
  have e : scE b r = 0 := by
    unfold scE
    rw [if_pos h0, if_neg (by rw [(isR_iff b r).2 h1]; decide), if_neg h2, if_neg (by omega)]
  exact ⟨e, if_pos e⟩
theorem racN_scr {b : Bk} {r : Int} (h0 : bookF b = 0) (hr : r ∈ racN b) (h3 : 3 ≤ (racN b).length) : (∀ x, x ∈ racN (scrF b r) ↔ x ∈ racN b ∧ x ≠ r) ∧ (racN (scrF b r)).length + 1 = (racN b).length := by
  have h1 := racL_scr (valid_of h0)
  have h2 := racL_scr (valid_of (bookF_scr h0 hr h3))
  have h4 : ((racN (scrF b r)).length : Int) = b.runners - ((insF r b.scr).length : Int) := h2
  rw [insF_len] at h4
  refine ⟨fun x => ?_, by omega⟩
  have e1 := racL_mem b (x := x) (k := b.runners.toNat)
  have e2 := racL_mem (scrF b r) (x := x) (k := b.runners.toNat)
  show x ∈ racL (scrF b r) b.runners.toNat ↔ x ∈ racL b b.runners.toNat ∧ x ≠ r
  rw [e1, e2]
  show _ ∧ x ∉ insF r b.scr ↔ _
  rw [insF_mem]
  exact ⟨fun h => ⟨⟨h.1, fun h9 => h.2 (.inr h9)⟩, fun h9 => h.2 (.inl h9)⟩, fun h => ⟨h.1.1, fun h9 => h9.elim h.2 h.1.2⟩⟩
theorem scE_have {b : Bk} {r : Int} (h0 : bookF b = 0) (hr : r ∈ racN b) (h3 : 3 ≤ (racN b).length) : scE (scrF b r) r = 11 := by
  obtain ⟨h1, h2⟩ := scr_in hr
  unfold scE
  rw [if_pos (bookF_scr h0 hr h3), if_neg (by rw [(isR_iff (scrF b r) r).2 h1]; decide), if_pos (show r ∈ (scrF b r).scr from insF_mem.2 (.inl rfl))]
theorem scr_swap {b : Bk} {r s : Int} (V : ValidB b) (hr : r ∈ racN b) (hs : s ∈ racN b) (hne : r ≠ s) : scrF (scrF b s) r = scrF (scrF b r) s := by
  have h1 := (scr_in hr).2
  have h2 := (scr_in hs).2
  have hp := incF_pw V.inc
  have e : insF r (insF s b.scr) = insF s (insF r b.scr) := by
    refine incr_ext (insF_pw (insF_pw hp h2) (fun h => (insF_mem.1 h).elim hne h1)) (insF_pw (insF_pw hp h1) (fun h => (insF_mem.1 h).elim (fun e => hne e.symm) h2)) fun x => ?_
    rw [insF_mem, insF_mem, insF_mem, insF_mem]
    exact ⟨fun h => h.elim (fun h => .inr (.inl h)) fun h => h.elim .inl fun h => .inr (.inr h), fun h => h.elim (fun h => .inr (.inl h)) fun h => h.elim .inl fun h => .inr (.inr h)⟩
  unfold scrF
  simp only
  rw [e]
theorem two_mods {N a d : Nat} (hd : d + 1 < N) : (a + 1 + d) % N ≠ a % N := by
  have h1 : (a + 1 + d) % N = (a % N + (1 + d)) % N := by rw [Nat.mod_add_mod, Nat.add_assoc]
  have h2 : a % N < N := Nat.mod_lt _ (by omega)
  rw [h1]
  rcases Nat.lt_or_ge (a % N + (1 + d)) N with h | h
  · rw [Nat.mod_eq_of_lt h]; omega
  · rw [Nat.mod_eq_sub_mod h, Nat.mod_eq_of_lt (by omega)]; omega
theorem rows_bk2 {w : World} {b : Bk} {n m c c2 : Nat} {A A2 : Option Addr} {ob ob2 : List KB} (hr1 : RowV 53 3 (.slice A n c) n (encB b.bets) ob) (hr2 : RowV 3 1 (.slice A2 m c2) m (ints b.scr) ob2)
    (h1 : ∀ kb ∈ ob, w.heap[kb.id]? = some kb.obj) (h2 : ∀ kb ∈ ob2, w.heap[kb.id]? = some kb.obj) (hn : n ≤ 1000) (hm : m ≤ 1000) : BkAt w w.heap.size b A n c A2 m c2 := by
  have k1 : BetsAt w w.heap.size A n b.bets ∧ n ≤ c := by
    rcases hr1.2 with ⟨e1, e2, e3⟩ | ⟨g, cap, cur, e1, e2, e3, e4⟩
    · cases e1
      have hl := hr1.1
      rw [encB_len] at hl
      exact ⟨⟨by omega, by omega, fun h0 => absurd h0 (Nat.lt_irrefl 0)⟩, Nat.le_refl _⟩
    · cases e1
      subst e2
      exact row_bets hr1 (h1 _ List.mem_cons_self) hn
  have k2 : IntsAt w w.heap.size A2 m b.scr ∧ m ≤ c2 := by
    rcases hr2.2 with ⟨e1, e2, e3⟩ | ⟨g, cap, cur, e1, e2, e3, e4⟩
    · cases e1
      have hl := hr2.1
      simp only [ints, List.length_map, Nat.mul_one] at hl
      exact ⟨⟨by omega, by omega, fun h0 => absurd h0 (Nat.lt_irrefl 0)⟩, Nat.le_refl _⟩
    · cases e1
      subst e2
      exact row_ints2 hr2 (h2 _ List.mem_cons_self) hm
  exact ⟨k1.1, k2.1, k1.2, k2.2⟩
set_option maxHeartbeats 4000000 in
set_option maxRecDepth 20000 in
theorem running_any (w : World) (B : Nat) (b : Bk) (A : Option Addr) (n c : Nat) (A2 : Option Addr) (m c2 : Nat) (h : BkAt w B b A n c A2 m c2) (hB : B ≤ w.heap.size) (V : ValidB b) : Calls Try.prog 33 #[bkV b A n c A2 m c2] w fun e w' => ∃ v, e = .returned v ∧ Below w.heap.size w w' ∧ w'.ownsRow w.heap.size 3 1 v (racN b).length (ints (racN b)) := by
  have hv1 := V.run
  refine enter 21 Try.func33 (by kernel_rfl) fun hA => ?_
  refine runS hA 18 [] xn on (by kernel_rfl) fun w1 hA => ?_
  obtain ⟨R, hR⟩ : ∃ R : Nat, b.runners = (R : Int) := ⟨b.runners.toNat, by omega⟩
  have hRt : b.runners.toNat = R := by omega
  refine loop (γ := Nat × Option Addr × Nat × List KB) (fun ⟨k, Av, cv, ov⟩ => [(1, .pointer (some ⟨w.heap.size, 0, none⟩)), (2, .slice none 0 0), (3, .slice Av ((racL b k).length) cv), (4, .int .i64 (k : Int))]) (fun ⟨k, Av, cv, ov⟩ => [⟨w.heap.size, .cells #[.int .i64 b.kind, .int .i64 b.runners, .slice A n c, .slice A2 m c2, .bool b.fav, .int .i64 b.car, .int .i64 b.dut, .int .i64 b.stp] 25 (0, 0)⟩]) (fun ⟨k, Av, cv, ov⟩ => ov ++ []) (fun g ⟨k, Av, cv, ov⟩ wr => (k ≤ R ∧ g = R - k) ∧ RowV 3 1 (.slice Av (racL b k).length cv) (racL b k).length (ints (racL b k)) ov) R ⟨0, none, 0, []⟩ [true] hA (by kernel_rfl) (⟨⟨Nat.zero_le _, rfl⟩, RowV.nil _ _⟩) ?_
  rintro _ ⟨k, Av, cv, ov⟩ wr ⟨⟨hk, rfl⟩, hrk⟩ J hJ hA
  have hll := racL_len b k
  by_cases hlk : k < R
  case neg =>
    refine runS hA 12 [.k 0, .b false] xn (oc (dec_f (show ¬ (((k : Int) : Int) < (b.runners : Int)) by omega)) on) (by kernel_rfl) fun w2 hA => ?_
    refine leave hA (by kernel_rfl) fun hA => ?_
    refine runS hA 9 [] xn on (by kernel_rfl) fun w3 hA => ?_
    have hAf := hA.atK [⟨w.heap.size, .cells #[.int .i64 b.kind, .int .i64 b.runners, .slice A n c, .slice A2 m c2, .bool b.fav, .int .i64 b.car, .int .i64 b.dut, .int .i64 b.stp] 25 (0, 0)⟩] (by kernel_rfl)
    have hkR : k = b.runners.toNat := by omega
    rw [hkR] at hrk
    exact ret (v := .slice Av ((racL b k).length) cv) hA [] (by kernel_rfl) ⟨_, by rw [hkR], hA.below, RowV.own (rest := []) hrk hAf⟩
  case pos =>
    refine runS hA 19 [.k 0, .b true, .k 0] xn (oc (dec_t (show (((k : Int) : Int) < (b.runners : Int)) by omega)) on) (by kernel_rfl) fun w2 hA => ?_
    refine callB hA [] on (has_any w2 B A2 m c2 b.scr (k : Int) (h.scr.below hA.below hB) (Nat.le_trans hB hA.size)) (by kernel_rfl) fun w3 hb3 hA => ?_
    by_cases hks : (k : Int) ∈ b.scr
    case pos =>
      refine revals hA (rc 14 (show .bool (decide ((k : Int) ∈ b.scr)) = .bool true by rw [decide_eq_true hks]) rn) (by kernel_rfl) fun hA => ?_
      refine runS hA 12 [] xn on (by kernel_rfl) fun w4 hA => ?_
      have hst : (racL b (k + 1)) = (racL b k) := by rw [racL, if_pos hks, List.append_nil]
      refine revals hA (rc 3 (show .slice Av ((racL b k).length) cv = .slice Av ((racL b (k + 1)).length) cv by rw [hst]) (rc 4 (wr64 (x := (k : Int) + 1) (y := ((k + 1 : Nat) : Int)) (by omega) (by omega)) rn)) (by kernel_rfl) fun hA => ?_
      exact again hJ (R - (k + 1)) (⟨k + 1, Av, cv, ov⟩) [true] hA (by omega) (by kernel_rfl) (⟨⟨by omega, rfl⟩, by rw [hst]; exact hrk⟩)
    case neg =>
      refine revals hA (rc 14 (show .bool (decide ((k : Int) ∈ b.scr)) = .bool false by rw [decide_eq_false hks]) rn) (by kernel_rfl) fun hA => ?_
      refine runS hA 8 [] xn on (by kernel_rfl) fun w4 hA => ?_
      have hst : (racL b (k + 1)) = (racL b k) ++ [(k : Int)] := by rw [racL, if_neg hks]
      have hcl := cell_of_obj (a := ⟨w3.heap.size, 0, none⟩) (hA.at_.ok ⟨w3.heap.size, .cells #[.int .i64 (k : Int)] 3 (0, 0)⟩ (List.mem_of_getElem? (i := 1) (by kernel_rfl))) rfl rfl
      refine appE (t := 23) (e := 3) (ty := 23) (z := .int .i64 0) (size := 1) (bytes := 8) (v := .slice Av (racL b k).length cv) (n := (racL b k).length) (m := 1) (cp := 1) (A := some ⟨w3.heap.size, 0, none⟩) [.int .i64 (k : Int)] hA hrk (by kernel_rfl) rfl (fun _ => ⟨_, rfl, fun q u hu => by match q, hu with | 0, hu => cases hu; exact hcl⟩) rfl (by omega) (by omega) fun v2 w5 ob2 hr2 hnil2 hat2 hsz2 hA => ?_
      have hle : (racL b (k + 1)).length = (racL b k).length + 1 := by rw [hst, List.length_append]; rfl
      obtain ⟨g2, c2', rfl⟩ : ∃ g2 c2', v2 = .slice (some ⟨g2, 0, none⟩) ((racL b k).length + 1) c2' := by
        rcases hr2.2 with ⟨-, h9, -⟩ | ⟨g2, c2', u2, h1, -⟩
        · omega
        · exact ⟨g2, c2', h1⟩
      refine runS hA 9 [] xn on (by kernel_rfl) fun w6 hA => ?_
      have hrk2 : RowV 3 1 (.slice (some ⟨g2, 0, none⟩) (racL b (k + 1)).length c2') (racL b (k + 1)).length (ints (racL b (k + 1))) ob2 := by rw [hle, hst, ints_append]; exact hr2
      refine revals hA (rc 3 (show .slice (some ⟨g2, 0, none⟩) ((racL b k).length + 1) c2' = .slice (some ⟨g2, 0, none⟩) ((racL b (k + 1)).length) c2' by rw [hle]) (rc 4 (wr64 (x := (k : Int) + 1) (y := ((k + 1 : Nat) : Int)) (by omega) (by omega)) rn)) (by kernel_rfl) fun hA => ?_
      exact again hJ (R - (k + 1)) (⟨k + 1, some ⟨g2, 0, none⟩, c2', ob2⟩) [true] hA (by omega) (by kernel_rfl) (⟨⟨by omega, rfl⟩, hrk2⟩)
end Go.Proofs.Ytkliekipopnibaa

/- law of pool: PoolScratched. -/
namespace Go.Proofs.Ytkliekipopnibaa
open Go.RowKit Go.Shelf

theorem U8At.more {w : World} {B B' : Nat} {A : Option Addr} {n : Nat} {xs : List Int} (h : U8At w B A n xs) (hB : B ≤ B') : U8At w B' A n xs :=
  ⟨h.1, h.2.1, fun h0 => by obtain ⟨b, off, e, hlt, hc⟩ := h.2.2 h0; exact ⟨b, off, e, Nat.lt_of_lt_of_le hlt hB, hc⟩⟩
/-- A row's block, as one that is known. -/
theorem At.up {w0 w : World} {kn rows : List KB} {kb : KB} {sz : Nat} (h : At w0 w kn (kb :: rows) sz) : At w0 w (kn ++ [kb]) rows sz := by
  refine ⟨fun x hx => ?_, fun x hx => h.rok x (List.mem_cons_of_mem _ hx), fun x hx => ?_, fun x hx => h.rlow x (List.mem_cons_of_mem _ hx), ?_, h.size, h.below⟩
  · rcases List.mem_append.1 hx with hx | hx
    · exact h.ok x hx
    · rw [List.mem_singleton.1 hx]; exact h.rok kb List.mem_cons_self
  · rcases List.mem_append.1 hx with hx | hx
    · exact h.low x hx
    · rw [List.mem_singleton.1 hx]; exact h.rlow kb List.mem_cons_self
  · refine ((List.Perm.map KB.id ?_).nodup_iff).1 h.nd
    rw [← List.append_assoc]
    exact (List.perm_append_singleton kb (rows ++ kn)).symm
set_option maxHeartbeats 4000000 in
set_option maxRecDepth 20000 in
theorem PoolScratched_any (w : World) (B : Nat) (b : Bk) (A : Option Addr) (n c : Nat) (A2 : Option Addr) (m c2 : Nat) (o1 o2 : Int) (A3 : Option Addr) (ny cy : Nat) (ys : List Int) (h : BkAt w B b A n c A2 m c2) (ho1 : 0 ≤ o1 ∧ o1 ≤ 255) (ho2 : 0 ≤ o2 ∧ o2 ≤ 255) (hy : U8At w B A3 ny ys) (hB : B ≤ w.heap.size) : Calls Try.prog 6 #[bkV b A n c A2 m c2, .int .u8 o1, .int .u8 o2, .slice A3 ny cy] w fun e w' => e = .returned (.bool true) ∧ Below w.heap.size w w' := by
  refine enter 168 Try.func6 (by kernel_rfl) fun hA => ?_
  refine runS hA 10 (List.replicate 8 (.k 0)) xn on (by kernel_rfl) fun w1 hA => ?_
  have hbl := h.bets.1
  have hxl := h.scr.1
  have hyl := hy.1
  refine callB hA [] on (fine_any w1 B b A n c A2 m c2 (h.below hA.below hB) (Nat.le_trans hB hA.size)) (by kernel_rfl) fun w2 hb2 hA => ?_
  by_cases hfi : ¬ (110 < n ∨ 20 < m) ∧ bookF b = 0
  case neg =>
    refine revals hA (rc 24 (show .bool (decide (¬ (110 < n ∨ 20 < m) ∧ bookF b = 0)) = .bool false by rw [decide_eq_false hfi]) rn) (by kernel_rfl) fun hA => ?_
    refine runS hA 11 [.g true, .g true, .g true] xn (oc (rfl : Value.bool true = .bool true) (oc (rfl : Value.bool true = .bool true) (oc (rfl : Value.bool true = .bool true) on))) (by kernel_rfl) fun w3 hA => ?_
    refine callB hA [] on (Works_any w3) (by kernel_rfl) fun w4 hb4 hA => ?_
    refine runS hA 5 [] xn on (by kernel_rfl) fun w5 hA => ?_
    exact ret (v := .bool true) hA [] (by kernel_rfl) ⟨rfl, hA.below⟩
  case pos =>
    obtain ⟨hgr, h0⟩ := hfi
    have V := valid_of h0
    have hv1 := V.run
    have hv2 := V.len
    refine revals hA (rc 24 (show .bool (decide (¬ (110 < n ∨ 20 < m) ∧ bookF b = 0)) = .bool true by rw [decide_eq_true ⟨hgr, h0⟩]) rn) (by kernel_rfl) fun hA => ?_
    refine runS hA 5 [.g false, .g false, .g false] xn (oc (rfl : Value.bool false = .bool false) (oc (rfl : Value.bool false = .bool false) (oc (rfl : Value.bool false = .bool false) on))) (by kernel_rfl) fun w3 hA => ?_
    by_cases h20 : (ny : Int) > 20
    case pos =>
      refine revals hA (rc 29 (dec_t h20) rn) (by kernel_rfl) fun hA => ?_
      refine runS hA 6 [] xn on (by kernel_rfl) fun w4 hA => ?_
      refine callB hA [] on (Works_any w4) (by kernel_rfl) fun w5 hb5 hA => ?_
      refine runS hA 5 [] xn on (by kernel_rfl) fun w6 hA => ?_
      exact ret (v := .bool true) hA [] (by kernel_rfl) ⟨rfl, hA.below⟩
    case neg =>
      refine revals hA (rc 29 (dec_f h20) rn) (by kernel_rfl) fun hA => ?_
      refine runS hA 9 (List.replicate 8 (.k 0)) xn on (by kernel_rfl) fun w4 hA => ?_
      have hApl := hA.atK [⟨w.heap.size, .cells #[.int .i64 b.kind, .int .i64 b.runners, .slice A n c, .slice A2 m c2, .bool b.fav, .int .i64 b.car, .int .i64 b.dut, .int .i64 b.stp] 25 (0, 0)⟩] (by kernel_rfl)
      refine call hA [] on (running_any w4 B b A n c A2 m c2 (h.below hA.below hB) (Nat.le_trans hB hA.size) V) (by kernel_rfl) (by rintro e v ⟨vl, rfl, hbl9, hol⟩; exact hbl9) ?_
      rintro e w5 ⟨vl, rfl, hbl9, hol⟩
      refine ⟨_, rfl, fun hA => ?_⟩
      obtain ⟨obl, hrl, hA2l⟩ := At.own hApl hbl9 hol
      have hN := V.racing
      have hN8 : (racN b).length ≤ 8 := Nat.le_trans (racL_len b _) (by omega)
      obtain ⟨gl, cl, cul, rfl, rfl, hcl⟩ : ∃ gl cl cul, vl = .slice (some ⟨gl, 0, none⟩) (racN b).length cl ∧ obl = [⟨gl, .cells cul 3 (0, 0)⟩] ∧ ∀ j, j < (racN b).length → cul[j]? = some (.int .i64 ((racN b)[j]?.getD 0)) := by
        rcases hrl.2 with ⟨-, e2, -⟩ | ⟨g, cap, cur, e1, e2, h3, h4, h5, h6⟩
        · omega
        · rw [Nat.mul_one] at h6
          exact ⟨g, cap, cur, e1, e2, fun j hj => take_get h6 hj rfl⟩
      have hA3l := hA2l.up
      refine reknow ⟨[⟨w.heap.size, .cells #[.int .i64 b.kind, .int .i64 b.runners, .slice A n c, .slice A2 m c2, .bool b.fav, .int .i64 b.car, .int .i64 b.dut, .int .i64 b.stp] 25 (0, 0)⟩, ⟨gl, .cells cul 3 (0, 0)⟩], w5.heap.size, [], [], [], [], []⟩ hA3l (Nat.zero_le _) fun hA => ?_
      by_cases h4 : (racN b).length < 4
      case pos =>
        refine runS hA 14 [.b true] xn (oc (dec_t (show (((racN b).length : Int) < (4 : Int)) by omega)) on) (by kernel_rfl) fun w6 hA => ?_
        refine callB hA [] on (Works_any w6) (by kernel_rfl) fun w7 hb7 hA => ?_
        refine runS hA 5 [] xn on (by kernel_rfl) fun w8 hA => ?_
        exact ret (v := .bool true) hA [] (by kernel_rfl) ⟨rfl, hA.below⟩
      case neg =>
        refine runS hA 15 [.b false] xn (oc (dec_f (show ¬ (((racN b).length : Int) < (4 : Int)) by omega)) on) (by kernel_rfl) fun w6 hA => ?_
        obtain ⟨a1, ha1⟩ : ∃ a1 : Nat, o1 = (a1 : Int) := ⟨o1.toNat, by omega⟩
        obtain ⟨a2, ha2⟩ : ∃ a2 : Nat, o2 = (a2 : Int) := ⟨o2.toNat, by omega⟩
        subst ha1 ha2
        obtain ⟨p1, hp1⟩ : ∃ p1, p1 = a1 % (racN b).length := ⟨_, rfl⟩
        obtain ⟨d2, hd2⟩ : ∃ d2, d2 = a2 % ((racN b).length - 1) := ⟨_, rfl⟩
        obtain ⟨p2, hp2⟩ : ∃ p2, p2 = (a1 + 1 + d2) % (racN b).length := ⟨_, rfl⟩
        have hl1 : p1 < (racN b).length := by rw [hp1]; exact Nat.mod_lt _ (by omega)
        have hld : d2 < (racN b).length - 1 := by rw [hd2]; exact Nat.mod_lt _ (by omega)
        have hl2 : p2 < (racN b).length := by rw [hp2]; exact Nat.mod_lt _ (by omega)
        have hpp : p2 ≠ p1 := by rw [hp1, hp2]; exact two_mods (by omega)
        obtain ⟨r, hr⟩ : ∃ r, r = (racN b)[p1]?.getD 0 := ⟨_, rfl⟩
        obtain ⟨s, hs⟩ : ∃ s, s = (racN b)[p2]?.getD 0 := ⟨_, rfl⟩
        have hrm : r ∈ racN b := by rw [hr]; exact get_mem hl1
        have hsm : s ∈ racN b := by rw [hs]; exact get_mem hl2
        have hne : r ≠ s := by rw [hr, hs, List.getElem?_eq_getElem hl1, List.getElem?_eq_getElem hl2]; exact fun e => hpp ((List.getElem_inj (racN_nodup b)).1 e).symm
        have hc1 := hcl p1 hl1
        have hc2 := hcl p2 hl2
        rw [← hr] at hc1
        rw [← hs] at hc2
        have hwa1 : IntKind.i64.wrap (a1 : Int) = (a1 : Int) := by rw [IntKind.wrap_i64]; omega
        have hwa2 : IntKind.i64.wrap (a2 : Int) = (a2 : Int) := by rw [IntKind.wrap_i64]; omega
        refine draw hA [true, true] [0, 1, 2, 3, 4, 5, 6, 7, 8, 9, 10, 11, 12, 13, 14, 15, 16, 17, 18, 19, 20, 21, 22, 23, 24, 25] (by kernel_rfl) (by kernel_rfl) fun hA => ?_
        have hwn : IntKind.i64.wrap (((racN b).length : Int) - 1) = (((racN b).length - 1 : Nat) : Int) := by rw [IntKind.wrap_i64]; omega
        have hw1 : IntKind.i64.wrap ((a1 : Int) + 1) = ((a1 + 1 : Nat) : Int) := by rw [IntKind.wrap_i64]; omega
        have hw2 : IntKind.i64.wrap (((a1 + 1 : Nat) : Int) + (d2 : Int)) = ((a1 + 1 + d2 : Nat) : Int) := by rw [IntKind.wrap_i64]; omega
        refine runS hA 6 [.t 0, .t 1, .t 2, .t 3, .t 4, .t 5, .z] xn (oc (show ((racN b).length) ≠ (0 : Int) by omega) on) (by kernel_rfl) fun w7 hA => ?_
        refine revals hA (rc 43 (show .int .i64 ((IntKind.i64.wrap (a1 : Int)).tmod ((racN b).length)) = .int .i64 (p1 : Int) by rw [hwa1, ← Int.ofNat_tmod, ← hp1]) rn) (by kernel_rfl) fun hA => ?_
        refine runS hA 16 [.t 6, .i, .t 7, .y 1 (.int .i64 r), .t 8, .t 9, .t 10, .t 11, .t 12, .t 13, .t 14, .t 15, .t 16, .t 17, .z, .t 18, .t 19, .t 20, .t 21, .z] xn (oc (show (0 : Int) ≤ ((p1 : Int) : Int) ∧ ((p1 : Int) : Int) < ((racN b).length : Int) by first | omega | (rw [hwn]; omega)) (oc (show cul[0 + p1 * 1]? = some (.int .i64 r) from by simpa using hc1) (oc (show (IntKind.i64.wrap (((racN b).length) - 1)) ≠ (0 : Int) by first | omega | (rw [hwn]; omega)) (oc (show ((racN b).length) ≠ (0 : Int) by first | omega | (rw [hwn]; omega)) on)))) (by kernel_rfl) fun w8 hA => ?_
        refine revals hA (rc 59 (show .int .i64 ((IntKind.i64.wrap ((IntKind.i64.wrap ((IntKind.i64.wrap (a1 : Int)) + 1)) + ((IntKind.i64.wrap (a2 : Int)).tmod (IntKind.i64.wrap (((racN b).length) - 1))))).tmod ((racN b).length)) = .int .i64 (p2 : Int) by rw [hwa1, hw1, hwa2, hwn, ← Int.ofNat_tmod, ← hd2, hw2, ← Int.ofNat_tmod, ← hp2]) rn) (by kernel_rfl) fun hA => ?_
        refine runS hA 10 ([.t 22, .i, .t 23, .y 1 (.int .i64 s), .t 24, .t 25, .b true] ++ List.replicate 8 (.k 0)) xn (oc (show (0 : Int) ≤ ((p2 : Int) : Int) ∧ ((p2 : Int) : Int) < ((racN b).length : Int) by omega) (oc (show cul[0 + p2 * 1]? = some (.int .i64 s) from by simpa using hc2) on)) (by kernel_rfl) fun w9 hA => ?_
        have h3 : 3 ≤ (racN b).length := by omega
        have he1 := (scE_ok h0 hrm h3).1
        have hz1 := (scE_ok h0 hrm h3).2
        have he2 := (scE_ok h0 hsm h3).1
        have hz2 := (scE_ok h0 hsm h3).2
        have hu0 := bookF_scr h0 hrm h3
        have hv0 := bookF_scr h0 hsm h3
        have hum := (racN_scr h0 hrm h3).1
        have hul := (racN_scr h0 hrm h3).2
        have hvm := (racN_scr h0 hsm h3).1
        have hvl := (racN_scr h0 hsm h3).2
        have hsu : s ∈ racN (scrF b r) := (hum s).2 ⟨hsm, fun e => hne e.symm⟩
        have hrv : r ∈ racN (scrF b s) := (hvm r).2 ⟨hrm, hne⟩
        have hu3 : 3 ≤ (racN (scrF b r)).length := by omega
        have hv3 : 3 ≤ (racN (scrF b s)).length := by omega
        have he3 := (scE_ok hu0 hsu hu3).1
        have hz3 := (scE_ok hu0 hsu hu3).2
        have he4 := (scE_ok hv0 hrv hv3).1
        have hz4 := (scE_ok hv0 hrv hv3).2
        have hx0 := bookF_scr hu0 hsu hu3
        have hsw := scr_swap V hrm hsm hne
        have he5 := scE_have h0 hrm h3
        have hxl1 : (scrF b r).scr.length = m + 1 := by show (insF r b.scr).length = _; rw [insF_len, hxl]
        have hxl2 : (scrF b s).scr.length = m + 1 := by show (insF s b.scr).length = _; rw [insF_len, hxl]
        have hxl3 : (scrF (scrF b r) s).scr.length = m + 2 := by show (insF s (scrF b r).scr).length = _; rw [insF_len, hxl1]
        have hbl1 : (scrF b r).bets.length = n := hbl
        have hbl2 : (scrF b s).bets.length = n := hbl
        have hbl3 : (scrF (scrF b r) s).bets.length = n := hbl
        have hm8 : m ≤ 100 := by have := V.few; omega
        have hat0 := finL_at hx0 ys
        obtain ⟨a, ha⟩ : ∃ a, a = AccountF (scrF (scrF b r) s) (finL (scrF (scrF b r) s) ys 8) := ⟨_, rfl⟩
        have hApu := hA.atK [⟨w.heap.size, .cells #[.int .i64 b.kind, .int .i64 b.runners, .slice A n c, .slice A2 m c2, .bool b.fav, .int .i64 b.car, .int .i64 b.dut, .int .i64 b.stp] 25 (0, 0)⟩, ⟨gl, .cells cul 3 (0, 0)⟩] (by kernel_rfl)
        have hP := Scratch_any w9 B b A n c A2 m c2 r (h.below hA.below hB) (Nat.le_trans hB hA.size)
        rw [hz1, he1] at hP
        refine call hA [] on (hP) (by kernel_rfl) (by rintro e v ⟨A8u, cbu, A9u, csu, rfl, hbsu, ho1u, ho2u⟩; exact hbsu) ?_
        rintro e w10 ⟨A8u, cbu, A9u, csu, rfl, hbsu, ho1u, ho2u⟩
        refine ⟨_, rfl, fun hA => ?_⟩
        obtain ⟨ob8u, ob9u, hr1u, hr2u, hA2u⟩ := At.own2 hApu hbsu (by decide) ho1u ho2u
        refine reknow ⟨[⟨w.heap.size, .cells #[.int .i64 b.kind, .int .i64 b.runners, .slice A n c, .slice A2 m c2, .bool b.fav, .int .i64 b.car, .int .i64 b.dut, .int .i64 b.stp] 25 (0, 0)⟩, ⟨gl, .cells cul 3 (0, 0)⟩], w10.heap.size, [], [], [], [], []⟩ hA2u (Nat.zero_le _) fun hA => ?_
        refine runS hA 12 (List.replicate 8 (.k 2) ++ List.replicate 8 (.k 0)) xn on (by kernel_rfl) fun w11 hA => ?_
        have hApv := hA.atK [⟨w.heap.size, .cells #[.int .i64 b.kind, .int .i64 b.runners, .slice A n c, .slice A2 m c2, .bool b.fav, .int .i64 b.car, .int .i64 b.dut, .int .i64 b.stp] 25 (0, 0)⟩, ⟨gl, .cells cul 3 (0, 0)⟩, ⟨w10.heap.size, .cells #[.int .i64 ((scrF b r).kind), .int .i64 ((scrF b r).runners), .slice A8u ((scrF b r).bets.length) cbu, .slice A9u ((scrF b r).scr.length) csu, .bool ((scrF b r).fav), .int .i64 ((scrF b r).car), .int .i64 ((scrF b r).dut), .int .i64 ((scrF b r).stp)] 25 (0, 0)⟩] (by kernel_rfl)
        have hP := Scratch_any w11 B b A n c A2 m c2 s (h.below hA.below hB) (Nat.le_trans hB hA.size)
        rw [hz2, he2] at hP
        refine call hA [] on (hP) (by kernel_rfl) (by rintro e v ⟨A8v, cbv, A9v, csv, rfl, hbsv, ho1v, ho2v⟩; exact hbsv) ?_
        rintro e w12 ⟨A8v, cbv, A9v, csv, rfl, hbsv, ho1v, ho2v⟩
        refine ⟨_, rfl, fun hA => ?_⟩
        obtain ⟨ob8v, ob9v, hr1v, hr2v, hA2v⟩ := At.own2 hApv hbsv (by decide) ho1v ho2v
        refine reknow ⟨[⟨w.heap.size, .cells #[.int .i64 b.kind, .int .i64 b.runners, .slice A n c, .slice A2 m c2, .bool b.fav, .int .i64 b.car, .int .i64 b.dut, .int .i64 b.stp] 25 (0, 0)⟩, ⟨gl, .cells cul 3 (0, 0)⟩, ⟨w10.heap.size, .cells #[.int .i64 ((scrF b r).kind), .int .i64 ((scrF b r).runners), .slice A8u ((scrF b r).bets.length) cbu, .slice A9u ((scrF b r).scr.length) csu, .bool ((scrF b r).fav), .int .i64 ((scrF b r).car), .int .i64 ((scrF b r).dut), .int .i64 ((scrF b r).stp)] 25 (0, 0)⟩], w12.heap.size, [], [], [], [], []⟩ hA2v (Nat.zero_le _) fun hA => ?_
        refine runS hA 19 (List.replicate 8 (.k 3) ++ [.g false, .g false, .g false] ++ List.replicate 8 (.k 2)) xn (oc (rfl : Value.bool false = .bool false) (oc (rfl : Value.bool false = .bool false) (oc (rfl : Value.bool false = .bool false) on))) (by kernel_rfl) fun w13 hA => ?_
        have hP := rcheckBook_any w13 w13.heap.size (scrF b r) A8u (scrF b r).bets.length cbu A9u (scrF b r).scr.length csu (rows_bk2 (w := w13) hr1u hr2u (fun kb hk => hA.at_.rok kb (List.mem_append_right _ (List.mem_append_right _ (List.mem_append_left _ hk)))) (fun kb hk => hA.at_.rok kb (List.mem_append_right _ (List.mem_append_right _ (List.mem_append_right _ (List.mem_append_left _ hk))))) (by omega) (by omega)) (Nat.le_refl _)
        rw [hu0] at hP
        refine callB hA [] on (hP) (by kernel_rfl) fun w14 hb14 hA => ?_
        refine runS hA 4 ([.g false, .g false] ++ List.replicate 8 (.k 3)) xn (oc (rfl : Value.bool false = .bool false) (oc (rfl : Value.bool false = .bool false) on)) (by kernel_rfl) fun w15 hA => ?_
        have hP := rcheckBook_any w15 w15.heap.size (scrF b s) A8v (scrF b s).bets.length cbv A9v (scrF b s).scr.length csv (rows_bk2 (w := w15) hr1v hr2v (fun kb hk => hA.at_.rok kb (List.mem_append_left _ hk)) (fun kb hk => hA.at_.rok kb (List.mem_append_right _ (List.mem_append_left _ hk))) (by omega) (by omega)) (Nat.le_refl _)
        rw [hv0] at hP
        refine callB hA [] on (hP) (by kernel_rfl) fun w16 hb16 hA => ?_
        refine runS hA 11 ([.g false] ++ List.replicate 8 (.k 2)) xn (oc (rfl : Value.bool false = .bool false) on) (by kernel_rfl) fun w17 hA => ?_
        have hApx := hA.atK [⟨w.heap.size, .cells #[.int .i64 b.kind, .int .i64 b.runners, .slice A n c, .slice A2 m c2, .bool b.fav, .int .i64 b.car, .int .i64 b.dut, .int .i64 b.stp] 25 (0, 0)⟩, ⟨gl, .cells cul 3 (0, 0)⟩, ⟨w10.heap.size, .cells #[.int .i64 ((scrF b r).kind), .int .i64 ((scrF b r).runners), .slice A8u ((scrF b r).bets.length) cbu, .slice A9u ((scrF b r).scr.length) csu, .bool ((scrF b r).fav), .int .i64 ((scrF b r).car), .int .i64 ((scrF b r).dut), .int .i64 ((scrF b r).stp)] 25 (0, 0)⟩, ⟨w12.heap.size, .cells #[.int .i64 ((scrF b s).kind), .int .i64 ((scrF b s).runners), .slice A8v ((scrF b s).bets.length) cbv, .slice A9v ((scrF b s).scr.length) csv, .bool ((scrF b s).fav), .int .i64 ((scrF b s).car), .int .i64 ((scrF b s).dut), .int .i64 ((scrF b s).stp)] 25 (0, 0)⟩] (by kernel_rfl)
        have hP := Scratch_any w17 w17.heap.size (scrF b r) A8u (scrF b r).bets.length cbu A9u (scrF b r).scr.length csu s (rows_bk2 (w := w17) hr1u hr2u (fun kb hk => hA.at_.rok kb (List.mem_append_right _ (List.mem_append_right _ (List.mem_append_left _ hk)))) (fun kb hk => hA.at_.rok kb (List.mem_append_right _ (List.mem_append_right _ (List.mem_append_right _ (List.mem_append_left _ hk))))) (by omega) (by omega)) (Nat.le_refl _)
        rw [hz3, he3] at hP
        refine call hA [] on (hP) (by kernel_rfl) (by rintro e v ⟨A8x, cbx, A9x, csx, rfl, hbsx, ho1x, ho2x⟩; exact hbsx) ?_
        rintro e w18 ⟨A8x, cbx, A9x, csx, rfl, hbsx, ho1x, ho2x⟩
        refine ⟨_, rfl, fun hA => ?_⟩
        obtain ⟨ob8x, ob9x, hr1x, hr2x, hA2x⟩ := At.own2 hApx hbsx (by decide) ho1x ho2x
        refine reknow ⟨[⟨w.heap.size, .cells #[.int .i64 b.kind, .int .i64 b.runners, .slice A n c, .slice A2 m c2, .bool b.fav, .int .i64 b.car, .int .i64 b.dut, .int .i64 b.stp] 25 (0, 0)⟩, ⟨gl, .cells cul 3 (0, 0)⟩, ⟨w10.heap.size, .cells #[.int .i64 ((scrF b r).kind), .int .i64 ((scrF b r).runners), .slice A8u ((scrF b r).bets.length) cbu, .slice A9u ((scrF b r).scr.length) csu, .bool ((scrF b r).fav), .int .i64 ((scrF b r).car), .int .i64 ((scrF b r).dut), .int .i64 ((scrF b r).stp)] 25 (0, 0)⟩, ⟨w12.heap.size, .cells #[.int .i64 ((scrF b s).kind), .int .i64 ((scrF b s).runners), .slice A8v ((scrF b s).bets.length) cbv, .slice A9v ((scrF b s).scr.length) csv, .bool ((scrF b s).fav), .int .i64 ((scrF b s).car), .int .i64 ((scrF b s).dut), .int .i64 ((scrF b s).stp)] 25 (0, 0)⟩], w18.heap.size, [], [], [], [], []⟩ hA2x (Nat.zero_le _) fun hA => ?_
        refine runS hA 12 (List.replicate 8 (.k 4) ++ List.replicate 8 (.k 3)) xn on (by kernel_rfl) fun w19 hA => ?_
        have hApy := hA.atK [⟨w.heap.size, .cells #[.int .i64 b.kind, .int .i64 b.runners, .slice A n c, .slice A2 m c2, .bool b.fav, .int .i64 b.car, .int .i64 b.dut, .int .i64 b.stp] 25 (0, 0)⟩, ⟨gl, .cells cul 3 (0, 0)⟩, ⟨w10.heap.size, .cells #[.int .i64 ((scrF b r).kind), .int .i64 ((scrF b r).runners), .slice A8u ((scrF b r).bets.length) cbu, .slice A9u ((scrF b r).scr.length) csu, .bool ((scrF b r).fav), .int .i64 ((scrF b r).car), .int .i64 ((scrF b r).dut), .int .i64 ((scrF b r).stp)] 25 (0, 0)⟩, ⟨w12.heap.size, .cells #[.int .i64 ((scrF b s).kind), .int .i64 ((scrF b s).runners), .slice A8v ((scrF b s).bets.length) cbv, .slice A9v ((scrF b s).scr.length) csv, .bool ((scrF b s).fav), .int .i64 ((scrF b s).car), .int .i64 ((scrF b s).dut), .int .i64 ((scrF b s).stp)] 25 (0, 0)⟩, ⟨w18.heap.size, .cells #[.int .i64 ((scrF (scrF b r) s).kind), .int .i64 ((scrF (scrF b r) s).runners), .slice A8x ((scrF (scrF b r) s).bets.length) cbx, .slice A9x ((scrF (scrF b r) s).scr.length) csx, .bool ((scrF (scrF b r) s).fav), .int .i64 ((scrF (scrF b r) s).car), .int .i64 ((scrF (scrF b r) s).dut), .int .i64 ((scrF (scrF b r) s).stp)] 25 (0, 0)⟩] (by kernel_rfl)
        have hP := Scratch_any w19 w19.heap.size (scrF b s) A8v (scrF b s).bets.length cbv A9v (scrF b s).scr.length csv r (rows_bk2 (w := w19) hr1v hr2v (fun kb hk => hA.at_.rok kb (List.mem_append_right _ (List.mem_append_right _ (List.mem_append_left _ hk)))) (fun kb hk => hA.at_.rok kb (List.mem_append_right _ (List.mem_append_right _ (List.mem_append_right _ (List.mem_append_left _ hk))))) (by omega) (by omega)) (Nat.le_refl _)
        rw [hz4, he4, hsw] at hP
        refine call hA [] on (hP) (by kernel_rfl) (by rintro e v ⟨A8y, cby, A9y, csy, rfl, hbsy, ho1y, ho2y⟩; exact hbsy) ?_
        rintro e w20 ⟨A8y, cby, A9y, csy, rfl, hbsy, ho1y, ho2y⟩
        refine ⟨_, rfl, fun hA => ?_⟩
        obtain ⟨ob8y, ob9y, hr1y, hr2y, hA2y⟩ := At.own2 hApy hbsy (by decide) ho1y ho2y
        refine reknow ⟨[⟨w.heap.size, .cells #[.int .i64 b.kind, .int .i64 b.runners, .slice A n c, .slice A2 m c2, .bool b.fav, .int .i64 b.car, .int .i64 b.dut, .int .i64 b.stp] 25 (0, 0)⟩, ⟨gl, .cells cul 3 (0, 0)⟩, ⟨w10.heap.size, .cells #[.int .i64 ((scrF b r).kind), .int .i64 ((scrF b r).runners), .slice A8u ((scrF b r).bets.length) cbu, .slice A9u ((scrF b r).scr.length) csu, .bool ((scrF b r).fav), .int .i64 ((scrF b r).car), .int .i64 ((scrF b r).dut), .int .i64 ((scrF b r).stp)] 25 (0, 0)⟩, ⟨w12.heap.size, .cells #[.int .i64 ((scrF b s).kind), .int .i64 ((scrF b s).runners), .slice A8v ((scrF b s).bets.length) cbv, .slice A9v ((scrF b s).scr.length) csv, .bool ((scrF b s).fav), .int .i64 ((scrF b s).car), .int .i64 ((scrF b s).dut), .int .i64 ((scrF b s).stp)] 25 (0, 0)⟩, ⟨w18.heap.size, .cells #[.int .i64 ((scrF (scrF b r) s).kind), .int .i64 ((scrF (scrF b r) s).runners), .slice A8x ((scrF (scrF b r) s).bets.length) cbx, .slice A9x ((scrF (scrF b r) s).scr.length) csx, .bool ((scrF (scrF b r) s).fav), .int .i64 ((scrF (scrF b r) s).car), .int .i64 ((scrF (scrF b r) s).dut), .int .i64 ((scrF (scrF b r) s).stp)] 25 (0, 0)⟩], w20.heap.size, [], [], [], [], []⟩ hA2y (Nat.zero_le _) fun hA => ?_
        refine runS hA 12 (List.replicate 8 (.k 5) ++ List.replicate 8 (.k 2)) xn on (by kernel_rfl) fun w21 hA => ?_
        have hApz := hA.atK [⟨w.heap.size, .cells #[.int .i64 b.kind, .int .i64 b.runners, .slice A n c, .slice A2 m c2, .bool b.fav, .int .i64 b.car, .int .i64 b.dut, .int .i64 b.stp] 25 (0, 0)⟩, ⟨gl, .cells cul 3 (0, 0)⟩, ⟨w10.heap.size, .cells #[.int .i64 ((scrF b r).kind), .int .i64 ((scrF b r).runners), .slice A8u ((scrF b r).bets.length) cbu, .slice A9u ((scrF b r).scr.length) csu, .bool ((scrF b r).fav), .int .i64 ((scrF b r).car), .int .i64 ((scrF b r).dut), .int .i64 ((scrF b r).stp)] 25 (0, 0)⟩, ⟨w12.heap.size, .cells #[.int .i64 ((scrF b s).kind), .int .i64 ((scrF b s).runners), .slice A8v ((scrF b s).bets.length) cbv, .slice A9v ((scrF b s).scr.length) csv, .bool ((scrF b s).fav), .int .i64 ((scrF b s).car), .int .i64 ((scrF b s).dut), .int .i64 ((scrF b s).stp)] 25 (0, 0)⟩, ⟨w18.heap.size, .cells #[.int .i64 ((scrF (scrF b r) s).kind), .int .i64 ((scrF (scrF b r) s).runners), .slice A8x ((scrF (scrF b r) s).bets.length) cbx, .slice A9x ((scrF (scrF b r) s).scr.length) csx, .bool ((scrF (scrF b r) s).fav), .int .i64 ((scrF (scrF b r) s).car), .int .i64 ((scrF (scrF b r) s).dut), .int .i64 ((scrF (scrF b r) s).stp)] 25 (0, 0)⟩, ⟨w20.heap.size, .cells #[.int .i64 ((scrF (scrF b r) s).kind), .int .i64 ((scrF (scrF b r) s).runners), .slice A8y ((scrF (scrF b r) s).bets.length) cby, .slice A9y ((scrF (scrF b r) s).scr.length) csy, .bool ((scrF (scrF b r) s).fav), .int .i64 ((scrF (scrF b r) s).car), .int .i64 ((scrF (scrF b r) s).dut), .int .i64 ((scrF (scrF b r) s).stp)] 25 (0, 0)⟩] (by kernel_rfl)
        have hP := Scratch_any w21 w21.heap.size (scrF b r) A8u (scrF b r).bets.length cbu A9u (scrF b r).scr.length csu r (rows_bk2 (w := w21) hr1u hr2u (fun kb hk => hA.at_.rok kb (List.mem_append_right _ (List.mem_append_right _ (List.mem_append_right _ (List.mem_append_right _ (List.mem_append_right _ (List.mem_append_right _ (List.mem_append_left _ hk)))))))) (fun kb hk => hA.at_.rok kb (List.mem_append_right _ (List.mem_append_right _ (List.mem_append_right _ (List.mem_append_right _ (List.mem_append_right _ (List.mem_append_right _ (List.mem_append_right _ (List.mem_append_left _ hk))))))))) (by omega) (by omega)) (Nat.le_refl _)
        rw [he5] at hP
        refine call hA [] on (hP) (by kernel_rfl) (by rintro e v ⟨A8z, cbz, A9z, csz, rfl, hbsz, ho1z, ho2z⟩; exact hbsz) ?_
        rintro e w22 ⟨A8z, cbz, A9z, csz, rfl, hbsz, ho1z, ho2z⟩
        refine ⟨_, rfl, fun hA => ?_⟩
        obtain ⟨ob8z, ob9z, hr1z, hr2z, hA2z⟩ := At.own2 hApz hbsz (by decide) ho1z ho2z
        refine reknow ⟨[⟨w.heap.size, .cells #[.int .i64 b.kind, .int .i64 b.runners, .slice A n c, .slice A2 m c2, .bool b.fav, .int .i64 b.car, .int .i64 b.dut, .int .i64 b.stp] 25 (0, 0)⟩, ⟨gl, .cells cul 3 (0, 0)⟩, ⟨w10.heap.size, .cells #[.int .i64 ((scrF b r).kind), .int .i64 ((scrF b r).runners), .slice A8u ((scrF b r).bets.length) cbu, .slice A9u ((scrF b r).scr.length) csu, .bool ((scrF b r).fav), .int .i64 ((scrF b r).car), .int .i64 ((scrF b r).dut), .int .i64 ((scrF b r).stp)] 25 (0, 0)⟩, ⟨w12.heap.size, .cells #[.int .i64 ((scrF b s).kind), .int .i64 ((scrF b s).runners), .slice A8v ((scrF b s).bets.length) cbv, .slice A9v ((scrF b s).scr.length) csv, .bool ((scrF b s).fav), .int .i64 ((scrF b s).car), .int .i64 ((scrF b s).dut), .int .i64 ((scrF b s).stp)] 25 (0, 0)⟩, ⟨w18.heap.size, .cells #[.int .i64 ((scrF (scrF b r) s).kind), .int .i64 ((scrF (scrF b r) s).runners), .slice A8x ((scrF (scrF b r) s).bets.length) cbx, .slice A9x ((scrF (scrF b r) s).scr.length) csx, .bool ((scrF (scrF b r) s).fav), .int .i64 ((scrF (scrF b r) s).car), .int .i64 ((scrF (scrF b r) s).dut), .int .i64 ((scrF (scrF b r) s).stp)] 25 (0, 0)⟩, ⟨w20.heap.size, .cells #[.int .i64 ((scrF (scrF b r) s).kind), .int .i64 ((scrF (scrF b r) s).runners), .slice A8y ((scrF (scrF b r) s).bets.length) cby, .slice A9y ((scrF (scrF b r) s).scr.length) csy, .bool ((scrF (scrF b r) s).fav), .int .i64 ((scrF (scrF b r) s).car), .int .i64 ((scrF (scrF b r) s).dut), .int .i64 ((scrF (scrF b r) s).stp)] 25 (0, 0)⟩], w22.heap.size, [], [], [], [], []⟩ hA2z (Nat.zero_le _) fun hA => ?_
        refine runS hA 23 (List.replicate 8 (.k 6) ++ List.replicate 5 (.g false) ++ List.replicate 8 (.k 4)) xn (oc (rfl : Value.bool false = .bool false) (oc (rfl : Value.bool false = .bool false) (oc (rfl : Value.bool false = .bool false) (oc (rfl : Value.bool false = .bool false) (oc (rfl : Value.bool false = .bool false) on))))) (by kernel_rfl) fun w23 hA => ?_
        have hP := rcheckBook_any w23 w23.heap.size (scrF (scrF b r) s) A8x (scrF (scrF b r) s).bets.length cbx A9x (scrF (scrF b r) s).scr.length csx (rows_bk2 (w := w23) hr1x hr2x (fun kb hk => hA.at_.rok kb (List.mem_append_right _ (List.mem_append_right _ (List.mem_append_right _ (List.mem_append_right _ (List.mem_append_left _ hk)))))) (fun kb hk => hA.at_.rok kb (List.mem_append_right _ (List.mem_append_right _ (List.mem_append_right _ (List.mem_append_right _ (List.mem_append_right _ (List.mem_append_left _ hk))))))) (by omega) (by omega)) (Nat.le_refl _)
        rw [hx0] at hP
        refine callB hA [] on (hP) (by kernel_rfl) fun w24 hb24 hA => ?_
        refine runS hA 5 ([.g false, .g false] ++ List.replicate 8 (.k 4) ++ [.g false] ++ List.replicate 8 (.k 5)) xn (oc (rfl : Value.bool false = .bool false) (oc (rfl : Value.bool false = .bool false) (oc (rfl : Value.bool false = .bool false) on))) (by kernel_rfl) fun w25 hA => ?_
        have hX := (rows_bk2 (w := w25) hr1x hr2x (fun kb hk => hA.at_.rok kb (List.mem_append_right _ (List.mem_append_right _ (List.mem_append_right _ (List.mem_append_right _ (List.mem_append_left _ hk)))))) (fun kb hk => hA.at_.rok kb (List.mem_append_right _ (List.mem_append_right _ (List.mem_append_right _ (List.mem_append_right _ (List.mem_append_right _ (List.mem_append_left _ hk))))))) (by omega) (by omega))
        have hY := (rows_bk2 (w := w25) hr1y hr2y (fun kb hk => hA.at_.rok kb (List.mem_append_right _ (List.mem_append_right _ (List.mem_append_left _ hk)))) (fun kb hk => hA.at_.rok kb (List.mem_append_right _ (List.mem_append_right _ (List.mem_append_right _ (List.mem_append_left _ hk))))) (by omega) (by omega))
        refine callB hA [] on (same_any w25 w25.heap.size (scrF (scrF b r) s) A8x (scrF (scrF b r) s).bets.length cbx A9x (scrF (scrF b r) s).scr.length csx A8y (scrF (scrF b r) s).bets.length cby A9y (scrF (scrF b r) s).scr.length csy hX hY (Nat.le_refl _)) (by kernel_rfl) fun w26 hb26 hA => ?_
        refine runS hA 10 [.g false, .g false, .g false, .k 4, .g false, .g false, .g false, .k 0, .g false, .g false] xn (oc (rfl : Value.bool false = .bool false) (oc (rfl : Value.bool false = .bool false) (oc (rfl : Value.bool false = .bool false) (oc (rfl : Value.bool false = .bool false) (oc (rfl : Value.bool false = .bool false) (oc (rfl : Value.bool false = .bool false) (oc (rfl : Value.bool false = .bool false) (oc (rfl : Value.bool false = .bool false) on)))))))) (by kernel_rfl) fun w27 hA => ?_
        refine revals hA (rc 132 (show .int .i64 ((scrF (scrF b r) s).scr.length) = .int .i64 ((m + 2 : Nat) : Int) by rw [hxl3]) (rc 136 (wr64 (x := (m : Int) + 2) (y := ((m + 2 : Nat) : Int)) (by omega) (by omega)) rn)) (by kernel_rfl) fun hA => ?_
        refine runS hA 11 ([.g false, .b false] ++ List.replicate 8 (.k 4)) xn (oc (rfl : Value.bool false = .bool false) (oc (ne_f (a := ((m + 2 : Nat) : Int)) (b := ((m + 2 : Nat) : Int)) rfl) on)) (by kernel_rfl) fun w28 hA => ?_
        have hApf := hA.atK [⟨w.heap.size, .cells #[.int .i64 b.kind, .int .i64 b.runners, .slice A n c, .slice A2 m c2, .bool b.fav, .int .i64 b.car, .int .i64 b.dut, .int .i64 b.stp] 25 (0, 0)⟩, ⟨gl, .cells cul 3 (0, 0)⟩, ⟨w10.heap.size, .cells #[.int .i64 ((scrF b r).kind), .int .i64 ((scrF b r).runners), .slice A8u ((scrF b r).bets.length) cbu, .slice A9u ((scrF b r).scr.length) csu, .bool ((scrF b r).fav), .int .i64 ((scrF b r).car), .int .i64 ((scrF b r).dut), .int .i64 ((scrF b r).stp)] 25 (0, 0)⟩, ⟨w12.heap.size, .cells #[.int .i64 ((scrF b s).kind), .int .i64 ((scrF b s).runners), .slice A8v ((scrF b s).bets.length) cbv, .slice A9v ((scrF b s).scr.length) csv, .bool ((scrF b s).fav), .int .i64 ((scrF b s).car), .int .i64 ((scrF b s).dut), .int .i64 ((scrF b s).stp)] 25 (0, 0)⟩, ⟨w18.heap.size, .cells #[.int .i64 ((scrF (scrF b r) s).kind), .int .i64 ((scrF (scrF b r) s).runners), .slice A8x ((scrF (scrF b r) s).bets.length) cbx, .slice A9x ((scrF (scrF b r) s).scr.length) csx, .bool ((scrF (scrF b r) s).fav), .int .i64 ((scrF (scrF b r) s).car), .int .i64 ((scrF (scrF b r) s).dut), .int .i64 ((scrF (scrF b r) s).stp)] 25 (0, 0)⟩, ⟨w20.heap.size, .cells #[.int .i64 ((scrF (scrF b r) s).kind), .int .i64 ((scrF (scrF b r) s).runners), .slice A8y ((scrF (scrF b r) s).bets.length) cby, .slice A9y ((scrF (scrF b r) s).scr.length) csy, .bool ((scrF (scrF b r) s).fav), .int .i64 ((scrF (scrF b r) s).car), .int .i64 ((scrF (scrF b r) s).dut), .int .i64 ((scrF (scrF b r) s).stp)] 25 (0, 0)⟩, ⟨w22.heap.size, .cells #[.int .i64 ((scB' (scrF b r) r).kind), .int .i64 ((scB' (scrF b r) r).runners), .slice A8z ((scB' (scrF b r) r).bets.length) cbz, .slice A9z ((scB' (scrF b r) r).scr.length) csz, .bool ((scB' (scrF b r) r).fav), .int .i64 ((scB' (scrF b r) r).car), .int .i64 ((scB' (scrF b r) r).dut), .int .i64 ((scB' (scrF b r) r).stp)] 25 (0, 0)⟩] (by kernel_rfl)
        refine call hA [] on (Finish_any w28 w28.heap.size (scrF (scrF b r) s) A8x (scrF (scrF b r) s).bets.length cbx A9x (scrF (scrF b r) s).scr.length csx A3 ny cy ys (rows_bk2 (w := w28) hr1x hr2x (fun kb hk => hA.at_.rok kb (List.mem_append_right _ (List.mem_append_right _ (List.mem_append_right _ (List.mem_append_right _ (List.mem_append_left _ hk)))))) (fun kb hk => hA.at_.rok kb (List.mem_append_right _ (List.mem_append_right _ (List.mem_append_right _ (List.mem_append_right _ (List.mem_append_right _ (List.mem_append_left _ hk))))))) (by omega) (by omega)) ((hy.below hA.below hB).more (Nat.le_trans hB hA.size)) (Nat.le_refl _) (valid_of hx0)) (by kernel_rfl) (by rintro e v ⟨Af, cf, ob, rfl, hbf, hof, hfk⟩; exact hbf) ?_
        rintro e w29 ⟨Af, cf, ob, rfl, hbf, hof, hfk⟩
        refine ⟨_, rfl, fun hA => ?_⟩
        have hA2f := At.ownL hApf hbf hof
        refine reknow ⟨[⟨w.heap.size, .cells #[.int .i64 b.kind, .int .i64 b.runners, .slice A n c, .slice A2 m c2, .bool b.fav, .int .i64 b.car, .int .i64 b.dut, .int .i64 b.stp] 25 (0, 0)⟩, ⟨gl, .cells cul 3 (0, 0)⟩, ⟨w10.heap.size, .cells #[.int .i64 ((scrF b r).kind), .int .i64 ((scrF b r).runners), .slice A8u ((scrF b r).bets.length) cbu, .slice A9u ((scrF b r).scr.length) csu, .bool ((scrF b r).fav), .int .i64 ((scrF b r).car), .int .i64 ((scrF b r).dut), .int .i64 ((scrF b r).stp)] 25 (0, 0)⟩, ⟨w12.heap.size, .cells #[.int .i64 ((scrF b s).kind), .int .i64 ((scrF b s).runners), .slice A8v ((scrF b s).bets.length) cbv, .slice A9v ((scrF b s).scr.length) csv, .bool ((scrF b s).fav), .int .i64 ((scrF b s).car), .int .i64 ((scrF b s).dut), .int .i64 ((scrF b s).stp)] 25 (0, 0)⟩, ⟨w18.heap.size, .cells #[.int .i64 ((scrF (scrF b r) s).kind), .int .i64 ((scrF (scrF b r) s).runners), .slice A8x ((scrF (scrF b r) s).bets.length) cbx, .slice A9x ((scrF (scrF b r) s).scr.length) csx, .bool ((scrF (scrF b r) s).fav), .int .i64 ((scrF (scrF b r) s).car), .int .i64 ((scrF (scrF b r) s).dut), .int .i64 ((scrF (scrF b r) s).stp)] 25 (0, 0)⟩, ⟨w20.heap.size, .cells #[.int .i64 ((scrF (scrF b r) s).kind), .int .i64 ((scrF (scrF b r) s).runners), .slice A8y ((scrF (scrF b r) s).bets.length) cby, .slice A9y ((scrF (scrF b r) s).scr.length) csy, .bool ((scrF (scrF b r) s).fav), .int .i64 ((scrF (scrF b r) s).car), .int .i64 ((scrF (scrF b r) s).dut), .int .i64 ((scrF (scrF b r) s).stp)] 25 (0, 0)⟩, ⟨w22.heap.size, .cells #[.int .i64 ((scB' (scrF b r) r).kind), .int .i64 ((scB' (scrF b r) r).runners), .slice A8z ((scB' (scrF b r) r).bets.length) cbz, .slice A9z ((scB' (scrF b r) r).scr.length) csz, .bool ((scB' (scrF b r) r).fav), .int .i64 ((scB' (scrF b r) r).car), .int .i64 ((scB' (scrF b r) r).dut), .int .i64 ((scB' (scrF b r) r).stp)] 25 (0, 0)⟩], w29.heap.size, [], [], [], [], []⟩ hA2f (Nat.zero_le _) fun hA => ?_
        refine runS hA 7 (List.replicate 8 (.k 4)) xn on (by kernel_rfl) fun w30 hA => ?_
        have hP := Account_any w30 w30.heap.size (scrF (scrF b r) s) A8x (scrF (scrF b r) s).bets.length cbx A9x (scrF (scrF b r) s).scr.length csx Af (finL (scrF (scrF b r) s) ys 8).length cf (finL (scrF (scrF b r) s) ys 8) (rows_bk2 (w := w30) hr1x hr2x (fun kb hk => hA.at_.rok kb (List.mem_append_right _ (List.mem_append_right _ (List.mem_append_right _ (List.mem_append_right _ (List.mem_append_right _ (List.mem_append_left _ hk))))))) (fun kb hk => hA.at_.rok kb (List.mem_append_right _ (List.mem_append_right _ (List.mem_append_right _ (List.mem_append_right _ (List.mem_append_right _ (List.mem_append_right _ (List.mem_append_left _ hk)))))))) (by omega) (by omega)) (hfk _ (fun kb hk => hA.at_.rok kb (List.mem_append_left _ hk))) (Nat.le_refl _)
        rw [← ha, hat0] at hP
        refine callB hA [] on (hP) (by kernel_rfl) fun w31 hb31 hA => ?_
        refine runS hA 12 (List.replicate 6 (.k 7) ++ List.replicate 8 (.k 5)) xn on (by kernel_rfl) fun w32 hA => ?_
        have hP := Account_any w32 w32.heap.size (scrF (scrF b r) s) A8y (scrF (scrF b r) s).bets.length cby A9y (scrF (scrF b r) s).scr.length csy Af (finL (scrF (scrF b r) s) ys 8).length cf (finL (scrF (scrF b r) s) ys 8) (rows_bk2 (w := w32) hr1y hr2y (fun kb hk => hA.at_.rok kb (List.mem_append_right _ (List.mem_append_right _ (List.mem_append_right _ (List.mem_append_left _ hk))))) (fun kb hk => hA.at_.rok kb (List.mem_append_right _ (List.mem_append_right _ (List.mem_append_right _ (List.mem_append_right _ (List.mem_append_left _ hk)))))) (by omega) (by omega)) (hfk _ (fun kb hk => hA.at_.rok kb (List.mem_append_left _ hk))) (Nat.le_refl _)
        rw [← ha, hat0] at hP
        refine callB hA [] on (hP) (by kernel_rfl) fun w33 hb33 hA => ?_
        refine runS hA 19 (List.replicate 6 (.k 8) ++ [.g true, .g true, .g true] ++ List.replicate 6 (.k 7) ++ [.g true] ++ List.replicate 6 (.k 8)) xn (oc (rfl : Value.bool true = .bool true) (oc (rfl : Value.bool true = .bool true) (oc (rfl : Value.bool true = .bool true) (oc (rfl : Value.bool true = .bool true) on)))) (by kernel_rfl) fun w34 hA => ?_
        refine opv (v := .bool true) hA [] on (s := cmpSem .eql 47 (.tmp 161) (.tmp 162) (.agg #[.int .i64 a.inn, .int .i64 a.back, .int .i64 a.duty, .int .i64 a.paid, .int .i64 a.kept, .int .i64 a.over]) (.agg #[.int .i64 a.inn, .int .i64 a.back, .int .i64 a.duty, .int .i64 a.paid, .int .i64 a.kept, .int .i64 a.over])) (by kernel_rfl) (cmp_flat (n := 6) false (by kernel_rfl) _ (by kernel_rfl) (fun i hi => by match i, hi with | 0, _ => exact ⟨_, _, _, rfl, rfl⟩ | 1, _ => exact ⟨_, _, _, rfl, rfl⟩ | 2, _ => exact ⟨_, _, _, rfl, rfl⟩ | 3, _ => exact ⟨_, _, _, rfl, rfl⟩ | 4, _ => exact ⟨_, _, _, rfl, rfl⟩ | 5, _ => exact ⟨_, _, _, rfl, rfl⟩) (True) (⟨fun _ => trivial, fun _ => rfl⟩) (by kernel_rfl)) fun hA => ?_
        refine runS hA 2 [] xn on (by kernel_rfl) fun w35 hA => ?_
        refine callB hA [] on (Works_any w35) (by kernel_rfl) fun w36 hb36 hA => ?_
        refine runS hA 5 [] xn on (by kernel_rfl) fun w37 hA => ?_
        exact ret (v := .bool true) hA [] (by kernel_rfl) ⟨rfl, hA.below⟩
end Go.Proofs.Ytkliekipopnibaa

/- PoolScratched answers true whatever the book, the runners and the numbers of the finish; the arguments read behind the call as they did. No condition. -/
namespace Go.Proofs.Ytkliekipopnibaa.poolScratched
open Go.ChangeShapes Go.WideShapes Go.ChangeAt Go.RowKit

theorem own : ownKnob Try.prog.godebug = none := by kernel_rfl
theorem laidOut : laidOutB Try.prog = true := by kernel_rfl
theorem cellsInt : Try.prog.cellsOf 3 = 1 := by kernel_rfl
/-- A slice of numbers among the arguments. -/
theorem ints_arg {H : Type} {enc : TypeId × Value → H} {W : World} {fuel : Nat} {v : Value} {x : DataW H × List MemPlace} (h : DataW.trod enc Try.prog W 0 (fun _ => true) true fuel 23 [v] = some x) :
    ∃ A n c xs, v = .slice A n c ∧ n ≤ c ∧ IntsAt W W.heap.size A n xs := by
  rcases open_ints Try.underlying23 Try.underlying3 cellsInt h with ⟨hcs, -⟩ | ⟨a, n, c, zs, hcs, -, hl, hm, hz, -, hcell, -⟩
  · obtain rfl : v = .slice none 0 0 := by simpa using hcs
    exact ⟨none, 0, 0, [], rfl, Nat.le_refl _, IntsAt.nil⟩
  · obtain rfl : v = .slice (some a) n c := by simpa using hcs
    have hz : zs.length = c := by simpa using hz
    refine ⟨some a, n, c, zs.take n, rfl, hl, by rw [List.length_take]; omega, by simp only [maxLen] at hm; omega, fun h0 => ?_⟩
    obtain ⟨b, off, rfl, hc⟩ := Go.ints_at hcell (by omega)
    refine ⟨b, off, rfl, ?_, fun j hj => ?_⟩
    · rcases Nat.lt_or_ge b W.heap.size with hb | hb
      · exact hb
      · have := hc 0 (by omega)
        simp [World.cell?, Array.getElem?_eq_none hb] at this
    · rw [hc j (by omega), List.getElem?_take, if_pos hj, List.getD_eq_getElem?_getD]
theorem cellsI64 : Try.prog.cellsOf 2 = 1 := by kernel_rfl
theorem cellsBool : Try.prog.cellsOf 4 = 1 := by kernel_rfl
theorem cellsBet : Try.prog.cellsOf 53 = 3 := by kernel_rfl
theorem cellsBets : Try.prog.cellsOf 22 = 1 := by kernel_rfl
theorem cellsInts : Try.prog.cellsOf 23 = 1 := by kernel_rfl
theorem cellsBook : Try.prog.cellsOf 25 = 8 := by kernel_rfl
theorem bet_gen {H : Type} {enc : TypeId × Value → H} {P : Program} {W : World} {fuel : Nat} {T I J : TypeId} {f0 f1 f2 : Field} (ht : P.underlying T = some (.struct #[f0, f1, f2])) (hi : P.underlying I = some (.int .i64)) (hj : P.underlying J = some (.int .i64)) (cI : P.cellsOf I = 1) (cJ : P.cellsOf J = 1) (cT : P.cellsOf T = 3)
    (o0 : f0.offset = 0 ∧ f0.type = I) (o1 : f1.offset = 1 ∧ f1.type = I) (o2 : f2.offset = 2 ∧ f2.type = J) {cs : List Value} {x : DataW H × List MemPlace} (h : DataW.trod enc P W 0 (fun _ => true) true fuel T cs = some x) :
    ∃ y : Bet, cs = [.int .i64 y.first, .int .i64 y.second, .int .i64 y.units] := by
  obtain ⟨xs, m, -, -, hl, hn, hf⟩ := Go.DataW.trod_struct ht h
  rw [cT] at hl
  obtain ⟨v0, v1, v2, rfl⟩ : ∃ v0 v1 v2, cs = [v0, v1, v2] := by
    match cs, hl with
    | [a, b, c], _ => exact ⟨a, b, c, rfl⟩
  have g0 := hf 0 f0 rfl
  have g1 := hf 1 f1 rfl
  have g2 := hf 2 f2 rfl
  simp only [List.size_toArray, List.length_cons, List.length_nil] at hn
  rw [List.getElem?_eq_getElem (by omega)] at g0 g1 g2
  rw [o0.1, o0.2, cI] at g0
  rw [o1.1, o1.2, cI] at g1
  rw [o2.1, o2.2, cJ] at g2
  obtain ⟨a, e0, -, -⟩ := Go.DataW.trod_int hi g0
  obtain ⟨b, e1, -, -⟩ := Go.DataW.trod_int hi g1
  obtain ⟨c, e2, -, -⟩ := Go.DataW.trod_int hj g2
  simp at e0 e1 e2
  exact ⟨⟨a, b, c⟩, by rw [e0, e1, e2]⟩
theorem bet_arg {H : Type} {enc : TypeId × Value → H} {W : World} {fuel : Nat} {cs : List Value} {x : DataW H × List MemPlace} (h : DataW.trod enc Try.prog W 0 (fun _ => true) true fuel 53 cs = some x) :
    ∃ y : Bet, cs = [.int .i64 y.first, .int .i64 y.second, .int .i64 y.units] := bet_gen Try.underlying53 Try.underlying3 Try.underlying2 cellsInt cellsI64 cellsBet ⟨rfl, rfl⟩ ⟨rfl, rfl⟩ ⟨rfl, rfl⟩ h
/-- A slice of bets among the arguments. -/
theorem bets_arg {H : Type} {enc : TypeId × Value → H} {W : World} {fuel : Nat} {v : Value} {x : DataW H × List MemPlace} (h : DataW.trod enc Try.prog W 0 (fun _ => true) true fuel 22 [v] = some x) :
    ∃ A n c bs, v = .slice A n c ∧ n ≤ c ∧ BetsAt W W.heap.size A n bs := by
  rcases Go.Deep.open_slice Try.underlying22 h with ⟨hcs, -⟩ | ⟨a, len, cap, m, n', D, Pl, hcs, -, hl, hm, hmm, -, hel⟩
  · obtain rfl : v = .slice none 0 0 := by simpa using hcs
    exact ⟨none, 0, 0, [], rfl, Nat.le_refl _, rfl, by omega, fun h => absurd h (by omega)⟩
  · obtain rfl : v = .slice (some a) len cap := by simpa using hcs
    have hmc : m = cap := by simpa using hmm
    have each : ∀ i, i < len → ∃ y : Bet, W.cell? (a.add (i * 3)) = some (.int .i64 y.first) ∧ W.cell? (a.add (i * 3 + 1)) = some (.int .i64 y.second) ∧ W.cell? (a.add (i * 3 + 2)) = some (.int .i64 y.units) := by
      intro i hi
      obtain ⟨cs', h1, h2⟩ := hel i (by omega)
      obtain ⟨y, rfl⟩ := bet_arg h2
      rw [cellsBet] at h1
      obtain ⟨_, hlen, hcell⟩ := World.cells?_some h1
      have g0 := hcell 0 (by omega)
      have g1 := hcell 1 (by omega)
      have g2 := hcell 2 (by omega)
      rw [Go.Deep.add_add] at g0 g1 g2
      exact ⟨y, by simpa using g0, by simpa using g1, by simpa using g2⟩
    obtain ⟨fx, hfx⟩ := Go.Deep.choose_lt each
    refine ⟨some a, len, cap, (List.range len).map fx, rfl, hl, by simp, by simp only [maxLen] at hm; omega, fun h0 => ?_⟩
    obtain ⟨b, off, spot⟩ := a
    have hc0 := (hfx 0 h0).1
    have hspot : spot = none := by simpa [Addr.add] using World.cell?_spot hc0
    subst hspot
    refine ⟨b, off, rfl, ?_, fun j hj => ?_⟩
    · rcases Nat.lt_or_ge b W.heap.size with hb | hb
      · exact hb
      · simp [World.cell?, Addr.add, Array.getElem?_eq_none hb] at hc0
    · have e := hfx j hj
      rw [Go.WideShapes.add_plain, Go.WideShapes.add_plain, Go.WideShapes.add_plain] at e
      rw [List.getElem?_map, List.getElem?_range hj, Option.map_some, Option.getD_some]
      exact e
theorem book_gen {H : Type} {enc : TypeId × Value → H} {P : Program} {W : World} {fuel : Nat} {T I J S R C : TypeId} {f0 f1 f2 f3 f4 f5 f6 f7 : Field} (ht : P.underlying T = some (.struct #[f0, f1, f2, f3, f4, f5, f6, f7])) (hi : P.underlying I = some (.int .i64)) (hj : P.underlying J = some (.int .i64)) (hb : P.underlying C = some .bool)
    (cI : P.cellsOf I = 1) (cJ : P.cellsOf J = 1) (cS : P.cellsOf S = 1) (cR : P.cellsOf R = 1) (cC : P.cellsOf C = 1) (cT : P.cellsOf T = 8)
    (o0 : f0.offset = 0 ∧ f0.type = I) (o1 : f1.offset = 1 ∧ f1.type = I) (o2 : f2.offset = 2 ∧ f2.type = S) (o3 : f3.offset = 3 ∧ f3.type = R) (o4 : f4.offset = 4 ∧ f4.type = C) (o5 : f5.offset = 5 ∧ f5.type = J) (o6 : f6.offset = 6 ∧ f6.type = J) (o7 : f7.offset = 7 ∧ f7.type = J)
    {cs : Array Value} {x : DataW H × List MemPlace} (h : DataW.trod enc P W 0 (fun _ => true) true fuel T cs.toList = some x) :
    ∃ (a0 a1 : Int) (v2 v3 : Value) (a4 : Bool) (a5 a6 a7 : Int) (q : Nat) (x2 x3 : DataW H × List MemPlace), cs = #[.int .i64 a0, .int .i64 a1, v2, v3, .bool a4, .int .i64 a5, .int .i64 a6, .int .i64 a7] ∧
      DataW.trod enc P W 0 (fun _ => true) true q S [v2] = some x2 ∧ DataW.trod enc P W 0 (fun _ => true) true q R [v3] = some x3 := by
  obtain ⟨xs, q, -, -, hl, hn, hf⟩ := Go.DataW.trod_struct ht h
  rw [cT] at hl
  obtain ⟨v0, v1, v2, v3, v4, v5, v6, v7, hc⟩ : ∃ v0 v1 v2 v3 v4 v5 v6 v7, cs.toList = [v0, v1, v2, v3, v4, v5, v6, v7] := by
    generalize cs.toList = l at hl
    match l, hl with
    | [a, b, c, d, e, f, g, h], _ => exact ⟨a, b, c, d, e, f, g, h, rfl⟩
  rw [hc] at hf
  simp only [List.size_toArray, List.length_cons, List.length_nil] at hn
  have g0 := hf 0 f0 rfl
  have g1 := hf 1 f1 rfl
  have g2 := hf 2 f2 rfl
  have g3 := hf 3 f3 rfl
  have g4 := hf 4 f4 rfl
  have g5 := hf 5 f5 rfl
  have g6 := hf 6 f6 rfl
  have g7 := hf 7 f7 rfl
  rw [List.getElem?_eq_getElem (by omega)] at g0 g1 g2 g3 g4 g5 g6 g7
  rw [o0.1, o0.2, cI] at g0
  rw [o1.1, o1.2, cI] at g1
  rw [o2.1, o2.2, cS] at g2
  rw [o3.1, o3.2, cR] at g3
  rw [o4.1, o4.2, cC] at g4
  rw [o5.1, o5.2, cJ] at g5
  rw [o6.1, o6.2, cJ] at g6
  rw [o7.1, o7.2, cJ] at g7
  obtain ⟨a0, e0, -, -⟩ := Go.DataW.trod_int hi g0
  obtain ⟨a1, e1, -, -⟩ := Go.DataW.trod_int hi g1
  obtain ⟨a4, e4, -⟩ := Go.DataW.trod_bool hb g4
  obtain ⟨a5, e5, -, -⟩ := Go.DataW.trod_int hj g5
  obtain ⟨a6, e6, -, -⟩ := Go.DataW.trod_int hj g6
  obtain ⟨a7, e7, -, -⟩ := Go.DataW.trod_int hj g7
  simp at e0 e1 e4 e5 e6 e7
  refine ⟨a0, a1, v2, v3, a4, a5, a6, a7, q, _, _, ?_, by simpa using g2, by simpa using g3⟩
  apply Array.toList_inj.1
  rw [hc, e0, e1, e4, e5, e6, e7]
/-- A book among the arguments. -/
theorem book_arg {H : Type} {enc : TypeId × Value → H} {W : World} {fuel : Nat} {cs : Array Value} {x : DataW H × List MemPlace} (h : DataW.trod enc Try.prog W 0 (fun _ => true) true fuel 25 cs.toList = some x) :
    ∃ b A n c A2 m c2, cs = bkC b A n c A2 m c2 ∧ BkAt W W.heap.size b A n c A2 m c2 := by
  obtain ⟨a0, a1, v2, v3, a4, a5, a6, a7, q, x2, x3, rfl, f2, f3⟩ := book_gen Try.underlying25 Try.underlying3 Try.underlying2 Try.underlying4 cellsInt cellsI64 cellsBets cellsInts cellsBool cellsBook ⟨rfl, rfl⟩ ⟨rfl, rfl⟩ ⟨rfl, rfl⟩ ⟨rfl, rfl⟩ ⟨rfl, rfl⟩ ⟨rfl, rfl⟩ ⟨rfl, rfl⟩ ⟨rfl, rfl⟩ h
  obtain ⟨A, n, c, bs, rfl, l2, i2⟩ := bets_arg f2
  obtain ⟨A2, m, c2, ss, rfl, l3, i3⟩ := ints_arg f3
  exact ⟨⟨a0, a1, bs, ss, a4, a5, a6, a7⟩, A, n, c, A2, m, c2, rfl, i2, i3, l2, l3⟩
theorem cellsByte : Try.prog.cellsOf 5 = 1 := by kernel_rfl
/-- A slice of bytes among the arguments. -/
theorem bytes_arg {H : Type} {enc : TypeId × Value → H} {W : World} {fuel : Nat} {v : Value} {x : DataW H × List MemPlace} (h : DataW.trod enc Try.prog W 0 (fun _ => true) true fuel 44 [v] = some x) :
    ∃ A n c xs, v = .slice A n c ∧ n ≤ c ∧ U8At W W.heap.size A n xs := by
  rcases open_ints Try.underlying44 Try.underlying5 cellsByte h with ⟨hcs, -⟩ | ⟨a, n, c, zs, hcs, -, hl, hm, hz, -, hcell, hwf⟩
  · obtain rfl : v = .slice none 0 0 := by simpa using hcs
    exact ⟨none, 0, 0, [], rfl, Nat.le_refl _, rfl, by omega, fun h => absurd h (by omega)⟩
  · obtain rfl : v = .slice (some a) n c := by simpa using hcs
    have hz : zs.length = c := by simpa using hz
    refine ⟨some a, n, c, zs.take n, rfl, hl, by rw [List.length_take]; omega, by simp only [maxLen] at hm; omega, fun h0 => ?_⟩
    obtain ⟨b, off, rfl, hc⟩ := Go.ints_at hcell (by omega)
    refine ⟨b, off, rfl, ?_, fun j hj => ⟨?_, ?_⟩⟩
    · rcases Nat.lt_or_ge b W.heap.size with hb | hb
      · exact hb
      · have := hc 0 (by omega)
        simp [World.cell?, Array.getElem?_eq_none hb] at this
    · rw [hc j (by omega), List.getElem?_take, if_pos hj, List.getD_eq_getElem?_getD]
    · rw [List.getElem?_take, if_pos hj]
      exact range_u8 hwf j

/-! ### THE ROW's STEP -/
set_option maxRecDepth 100000 in
theorem lifted (os : Os) (started : os.Started) (H : Type) (enc : TypeId × Value → H) :
    ReturnsInHanded {} Try.checked os 6 .any (Rows.poolScratchedSpec.pre6 enc Try.prog Try.f6 Rows.poolScratchedRow.domain false) (Rows.poolScratchedSpec.post enc Try.prog Try.f6 false true false false) := by
  refine returnsInHanded_of_change (C := Try.checked) own started (by kernel_rfl) Try.func6
    (ChangeSpec.witness6 (enc := enc) (C := Try.checked) false ⟨#[], #[.agg #[.int .i64 0, .int .i64 0, .slice none 0 0, .slice none 0 0, .bool false, .int .i64 0, .int .i64 0, .int .i64 0], .int .u8 0, .int .u8 0, .slice none 0 0], []⟩ 8 (by kernel_rfl) (by kernel_rfl) (by kernel_rfl) (by kernel_rfl)) ?_
  intro W base args ds gs before hval0 hW hcnd _
  have hval : ∀ (j : Nat) t v, Try.f6.params[j]? = some t → args[j]? = some v → Value.okWide Try.prog W .any base t v := hval0
  have hW' := hW
  obtain ⟨p, q, hA0, hV, rfl, hfz, hnd⟩ := hW
  have hA : DataW.TrodAll enc Try.prog W 0 (fun _ => true) true Try.f6.params.toList args.toList ds p := hA0
  rw [Try.params6] at hA hval
  obtain ⟨v0, v1, v2, v3, d0, d1, d2, d3, p0, p1, p2, p3, rfl, rfl, rfl, h0, h1, h2, h3⟩ := trodAll_four hA
  obtain ⟨rfl, rfl⟩ := trodVars_none hV
  obtain ⟨cs0, rfl, -⟩ := okWide_struct Try.underlying25 (hval 0 25 v0 rfl rfl)
  obtain ⟨x1, rfl, rfl, rfl, wx1⟩ := open_int Try.underlying5 (hval 1 5 v1 rfl rfl) h1
  obtain ⟨x2, rfl, rfl, rfl, wx2⟩ := open_int Try.underlying5 (hval 2 5 v2 rfl rfl) h2
  obtain ⟨A3, n3, c3, rfl⟩ := okWide_slice Try.underlying44 (hval 3 44 v3 rfl rfl)
  have h0k := h0
  have h3k := h3
  obtain ⟨f0, hf0⟩ := h0
  obtain ⟨f3, hf3⟩ := h3
  obtain ⟨b0, A0, n0, c0, B0, m0, d0, e0, i0⟩ := book_arg (cs := cs0) hf0
  subst e0
  obtain ⟨A3', n3', c3', x3, e3, l3, i3⟩ := bytes_arg hf3
  cases e3
  clear hA0 hval0
  simp only [List.append_nil] at hW'
  have hlt0 : ∀ x ∈ p0, x.block < W.heap.size := fun x hx => by simpa using hW'.lt x (by simp [hx])
  have hlt3 : ∀ x ∈ p3, x.block < W.heap.size := fun x hx => by simpa using hW'.lt x (by simp [hx])
  have bd1 : 0 ≤ x1 ∧ x1 ≤ 255 := by have := bounds_u8 wx1; omega
  have bd2 : 0 ≤ x2 ∧ x2 ≤ 255 := by have := bounds_u8 wx2; omega
  refine (PoolScratched_any W W.heap.size b0 A0 n0 c0 B0 m0 d0 x1 x2 A3 n3 c3 x3 i0 bd1 bd2 i3 (Nat.le_refl _)).mono fun e W' ⟨he, hg⟩ => ?_
  subst he
  exact ⟨_, rfl, _, _, _, [], p0 ++ ([] ++ ([] ++ p3)), [], hW', trodAll_cons_mk (shut_bool Try.underlying4 _) trodAll_mk0,
    trodAll_mk4 (Below.trod laidOut (by kernel_rfl) (of_decide_eq_true (by kernel_rfl)) h0k hg hlt0) (shut_int Try.underlying5 wx1) (shut_int Try.underlying5 wx2) (Below.trod laidOut (by kernel_rfl) (of_decide_eq_true (by kernel_rfl)) h3k hg hlt3),
    rfl, hg.frame _, fun h => by cases h⟩

theorem over : Rows.poolScratchedRow.holds Try.pinned (OpenSpec.ofChange Rows.poolScratchedSpec) :=
  OpenClaim.holds_of_wide 6 Try.f6 rfl rfl rfl rfl rfl rfl rfl ⟨rfl, rfl, rfl, rfl, rfl⟩ rfl rfl rfl rfl rfl (by kernel_rfl) Try.func6 (by kernel_rfl)
    (of_decide_eq_true (by kernel_rfl)) (by unfold Func.isWrapper; first | (rw [if_pos (by decide +kernel)]; kernel_rfl) | (rw [if_neg (by decide +kernel)]; exact ⟨rfl, rfl⟩))
    (fun os started H enc _ => lifted os started H enc)

/-- The statement. -/
theorem proved : Rows.PoolScratchedSaid :=
  over
#print axioms proved
end Go.Proofs.Ytkliekipopnibaa.poolScratched
