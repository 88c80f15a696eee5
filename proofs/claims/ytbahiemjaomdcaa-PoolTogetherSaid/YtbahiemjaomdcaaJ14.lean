/- Parts of a proof: VT WF YA YC YK YM YO. -/
import Derived.Test.YtbahiemjaomdcaaF13

/- quinellaref03: Running; pool: scratched runners. -/
namespace Go.Proofs.Ytbahiemjaomdcaa
open Go.RowKit Go.Shelf

theorem filt_len2 (p : Int → Bool) : ∀ xs : List Int, (xs.filter p).length + (xs.filter fun y => !p y).length = xs.length
  | [] => rfl
  | x :: xs => by
    have ih := filt_len2 p xs
    cases h : p x <;> simp [h] <;> omega
theorem insF_len (x : Int) (xs : List Int) : (insF x xs).length = xs.length + 1 := by
  unfold insF
  rw [List.length_append, List.length_cons]
  have h := filt_len2 (fun y => decide (y < x)) xs
  omega
theorem scr_in {b : Bk} {r : Int} (hr : r ∈ racN b) : (0 ≤ r ∧ r < b.runners) ∧ r ∉ b.scr := by
  have := (racL_mem b).1 hr
  exact ⟨by omega, this.2⟩
theorem bookF_scr {b : Bk} {r : Int} (h0 : bookF b = 0) (hr : r ∈ racN b) (h3 : 3 ≤ (racN b).length) : bookF (scrF b r) = 0 := by
  have V := valid_of h0
  obtain ⟨h1, h2⟩ := scr_in hr
  have hl := racL_scr V
  have hw := bookF_eq (scrF b r)
  have hbet : (scrF b r).bets.any (refusesF (scrF b r)) = false := by
    rw [List.any_eq_false]
    intro x hx
    have := V.bet x hx
    show ¬ refusesF b x = true
    rw [this]
    decide
  have hsc : scratchable (scrF b r) (scrF b r).scr = true := by
    have hp := insF_pw (incF_pw V.inc) h2
    refine scratchable_true ?_ (fun j hj => ?_) fun j hj => ?_
    · show ((insF r b.scr).length : Int) ≤ b.runners - 2
      rw [insF_len]
      omega
    · have hm : (insF r b.scr)[j]?.getD 0 ∈ insF r b.scr := get_mem hj
      show 0 ≤ (insF r b.scr)[j]?.getD 0 ∧ (insF r b.scr)[j]?.getD 0 < b.runners
      rcases insF_mem.1 hm with e | e
      · rw [e]; exact h1
      · obtain ⟨q, hq, e2⟩ := List.getElem_of_mem e
        have := (scratchable_false V.scr).1.2 q hq
        rw [List.getElem?_eq_getElem hq, Option.getD_some, e2] at this
        exact this
    · have hj : j + 1 < (insF r b.scr).length := hj
      have := List.pairwise_iff_getElem.1 hp j (j + 1) (by omega) hj (by omega)
      show (insF r b.scr)[j]?.getD 0 < (insF r b.scr)[j + 1]?.getD 0
      rw [List.getElem?_eq_getElem (by omega), List.getElem?_eq_getElem hj]
      exact this
  rw [hw, if_neg (show ¬ ¬ (0 ≤ (scrF b r).kind ∧ (scrF b r).kind ≤ 3) from Classical.not_not.2 V.kind), if_neg (show ¬ ¬ ((2 ≤ (scrF b r).runners ∧ (scrF b r).runners ≤ 8) ∧ (0 ≤ (scrF b r).car ∧ (scrF b r).car ≤ 1000000) ∧ (0 ≤ (scrF b r).dut ∧ (scrF b r).dut ≤ 500) ∧ (1 ≤ (scrF b r).stp ∧ (scrF b r).stp ≤ 100)) from Classical.not_not.2 ⟨V.run, V.car, V.dut, V.stp⟩), if_neg (show ¬ 100 < (scrF b r).bets.length by have := V.len; show ¬ 100 < b.bets.length; omega), if_neg (by rw [hbet]; decide), if_neg (by rw [hsc]; decide)]
theorem scE_ok {b : Bk} {r : Int} (h0 : bookF b = 0) (hr : r ∈ racN b) (h3 : 3 ≤ (racN b).length) : scE b r = 0 ∧ scB' b r = scrF b r := by
  obtain ⟨h1, h2⟩ := scr_in hr
  have e : scE b r = 0 := by
    unfold scE
    rw [if_pos h0, if_neg (by rw [(isR_iff b r).2 h1]; decide), if_neg h2, if_neg (by omega)]
  exact ⟨e, if_pos e⟩
theorem racN_scr {b : Bk} {r : Int} (h0 : bookF b = 0) (hr : r ∈ racN b) (h3 : 3 ≤ (racN b).length) : (∀ x, x ∈ racN (scrF b r) ↔ x ∈ racN b ∧ x ≠ r) ∧ (racN (scrF b r)).length + 1 = (racN b).length := by
  have h1 := racL_scr (valid_of h0)
  have h2 := racL_scr (valid_of (bookF_scr h0 hr h3))
  have h4 : ((racN (scrF b r)).length : Int) = b.runners - ((insF r b.scr).length : Int) := h2
  rw [insF_len] at h4
  refine ⟨fun x => ?_, by omega⟩
  have e1 := racL_mem b (x := x) (k := b.runners.toNat)
  have e2 := racL_mem (scrF b r) (x := x) (k := b.runners.toNat)
  show x ∈ racL (scrF b r) b.runners.toNat ↔ x ∈ racL b b.runners.toNat ∧ x ≠ r
  rw [e1, e2]
  show _ ∧ x ∉ insF r b.scr ↔ _
  rw [insF_mem]
  exact ⟨fun h => ⟨⟨h.1, fun h9 => h.2 (.inr h9)⟩, fun h9 => h.2 (.inl h9)⟩, fun h => ⟨h.1.1, fun h9 => h9.elim h.2 h.1.2⟩⟩
theorem scE_have {b : Bk} {r : Int} (h0 : bookF b = 0) (hr : r ∈ racN b) (h3 : 3 ≤ (racN b).length) : scE (scrF b r) r = 11 := by
  obtain ⟨h1, h2⟩ := scr_in hr
  unfold scE
  rw [if_pos (bookF_scr h0 hr h3), if_neg (by rw [(isR_iff (scrF b r) r).2 h1]; decide), if_pos (show r ∈ (scrF b r).scr from insF_mem.2 (.inl rfl))]
theorem scr_swap {b : Bk} {r s : Int} (V : ValidB b) (hr : r ∈ racN b) (hs : s ∈ racN b) (hne : r ≠ s) : scrF (scrF b s) r = scrF (scrF b r) s := by
  have h1 := (scr_in hr).2
  have h2 := (scr_in hs).2
  have hp := incF_pw V.inc
  have e : insF r (insF s b.scr) = insF s (insF r b.scr) := by
    refine incr_ext (insF_pw (insF_pw hp h2) (fun h => (insF_mem.1 h).elim hne h1)) (insF_pw (insF_pw hp h1) (fun h => (insF_mem.1 h).elim (fun e => hne e.symm) h2)) fun x => ?_
    rw [insF_mem, insF_mem, insF_mem, insF_mem]
    exact ⟨fun h => h.elim (fun h => .inr (.inl h)) fun h => h.elim .inl fun h => .inr (.inr h), fun h => h.elim (fun h => .inr (.inl h)) fun h => h.elim .inl fun h => .inr (.inr h)⟩
  unfold scrF
  simp only
  rw [e]
theorem two_mods {N a d : Nat} (hd : d + 1 < N) : (a + 1 + d) % N ≠ a % N := by
  have h1 : (a + 1 + d) % N = (a % N + (1 + d)) % N := by rw [Nat.mod_add_mod, Nat.add_assoc]
  have h2 : a % N < N := Nat.mod_lt _ (by omega)
  rw [h1]
  rcases Nat.lt_or_ge (a % N + (1 + d)) N with h | h
  · rw [Nat.mod_eq_of_lt h]; omega
  · rw [Nat.mod_eq_sub_mod h, Nat.mod_eq_of_lt (by omega)]; omega
theorem rows_bk2 {w : World} {b : Bk} {n m c c2 : Nat} {A A2 : Option Addr} {ob ob2 : List KB} (hr1 : RowV 53 3 (.slice A n c) n (encB b.bets) ob) (hr2 : RowV 3 1 (.slice A2 m c2) m (ints b.scr) ob2)
    (h1 : ∀ kb ∈ ob, w.heap[kb.id]? = some kb.obj) (h2 : ∀ kb ∈ ob2, w.heap[kb.id]? = some kb.obj) (hn : n ≤ 1000) (hm : m ≤ 1000) : BkAt w w.heap.size b A n c A2 m c2 := by
  have k1 : BetsAt w w.heap.size A n b.bets ∧ n ≤ c := by
    rcases hr1.2 with ⟨e1, e2, e3⟩ | ⟨g, cap, cur, e1, e2, e3, e4⟩
    · cases e1
      have hl := hr1.1
      rw [encB_len] at hl
      exact ⟨⟨by omega, by omega, fun h0 => absurd h0 (Nat.lt_irrefl 0)⟩, Nat.le_refl _⟩
    · cases e1
      subst e2
      exact row_bets hr1 (h1 _ List.mem_cons_self) hn
  have k2 : IntsAt w w.heap.size A2 m b.scr ∧ m ≤ c2 := by
    rcases hr2.2 with ⟨e1, e2, e3⟩ | ⟨g, cap, cur, e1, e2, e3, e4⟩
    · cases e1
      have hl := hr2.1
      simp only [ints, List.length_map, Nat.mul_one] at hl
      exact ⟨⟨by omega, by omega, fun h0 => absurd h0 (Nat.lt_irrefl 0)⟩, Nat.le_refl _⟩
    · cases e1
      subst e2
      exact row_ints2 hr2 (h2 _ List.mem_cons_self) hm
  exact ⟨k1.1, k2.1, k1.2, k2.2⟩
set_option maxHeartbeats 4000000 in
set_option maxRecDepth 20000 in
theorem running_any (w : World) (B : Nat) (b : Bk) (A : Option Addr) (n c : Nat) (A2 : Option Addr) (m c2 : Nat) (h : BkAt w B b A n c A2 m c2) (hB : B ≤ w.heap.size) (V : ValidB b) : Calls Try.prog 33 #[bkV b A n c A2 m c2] w fun e w' => ∃ v, e = .returned v ∧ Below w.heap.size w w' ∧ w'.ownsRow w.heap.size 3 1 v (racN b).length (ints (racN b)) := by
  have hv1 := V.run
  refine enter 21 Try.func33 (by kernel_rfl) fun hA => ?_
  refine runS hA 18 [] xn on (by kernel_rfl) fun w1 hA => ?_
  obtain ⟨R, hR⟩ : ∃ R : Nat, b.runners = (R : Int) := ⟨b.runners.toNat, by omega⟩
  have hRt : b.runners.toNat = R := by omega
  refine loop (γ := Nat × Option Addr × Nat × List KB) (fun ⟨k, Av, cv, ov⟩ => [(1, .pointer (some ⟨w.heap.size, 0, none⟩)), (2, .slice none 0 0), (3, .slice Av ((racL b k).length) cv), (4, .int .i64 (k : Int))]) (fun ⟨k, Av, cv, ov⟩ => [⟨w.heap.size, .cells #[.int .i64 b.kind, .int .i64 b.runners, .slice A n c, .slice A2 m c2, .bool b.fav, .int .i64 b.car, .int .i64 b.dut, .int .i64 b.stp] 25 (0, 0)⟩]) (fun ⟨k, Av, cv, ov⟩ => ov ++ []) (fun g ⟨k, Av, cv, ov⟩ wr => (k ≤ R ∧ g = R - k) ∧ RowV 3 1 (.slice Av (racL b k).length cv) (racL b k).length (ints (racL b k)) ov) R ⟨0, none, 0, []⟩ [true] hA (by kernel_rfl) (⟨⟨Nat.zero_le _, rfl⟩, RowV.nil _ _⟩) ?_
  rintro _ ⟨k, Av, cv, ov⟩ wr ⟨⟨hk, rfl⟩, hrk⟩ J hJ hA
  have hll := racL_len b k
  by_cases hlk : k < R
  case neg =>
    refine runS hA 12 [.k 0, .b false] xn (oc (dec_f (show ¬ (((k : Int) : Int) < (b.runners : Int)) by omega)) on) (by kernel_rfl) fun w2 hA => ?_
    refine leave hA (by kernel_rfl) fun hA => ?_
    refine runS hA 9 [] xn on (by kernel_rfl) fun w3 hA => ?_
    have hAf := hA.atK [⟨w.heap.size, .cells #[.int .i64 b.kind, .int .i64 b.runners, .slice A n c, .slice A2 m c2, .bool b.fav, .int .i64 b.car, .int .i64 b.dut, .int .i64 b.stp] 25 (0, 0)⟩] (by kernel_rfl)
    have hkR : k = b.runners.toNat := by omega
    rw [hkR] at hrk
    exact ret (v := .slice Av ((racL b k).length) cv) hA [] (by kernel_rfl) ⟨_, by rw [hkR], hA.below, RowV.own (rest := []) hrk hAf⟩
  case pos =>
    refine runS hA 19 [.k 0, .b true, .k 0] xn (oc (dec_t (show (((k : Int) : Int) < (b.runners : Int)) by omega)) on) (by kernel_rfl) fun w2 hA => ?_
    refine callB hA [] on (has_any w2 B A2 m c2 b.scr (k : Int) (h.scr.below hA.below hB) (Nat.le_trans hB hA.size)) (by kernel_rfl) fun w3 hb3 hA => ?_
    by_cases hks : (k : Int) ∈ b.scr
    case pos =>
      refine revals hA (rc 14 (show .bool (decide ((k : Int) ∈ b.scr)) = .bool true by rw [decide_eq_true hks]) rn) (by kernel_rfl) fun hA => ?_
      refine runS hA 12 [] xn on (by kernel_rfl) fun w4 hA => ?_
      have hst : (racL b (k + 1)) = (racL b k) := by rw [racL, if_pos hks, List.append_nil]
      refine revals hA (rc 3 (show .slice Av ((racL b k).length) cv = .slice Av ((racL b (k + 1)).length) cv by rw [hst]) (rc 4 (wr64 (x := (k : Int) + 1) (y := ((k + 1 : Nat) : Int)) (by omega) (by omega)) rn)) (by kernel_rfl) fun hA => ?_
      exact again hJ (R - (k + 1)) (⟨k + 1, Av, cv, ov⟩) [true] hA (by omega) (by kernel_rfl) (⟨⟨by omega, rfl⟩, by rw [hst]; exact hrk⟩)
    case neg =>
      refine revals hA (rc 14 (show .bool (decide ((k : Int) ∈ b.scr)) = .bool false by rw [decide_eq_false hks]) rn) (by kernel_rfl) fun hA => ?_
      refine runS hA 8 [] xn on (by kernel_rfl) fun w4 hA => ?_
      have hst : (racL b (k + 1)) = (racL b k) ++ [(k : Int)] := by rw [racL, if_neg hks]
      have hcl := cell_of_obj (a := ⟨w3.heap.size, 0, none⟩) (hA.at_.ok ⟨w3.heap.size, .cells #[.int .i64 (k : Int)] 3 (0, 0)⟩ (List.mem_of_getElem? (i := 1) (by kernel_rfl))) rfl rfl
      refine appE (t := 23) (e := 3) (ty := 23) (z := .int .i64 0) (size := 1) (bytes := 8) (v := .slice Av (racL b k).length cv) (n := (racL b k).length) (m := 1) (cp := 1) (A := some ⟨w3.heap.size, 0, none⟩) [.int .i64 (k : Int)] hA hrk (by kernel_rfl) rfl (fun _ => ⟨_, rfl, fun q u hu => by match q, hu with | 0, hu => cases hu; exact hcl⟩) rfl (by omega) (by omega) fun v2 w5 ob2 hr2 hnil2 hat2 hsz2 hA => ?_
      have hle : (racL b (k + 1)).length = (racL b k).length + 1 := by rw [hst, List.length_append]; rfl
      obtain ⟨g2, c2', rfl⟩ : ∃ g2 c2', v2 = .slice (some ⟨g2, 0, none⟩) ((racL b k).length + 1) c2' := by
        rcases hr2.2 with ⟨-, h9, -⟩ | ⟨g2, c2', u2, h1, -⟩
        · omega
        · exact ⟨g2, c2', h1⟩
      refine runS hA 9 [] xn on (by kernel_rfl) fun w6 hA => ?_
      have hrk2 : RowV 3 1 (.slice (some ⟨g2, 0, none⟩) (racL b (k + 1)).length c2') (racL b (k + 1)).length (ints (racL b (k + 1))) ob2 := by rw [hle, hst, ints_append]; exact hr2
      refine revals hA (rc 3 (show .slice (some ⟨g2, 0, none⟩) ((racL b k).length + 1) c2' = .slice (some ⟨g2, 0, none⟩) ((racL b (k + 1)).length) c2' by rw [hle]) (rc 4 (wr64 (x := (k : Int) + 1) (y := ((k + 1 : Nat) : Int)) (by omega) (by omega)) rn)) (by kernel_rfl) fun hA => ?_
      exact again hJ (R - (k + 1)) (⟨k + 1, some ⟨g2, 0, none⟩, c2', ob2⟩) [true] hA (by omega) (by kernel_rfl) (⟨⟨by omega, rfl⟩, hrk2⟩)
end Go.Proofs.Ytbahiemjaomdcaa

/- pool: two groups that come in together. -/
namespace Go.Proofs.Ytbahiemjaomdcaa
open Go.RowKit Go.Shelf

theorem grpF_all : ∀ (fs : List (List Int)) (co c : List Int), co.Nodup → grpF co fs = some c → ∀ x, x ∈ co → x ∉ c → ∃ F ∈ fs, x ∈ F
  | [], co, c, _, h, x, hx, hc => by rw [grpF] at h; cases h; exact absurd hx hc
  | F :: fs, co, c, hn, h, x, hx, hc => by
    rw [grpF] at h
    split at h
    · cases h
    · cases hr : remF co F with
      | none => rw [hr] at h; cases h
      | some c2 =>
        rw [hr, Option.bind_some] at h
        obtain ⟨k1, k2, k3⟩ := remF_sub F co c2 hn hr
        by_cases hxF : x ∈ F
        · exact ⟨F, List.mem_cons_self, hxF⟩
        · obtain ⟨G, hG, hxG⟩ := grpF_all fs c2 c k3 h x ((k2 x).2 ⟨hx, hxF⟩) hc
          exact ⟨G, List.mem_cons_of_mem _ hG, hxG⟩
theorem fin_cov {b : Bk} {fs : List (List Int)} (h : isFinF b fs = true) {x : Int} (hx : x ∈ racN b) : ∃ F ∈ fs, x ∈ F :=
  grpF_all fs _ _ (racN_nodup b) (of_decide_eq_true h) x hx (by simp)
theorem fin_of_parts {b : Bk} {fs : List (List Int)} (h1 : ∀ F ∈ fs, F ≠ [] ∧ F.Pairwise (fun x y => x < y) ∧ ∀ x ∈ F, x ∈ racN b) (h2 : fs.Pairwise fun F G => ∀ x ∈ F, x ∉ G) (h3 : ∀ x ∈ racN b, ∃ F ∈ fs, x ∈ F) : isFinF b fs = true :=
  decide_eq_true (grpF_ok _ _ (racN_nodup b) h1 h2 h3)
/-- The list without one place; the runners of two groups. -/
def outL (fs : List (List Int)) (q : Nat) : Nat → List (List Int)
  | 0 => []
  | n + 1 => outL fs q n ++ if n = q then [] else [fs[n]?.getD []]
def mrgL (F G : List Int) : Nat → List Int
  | 0 => []
  | n + 1 => mrgL F G n ++ if (n : Int) ∈ F ∨ (n : Int) ∈ G then [(n : Int)] else []
theorem mrgL_len (F G : List Int) : ∀ n, (mrgL F G n).length ≤ n
  | 0 => Nat.le_refl _
  | n + 1 => by
    have := mrgL_len F G n
    rw [mrgL, List.length_append]
    split <;> simp <;> omega
theorem mrgL_mem (F G : List Int) {x : Int} : ∀ {n : Nat}, x ∈ mrgL F G n ↔ (0 ≤ x ∧ x < (n : Int)) ∧ (x ∈ F ∨ x ∈ G)
  | 0 => by simp [mrgL]; omega
  | n + 1 => by
    rw [mrgL, List.mem_append, mrgL_mem F G (n := n)]
    by_cases h : (n : Int) ∈ F ∨ (n : Int) ∈ G
    · rw [if_pos h, List.mem_singleton]
      constructor
      · rintro (⟨h1, h2⟩ | rfl)
        · exact ⟨by omega, h2⟩
        · exact ⟨by omega, h⟩
      · rintro ⟨h1, h2⟩
        by_cases e : x = (n : Int)
        · exact .inr e
        · exact .inl ⟨by omega, h2⟩
    · rw [if_neg h]
      simp only [List.not_mem_nil, or_false]
      constructor
      · rintro ⟨h1, h2⟩; exact ⟨by omega, h2⟩
      · rintro ⟨h1, h2⟩
        refine ⟨?_, h2⟩
        by_cases e : x = (n : Int)
        · subst e; exact absurd h2 h
        · omega
theorem mrgL_pw (F G : List Int) : ∀ n, (mrgL F G n).Pairwise fun x y => x < y
  | 0 => List.Pairwise.nil
  | n + 1 => by
    rw [mrgL, List.pairwise_append]
    refine ⟨mrgL_pw F G n, by split <;> simp, fun x hx y hy => ?_⟩
    have h1 := ((mrgL_mem F G).1 hx).1
    split at hy
    · rw [List.mem_singleton.1 hy]; omega
    · cases hy
theorem outL_len (fs : List (List Int)) (q : Nat) : ∀ n, (outL fs q n).length = if q < n then n - 1 else n
  | 0 => rfl
  | n + 1 => by
    rw [outL, List.length_append, outL_len fs q n]
    by_cases h : n = q
    · subst h
      rw [if_pos rfl, if_neg (show ¬ n < n by omega), if_pos (show n < n + 1 by omega)]
      rfl
    · rw [if_neg h]
      by_cases h2 : q < n
      · rw [if_pos h2, if_pos (show q < n + 1 by omega)]; simp; omega
      · rw [if_neg h2, if_neg (show ¬ q < n + 1 by omega)]; rfl
theorem outL_get (fs : List (List Int)) (q : Nat) : ∀ (n j : Nat), j < (outL fs q n).length → (outL fs q n)[j]?.getD [] = fs[if j < q then j else j + 1]?.getD []
  | 0, j, h => by cases h
  | n + 1, j, h => by
    have hl := outL_len fs q n
    rw [outL] at h ⊢
    by_cases hj : j < (outL fs q n).length
    · rw [List.getElem?_append_left hj]
      exact outL_get fs q n j hj
    · rw [List.getElem?_append_right (by omega)]
      rw [List.length_append] at h
      by_cases hn : n = q
      · rw [if_pos hn] at h
        simp at h
        omega
      · rw [if_neg hn] at h ⊢
        have e : j = (outL fs q n).length := by simp at h; omega
        rw [← e, Nat.sub_self]
        show fs[n]?.getD [] = _
        by_cases h2 : q < n
        · rw [if_pos h2] at hl
          rw [if_neg (show ¬ j < q by omega), show j + 1 = n by omega]
        · rw [if_neg h2] at hl
          rw [if_pos (show j < q by omega), show j = n by omega]
/-- The finish in which two groups come in together. -/
def togF (b : Bk) (fs : List (List Int)) (k : Nat) : List (List Int) := (outL fs (k + 1) fs.length).set k (mrgL (fs[k]?.getD []) (fs[k + 1]?.getD []) b.runners.toNat)
theorem tog_len {b : Bk} {fs : List (List Int)} {k : Nat} (hk : k + 1 < fs.length) : (togF b fs k).length = fs.length - 1 := by
  unfold togF
  rw [List.length_set, outL_len, if_pos hk]
theorem tog_get {b : Bk} {fs : List (List Int)} {k j : Nat} (hk : k + 1 < fs.length) (hj : j + 1 < fs.length) : (togF b fs k)[j]?.getD [] = if j = k then mrgL (fs[k]?.getD []) (fs[k + 1]?.getD []) b.runners.toNat else fs[if j < k then j else j + 1]?.getD [] := by
  have hl : (outL fs (k + 1) fs.length).length = fs.length - 1 := by rw [outL_len, if_pos hk]
  unfold togF
  by_cases e : j = k
  · subst e
    rw [if_pos rfl, List.getElem?_set_self (by omega)]
    rfl
  · rw [if_neg e, List.getElem?_set_ne (fun h => e h.symm), outL_get _ _ _ _ (by omega)]
    by_cases h : j < k
    · rw [if_pos h, if_pos (by omega)]
    · rw [if_neg h, if_neg (by omega)]
theorem pw_get {fs : List (List Int)} (h : fs.Pairwise fun F G => ∀ x ∈ F, x ∉ G) {i j : Nat} (hj : j < fs.length) (hij : i < j) {x : Int} (hx : x ∈ fs[i]?.getD []) : x ∉ fs[j]?.getD [] := by
  have := List.pairwise_iff_getElem.1 h i j (by omega) hj hij
  rw [List.getElem?_eq_getElem (by omega)] at hx
  rw [List.getElem?_eq_getElem hj]
  exact this x hx
theorem get_mem' {fs : List (List Int)} {j : Nat} (hj : j < fs.length) : fs[j]?.getD [] ∈ fs := get_mem hj
theorem mrg_in {b : Bk} (_ : ValidB b) {fs : List (List Int)} (h : isFinF b fs = true) {k : Nat} (hk : k + 1 < fs.length) {x : Int} : x ∈ mrgL (fs[k]?.getD []) (fs[k + 1]?.getD []) b.runners.toNat ↔ x ∈ fs[k]?.getD [] ∨ x ∈ fs[k + 1]?.getD [] := by
  rw [mrgL_mem]
  refine ⟨fun h => h.2, fun hx => ⟨?_, hx⟩⟩
  have hm : x ∈ racN b := by
    rcases hx with hx | hx
    · exact ((fin_sub h).1 _ (get_mem' (by omega))).2.2 x hx
    · exact ((fin_sub h).1 _ (get_mem' hk)).2.2 x hx
  exact ((racL_mem b).1 hm).1
theorem tog_ok {b : Bk} (V : ValidB b) {fs : List (List Int)} (h : isFinF b fs = true) {k : Nat} (hk : k + 1 < fs.length) : isFinF b (togF b fs k) = true := by
  obtain ⟨p1, p2⟩ := fin_sub h
  have hl := tog_len (b := b) hk
  have grp : ∀ j, j < (togF b fs k).length → ∃ F, (togF b fs k)[j]?.getD [] = F ∧ F = (togF b fs k)[j]?.getD [] := fun j _ => ⟨_, rfl, rfl⟩
  have mem : ∀ j, j + 1 < fs.length → ∀ x, x ∈ (togF b fs k)[j]?.getD [] ↔ x ∈ fs[if j ≤ k then j else j + 1]?.getD [] ∨ (j = k ∧ x ∈ fs[k + 1]?.getD []) := by
    intro j hj x
    rw [tog_get hk hj]
    by_cases e : j = k
    · subst e
      rw [if_pos rfl, mrg_in V h hk, if_pos (Nat.le_refl _)]
      simp
    · rw [if_neg e]
      by_cases h2 : j < k
      · rw [if_pos h2, if_pos (Nat.le_of_lt h2)]; simp [e]
      · rw [if_neg h2, if_neg (by omega)]; simp [e]
  have one : ∀ F ∈ togF b fs k, ∃ j, j + 1 < fs.length ∧ F = (togF b fs k)[j]?.getD [] := by
    intro F hF
    obtain ⟨j, hj, rfl⟩ := List.mem_iff_getElem.1 hF
    exact ⟨j, by omega, by rw [List.getElem?_eq_getElem hj]; rfl⟩
  refine fin_of_parts (fun F hF => ?_) ?_ fun x hx => ?_
  · obtain ⟨j, hj, rfl⟩ := one F hF
    have hj2 : (if j ≤ k then j else j + 1) < fs.length := by split <;> omega
    obtain ⟨q1, q2, q3⟩ := p1 _ (get_mem' hj2)
    refine ⟨fun e => ?_, ?_, fun x hx => ?_⟩
    · obtain ⟨x, hx⟩ := List.exists_mem_of_length_pos (Nat.pos_of_ne_zero q1)
      have := (mem j hj x).2 (.inl hx)
      rw [e] at this
      cases this
    · rw [tog_get hk hj]
      split
      · exact mrgL_pw _ _ _
      · have hj3 : (if j < k then j else j + 1) < fs.length := by split <;> omega
        exact incF_pw (p1 _ (get_mem' hj3)).2.1
    · rcases (mem j hj x).1 hx with h9 | ⟨-, h9⟩
      · exact q3 x h9
      · exact (p1 _ (get_mem' hk)).2.2 x h9
  · rw [List.pairwise_iff_getElem]
    intro i j hi hj hij x hx hxj
    have hx' : x ∈ (togF b fs k)[i]?.getD [] := by rw [List.getElem?_eq_getElem hi]; exact hx
    have hxj' : x ∈ (togF b fs k)[j]?.getD [] := by rw [List.getElem?_eq_getElem hj]; exact hxj
    rw [hl] at hi hj
    rw [mem i (by omega)] at hx'
    rw [mem j (by omega)] at hxj'
    have key : ∀ u v, u < fs.length → v < fs.length → u ≠ v → x ∈ fs[u]?.getD [] → x ∈ fs[v]?.getD [] → False := by
      intro u v hu hv hne h1 h2
      rcases Nat.lt_or_gt_of_ne hne with h3 | h3
      · exact pw_get p2 hv h3 h1 h2
      · exact pw_get p2 hu h3 h2 h1
    rcases hx' with h1 | ⟨h1, h2⟩ <;> rcases hxj' with h3 | ⟨h3, h4⟩
    · refine key _ _ ?_ ?_ ?_ h1 h3 <;> (repeat' split) <;> omega
    · refine key _ _ ?_ ?_ ?_ h1 h4 <;> (repeat' split) <;> omega
    · refine key _ _ ?_ ?_ ?_ h2 h3 <;> (repeat' split) <;> omega
    · omega
  · obtain ⟨F, hF, hxF⟩ := fin_cov h hx
    obtain ⟨q, hq, rfl⟩ := List.mem_iff_getElem.1 hF
    have hxq : x ∈ fs[q]?.getD [] := by rw [List.getElem?_eq_getElem hq]; exact hxF
    have fnd : ∀ j, j + 1 < fs.length → x ∈ (togF b fs k)[j]?.getD [] → ∃ F ∈ togF b fs k, x ∈ F := fun j hj hm => ⟨_, get_mem' (by omega), hm⟩
    by_cases h1 : q ≤ k
    · exact fnd q (by omega) ((mem q (by omega) x).2 (.inl (by rw [if_pos h1]; exact hxq)))
    · by_cases h2 : q = k + 1
      · subst h2
        exact fnd k hk ((mem k hk x).2 (.inr ⟨rfl, hxq⟩))
      · refine fnd (q - 1) (by omega) ((mem (q - 1) (by omega) x).2 (.inl ?_))
        rw [if_neg (by omega), show q - 1 + 1 = q by omega]
        exact hxq
theorem win_mem {b : Bk} {fs : List (List Int)} (V : ValidB b) (h : isFinF b fs = true) {p : Int × Int} : p ∈ winF b fs ↔ ((0 ≤ p.1 ∧ p.1 < b.runners) ∧ -1 ≤ p.2 ∧ p.2 < b.runners) ∧ winB b fs p.1 p.2 = true := by
  have hv := V.run
  rw [← win_eq V h, allR_mem]
  constructor <;> rintro ⟨h1, h2⟩ <;> exact ⟨by omega, h2⟩
theorem tog_win {b : Bk} (V : ValidB b) {fs : List (List Int)} (h : isFinF b fs = true) {k : Nat} (hk : k + 1 < fs.length) {p : Int × Int} (hp : p ∈ winF b fs) : p ∈ winF b (togF b fs k) := by
  obtain ⟨p1, p2⟩ := fin_sub h
  have hg := tog_ok V h hk
  rw [win_mem V h] at hp
  rw [win_mem V hg]
  refine ⟨hp.1, ?_⟩
  have hw := hp.2
  -- the first group
  have f0 : ∀ x, x ∈ fs[0]?.getD [] → x ∈ (togF b fs k)[0]?.getD [] := by
    intro x hx
    rw [tog_get hk (by omega)]
    by_cases e : 0 = k
    · subst e; rw [if_pos rfl, mrg_in V h hk]; exact .inl hx
    · rw [if_neg e, if_pos (by omega)]; exact hx
  have l0 : ((togF b fs k)[0]?.getD []).length = 1 → (fs[0]?.getD []).length = 1 ∧ 0 < k ∧ (∀ x, x ∈ fs[1]?.getD [] → x ∈ (togF b fs k)[1]?.getD []) ∧ ∀ x, x ∈ (togF b fs k)[0]?.getD [] ↔ x ∈ fs[0]?.getD [] := by
    intro e
    have hk0 : 0 < k := by
      refine Nat.pos_of_ne_zero fun hk0 => ?_
      subst hk0
      rw [tog_get hk (by omega), if_pos rfl] at e
      obtain ⟨x, hx⟩ := List.exists_mem_of_length_pos (Nat.pos_of_ne_zero (p1 _ (get_mem' (j := 0) (by omega))).1)
      obtain ⟨y, hy⟩ := List.exists_mem_of_length_pos (Nat.pos_of_ne_zero (p1 _ (get_mem' hk)).1)
      have hxy := one_mem e ((mrg_in V h hk).2 (.inl hx)) ((mrg_in V h hk).2 (.inr hy))
      subst hxy
      exact pw_get p2 hk (by omega) hx hy
    have e0 : (togF b fs k)[0]?.getD [] = fs[0]?.getD [] := by rw [tog_get hk (by omega), if_neg (by omega), if_pos hk0]
    refine ⟨by rw [← e0]; exact e, hk0, fun x hx => ?_, fun x => by rw [e0]⟩
    rw [tog_get hk (by omega)]
    by_cases e1 : 1 = k
    · subst e1; rw [if_pos rfl, mrg_in V h hk]; exact .inl hx
    · rw [if_neg e1, if_pos (by omega)]; exact hx
  have l1 : ((togF b fs k)[0]?.getD []).length ≠ 1 → (fs[0]?.getD []).length = 1 → ∀ x, x ∈ fs[1]?.getD [] → x ∈ (togF b fs k)[0]?.getD [] := by
    intro e e1 x hx
    rw [tog_get hk (by omega)] at e ⊢
    by_cases e2 : 0 = k
    · subst e2; rw [if_pos rfl, mrg_in V h hk]; exact .inr hx
    · rw [if_neg e2, if_pos (by omega)] at e
      exact absurd e1 e
  have dis : (fs[0]?.getD []).length = 1 → ∀ x, x ∈ fs[0]?.getD [] → x ∉ fs[1]?.getD [] := fun _ x hx => pw_get p2 (by omega) (by omega) hx
  revert hw
  unfold winB
  by_cases hl : ((togF b fs k)[0]?.getD []).length = 1
  · obtain ⟨a1, a2, a3, a4⟩ := l0 hl
    rw [if_pos a1, if_pos a1, if_pos hl, if_pos hl]
    simp only [a1, hl]
    split
    · simp only [Bool.and_eq_true, decide_eq_true_eq]; exact fun ⟨h1, h2⟩ => ⟨h1, f0 _ h2⟩
    · split
      · simp only [Bool.and_eq_true, Bool.or_eq_true, decide_eq_true_eq]; exact fun ⟨h1, h2⟩ => ⟨h1, h2.elim (fun h => .inl (f0 _ h)) fun h => .inr ⟨trivial, a3 _ h.2⟩⟩
      · split
        · simp only [Bool.and_eq_true, decide_eq_true_eq]; exact fun ⟨h1, h2⟩ => ⟨⟨h1.1, f0 _ h1.2⟩, a3 _ h2⟩
        · simp only [Bool.and_eq_true, Bool.or_eq_true, decide_eq_true_eq]; exact fun ⟨h1, h2⟩ => ⟨h1, h2.elim (fun h => .inl ⟨f0 _ h.1, a3 _ h.2⟩) fun h => .inr ⟨f0 _ h.1, a3 _ h.2⟩⟩
  · rw [if_neg hl, if_neg hl]
    by_cases a1 : (fs[0]?.getD []).length = 1
    · have b1 := l1 hl a1
      rw [if_pos a1, if_pos a1]
      split
      · simp only [Bool.and_eq_true, decide_eq_true_eq]; exact fun ⟨h1, h2⟩ => ⟨h1, f0 _ h2⟩
      · split
        · simp only [Bool.and_eq_true, Bool.or_eq_true, decide_eq_true_eq]; exact fun ⟨h1, h2⟩ => ⟨h1, h2.elim (fun h => .inl (f0 _ h)) fun h => .inl (b1 _ h.2)⟩
        · split
          · simp only [Bool.and_eq_true, decide_eq_true_eq]; exact fun ⟨h1, h2⟩ => ⟨⟨h1.1, f0 _ h1.2⟩, b1 _ h2⟩
          · simp only [Bool.and_eq_true, Bool.or_eq_true, decide_eq_true_eq]; exact fun ⟨h1, h2⟩ => ⟨h1, h2.elim (fun h => ⟨f0 _ h.1, b1 _ h.2⟩) fun h => ⟨b1 _ h.2, f0 _ h.1⟩⟩
    · rw [if_neg a1, if_neg a1]
      split
      · simp only [Bool.and_eq_true, decide_eq_true_eq]; exact fun ⟨h1, h2⟩ => ⟨h1, f0 _ h2⟩
      · split
        · simp only [Bool.and_eq_true, Bool.or_eq_true, decide_eq_true_eq]; exact fun ⟨h1, h2⟩ => ⟨h1, h2.elim (fun h => .inl (f0 _ h)) fun h => absurd h.1 a1⟩
        · split
          · simp only [Bool.and_eq_true, decide_eq_true_eq]; exact fun ⟨h1, h2⟩ => ⟨⟨h1.1, f0 _ h1.2⟩, f0 _ h2⟩
          · simp only [Bool.and_eq_true, decide_eq_true_eq]; exact fun ⟨h1, h2⟩ => ⟨h1, f0 _ h2.1, f0 _ h2.2⟩
theorem tog_bkd {b : Bk} (V : ValidB b) {fs : List (List Int)} (h : isFinF b fs = true) {k : Nat} (hk : k + 1 < fs.length) : (∀ s ∈ bkd (tilF b) fs, s ∈ bkd (tilF b) (togF b fs k)) ∧ (bkd (tilF b) fs).length ≤ (bkd (tilF b) (togF b fs k)).length := by
  have h1 : ∀ s ∈ bkd (tilF b) fs, s ∈ bkd (tilF b) (togF b fs k) := fun s hs => bkd_mem.2 ⟨tog_win V h hk (bkd_mem.1 hs).1, (bkd_mem.1 hs).2⟩
  exact ⟨h1, List.Nodup.length_le_of_subset (List.Pairwise.filter _ (win_nodup V h).2) h1⟩
theorem share_few {x : Int} {L M : Nat} (hx : 0 ≤ x) (hL : 0 < L) (h : L ≤ M) : x.tdiv (M : Int) ≤ x.tdiv (L : Int) := by
  rw [Int.tdiv_eq_ediv_of_nonneg hx, Int.tdiv_eq_ediv_of_nonneg hx]
  refine (Int.le_ediv_iff_mul_le (by omega)).2 ?_
  have h1 := Int.ediv_mul_le x (show (M : Int) ≠ 0 by omega)
  have h2 : 0 ≤ x / (M : Int) := Int.ediv_nonneg hx (by omega)
  have h3 : x / (M : Int) * (L : Int) ≤ x / (M : Int) * (M : Int) := Int.mul_le_mul_of_nonneg_left (by omega) h2
  omega
theorem tog_dv {b : Bk} (V : ValidB b) {fs : List (List Int)} (h : isFinF b fs = true) {k : Nat} (hk : k + 1 < fs.length) {s : Int × Int} (hs : s ∈ bkd (tilF b) fs) : dvF (tilF b) (togF b fs k) s ≤ dvF (tilF b) fs s := by
  obtain ⟨h1, h2⟩ := tog_bkd V h hk
  rw [dvF_in hs, dvF_in (h1 s hs)]
  have hst := V.stp
  exact div_up (sh_nonneg V _) (share_few (net_facts V).1.2.2 (List.length_pos_of_mem hs) h2) (up_pos V hs) (by omega)
end Go.Proofs.Ytbahiemjaomdcaa

/- law of pool: pence. -/
namespace Go.Proofs.Ytbahiemjaomdcaa
open Go.RowKit Go.Shelf

set_option maxRecDepth 20000 in
theorem pence_any (w : World) (B : Nat) (A : Option Addr) (n c : Nat) (xs : List ((Int × Int) × Int)) (x y : Int) (hx : PartsAt w B A n 3 (encD xs)) (hB : B ≤ w.heap.size) : Calls Try.prog 36 #[.slice A n c, .int .i64 x, .int .i64 y] w fun e w' => e = .returned (.int .i64 (pnF xs (x, y))) ∧ Below w.heap.size w w' := by
  have hxl : xs.length = n := by have h9 := hx.1; rw [encD_len] at h9; omega
  refine enter 35 Try.func36 (by kernel_rfl) fun hA => ?_
  refine runS hA 12 [] xn on (by kernel_rfl) fun w1 hA => ?_
  refine loop (γ := Nat) (fun i => [(0, .slice A n c), (1, .int .i64 x), (2, .int .i64 y), (7, .int .i64 (i : Int))]) (fun i => []) (fun _ => []) (fun g i wr => i ≤ n ∧ g = n - i ∧ ∀ j, j < i → (xs[j]?.getD ((0, 0), 0)).1 ≠ (x, y)) n 0 [] hA (by kernel_rfl) (⟨Nat.zero_le _, rfl, fun j hj => absurd hj (Nat.not_lt_zero _)⟩) ?_
  rintro _ i wr ⟨hi, rfl, hs⟩ J hJ hA
  by_cases hlt : i < n
  case neg =>
    refine runS hA 12 [.b false] xn (oc (dec_f (show ¬ (((i : Int) : Int) < (n : Int)) by omega)) on) (by kernel_rfl) fun w2 hA => ?_
    refine leave hA (by kernel_rfl) fun hA => ?_
    refine runS hA 8 [] xn on (by kernel_rfl) fun w3 hA => ?_
    exact ret (v := .int .i64 0) hA [] (by kernel_rfl) ⟨by rw [pnF_no (s := (x, y)) fun j hj => hs j (by omega)], hA.below⟩
  case pos =>
    obtain ⟨b1, o1, rfl, hb1, hcb1⟩ := hx.2.2 (by omega)
    obtain ⟨ge0, ge1, ge2⟩ := encD_get xs i (by omega)
    have e0 : b1 < w.heap.size ∧ w.cell? ⟨b1, o1 + i * 3, none⟩ = some (.int .i64 (xs[i]?.getD ((0, 0), 0)).1.1) := ⟨by omega, by have := hcb1 _ _ ge0; exact this⟩
    have e1 : b1 < w.heap.size ∧ w.cell? ⟨b1, o1 + i * 3 + 1, none⟩ = some (.int .i64 (xs[i]?.getD ((0, 0), 0)).1.2) := ⟨by omega, by have := hcb1 _ _ ge1; exact this⟩
    have e2 : b1 < w.heap.size ∧ w.cell? ⟨b1, o1 + i * 3 + 2, none⟩ = some (.int .i64 (xs[i]?.getD ((0, 0), 0)).2) := ⟨by omega, by have := hcb1 _ _ ge2; exact this⟩
    by_cases h1 : (xs[i]?.getD ((0, 0), 0)).1.1 = x
    case neg =>
      refine runS hA 43 ([.b true, .i, .x (.int .i64 ((xs[i]?.getD ((0, 0), 0)).1.1))] ++ List.replicate 7 (.g false)) (xc (a := ⟨b1, o1 + i * 3, none⟩) e0 xn) (oc (dec_t (show (((i : Int) : Int) < (n : Int)) by omega)) (oc (show (0 : Int) ≤ ((i : Int) : Int) ∧ ((i : Int) : Int) < (n : Int) by omega) (oc (eq_f h1) (oc (rfl : Value.bool false = .bool false) (oc (rfl : Value.bool false = .bool false) (oc (rfl : Value.bool false = .bool false) (oc (rfl : Value.bool false = .bool false) (oc (rfl : Value.bool false = .bool false) (oc (rfl : Value.bool false = .bool false) on))))))))) (by kernel_rfl) fun w2 hA => ?_
      refine revals hA (rc 7 (wr64 (x := (i : Int) + 1) (y := ((i + 1 : Nat) : Int)) (by have := hx.2.1; omega) (by omega)) rn) (by kernel_rfl) fun hA => ?_
      exact again hJ (n - (i + 1)) (i + 1) [] hA (by omega) (by kernel_rfl) (⟨by omega, rfl, fun j hj => by by_cases hji : j = i; rw [hji]; exact fun e => h1 (congrArg Prod.fst e); exact hs j (by omega)⟩)
    case pos =>
      by_cases h2 : (xs[i]?.getD ((0, 0), 0)).1.2 = y
      case neg =>
        refine runS hA 43 [.b true, .i, .x (.int .i64 ((xs[i]?.getD ((0, 0), 0)).1.1)), .g true, .g true, .g true, .i, .g true, .g true, .x (.int .i64 ((xs[i]?.getD ((0, 0), 0)).1.2)), .g true, .g true, .b false] (xc (a := ⟨b1, o1 + i * 3, none⟩) e0 (xc (a := ⟨b1, o1 + i * 3 + 1, none⟩) e1 xn)) (oc (dec_t (show (((i : Int) : Int) < (n : Int)) by omega)) (oc (show (0 : Int) ≤ ((i : Int) : Int) ∧ ((i : Int) : Int) < (n : Int) by omega) (oc (eq_t h1) (oc (rfl : Value.bool true = .bool true) (oc (rfl : Value.bool true = .bool true) (oc (show (0 : Int) ≤ ((i : Int) : Int) ∧ ((i : Int) : Int) < (n : Int) by omega) (oc (rfl : Value.bool true = .bool true) (oc (rfl : Value.bool true = .bool true) (oc (rfl : Value.bool true = .bool true) (oc (rfl : Value.bool true = .bool true) (oc (eq_f h2) on))))))))))) (by kernel_rfl) fun w2 hA => ?_
        refine revals hA (rc 7 (wr64 (x := (i : Int) + 1) (y := ((i + 1 : Nat) : Int)) (by have := hx.2.1; omega) (by omega)) rn) (by kernel_rfl) fun hA => ?_
        exact again hJ (n - (i + 1)) (i + 1) [] hA (by omega) (by kernel_rfl) (⟨by omega, rfl, fun j hj => by by_cases hji : j = i; rw [hji]; exact fun e => h2 (congrArg Prod.snd e); exact hs j (by omega)⟩)
      case pos =>
        refine runS hA 48 [.b true, .i, .x (.int .i64 ((xs[i]?.getD ((0, 0), 0)).1.1)), .g true, .g true, .g true, .i, .g true, .g true, .x (.int .i64 ((xs[i]?.getD ((0, 0), 0)).1.2)), .g true, .g true, .b true, .i, .x (.int .i64 ((xs[i]?.getD ((0, 0), 0)).2))] (xc (a := ⟨b1, o1 + i * 3, none⟩) e0 (xc (a := ⟨b1, o1 + i * 3 + 1, none⟩) e1 (xc (a := ⟨b1, o1 + i * 3 + 2, none⟩) e2 xn))) (oc (dec_t (show (((i : Int) : Int) < (n : Int)) by omega)) (oc (show (0 : Int) ≤ ((i : Int) : Int) ∧ ((i : Int) : Int) < (n : Int) by omega) (oc (eq_t h1) (oc (rfl : Value.bool true = .bool true) (oc (rfl : Value.bool true = .bool true) (oc (show (0 : Int) ≤ ((i : Int) : Int) ∧ ((i : Int) : Int) < (n : Int) by omega) (oc (rfl : Value.bool true = .bool true) (oc (rfl : Value.bool true = .bool true) (oc (rfl : Value.bool true = .bool true) (oc (rfl : Value.bool true = .bool true) (oc (eq_t h2) (oc (show (0 : Int) ≤ ((i : Int) : Int) ∧ ((i : Int) : Int) < (n : Int) by omega) on)))))))))))) (by kernel_rfl) fun w2 hA => ?_
        refine leave hA (by kernel_rfl) fun hA => ?_
        refine runS hA 2 [] xn on (by kernel_rfl) fun w3 hA => ?_
        exact ret (v := .int .i64 ((xs[i]?.getD ((0, 0), 0)).2)) hA [] (by kernel_rfl) ⟨by rw [pnF_at (s := (x, y)) (i := i) (by omega) hs (Prod.ext h1 h2)], hA.below⟩
end Go.Proofs.Ytbahiemjaomdcaa

/- Symbolic runs: appends anywhere in a region that draws. -/
namespace Go.Proofs.Ytbahiemjaomdcaa
open Go.RowKit Go.Shelf

theorem appGD {c : Ctx} {S : Sta} {w : World} {ob rest : List KB} {t e ty : TypeId} {z v : Value} {size bytes n m cp : Nat} {a : Addr} {vs : List Value} (news : List Value) (hA : AtS c S w (ob ++ rest)) (hr : RowV e size v n vs ob)
    (h : (holdL S S.env.known, appOf c.P c.N S, semOf c.P c.N S [], infoOf c.P t) = (holdR S, some (t, v, .slice (some a) m cp, ty), some (appSem t ty v (.slice (some a) m cp), []), some (e, z, size, bytes)))
    (hl : news.length = m * size) (hnews : ∀ j u, news[j]? = some u → w.cell? (a.add j) = some u) (h1 : (news.all fun u => oneCell u) = true) (hmax : n + m ≤ 1000000000) (hb : bytes ≤ 140000)
    (k : ∀ v' w' ob', RowV e size v' (n + m) (vs ++ news) ob' → (v' = .slice none 0 0 ↔ v = .slice none 0 0 ∧ m = 0) → (v'.ownBlock = v.ownBlock ∨ v'.ownBlock = some w.heap.size) → w.heap.size ≤ w'.heap.size → AtS c (knS (valS c.N S v' w'.heap.size) S.env.known) w' (ob' ++ rest) → Run c (knS (valS c.N S v' w'.heap.size) S.env.known) w') : Run c S w := by
  simp only [Prod.mk.injEq] at h
  obtain ⟨h0, -, hsem, hinf⟩ := h
  obtain ⟨i, ht, hi, hz, hsize, hby, hzs, hsz⟩ := infoOf_spec hinf
  obtain ⟨v', w', hrun, hown, hg, hnil, hat⟩ := run_append_own_at (P := c.P) w c.w0.heap.size t ty e i z size bytes ht hi hz hsize hby hzs hsz v n vs (hr.own hA.at_) a m cp news hl hnews (ones_of h1) (by simp only [maxLen]; omega) (by
      have : (n + m) * bytes ≤ 1000000000 * 140000 := Nat.mul_le_mul hmax hb
      omega) hA.below.size
  obtain ⟨ob', hr', hA'⟩ := At.row hA.at_ hr hown hg (by rcases hat with h | h; exact .inl h; exact .inr fun g e => by rw [h] at e; cases e; exact Nat.le_refl _)
  refine opwD [] on (s := appSem t ty v (.slice (some a) m cp)) (by rw [h0, hsem]) (nx := .value v') ?_ (.inl rfl) hA' (Nat.le_trans hA.lo hg.size) (k v' w' ob' hr' hnil hat hg.size)
  unfold appSem
  rw [Sem.run_bind', hrun]
  rfl
theorem appND {c : Ctx} {S : Sta} {w : World} {rows : List KB} {t e ty : TypeId} {z : Value} {size bytes n cap m cp : Nat} {A A' : Option Addr} (olds news : List Value) (hA : AtS c S w rows)
    (h : (holdL S S.env.known, appOf c.P c.N S, semOf c.P c.N S [], infoOf c.P t) = (holdR S, some (t, .slice A n cap, .slice A' m cp, ty), some (appSem t ty (.slice A n cap) (.slice A' m cp), []), some (e, z, size, bytes)))
    (hlo : olds.length = n * size) (holds : ReadsAt w A olds) (hc : A = none → cap = 0) (hnc : n ≤ cap) (hl : news.length = m * size) (hnews : ReadsAt w A' news) (h1 : (news.all fun u => oneCell u) = true) (hg : cap < n + m) (hmax : n + m ≤ 1000000000) (hb : bytes ≤ 140000)
    (k : ∀ v' w' ob', RowV e size v' (n + m) (olds ++ news) ob' → (∀ g, v'.ownBlock = some g → w.heap.size ≤ g) → Below w.heap.size w w' → AtS c (knS (valS c.N S v' w'.heap.size) S.env.known) w' (ob' ++ rows) → Run c (knS (valS c.N S v' w'.heap.size) S.env.known) w') : Run c S w := by
  simp only [Prod.mk.injEq] at h
  obtain ⟨h0, -, hsem, hinf⟩ := h
  obtain ⟨i, ht, hi, hz, hsize, hby, hzs, hsz⟩ := infoOf_spec hinf
  obtain ⟨v', w', hrun, hown, hgr⟩ := run_append_new (P := c.P) w t ty e i z size bytes ht hi hz hsize hby hzs hsz A n cap olds hlo holds hc hnc A' m cp news hl hnews (ones_of h1) hg (by simp only [maxLen]; omega) (by
      have : (n + m) * bytes ≤ 1000000000 * 140000 := Nat.mul_le_mul hmax hb
      omega)
  have hge : ∀ g, v'.ownBlock = some g → w.heap.size ≤ g := fun g e => by
    rcases hown.2 with ⟨h1, -⟩ | ⟨g', cap', cur, h1, h2, -⟩
    · rw [h1] at e; cases e
    · rw [h1] at e
      have : g' = g := by simpa [Value.ownBlock] using e
      omega
  have hown' : w'.ownsRow c.w0.heap.size e size v' (n + m) (olds ++ news) := by
    refine ⟨hown.1, ?_⟩
    rcases hown.2 with h1 | ⟨g', cap', cur, h1, h2, h3⟩
    · exact .inl h1
    · exact .inr ⟨g', cap', cur, h1, Nat.le_trans hA.below.size h2, h3⟩
  obtain ⟨ob', hr', hA'⟩ := At.row (ob := []) hA.at_ (RowV.nil e size) hown' hgr (.inr hge)
  refine opwD [] on (s := appSem t ty (.slice A n cap) (.slice A' m cp)) (by rw [h0, hsem]) (nx := .value v') ?_ (.inl rfl) hA' (Nat.le_trans hA.lo hgr.size) (k v' w' ob' hr' hge ((Below.refl _ _).grown hgr (Nat.le_refl _) (fun _ e => by cases e)))
  unfold appSem
  rw [Sem.run_bind', hrun]
  rfl
theorem appED {c : Ctx} {S : Sta} {w : World} {ob rest : List KB} {t e ty : TypeId} {z v : Value} {size bytes n m cp : Nat} {A : Option Addr} {vs : List Value} (news : List Value) (hA : AtS c S w (ob ++ rest)) (hr : RowV e size v n vs ob)
    (h : (holdL S S.env.known, appOf c.P c.N S, semOf c.P c.N S [], infoOf c.P t) = (holdR S, some (t, v, .slice A m cp, ty), some (appSem t ty v (.slice A m cp), []), some (e, z, size, bytes)))
    (hl : news.length = m * size) (hnews : ReadsAt w A news) (h1 : (news.all fun u => oneCell u) = true) (hmax : n + m ≤ 1000000000) (hb : bytes ≤ 140000)
    (k : ∀ v' w' ob', RowV e size v' (n + m) (vs ++ news) ob' → (v' = .slice none 0 0 ↔ v = .slice none 0 0 ∧ m = 0) → (v'.ownBlock = v.ownBlock ∨ v'.ownBlock = some w.heap.size) → w.heap.size ≤ w'.heap.size → AtS c (knS (valS c.N S v' w'.heap.size) S.env.known) w' (ob' ++ rest) → Run c (knS (valS c.N S v' w'.heap.size) S.env.known) w') : Run c S w := by
  by_cases hm : m = 0
  · subst hm
    have hn0 : news = [] := by simpa using hl
    subst hn0
    simp only [Prod.mk.injEq] at h
    obtain ⟨h0, -, hsem, hinf⟩ := h
    obtain ⟨i, ht, hi, hz, hsize, hby, hzs, hsz⟩ := infoOf_spec hinf
    have hrun : (appSem t ty v (.slice A 0 cp)).run c.P w = .ok (.value v) w := by
      unfold appSem
      rw [Sem.run_bind']
      rcases hr.2 with ⟨rfl, rfl, -⟩ | ⟨g, cap, cur, rfl, -, hc, -⟩
      · rw [run_append_empty w t ty e i ht hi none A 0 0 cp (Nat.le_refl _)]; rfl
      · rw [run_append_empty w t ty e i ht hi _ A n cap cp hc]; rfl
    exact opwD [] on (s := appSem t ty v (.slice A 0 cp)) (by rw [h0, hsem]) (nx := .value v) hrun (.inl rfl) hA.at_.resize hA.lo (k v w ob (by rw [List.append_nil]; exact hr) ⟨fun h => ⟨h, rfl⟩, fun h => h.1⟩ (.inl rfl) (Nat.le_refl _))
  · have hnn : news ≠ [] := fun h' => by
      obtain ⟨i, ht, hi, hz, hsize, hby, hzs, hsz⟩ := infoOf_spec (Prod.mk.inj (Prod.mk.inj (Prod.mk.inj h).2).2).2
      rw [h'] at hl
      have := Nat.mul_pos (Nat.pos_of_ne_zero hm) hsz
      simp at hl
      omega
    obtain ⟨a, rfl, hs⟩ := hnews hnn
    exact appGD news hA hr h hl hs h1 hmax hb k
/-- The same; the new row is told as a slice. -/
theorem appEDS {c : Ctx} {S : Sta} {w : World} {ob rest : List KB} {t e ty : TypeId} {z v : Value} {size bytes n m cp : Nat} {A : Option Addr} {vs : List Value} (news : List Value) (hA : AtS c S w (ob ++ rest)) (hr : RowV e size v n vs ob)
    (h : (holdL S S.env.known, appOf c.P c.N S, semOf c.P c.N S [], infoOf c.P t) = (holdR S, some (t, v, .slice A m cp, ty), some (appSem t ty v (.slice A m cp), []), some (e, z, size, bytes)))
    (hl : news.length = m * size) (hnews : ReadsAt w A news) (h1 : (news.all fun u => oneCell u) = true) (hmax : n + m ≤ 1000000000) (hb : bytes ≤ 140000)
    (h0 : 0 < n + m)
    (k : ∀ g' c' w' ob', RowV e size (.slice (some ⟨g', 0, none⟩) (n + m) c') (n + m) (vs ++ news) ob' → AtS c (knS (valS c.N S (.slice (some ⟨g', 0, none⟩) (n + m) c') w'.heap.size) S.env.known) w' (ob' ++ rest) → Run c (knS (valS c.N S (.slice (some ⟨g', 0, none⟩) (n + m) c') w'.heap.size) S.env.known) w') : Run c S w := by
  refine appED news hA hr h hl hnews h1 hmax hb fun v' w' ob' hr2 _ _ _ hA2 => ?_
  rcases hr2.2 with ⟨-, h9, -⟩ | ⟨g2, c2, u2, e2, -⟩
  · omega
  · subst e2
    exact k _ _ w' ob' hr2 hA2
theorem appES {c : Ctx} {S : Sta} {w : World} {ob rest : List KB} {t e ty : TypeId} {z v : Value} {size bytes n m cp : Nat} {A : Option Addr} {vs : List Value} (news : List Value) (hA : AtS c S w (ob ++ rest)) (hr : RowV e size v n vs ob)
    (h : (noDraw S, appOf c.P c.N S, semOf c.P c.N S [], infoOf c.P t) = (true, some (t, v, .slice A m cp, ty), some (appSem t ty v (.slice A m cp), []), some (e, z, size, bytes)))
    (hl : news.length = m * size) (hnews : ReadsAt w A news) (h1 : (news.all fun u => oneCell u) = true) (hmax : n + m ≤ 1000000000) (hb : bytes ≤ 140000)
    (h0 : 0 < n + m)
    (k : ∀ g' c' w' ob', RowV e size (.slice (some ⟨g', 0, none⟩) (n + m) c') (n + m) (vs ++ news) ob' → AtS c (knS (valS c.N S (.slice (some ⟨g', 0, none⟩) (n + m) c') w'.heap.size) S.env.known) w' (ob' ++ rest) → Run c (knS (valS c.N S (.slice (some ⟨g', 0, none⟩) (n + m) c') w'.heap.size) S.env.known) w') : Run c S w := by
  refine appE news hA hr h hl hnews h1 hmax hb fun v' w' ob' hr2 _ _ _ hA2 => ?_
  rcases hr2.2 with ⟨-, h9, -⟩ | ⟨g2, c2, u2, e2, -⟩
  · omega
  · subst e2
    exact k _ _ w' ob' hr2 hA2
theorem appNDS {c : Ctx} {S : Sta} {w : World} {rows : List KB} {t e ty : TypeId} {z : Value} {size bytes n cap m cp : Nat} {A A' : Option Addr} (olds news : List Value) (hA : AtS c S w rows)
    (h : (holdL S S.env.known, appOf c.P c.N S, semOf c.P c.N S [], infoOf c.P t) = (holdR S, some (t, .slice A n cap, .slice A' m cp, ty), some (appSem t ty (.slice A n cap) (.slice A' m cp), []), some (e, z, size, bytes)))
    (hlo : olds.length = n * size) (holds : ReadsAt w A olds) (hc : A = none → cap = 0) (hnc : n ≤ cap) (hl : news.length = m * size) (hnews : ReadsAt w A' news) (h1 : (news.all fun u => oneCell u) = true) (hg : cap < n + m) (hmax : n + m ≤ 1000000000) (hb : bytes ≤ 140000)
    (h0 : 0 < n + m)
    (k : ∀ g' c' w' ob', RowV e size (.slice (some ⟨g', 0, none⟩) (n + m) c') (n + m) (olds ++ news) ob' → AtS c (knS (valS c.N S (.slice (some ⟨g', 0, none⟩) (n + m) c') w'.heap.size) S.env.known) w' (ob' ++ rows) → Run c (knS (valS c.N S (.slice (some ⟨g', 0, none⟩) (n + m) c') w'.heap.size) S.env.known) w') : Run c S w := by
  refine appND olds news hA h hlo holds hc hnc hl hnews h1 hg hmax hb fun v' w' ob' hr2 _ _ hA2 => ?_
  rcases hr2.2 with ⟨-, h9, -⟩ | ⟨g2, c2, u2, e2, -⟩
  · omega
  · subst e2
    exact k _ _ w' ob' hr2 hA2
end Go.Proofs.Ytbahiemjaomdcaa

/- law of pool: finishes whose groups are those of another one; winners, told as a slice. -/
namespace Go.Proofs.Ytbahiemjaomdcaa
open Go.RowKit Go.Shelf

/-- The groups of a finish, as values. -/
def ValsAt (W : World) (B : Nat) (fs : List (List Int)) (vs : List Value) : Prop := vs.length = fs.length ∧ ∀ j, j < fs.length → ∃ A c, vs[j]? = some (.slice A (fs[j]?.getD []).length c) ∧ (fs[j]?.getD []).length ≤ c ∧ IntsAt W B A (fs[j]?.getD []).length (fs[j]?.getD [])
theorem ValsAt.below {W w : World} {fs : List (List Int)} {vs : List Value} (h : ValsAt W W.heap.size fs vs) (hb : Below W.heap.size W w) : ValsAt w w.heap.size fs vs :=
  ⟨h.1, fun j hj => by obtain ⟨A, c, h1, h2, h3⟩ := h.2 j hj; exact ⟨A, c, h1, h2, (h3.below hb (Nat.le_refl _)).more hb.size⟩⟩
theorem ValsAt.ones {W : World} {B : Nat} {fs : List (List Int)} {vs : List Value} (h : ValsAt W B fs vs) : (vs.all fun u => oneCell u) = true := by
  rw [List.all_eq_true]
  intro v hv
  obtain ⟨j, hj, rfl⟩ := List.mem_iff_getElem.1 hv
  obtain ⟨A, c, h1, -, -⟩ := h.2 j (by have := h.1; omega)
  rw [List.getElem?_eq_getElem hj] at h1
  rw [Option.some.inj h1]
  rfl
theorem reads_below {W w : World} {A : Option Addr} {vs : List Value} (h : ReadsAt W A vs) (hb : Below W.heap.size W w) : ReadsAt w A vs := fun hne => by
  obtain ⟨a, e, hc⟩ := h hne
  exact ⟨a, e, fun j u hu => (hb.cell (cell_lt (hc j u hu)).1).trans (hc j u hu)⟩
theorem fin_vals {w : World} {B : Nat} {A : Option Addr} {n : Nat} {fs : List (List Int)} (h : FinAt w B A n fs) : ∃ vs, vs.length = n ∧ ReadsAt w A vs ∧ ValsAt w B fs vs := by
  have hl := h.1
  rcases Nat.eq_zero_or_pos n with h0 | h0
  · refine ⟨[], by rw [h0]; rfl, ReadsAt.nil _ _, by rw [hl, h0]; rfl, fun j hj => absurd hj (by omega)⟩
  · obtain ⟨b, off, rfl, -, hc⟩ := h.2.2 h0
    have each : ∀ j, j < n → ∃ v : Value, ∃ A c, v = .slice A (fs[j]?.getD []).length c ∧ (fs[j]?.getD []).length ≤ c ∧ IntsAt w B A (fs[j]?.getD []).length (fs[j]?.getD []) ∧ w.cell? ⟨b, off + j, none⟩ = some v := fun j hj => by
      obtain ⟨A, c, h1, h2, h3⟩ := hc j hj
      exact ⟨_, A, c, rfl, h2, h3, by simpa using h1⟩
    obtain ⟨fx, hfx⟩ := Go.Deep.choose_lt each
    have get : ∀ j, j < n → ((List.range n).map fx)[j]? = some (fx j) := fun j hj => by rw [List.getElem?_map, List.getElem?_range hj]; rfl
    refine ⟨(List.range n).map fx, by simp, fun _ => ⟨_, rfl, fun j u hu => ?_⟩, by simp [hl], fun j hj => ?_⟩
    · have hj : j < n := by have := (List.getElem?_eq_some_iff.1 hu).1; simpa using this
      rw [get j hj] at hu
      cases hu
      obtain ⟨A, c, h1, h2, h3, h4⟩ := hfx j hj
      rw [add_place]
      exact h4
    · obtain ⟨A, c, h1, h2, h3, h4⟩ := hfx j (by omega)
      exact ⟨A, c, by rw [get j (by omega), h1], h2, h3⟩
theorem fin_row {w : World} {g n c : Nat} {vs : List Value} {ob : List KB} {fs : List (List Int)} (hr : RowV 23 1 (.slice (some ⟨g, 0, none⟩) n c) n vs ob) (hk : ∀ kb ∈ ob, w.heap[kb.id]? = some kb.obj) (hv : ValsAt w w.heap.size fs vs) (hn : n ≤ 1000) : FinAt w w.heap.size (some ⟨g, 0, none⟩) n fs := by
  have hl := hr.1
  rw [Nat.mul_one] at hl
  have hl2 := hv.1
  rcases hr.2 with ⟨e1, -, -⟩ | ⟨g', cap, cur, e1, e2, h3, h4, h5, h6⟩
  · cases e1
  · cases e1
    subst e2
    have hb := hk _ List.mem_cons_self
    have hb : w.heap[g]? = some (.cells cur 23 (0, 0)) := hb
    refine ⟨by omega, by omega, fun _ => ⟨g, 0, rfl, (Array.getElem?_eq_some_iff.1 hb).1, fun j hj => ?_⟩⟩
    obtain ⟨A, c, h7, h8, h9⟩ := hv.2 j (by omega)
    refine ⟨A, c, cell_of_obj (T := 23) (fz := (0, 0)) hb rfl ?_, h8, h9⟩
    show cur[0 + j]? = _
    rw [Nat.zero_add, ← h7, ← h6, Nat.mul_one, List.getElem?_take_of_lt hj, Array.getElem?_toList]
theorem ValsAt.snoc {w : World} {fs : List (List Int)} {vs : List Value} {A : Option Addr} {c : Nat} {F : List Int} (h : ValsAt w w.heap.size fs vs) (hc : F.length ≤ c) (hx : IntsAt w w.heap.size A F.length F) : ValsAt w w.heap.size (fs ++ [F]) (vs ++ [.slice A F.length c]) := by
  have hl := h.1
  refine ⟨by simp [hl], fun j hj => ?_⟩
  rw [List.length_append] at hj
  by_cases e : j < fs.length
  · obtain ⟨A', c', h1, h2, h3⟩ := h.2 j e
    rw [List.getElem?_append_left (by omega), List.getElem?_append_left e]
    exact ⟨A', c', h1, h2, h3⟩
  · have hj2 : j = fs.length := by simp at hj; omega
    subst hj2
    rw [List.getElem?_append_right (by omega), List.getElem?_append_right (Nat.le_refl _), ← hl, Nat.sub_self]
    exact ⟨A, c, rfl, hc, hx⟩
theorem int_row {w : World} {k : Nat} {r : Int} (h : w.heap[k]? = some (.cells #[.int .i64 r] 3 (0, 0))) : IntsAt w w.heap.size (some ⟨k, 0, none⟩) 1 [r] :=
  ⟨rfl, by omega, fun _ => ⟨k, 0, rfl, (Array.getElem?_eq_some_iff.1 h).1, fun j hj => by
    obtain rfl : j = 0 := by omega
    exact cell_of_obj (T := 3) (fz := (0, 0)) h rfl rfl⟩⟩
/-- The winners, told as a slice. -/
theorem WinnersS_any (w : World) (B : Nat) (b : Bk) (A : Option Addr) (n c : Nat) (A2 : Option Addr) (m c2 : Nat) (A3 : Option Addr) (nf cf : Nat) (fs : List (List Int)) (WN : Nat) (h : BkAt w B b A n c A2 m c2) (hf : FinAt w B A3 nf fs) (hB : B ≤ w.heap.size) (h0 : bookF b = 0) (hfin : isFinF b fs = true) (hl : (winF b fs).length = WN) : Calls Try.prog 24 #[bkV b A n c A2 m c2, .slice A3 nf cf] w fun e w' => ∃ A9 c9, e = .returned (.tuple #[.slice A9 WN c9, .int .i64 0]) ∧ Below w.heap.size w w' ∧ w'.ownsRow w.heap.size 69 2 (.slice A9 WN c9) WN (encW (winF b fs)) := by
  subst hl
  have hat : atF b fs = 0 := by unfold atF; rw [if_pos h0, if_pos hfin]
  have hw : winA b fs = winF b fs := if_pos hat
  refine (Winners_any w B b A n c A2 m c2 A3 nf cf fs h hf hB).mono ?_
  rw [hw, hat]
  rintro e w' ⟨v, rfl, hb, ho, -⟩
  obtain ⟨A9, c9, rfl⟩ := own_slice ho
  exact ⟨A9, c9, rfl, hb, ho⟩
theorem win_few {b : Bk} {fs : List (List Int)} (h0 : bookF b = 0) (hfin : isFinF b fs = true) : (winF b fs).length ≤ 1000 := (at_ok (b := b) (fs := fs) (by unfold atF; rw [if_pos h0, if_pos hfin])).2.ws
end Go.Proofs.Ytbahiemjaomdcaa

/- Symbolic runs: a row that becomes a known block. -/
namespace Go.Proofs.Ytbahiemjaomdcaa
open Go.RowKit Go.Shelf

theorem U8At.more {w : World} {B B' : Nat} {A : Option Addr} {n : Nat} {xs : List Int} (h : U8At w B A n xs) (hB : B ≤ B') : U8At w B' A n xs :=
  ⟨h.1, h.2.1, fun h0 => by obtain ⟨b, off, e, hlt, hc⟩ := h.2.2 h0; exact ⟨b, off, e, Nat.lt_of_lt_of_le hlt hB, hc⟩⟩
/-- A row's block, as one that is known. -/
theorem At.up {w0 w : World} {kn rows : List KB} {kb : KB} {sz : Nat} (h : At w0 w kn (kb :: rows) sz) : At w0 w (kn ++ [kb]) rows sz := by
  refine ⟨fun x hx => ?_, fun x hx => h.rok x (List.mem_cons_of_mem _ hx), fun x hx => ?_, fun x hx => h.rlow x (List.mem_cons_of_mem _ hx), ?_, h.size, h.below⟩
  · rcases List.mem_append.1 hx with hx | hx
    · exact h.ok x hx
    · rw [List.mem_singleton.1 hx]; exact h.rok kb List.mem_cons_self
  · rcases List.mem_append.1 hx with hx | hx
    · exact h.low x hx
    · rw [List.mem_singleton.1 hx]; exact h.rlow kb List.mem_cons_self
  · refine ((List.Perm.map KB.id ?_).nodup_iff).1 h.nd
    rw [← List.append_assoc]
    exact (List.perm_append_singleton kb (rows ++ kn)).symm
end Go.Proofs.Ytbahiemjaomdcaa

/- law of pool: groups that come in together, in the memory. -/
namespace Go.Proofs.Ytbahiemjaomdcaa
open Go.RowKit Go.Shelf

def vAt (vs : List Value) (j : Nat) : Value := vs[j]?.getD (.bool false)
def outV (vs : List Value) (q : Nat) : Nat → List Value
  | 0 => []
  | n + 1 => outV vs q n ++ if n = q then [] else [vAt vs n]
theorem outV_len (vs : List Value) (q : Nat) : ∀ n, (outV vs q n).length = if q < n then n - 1 else n
  | 0 => rfl
  | n + 1 => by
    rw [outV, List.length_append, outV_len vs q n]
    by_cases h : n = q
    · subst h
      rw [if_pos rfl, if_neg (show ¬ n < n by omega), if_pos (show n < n + 1 by omega)]
      rfl
    · rw [if_neg h]
      by_cases h2 : q < n
      · rw [if_pos h2, if_pos (show q < n + 1 by omega)]; simp; omega
      · rw [if_neg h2, if_neg (show ¬ q < n + 1 by omega)]; rfl
theorem outV_le (vs : List Value) (q n : Nat) : (outV vs q n).length ≤ n := by rw [outV_len]; split <;> omega
theorem outV_get (vs : List Value) (q : Nat) : ∀ (n j : Nat), j < (outV vs q n).length → (outV vs q n)[j]? = some (vAt vs (if j < q then j else j + 1))
  | 0, j, h => by cases h
  | n + 1, j, h => by
    have hl := outV_len vs q n
    rw [outV] at h ⊢
    by_cases hj : j < (outV vs q n).length
    · rw [List.getElem?_append_left hj]
      exact outV_get vs q n j hj
    · rw [List.getElem?_append_right (by omega)]
      rw [List.length_append] at h
      by_cases hn : n = q
      · rw [if_pos hn] at h
        simp at h
        omega
      · rw [if_neg hn] at h ⊢
        have e : j = (outV vs q n).length := by simp at h; omega
        rw [← e, Nat.sub_self]
        show some (vAt vs n) = _
        by_cases h2 : q < n
        · rw [if_pos h2] at hl
          rw [if_neg (show ¬ j < q by omega), show j + 1 = n by omega]
        · rw [if_neg h2] at hl
          rw [if_pos (show j < q by omega), show j = n by omega]
theorem ValsAt.at {w : World} {B : Nat} {fs : List (List Int)} {vs : List Value} (h : ValsAt w B fs vs) {j : Nat} (hj : j < fs.length) : ∃ A c, vAt vs j = .slice A (fs[j]?.getD []).length c ∧ (fs[j]?.getD []).length ≤ c ∧ IntsAt w B A (fs[j]?.getD []).length (fs[j]?.getD []) := by
  obtain ⟨A, c, h1, h2, h3⟩ := h.2 j hj
  exact ⟨A, c, by unfold vAt; rw [h1]; rfl, h2, h3⟩
theorem ValsAt.one {w : World} {B : Nat} {fs : List (List Int)} {vs : List Value} (h : ValsAt w B fs vs) {j : Nat} (hj : j < fs.length) : ([vAt vs j].all fun u => oneCell u) = true := by
  obtain ⟨A, c, h1, -⟩ := h.at hj
  rw [h1]
  rfl
theorem vals_cell {w : World} {b off j : Nat} {vs : List Value} (h : ReadsAt w (some ⟨b, off, none⟩) vs) (hj : j < vs.length) : b < w.heap.size ∧ w.cell? ⟨b, off + j * 1, none⟩ = some (vAt vs j) := by
  obtain ⟨a, e, hc⟩ := h (by intro e; rw [e] at hj; cases hj)
  cases e
  have := hc j (vAt vs j) (by unfold vAt; rw [List.getElem?_eq_getElem hj]; rfl)
  rw [add_place] at this
  rw [Nat.mul_one]
  exact cell_lt this
theorem tog_vals {w : World} {B : Nat} {b : Bk} {fs : List (List Int)} {vs : List Value} {k c : Nat} {A : Option Addr} {F G : List Int} (h : ValsAt w B fs vs) (hk : k + 1 < fs.length) (hF : F = fs[k]?.getD []) (hG : G = fs[k + 1]?.getD []) (hc : (mrgL F G b.runners.toNat).length ≤ c) (hx : IntsAt w B A (mrgL F G b.runners.toNat).length (mrgL F G b.runners.toNat)) :
    ValsAt w B (togF b fs k) ((outV vs (k + 1) fs.length).set k (.slice A (mrgL F G b.runners.toNat).length c)) := by
  subst hF hG
  have hl := outV_len vs (k + 1) fs.length
  rw [if_pos hk] at hl
  have hl2 := tog_len (b := b) hk
  refine ⟨by rw [List.length_set, hl, hl2], fun j hj => ?_⟩
  rw [hl2] at hj
  rw [tog_get hk (by omega)]
  by_cases e : j = k
  · subst e
    rw [if_pos rfl, List.getElem?_set_self (by omega)]
    exact ⟨A, c, rfl, hc, hx⟩
  · rw [if_neg e, List.getElem?_set_ne (fun h => e h.symm), outV_get _ _ _ _ (by omega)]
    have e2 : (if j < k + 1 then j else j + 1) = if j < k then j else j + 1 := by
      by_cases h1 : j < k
      · rw [if_pos h1, if_pos (by omega)]
      · rw [if_neg h1, if_neg (by omega)]
    rw [e2]
    obtain ⟨A', c', h1, h2, h3⟩ := h.at (j := if j < k then j else j + 1) (by split <;> omega)
    exact ⟨A', c', by rw [h1], h2, h3⟩
theorem row_blk {T : TypeId} {k n c : Nat} {A : Option Addr} {vs : List Value} {ob : List KB} (hr : RowV T k (.slice A n c) n vs ob) (hn : 0 < n) : ∃ g cur, A = some ⟨g, 0, none⟩ ∧ ob = [⟨g, .cells cur T (0, 0)⟩] := by
  rcases hr.2 with ⟨-, h9, -⟩ | ⟨g, cap, cur, e1, e2, -⟩
  · omega
  · cases e1
    exact ⟨g, cur, rfl, e2⟩
theorem row_old {T : TypeId} {g n c j : Nat} {vs : List Value} {cur : Array Value} (hr : RowV T 1 (.slice (some ⟨g, 0, none⟩) n c) n vs [⟨g, .cells cur T (0, 0)⟩]) (hj : j < n) : cur[0 + j * 1]? = vs[j]? := by
  rcases hr.2 with ⟨h9, -, -⟩ | ⟨g', cap, cur', e1, e2, h3, h4, h5, h6⟩
  · cases h9
  · cases e1
    cases e2
    rw [Nat.zero_add, Nat.mul_one, ← h6, Nat.mul_one, List.getElem?_take_of_lt hj, Array.getElem?_toList]
theorem row_put {T : TypeId} {g n c j : Nat} {vs : List Value} {v : Value} {cur : Array Value} (hr : RowV T 1 (.slice (some ⟨g, 0, none⟩) n c) n vs [⟨g, .cells cur T (0, 0)⟩]) : RowV T 1 (.slice (some ⟨g, 0, none⟩) n c) n (vs.set j v) [⟨g, .cells (cur.setIfInBounds (0 + j * 1) v) T (0, 0)⟩] := by
  rcases hr.2 with ⟨h9, -, -⟩ | ⟨g', cap, cur', e1, e2, h3, h4, h5, h6⟩
  · cases h9
  · cases e1
    cases e2
    refine ⟨by rw [List.length_set]; exact hr.1, .inr ⟨g, c, _, rfl, rfl, h3, h4, by simp [h5], ?_⟩⟩
    rw [← h6, Array.toList_setIfInBounds, List.take_set]
    simp only [Nat.zero_add, Nat.mul_one]
theorem ints_at_row {A : Option Addr} {n c : Nat} {xs : List Int} {ob : List KB} (hr : RowV 3 1 (.slice A n c) n (ints xs) ob) (hn : n ≤ 1000) : n ≤ c ∧ ∀ w : World, (∀ kb ∈ ob, w.heap[kb.id]? = some kb.obj) → IntsAt w w.heap.size A n xs := by
  rcases hr.2 with ⟨e1, e2, e3⟩ | ⟨g, cap, cur, e1, e2, e3, e4⟩
  · cases e1
    subst e3
    have hl := hr.1
    simp only [ints, List.length_map, Nat.mul_one] at hl
    exact ⟨Nat.le_refl _, fun w _ => ⟨by omega, by omega, fun h0 => absurd h0 (Nat.lt_irrefl 0)⟩⟩
  · cases e1
    subst e2
    exact ⟨e3, fun w hk => (row_ints2 hr (hk _ List.mem_cons_self) hn).1⟩
def stF (ps : List (Int × Int)) (s : Int × Int) (j : Nat) : Bool := (ps.take j).any fun x => decide (x = s)
theorem stF_step {ps : List (Int × Int)} {s : Int × Int} {j : Nat} (hj : j < ps.length) : stF ps s (j + 1) = (stF ps s j || decide (ps[j]?.getD (0, 0) = s)) := by
  unfold stF
  rw [take_snoc (d := (0, 0)) hj, List.any_append]
  simp
theorem stF_all {ps : List (Int × Int)} {s : Int × Int} {j : Nat} (hj : ps.length ≤ j) (h : s ∈ ps) : stF ps s j = true := by
  unfold stF
  rw [List.take_of_length_le hj, List.any_eq_true]
  exact ⟨s, h, decide_eq_true rfl⟩
end Go.Proofs.Ytbahiemjaomdcaa
