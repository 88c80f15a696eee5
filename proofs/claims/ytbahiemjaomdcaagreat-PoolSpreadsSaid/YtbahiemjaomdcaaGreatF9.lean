/- Parts of a proof: QU QV QW QX. -/
import Derived.Test.YtbahiemjaomdcaaGreatF8

/- pool: scratch. -/
namespace Go.Proofs.YtbahiemjaomdcaaGreat
open Go.RowKit Go.Shelf

/-- The cells of bets. -/
def encB (bs : List Bet) : List Value := bs.flatMap fun x => [.int .i64 x.first, .int .i64 x.second, .int .i64 x.units]
theorem encB_cons (x : Bet) (bs : List Bet) : encB (x :: bs) = [.int .i64 x.first, .int .i64 x.second, .int .i64 x.units] ++ encB bs := rfl
theorem encB_len : ∀ bs : List Bet, (encB bs).length = bs.length * 3
  | [] => rfl
  | x :: bs => by rw [encB_cons, List.length_append, encB_len bs]; simp; omega
theorem encB_get : ∀ (bs : List Bet) (j : Nat), j < bs.length → (encB bs)[j * 3]? = some (.int .i64 (bs[j]?.getD noBet).first) ∧ (encB bs)[j * 3 + 1]? = some (.int .i64 (bs[j]?.getD noBet).second) ∧ (encB bs)[j * 3 + 2]? = some (.int .i64 (bs[j]?.getD noBet).units)
  | [], _, h => absurd h (Nat.not_lt_zero _)
  | x :: bs, 0, _ => ⟨rfl, rfl, rfl⟩
  | x :: bs, j + 1, h => by
    obtain ⟨h1, h2, h3⟩ := encB_get bs j (by simpa using h)
    rw [encB_cons, List.getElem?_append_right (by simp; omega), List.getElem?_append_right (by simp; omega), List.getElem?_append_right (by simp; omega)]
    simp only [List.length_cons, List.length_nil, List.getElem?_cons_succ]
    rw [show (j + 1) * 3 - 3 = j * 3 by omega, show (j + 1) * 3 + 1 - 3 = j * 3 + 1 by omega, show (j + 1) * 3 + 2 - 3 = j * 3 + 2 by omega]
    exact ⟨h1, h2, h3⟩
theorem encB_ones (bs : List Bet) : ((encB bs).all fun u => oneCell u) = true := by
  induction bs with
  | nil => rfl
  | cons x bs ih => rw [encB_cons, List.all_append, ih]; rfl
theorem bets_reads {w : World} {B : Nat} {A : Option Addr} {n : Nat} {bs : List Bet} (h : BetsAt w B A n bs) : ReadsAt w A (encB bs) := fun hne => by
  have hl := encB_len bs
  have hn := h.1
  have h0 : 0 < n := by
    rcases Nat.eq_zero_or_pos n with h0 | h0
    · rw [h0] at hn
      rw [List.length_eq_zero_iff.1 hn] at hne
      exact absurd rfl hne
    · exact h0
  obtain ⟨b, off, rfl, -, hc⟩ := h.2.2 h0
  refine ⟨_, rfl, fun q u hu => ?_⟩
  have hq : q < bs.length * 3 := by rw [← hl]; exact (List.getElem?_eq_some_iff.1 hu).1
  obtain ⟨j, hj⟩ : ∃ j, j = q / 3 := ⟨_, rfl⟩
  obtain ⟨h1, h2, h3⟩ := hc j (by omega)
  obtain ⟨g1, g2, g3⟩ := encB_get bs j (by omega)
  rw [add_place]
  have hr : q = j * 3 ∨ q = j * 3 + 1 ∨ q = j * 3 + 2 := by omega
  rcases hr with rfl | rfl | rfl
  · rw [← g1.symm.trans hu]; exact h1
  · rw [← g2.symm.trans hu, ← h2]; rfl
  · rw [← g3.symm.trans hu, ← h3]; rfl
theorem bets_row {w : World} {g n : Nat} {bs : List Bet} {cs : Array Value} {T : TypeId} (h : w.heap[g]? = some (.cells cs T (0, 0))) (hc : ∀ q, q < n * 3 → cs[q]? = (encB bs)[q]?) (hn : bs.length = n) (hm : n ≤ 1000000) : BetsAt w w.heap.size (some ⟨g, 0, none⟩) n bs :=
  ⟨hn, by omega, fun _ => ⟨g, 0, rfl, (Array.getElem?_eq_some_iff.1 h).1, fun j hj => by
    obtain ⟨g1, g2, g3⟩ := encB_get bs j (by omega)
    refine ⟨cell_of_obj (T := T) (fz := (0, 0)) h rfl ?_, cell_of_obj (T := T) (fz := (0, 0)) h rfl ?_, cell_of_obj (T := T) (fz := (0, 0)) h rfl ?_⟩
    · show cs[0 + j * 3]? = _; rw [Nat.zero_add, hc _ (by omega)]; exact g1
    · show cs[0 + j * 3 + 1]? = _; rw [Nat.zero_add, hc _ (by omega)]; exact g2
    · show cs[0 + j * 3 + 2]? = _; rw [Nat.zero_add, hc _ (by omega)]; exact g3⟩⟩
theorem ints_reads {w : World} {B : Nat} {A : Option Addr} {n : Nat} {xs : List Int} (h : IntsAt w B A n xs) (k l m : Nat) (hkl : k ≤ l) (hl : l ≤ n) (hlm : l ≤ m) : ReadsAt w (subA A k m 1) (ints ((xs.drop k).take (l - k))) := fun hne => by
  have hx := h.1
  have h0 : k < l := by
    rcases Nat.lt_or_ge k l with h0 | h0
    · exact h0
    · rw [show l - k = 0 by omega] at hne
      exact absurd rfl hne
  obtain ⟨b, off, rfl, -, hc⟩ := h.2.2 (by omega)
  refine ⟨⟨b, off + k * 1, none⟩, subA_at (by omega), fun q u hu => ?_⟩
  obtain ⟨hq, rfl⟩ := ints_get hu
  simp only [List.length_take, List.length_drop] at hq
  rw [add_place, List.getElem?_take_of_lt (by omega), List.getElem?_drop]
  have := hc (k + q) (by omega)
  rw [Nat.mul_one, Nat.add_assoc]
  exact this
/-- A runner among those that are scratched. -/
def insF (x : Int) (xs : List Int) : List Int := xs.filter (fun y => decide (y < x)) ++ x :: xs.filter (fun y => !decide (y < x))
theorem ins_at {xs : List Int} {x : Int} {k n : Nat} (hn : xs.length = n) (hk : k ≤ n) (h1 : ∀ j, j < k → xs[j]?.getD 0 < x) (h2 : ∀ j, k ≤ j → j < n → x ≤ xs[j]?.getD 0) : insF x xs = xs.take k ++ x :: xs.drop k := by
  have ht : ∀ y ∈ xs.take k, y < x := by
    intro y hy
    obtain ⟨j, hj, rfl⟩ := List.mem_iff_getElem.1 hy
    have hj2 : j < k := by simp at hj; omega
    have := h1 j hj2
    rw [List.getElem?_eq_getElem (by omega)] at this
    simpa using this
  have hd : ∀ y ∈ xs.drop k, ¬ y < x := by
    intro y hy
    obtain ⟨j, hj, rfl⟩ := List.mem_iff_getElem.1 hy
    have hj2 : j < n - k := by simp at hj; omega
    have := h2 (k + j) (by omega) (by omega)
    rw [List.getElem?_eq_getElem (by omega)] at this
    simp only [Option.getD_some] at this
    rw [List.getElem_drop]
    omega
  have e1 : xs.filter (fun y => decide (y < x)) = xs.take k := by
    conv => lhs; rw [← List.take_append_drop k xs]
    rw [List.filter_append, List.filter_eq_self.2 (fun y hy => decide_eq_true (ht y hy)), List.filter_eq_nil_iff.2 (fun y hy => by simpa using hd y hy), List.append_nil]
  have e2 : xs.filter (fun y => !decide (y < x)) = xs.drop k := by
    conv => lhs; rw [← List.take_append_drop k xs]
    rw [List.filter_append, List.filter_eq_nil_iff.2 (fun y hy => by simpa using ht y hy), List.filter_eq_self.2 (fun y hy => by simpa using hd y hy), List.nil_append]
  unfold insF
  rw [e1, e2]
/-- The book with a runner scratched. -/
def scrF (b : Bk) (r : Int) : Bk := ⟨b.kind, b.runners, b.bets, insF r b.scr, b.fav, b.car, b.dut, b.stp⟩
theorem made_len (z : Array Value) (k : Nat) : (madeCells z k).toList.length = k := by rw [Array.length_toList, size_madeCells]
set_option maxRecDepth 20000 in
theorem scratch_any (w : World) (B : Nat) (b : Bk) (A : Option Addr) (n c : Nat) (A2 : Option Addr) (m c2 : Nat) (r : Int) (h : BkAt w B b A n c A2 m c2) (hB : B ≤ w.heap.size) (hn : n ≤ 1000) (hm : m ≤ 1000) (hinc : ∀ k l, k ≤ l → l < m → b.scr[k]?.getD 0 ≤ b.scr[l]?.getD 0) :
    Calls Tryz.prog 57 #[bkV b A n c A2 m c2, .int .i64 r] w fun e w' => ∃ A' A2' c2', e = .returned (bkV (scrF b r) A' n n A2' (m + 1) c2') ∧ Below w.heap.size w w' ∧ w'.ownsRow w.heap.size 93 3 (.slice A' n n) n (encB b.bets) ∧ w'.ownsRow w.heap.size 3 1 (.slice A2' (m + 1) c2') (m + 1) (ints (insF r b.scr)) := by
  have hxl := h.scr.1
  have hbl := h.bets.1
  have hc1 := h.hc
  have hc2 := h.hc2
  refine enter 51 Tryz.func57 (by kernel_rfl) fun hA => ?_
  refine runS hA 12 [.k 0] xn on (by kernel_rfl) fun w1 hA => ?_
  refine call hA [] on (search_any w1 B A2 m c2 b.scr r (h.scr.below hA.below hB) (Nat.le_trans hB hA.size) (by omega) hinc) (by kernel_rfl) (by rintro e v ⟨i, ok, rfl, hbs, hi, hlo, hhi⟩; exact hbs) ?_
  rintro e w2 ⟨i, ok, rfl, hbs, hi, hlo, hhi⟩
  refine ⟨_, rfl, fun hA => ?_⟩
  refine runS hA 17 [.k 0, .i] xn (oc (show (0 : Int) ≤ (0 : Int) ∧ (0 : Int) ≤ ((i : Int) : Int) ∧ ((i : Int) : Int) ≤ ((i : Int) : Int) ∧ ((i : Int) : Int) ≤ (c2 : Int) by omega) on) (by kernel_rfl) fun w3 hA => ?_
  have hcl := cell_of_obj (a := ⟨w2.heap.size, 0, none⟩) (hA.at_.ok ⟨w2.heap.size, .cells #[.int .i64 r] 3 (0, 0)⟩ (List.mem_of_getElem? (i := 2) (by kernel_rfl))) rfl rfl
  refine appN (t := 23) (e := 3) (ty := 23) (z := .int .i64 0) (size := 1) (bytes := 8) (n := i) (cap := i) (m := 1) (cp := 1) (A := subA A2 0 i 1) (A' := some ⟨w2.heap.size, 0, none⟩) (ints ((b.scr.drop 0).take (i - 0))) [.int .i64 r] hA (by kernel_rfl) (by simp [ints]; omega) (ints_reads (h.scr.below hA.below hB) 0 i i (Nat.zero_le _) hi (Nat.le_refl _)) (fun he => by rcases Nat.eq_zero_or_pos i with h0 | h0; exact h0; obtain ⟨b9, off9, rfl, -⟩ := h.scr.2.2 (by omega); rw [subA_at (by omega)] at he; cases he) (Nat.le_refl _) rfl (fun _ => ⟨_, rfl, fun j u hu => by cases j with | zero => cases hu; exact hcl | succ j => cases hu⟩) rfl (by omega) (by omega) (by omega) fun v1 w4 ob1 hr1 hge1 hb1 hA => ?_
  obtain ⟨g1, cap1, cur1, rfl, rfl, -⟩ : ∃ g1 cap1 cur1, v1 = .slice (some ⟨g1, 0, none⟩) (i + 1) cap1 ∧ ob1 = [⟨g1, .cells cur1 3 (0, 0)⟩] ∧ True := by
    rcases hr1.2 with ⟨-, h, -⟩ | ⟨g1, cap1, cur1, h1, h2, -⟩
    · omega
    · exact ⟨g1, cap1, cur1, h1, h2, trivial⟩
  refine runS hA 11 [.k 0, .i] xn (oc (show (0 : Int) ≤ ((i : Int) : Int) ∧ ((i : Int) : Int) ≤ (m : Int) ∧ (m : Int) ≤ (c2 : Int) ∧ (c2 : Int) ≤ (c2 : Int) by omega) on) (by kernel_rfl) fun w5 hA => ?_
  refine appE (t := 23) (e := 3) (ty := 23) (z := .int .i64 0) (size := 1) (bytes := 8) (v := .slice (some ⟨g1, 0, none⟩) (i + 1) cap1) (n := i + 1) (m := m - i) (cp := c2 - i) (A := subA A2 i c2 1) (ints ((b.scr.drop i).take (m - i))) hA hr1 (by kernel_rfl) (by simp [ints]; omega) (ints_reads (h.scr.below hA.below hB) i m c2 hi (Nat.le_refl _) hc2) (ints_ones _) (by omega) (by omega) fun v2 w6 ob2 hr2 hnil2 hat2 hsz2 hA => ?_
  obtain ⟨m1, hm1⟩ : ∃ m1, i + 1 + (m - i) = m1 := ⟨_, rfl⟩
  rw [hm1] at hr2
  obtain ⟨g2, cap2, cur2, rfl, rfl, hcm2, -, hcs2, hct2⟩ : ∃ g2 cap2 cur2, v2 = .slice (some ⟨g2, 0, none⟩) m1 cap2 ∧ ob2 = [⟨g2, .cells cur2 3 (0, 0)⟩] ∧ _ := by
    rcases hr2.2 with ⟨-, h, -⟩ | h
    · omega
    · exact h
  refine runS hA 9 [.k 0] xn on (by kernel_rfl) fun w7 hA => ?_
  refine mkS (t := 22) (e := 93) (z := .agg #[.int .i64 0, .int .i64 0, .int .i64 0]) (size := 3) (bytes := 24) (n := n) (l := (n : Int)) (kl := .i64) (kc := .i64) hA rfl (by kernel_rfl) (by omega) (by omega) fun w8 hzm hbm hA => ?_
  refine runS hA 9 [.k 0] xn on (by kernel_rfl) fun w9 hA => ?_
  refine cpyS (kn' := [⟨w.heap.size, .cells #[.int .i64 b.kind, .int .i64 b.runners, .slice A n c, .slice A2 m c2, .bool b.fav, .int .i64 b.car, .int .i64 b.dut, .int .i64 b.stp] 72 (0, 0)⟩, ⟨w.heap.size + 1, .cells #[.int .i64 0, .int .i64 0, .slice none 0 0, .slice none 0 0, .bool false, .int .i64 0, .int .i64 0, .int .i64 0] 25 (0, 0)⟩, ⟨w2.heap.size, .cells #[.int .i64 r] 3 (0, 0)⟩, ⟨w7.heap.size, .cells ((madeCells (Value.agg #[.int .i64 0, .int .i64 0, .int .i64 0]).cells (n * 3)).toList.take 0 ++ (encB b.bets) ++ (madeCells (Value.agg #[.int .i64 0, .int .i64 0, .int .i64 0]).cells (n * 3)).toList.drop (0 + (encB b.bets).length)).toArray 93 (0, 0)⟩]) (t := 22) (t' := 22) (ty := 3) (e := 93) (z := .agg #[.int .i64 0, .int .i64 0, .int .i64 0]) (size := 3) (bytes := 24) (g := w7.heap.size) (o := 0) (dLen := n) (dCap := n) (sLen := n) (sCap := c) (j := 3) (A := A) (cur := (madeCells (Value.agg #[.int .i64 0, .int .i64 0, .int .i64 0]).cells (n * 3))) (T := 93) (encB b.bets) hA (by kernel_rfl) (by kernel_rfl) (by rw [encB_len, hbl]; show n * 3 = min n n * 3; rw [Nat.min_self]) (bets_reads (h.bets.below hA.below hB)) (by rw [encB_len, hbl, size_madeCells]; omega) (encB_ones _) fun w10 hzc hA => ?_
  refine runS hA 22 (List.replicate 10 (.k 0) ++ List.replicate 8 (.k 1)) xn on (by kernel_rfl) fun w11 hA => ?_
  have hAk := hA.atK [⟨w.heap.size, .cells #[.int .i64 b.kind, .int .i64 b.runners, .slice (some ⟨w7.heap.size, 0, none⟩) n n, .slice (some ⟨g2, 0, none⟩) m1 cap2, .bool b.fav, .int .i64 b.car, .int .i64 b.dut, .int .i64 b.stp] 72 (0, 0)⟩, ⟨w.heap.size + 1, .cells #[.int .i64 b.kind, .int .i64 b.runners, .slice (some ⟨w7.heap.size, 0, none⟩) n n, .slice (some ⟨g2, 0, none⟩) m1 cap2, .bool b.fav, .int .i64 b.car, .int .i64 b.dut, .int .i64 b.stp] 25 (0, 0)⟩, ⟨w2.heap.size, .cells #[.int .i64 r] 3 (0, 0)⟩, ⟨w7.heap.size, .cells ((madeCells (Value.agg #[.int .i64 0, .int .i64 0, .int .i64 0]).cells (n * 3)).toList.take 0 ++ (encB b.bets) ++ (madeCells (Value.agg #[.int .i64 0, .int .i64 0, .int .i64 0]).cells (n * 3)).toList.drop (0 + (encB b.bets).length)).toArray 93 (0, 0)⟩] (by kernel_rfl)
  have hsz : w.heap.size ≤ w11.heap.size := hA.size
  have hm2 : m1 = m + 1 := by omega
  have hins := ins_at hxl hi hlo hhi
  have hxs : cur2.toList.take m1 = ints (insF r b.scr) := by
    rw [Nat.mul_one] at hct2
    rw [hct2, hins, Nat.sub_zero, List.drop_zero, List.take_of_length_le (show (b.scr.drop i).length ≤ m - i by rw [List.length_drop, hxl]; exact Nat.le_refl _)]
    unfold ints
    rw [List.map_append, List.map_cons, List.append_assoc]
    rfl
  have hil : (insF r b.scr).length = m1 := by rw [hins, List.length_append, List.length_cons, List.length_take, List.length_drop]; omega
  have hB3 : BetsAt w11 w11.heap.size (some ⟨w7.heap.size, 0, none⟩) n b.bets := bets_row (T := 93) (hA.at_.ok ⟨w7.heap.size, .cells ((madeCells (Value.agg #[.int .i64 0, .int .i64 0, .int .i64 0]).cells (n * 3)).toList.take 0 ++ (encB b.bets) ++ (madeCells (Value.agg #[.int .i64 0, .int .i64 0, .int .i64 0]).cells (n * 3)).toList.drop (0 + (encB b.bets).length)).toArray 93 (0, 0)⟩ (List.mem_of_getElem? (i := 3) (by kernel_rfl))) (fun q hq => by rw [List.getElem?_toArray, List.take_zero, List.nil_append, List.getElem?_append_left (by rw [encB_len, hbl]; exact hq)]) hbl (by omega)
  have hS3 := row_ints hAk hxs hil (by omega)
  have hcm : m1 ≤ cap2 := hcm2
  rw [hm2] at hS3 hcm
  rw [hm2] at hr2 hxs
  have hB9 : w11.ownsRow w.heap.size 93 3 (.slice (some ⟨w7.heap.size, 0, none⟩) n n) n (encB b.bets) := ⟨by rw [encB_len, hbl], .inr ⟨_, n, _, rfl, hA.at_.low ⟨w7.heap.size, .cells ((madeCells (Value.agg #[.int .i64 0, .int .i64 0, .int .i64 0]).cells (n * 3)).toList.take 0 ++ (encB b.bets) ++ (madeCells (Value.agg #[.int .i64 0, .int .i64 0, .int .i64 0]).cells (n * 3)).toList.drop (0 + (encB b.bets).length)).toArray 93 (0, 0)⟩ (List.mem_of_getElem? (i := 3) (by kernel_rfl)), hA.at_.ok ⟨w7.heap.size, .cells ((madeCells (Value.agg #[.int .i64 0, .int .i64 0, .int .i64 0]).cells (n * 3)).toList.take 0 ++ (encB b.bets) ++ (madeCells (Value.agg #[.int .i64 0, .int .i64 0, .int .i64 0]).cells (n * 3)).toList.drop (0 + (encB b.bets).length)).toArray 93 (0, 0)⟩ (List.mem_of_getElem? (i := 3) (by kernel_rfl)), Nat.le_refl _, by simp only [maxLen]; omega, by simp [encB_len, hbl, size_madeCells], by rw [List.take_zero, List.nil_append, List.toList_toArray, List.take_left' (by rw [encB_len, hbl])]⟩⟩
  have hr3 : RowV 3 1 (.slice (some ⟨g2, 0, none⟩) (m + 1) cap2) (m + 1) (ints (insF r b.scr)) [⟨g2, .cells cur2 3 (0, 0)⟩] := ⟨by simp [ints]; omega, .inr ⟨_, _, _, rfl, rfl, hcm, by rcases hr2.2 with ⟨-, h, -⟩ | ⟨_, _, _, h1, h2, -, h4, -⟩; omega; cases h1; exact h4, hcs2, by rw [Nat.mul_one]; exact hxs⟩⟩
  have hS9 := hr3.own (rest := []) (by rw [List.append_nil]; exact hAk)
  exact ret (v := .agg #[.int .i64 b.kind, .int .i64 b.runners, .slice (some ⟨w7.heap.size, 0, none⟩) n n, .slice (some ⟨g2, 0, none⟩) m1 cap2, .bool b.fav, .int .i64 b.car, .int .i64 b.dut, .int .i64 b.stp]) hA (List.replicate 8 (.k 1)) (by kernel_rfl) ⟨_, _, _, by rw [← hm2]; rfl, hA.below, hB9, hS9⟩
/-- Two rows that a call has made. -/
theorem At.own2 {w0 w w' : World} {kn rows : List KB} {sz : Nat} {T T' : TypeId} {k k' n n' : Nat} {v v2 : Value} {vs vs2 : List Value} (h : At w0 w kn rows sz) (hb : Below w.heap.size w w') (hT : T ≠ T') (ho : w'.ownsRow w.heap.size T k v n vs) (ho2 : w'.ownsRow w.heap.size T' k' v2 n' vs2) :
    ∃ ob ob2, RowV T k v n vs ob ∧ RowV T' k' v2 n' vs2 ob2 ∧ At w0 w' kn (ob ++ (ob2 ++ rows)) w'.heap.size := by
  obtain ⟨ob2, hr2, hA2⟩ := h.own hb ho2
  have hlow : ∀ kb ∈ rows ++ kn, kb.id < w.heap.size := fun kb hk => by
    rcases List.mem_append.1 hk with hk | hk
    · exact h.rlt hk
    · exact h.lt hk
  rcases ho.2 with ⟨h1, h2⟩ | ⟨g, cap, cur, h1, h2, h3, h4, h5, h6, h7⟩
  · exact ⟨[], ob2, ⟨ho.1, .inl ⟨h1, h2, rfl⟩⟩, hr2, by rw [List.nil_append]; exact hA2⟩
  · refine ⟨[⟨g, .cells cur T (0, 0)⟩], ob2, ⟨ho.1, .inr ⟨g, cap, cur, h1, rfl, h4, h5, h6, h7⟩⟩, hr2, hA2.ok, fun kb hk => ?_, hA2.low, fun kb hk => ?_, ?_, rfl, hA2.below⟩
    · rcases List.mem_append.1 hk with hk | hk
      · rw [List.mem_singleton.1 hk]; exact h3
      · exact hA2.rok kb hk
    · rcases List.mem_append.1 hk with hk | hk
      · rw [List.mem_singleton.1 hk]; exact Nat.le_trans h.below.size h2
      · exact hA2.rlow kb hk
    · rw [List.append_assoc, List.map_append, List.nodup_append]
      refine ⟨by simp, hA2.nd, ?_⟩
      intro a ha b hb2 e
      simp only [List.map_cons, List.map_nil, List.mem_singleton] at ha
      subst ha
      obtain ⟨kb, hkb, rfl⟩ := List.mem_map.1 hb2
      rw [List.append_assoc] at hkb
      rcases List.mem_append.1 hkb with hk | hk
      · have h9 := hA2.rok kb (List.mem_append_left _ hk)
        rw [← e, h3] at h9
        rcases hr2.2 with ⟨-, -, e0⟩ | ⟨g2, cap2, cur2, -, e2, -⟩
        · rw [e0] at hk; cases hk
        · rw [e2] at hk
          rw [List.mem_singleton.1 hk] at h9
          cases h9
          exact hT rfl
      · have := hlow kb hk
        omega
theorem ownsRow_lower {W : World} {T : TypeId} {k n B B' : Nat} {v : Value} {vs : List Value} (h : W.ownsRow B T k v n vs) (hB : B' ≤ B) : W.ownsRow B' T k v n vs := by
  rcases h.2 with h2 | ⟨g, cap, cur, e, h1, hr⟩
  · exact ⟨h.1, .inl h2⟩
  · exact ⟨h.1, .inr ⟨g, cap, cur, e, by omega, hr⟩⟩
theorem inc_le {xs : List Int} (h : incF xs = true) : ∀ k l, k ≤ l → l < xs.length → xs[k]?.getD 0 ≤ xs[l]?.getD 0 := by
  intro k l hkl hl
  induction l with
  | zero => rw [show k = 0 by omega]; exact Int.le_refl _
  | succ l ih =>
    by_cases hk : k = l + 1
    · rw [hk]; exact Int.le_refl _
    · have h1 := ih (by omega) (by omega)
      unfold incF at h
      rw [List.all_eq_true] at h
      have h2 := h l (List.mem_range.2 (by omega))
      simp only [decide_eq_true_eq] at h2
      omega
theorem ValidB.inc {b : Bk} (h : ValidB b) : incF b.scr = true := by
  have h1 := h.scr
  unfold scratchable at h1
  simp only [Bool.and_eq_true] at h1
  exact h1.2.1
theorem ValidB.few {b : Bk} (h : ValidB b) : (b.scr.length : Int) ≤ b.runners - 2 := by
  have h1 := h.scr
  unfold scratchable at h1
  simp only [Bool.and_eq_true, decide_eq_true_eq] at h1
  exact h1.2.2
def scE (b : Bk) (r : Int) : Int := if bookF b = 0 then (if isR b r = false then 3 else if r ∈ b.scr then 11 else if (racN b).length = 2 then 10 else 0) else bookF b
def scB' (b : Bk) (r : Int) : Bk := if scE b r = 0 then scrF b r else zeroB
set_option maxRecDepth 20000 in
theorem Scratch_any (w : World) (B : Nat) (b : Bk) (A : Option Addr) (n c : Nat) (A2 : Option Addr) (m c2 : Nat) (r : Int) (h : BkAt w B b A n c A2 m c2) (hB : B ≤ w.heap.size) :
    Calls Tryz.prog 29 #[bkV b A n c A2 m c2, .int .i64 r] w fun e w' => ∃ A' c' A2' c2', e = .returned (.tuple #[bkV (scB' b r) A' (scB' b r).bets.length c' A2' (scB' b r).scr.length c2', .int .i64 (scE b r)]) ∧ Below w.heap.size w w' ∧ w'.ownsRow w.heap.size 93 3 (.slice A' (scB' b r).bets.length c') (scB' b r).bets.length (encB (scB' b r).bets) ∧ w'.ownsRow w.heap.size 3 1 (.slice A2' (scB' b r).scr.length c2') (scB' b r).scr.length (ints (scB' b r).scr) := by
  refine enter 34 Tryz.func29 (by kernel_rfl) fun hA => ?_
  refine runS hA 11 (List.replicate 8 (.k 0)) xn on (by kernel_rfl) fun w1 hA => ?_
  refine callB hA [] on (checkBook_any w1 B b A n c A2 m c2 (h.below hA.below hB) (Nat.le_trans hB hA.size)) (by kernel_rfl) fun w2 hb2 hA => ?_
  by_cases h0 : bookF b = 0
  case neg =>
    refine runS hA 20 ([.b true] ++ List.replicate 8 (.k 1)) xn (oc (ne_t h0) on) (by kernel_rfl) fun w3 hA => ?_
    have he : scE b r = bookF b := by unfold scE; rw [if_neg h0]
    have hzb : scB' b r = zeroB := if_neg (by rw [he]; exact h0)
    exact ret (v := .tuple #[.agg #[.int .i64 0, .int .i64 0, .slice none 0 0, .slice none 0 0, .bool false, .int .i64 0, .int .i64 0, .int .i64 0], .int .i64 (bookF b)]) hA (List.replicate 8 (.k 1)) (by kernel_rfl) ⟨none, 0, none, 0, by rw [hzb, he]; rfl, hA.below, by rw [hzb]; exact ⟨rfl, .inl ⟨rfl, rfl⟩⟩, by rw [hzb]; exact ⟨rfl, .inl ⟨rfl, rfl⟩⟩⟩
  case pos =>
    have V := valid_of h0
    have hv1 := V.run
    have hv2 := V.len
    have hv3 := V.few
    have hbl := h.bets.1
    have hxl := h.scr.1
    refine runS hA 26 ([.b false] ++ List.replicate 8 (.k 0) ++ List.replicate 16 (.k 2)) xn (oc (ne_f h0) on) (by kernel_rfl) fun w3 hA => ?_
    have hcl := cell_of_obj (a := ⟨w2.heap.size + 1, 0, none⟩) (hA.at_.ok ⟨w2.heap.size + 1, .cells #[.int .i64 r] 3 (0, 0)⟩ (List.mem_of_getElem? (i := 3) (by kernel_rfl))) rfl rfl
    have hlt0 : w2.heap.size + 1 < w3.heap.size := hA.at_.lt (kb := ⟨w2.heap.size + 1, .cells #[.int .i64 r] 3 (0, 0)⟩) (List.mem_of_getElem? (i := 3) (by kernel_rfl))
    refine callB hA [] on (areRunners_any w3 w3.heap.size b A n c A2 m c2 (some ⟨w2.heap.size + 1, 0, none⟩) 1 1 [r] (one_int w3 w3.heap.size _ r hlt0 hcl) (Nat.le_refl _) (by omega)) (by kernel_rfl) fun w4 hb4 hA => ?_
    have hwr : withinF 0 (b.runners - 1) [r] = isR b r := within_one 0 (b.runners - 1) r
    rcases Bool.eq_false_or_eq_true (isR b r) with hir | hir
    rotate_left
    ·
      refine revals hA (rc 19 (show .bool (withinF 0 (b.runners - 1) [r]) = .bool false by rw [hwr, hir]) rn) (by kernel_rfl) fun hA => ?_
      refine runS hA 13 (List.replicate 8 (.k 1)) xn on (by kernel_rfl) fun w5 hA => ?_
      have he : scE b r = 3 := by unfold scE; rw [if_pos h0, if_pos hir]
      have hzb : scB' b r = zeroB := if_neg (by rw [he]; decide)
      exact ret (v := .tuple #[.agg #[.int .i64 0, .int .i64 0, .slice none 0 0, .slice none 0 0, .bool false, .int .i64 0, .int .i64 0, .int .i64 0], .int .i64 3]) hA (List.replicate 8 (.k 1)) (by kernel_rfl) ⟨none, 0, none, 0, by rw [hzb, he]; rfl, hA.below, by rw [hzb]; exact ⟨rfl, .inl ⟨rfl, rfl⟩⟩, by rw [hzb]; exact ⟨rfl, .inl ⟨rfl, rfl⟩⟩⟩
    ·
      refine revals hA (rc 19 (show .bool (withinF 0 (b.runners - 1) [r]) = .bool true by rw [hwr, hir]) rn) (by kernel_rfl) fun hA => ?_
      refine runS hA 11 (List.replicate 8 (.k 2)) xn on (by kernel_rfl) fun w5 hA => ?_
      refine callB hA [] on (isScratched_any w5 B b A n c A2 m c2 r (h.scr.below hA.below hB) (Nat.le_trans hB hA.size)) (by kernel_rfl) fun w6 hb6 hA => ?_
      by_cases hrs : r ∈ b.scr
      case pos =>
        refine revals hA (rc 24 (show .bool (decide (r ∈ b.scr)) = .bool true by rw [decide_eq_true hrs]) rn) (by kernel_rfl) fun hA => ?_
        refine runS hA 12 (List.replicate 8 (.k 1)) xn on (by kernel_rfl) fun w7 hA => ?_
        have he : scE b r = 11 := by unfold scE; rw [if_pos h0, if_neg (by rw [hir]; decide), if_pos hrs]
        have hzb : scB' b r = zeroB := if_neg (by rw [he]; decide)
        exact ret (v := .tuple #[.agg #[.int .i64 0, .int .i64 0, .slice none 0 0, .slice none 0 0, .bool false, .int .i64 0, .int .i64 0, .int .i64 0], .int .i64 11]) hA (List.replicate 8 (.k 1)) (by kernel_rfl) ⟨none, 0, none, 0, by rw [hzb, he]; rfl, hA.below, by rw [hzb]; exact ⟨rfl, .inl ⟨rfl, rfl⟩⟩, by rw [hzb]; exact ⟨rfl, .inl ⟨rfl, rfl⟩⟩⟩
      case neg =>
        refine revals hA (rc 24 (show .bool (decide (r ∈ b.scr)) = .bool false by rw [decide_eq_false hrs]) rn) (by kernel_rfl) fun hA => ?_
        refine runS hA 9 (List.replicate 8 (.k 2)) xn on (by kernel_rfl) fun w7 hA => ?_
        refine call hA [] on (racing_any w7 B b A n c A2 m c2 (h.scr.below hA.below hB) (Nat.le_trans hB hA.size) (by omega)) (by kernel_rfl) (by rintro e v ⟨v, rfl, hown, hbr⟩; exact hbr) ?_
        rintro e w8 ⟨v, rfl, hown, hbr⟩
        refine ⟨_, rfl, fun hA => ?_⟩
        have hvl : ∃ A5 c5, v = .slice A5 (racN b).length c5 := by rcases hown.2 with ⟨h1, h2⟩ | ⟨g9, cap, cur, h1, -⟩; exact ⟨none, 0, by rw [h1, h2]⟩; exact ⟨_, _, h1⟩
        obtain ⟨A5, c5, rfl⟩ := hvl
        by_cases h2 : (racN b).length = 2
        case pos =>
          refine runS hA 14 ([.b true] ++ List.replicate 8 (.k 1)) xn (oc (eq_t (a := ((racN b).length : Int)) (b := 2) (by omega)) on) (by kernel_rfl) fun w9 hA => ?_
          have he : scE b r = 10 := by unfold scE; rw [if_pos h0, if_neg (by rw [hir]; decide), if_neg hrs, if_pos h2]
          have hzb : scB' b r = zeroB := if_neg (by rw [he]; decide)
          exact ret (v := .tuple #[.agg #[.int .i64 0, .int .i64 0, .slice none 0 0, .slice none 0 0, .bool false, .int .i64 0, .int .i64 0, .int .i64 0], .int .i64 10]) hA (List.replicate 8 (.k 1)) (by kernel_rfl) ⟨none, 0, none, 0, by rw [hzb, he]; rfl, hA.below, by rw [hzb]; exact ⟨rfl, .inl ⟨rfl, rfl⟩⟩, by rw [hzb]; exact ⟨rfl, .inl ⟨rfl, rfl⟩⟩⟩
        case neg =>
          refine runS hA 11 ([.b false] ++ List.replicate 8 (.k 2)) xn (oc (eq_f (a := ((racN b).length : Int)) (b := 2) (by omega)) on) (by kernel_rfl) fun w9 hA => ?_
          have hl_0 : w.heap.size < w9.heap.size := hA.at_.lt (kb := ⟨w.heap.size, .cells #[.int .i64 b.kind, .int .i64 b.runners, .slice A n c, .slice A2 m c2, .bool b.fav, .int .i64 b.car, .int .i64 b.dut, .int .i64 b.stp] 25 (0, 0)⟩) (List.mem_of_getElem? (i := 0) (by kernel_rfl))
          have hl_1 : w.heap.size + 1 < w9.heap.size := hA.at_.lt (kb := ⟨w.heap.size + 1, .cells #[.int .i64 0, .int .i64 0, .slice none 0 0, .slice none 0 0, .bool false, .int .i64 0, .int .i64 0, .int .i64 0] 25 (0, 0)⟩) (List.mem_of_getElem? (i := 1) (by kernel_rfl))
          have hl_2 : w2.heap.size < w9.heap.size := hA.at_.lt (kb := ⟨w2.heap.size, .cells #[.int .i64 b.kind, .int .i64 b.runners, .slice A n c, .slice A2 m c2, .bool b.fav, .int .i64 b.car, .int .i64 b.dut, .int .i64 b.stp] 72 (0, 0)⟩) (List.mem_of_getElem? (i := 2) (by kernel_rfl))
          have hl_3 : w2.heap.size + 1 < w9.heap.size := hA.at_.lt (kb := ⟨w2.heap.size + 1, .cells #[.int .i64 r] 3 (0, 0)⟩) (List.mem_of_getElem? (i := 3) (by kernel_rfl))
          have hA0 := hA.atK [⟨w.heap.size, .cells #[.int .i64 b.kind, .int .i64 b.runners, .slice A n c, .slice A2 m c2, .bool b.fav, .int .i64 b.car, .int .i64 b.dut, .int .i64 b.stp] 25 (0, 0)⟩, ⟨w.heap.size + 1, .cells #[.int .i64 0, .int .i64 0, .slice none 0 0, .slice none 0 0, .bool false, .int .i64 0, .int .i64 0, .int .i64 0] 25 (0, 0)⟩, ⟨w2.heap.size, .cells #[.int .i64 b.kind, .int .i64 b.runners, .slice A n c, .slice A2 m c2, .bool b.fav, .int .i64 b.car, .int .i64 b.dut, .int .i64 b.stp] 72 (0, 0)⟩, ⟨w2.heap.size + 1, .cells #[.int .i64 r] 3 (0, 0)⟩] (by kernel_rfl)
          refine call hA [] on (scratch_any w9 B b A n c A2 m c2 r (h.below hA.below hB) (Nat.le_trans hB hA.size) (by omega) (by omega) (fun k l h1 h2 => inc_le V.inc k l h1 (by omega))) (by kernel_rfl) (by rintro e v ⟨A', A2', c2', rfl, hbz, ho1, ho2⟩; exact hbz) ?_
          rintro e w10 ⟨A', A2', c2', rfl, hbz, ho1, ho2⟩
          refine ⟨_, rfl, fun hA => ?_⟩
          obtain ⟨ob1, ob2, hr1, hr2, hAo⟩ := At.own2 hA0 hbz (by decide) ho1 ho2
          refine reknow ⟨[⟨w.heap.size, .cells #[.int .i64 b.kind, .int .i64 b.runners, .slice A n c, .slice A2 m c2, .bool b.fav, .int .i64 b.car, .int .i64 b.dut, .int .i64 b.stp] 25 (0, 0)⟩, ⟨w.heap.size + 1, .cells #[.int .i64 0, .int .i64 0, .slice none 0 0, .slice none 0 0, .bool false, .int .i64 0, .int .i64 0, .int .i64 0] 25 (0, 0)⟩, ⟨w2.heap.size, .cells #[.int .i64 b.kind, .int .i64 b.runners, .slice A n c, .slice A2 m c2, .bool b.fav, .int .i64 b.car, .int .i64 b.dut, .int .i64 b.stp] 72 (0, 0)⟩, ⟨w2.heap.size + 1, .cells #[.int .i64 r] 3 (0, 0)⟩], w10.heap.size, [], [], [], [], []⟩ hAo (Nat.zero_le _) fun hA => ?_
          refine runS hA 5 (List.replicate 8 (.k 1)) xn on (by kernel_rfl) fun w11 hA => ?_
          have he : scE b r = 0 := by unfold scE; rw [if_pos h0, if_neg (by rw [hir]; decide), if_neg hrs, if_neg h2]
          have hzb : scB' b r = scrF b r := if_pos he
          have hil : (insF r b.scr).length = m + 1 := by have := hr2.1; simp [ints] at this; exact this
          have hAf := hA.atK [⟨w.heap.size, .cells #[.int .i64 b.kind, .int .i64 b.runners, .slice A n c, .slice A2 m c2, .bool b.fav, .int .i64 b.car, .int .i64 b.dut, .int .i64 b.stp] 25 (0, 0)⟩, ⟨w.heap.size + 1, .cells #[.int .i64 ((scrF b r).kind), .int .i64 ((scrF b r).runners), .slice A' n n, .slice A2' (m + 1) c2', .bool ((scrF b r).fav), .int .i64 ((scrF b r).car), .int .i64 ((scrF b r).dut), .int .i64 ((scrF b r).stp)] 25 (0, 0)⟩, ⟨w2.heap.size, .cells #[.int .i64 b.kind, .int .i64 b.runners, .slice A n c, .slice A2 m c2, .bool b.fav, .int .i64 b.car, .int .i64 b.dut, .int .i64 b.stp] 72 (0, 0)⟩, ⟨w2.heap.size + 1, .cells #[.int .i64 r] 3 (0, 0)⟩] (by kernel_rfl)
          exact ret (v := .tuple #[.agg #[.int .i64 ((scrF b r).kind), .int .i64 ((scrF b r).runners), .slice A' n n, .slice A2' (m + 1) c2', .bool ((scrF b r).fav), .int .i64 ((scrF b r).car), .int .i64 ((scrF b r).dut), .int .i64 ((scrF b r).stp)], .int .i64 0]) hA (List.replicate 8 (.k 1)) (by kernel_rfl) ⟨A', n, A2', c2', by rw [hzb, he, show (scrF b r).bets.length = n from hbl, show (scrF b r).scr.length = m + 1 from hil], hA.below, by rw [hzb, show (scrF b r).bets.length = n from hbl]; exact hr1.own hAf, by rw [hzb, show (scrF b r).scr.length = m + 1 from hil]; exact hr2.own (rest := ob1) (hA.perm (List.perm_append_comm_assoc ob1 ob2 [] |>.trans (by rw [List.append_nil]))).at_⟩
end Go.Proofs.YtbahiemjaomdcaaGreat

/- pool: groups. -/
namespace Go.Proofs.YtbahiemjaomdcaaGreat
open Go.RowKit Go.Shelf

/-- Rows whose blocks are of a kind. -/
def IntsX (w : World) (p : Nat → Prop) (A : Option Addr) (n : Nat) (xs : List Int) : Prop :=
  xs.length = n ∧ n ≤ 9223372036854775807 ∧ (0 < n → ∃ b off, A = some ⟨b, off, none⟩ ∧ p b ∧ ∀ j, j < n → w.cell? ⟨b, off + j, none⟩ = some (.int .i64 (xs[j]?.getD 0)))
def FinX (w : World) (p : Nat → Prop) (A : Option Addr) (n : Nat) (fs : List (List Int)) : Prop :=
  fs.length = n ∧ n ≤ 1000 ∧ (0 < n → ∃ b off, A = some ⟨b, off, none⟩ ∧ p b ∧ ∀ j, j < n → ∃ A' c', w.cell? ⟨b, off + j, none⟩ = some (.slice A' (fs[j]?.getD []).length c') ∧ (fs[j]?.getD []).length ≤ c' ∧ IntsX w p A' (fs[j]?.getD []).length (fs[j]?.getD []))
theorem IntsX.at {w : World} {p : Nat → Prop} {A : Option Addr} {n B : Nat} {xs : List Int} (h : IntsX w p A n xs) (hp : ∀ k, p k → k < B) : IntsAt w B A n xs :=
  ⟨h.1, h.2.1, fun h0 => by obtain ⟨b, off, e, hb, hc⟩ := h.2.2 h0; exact ⟨b, off, e, hp b hb, hc⟩⟩
theorem FinX.at {w : World} {p : Nat → Prop} {A : Option Addr} {n B : Nat} {fs : List (List Int)} (h : FinX w p A n fs) (hp : ∀ k, p k → k < B) : FinAt w B A n fs :=
  ⟨h.1, Nat.le_trans h.2.1 (by decide), fun h0 => by
    obtain ⟨b, off, e, hb, hc⟩ := h.2.2 h0
    refine ⟨b, off, e, hp b hb, fun j hj => ?_⟩
    obtain ⟨A', c', h1, h2, h3⟩ := hc j hj
    exact ⟨A', c', h1, h2, h3.at hp⟩⟩
theorem cell_keep {w w' : World} {p : Addr} {v : Value} (h : ∀ o, w.heap[p.block]? = some o → w'.heap[p.block]? = some o) (hv : w.cell? p = some v) : w'.cell? p = some v := by
  cases ho : w.heap[p.block]? with
  | none => unfold World.cell? at hv; rw [ho] at hv; cases hv
  | some o =>
    have := h o ho
    unfold World.cell? at hv ⊢
    rw [this]
    rw [ho] at hv
    exact hv
theorem IntsX.keep {w w' : World} {p q : Nat → Prop} {A : Option Addr} {n : Nat} {xs : List Int} (h : IntsX w p A n xs) (hk : ∀ k o, p k → w.heap[k]? = some o → w'.heap[k]? = some o) (hq : ∀ k, p k → q k) : IntsX w' q A n xs :=
  ⟨h.1, h.2.1, fun h0 => by obtain ⟨b, off, e, hb, hc⟩ := h.2.2 h0; exact ⟨b, off, e, hq b hb, fun j hj => cell_keep (fun o => hk b o hb) (hc j hj)⟩⟩
theorem FinX.keep {w w' : World} {p q : Nat → Prop} {A : Option Addr} {n : Nat} {fs : List (List Int)} (h : FinX w p A n fs) (hk : ∀ k o, p k → w.heap[k]? = some o → w'.heap[k]? = some o) (hq : ∀ k, p k → q k) : FinX w' q A n fs :=
  ⟨h.1, h.2.1, fun h0 => by
    obtain ⟨b, off, e, hb, hc⟩ := h.2.2 h0
    refine ⟨b, off, e, hq b hb, fun j hj => ?_⟩
    obtain ⟨A', c', h1, h2, h3⟩ := hc j hj
    exact ⟨A', c', cell_keep (fun o => hk b o hb) h1, h2, h3.keep hk hq⟩⟩
/-- The groups of some of the runners, the empty one first. -/
def grsF (rs : List Int) : List (List Int) := rs.foldl (fun gs r => gs ++ gs.map (· ++ [r])) [[]]
def groupsF (b : Bk) : List (List Int) := (grsF (racN b)).drop 1
theorem grsF_snoc (rs : List Int) (r : Int) : grsF (rs ++ [r]) = grsF rs ++ (grsF rs).map (· ++ [r]) := by unfold grsF; rw [List.foldl_append]; rfl
theorem grsF_take {rs : List Int} {k : Nat} (h : k < rs.length) : grsF (rs.take (k + 1)) = grsF (rs.take k) ++ (grsF (rs.take k)).map (· ++ [rs[k]?.getD 0]) := by
  rw [List.take_add_one, List.getElem?_eq_getElem h]
  exact grsF_snoc _ _
theorem grsF_len (rs : List Int) : ∀ k, k ≤ rs.length → (grsF (rs.take k)).length = 2 ^ k
  | 0, _ => rfl
  | k + 1, h => by rw [grsF_take (by omega), List.length_append, List.length_map, grsF_len rs k (by omega), Nat.pow_succ]; omega
theorem grsF_short (rs : List Int) : ∀ k, k ≤ rs.length → ∀ g ∈ grsF (rs.take k), g.length ≤ k
  | 0, _, g, hg => by
    have : g = [] := by simpa [grsF] using hg
    rw [this]; exact Nat.le_refl _
  | k + 1, h, g, hg => by
    rw [grsF_take (by omega), List.mem_append, List.mem_map] at hg
    rcases hg with hg | ⟨g', hg, rfl⟩
    · exact Nat.le_succ_of_le (grsF_short rs k (by omega) g hg)
    · have := grsF_short rs k (by omega) g' hg
      rw [List.length_append]
      simpa using this
/-- A group, in blocks of the call's own. -/
def GrpAt (rows : List KB) (v : Value) (g : List Int) : Prop :=
  ∃ A c, v = .slice A g.length c ∧ g.length ≤ c ∧ (0 < g.length → ∃ k cur, A = some ⟨k, 0, none⟩ ∧ (⟨k, .cells cur 3 (0, 0)⟩ : KB) ∈ rows ∧ ∀ j, j < g.length → cur[j]? = some (.int .i64 (g[j]?.getD 0)))
def GrpsAt (rows : List KB) (vs : List Value) (gs : List (List Int)) : Prop := vs.length = gs.length ∧ ∀ j, j < gs.length → ∃ v, vs[j]? = some v ∧ GrpAt rows v (gs[j]?.getD [])
theorem GrpAt.mono {r r' : List KB} {v : Value} {g : List Int} (h : GrpAt r v g) (hr : ∀ kb ∈ r, kb ∈ r') : GrpAt r' v g := by
  obtain ⟨A, c, h1, h2, h3⟩ := h
  refine ⟨A, c, h1, h2, fun h0 => ?_⟩
  obtain ⟨k, cur, q1, q2, q3⟩ := h3 h0
  exact ⟨k, cur, q1, hr _ q2, q3⟩
theorem GrpsAt.mono {r r' : List KB} {vs : List Value} {gs : List (List Int)} (h : GrpsAt r vs gs) (hr : ∀ kb ∈ r, kb ∈ r') : GrpsAt r' vs gs := ⟨h.1, fun j hj => by
  obtain ⟨v, h1, h2⟩ := h.2 j hj
  exact ⟨v, h1, h2.mono hr⟩⟩
theorem GrpsAt.snoc {r : List KB} {vs : List Value} {gs : List (List Int)} {v : Value} {g : List Int} (h : GrpsAt r vs gs) (hg : GrpAt r v g) : GrpsAt r (vs ++ [v]) (gs ++ [g]) := by
  refine ⟨by rw [List.length_append, List.length_append, h.1]; rfl, fun j hj => ?_⟩
  rw [List.length_append, List.length_singleton] at hj
  by_cases hjl : j < gs.length
  · obtain ⟨u, h1, h2⟩ := h.2 j hjl
    refine ⟨u, ?_, ?_⟩
    · rw [List.getElem?_append_left (by rw [h.1]; exact hjl)]; exact h1
    · rw [List.getElem?_append_left hjl]; exact h2
  · have : j = gs.length := by omega
    subst this
    refine ⟨v, ?_, ?_⟩
    · rw [← h.1, List.getElem?_append_right (Nat.le_refl _), Nat.sub_self]; rfl
    · rw [List.getElem?_append_right (Nat.le_refl _), Nat.sub_self]; exact hg
theorem GrpAt.reads {w0 w : World} {kn rows : List KB} {sz : Nat} {v : Value} {g : List Int} {A : Option Addr} {c : Nat} (h : GrpAt rows v g) (hA : At w0 w kn rows sz) (e : v = .slice A g.length c) : ReadsAt w (subA A 0 g.length 1) (ints g) ∧ (subA A 0 g.length 1 = none → g.length = 0) := by
  obtain ⟨A', c', h1, -, h3⟩ := h
  rw [e] at h1
  cases h1
  constructor
  · intro hne
    have h0 : 0 < g.length := by
      cases g with
      | nil => exact absurd rfl hne
      | cons a l => simp
    obtain ⟨k, cur, rfl, hm, hc⟩ := h3 h0
    refine ⟨_, by rw [subA_lo], fun j u hu => ?_⟩
    obtain ⟨hj, rfl⟩ := ints_get hu
    rw [add_place]
    refine cell_of_obj (hA.rok _ hm) rfl ?_
    show cur[0 + j]? = _
    rw [Nat.zero_add]
    exact hc j hj
  · intro he
    rcases Nat.eq_zero_or_pos g.length with h0 | h0
    · exact h0
    · obtain ⟨k, cur, rfl, -⟩ := h3 h0
      rw [subA_lo] at he
      cases he
theorem GrpAt.cell {w0 w : World} {kn rows : List KB} {sz : Nat} {v : Value} {g : List Int} (h : GrpAt rows v g) (hA : At w0 w kn rows sz) (hs : g.length ≤ 1000) : ∃ A c, v = .slice A g.length c ∧ g.length ≤ c ∧ IntsX w (fun k => w0.heap.size ≤ k ∧ k < w.heap.size) A g.length g := by
  obtain ⟨A, c, h1, h2, h3⟩ := h
  refine ⟨A, c, h1, h2, rfl, by omega, fun h0 => ?_⟩
  obtain ⟨k, cur, e, hm, hc⟩ := h3 h0
  refine ⟨k, 0, e, ⟨hA.rlow _ hm, hA.rlt hm⟩, fun j hj => ?_⟩
  refine cell_of_obj (hA.rok _ hm) rfl ?_
  show cur[0 + j]? = _
  rw [Nat.zero_add]
  exact hc j hj
set_option maxRecDepth 20000 in
theorem groups_any (w : World) (B : Nat) (b : Bk) (A : Option Addr) (n c : Nat) (A2 : Option Addr) (m c2 : Nat) (hx : IntsAt w B A2 m b.scr) (hB : B ≤ w.heap.size) (hrn : 0 ≤ b.runners ∧ b.runners ≤ 1000) (hr0 : 2 ≤ (racN b).length) (hrl : (racN b).length ≤ 8) :
    Calls Tryz.prog 75 #[bkV b A n c A2 m c2] w fun e w' => ∃ Ag cg, e = .returned (.slice Ag (groupsF b).length cg) ∧ Below w.heap.size w w' ∧ FinX w' (fun k => w.heap.size ≤ k ∧ k < w'.heap.size) Ag (groupsF b).length (groupsF b) ∧ (groupsF b).length ≤ cg := by
  refine enter 38 Tryz.func75 (by kernel_rfl) fun hA => ?_
  refine runS hA 16 (List.replicate 8 (.k 0)) xn on (by kernel_rfl) fun w1 hA => ?_
  have hA0 := (hA.atK [⟨w.heap.size, .cells #[.int .i64 b.kind, .int .i64 b.runners, .slice A n c, .slice A2 m c2, .bool b.fav, .int .i64 b.car, .int .i64 b.dut, .int .i64 b.stp] 72 (0, 0)⟩, ⟨w.heap.size + 1, .cells #[.slice none 0 0] 23 (0, 0)⟩] (by kernel_rfl)).lower (kn := [⟨w.heap.size, .cells #[.int .i64 b.kind, .int .i64 b.runners, .slice A n c, .slice A2 m c2, .bool b.fav, .int .i64 b.car, .int .i64 b.dut, .int .i64 b.stp] 72 (0, 0)⟩])
  refine call hA [] on (racing_any w1 B b A n c A2 m c2 (hx.below hA.below hB) (Nat.le_trans hB hA.size) hrn) (by kernel_rfl) (by rintro e v ⟨v2, rfl, -, hb⟩; exact hb) ?_
  rintro e w2 ⟨v, rfl, hown, hbr⟩
  refine ⟨_, rfl, fun hA => ?_⟩
  obtain ⟨ob0, hr0, hA2⟩ := At.own hA0 hbr hown
  obtain ⟨gb, cap, cur, rfl, rfl, q1, q2, q3, q4⟩ : ∃ gb cap cur, v = .slice (some ⟨gb, 0, none⟩) (racN b).length cap ∧ ob0 = [⟨gb, .cells cur 3 (0, 0)⟩] ∧ _ := by
    rcases hr0.2 with ⟨-, h, -⟩ | h
    · omega
    · exact h
  rw [Nat.mul_one] at q3 q4
  refine reknow ⟨[⟨w.heap.size, .cells #[.int .i64 b.kind, .int .i64 b.runners, .slice A n c, .slice A2 m c2, .bool b.fav, .int .i64 b.car, .int .i64 b.dut, .int .i64 b.stp] 72 (0, 0)⟩], w2.heap.size, [], [], [], [], []⟩ hA2 (Nat.zero_le _) fun hA => ?_
  replace hA : AtS _ _ _ ([⟨w.heap.size + 1, .cells #[.slice none 0 0] 23 (0, 0)⟩] ++ ([] ++ [⟨gb, .cells cur 3 (0, 0)⟩])) := hA.perm (List.perm_append_comm (l₁ := ([⟨gb, .cells cur 3 (0, 0)⟩] : List KB)) (l₂ := ([⟨w.heap.size + 1, .cells #[.slice none 0 0] 23 (0, 0)⟩] : List KB)))
  refine runS hA 5 [] xn on (by kernel_rfl) fun w3 hA => ?_
  have hRV0 : RowV 23 1 (.slice (some ⟨w.heap.size + 1, 0, none⟩) ([[]] : List (List Int)).length 1) ([[]] : List (List Int)).length [.slice none 0 0] [⟨w.heap.size + 1, .cells #[.slice none 0 0] 23 (0, 0)⟩] := ⟨rfl, .inr ⟨_, _, _, rfl, rfl, Nat.le_refl _, by decide, rfl, rfl⟩⟩
  have hG0 : GrpsAt [] [.slice none 0 0] (grsF ((racN b).take 0)) := ⟨rfl, fun j hj => by
    have hj0 : j = 0 := by simp [grsF] at hj; omega
    subst hj0
    exact ⟨_, rfl, none, 0, rfl, Nat.le_refl _, fun h => absurd h (Nat.lt_irrefl _)⟩⟩
  refine loop (γ := Nat × List (List Int) × Option Addr × Nat × List Value × List KB × List KB) (fun ⟨k, gs, Av, cv, vs, ob, rest⟩ => [(2, .slice none 0 0), (3, .slice Av gs.length cv), (10, .slice (some ⟨gb, 0, none⟩) ((racN b).length) cap), (11, .int .i64 ((racN b).length)), (12, .int .i64 (k : Int))]) (fun ⟨k, gs, Av, cv, vs, ob, rest⟩ => []) (fun ⟨k, gs, Av, cv, vs, ob, rest⟩ => ob ++ (rest ++ [⟨gb, .cells cur 3 (0, 0)⟩])) (fun g ⟨k, gs, Av, cv, vs, ob, rest⟩ wr => k ≤ (racN b).length ∧ g = (racN b).length - k ∧ gs = grsF ((racN b).take k) ∧ RowV 23 1 (.slice Av gs.length cv) gs.length vs ob ∧ GrpsAt rest vs gs) ((racN b).length) ⟨0, [[]], some ⟨w.heap.size + 1, 0, none⟩, 1, [.slice none 0 0], [⟨w.heap.size + 1, .cells #[.slice none 0 0] 23 (0, 0)⟩], []⟩ [false] hA (by kernel_rfl) (⟨Nat.zero_le _, rfl, rfl, hRV0, hG0⟩) ?_
  rintro _ ⟨k, gs, Av, cv, vs, ob, rest⟩ wr ⟨hk, rfl, hgs, hRV, hGr⟩ J hJ hA
  have hlen : gs.length = 2 ^ k := by rw [hgs]; exact grsF_len _ _ hk
  have hk8 : 2 ^ k ≤ 2 ^ 8 := Nat.pow_le_pow_right (by decide) (by omega)
  have hpos : 0 < 2 ^ k := Nat.pow_pos (by decide)
  have hshort : ∀ g ∈ gs, g.length ≤ 8 := fun g hg => by rw [hgs] at hg; have := grsF_short _ _ hk g hg; omega
  obtain ⟨g0, cap0, cur0, hAv, rfl, hnc0, hcm0, hcs0, hct0⟩ : ∃ g0 cap0 cur0, Value.slice Av gs.length cv = .slice (some ⟨g0, 0, none⟩) gs.length cap0 ∧ ob = [⟨g0, .cells cur0 23 (0, 0)⟩] ∧ _ := by
    rcases hRV.2 with ⟨-, h, -⟩ | h
    · omega
    · exact h
  cases hAv
  rw [Nat.mul_one] at hcs0 hct0
  by_cases hlt : k < (racN b).length
  case neg =>
    refine runS hA 9 [.b false] xn (oc (dec_f (show ¬ (((k : Int) : Int) < ((racN b).length : Int)) by omega)) on) (by kernel_rfl) fun w4 hA => ?_
    refine leave hA (by kernel_rfl) fun hA => ?_
    refine runS hA 10 [.i] xn (oc (show (0 : Int) ≤ (1 : Int) ∧ (1 : Int) ≤ (gs.length : Int) ∧ (gs.length : Int) ≤ (cv : Int) ∧ (cv : Int) ≤ (cv : Int) by omega) on) (by kernel_rfl) fun w5 hA => ?_
    have hkl : k = (racN b).length := by omega
    have hge : 4 ≤ 2 ^ k := by have : 2 ^ 2 ≤ 2 ^ k := Nat.pow_le_pow_right (by decide) (by omega); exact this
    have hgg : groupsF b = gs.drop 1 := by unfold groupsF; rw [hgs, hkl, List.take_length]
    have hgl : (groupsF b).length = gs.length - 1 := by rw [hgg, List.length_drop]
    have hz9 : w5.heap.size = wr.heap.size := hA.at_.size.trans (by kernel_rfl)
    refine ret (v := .slice (subA (some ⟨g0, 0, none⟩) 1 cv 1) (gs.length - 1) (cv - 1)) hA [] (by kernel_rfl) ⟨some ⟨g0, 0 + 1 * 1, none⟩, cv - 1, by rw [hgl]; congr 2; exact subA_at (by omega), hA.below, ?_, by omega⟩
    refine ⟨rfl, by omega, fun _ => ⟨g0, 0 + 1 * 1, rfl, ⟨hA.at_.rlow ⟨g0, .cells cur0 23 (0, 0)⟩ (by simp), hA.at_.rlt (kb := ⟨g0, .cells cur0 23 (0, 0)⟩) (by simp)⟩, fun j hj => ?_⟩⟩
    obtain ⟨u, hu1, hu2⟩ := hGr.2 (1 + j) (by omega)
    rw [hgg, List.getElem?_drop]
    have hsh : (gs[1 + j]?.getD []).length ≤ 1000 := by rw [List.getElem?_eq_getElem (by omega)]; have := hshort _ (List.getElem_mem (by omega : 1 + j < gs.length)); simp only [Option.getD_some]; omega
    obtain ⟨A', c', e1, e2, e3⟩ := GrpAt.cell (hu2.mono (r' := [⟨g0, .cells cur0 23 (0, 0)⟩] ++ (rest ++ [⟨gb, .cells cur 3 (0, 0)⟩])) (fun kb h => by simp [h])) hA.at_ hsh
    refine ⟨A', c', ?_, e2, e3⟩
    refine cell_of_obj (hA.at_.rok ⟨g0, .cells cur0 23 (0, 0)⟩ (by simp)) rfl ?_
    show cur0[0 + 1 * 1 + j]? = _
    rw [← e1, ← hu1, ← hct0, List.getElem?_take_of_lt (by omega), show 0 + 1 * 1 + j = 1 + j by omega, Array.getElem?_toList]
  case pos =>
    refine runS hA 14 [.b true, .i] xn (oc (dec_t (show (((k : Int) : Int) < ((racN b).length : Int)) by omega)) (oc (show (0 : Int) ≤ ((k : Int) : Int) ∧ ((k : Int) : Int) < ((racN b).length : Int) by omega) on)) (by kernel_rfl) fun w4 hA => ?_
    have hrk : w4.cell? ⟨gb, 0 + k * 1, none⟩ = some (.int .i64 ((racN b)[k]?.getD 0)) := by
      refine cell_of_obj (hA.at_.rok ⟨gb, .cells cur 3 (0, 0)⟩ (by simp)) rfl ?_
      show cur[0 + k * 1]? = _
      rw [Nat.zero_add, Nat.mul_one]
      exact take_get q4 hlt rfl
    refine opv (v := .int .i64 ((racN b)[k]?.getD 0)) hA [] on (s := ldSem 3 (.pointer (some ⟨gb, 0 + k * 1, none⟩))) (by kernel_rfl) (ld_run [.x (.int .i64 ((racN b)[k]?.getD 0))] (xc (a := ⟨gb, 0 + k * 1, none⟩) (cell_lt hrk) xn) (by kernel_rfl)) fun hA => ?_
    refine runS hA 11 [] xn on (by kernel_rfl) fun w5 hA => ?_
    have hin0 : ∃ cu, (⟨g0, .cells cu 23 (0, 0)⟩ : KB) ∈ [⟨g0, .cells cur0 23 (0, 0)⟩] ++ rest ∧ ∀ i, i < gs.length → cu[i]? = vs[i]? := ⟨cur0, by simp, fun i hi => by rw [← hct0, List.getElem?_take_of_lt hi, Array.getElem?_toList]⟩
    have hGr0 : GrpsAt rest vs (gs ++ (gs.take 0).map (· ++ [((racN b)[k]?.getD 0)])) := by rw [List.take_zero, List.map_nil, List.append_nil]; exact hGr
    refine loop (γ := Nat × Option Addr × Nat × List Value × List KB × List KB) (fun ⟨j, Aw, cw, vt, ot, rt⟩ => [(2, .slice none 0 0), (3, .slice Aw (gs.length + j) cw), (5, .int .i64 ((racN b)[k]?.getD 0)), (10, .slice (some ⟨gb, 0, none⟩) ((racN b).length) cap), (11, .int .i64 ((racN b).length)), (12, .int .i64 (k : Int)), (16, .slice (some ⟨g0, 0, none⟩) gs.length cv), (17, .int .i64 gs.length), (18, .int .i64 (j : Int))]) (fun ⟨j, Aw, cw, vt, ot, rt⟩ => []) (fun ⟨j, Aw, cw, vt, ot, rt⟩ => ot ++ (rt ++ [⟨gb, .cells cur 3 (0, 0)⟩])) (fun g ⟨j, Aw, cw, vt, ot, rt⟩ wt => j ≤ gs.length ∧ g = gs.length - j ∧ RowV 23 1 (.slice Aw (gs.length + j) cw) (gs.length + j) vt ot ∧ GrpsAt rt vt (gs ++ (gs.take j).map (· ++ [((racN b)[k]?.getD 0)])) ∧ ∃ cu, (⟨g0, .cells cu 23 (0, 0)⟩ : KB) ∈ ot ++ rt ∧ ∀ i, i < gs.length → cu[i]? = vt[i]?) gs.length ⟨0, some ⟨g0, 0, none⟩, cv, vs, [⟨g0, .cells cur0 23 (0, 0)⟩], rest⟩ [] hA (by kernel_rfl) (⟨Nat.zero_le _, rfl, hRV, hGr0, hin0⟩) ?_
    rintro _ ⟨j, Aw, cw, vt, ot, rt⟩ wt ⟨hj, rfl, hRW, hGt, cu, hcu, hcv⟩ J2 hJ2 hA
    by_cases hlj : j < gs.length
    case neg =>
      refine runS hA 9 [.b false] xn (oc (dec_f (show ¬ (((j : Int) : Int) < (gs.length : Int)) by omega)) on) (by kernel_rfl) fun w6 hA => ?_
      refine leave hA (by kernel_rfl) fun hA => ?_
      refine runS hA 7 [] xn on (by kernel_rfl) fun w7 hA => ?_
      have hjl : j = gs.length := by omega
      rw [hjl, List.take_length] at hGt
      rw [hjl] at hRW
      have hng : gs ++ gs.map (· ++ [((racN b)[k]?.getD 0)]) = grsF ((racN b).take (k + 1)) := by rw [grsF_take hlt, ← hgs]
      have hnl : (gs ++ gs.map (· ++ [((racN b)[k]?.getD 0)])).length = gs.length + gs.length := by rw [List.length_append, List.length_map]
      refine revals hA (rc 3 (show .slice Aw (gs.length + j) cw = .slice Aw ((gs ++ gs.map (· ++ [((racN b)[k]?.getD 0)])).length) cw by rw [hnl, hjl]) (rc 12 (wr64 (x := (k : Int) + 1) (y := ((k + 1 : Nat) : Int)) (by omega) (by omega)) rn)) (by kernel_rfl) fun hA => ?_
      exact again hJ ((racN b).length - (k + 1)) (⟨k + 1, gs ++ gs.map (· ++ [((racN b)[k]?.getD 0)]), Aw, cw, vt, ot, rt⟩) [] hA (by omega) (by kernel_rfl) ⟨by omega, rfl, hng, by rw [hnl]; exact hRW, hGt⟩
    case pos =>
      obtain ⟨G, hG⟩ : ∃ G, G = gs[j]?.getD [] := ⟨_, rfl⟩
      have hGm : G ∈ gs := by rw [hG, List.getElem?_eq_getElem hlj]; exact List.getElem_mem _
      have hGs := hshort G hGm
      obtain ⟨u, hu1, hu2⟩ := hGt.2 j (by rw [List.length_append]; omega)
      rw [List.getElem?_append_left hlj, ← hG] at hu2
      obtain ⟨Aj, cj, rfl, hcj, -⟩ := id hu2
      refine runS hA 14 [.b true, .i] xn (oc (dec_t (show (((j : Int) : Int) < (gs.length : Int)) by omega)) (oc (show (0 : Int) ≤ ((j : Int) : Int) ∧ ((j : Int) : Int) < (gs.length : Int) by omega) on)) (by kernel_rfl) fun w6 hA => ?_
      have hrj : w6.cell? ⟨g0, 0 + j * 1, none⟩ = some (.slice Aj G.length cj) := by
        refine cell_of_obj (hA.at_.rok ⟨g0, .cells cu 23 (0, 0)⟩ (show _ ∈ ot ++ (rt ++ [⟨gb, .cells cur 3 (0, 0)⟩]) by rw [← List.append_assoc]; exact List.mem_append_left _ hcu)) rfl ?_
        show cu[0 + j * 1]? = _
        rw [Nat.zero_add, Nat.mul_one, hcv j hlj]
        exact hu1
      refine opv (v := .slice Aj G.length cj) hA [] on (s := ldSem 23 (.pointer (some ⟨g0, 0 + j * 1, none⟩))) (by kernel_rfl) (ld_run [.x (.slice Aj G.length cj)] (xc (a := ⟨g0, 0 + j * 1, none⟩) (cell_lt hrj) xn) (by kernel_rfl)) fun hA => ?_
      refine runS hA 13 [.i] xn (oc (show (0 : Int) ≤ (0 : Int) ∧ (0 : Int) ≤ (G.length : Int) ∧ (G.length : Int) ≤ (G.length : Int) ∧ (G.length : Int) ≤ (cj : Int) by omega) on) (by kernel_rfl) fun w7 hA => ?_
      have hcl := cell_of_obj (a := ⟨w6.heap.size, 0, none⟩) (hA.at_.ok ⟨w6.heap.size, .cells #[.int .i64 ((racN b)[k]?.getD 0)] 3 (0, 0)⟩ (List.mem_of_getElem? (i := 0) (by kernel_rfl))) rfl rfl
      have hrd := GrpAt.reads (hu2.mono (r' := ot ++ (rt ++ [⟨gb, .cells cur 3 (0, 0)⟩])) (fun kb h => by simp [h])) hA.at_ rfl
      refine appN (t := 23) (e := 3) (ty := 23) (z := .int .i64 0) (size := 1) (bytes := 8) (n := G.length) (cap := G.length) (m := 1) (cp := 1) (A := subA Aj 0 G.length 1) (A' := some ⟨w6.heap.size, 0, none⟩) (ints G) [.int .i64 ((racN b)[k]?.getD 0)] hA (by kernel_rfl) (by simp [ints]) hrd.1 hrd.2 (Nat.le_refl _) rfl (fun _ => ⟨_, rfl, fun j u hu => by cases j with | zero => cases hu; exact hcl | succ j => cases hu⟩) rfl (by omega) (by omega) (by omega) fun v1 w8 ob1 hr1 hge1 hb1 hA => ?_
      obtain ⟨g1, cap1, cur1, rfl, rfl, hc1, -, hs1, ht1⟩ : ∃ g1 cap1 cur1, v1 = .slice (some ⟨g1, 0, none⟩) (G.length + 1) cap1 ∧ ob1 = [⟨g1, .cells cur1 3 (0, 0)⟩] ∧ _ := by
        rcases hr1.2 with ⟨-, h, -⟩ | h
        · omega
        · exact h
      refine runS hA 1 [] xn on (by kernel_rfl) fun w9 hA => ?_
      replace hA : AtS _ _ _ (ot ++ ([⟨g1, .cells cur1 3 (0, 0)⟩] ++ (rt ++ [⟨gb, .cells cur 3 (0, 0)⟩]))) := hA.perm (List.perm_append_comm_assoc ([⟨g1, .cells cur1 3 (0, 0)⟩] : List KB) ot (rt ++ [⟨gb, .cells cur 3 (0, 0)⟩]))
      have hcl2 := cell_of_obj (a := ⟨w8.heap.size, 0, none⟩) (hA.at_.ok ⟨w8.heap.size, .cells #[.slice (some ⟨g1, 0, none⟩) (G.length + 1) cap1] 23 (0, 0)⟩ (List.mem_of_getElem? (i := 1) (by kernel_rfl))) rfl rfl
      refine appK (t := 26) (e := 23) (ty := 26) (z := .slice none 0 0) (size := 1) (bytes := 24) (v := .slice Aw (gs.length + j) cw) (n := gs.length + j) (m := 1) (cp := 1) (a := ⟨w8.heap.size, 0, none⟩) [.slice (some ⟨g1, 0, none⟩) (G.length + 1) cap1] hA hRW (by kernel_rfl) rfl (fun j u hu => by cases j with | zero => cases hu; exact hcl2 | succ j => cases hu) rfl (by omega) (by omega) fun v2 w10 ob2 old hr2 hnil2 hold hsz2 hA => ?_
      obtain ⟨g2, cap2, cur2, rfl, rfl, hc2', hm2, hs2, ht2⟩ : ∃ g2 cap2 cur2, v2 = .slice (some ⟨g2, 0, none⟩) (gs.length + j + 1) cap2 ∧ ob2 = [⟨g2, .cells cur2 23 (0, 0)⟩] ∧ _ := by
        rcases hr2.2 with ⟨-, h, -⟩ | h
        · omega
        · exact h
      refine runS hA 8 [] xn on (by kernel_rfl) fun w11 hA => ?_
      have hvl : vt.length = gs.length + j := by have := hRW.1; omega
      have hGn : GrpAt (old ++ ([⟨g1, .cells cur1 3 (0, 0)⟩] ++ rt)) (.slice (some ⟨g1, 0, none⟩) (G.length + 1) cap1) (G ++ [((racN b)[k]?.getD 0)]) := by
        refine ⟨_, _, by rw [List.length_append]; rfl, by rw [List.length_append]; exact hc1, fun _ => ⟨g1, cur1, rfl, by simp, fun i hi => ?_⟩⟩
        rw [List.length_append, List.length_singleton] at hi
        refine take_get (n := G.length + 1) ?_ hi (by rw [List.length_append]; rfl)
        rw [Nat.mul_one] at ht1
        rw [ht1]; unfold ints; rw [List.map_append]; rfl
      have hGt2 : GrpsAt (old ++ ([⟨g1, .cells cur1 3 (0, 0)⟩] ++ rt)) (vt ++ [.slice (some ⟨g1, 0, none⟩) (G.length + 1) cap1]) (gs ++ (gs.take (j + 1)).map (· ++ [((racN b)[k]?.getD 0)])) := by
        have e9 : gs ++ (gs.take (j + 1)).map (· ++ [((racN b)[k]?.getD 0)]) = (gs ++ (gs.take j).map (· ++ [((racN b)[k]?.getD 0)])) ++ [gs[j] ++ [((racN b)[k]?.getD 0)]] := by rw [List.take_add_one, List.getElem?_eq_getElem hlj, List.map_append, List.append_assoc]; rfl
        have hGe : G = gs[j] := by rw [hG, List.getElem?_eq_getElem hlj]; rfl
        rw [hGe] at hGn
        rw [e9, hGe]
        exact (hGt.mono (fun kb h => by simp [h])).snoc hGn
      have hcu2 : ∃ cu, (⟨g0, .cells cu 23 (0, 0)⟩ : KB) ∈ [⟨g2, .cells cur2 23 (0, 0)⟩] ++ (old ++ ([⟨g1, .cells cur1 3 (0, 0)⟩] ++ rt)) ∧ ∀ i, i < gs.length → cu[i]? = (vt ++ [.slice (some ⟨g1, 0, none⟩) (G.length + 1) cap1])[i]? := by
        have hpre : ∀ i, i < gs.length → cu[i]? = (vt ++ [Value.slice (some ⟨g1, 0, none⟩) (G.length + 1) cap1])[i]? := fun i hi => by rw [hcv i hi, List.getElem?_append_left (by omega)]
        rcases List.mem_append.1 hcu with hm | hm
        · rcases hold with ⟨rfl, hob⟩ | rfl
          · obtain ⟨g3, cap3, cur3, e3, rfl, -⟩ : ∃ g3 cap3 cur3, Value.slice Aw (gs.length + j) cw = .slice (some ⟨g3, 0, none⟩) (gs.length + j) cap3 ∧ ot = [⟨g3, .cells cur3 23 (0, 0)⟩] ∧ _ := by
              rcases hRW.2 with ⟨-, h, -⟩ | h
              · omega
              · exact h
            cases e3
            have e4 : g2 = g3 := by simpa [Value.ownBlock] using hob
            have e5 := List.mem_singleton.1 hm
            simp only [KB.mk.injEq] at e5
            refine ⟨cur2, by rw [e4, e5.1]; simp, fun i hi => ?_⟩
            rw [← ht2, List.getElem?_take_of_lt (by omega), Array.getElem?_toList]
          · exact ⟨cu, by simp [hm], hpre⟩
        · exact ⟨cu, by simp [hm], hpre⟩
      refine revals hA (rc 18 (wr64 (x := (j : Int) + 1) (y := ((j + 1 : Nat) : Int)) (by omega) (by omega)) rn) (by kernel_rfl) fun hA => ?_
      replace hA : AtS _ _ _ ([⟨g2, .cells cur2 23 (0, 0)⟩] ++ ((old ++ ([⟨g1, .cells cur1 3 (0, 0)⟩] ++ rt)) ++ [⟨gb, .cells cur 3 (0, 0)⟩])) := hA.cast (by simp only [List.append_assoc])
      exact again hJ2 (gs.length - (j + 1)) (⟨j + 1, some ⟨g2, 0, none⟩, cap2, vt ++ [.slice (some ⟨g1, 0, none⟩) (G.length + 1) cap1], [⟨g2, .cells cur2 23 (0, 0)⟩], old ++ ([⟨g1, .cells cur1 3 (0, 0)⟩] ++ rt)⟩) [] hA (by omega) (by kernel_rfl) ⟨by omega, rfl, hr2, hGt2, hcu2⟩
end Go.Proofs.YtbahiemjaomdcaaGreat

/- pool: the iterator heads$1. -/
namespace Go.Proofs.YtbahiemjaomdcaaGreat
open Go.RowKit Go.Shelf

/-- The beginnings with a runner alone: the groups behind it. -/
def secW (f : List Int) (ss : List (List Int)) : List (List (List Int)) := (ss.filter fun s => !decide ((f[0]?.getD 0) ∈ s)).map fun s => [f, s]
def headF (gs : List (List Int)) (f : List Int) : List (List (List Int)) := if 1 < f.length then [[f]] else secW f gs
def headsL (gs : List (List Int)) : List (List (List Int)) := gs.flatMap (headF gs)
def headP (gs : List (List Int)) (k j : Nat) : List (List (List Int)) := (gs.take k).flatMap (headF gs) ++ secW (gs[k]?.getD []) (gs.take j)
section
variable {gs : List (List Int)} {k j : Nat}
theorem headP_zero (k : Nat) : headP gs k 0 = (gs.take k).flatMap (headF gs) := by simp [headP, secW]
theorem headP_succ (h : k < gs.length) : headP gs (k + 1) 0 = (gs.take k).flatMap (headF gs) ++ headF gs gs[k] := by
  rw [headP_zero, List.take_add_one, List.getElem?_eq_getElem h, Option.toList_some, List.flatMap_append]
  simp
theorem headP_big (h : k < gs.length) (hb : 1 < (gs[k]?.getD []).length) : headP gs k 0 ++ [[gs[k]?.getD []]] = headP gs (k + 1) 0 := by
  rw [headP_succ h, headP_zero]
  rw [List.getElem?_eq_getElem h] at hb ⊢
  unfold headF
  rw [if_pos (by simpa using hb)]
  rfl
theorem headP_row (h : k < gs.length) (hb : ¬ 1 < (gs[k]?.getD []).length) (hj : gs.length ≤ j) : headP gs k j = headP gs (k + 1) 0 := by
  rw [headP_succ h]
  unfold headP
  rw [List.take_of_length_le hj]
  rw [List.getElem?_eq_getElem h] at hb ⊢
  congr 1
  unfold headF
  rw [if_neg (by simpa using hb)]
  rfl
theorem secW_step (h : j < gs.length) (f : List Int) : secW f (gs.take (j + 1)) = secW f (gs.take j) ++ (if (f[0]?.getD 0) ∈ gs[j]?.getD [] then [] else [[f, gs[j]?.getD []]]) := by
  unfold secW
  rw [List.take_add_one, List.getElem?_eq_getElem h, Option.toList_some, List.filter_append, List.map_append]
  congr 1
  simp only [Option.getD_some, List.filter_cons, List.filter_nil]
  by_cases hm : (f[0]?.getD 0) ∈ gs[j]
  · rw [if_pos hm, if_neg (by simpa using hm)]; rfl
  · rw [if_neg hm, if_pos (by simpa using hm)]; rfl
theorem headP_yes (h : j < gs.length) (hm : ((gs[k]?.getD [])[0]?.getD 0) ∉ gs[j]?.getD []) : headP gs k j ++ [[gs[k]?.getD [], gs[j]?.getD []]] = headP gs k (j + 1) := by
  unfold headP
  rw [secW_step h, if_neg hm, List.append_assoc]
theorem headP_no (h : j < gs.length) (hm : ((gs[k]?.getD [])[0]?.getD 0) ∈ gs[j]?.getD []) : headP gs k (j + 1) = headP gs k j := by
  unfold headP
  rw [secW_step h, if_pos hm, List.append_nil]
theorem headP_all (h : gs.length ≤ k) : headP gs k 0 = headsL gs := by rw [headP_zero, List.take_of_length_le h]; rfl
theorem headF_len (f : List Int) (hp : 0 < gs.length) : (headF gs f).length ≤ gs.length := by
  unfold headF secW
  split
  · exact hp
  · rw [List.length_map]; exact List.length_filter_le _ _
theorem headP_len (hp : 0 < gs.length) : ∀ k, ((gs.take k).flatMap (headF gs)).length ≤ k * gs.length
  | 0 => by simp
  | k + 1 => by
    rw [List.take_add_one, List.flatMap_append, List.length_append, Nat.add_mul, Nat.one_mul]
    refine Nat.add_le_add (headP_len hp k) ?_
    cases h : gs[k]? with
    | none => simp
    | some f => simpa using headF_len f hp
theorem headP_few (hp : 0 < gs.length) (hl : gs.length ≤ 256) (hk : k ≤ gs.length) : (headP gs k j).length < 100000 := by
  have h1 := headP_len hp k
  have h2 : k * gs.length ≤ 256 * 256 := Nat.mul_le_mul (by omega) hl
  have h3 : (secW (gs[k]?.getD []) (gs.take j)).length ≤ gs.length := by
    unfold secW
    rw [List.length_map]
    exact Nat.le_trans (List.length_filter_le _ _) (by rw [List.length_take]; exact Nat.min_le_right _ _)
  unfold headP
  rw [List.length_append]
  omega
end
/-- What groups are: none is empty, and they hold numbers of runners. -/
def GrpsOk (R : Nat) (gs : List (List Int)) : Prop := 0 < gs.length ∧ gs.length ≤ 256 ∧ ∀ g ∈ gs, 0 < g.length ∧ g.length ≤ 8 ∧ ∀ x ∈ g, 0 ≤ x ∧ x < (R : Int)
theorem grsF_mem (rs : List Int) : ∀ k, k ≤ rs.length → ∀ g ∈ grsF (rs.take k), ∀ x ∈ g, x ∈ rs
  | 0, _, g, hg, x, hx => by
    have : g = [] := by simpa [grsF] using hg
    rw [this] at hx; cases hx
  | k + 1, h, g, hg, x, hx => by
    rw [grsF_take (by omega), List.mem_append, List.mem_map] at hg
    rcases hg with hg | ⟨g', hg, rfl⟩
    · exact grsF_mem rs k (by omega) g hg x hx
    · rcases List.mem_append.1 hx with hx | hx
      · exact grsF_mem rs k (by omega) g' hg x hx
      · rw [List.mem_singleton.1 hx, List.getElem?_eq_getElem (by omega)]
        exact List.getElem_mem _
theorem grsF_head (rs : List Int) : ∀ k, k ≤ rs.length → ∃ l, grsF (rs.take k) = [] :: l ∧ ∀ g ∈ l, 0 < g.length
  | 0, _ => ⟨[], rfl, fun _ h => nomatch h⟩
  | k + 1, h => by
    obtain ⟨l, e, hl⟩ := grsF_head rs k (by omega)
    refine ⟨l ++ (grsF (rs.take k)).map (· ++ [rs[k]?.getD 0]), by rw [grsF_take (by omega), e]; rfl, fun g hg => ?_⟩
    rcases List.mem_append.1 hg with hg | hg
    · exact hl g hg
    · obtain ⟨g', -, rfl⟩ := List.mem_map.1 hg
      rw [List.length_append]
      simp
theorem groups_ok {b : Bk} {R : Nat} (hR : b.runners = (R : Int)) (h2 : 2 ≤ (racN b).length) (h8 : (racN b).length ≤ 8) : GrpsOk R (groupsF b) := by
  have hl := grsF_len (racN b) _ (Nat.le_refl _)
  rw [List.take_length] at hl
  have h3 : 2 ^ (racN b).length ≤ 2 ^ 8 := Nat.pow_le_pow_right (by decide) h8
  have h4 : 2 ^ 2 ≤ 2 ^ (racN b).length := Nat.pow_le_pow_right (by decide) h2
  obtain ⟨l, e, hne⟩ := grsF_head (racN b) _ (Nat.le_refl _)
  rw [List.take_length] at e
  have hg : groupsF b = l := by unfold groupsF; rw [e]; rfl
  rw [hg]
  rw [e, List.length_cons] at hl
  refine ⟨by omega, by omega, fun g hgm => ⟨hne g hgm, ?_, fun x hx => ?_⟩⟩
  · have := grsF_short (racN b) _ (Nat.le_refl _) g (by rw [List.take_length, e]; exact List.mem_cons_of_mem _ hgm)
    omega
  · have := grsF_mem (racN b) _ (Nat.le_refl _) g (by rw [List.take_length, e]; exact List.mem_cons_of_mem _ hgm) x hx
    have := (racL_mem b).1 this
    rw [hR] at this
    simpa using this.1
theorem At.base {w0 w1 w : World} {kn rows : List KB} {sz : Nat} (h : At w1 w kn rows sz) (hb : Below w0.heap.size w0 w1) : At w0 w kn [] sz :=
  ⟨h.ok, by simp, fun kb hk => Nat.le_trans hb.size (h.low kb hk), by simp, by have := h.nd; rw [List.map_append, List.nodup_append] at this; exact this.2.1, h.size, hb.trans (h.below.mono hb.size)⟩
/-- Cells of the first known block are written. -/
theorem At.setKn {w0 : World} {kn rows : List KB} {sz g : Nat} {T : TypeId} (vs : List Value) (o : Nat) (w : World) (cur : Array Value) (h : At w0 w (⟨g, .cells cur T (0, 0)⟩ :: kn) rows sz) (ho : o + vs.length ≤ cur.size) :
    ∃ cur' : Array Value, cur'.size = cur.size ∧ (∀ j, cur'[j]? = if o ≤ j ∧ j < o + vs.length then vs[j - o]? else cur[j]?) ∧ At w0 (w.setCells g o vs) (⟨g, .cells cur' T (0, 0)⟩ :: kn) rows sz := by
  obtain ⟨cur', h1, h2, h3⟩ := At.setRow vs o w cur (At.swap h) ho
  exact ⟨cur', h1, h2, At.swap h3⟩
theorem infoB : ∃ i, Tryz.prog.info? 4 = some i ∧ i.size = 1 ∧ i.zero = some (.bool false) := by
  obtain ⟨i, hi⟩ : ∃ i, Tryz.prog.info? 4 = some i := Option.isSome_iff_exists.1 (by kernel_rfl)
  have h1 : (Tryz.prog.info? 4).map (fun i => (i.size, i.zero)) = some (1, some (.bool false)) := by kernel_rfl
  rw [hi] at h1
  simp only [Option.map_some, Option.some.injEq, Prod.mk.injEq] at h1
  exact ⟨i, hi, h1.1, h1.2⟩
def encH (x : Nat × List (List Int)) : Array Value := #[.slice (some ⟨x.1, 0, none⟩) x.2.length x.2.length]
theorem head_ok {b : Bk} {fs : List (List Int)} (h0 : 0 < fs.length) (h1 : (fs[0]?.getD []).length = 1 → 1 < fs.length ∧ 0 < (fs[1]?.getD []).length) (h2 : (fs[0]?.getD []).length ≤ 8) (h3 : (fs[1]?.getD []).length ≤ 8) : FinOk b fs := by
  refine ⟨h0, h1, h2, h3, ?_⟩
  have hp : (plaF fs).length ≤ 16 := by
    unfold plaF srtF
    split
    · rw [List.length_mergeSort, List.length_append]; omega
    · omega
  have hq : (plaF fs).length * (plaF fs).length ≤ 16 * 16 := Nat.mul_le_mul hp hp
  unfold winF
  split
  · rw [sinF_len]; omega
  · split
    · rw [sinF_len]; omega
    · split
      · exact Nat.le_trans (prsF_len _ _) (by omega)
      · exact Nat.le_trans (prsF_len _ _) (by omega)
def VH (b : Bk) (x : Nat × List (List Int)) (X : Nat → Prop) (W : World) : Prop := FinX W X (some ⟨x.1, 0, none⟩) x.2.length x.2 ∧ FinOk b x.2
theorem VH.keep {n₀ : Nat} {C : Nat → Prop} {b : Bk} : ∀ x X W W', VH b x X W → Keep n₀ C X W W' → VH b x X W' := fun _ _ _ _ h hk => ⟨FinX.keep h.1 (fun k o hx ho => hk.same k o ho (.inl hx)) (fun _ h => h), h.2⟩
/-- The blocks that hold the groups. -/
def GB (z ga : Nat) (q : Nat) : Prop := z ≤ q ∧ q < ga
theorem fin_at {w : World} {p : Nat → Prop} {b off n j : Nat} {fs : List (List Int)} (h : FinX w p (some ⟨b, off, none⟩) n fs) (hj : j < n) : ∃ A' c', w.cell? ⟨b, off + j * 1, none⟩ = some (.slice A' (fs[j]?.getD []).length c') ∧ (fs[j]?.getD []).length ≤ c' ∧ IntsX w p A' (fs[j]?.getD []).length (fs[j]?.getD []) := by
  obtain ⟨b', off', e, hb, hc⟩ := h.2.2 (by omega)
  cases e
  obtain ⟨A', c', h1, h2, h3⟩ := hc j hj
  exact ⟨A', c', by rw [Nat.mul_one]; exact h1, h2, h3⟩
theorem intx_at {w : World} {p : Nat → Prop} {b off n j : Nat} {xs : List Int} (h : IntsX w p (some ⟨b, off, none⟩) n xs) (hj : j < n) : w.cell? ⟨b, off + j * 1, none⟩ = some (.int .i64 (xs[j]?.getD 0)) := by
  obtain ⟨b', off', e, hb, hc⟩ := h.2.2 (by omega)
  cases e
  rw [Nat.mul_one]
  exact hc j hj
theorem get_mem {α : Type} {l : List α} {k : Nat} {d : α} (h : k < l.length) : l[k]?.getD d ∈ l := by
  rw [List.getElem?_eq_getElem h]
  exact List.getElem_mem _
theorem keep_others {w0 w w' : World} {kn kn' r : List KB} {sz sz' : Nat} {p : Nat → Prop} (hA : At w0 w kn r sz) (hA' : At w0 w' kn' (others w0 w kn) sz') (hn : ∀ k, p k → k ∉ kn.map KB.id) : ∀ k o, p k → w.heap[k]? = some o → w'.heap[k]? = some o := fun k _ hp ho => others_block hA hA' ho (hn k hp)
set_option maxHeartbeats 4000000 in
set_option maxRecDepth 20000 in
theorem heads1_it (w : World) (n₀ B bx : Nat) (b : Bk) (A : Option Addr) (n c : Nat) (A2 : Option Addr) (m c2 : Nat) (C : Nat → Prop) (h : IntsAt w B A2 m b.scr) (hB : B ≤ w.heap.size) (hn₀ : n₀ ≤ w.heap.size) (hrn : 0 ≤ b.runners ∧ b.runners ≤ 1000) (hr0 : 2 ≤ (racN b).length) (hrl : (racN b).length ≤ 8)
    (hbx : w.heap[bx]? = some (.cells (bkC b A n c A2 m c2) 72 (0, 0))) (hbl : bx < w.heap.size) :
    IterV Tryz.prog 74 #[.pointer (some ⟨bx, 0, none⟩)] encH n₀ C (fun l => l.map Prod.snd = headsL (groupsF b)) (fun _ => True) 100000 (VH b) w := by
  obtain ⟨R, hR⟩ : ∃ R : Nat, b.runners = (R : Int) := ⟨b.runners.toNat, by omega⟩
  have hR9 : 2 ≤ R := by have h8 : (racN b).length ≤ b.runners.toNat := racL_len b b.runners.toNat; omega
  have hgo := groups_ok hR hr0 hrl
  obtain ⟨gs, hgs⟩ : ∃ gs, gs = groupsF b := ⟨_, rfl⟩
  rw [← hgs] at hgo ⊢
  obtain ⟨hgp, hg256, hgm⟩ := hgo
  intro l U Ux W hb hU hUx hY h0
  have hzb := hb.size
  have hbW : Below (cutW w n₀).heap.size (cutW w n₀) W := cut_below hn₀ (hb.mono hn₀)
  have hbx' : W.heap[bx]? = some (.cells (bkC b A n c A2 m c2) 72 (0, 0)) := (hb.block bx hbl).trans hbx
  have hc9 : ∀ (j : Nat) (v : Value), (bkC b A n c A2 m c2)[j]? = some v → bx < W.heap.size ∧ W.cell? ⟨bx, j, none⟩ = some v := fun j v hv => cell_lt (cell_of_obj (a := ⟨bx, j, none⟩) hbx' rfl hv)
  refine enterK 62 Tryz.func74 (by kernel_rfl) (At.plain hbW) fun hA => ?_
  refine rebase hA W (by kernel_rfl) (At.start _) fun hA => ?_
  refine runS hA 3 [.x (.int .i64 b.kind), .x (.int .i64 b.runners), .x (.slice A n c), .x (.slice A2 m c2), .x (.bool b.fav), .x (.int .i64 b.car), .x (.int .i64 b.dut), .x (.int .i64 b.stp)] (xc (a := ⟨bx, 0, none⟩) (hc9 0 _ rfl) (xc (a := ⟨bx, 1, none⟩) (hc9 1 _ rfl) (xc (a := ⟨bx, 2, none⟩) (hc9 2 _ rfl) (xc (a := ⟨bx, 3, none⟩) (hc9 3 _ rfl) (xc (a := ⟨bx, 4, none⟩) (hc9 4 _ rfl) (xc (a := ⟨bx, 5, none⟩) (hc9 5 _ rfl) (xc (a := ⟨bx, 6, none⟩) (hc9 6 _ rfl) (xc (a := ⟨bx, 7, none⟩) (hc9 7 _ rfl) xn)))))))) on (by kernel_rfl) fun w1 hA => ?_
  have hgr := groups_any w1 B b A n c A2 m c2 (h.below (hb.trans (hA.below.mono hb.size)) hB) (Nat.le_trans hB (Nat.le_trans hb.size hA.size)) (by omega) hr0 hrl
  rw [← hgs] at hgr
  have hz1 : W.heap.size ≤ w1.heap.size := hA.size
  refine call hA [] on (hgr) (by kernel_rfl) (by rintro e v ⟨Ag, cg, rfl, hbg, hG, hgc⟩; exact hbg) ?_
  rintro e w2 ⟨Ag, cg, rfl, hbg, hG, hgc⟩
  refine ⟨_, rfl, fun hA => ?_⟩
  have hz2 := hbg.size
  obtain ⟨b0, off0, rfl, hb0, -⟩ := hG.2.2 hgp
  obtain ⟨hb00, hb01⟩ : _ ∧ _ := hb0
  replace hA := hA.allK [] (by kernel_rfl)
  have hA2 := hA.atK [] (by kernel_rfl)
  refine runS hA 8 [.x (.int .i64 b.runners)] (xc (a := ⟨bx, 1, none⟩) (hc9 1 _ rfl) xn) on (by kernel_rfl) fun w3 hA => ?_
  have hz3 : w3.heap.size = w2.heap.size := hA.at_.size.trans (by kernel_rfl)
  have hbk := below_all hA2 hA.at_ rfl (Nat.le_of_eq hz3.symm)
  obtain ⟨ga, hga⟩ : ∃ ga, ga = w3.heap.size := ⟨_, rfl⟩
  refine mkS (t := 123) (e := 4) (z := .bool false) (size := 1) (bytes := 1) (n := R) (l := b.runners) (kl := .i64) (kc := .i64) hA hR (by kernel_rfl) (by omega) (by omega) fun w4 hzm hbm hA => ?_
  rw [← hga] at hA hzm ⊢
  have hG1 : FinX w4 (GB W.heap.size ga) (some ⟨b0, off0, none⟩) gs.length gs := hG.keep (fun q o (hq : w1.heap.size ≤ q ∧ q < w2.heap.size) ho => (hbm.block q (by omega)).trans ((hbk.block q (by omega)).trans ho)) (fun q (hq : w1.heap.size ≤ q ∧ q < w2.heap.size) => ⟨by omega, by omega⟩)
  obtain ⟨X0, hX0⟩ : ∃ X0 : Nat → Prop, X0 = fun q => W.heap.size ≤ q ∧ q < w4.heap.size := ⟨_, rfl⟩
  have hU1 : U [] X0 w4 := hU _ _ _ _ _ h0 (St.of_below hA.below) ⟨fun _ h => h.elim, fun q hq => .inr (by rw [hX0] at hq; exact hq.1)⟩
  obtain ⟨cu0, hcu0⟩ : ∃ cu0, cu0 = (madeCells (Value.bool false).cells (R * 1)) := ⟨_, rfl⟩
  have hcs0 : cu0.size = R := by rw [hcu0, size_madeCells, Nat.mul_one]
  have hAk := hA.atK [⟨ga, .cells (madeCells (Value.bool false).cells (R * 1)) 4 (0, 0)⟩] (by kernel_rfl)
  rw [← hcu0] at hAk
  refine back hA (kn' := [⟨ga, .cells cu0 4 (0, 0)⟩]) (by kernel_rfl) (hAk.resize.base hbW) fun hA => ?_
  replace hA := hA.allK [⟨ga, .cells cu0 4 (0, 0)⟩] (by kernel_rfl)
  have hA3 := hA.atK [⟨ga, .cells cu0 4 (0, 0)⟩] (by kernel_rfl)
  refine runS hA 11 [] xn on (by kernel_rfl) fun w5 hA => ?_
  have hR0 : U [] X0 w5 ∧ FinX w5 (GB W.heap.size ga) (some ⟨b0, off0, none⟩) gs.length gs ∧ (∀ q, W.heap.size ≤ q → q ≤ ga → X0 q) ∧ (∀ q, X0 q → W.heap.size ≤ q ∧ q < w5.heap.size) ∧ W.heap.size ≤ w5.heap.size := by
    have hz4 : w5.heap.size = w4.heap.size := hA.at_.size.trans (by kernel_rfl)
    have hX1 : X0 ga := by rw [hX0]; exact ⟨by omega, by omega⟩
    refine ⟨hU _ _ _ _ _ hU1 (st_others hA3 hA.at_ rfl (Nat.le_of_eq hz4.symm) (fun kb hk => by rw [List.mem_singleton.1 hk]; exact hX1)) (Grows.refl _ _), hG1.keep (keep_others hA3 hA.at_ (fun k hk hm => by have h9 : k < ga := hk.2; have := List.mem_singleton.1 hm; have : k = ga := this; omega)) (fun _ h => h), fun q h1 h2 => by rw [hX0]; exact ⟨h1, by omega⟩, fun q hq => by rw [hX0] at hq; have hq : W.heap.size ≤ q ∧ q < w4.heap.size := hq; omega, by omega⟩
  have hz4 : W.heap.size ≤ ga := by omega
  have hnga : ∀ k, GB W.heap.size ga k → k ∉ [ga] := fun k hk hm => by have h9 : k < ga := hk.2; rw [List.mem_singleton.1 hm] at h9; omega
  have hb0' : GB W.heap.size ga b0 := ⟨by omega, by omega⟩
  have hzL : w5.heap.size = w4.heap.size := hA.at_.size.trans (by kernel_rfl)
  replace hA := hA.bare
  refine loop (γ := Nat × List (Nat × List (List Int)) × (Nat → Prop) × Array Value) (fun ⟨k, pre, X, cu⟩ => [(0, .func (.yield l) #[] #[]), (3, .slice (some ⟨b0, off0, none⟩) gs.length cg), (4, .slice (some ⟨ga, 0, none⟩) R R), (17, .slice (some ⟨b0, off0, none⟩) gs.length cg), (18, .int .i64 gs.length), (19, .int .i64 (k : Int))]) (fun ⟨k, pre, X, cu⟩ => [⟨ga, .cells cu 4 (0, 0)⟩]) (fun _ => []) (fun g ⟨k, pre, X, cu⟩ wr => k ≤ gs.length ∧ g = gs.length - k ∧ pre.map Prod.snd = headP gs k 0 ∧ cu.size = R ∧ U pre X wr ∧ FinX wr (GB W.heap.size ga) (some ⟨b0, off0, none⟩) gs.length gs ∧ (∀ q, W.heap.size ≤ q → q ≤ ga → X q) ∧ (∀ q, X q → W.heap.size ≤ q ∧ q < wr.heap.size) ∧ W.heap.size ≤ wr.heap.size) gs.length ⟨0, [], X0, cu0⟩ [true] hA (by kernel_rfl) (⟨Nat.zero_le _, rfl, by rw [headP_zero]; rfl, hcs0, hR0⟩) ?_
  rintro _ ⟨k, pre, X, cu⟩ wr ⟨hk, rfl, hpre, hcs, hUk, hGk, hX1, hX2, hzr⟩ J hJ hA
  have hXga : X ga := hX1 ga hz4 (Nat.le_refl _)
  replace hA := hA.allK [⟨ga, .cells cu 4 (0, 0)⟩] (by kernel_rfl)
  have hAr := hA.atK [⟨ga, .cells cu 4 (0, 0)⟩] (by kernel_rfl)
  by_cases hlt : k < gs.length
  case neg =>
    refine runS hA 9 [.b false] xn (oc (dec_f (show ¬ (((k : Int) : Int) < (gs.length : Int)) by omega)) on) (by kernel_rfl) fun w6 hA => ?_
    have hszw6_1 : w6.heap.size = wr.heap.size := hA.at_.size.trans (by kernel_rfl)
    refine leave hA (by kernel_rfl) fun hA => ?_
    refine runS hA 1 [] xn on (by kernel_rfl) fun w7 hA => ?_
    have hszw7_2 : w7.heap.size = wr.heap.size := hA.at_.size.trans (by kernel_rfl)
    have hszw7_3 : w7.heap.size = wr.heap.size := hA.at_.size.trans (by kernel_rfl)
    have hUe := hU _ _ _ _ _ hUk (st_others hAr hA.at_ rfl (by omega) (fun kb hk => by rw [List.mem_singleton.1 hk]; exact hXga)) (Grows.refl _ _)
    exact ret (v := .tuple #[]) hA [] (by kernel_rfl) ⟨⟨_, rfl⟩, X, .inl ⟨pre, show pre.map Prod.snd = headsL gs by rw [hpre]; exact headP_all (by omega), hUe⟩⟩
  case pos =>
    obtain ⟨F, hF⟩ : ∃ F, F = gs[k]?.getD [] := ⟨_, rfl⟩
    obtain ⟨hF1, hF8, hFR⟩ := hgm F (by rw [hF]; exact get_mem hlt)
    obtain ⟨A1, c1, hl5, hlc, hI5⟩ := fin_at hGk hlt
    rw [← hF] at hl5 hlc hI5
    obtain ⟨b1, off1, rfl, hb1, -⟩ := hI5.2.2 hF1
    refine runS hA 14 [.b true, .i] xn (oc (dec_t (show (((k : Int) : Int) < (gs.length : Int)) by omega)) (oc (show (0 : Int) ≤ ((k : Int) : Int) ∧ ((k : Int) : Int) < (gs.length : Int) by omega) on)) (by kernel_rfl) fun w6 hA => ?_
    have hszw6_1 : w6.heap.size = wr.heap.size := hA.at_.size.trans (by kernel_rfl)
    refine opv (v := .slice (some ⟨b1, off1, none⟩) F.length c1) hA [] on (s := ldSem 23 (.pointer (some ⟨b0, off0 + k * 1, none⟩))) (by kernel_rfl) (ld_run [.x (.slice (some ⟨b1, off1, none⟩) F.length c1)] (xc (a := ⟨b0, off0 + k * 1, none⟩) (cell_lt (others_cell hAr hA.at_ hl5 (hnga _ hb0'))) xn) (by kernel_rfl)) fun hA => ?_
    refine runS hA 3 [] xn on (by kernel_rfl) fun w7 hA => ?_
    have hszw7_2 : w7.heap.size = w6.heap.size := hA.at_.size.trans (by kernel_rfl)
    refine scopeS hA rfl ((NoG.fctx _ _ _ _ _).inner _ _) (by kernel_rfl) fun hA => ?_
    by_cases hbig : 1 < F.length
    case pos =>
      refine runS hA 15 [.b true] xn (oc (dec_t (show ((F.length : Int) > (1 : Int)) by omega)) on) (by kernel_rfl) fun w8 hA => ?_
      have hszw8_3 : w8.heap.size = w6.heap.size + 1 := hA.at_.size.trans (by kernel_rfl)
      have hltY : w6.heap.size < w8.heap.size := hA.at_.lt (kb := ⟨w6.heap.size, .cells #[.slice (some ⟨b1, off1, none⟩) F.length c1] 23 (0, 0)⟩) (List.mem_of_getElem? (i := 1) (by kernel_rfl))
      have hocY := hA.at_.ok ⟨w6.heap.size, .cells #[.slice (some ⟨b1, off1, none⟩) F.length c1] 23 (0, 0)⟩ (List.mem_of_getElem? (i := 1) (by kernel_rfl))
      obtain ⟨Z, hZ⟩ : ∃ Z : Nat → Prop, Z = fun q => X q ∨ (wr.heap.size ≤ q ∧ q < w8.heap.size) := ⟨_, rfl⟩
      have hZX : ∀ q, X q → Z q := fun q h => by rw [hZ]; exact .inl h
      have hZl : Z (w6.heap.size) := by rw [hZ]; exact .inr ⟨by omega, hltY⟩
      have hZga : Z ga := hZX _ hXga
      have hZ2 : ∀ q, Z q → W.heap.size ≤ q ∧ q < w8.heap.size := fun q hq => by
        rw [hZ] at hq
        rcases hq with h | ⟨h1, h2⟩
        · have := hX2 q h; omega
        · exact ⟨by omega, h2⟩
      have hAb := hA.at_
      have hUY : U pre Z w8 := hU _ _ _ _ _ hUk (st_others hAr hA.at_ rfl (by omega) (fun kb hk => by rw [List.mem_singleton.1 hk]; exact hXga)) ⟨hZX, fun q hq => by rw [hZ] at hq; exact hq.imp id fun h => h.1⟩
      have hGY := hGk.keep (keep_others hAr hA.at_ hnga) (fun _ h => h)
      have hGZ : ∀ q, GB W.heap.size ga q → Z q := fun q hq => hZX q (hX1 q hq.1 (Nat.le_of_lt hq.2))
      have hVY : VH b (w6.heap.size, [F]) Z w8 := by
        refine ⟨?_, head_ok (by simp) (fun h => absurd h (by simp; omega)) (by simpa using hF8) (by simp)⟩
        refine ⟨rfl, by simp, fun _ => ⟨_, 0, rfl, hZl, fun j hj => ?_⟩⟩
        match j, hj with
        | 0, _ => exact ⟨_, _, cell_of_obj (a := ⟨w6.heap.size, 0 + 0, none⟩) hocY rfl rfl, hlc, (hI5.keep (keep_others hAr hA.at_ hnga) hGZ)⟩
        | j + 1, hj => exact absurd hj (by simp)
      refine yieldS (kn' := [⟨ga, .cells cu 4 (0, 0)⟩]) (l := l) (n₀ := n₀) (B := W.heap.size) (X := Z) (C := C) (T := fun w' => U (pre ++ [(w6.heap.size, [F])]) Z w') (F := fun w' => Ux (pre ++ [(w6.heap.size, [F])]) Z w') hA [] on [true, false] rfl (by kernel_rfl) (cut_size hn₀).symm (hY pre (w6.heap.size, [F]) Z w8 hUY (by omega) (fun q hq => (hZ2 q hq).2) (by have := headP_few (k := k) (j := 0) hgp hg256 (by omega); rw [← hpre, List.length_map] at this; exact this) hVY) (fun kb hk => .inl (by rw [List.mem_singleton.1 hk]; exact hZga)) (fun wy hT hkp hA => ?_) (fun wy hT hkp hA => ?_)
      ·
        have hzy := hkp.below.size
        have hAy := hA.atK [⟨ga, .cells cu 4 (0, 0)⟩] (by kernel_rfl)
        have hGy : FinX wy (GB W.heap.size ga) (some ⟨b0, off0, none⟩) gs.length gs := hGY.keep (fun q o hq ho => hkp.same q o ho (.inl (hGZ q hq))) (fun _ h => h)
        refine runS hA 14 [] xn on (by kernel_rfl) fun w9 hA => ?_
        have hszw9_4 : w9.heap.size = wy.heap.size := hA.at_.size.trans (by kernel_rfl)
        have hszw9_5 : w9.heap.size = wy.heap.size := hA.at_.size.trans (by kernel_rfl)
        have hUz := hU _ _ _ _ _ hT (st_others hAy hA.at_ rfl (by omega) (fun kb hk => by rw [List.mem_singleton.1 hk]; exact hZga)) (Grows.refl _ _)
        have hGz := hGy.keep (keep_others hAy hA.at_ hnga) (fun _ h => h)
        refine revals hA (rc 19 (wr64 (x := (k : Int) + 1) (y := ((k + 1 : Nat) : Int)) (by omega) (by omega)) rn) (by kernel_rfl) fun hA => ?_
        exact again hJ (gs.length - (k + 1)) (⟨k + 1, pre ++ [(w6.heap.size, [F])], Z, cu⟩) [true] hA.bare (by omega) (by kernel_rfl) ⟨by omega, rfl, by rw [List.map_append, hpre, ← headP_big hlt (by rw [← hF]; exact hbig), hF]; rfl, hcs, hUz, hGz, fun q h1 h2 => hZX q (hX1 q h1 h2), fun q hq => by have := hZ2 q hq; omega, by omega⟩
      ·
        have hzy := hkp.below.size
        have hAy := hA.atK [⟨ga, .cells cu 4 (0, 0)⟩] (by kernel_rfl)
        have hszk := hkp.below.size
        refine runS hA 9 [] xn on (by kernel_rfl) fun w9 hA => ?_
        have hszw9_4 : w9.heap.size = wy.heap.size := hA.at_.size.trans (by kernel_rfl)
        refine leave hA (by kernel_rfl) fun hA => ?_
        refine runS hA 1 [] xn on (by kernel_rfl) fun w10 hA => ?_
        have hszw10_5 : w10.heap.size = wy.heap.size := hA.at_.size.trans (by kernel_rfl)
        have hUz := hUx _ _ _ _ _ hT (st_others hAy hA.at_ rfl (by omega) (fun kb hk => by rw [List.mem_singleton.1 hk]; exact hZga)) (Grows.refl _ _)
        exact ret (v := .tuple #[]) hA [] (by kernel_rfl) ⟨⟨_, rfl⟩, Z, .inr ⟨_, trivial, hUz⟩⟩
    case neg =>
      refine runS hA 14 [.b false] xn (oc (dec_f (show ¬ ((F.length : Int) > (1 : Int)) by omega)) on) (by kernel_rfl) fun w8 hA => ?_
      have hszw8_3 : w8.heap.size = w6.heap.size := hA.at_.size.trans (by kernel_rfl)
      obtain ⟨ii, hii, -, hz9⟩ := infoB
      have hA5 := hA.atK [⟨ga, .cells cu 4 (0, 0)⟩] (by kernel_rfl)
      have hok5 := hA5.ok ⟨ga, .cells cu 4 (0, 0)⟩ List.mem_cons_self
      have hrunC := Lib.run_clear_slice (P := Tryz.prog) w8 123 4 0 (.bool false) Tryz.underlying123 (fun w => by simp [zeroValue, typeInfo, hii, hz9]) rfl rfl ga 0 R R (by omega) (fun j hj => by have hq : 0 + j < cu.size := (by omega); rw [cell_of_obj (a := ⟨ga, 0 + j, none⟩) (v := cu[0 + j]'hq) hok5 rfl (Array.getElem?_eq_getElem hq)]; rfl) (fun j hj => by have h9 : w8.heap[ga]? = some (.cells cu 4 (0, 0)) := hok5; unfold World.frozen?; rw [h9]; simp)
      obtain ⟨cu1, hc1, hc2, hA6⟩ := At.setKn (List.replicate R (.bool false)) 0 w8 cu hA5 (by simp; omega)
      refine opw [] on (s := clrSem 123 0 (.slice (some ⟨ga, 0, none⟩) R R)) (by kernel_rfl) (nx := .value (.tuple #[])) (val_run hrunC) (.inl rfl) hA6.resize (Nat.zero_le _) fun hA => ?_
      obtain ⟨wc, hwc⟩ : ∃ x, w8.setCells ga 0 (List.replicate R (.bool false)) = x := ⟨_, rfl⟩
      rw [hwc] at hA hA6
      have hszc : wc.heap.size = w8.heap.size := hA6.size.trans hA5.size.symm
      rw [hwc]
      refine runS hA 7 [.i] xn (oc (show (0 : Int) ≤ (0 : Int) ∧ (0 : Int) < (F.length : Int) by omega) on) (by kernel_rfl) fun w9 hA => ?_
      have hszw9_4 : w9.heap.size = wc.heap.size := hA.at_.size.trans (by kernel_rfl)
      refine opv (v := .int .i64 (F[0]?.getD 0)) hA [] on (s := ldSem 3 (.pointer (some ⟨b1, off1, none⟩))) (by kernel_rfl) (ld_run [.x (.int .i64 (F[0]?.getD 0))] (xc (a := ⟨b1, off1, none⟩) (cell_lt (others_cell hAr hA.at_ (p := ⟨b1, off1, none⟩) (by have := intx_at hI5 hF1; simpa using this) (hnga _ hb1))) xn) (by kernel_rfl)) fun hA => ?_
      have hf0 := hFR (F[0]?.getD 0) (get_mem hF1)
      have hcf : ∀ i, i < R → cu1[i]? = some (.bool false) := fun i hi => by rw [hc2, if_pos (by simp; omega), List.getElem?_replicate, if_pos (by omega)]
      refine runS hA 15 [.i, .y 0 (.bool false)] xn (oc (show (0 : Int) ≤ ((F[0]?.getD 0) : Int) ∧ ((F[0]?.getD 0) : Int) < (R : Int) by omega) (oc (show cu1[0 + ((F[0]?.getD 0).toNat) * 1]? = some (.bool false) from hcf _ (by omega)) on)) (by kernel_rfl) fun w10 hA => ?_
      have hszw10_5 : w10.heap.size = w9.heap.size := hA.at_.size.trans (by kernel_rfl)
      have hszw10_6 : w10.heap.size = w9.heap.size := hA.at_.size.trans (by kernel_rfl)
      have hU2 := hU _ _ _ _ _ hUk (st_others hAr hA.at_ rfl (by omega) (fun kb hk => by rw [List.mem_singleton.1 hk]; exact hXga)) (Grows.refl _ _)
      have hG2 := hGk.keep (keep_others hAr hA.at_ hnga) (fun _ h => h)
      have hc9 : ∀ i, i < R → (cu1.setIfInBounds (0 + ((F[0]?.getD 0).toNat) * 1) (.bool true))[i]? = some (.bool (decide ((i : Int) = (F[0]?.getD 0)))) := fun i hi => by
        rw [Array.getElem?_setIfInBounds]
        split
        · rw [if_pos (by omega), decide_eq_true (by omega)]
        · rw [hcf i hi, decide_eq_false (by omega)]
      have hcs2 : (cu1.setIfInBounds (0 + ((F[0]?.getD 0).toNat) * 1) (.bool true)).size = R := by rw [Array.size_setIfInBounds]; omega
      have hR2 : U pre X w10 ∧ FinX w10 (GB W.heap.size ga) (some ⟨b0, off0, none⟩) gs.length gs ∧ (∀ q, W.heap.size ≤ q → q ≤ ga → X q) ∧ (∀ q, X q → W.heap.size ≤ q ∧ q < w10.heap.size) ∧ W.heap.size ≤ w10.heap.size := ⟨hU2, hG2, hX1, fun q hq => by have := hX2 q hq; omega, by omega⟩
      have hFk : (gs[k]?.getD []).length = F.length := by rw [hF]
      have hI2 := hI5.keep (keep_others hAr hA.at_ hnga) (fun _ h => h)
      replace hA := hA.bare
      refine loop (γ := Nat × List (Nat × List (List Int)) × (Nat → Prop)) (fun ⟨j, pr, Y⟩ => [(0, .func (.yield l) #[] #[]), (3, .slice (some ⟨b0, off0, none⟩) gs.length cg), (4, .slice (some ⟨ga, 0, none⟩) R R), (6, .slice (some ⟨b1, off1, none⟩) F.length c1), (17, .slice (some ⟨b0, off0, none⟩) gs.length cg), (18, .int .i64 gs.length), (19, .int .i64 (k : Int)), (37, .slice (some ⟨b0, off0, none⟩) gs.length cg), (38, .int .i64 gs.length), (39, .int .i64 (j : Int))]) (fun ⟨j, pr, Y⟩ => [⟨ga, .cells (cu1.setIfInBounds (0 + ((F[0]?.getD 0).toNat) * 1) (.bool true)) 4 (0, 0)⟩]) (fun _ => []) (fun g ⟨j, pr, Y⟩ wt => j ≤ gs.length ∧ g = gs.length - j ∧ pr.map Prod.snd = headP gs k j ∧ IntsX wt (GB W.heap.size ga) (some ⟨b1, off1, none⟩) F.length F ∧ U pr Y wt ∧ FinX wt (GB W.heap.size ga) (some ⟨b0, off0, none⟩) gs.length gs ∧ (∀ q, W.heap.size ≤ q → q ≤ ga → Y q) ∧ (∀ q, Y q → W.heap.size ≤ q ∧ q < wt.heap.size) ∧ W.heap.size ≤ wt.heap.size) gs.length ⟨0, pre, X⟩ [true] hA (by kernel_rfl) (⟨Nat.zero_le _, rfl, hpre, hI2, hR2⟩) ?_
      rintro _ ⟨j, pr, Y⟩ wt ⟨hj, rfl, hprj, hIt, hUt, hGt, hY1, hY2, hzt⟩ J2 hJ2 hA
      have hYga : Y ga := hY1 ga hz4 (Nat.le_refl _)
      replace hA := hA.allK [⟨ga, .cells (cu1.setIfInBounds (0 + ((F[0]?.getD 0).toNat) * 1) (.bool true)) 4 (0, 0)⟩] (by kernel_rfl)
      have hAt := hA.atK [⟨ga, .cells (cu1.setIfInBounds (0 + ((F[0]?.getD 0).toNat) * 1) (.bool true)) 4 (0, 0)⟩] (by kernel_rfl)
      by_cases hlj : j < gs.length
      case neg =>
        refine runS hA 9 [.b false] xn (oc (dec_f (show ¬ (((j : Int) : Int) < (gs.length : Int)) by omega)) on) (by kernel_rfl) fun w11 hA => ?_
        have hszw11_7 : w11.heap.size = wt.heap.size := hA.at_.size.trans (by kernel_rfl)
        refine leave hA (by kernel_rfl) fun hA => ?_
        refine runS hA 7 [] xn on (by kernel_rfl) fun w12 hA => ?_
        have hszw12_8 : w12.heap.size = wt.heap.size := hA.at_.size.trans (by kernel_rfl)
        have hszw12_9 : w12.heap.size = wt.heap.size := hA.at_.size.trans (by kernel_rfl)
        have hU8 := hU _ _ _ _ _ hUt (st_others hAt hA.at_ rfl (by omega) (fun kb hk => by rw [List.mem_singleton.1 hk]; exact hYga)) (Grows.refl _ _)
        have hG8 := hGt.keep (keep_others hAt hA.at_ hnga) (fun _ h => h)
        refine revals hA (rc 19 (wr64 (x := (k : Int) + 1) (y := ((k + 1 : Nat) : Int)) (by omega) (by omega)) rn) (by kernel_rfl) fun hA => ?_
        exact again hJ (gs.length - (k + 1)) (⟨k + 1, pr, Y, (cu1.setIfInBounds (0 + ((F[0]?.getD 0).toNat) * 1) (.bool true))⟩) [true] hA.bare (by omega) (by kernel_rfl) ⟨by omega, rfl, by rw [hprj]; exact headP_row hlt (by rw [← hF]; exact hbig) (by omega), hcs2, hU8, hG8, hY1, fun q hq => by have := hY2 q hq; omega, by omega⟩
      case pos =>
        obtain ⟨S, hS⟩ : ∃ S, S = gs[j]?.getD [] := ⟨_, rfl⟩
        obtain ⟨hS1, hS8, hSR⟩ := hgm S (by rw [hS]; exact get_mem hlj)
        obtain ⟨A2', c2', hl6, hlc6, hI6⟩ := fin_at hGt hlj
        rw [← hS] at hl6 hlc6 hI6
        obtain ⟨b2, off2, rfl, hb2, -⟩ := hI6.2.2 hS1
        refine runS hA 14 [.b true, .i] xn (oc (dec_t (show (((j : Int) : Int) < (gs.length : Int)) by omega)) (oc (show (0 : Int) ≤ ((j : Int) : Int) ∧ ((j : Int) : Int) < (gs.length : Int) by omega) on)) (by kernel_rfl) fun w11 hA => ?_
        have hszw11_7 : w11.heap.size = wt.heap.size := hA.at_.size.trans (by kernel_rfl)
        refine opv (v := .slice (some ⟨b2, off2, none⟩) S.length c2') hA [] on (s := ldSem 23 (.pointer (some ⟨b0, off0 + j * 1, none⟩))) (by kernel_rfl) (ld_run [.x (.slice (some ⟨b2, off2, none⟩) S.length c2')] (xc (a := ⟨b0, off0 + j * 1, none⟩) (cell_lt (others_cell hAt hA.at_ hl6 (hnga _ hb0'))) xn) (by kernel_rfl)) fun hA => ?_
        refine runS hA 12 [] xn on (by kernel_rfl) fun w12 hA => ?_
        have hszw12_8 : w12.heap.size = w11.heap.size := hA.at_.size.trans (by kernel_rfl)
        refine loop (γ := Nat) (fun i => [(0, .func (.yield l) #[] #[]), (3, .slice (some ⟨b0, off0, none⟩) gs.length cg), (4, .slice (some ⟨ga, 0, none⟩) R R), (6, .slice (some ⟨b1, off1, none⟩) F.length c1), (8, .slice (some ⟨b2, off2, none⟩) S.length c2'), (17, .slice (some ⟨b0, off0, none⟩) gs.length cg), (18, .int .i64 gs.length), (19, .int .i64 (k : Int)), (37, .slice (some ⟨b0, off0, none⟩) gs.length cg), (38, .int .i64 gs.length), (39, .int .i64 (j : Int)), (43, .slice (some ⟨b2, off2, none⟩) S.length c2'), (44, .int .i64 S.length), (45, .int .i64 (i : Int))]) (fun i => [⟨ga, .cells (cu1.setIfInBounds (0 + ((F[0]?.getD 0).toNat) * 1) (.bool true)) 4 (0, 0)⟩]) (fun _ => others (cutW w n₀) wt [⟨ga, .cells (cu1.setIfInBounds (0 + ((F[0]?.getD 0).toNat) * 1) (.bool true)) 4 (0, 0)⟩]) (fun g i wq => i ≤ S.length ∧ g = S.length - i ∧ (∀ q, q < i → S[q]?.getD 0 ≠ (F[0]?.getD 0)) ∧ wq.heap.size = wt.heap.size) S.length 0 [true] hA (by kernel_rfl) (⟨Nat.zero_le _, rfl, fun q hq => absurd hq (Nat.not_lt_zero _), by omega⟩) ?_
        rintro _ i wq ⟨hi, rfl, hno, hzq⟩ J3 hJ3 hA
        by_cases hli : i < S.length
        case neg =>
          have hnS : (F[0]?.getD 0) ∉ S := by
            intro hm
            obtain ⟨q, hq, e⟩ := List.mem_iff_getElem.1 hm
            refine hno q (by omega) ?_
            rw [List.getElem?_eq_getElem hq]; exact e
          refine runS hA 9 [.b false] xn (oc (dec_f (show ¬ (((i : Int) : Int) < (S.length : Int)) by omega)) on) (by kernel_rfl) fun w13 hA => ?_
          have hszw13_9 : w13.heap.size = wq.heap.size := hA.at_.size.trans (by kernel_rfl)
          refine leave hA (by kernel_rfl) fun hA => ?_
          refine runS hA 8 [] xn on (by kernel_rfl) fun w14 hA => ?_
          have hszw14_10 : w14.heap.size = wq.heap.size + 1 := hA.at_.size.trans (by kernel_rfl)
          have hltY : wq.heap.size < w14.heap.size := hA.at_.lt (kb := ⟨wq.heap.size, .cells #[.slice (some ⟨b1, off1, none⟩) F.length c1, .slice (some ⟨b2, off2, none⟩) S.length c2'] 23 (0, 0)⟩) (List.mem_of_getElem? (i := 1) (by kernel_rfl))
          have hocY := hA.at_.ok ⟨wq.heap.size, .cells #[.slice (some ⟨b1, off1, none⟩) F.length c1, .slice (some ⟨b2, off2, none⟩) S.length c2'] 23 (0, 0)⟩ (List.mem_of_getElem? (i := 1) (by kernel_rfl))
          obtain ⟨Z, hZ⟩ : ∃ Z : Nat → Prop, Z = fun q => Y q ∨ (wt.heap.size ≤ q ∧ q < w14.heap.size) := ⟨_, rfl⟩
          have hZX : ∀ q, Y q → Z q := fun q h => by rw [hZ]; exact .inl h
          have hZl : Z (wq.heap.size) := by rw [hZ]; exact .inr ⟨by omega, hltY⟩
          have hZga : Z ga := hZX _ hYga
          have hZ2 : ∀ q, Z q → W.heap.size ≤ q ∧ q < w14.heap.size := fun q hq => by
            rw [hZ] at hq
            rcases hq with h | ⟨h1, h2⟩
            · have := hY2 q h; omega
            · exact ⟨by omega, h2⟩
          have hAb := hA.at_
          have hUY : U pr Z w14 := hU _ _ _ _ _ hUt (st_others hAt hA.at_ rfl (by omega) (fun kb hk => by rw [List.mem_singleton.1 hk]; exact hYga)) ⟨hZX, fun q hq => by rw [hZ] at hq; exact hq.imp id fun h => h.1⟩
          have hGY := hGt.keep (keep_others hAt hA.at_ hnga) (fun _ h => h)
          have hGZ : ∀ q, GB W.heap.size ga q → Z q := fun q hq => hZX q (hY1 q hq.1 (Nat.le_of_lt hq.2))
          have hVY : VH b (wq.heap.size, [F, S]) Z w14 := by
            refine ⟨?_, head_ok (by simp) (fun _ => ⟨by simp, by simpa using hS1⟩) (by simpa using hF8) (by simpa using hS8)⟩
            refine ⟨rfl, by simp, fun _ => ⟨_, 0, rfl, hZl, fun j hj => ?_⟩⟩
            match j, hj with
            | 0, _ => exact ⟨_, _, cell_of_obj (a := ⟨wq.heap.size, 0 + 0, none⟩) hocY rfl rfl, hlc, (hIt.keep (keep_others hAt hA.at_ hnga) hGZ)⟩
            | 1, _ => exact ⟨_, _, cell_of_obj (a := ⟨wq.heap.size, 0 + 1, none⟩) hocY rfl rfl, hlc6, (hI6.keep (keep_others hAt hA.at_ hnga) hGZ)⟩
            | j + 2, hj => exact absurd hj (by simp)
          refine yieldS (kn' := [⟨ga, .cells (cu1.setIfInBounds (0 + ((F[0]?.getD 0).toNat) * 1) (.bool true)) 4 (0, 0)⟩]) (l := l) (n₀ := n₀) (B := W.heap.size) (X := Z) (C := C) (T := fun w' => U (pr ++ [(wq.heap.size, [F, S])]) Z w') (F := fun w' => Ux (pr ++ [(wq.heap.size, [F, S])]) Z w') hA [] on [true, false] rfl (by kernel_rfl) (cut_size hn₀).symm (hY pr (wq.heap.size, [F, S]) Z w14 hUY (by omega) (fun q hq => (hZ2 q hq).2) (by have := headP_few (k := k) (j := j) hgp hg256 (by omega); rw [← hprj, List.length_map] at this; exact this) hVY) (fun kb hk => .inl (by rw [List.mem_singleton.1 hk]; exact hZga)) (fun wy hT hkp hA => ?_) (fun wy hT hkp hA => ?_)
          ·
            have hzy := hkp.below.size
            have hAy := hA.atK [⟨ga, .cells (cu1.setIfInBounds (0 + ((F[0]?.getD 0).toNat) * 1) (.bool true)) 4 (0, 0)⟩] (by kernel_rfl)
            have hGy : FinX wy (GB W.heap.size ga) (some ⟨b0, off0, none⟩) gs.length gs := hGY.keep (fun q o hq ho => hkp.same q o ho (.inl (hGZ q hq))) (fun _ h => h)
            have hIy : IntsX wy (GB W.heap.size ga) (some ⟨b1, off1, none⟩) F.length F := (hIt.keep (keep_others hAt hAb hnga) (fun _ h => h)).keep (fun q o hq ho => hkp.same q o ho (.inl (hGZ q hq))) (fun _ h => h)
            refine runS hA 11 [] xn on (by kernel_rfl) fun w15 hA => ?_
            have hszw15_11 : w15.heap.size = wy.heap.size := hA.at_.size.trans (by kernel_rfl)
            have hszw15_12 : w15.heap.size = wy.heap.size := hA.at_.size.trans (by kernel_rfl)
            have hUz := hU _ _ _ _ _ hT (st_others hAy hA.at_ rfl (by omega) (fun kb hk => by rw [List.mem_singleton.1 hk]; exact hZga)) (Grows.refl _ _)
            have hGz := hGy.keep (keep_others hAy hA.at_ hnga) (fun _ h => h)
            refine revals hA (rc 39 (wr64 (x := (j : Int) + 1) (y := ((j + 1 : Nat) : Int)) (by omega) (by omega)) rn) (by kernel_rfl) fun hA => ?_
            exact again hJ2 (gs.length - (j + 1)) (⟨j + 1, pr ++ [(wq.heap.size, [F, S])], Z⟩) [true] hA.bare (by omega) (by kernel_rfl) ⟨by omega, rfl, by rw [List.map_append, hprj, ← headP_yes hlj (by rw [← hF, ← hS]; exact hnS), hF, hS]; rfl, hIy.keep (keep_others hAy hA.at_ hnga) (fun _ h => h), hUz, hGz, fun q h1 h2 => hZX q (hY1 q h1 h2), fun q hq => by have := hZ2 q hq; omega, by omega⟩
          ·
            have hzy := hkp.below.size
            have hAy := hA.atK [⟨ga, .cells (cu1.setIfInBounds (0 + ((F[0]?.getD 0).toNat) * 1) (.bool true)) 4 (0, 0)⟩] (by kernel_rfl)
            have hszk := hkp.below.size
            refine runS hA 7 [] xn on (by kernel_rfl) fun w15 hA => ?_
            have hszw15_11 : w15.heap.size = wy.heap.size := hA.at_.size.trans (by kernel_rfl)
            refine leave hA (by kernel_rfl) fun hA => ?_
            refine runS hA 3 [] xn on (by kernel_rfl) fun w16 hA => ?_
            have hszw16_12 : w16.heap.size = wy.heap.size := hA.at_.size.trans (by kernel_rfl)
            refine leave hA (by kernel_rfl) fun hA => ?_
            refine runS hA 1 [] xn on (by kernel_rfl) fun w17 hA => ?_
            have hszw17_13 : w17.heap.size = wy.heap.size := hA.at_.size.trans (by kernel_rfl)
            have hUz := hUx _ _ _ _ _ hT (st_others hAy hA.at_ rfl (by omega) (fun kb hk => by rw [List.mem_singleton.1 hk]; exact hZga)) (Grows.refl _ _)
            exact ret (v := .tuple #[]) hA [] (by kernel_rfl) ⟨⟨_, rfl⟩, Z, .inr ⟨_, trivial, hUz⟩⟩
        case pos =>
          refine runS hA 14 [.b true, .i] xn (oc (dec_t (show (((i : Int) : Int) < (S.length : Int)) by omega)) (oc (show (0 : Int) ≤ ((i : Int) : Int) ∧ ((i : Int) : Int) < (S.length : Int) by omega) on)) (by kernel_rfl) fun w13 hA => ?_
          have hszw13_9 : w13.heap.size = wq.heap.size := hA.at_.size.trans (by kernel_rfl)
          refine opv (v := .int .i64 (S[i]?.getD 0)) hA [] on (s := ldSem 3 (.pointer (some ⟨b2, off2 + i * 1, none⟩))) (by kernel_rfl) (ld_run [.x (.int .i64 (S[i]?.getD 0))] (xc (a := ⟨b2, off2 + i * 1, none⟩) (cell_lt (others_cell hAt hA.at_ (intx_at hI6 hli) (hnga _ hb2))) xn) (by kernel_rfl)) fun hA => ?_
          have hsr := hSR (S[i]?.getD 0) (get_mem hli)
          have hcv := hc9 (0 + (S[i]?.getD 0).toNat * 1) (by omega)
          have hcv' : (cu1.setIfInBounds (0 + ((F[0]?.getD 0).toNat) * 1) (.bool true))[0 + (S[i]?.getD 0).toNat * 1]? = some (.bool (decide ((S[i]?.getD 0) = (F[0]?.getD 0)))) := by rw [hcv]; rw [show ((0 + (S[i]?.getD 0).toNat * 1 : Nat) : Int) = (S[i]?.getD 0) by omega]
          by_cases he : (S[i]?.getD 0) = (F[0]?.getD 0)
          case pos =>
            refine runS hA 15 [.i, .y 0 (.bool (decide ((S[i]?.getD 0) = (F[0]?.getD 0)))), .b true] xn (oc (show (0 : Int) ≤ ((S[i]?.getD 0) : Int) ∧ ((S[i]?.getD 0) : Int) < (R : Int) by omega) (oc (show (cu1.setIfInBounds (0 + ((F[0]?.getD 0).toNat) * 1) (.bool true))[0 + ((S[i]?.getD 0).toNat) * 1]? = some (.bool (decide ((S[i]?.getD 0) = (F[0]?.getD 0)))) from hcv') (oc (dec_t he) on))) (by kernel_rfl) fun w14 hA => ?_
            have hszw14_10 : w14.heap.size = w13.heap.size := hA.at_.size.trans (by kernel_rfl)
            refine leave hA (by kernel_rfl) fun hA => ?_
            refine runS hA 8 [] xn on (by kernel_rfl) fun w15 hA => ?_
            have hszw15_11 : w15.heap.size = w13.heap.size := hA.at_.size.trans (by kernel_rfl)
            have hszw15_12 : w15.heap.size = w13.heap.size := hA.at_.size.trans (by kernel_rfl)
            have hU7 := hU _ _ _ _ _ hUt (st_others hAt hA.at_ rfl (by omega) (fun kb hk => by rw [List.mem_singleton.1 hk]; exact hYga)) (Grows.refl _ _)
            have hG7 := hGt.keep (keep_others hAt hA.at_ hnga) (fun _ h => h)
            refine revals hA (rc 39 (wr64 (x := (j : Int) + 1) (y := ((j + 1 : Nat) : Int)) (by omega) (by omega)) rn) (by kernel_rfl) fun hA => ?_
            exact again hJ2 (gs.length - (j + 1)) (⟨j + 1, pr, Y⟩) [true] hA.bare (by omega) (by kernel_rfl) ⟨by omega, rfl, by rw [hprj]; exact (headP_no hlj (by rw [← hF, ← hS, ← he]; exact get_mem hli)).symm, hIt.keep (keep_others hAt hA.at_ hnga) (fun _ h => h), hU7, hG7, hY1, fun q hq => by have := hY2 q hq; omega, by omega⟩
          case neg =>
            refine runS hA 19 [.i, .y 0 (.bool (decide ((S[i]?.getD 0) = (F[0]?.getD 0)))), .b false] xn (oc (show (0 : Int) ≤ ((S[i]?.getD 0) : Int) ∧ ((S[i]?.getD 0) : Int) < (R : Int) by omega) (oc (show (cu1.setIfInBounds (0 + ((F[0]?.getD 0).toNat) * 1) (.bool true))[0 + ((S[i]?.getD 0).toNat) * 1]? = some (.bool (decide ((S[i]?.getD 0) = (F[0]?.getD 0)))) from hcv') (oc (dec_f he) on))) (by kernel_rfl) fun w14 hA => ?_
            have hszw14_10 : w14.heap.size = w13.heap.size := hA.at_.size.trans (by kernel_rfl)
            refine revals hA (rc 45 (wr64 (x := (i : Int) + 1) (y := ((i + 1 : Nat) : Int)) (by omega) (by omega)) rn) (by kernel_rfl) fun hA => ?_
            exact again hJ3 (S.length - (i + 1)) (i + 1) [true] hA (by omega) (by kernel_rfl) ⟨by omega, rfl, fun q hq => by by_cases hqi : q = i; rw [hqi]; exact he; exact hno q (by omega), by omega⟩
end Go.Proofs.YtbahiemjaomdcaaGreat

/- pool: heads, Spread. -/
namespace Go.Proofs.YtbahiemjaomdcaaGreat
open Go.RowKit Go.Shelf

set_option maxRecDepth 20000 in
theorem heads_any (w : World) (b : Bk) (A : Option Addr) (n c : Nat) (A2 : Option Addr) (m c2 : Nat) :
    Calls Tryz.prog 48 #[bkV b A n c A2 m c2] w fun e w' => e = .returned (.func (.func 74) #[] #[.pointer (some ⟨w.heap.size, 0, none⟩)]) ∧ Below w.heap.size w w' ∧ w'.heap[w.heap.size]? = some (.cells (bkC b A n c A2 m c2) 72 (0, 0)) := by
  refine enter 4 Tryz.func48 (by kernel_rfl) fun hA => ?_
  refine runS hA 13 [] xn on (by kernel_rfl) fun w1 hA => ?_
  exact ret (v := .func (.func 74) #[] #[.pointer (some ⟨w.heap.size, 0, none⟩)]) hA [] (by kernel_rfl) ⟨rfl, hA.below, hA.at_.ok ⟨w.heap.size, .cells (bkC b A n c A2 m c2) 72 (0, 0)⟩ (List.mem_of_getElem? (i := 0) (by kernel_rfl))⟩
/-- Back to the rows of before. -/
theorem AtS.prot {c : Ctx} {S : Sta} {W w' : World} {kn prot : List KB} {sz : Nat} (h0 : At c.w0 W kn prot sz) (hA : AtS c S w' (others c.w0 W kn)) : AtS c S w' prot := by
  have hm : ∀ kb ∈ prot, kb ∈ others c.w0 W kn := fun kb hk => mem_others (h0.rok kb hk) (h0.rlow kb hk) (fun hn => by
    have hnd := h0.nd
    rw [List.map_append, List.nodup_append] at hnd
    exact hnd.2.2 kb.id (List.mem_map_of_mem hk) kb.id hn rfl)
  refine ⟨⟨hA.at_.ok, fun kb hk => hA.at_.rok kb (hm kb hk), hA.at_.low, fun kb hk => hA.at_.rlow kb (hm kb hk), ?_, hA.at_.size, hA.at_.below⟩, hA.lo⟩
  have h1 := hA.at_.nd
  have h2 := h0.nd
  rw [List.map_append, List.nodup_append] at h1 h2 ⊢
  refine ⟨h2.1, h1.2.1, fun a ha b hb e => ?_⟩
  obtain ⟨kb, hkb, rfl⟩ := List.mem_map.1 ha
  exact h1.2.2 kb.id (List.mem_map_of_mem (hm kb hkb)) b hb e
theorem FinX.lt {w : World} {p : Nat → Prop} {A : Option Addr} {n : Nat} {fs : List (List Int)} (h : FinX w p A n fs) : FinAt w w.heap.size A n fs :=
  ⟨h.1, Nat.le_trans h.2.1 (by decide), fun h0 => by
    obtain ⟨b, off, e, hb, hc⟩ := h.2.2 h0
    obtain ⟨A0, c0, h1, -, -⟩ := hc 0 h0
    refine ⟨b, off, e, (cell_lt h1).1, fun j hj => ?_⟩
    obtain ⟨A', c', h1, h2, h3⟩ := hc j hj
    refine ⟨A', c', h1, h2, h3.1, h3.2.1, fun h4 => ?_⟩
    obtain ⟨b', off', e', -, hc'⟩ := h3.2.2 h4
    exact ⟨b', off', e', (cell_lt (hc' 0 h4)).1, hc'⟩⟩
/-- What is paid for a finish. -/
def paidF (b : Bk) (fs : List (List Int)) : Int := (accF (tilF b) (payF (tilF b) fs)).paid
def spr1 (b : Bk) (p : Int × Int) (fs : List (List Int)) : Int × Int := (if paidF b fs < p.1 then paidF b fs else p.1, if paidF b fs > p.2 then paidF b fs else p.2)
def sprF (b : Bk) : Int × Int := if bookF b = 0 then (if noneF (tallyF (okT (tilF b)) (s1T (tilF b)) b.bets) = true then (0, 0) else (headsL (groupsF b)).foldl (spr1 b) (9223372036854775807, 0)) else (0, 0)
set_option maxRecDepth 20000 in
theorem Spread_any (w : World) (B : Nat) (b : Bk) (A : Option Addr) (n c : Nat) (A2 : Option Addr) (m c2 : Nat) (h : BkAt w B b A n c A2 m c2) (hB : B ≤ w.heap.size) :
    Calls Tryz.prog 17 #[bkV b A n c A2 m c2] w fun e w' => e = .returned (.tuple #[.agg #[.int .i64 (sprF b).1, .int .i64 (sprF b).2], .int .i64 (bookF b)]) ∧ Below w.heap.size w w' := by
  refine enterM 41 Tryz.func17 (by kernel_rfl) fun hA => ?_
  refine runS hA 10 (List.replicate 8 (.k 0)) xn on (by kernel_rfl) fun w1 hA => ?_
  refine callB hA [] on (tillOf_any w1 B b A n c A2 m c2 (h.below hA.below hB) (Nat.le_trans hB hA.size)) (by kernel_rfl) fun w2 hb2 hA => ?_
  by_cases h0 : bookF b = 0
  case neg =>
    refine revals hA (rc 11 (show .tuple #[(tilV b A n c A2 m c2), .int .i64 (bookF b)] = .tuple #[.agg #[.int .i64 0, .int .i64 0, .slice none 0 0, .slice none 0 0, .bool false, .int .i64 0, .int .i64 0, .int .i64 0, .int .i64 0, .int .i64 0, .int .i64 0, .int .i64 0, .int .i64 0, .int .i64 0, .int .i64 0], .int .i64 (bookF b)] by rw [show tilV b A n c A2 m c2 = tlV zeroT none 0 0 none 0 0 from if_neg h0]; rfl) rn) (by kernel_rfl) fun hA => ?_
    refine runS hA 26 (List.replicate 15 (.k 2) ++ [.b true, .k 1, .k 1]) xn (oc (ne_t h0) on) (by kernel_rfl) fun w3 hA => ?_
    have he : sprF b = (0, 0) := if_neg h0
    refine retM (kn' := [⟨w.heap.size, .cells #[.int .i64 b.kind, .int .i64 b.runners, .slice A n c, .slice A2 m c2, .bool b.fav, .int .i64 b.car, .int .i64 b.dut, .int .i64 b.stp] 25 (0, 0)⟩, ⟨w.heap.size + 1, .cells #[.int .i64 0, .int .i64 0] 44 (0, 0)⟩, ⟨w2.heap.size, .cells #[.int .i64 0, .int .i64 0, .slice none 0 0, .slice none 0 0, .bool false, .int .i64 0, .int .i64 0, .int .i64 0, .int .i64 0, .int .i64 0, .int .i64 0, .int .i64 0, .int .i64 0, .int .i64 0, .int .i64 0] 74 (0, 0)⟩]) (v := .tuple #[.agg #[.int .i64 0, .int .i64 0], .int .i64 (bookF b)]) [] hA [.k 1, .k 1] (by kernel_rfl) (fun w' hA' => ?_)
    exact ⟨by rw [he], hA'.below⟩
  case pos =>
    have V := valid_of h0
    have hv1 := V.run
    have hv2 := V.len
    have hbl := h.bets.1
    refine revals hA (rc 11 (show .tuple #[(tilV b A n c A2 m c2), .int .i64 (bookF b)] = .tuple #[.agg #[.int .i64 ((tilF b).b.kind), .int .i64 ((tilF b).b.runners), .slice A n c, .slice A2 m c2, .bool ((tilF b).b.fav), .int .i64 ((tilF b).b.car), .int .i64 ((tilF b).b.dut), .int .i64 ((tilF b).b.stp), .int .i64 ((tilF b).heir), .int .i64 ((tilF b).a.inn), .int .i64 ((tilF b).a.back), .int .i64 ((tilF b).a.duty), .int .i64 ((tilF b).a.paid), .int .i64 ((tilF b).a.kept), .int .i64 ((tilF b).a.over)], .int .i64 (bookF b)] by rw [show tilV b A n c A2 m c2 = tlV (tilF b) A n c A2 m c2 from if_pos h0]) rn) (by kernel_rfl) fun hA => ?_
    refine runS hA 22 (List.replicate 15 (.k 2) ++ [.b false] ++ List.replicate 15 (.k 2)) xn (oc (ne_f h0) on) (by kernel_rfl) fun w3 hA => ?_
    refine callB hA [] on (paysNothing_any w3 B (tilF b) A n c A2 m c2 (h.below hA.below hB) (Nat.le_trans hB hA.size) (s1_ok V) (units_ok V) (Nat.le_trans hv2 (by decide))) (by kernel_rfl) fun w4 hb4 hA => ?_
    rcases Bool.eq_false_or_eq_true (noneF (tallyF (okT (tilF b)) (s1T (tilF b)) b.bets)) with hn0 | hn0
    ·
      refine revals hA (rc 19 (show .bool (noneF (tallyF (okT (tilF b)) (s1T (tilF b)) b.bets)) = .bool true by rw [hn0]) rn) (by kernel_rfl) fun hA => ?_
      refine runS hA 12 [.k 1, .k 1] xn on (by kernel_rfl) fun w5 hA => ?_
      have he : sprF b = (0, 0) := by unfold sprF; rw [if_pos h0, if_pos hn0]
      refine retM (kn' := [⟨w.heap.size, .cells #[.int .i64 b.kind, .int .i64 b.runners, .slice A n c, .slice A2 m c2, .bool b.fav, .int .i64 b.car, .int .i64 b.dut, .int .i64 b.stp] 25 (0, 0)⟩, ⟨w.heap.size + 1, .cells #[.int .i64 0, .int .i64 0] 44 (0, 0)⟩, ⟨w2.heap.size, .cells #[.int .i64 ((tilF b).b.kind), .int .i64 ((tilF b).b.runners), .slice A n c, .slice A2 m c2, .bool ((tilF b).b.fav), .int .i64 ((tilF b).b.car), .int .i64 ((tilF b).b.dut), .int .i64 ((tilF b).b.stp), .int .i64 ((tilF b).heir), .int .i64 ((tilF b).a.inn), .int .i64 ((tilF b).a.back), .int .i64 ((tilF b).a.duty), .int .i64 ((tilF b).a.paid), .int .i64 ((tilF b).a.kept), .int .i64 ((tilF b).a.over)] 74 (0, 0)⟩]) (v := .tuple #[.agg #[.int .i64 0, .int .i64 0], .int .i64 0]) [] hA [.k 1, .k 1] (by kernel_rfl) (fun w' hA' => ?_)
      exact ⟨by rw [he, h0], hA'.below⟩
    ·
      refine revals hA (rc 19 (show .bool (noneF (tallyF (okT (tilF b)) (s1T (tilF b)) b.bets)) = .bool false by rw [hn0]) rn) (by kernel_rfl) fun hA => ?_
      refine runS hA 17 ([.k 3, .k 3] ++ List.replicate 8 (.k 2)) xn on (by kernel_rfl) fun w5 hA => ?_
      have hl_0 : w.heap.size < w5.heap.size := hA.at_.lt (kb := ⟨w.heap.size, .cells #[.int .i64 b.kind, .int .i64 b.runners, .slice A n c, .slice A2 m c2, .bool b.fav, .int .i64 b.car, .int .i64 b.dut, .int .i64 b.stp] 25 (0, 0)⟩) (List.mem_of_getElem? (i := 0) (by kernel_rfl))
      have hl_1 : w.heap.size + 1 < w5.heap.size := hA.at_.lt (kb := ⟨w.heap.size + 1, .cells #[.int .i64 0, .int .i64 0] 44 (0, 0)⟩) (List.mem_of_getElem? (i := 1) (by kernel_rfl))
      have hl_2 : w2.heap.size < w5.heap.size := hA.at_.lt (kb := ⟨w2.heap.size, .cells #[.int .i64 ((tilF b).b.kind), .int .i64 ((tilF b).b.runners), .slice A n c, .slice A2 m c2, .bool ((tilF b).b.fav), .int .i64 ((tilF b).b.car), .int .i64 ((tilF b).b.dut), .int .i64 ((tilF b).b.stp), .int .i64 ((tilF b).heir), .int .i64 ((tilF b).a.inn), .int .i64 ((tilF b).a.back), .int .i64 ((tilF b).a.duty), .int .i64 ((tilF b).a.paid), .int .i64 ((tilF b).a.kept), .int .i64 ((tilF b).a.over)] 74 (0, 0)⟩) (List.mem_of_getElem? (i := 2) (by kernel_rfl))
      have hl_3 : w4.heap.size < w5.heap.size := hA.at_.lt (kb := ⟨w4.heap.size, .cells #[.int .i64 9223372036854775807, .int .i64 0] 44 (0, 0)⟩) (List.mem_of_getElem? (i := 3) (by kernel_rfl))
      have hsu : w.heap.size ≤ w5.heap.size := hA.size
      refine call hA [] on (heads_any w5 b A n c A2 m c2) (by kernel_rfl) (by rintro e v ⟨rfl, hbw, hhb⟩; exact hbw) ?_
      rintro e w6 ⟨rfl, hbw, hhb⟩
      refine ⟨_, rfl, fun hA => ?_⟩
      replace hA := hA.allK [⟨w.heap.size, .cells #[.int .i64 b.kind, .int .i64 b.runners, .slice A n c, .slice A2 m c2, .bool b.fav, .int .i64 b.car, .int .i64 b.dut, .int .i64 b.stp] 25 (0, 0)⟩, ⟨w.heap.size + 1, .cells #[.int .i64 0, .int .i64 0] 44 (0, 0)⟩, ⟨w2.heap.size, .cells #[.int .i64 ((tilF b).b.kind), .int .i64 ((tilF b).b.runners), .slice A n c, .slice A2 m c2, .bool ((tilF b).b.fav), .int .i64 ((tilF b).b.car), .int .i64 ((tilF b).b.dut), .int .i64 ((tilF b).b.stp), .int .i64 ((tilF b).heir), .int .i64 ((tilF b).a.inn), .int .i64 ((tilF b).a.back), .int .i64 ((tilF b).a.duty), .int .i64 ((tilF b).a.paid), .int .i64 ((tilF b).a.kept), .int .i64 ((tilF b).a.over)] 74 (0, 0)⟩, ⟨w4.heap.size, .cells #[.int .i64 9223372036854775807, .int .i64 0] 44 (0, 0)⟩] (by kernel_rfl)
      have hA2 := hA.atK [⟨w.heap.size, .cells #[.int .i64 b.kind, .int .i64 b.runners, .slice A n c, .slice A2 m c2, .bool b.fav, .int .i64 b.car, .int .i64 b.dut, .int .i64 b.stp] 25 (0, 0)⟩, ⟨w.heap.size + 1, .cells #[.int .i64 0, .int .i64 0] 44 (0, 0)⟩, ⟨w2.heap.size, .cells #[.int .i64 ((tilF b).b.kind), .int .i64 ((tilF b).b.runners), .slice A n c, .slice A2 m c2, .bool ((tilF b).b.fav), .int .i64 ((tilF b).b.car), .int .i64 ((tilF b).b.dut), .int .i64 ((tilF b).b.stp), .int .i64 ((tilF b).heir), .int .i64 ((tilF b).a.inn), .int .i64 ((tilF b).a.back), .int .i64 ((tilF b).a.duty), .int .i64 ((tilF b).a.paid), .int .i64 ((tilF b).a.kept), .int .i64 ((tilF b).a.over)] 74 (0, 0)⟩, ⟨w4.heap.size, .cells #[.int .i64 9223372036854775807, .int .i64 0] 44 (0, 0)⟩] (by kernel_rfl)
      refine runS hA 3 [] xn on (by kernel_rfl) fun w7 hA => ?_
      have hszw7_1 : w7.heap.size = w6.heap.size := hA.at_.size.trans (by kernel_rfl)
      have hb3 : Below w6.heap.size w6 w7 := below_all hA2 (hA.atK [⟨w.heap.size, .cells #[.int .i64 b.kind, .int .i64 b.runners, .slice A n c, .slice A2 m c2, .bool b.fav, .int .i64 b.car, .int .i64 b.dut, .int .i64 b.stp] 25 (0, 0)⟩, ⟨w.heap.size + 1, .cells #[.int .i64 0, .int .i64 0] 44 (0, 0)⟩, ⟨w2.heap.size, .cells #[.int .i64 ((tilF b).b.kind), .int .i64 ((tilF b).b.runners), .slice A n c, .slice A2 m c2, .bool ((tilF b).b.fav), .int .i64 ((tilF b).b.car), .int .i64 ((tilF b).b.dut), .int .i64 ((tilF b).b.stp), .int .i64 ((tilF b).heir), .int .i64 ((tilF b).a.inn), .int .i64 ((tilF b).a.back), .int .i64 ((tilF b).a.duty), .int .i64 ((tilF b).a.paid), .int .i64 ((tilF b).a.kept), .int .i64 ((tilF b).a.over)] 74 (0, 0)⟩, ⟨w4.heap.size, .cells #[.int .i64 9223372036854775807, .int .i64 0] 44 (0, 0)⟩] (by kernel_rfl)) rfl (by omega)
      have hzw := hbw.size
      have hlu : w5.heap.size < w6.heap.size := (Array.getElem?_eq_some_iff.1 hhb).1
      have hIt := heads1_it w7 w.heap.size B w5.heap.size b A n c A2 m c2 noBlock (h.scr.below (hA.below) hB) (by omega) (by omega) (by omega) V.racing (Nat.le_trans (racL_len b b.runners.toNat) (by omega)) ((hb3.block _ hlu).trans hhb) (by omega)
      replace hA := hA.bare
      refine rangeSV (γ := Int × Int) (α := Nat × List (List Int)) (fun p => [⟨w.heap.size, .cells #[.int .i64 b.kind, .int .i64 b.runners, .slice A n c, .slice A2 m c2, .bool b.fav, .int .i64 b.car, .int .i64 b.dut, .int .i64 b.stp] 25 (0, 0)⟩, ⟨w.heap.size + 1, .cells #[.int .i64 0, .int .i64 0] 44 (0, 0)⟩, ⟨w2.heap.size, .cells #[.int .i64 ((tilF b).b.kind), .int .i64 ((tilF b).b.runners), .slice A n c, .slice A2 m c2, .bool ((tilF b).b.fav), .int .i64 ((tilF b).b.car), .int .i64 ((tilF b).b.dut), .int .i64 ((tilF b).b.stp), .int .i64 ((tilF b).heir), .int .i64 ((tilF b).a.inn), .int .i64 ((tilF b).a.back), .int .i64 ((tilF b).a.duty), .int .i64 ((tilF b).a.paid), .int .i64 ((tilF b).a.kept), .int .i64 ((tilF b).a.over)] 74 (0, 0)⟩, ⟨w4.heap.size, .cells #[.int .i64 p.1, .int .i64 p.2] 44 (0, 0)⟩]) (fun _ => []) (fun pre p => p = (pre.map Prod.snd).foldl (spr1 b) (9223372036854775807, 0)) (fun x z => [(4, .pointer (some ⟨w2.heap.size, 0, none⟩)), (6, .pointer (some ⟨w4.heap.size, 0, none⟩)), (7, .slice (some ⟨x.1, 0, none⟩) x.2.length x.2.length)]) (fun x z => []) [true, true, true, true] (9223372036854775807, 0) 1 hA rfl (by kernel_rfl) (fun _ _ => by kernel_rfl) hIt VH.keep (fun x W => FinAt W W.heap.size (some ⟨x.1, 0, none⟩) x.2.length x.2 ∧ FinOk b x.2) (fun x X W hv => ⟨hv.1.lt, hv.2⟩) (fun _ => rfl) (Nat.le_refl _) (fun k hk => hk.elim) (fun kb hk hc => hc) (fun _ _ h => nomatch h) (fun o kb hk => by simp only [List.mem_cons, List.not_mem_nil, or_false] at hk; rcases hk with rfl | rfl | rfl | rfl <;> dsimp only <;> omega) (fun x z kb h => by first | (rw [List.mem_singleton.1 h]; exact ⟨rfl, Nat.le_refl _⟩) | nomatch h) rfl ?_ ?_ ?_
      · rintro l x p rows W J hJ hA
        refine runS hA 3 [] xn on (by kernel_rfl) fun w8 hA => ?_
        exact rend hJ [true, true, true, true] hA (by kernel_rfl)
      · rintro l pre x p z prot W J hrel hlen hsz hux hJ hA
        have hA9 := hA.atK [⟨w.heap.size, .cells #[.int .i64 b.kind, .int .i64 b.runners, .slice A n c, .slice A2 m c2, .bool b.fav, .int .i64 b.car, .int .i64 b.dut, .int .i64 b.stp] 25 (0, 0)⟩, ⟨w.heap.size + 1, .cells #[.int .i64 0, .int .i64 0] 44 (0, 0)⟩, ⟨w2.heap.size, .cells #[.int .i64 ((tilF b).b.kind), .int .i64 ((tilF b).b.runners), .slice A n c, .slice A2 m c2, .bool ((tilF b).b.fav), .int .i64 ((tilF b).b.car), .int .i64 ((tilF b).b.dut), .int .i64 ((tilF b).b.stp), .int .i64 ((tilF b).heir), .int .i64 ((tilF b).a.inn), .int .i64 ((tilF b).a.back), .int .i64 ((tilF b).a.duty), .int .i64 ((tilF b).a.paid), .int .i64 ((tilF b).a.kept), .int .i64 ((tilF b).a.over)] 74 (0, 0)⟩, ⟨w4.heap.size, .cells #[.int .i64 p.1, .int .i64 p.2] 44 (0, 0)⟩] (by kernel_rfl)
        replace hA := hA.allK [⟨w.heap.size, .cells #[.int .i64 b.kind, .int .i64 b.runners, .slice A n c, .slice A2 m c2, .bool b.fav, .int .i64 b.car, .int .i64 b.dut, .int .i64 b.stp] 25 (0, 0)⟩, ⟨w.heap.size + 1, .cells #[.int .i64 0, .int .i64 0] 44 (0, 0)⟩, ⟨w2.heap.size, .cells #[.int .i64 ((tilF b).b.kind), .int .i64 ((tilF b).b.runners), .slice A n c, .slice A2 m c2, .bool ((tilF b).b.fav), .int .i64 ((tilF b).b.car), .int .i64 ((tilF b).b.dut), .int .i64 ((tilF b).b.stp), .int .i64 ((tilF b).heir), .int .i64 ((tilF b).a.inn), .int .i64 ((tilF b).a.back), .int .i64 ((tilF b).a.duty), .int .i64 ((tilF b).a.paid), .int .i64 ((tilF b).a.kept), .int .i64 ((tilF b).a.over)] 74 (0, 0)⟩, ⟨w4.heap.size, .cells #[.int .i64 p.1, .int .i64 p.2] 44 (0, 0)⟩] (by kernel_rfl)
        have hAb := hA.atK [⟨w.heap.size, .cells #[.int .i64 b.kind, .int .i64 b.runners, .slice A n c, .slice A2 m c2, .bool b.fav, .int .i64 b.car, .int .i64 b.dut, .int .i64 b.stp] 25 (0, 0)⟩, ⟨w.heap.size + 1, .cells #[.int .i64 0, .int .i64 0] 44 (0, 0)⟩, ⟨w2.heap.size, .cells #[.int .i64 ((tilF b).b.kind), .int .i64 ((tilF b).b.runners), .slice A n c, .slice A2 m c2, .bool ((tilF b).b.fav), .int .i64 ((tilF b).b.car), .int .i64 ((tilF b).b.dut), .int .i64 ((tilF b).b.stp), .int .i64 ((tilF b).heir), .int .i64 ((tilF b).a.inn), .int .i64 ((tilF b).a.back), .int .i64 ((tilF b).a.duty), .int .i64 ((tilF b).a.paid), .int .i64 ((tilF b).a.kept), .int .i64 ((tilF b).a.over)] 74 (0, 0)⟩, ⟨w4.heap.size, .cells #[.int .i64 p.1, .int .i64 p.2] 44 (0, 0)⟩] (by kernel_rfl)
        refine runS hA 5 (List.replicate 15 (.k 2)) xn on (by kernel_rfl) fun w9 hA => ?_
        have hszw9_2 : w9.heap.size = W.heap.size := hA.at_.size.trans (by kernel_rfl)
        have hbb : Below W.heap.size W w9 := below_all hAb (hA.atK [⟨w.heap.size, .cells #[.int .i64 b.kind, .int .i64 b.runners, .slice A n c, .slice A2 m c2, .bool b.fav, .int .i64 b.car, .int .i64 b.dut, .int .i64 b.stp] 25 (0, 0)⟩, ⟨w.heap.size + 1, .cells #[.int .i64 0, .int .i64 0] 44 (0, 0)⟩, ⟨w2.heap.size, .cells #[.int .i64 ((tilF b).b.kind), .int .i64 ((tilF b).b.runners), .slice A n c, .slice A2 m c2, .bool ((tilF b).b.fav), .int .i64 ((tilF b).b.car), .int .i64 ((tilF b).b.dut), .int .i64 ((tilF b).b.stp), .int .i64 ((tilF b).heir), .int .i64 ((tilF b).a.inn), .int .i64 ((tilF b).a.back), .int .i64 ((tilF b).a.duty), .int .i64 ((tilF b).a.paid), .int .i64 ((tilF b).a.kept), .int .i64 ((tilF b).a.over)] 74 (0, 0)⟩, ⟨w4.heap.size, .cells #[.int .i64 p.1, .int .i64 p.2] 44 (0, 0)⟩] (by kernel_rfl)) rfl (by omega)
        obtain ⟨hfa, fo⟩ := hux
        have hpo := payF_ok (t := tilF b) (fs := x.2) (units_ok V) V.len fo.ws
        have hac := acc_ok V
        have hsw : B ≤ W.heap.size := by omega
        refine call hA [] on (payout_any w9 W.heap.size (tilF b) A n c A2 m c2 (some ⟨x.1, 0, none⟩) x.2.length x.2.length x.2 ((h.below hA.below hB).more hsw) (hfa.below hbb (Nat.le_refl _)) hbb.size fo.pos fo.one (by have := fo.l0; omega) (by have := fo.l1; omega) (units_ok V) (by omega)) (by kernel_rfl) (by rintro e v ⟨mb, ob, rfl, hbp, hmb, hmo, hml⟩; exact hbp) ?_
        rintro e w10 ⟨mb, ob, rfl, hbp, hmb, hmo, hml⟩
        refine ⟨_, rfl, fun hA => ?_⟩
        have hlt := (Array.getElem?_eq_some_iff.1 hmb).1
        refine callB hA [] on (account_any w10 (tilF b) A n c A2 m c2 mb ob _ hmb hmo hlt hpo.1 hac.1 V.stp hpo.2 (by rw [hac.2]; omega)) (by kernel_rfl) fun w11 hb11 hA => ?_
        refine runS hA 17 (List.replicate 4 (.k 3)) xn on (by kernel_rfl) fun w12 hA => ?_
        replace hA := AtS.prot hA9 hA
        exact rend (fr1 := []) (fun a' W' h1 h2 h3 h4 => hJ (spr1 b p x.2) a' W' (by rw [List.map_append, List.foldl_append, ← hrel]; rfl) h1 h2 h3 h4) [true, true, true, true] hA (by kernel_rfl)
      · rintro D xs p W hS hrel hD hA
        obtain hS : xs.map Prod.snd = headsL (groupsF b) := hS
        refine runS hA 10 [.k 3, .k 3, .k 1, .k 1] xn on (by kernel_rfl) fun w8 hA => ?_
        have he : sprF b = p := by unfold sprF; rw [if_pos h0, if_neg (by rw [hn0]; decide), hrel, hS]
        refine retM (kn' := [⟨w.heap.size, .cells #[.int .i64 b.kind, .int .i64 b.runners, .slice A n c, .slice A2 m c2, .bool b.fav, .int .i64 b.car, .int .i64 b.dut, .int .i64 b.stp] 25 (0, 0)⟩, ⟨w.heap.size + 1, .cells #[.int .i64 p.1, .int .i64 p.2] 44 (0, 0)⟩, ⟨w2.heap.size, .cells #[.int .i64 ((tilF b).b.kind), .int .i64 ((tilF b).b.runners), .slice A n c, .slice A2 m c2, .bool ((tilF b).b.fav), .int .i64 ((tilF b).b.car), .int .i64 ((tilF b).b.dut), .int .i64 ((tilF b).b.stp), .int .i64 ((tilF b).heir), .int .i64 ((tilF b).a.inn), .int .i64 ((tilF b).a.back), .int .i64 ((tilF b).a.duty), .int .i64 ((tilF b).a.paid), .int .i64 ((tilF b).a.kept), .int .i64 ((tilF b).a.over)] 74 (0, 0)⟩, ⟨w4.heap.size, .cells #[.int .i64 p.1, .int .i64 p.2] 44 (0, 0)⟩]) (v := .tuple #[.agg #[.int .i64 p.1, .int .i64 p.2], .int .i64 0]) [4] hA [.k 1, .k 1] (by kernel_rfl) (fun w' hA' => ?_)
        exact ⟨by rw [he, h0], hA'.below⟩
end Go.Proofs.YtbahiemjaomdcaaGreat
